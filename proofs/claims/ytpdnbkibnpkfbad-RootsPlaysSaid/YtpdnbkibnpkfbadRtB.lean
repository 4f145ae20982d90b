/- The table of root slots: New, Get, Set, Copy. -/
import Derived.Test.YtpdnbkibnpkfbadRt
namespace Go.Proofs.Ytpdnbkibnpkfbad
open Go.ChangeShapes Go.WideShapes Go.ChangeAt Go.RowKit

theorem Rt.drewN {w : World} {c b n : Nat} {xs : Nat → Int} (h : Rt w c b n xs) (m : Nat) : Rt (w.drewN m) c b n xs := h

theorem get_in {w : World} {c b n : Nat} {xs : Nat → Int} (h : Rt w c b n xs) (i : Nat) (hi : i < n) : Calls Try.prog 33 #[.pointer (some ⟨c, 0, none⟩), .int .i64 i] w fun e w' => e = .returned (.tuple #[.int .i64 (xs i), .int .i64 0]) ∧ ∃ m, w' = w.drewN m := by
  have ch := fun m => check_any (h.drewN m) (i : Int)
  rw [if_pos (by omega)] at ch
  have CH := Lib.hid ch
  obtain ⟨c0, f0⟩ := cells1 h.1
  have d0 := h.2.1.cell hi
  clear ch
  go_enter Try.func33, Try.ntmps33
  go_wp2_with (go_at_call 44; refine (CH.out 0).mono ?_; rintro e1 w1 ⟨rfl, m1, rfl⟩)
  trace_state
  go_ret2
  exact ⟨rfl, _, rfl⟩

theorem get_out {w : World} {c b n : Nat} {xs : Nat → Int} (h : Rt w c b n xs) (i : Int) (hi : ¬ (0 ≤ i ∧ i < n)) : Calls Try.prog 33 #[.pointer (some ⟨c, 0, none⟩), .int .i64 i] w fun e w' => e = .returned (.tuple #[.int .i64 0, .int .i64 17]) ∧ ∃ m, w' = w.drewN m := by
  have ch := fun m => check_any (h.drewN m) i
  rw [if_neg hi] at ch
  have CH := Lib.hid ch
  clear ch
  go_enter Try.func33, Try.ntmps33
  go_wp2_with (go_at_call 44; refine (CH.out 0).mono ?_; rintro e1 w1 ⟨rfl, m1, rfl⟩)
  go_ret2
  exact ⟨rfl, _, rfl⟩

def put (xs : Nat → Int) (i : Nat) (a : Int) : Nat → Int := fun j => if j = i then a else xs j

theorem Rt.set {w : World} {c b n : Nat} {xs : Nat → Int} (h : Rt w c b n xs) (i : Nat) (a : Int) : Rt (w.setCell ⟨b, i, none⟩ (.int .i64 a)) c b n (put xs i a) := by
  refine ⟨(Below.heap_setCell _ _ _ _ (by simpa using fun e => h.2.2 e.symm)).trans h.1, (h.2.1.set i _).congr ?_, h.2.2⟩
  intro j _
  unfold put
  split <;> rfl

/-- what a Set leaves -/
def SetPost (w : World) (c b n : Nat) (xs : Nat → Int) (r : Int) (e : Ending) (w' : World) : Prop :=
  e = .returned (.int .i64 r) ∧ Rt w' c b n xs ∧ Fr (fun k => k = b) w w'

theorem set_in {w : World} {c b n : Nat} {xs : Nat → Int} (h : Rt w c b n xs) (i : Nat) (hi : i < n) (a : Int) (ha : 0 ≤ a) : Calls Try.prog 26 #[.pointer (some ⟨c, 0, none⟩), .int .i64 i, .int .i64 a] w (SetPost w c b n (put xs i a) 0) := by
  have ch := fun m => check_any (h.drewN m) (i : Int)
  rw [if_pos (by omega)] at ch
  have CH := Lib.hid ch
  obtain ⟨c0, f0⟩ := cells1 h.1
  have d0 := h.2.1.cell hi
  have g0 := h.2.1.frozen i
  have FIN : Hid (∀ m, SetPost w c b n (put xs i a) 0 (.returned (.int .i64 0)) ((w.drewN m).setCell ⟨b, i, none⟩ (.int .i64 a))) := fun m => ⟨rfl, (h.drewN m).set i a, ((Fr.refl (fun k => k = b) w).drewN m).setCell (fun _ => rfl) _⟩
  clear ch h
  go_enter Try.func26, Try.ntmps26
  go_wp2_with (go_at_call 44; refine (CH.out 0).mono ?_; rintro e1 w1 ⟨rfl, m1, rfl⟩)
  trace_state
  go_ret
  exact FIN.out _

theorem set_bad {w : World} {c b n : Nat} {xs : Nat → Int} (h : Rt w c b n xs) (i : Int) (hi : ¬ (0 ≤ i ∧ i < n)) (a : Int) : Calls Try.prog 26 #[.pointer (some ⟨c, 0, none⟩), .int .i64 i, .int .i64 a] w (SetPost w c b n xs 17) := by
  have ch := fun m => check_any (h.drewN m) i
  rw [if_neg hi] at ch
  have CH := Lib.hid ch
  clear ch
  go_enter Try.func26, Try.ntmps26
  go_wp2_with (go_at_call 44; refine (CH.out 0).mono ?_; rintro e1 w1 ⟨rfl, m1, rfl⟩)
  go_ret
  exact ⟨rfl, h.drewN _, (Fr.refl _ w).drewN _⟩

theorem set_neg {w : World} {c b n : Nat} {xs : Nat → Int} (h : Rt w c b n xs) (i : Nat) (hi : i < n) (a : Int) (ha : ¬ 0 ≤ a) : Calls Try.prog 26 #[.pointer (some ⟨c, 0, none⟩), .int .i64 i, .int .i64 a] w (SetPost w c b n xs 5) := by
  have ch := fun m => check_any (h.drewN m) (i : Int)
  rw [if_pos (by omega)] at ch
  have CH := Lib.hid ch
  clear ch
  go_enter Try.func26, Try.ntmps26
  go_wp2_with (go_at_call 44; refine (CH.out 0).mono ?_; rintro e1 w1 ⟨rfl, m1, rfl⟩)
  go_ret
  exact ⟨rfl, h.drewN _, (Fr.refl _ w).drewN _⟩

theorem copy_in {w : World} {c b n : Nat} {xs : Nat → Int} (h : Rt w c b n xs) (i j : Nat) (hi : i < n) (hj : j < n) (ha : 0 ≤ xs j) : Calls Try.prog 28 #[.pointer (some ⟨c, 0, none⟩), .int .i64 i, .int .i64 j] w (SetPost w c b n (put xs i (xs j)) 0) := by
  have ge := get_in h j hj
  have se := fun m => set_in (h.drewN m) i hi (xs j) ha
  have GE := Lib.hid ge
  have SE := Lib.hid se
  clear ge se
  go_enter Try.func28, Try.ntmps28
  go_wp2_with (first | (go_at_call 33; refine (GE.out).mono ?_; rintro e1 w1 ⟨rfl, m1, rfl⟩) | (go_at_call 26; refine (SE.out _).mono ?_; rintro e1 w1 ⟨rfl, r1, fr1⟩))
  go_ret
  exact ⟨rfl, r1, ((Fr.refl _ w).drewN _).trans fr1 (fun _ _ h => h)⟩

theorem copy_from {w : World} {c b n : Nat} {xs : Nat → Int} (h : Rt w c b n xs) (i j : Int) (hj : ¬ (0 ≤ j ∧ j < n)) : Calls Try.prog 28 #[.pointer (some ⟨c, 0, none⟩), .int .i64 i, .int .i64 j] w (SetPost w c b n xs 17) := by
  have ge := get_out h j hj
  have GE := Lib.hid ge
  clear ge
  go_enter Try.func28, Try.ntmps28
  go_wp2_with (go_at_call 33; refine (GE.out).mono ?_; rintro e1 w1 ⟨rfl, m1, rfl⟩)
  go_ret
  exact ⟨rfl, h.drewN _, (Fr.refl _ w).drewN _⟩

theorem copy_to {w : World} {c b n : Nat} {xs : Nat → Int} (h : Rt w c b n xs) (i : Int) (j : Nat) (hj : j < n) (hi : ¬ (0 ≤ i ∧ i < n)) : Calls Try.prog 28 #[.pointer (some ⟨c, 0, none⟩), .int .i64 i, .int .i64 j] w (SetPost w c b n xs 17) := by
  have ge := get_in h j hj
  have se := fun m => set_bad (h.drewN m) i hi (xs j)
  have GE := Lib.hid ge
  have SE := Lib.hid se
  clear ge se
  go_enter Try.func28, Try.ntmps28
  go_wp2_with (first | (go_at_call 33; refine (GE.out).mono ?_; rintro e1 w1 ⟨rfl, m1, rfl⟩) | (go_at_call 26; refine (SE.out _).mono ?_; rintro e1 w1 ⟨rfl, r1, fr1⟩))
  go_ret
  exact ⟨rfl, r1, ((Fr.refl _ w).drewN _).trans fr1 (fun _ _ h => h)⟩

def NewPost (n : Nat) (w : World) (e : Ending) (w' : World) : Prop :=
  ∃ c b, e = .returned (.tuple #[.pointer (some ⟨c, 0, none⟩), .int .i64 0]) ∧ Rt w' c b n (fun _ => 0) ∧ w.heap.size ≤ b ∧ w.heap.size ≤ c ∧ Fr (fun _ => False) w w'

theorem made_row (w : World) (n : Nat) : (w.alloc (.cells (madeCells #[.int .i64 0] n) 3)).rowIs w.heap.size 3 n (fun _ => .int .i64 0) := World.rowIs_made w _ n _

theorem new_ok (n : Nat) (h1 : 1 ≤ n) (h2 : n ≤ 64) (w : World) : Calls Try.prog 24 #[.int .i64 n] w (NewPost n w) := by
  obtain ⟨i0, hi, hz0, hz1, hz2⟩ := info_parts infInt
  have HI := Lib.hid hi
  have HZ0 := Lib.hid hz0
  have HZ1 := Lib.hid hz1
  have HZ2 := Lib.hid hz2
  clear hi hz0 hz1 hz2
  go_enter Try.func24, Try.ntmps24
  go_wp2_with (at_make; refine wpList_make_row _ rfl _ _ 48 rfl 3 i0 (.int .i64 0) Try.underlying48 HI.out HZ0.out HZ1.out rfl _ _ n rfl rfl ?b2 ?b3 ?_)
  case b2 => rw [HZ2.out]; omega
  case b3 => omega
  have FIN : Hid (NewPost n w (.returned (.tuple #[.pointer (some ⟨w.heap.size + 1, 0, none⟩), .int .i64 0])) ((w.alloc (.cells (madeCells #[.int .i64 0] n) 3)).alloc (.cells #[.slice (some ⟨w.heap.size, 0, none⟩) n n] 81))) := by
    refine ⟨_, _, rfl, ⟨?_, ?_, ?_⟩, Nat.le_refl _, by omega, ((Fr.refl _ w).alloc _).alloc _⟩
    · have := heap_alloc_new (w.alloc (.cells (madeCells #[.int .i64 0] n) 3)) (.cells #[.slice (some ⟨w.heap.size, 0, none⟩) n n] 81)
      simpa using this
    · exact (made_row w n).of_block (Below.heap_alloc _ _ _ (by simp))
    · omega
  go_wp2
  go_ret2
  exact FIN.out

end Go.Proofs.Ytpdnbkibnpkfbad
