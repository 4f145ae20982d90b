/- A page map of nine pages: New, Put, Drop, Move, the example. -/
import Derived.Test.YtpdnbkibnpkfbacPgB
namespace Go.Proofs.Ytpdnbkibnpkfbac
open Go.ChangeShapes Go.WideShapes Go.ChangeAt Go.RowKit

theorem infTab : (Try.prog.info? 76).map (fun i => (i.zero, i.size, i.bytes)) = some (some (.pointer none), 1, 8) := by kernel_rfl

def SP (w : World) (c b : Nat) (p : Nat) (f : Int) (w' : World) : Prop :=
  ∃ T, PM w' c b 1 (some ⟨T, 0, none⟩) ∧ w'.rowIs T 79 513 (tf (fun i => if i = p then f + 1 else 0) 1) ∧ T ≠ b ∧ T ≠ c ∧ w.heap.size ≤ T ∧ Fr (fun k => k = b ∨ k = c) w w'

theorem q_put {w : World} {c b : Nat} (h : PM w c b 0 none) (p f : Nat) (hp : p < 9) (hf : f < 100) : Calls Try.prog 22 #[.pointer (some ⟨c, 0, none⟩), .int .i64 p, .int .i64 f] w fun e w' => e = .returned (.int .i64 0) ∧ SP w c b p f w' := by
  have CH := Lib.hid (q_check h p hp)
  have MP := Lib.hid (q_mapped_nil h p hp)
  have ST := Lib.hid (q_set h p f hp hf)
  go_enter Try.func22, Try.ntmps22
  go_wp2_with (first | (go_at_call 38; refine (CH.out).mono ?_; rintro e1 w1 ⟨rfl, rfl⟩) | (go_at_call 39; refine (MP.out).mono ?_; rintro e1 w1 ⟨rfl, rfl⟩) | (go_at_call 40; refine (ST.out).mono ?_; rintro e1 w1 ⟨rfl, sp⟩))
  go_ret
  exact ⟨rfl, sp⟩

def DropPost (w : World) (c b T : Nat) (f : Int) (e : Ending) (w' : World) : Prop :=
  e = .returned (.tuple #[.int .i64 f, .int .i64 0]) ∧ PM w' c b 0 none ∧ Fr (fun k => k = b ∨ k = c ∨ k = T) w w'

theorem drop_post {w : World} {c b T p : Nat} {f : Int} (h : PM w c b 1 (some ⟨T, 0, none⟩)) (hb : T ≠ b) (hc : T ≠ c) :
    DropPost w c b T f (.returned (.tuple #[.int .i64 f, .int .i64 0])) ((((w.setCell ⟨T, p, none⟩ (.int .u32 0)).setCell ⟨T, 512, none⟩ (.int .i64 0)).setCell ⟨c, 2, none⟩ (.int .i64 0)).setCell ⟨b, 0, none⟩ (.pointer none)) := by
  have hbc := h.2.2
  have f0 := (((Fr.refl (fun k => k = b ∨ k = c ∨ k = T) w).setCell (p := ⟨T, p, none⟩) (fun _ => .inr (.inr rfl)) (.int .u32 0)).setCell (p := ⟨T, 512, none⟩) (fun _ => .inr (.inr rfl)) (.int .i64 0))
  refine ⟨rfl, ⟨?_, ?_, hbc⟩, ((f0.setCell (p := ⟨c, 2, none⟩) (fun _ => .inr (.inl rfl)) _).setCell (p := ⟨b, 0, none⟩) (fun _ => .inl rfl) _)⟩
  · have e1 : ((w.setCell ⟨T, p, none⟩ (.int .u32 0)).setCell ⟨T, 512, none⟩ (.int .i64 0)).heap[c]? = _ := ((Below.heap_setCell _ _ _ _ (by simpa using fun e => hc e.symm)).trans (Below.heap_setCell _ _ _ _ (by simpa using fun e => hc e.symm))).trans h.1
    have e2 := pblk_set (i := 2) e1 (.int .i64 0)
    exact (Below.heap_setCell _ _ _ _ (by simpa using fun e => hbc e.symm)).trans e2
  · have e1 : (((w.setCell ⟨T, p, none⟩ (.int .u32 0)).setCell ⟨T, 512, none⟩ (.int .i64 0)).setCell ⟨c, 2, none⟩ (.int .i64 0)).rowIs b 76 1 (fun _ => .pointer (some ⟨T, 0, none⟩)) :=
      ((h.2.1.of_block (Below.heap_setCell _ _ _ _ (by simpa using fun e => hb e.symm))).of_block (Below.heap_setCell _ _ _ _ (by simpa using fun e => hb e.symm))).of_block (Below.heap_setCell _ _ _ _ (by simpa using hbc))
    exact (e1.set 0 (.pointer none)).congr (fun i hi => by rw [if_pos (by omega)])

theorem q_drop {w : World} {c b T : Nat} (p f : Nat) (hp : p < 9) (hf : f < 99) (h : PM w c b 1 (some ⟨T, 0, none⟩)) (ht : w.rowIs T 79 513 (tf (fun i => if i = p then (f : Int) + 1 else 0) 1)) (hb : T ≠ b) (hc : T ≠ c) : Calls Try.prog 24 #[.pointer (some ⟨c, 0, none⟩), .int .i64 p] w (DropPost w c b T f) := by
  have FR := q_frame h ht p hp (by first | (simp; done) | (simp; omega)) (by first | (simp; done) | (simp; omega))
  rw [show (if p = p then (f : Int) + 1 else 0) - 1 = f by simp] at FR
  have FRH := Lib.hid FR
  have FIN := Lib.hid (drop_post (p := p) (f := f) h hb hc)
  obtain ⟨c0, c1, c2, f0, f1, f2⟩ := pcells h.1
  have b0 := h.2.1.cell (i := 0) (by omega)
  have g0 := h.2.1.frozen 0
  have e1 : (p : Int) / 512 = 0 := by omega
  have e2 : (p : Int) % 512 = p := by omega
  have t0 := ht.cell (i := p) (by omega)
  rw [show tf (fun i => if i = p then (f : Int) + 1 else 0) 1 p = .int .u32 (f + 1) by unfold tf; rw [if_pos (by omega)]; simp] at t0
  have t1 := ht.cell (i := 512) (by omega)
  rw [show tf (fun i => if i = p then (f : Int) + 1 else 0) 1 512 = .int .i64 1 by unfold tf; rw [if_neg (by omega)]] at t1
  have tz0 := ht.frozen p
  have tz1 := ht.frozen 512
  have hbc := h.2.2
  have u0 : ¬ c = b := fun e => hbc e.symm
  have u3 : ¬ b = T := fun e => hb e.symm
  have u4 : ¬ c = T := fun e => hc e.symm
  have u5 : ¬ p = 512 := by omega
  have u6 : ¬ 512 = p := by omega
  clear FR h ht
  go_enter Try.func24, Try.ntmps24
  go_wp2_with (go_at_call 28; refine (FRH.out).mono ?_; rintro e1 w1 ⟨rfl, rfl⟩)
  go_ret2
  exact FIN.out


theorem q_move {w : World} {c b T : Nat} (p q f : Nat) (hp : p < 9) (hq : q < 9) (hpq : q ≠ p) (hf : f < 99) (h : PM w c b 1 (some ⟨T, 0, none⟩)) (ht : w.rowIs T 79 513 (tf (fun i => if i = p then (f : Int) + 1 else 0) 1)) (hb : T ≠ b) (hc : T ≠ c) :
    Calls Try.prog 26 #[.pointer (some ⟨c, 0, none⟩), .int .i64 p, .int .i64 q] w fun e w' => e = .returned (.int .i64 0) ∧ ∃ w1, SP w1 c b q f w' ∧ Fr (fun k => k = b ∨ k = c ∨ k = T) w w1 := by
  have C1 := Lib.hid (q_check h p hp)
  have C2 := Lib.hid (q_check h q hq)
  have M1 := q_mapped h ht p hp
  have M2 := q_mapped h ht q hq
  simp only [if_true, if_neg hpq] at M1 M2
  rw [show ((f : Int) + 1 != 0) = true by simp; omega] at M1
  rw [show ((0 : Int) != 0) = false by rfl] at M2
  have M1H := Lib.hid M1
  have M2H := Lib.hid M2
  have DR := Lib.hid (q_drop p f hp hf h ht hb hc)
  have ST : Hid (∀ w', PM w' c b 0 none → _) := fun w' h' => q_set h' q f hq (by omega)
  clear M1 M2 h ht
  go_enter Try.func26, Try.ntmps26
  go_wp2_with (first | (go_at_call 38; (first | with_reducible refine (C1.out).mono ?_ | with_reducible refine (C2.out).mono ?_); rintro e1 w1 ⟨rfl, rfl⟩) | (go_at_call 39; (first | with_reducible refine (M1H.out).mono ?_ | with_reducible refine (M2H.out).mono ?_); rintro e1 w1 ⟨rfl, rfl⟩) | (go_at_call 24; refine (DR.out).mono ?_; rintro e1 w1 ⟨rfl, pm, fd⟩) | (go_at_call 40; refine (ST.out _ pm).mono ?_; rintro e1 w2 ⟨rfl, sp⟩))
  go_ret
  exact ⟨rfl, _, sp, fd⟩

theorem q_new (w : World) : Calls Try.prog 19 #[.int .i64 9] w fun e w' => ∃ c b, e = .returned (.tuple #[.pointer (some ⟨c, 0, none⟩), .int .i64 0]) ∧ PM w' c b 0 none ∧ w.heap.size ≤ b ∧ w.heap.size ≤ c ∧ Fr (fun _ => False) w w' := by
  obtain ⟨i0, hi, hz0, hz1, hz2⟩ := info_parts infTab
  have HI := Lib.hid hi
  have HZ0 := Lib.hid hz0
  have HZ1 := Lib.hid hz1
  have HZ2 := Lib.hid hz2
  clear hi hz0 hz1 hz2
  have FIN : Hid (PM ((w.alloc (.cells (madeCells #[.pointer none] 1) 76)).alloc (.cells #[.slice (some ⟨w.heap.size, 0, none⟩) 1 1, .int .i64 9, .int .i64 0] 70)) (w.heap.size + 1) w.heap.size 0 none ∧ Fr (fun _ => False) w ((w.alloc (.cells (madeCells #[.pointer none] 1) 76)).alloc (.cells #[.slice (some ⟨w.heap.size, 0, none⟩) 1 1, .int .i64 9, .int .i64 0] 70))) := by
    refine ⟨⟨?_, ?_, by omega⟩, ((Fr.refl _ w).alloc _).alloc _⟩
    · have := heap_alloc_new (w.alloc (.cells (madeCells #[.pointer none] 1) 76)) (.cells #[.slice (some ⟨w.heap.size, 0, none⟩) 1 1, .int .i64 9, .int .i64 0] 70)
      simpa using this
    · exact (World.rowIs_made w (.pointer none) 1 _).of_block (Below.heap_alloc _ _ _ (by simp))
  go_enter Try.func19, Try.ntmps19
  go_wp2_with (at_make; refine wpList_make_row _ rfl _ _ 68 rfl 76 i0 (.pointer none) Try.underlying68 HI.out HZ0.out HZ1.out rfl _ _ 1 rfl rfl ?b2 ?b3 ?_)
  case b2 => rw [HZ2.out]; omega
  case b3 => omega
  go_wp2
  go_ret2
  exact ⟨_, _, rfl, FIN.out.1, Nat.le_refl _, by omega, FIN.out.2⟩

end Go.Proofs.Ytpdnbkibnpkfbac
