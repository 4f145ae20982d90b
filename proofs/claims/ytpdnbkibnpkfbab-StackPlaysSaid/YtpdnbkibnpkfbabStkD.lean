/- The stack of layer 19: New, the nil stack, the example. -/
import Derived.Test.YtpdnbkibnpkfbabStkC
namespace Go.Proofs.Ytpdnbkibnpkfbab
open Go.ChangeShapes Go.WideShapes Go.ChangeAt Go.RowKit

def NewPost (room : Nat) (w : World) (e : Ending) (w' : World) : Prop :=
  ∃ b g, e = .returned (.tuple #[.pointer (some ⟨b, 0, none⟩), .int .i64 0]) ∧ Stk 58 w' b (some g) [] room 0 false ∧ w.heap.size ≤ b ∧ w.heap.size ≤ g ∧ Fr (fun _ => False) w w'

theorem new_ok (room : Nat) (h1 : 1 ≤ room) (h2 : room ≤ 4096) (w : World) : Calls Try.prog 9 #[.int .i64 room] w (NewPost room w) := by
  obtain ⟨i0, hi, hz0, hz1, hz2⟩ := info_parts infInt
  have HI := Lib.hid hi
  have HZ0 := Lib.hid hz0
  have HZ1 := Lib.hid hz1
  have HZ2 := Lib.hid hz2
  clear hi hz0 hz1 hz2
  go_enter Try.func9, Try.ntmps9
  go_wp2_with (at_make; refine wpList_make_own _ rfl _ _ 30 rfl 0 3 i0 (.int .i64 0) 1 Try.underlying30 HI.out HZ0.out HZ1.out _ _ _ room rfl rfl rfl ?b2 ?b3 (Nat.zero_le _) ?_)
  case b2 => rw [HZ2.out]; omega
  case b3 => unfold maxLen; omega
  intro w0 hown0 hgrow0
  have hlt := hown0.lt w.heap.size rfl
  have FIN : Hid (NewPost room w (.returned (.tuple #[.pointer (some ⟨w0.heap.size, 0, none⟩), .int .i64 0])) (w0.alloc (.cells #[.slice (some ⟨w.heap.size, 0, none⟩) 0 room, .int .i64 room, .int .i64 0, .bool false] 58))) :=
    ⟨_, w.heap.size, rfl, ⟨_, heap_alloc_new _ _, by simpa using hown0.alloc _, rfl, fun e => by have := Option.some.inj e; omega⟩, hgrow0.size, Nat.le_refl _, ((Fr.refl _ w).grown hgrow0 (fun k hk => by cases hk)).alloc _⟩
  clear hown0 hgrow0
  go_wp2
  go_ret2
  exact FIN.out

theorem new_bad (room : Int) (h : room < 1 ∨ 4096 < room) (w : World) : Calls Try.prog 9 #[.int .i64 room] w fun e w' => e = .returned (.tuple #[.pointer none, .int .i64 5]) ∧ w = w' := by
  rcases h with h | h
  · go_enter Try.func9, Try.ntmps9
    go_wp2
    go_ret2
    exact ⟨rfl, rfl⟩
  · have h' : ¬ room < 1 := by omega
    go_enter Try.func9, Try.ntmps9
    go_wp2
    go_ret2
    exact ⟨rfl, rfl⟩

theorem slives (w : World) : Calls Try.prog 11 #[] w fun e w' => e = .returned (.bool true) ∧ Below w.heap.size w w' := by
  go_enter Try.func11, Try.ntmps11
  go_wp2_with fail
  refine (new_ok 1 (by omega) (by omega) _).mono ?_
  rintro e w1 ⟨b, g, rfl, hs, hb, hg, hf⟩
  go_wp2_with fail
  refine (push_room hs (by simp) (by simp) (by simp) _).mono ?_
  rintro e w2 ⟨rfl, g2, hs2, hw2, hf2⟩
  clear hs
  simp at hs2
  go_wp2_with fail
  refine (push_full hs2 (by simp) _).mono ?_
  rintro e w3 ⟨rfl, hs3, hf3⟩
  clear hs2
  go_wp2_with fail
  refine (lost_any hs3).mono ?_
  rintro e w4 ⟨rfl, rfl⟩
  go_wp2_with fail
  refine (pop_some (ys := []) hs3 (by simp)).mono ?_
  rintro e w5 ⟨rfl, g5, hs5, hw5, hf5⟩
  clear hs3
  go_wp2_with fail
  refine (len_any hs5).mono ?_
  rintro e w6 ⟨rfl, rfl⟩
  clear hs5
  have F : Fr (fun _ => False) w w5 := by
    have f2 : Fr (fun _ => False) w w2 := hf.trans hf2 (fun q hq h => by rcases h with rfl | h; omega; cases h; omega)
    have f3 := f2.trans hf3 (fun q hq h => by subst h; omega)
    exact f3.trans hf5 (fun q hq h => by subst h; omega)
  have hB := F.below (Nat.le_refl _) (fun _ _ h => h)
  clear hf hf2 hf3 hf5 hw2 hw5 F
  go_wp2
  go_ret
  exact ⟨rfl, hB⟩

theorem nil_push (a : Int) (w : World) : Calls Try.prog 15 #[.pointer none, .int .i64 a] w fun e w' => e = .returned (.bool false) ∧ w = w' := by
  go_enter Try.func15, Try.ntmps15
  go_wp2
  go_ret
  exact ⟨rfl, rfl⟩

theorem nil_len (w : World) : Calls Try.prog 17 #[.pointer none] w fun e w' => e = .returned (.int .i64 0) ∧ w = w' := by
  go_enter Try.func17, Try.ntmps17
  go_wp2
  go_ret
  exact ⟨rfl, rfl⟩

theorem nil_pop (w : World) : Calls Try.prog 12 #[.pointer none] w fun e w' => e = .returned (.tuple #[.int .i64 0, .bool false]) ∧ w = w' := by
  go_enter Try.func12, Try.ntmps12
  go_wp2_with (go_at_call 17; refine (nil_len _).mono ?_; rintro e w1 ⟨rfl, rfl⟩)
  go_ret2
  exact ⟨rfl, rfl⟩

theorem nobody_any (a : Int) (w : World) : Calls Try.prog 5 #[.int .i64 a] w fun e w' => e = .returned (.bool true) ∧ Below w.heap.size w w' := by
  go_enter Try.func5, Try.ntmps5
  go_wp2_with (first | (go_at_call 12; refine (nil_pop _).mono ?_; rintro e w1 ⟨rfl, rfl⟩) | (go_at_call 15; refine (nil_push _ _).mono ?_; rintro e w1 ⟨rfl, rfl⟩) | (go_at_call 17; refine (nil_len _).mono ?_; rintro e w1 ⟨rfl, rfl⟩) | (go_at_call 14; go_in) | (go_at_call 18; go_in) | (go_at_call 19; go_in) | (go_at_call 11; refine (slives _).mono ?_; rintro e w1 ⟨rfl, hb⟩))
  go_outline
  go_ret
  exact ⟨rfl, hb⟩

end Go.Proofs.Ytpdnbkibnpkfbab
