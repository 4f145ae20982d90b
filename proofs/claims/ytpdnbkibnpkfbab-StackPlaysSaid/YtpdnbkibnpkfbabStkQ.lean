/- The law StackPlays: the walk. -/
import Derived.Test.YtpdnbkibnpkfbabStkP
namespace Go.Proofs.Ytpdnbkibnpkfbab
open Go.ChangeShapes Go.WideShapes Go.ChangeAt Go.RowKit

theorem snoc_or (xs : List Int) : xs = [] ∨ ∃ ys z, xs = ys ++ [z] := by
  rcases List.eq_nil_or_concat xs with h | ⟨ys, z, h⟩
  · exact .inl h
  · exact .inr ⟨ys, z, by rw [h, List.concat_eq_append]⟩

theorem may19 (room : Int) (w : World) : Calls Try.prog 10 #[.int .i64 room] w fun e w' => e = .returned (.bool (decide (1 ≤ room ∧ room ≤ 4096))) ∧ w = w' := by
  by_cases h1 : room < 1
  · have hd : decide (1 ≤ room ∧ room ≤ 4096) = false := by simp; omega
    rw [hd]
    clear hd
    go_enter Try.func10, Try.ntmps10
    go_wp2
    go_ret
    exact ⟨by first | rfl | (simp; omega), rfl⟩
  by_cases h2 : 4096 < room
  · have hd : decide (1 ≤ room ∧ room ≤ 4096) = false := by simp; omega
    rw [hd]
    clear hd
    go_enter Try.func10, Try.ntmps10
    go_wp2
    go_ret
    exact ⟨by first | rfl | (simp; omega), rfl⟩
  · have hd : decide (1 ≤ room ∧ room ≤ 4096) = true := by simp; omega
    rw [hd]
    clear hd
    go_enter Try.func10, Try.ntmps10
    go_wp2
    go_ret
    exact ⟨by first | rfl | (simp; omega), rfl⟩

theorem plays_bad (room : Int) (h : room < 1 ∨ 4096 < room) (a : Option Addr) (len cap : Nat) (W : World) :
    Calls Try.prog 3 #[.int .i64 room, .slice a len cap] W fun e W' => e = .returned (.bool true) ∧ Below W.heap.size W W' := by
  have hd : decide (1 ≤ room ∧ room ≤ 4096) = false := by simp; omega
  have NB := Lib.hid (new_bad room h)
  have M := may19 room
  rw [hd] at M
  have M' := Lib.hid M
  clear hd M h
  go_enter Try.func3, Try.ntmps3
  go_wp2_with (first | (go_at_call 9; refine (NB.out _).mono ?_; rintro e w1 ⟨rfl, rfl⟩) | (go_at_call 10; refine (M'.out _).mono ?_; rintro e w2 ⟨rfl, rfl⟩) | (go_at_call 11; refine (slives _).mono ?_; rintro e w3 ⟨rfl, hb⟩))
  go_ret
  exact ⟨rfl, hb⟩

theorem plays_long (room : Nat) (h1 : 1 ≤ room) (h2 : room ≤ 4096) (a : Option Addr) (len cap : Nat) (hl : 300 < len) (hm : len ≤ 9223372036854775807) (W : World) :
    Calls Try.prog 3 #[.int .i64 room, .slice a len cap] W fun e W' => e = .returned (.bool true) ∧ Below W.heap.size W W' := by
  have hd : decide (1 ≤ (room : Int) ∧ (room : Int) ≤ 4096) = true := by simp; omega
  have NB := Lib.hid (new_ok room h1 h2)
  have M := may19 room
  rw [hd] at M
  have M' := Lib.hid M
  clear hd M
  go_enter Try.func3, Try.ntmps3
  go_wp2_with (first | (go_at_call 9; refine (NB.out _).mono ?_; rintro e w1 ⟨b, g, rfl, hs, hb, hg, hf⟩) | (go_at_call 10; refine (M'.out _).mono ?_; rintro e w2 ⟨rfl, rfl⟩) | (go_at_call 11; refine (slives _).mono ?_; rintro e w3 ⟨rfl, hb3⟩))
  go_ret
  exact ⟨rfl, (hf.below (Nat.le_refl _) (fun _ _ h => h)).trans (hb3.mono hf.size)⟩

end Go.Proofs.Ytpdnbkibnpkfbab
