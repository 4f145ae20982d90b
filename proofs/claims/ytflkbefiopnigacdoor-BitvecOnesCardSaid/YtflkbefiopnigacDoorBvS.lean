/- The laws of the bit vector: what they ask first. -/
import Derived.Test.YtflkbefiopnigacDoorBvRh
namespace Go.Proofs.YtflkbefiopnigacDoor.BV
open Go.ChangeShapes Go.WideShapes Go.ChangeAt Go.RowKit

/-- the error of a bit that there may not be -/
def codeN (n i : Int) : Int := if i < 0 ∨ n ≤ i then 11 else 0

theorem code_any (n i : Int) (w : World) : Calls Tryd.prog 39 #[.int .i64 n, .int .i64 i] w fun e w' => e = .returned (.int .i64 (codeN n i)) ∧ w = w' := by
  unfold codeN
  by_cases h0 : i < 0
  · rw [if_pos (.inl h0)]
    go_enter Tryd.func39, Tryd.ntmps39
    go_wp2
    go_ret
    exact ⟨rfl, rfl⟩
  · by_cases h1 : n ≤ i
    · rw [if_pos (.inr h1)]
      go_enter Tryd.func39, Tryd.ntmps39
      go_wp2
      go_ret
      exact ⟨rfl, rfl⟩
    · rw [if_neg (by omega)]
      have h1' : i < n := by omega
      go_enter Tryd.func39, Tryd.ntmps39
      go_wp2
      go_ret
      exact ⟨rfl, rfl⟩

theorem may_any (n : Int) (w : World) : Calls Tryd.prog 10 #[.int .i64 n] w fun e w' => e = .returned (.bool (decide (1 ≤ n ∧ n ≤ 1048576))) ∧ w = w' := by
  by_cases h0 : 1 ≤ n
  · by_cases h1 : n ≤ 1048576
    · rw [decide_eq_true (And.intro h0 h1)]
      go_enter Tryd.func10, Tryd.ntmps10
      go_wp2
      go_ret
      exact ⟨rfl, rfl⟩
    · rw [decide_eq_false (fun g => h1 g.2)]
      go_enter Tryd.func10, Tryd.ntmps10
      go_wp2
      go_ret
      exact ⟨rfl, rfl⟩
  · rw [decide_eq_false (fun g => h0 g.1)]
    go_enter Tryd.func10, Tryd.ntmps10
    go_wp2
    go_ret
    exact ⟨rfl, rfl⟩

end Go.Proofs.YtflkbefiopnigacDoor.BV
