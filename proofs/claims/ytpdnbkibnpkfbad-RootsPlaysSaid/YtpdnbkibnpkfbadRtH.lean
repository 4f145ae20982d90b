/- RootsPlays: whole. -/
import Derived.Test.YtpdnbkibnpkfbadRtG
namespace Go.Proofs.Ytpdnbkibnpkfbad
open Go.ChangeShapes Go.WideShapes Go.ChangeAt Go.RowKit

theorem new_bad (n : Int) (h : n < 1 ∨ 64 < n) (w : World) : Calls Try.prog 24 #[.int .i64 n] w fun e w' => e = .returned (.tuple #[.pointer none, .int .i64 5]) ∧ w = w' := by
  rcases h with h | h
  · go_enter Try.func24, Try.ntmps24
    go_wp2
    go_ret2
    exact ⟨rfl, rfl⟩
  · have h' : ¬ n < 1 := by omega
    go_enter Try.func24, Try.ntmps24
    go_wp2
    go_ret2
    exact ⟨rfl, rfl⟩

set_option maxRecDepth 100000 in
set_option maxHeartbeats 2000000 in
theorem plays_bad (n : Int) (h : n < 1 ∨ 64 < n) (a : Option Addr) (len cap : Nat) (hl : len ≤ cap) (hc : cap ≤ 9223372036854775807) (W : World) :
    Calls Try.prog 6 #[.int .i64 n, .slice a len cap] W fun e W' => e = .returned (.bool true) ∧ Below W.heap.size W W' := by
  have NB := Lib.hid (new_bad n h)
  rcases h with h | h
  · go_enter Try.func6, Try.ntmps6
    go_wp2_with (first | (go_at_call 24; refine (NB.out _).mono ?_; rintro e w1 ⟨rfl, rfl⟩) | (go_at_call 25; refine (rlives _).mono ?_; rintro e w1 ⟨rfl, hb⟩))
    go_ret
    exact ⟨rfl, hb⟩
  · have h' : 1 ≤ n := by omega
    go_enter Try.func6, Try.ntmps6
    go_wp2_with (first | (go_at_call 24; refine (NB.out _).mono ?_; rintro e w1 ⟨rfl, rfl⟩) | (go_at_call 25; refine (rlives _).mono ?_; rintro e w1 ⟨rfl, hb⟩))
    go_ret
    exact ⟨rfl, hb⟩

set_option maxRecDepth 100000 in
set_option maxHeartbeats 2000000 in
theorem plays_long (n : Nat) (h1 : 1 ≤ n) (h2 : n ≤ 64) (a : Option Addr) (len cap : Nat) (hl : len ≤ cap) (hc : cap ≤ 9223372036854775807) (hlong : 200 < len) (W : World) :
    Calls Try.prog 6 #[.int .i64 n, .slice a len cap] W fun e W' => e = .returned (.bool true) ∧ Below W.heap.size W W' := by
  have NB := Lib.hid (new_ok n h1 h2)
  go_enter Try.func6, Try.ntmps6
  go_wp2_with (first | (go_at_call 24; refine (NB.out _).mono ?_; rintro e w1 ⟨c, b, rfl, hs, hb, hc, hf⟩) | (go_at_call 25; refine (rlives _).mono ?_; rintro e w1 ⟨rfl, hbb⟩))
  go_ret
  exact ⟨rfl, Below.step (hf.below (Nat.le_refl _) (fun _ _ h => h)) hbb hf.size⟩

theorem plays_any (n : Int) (a : Option Addr) (len cap : Nat) (F : Nat → Nat → Int) (W : World) (hrow : RecRow [.u8, .i64, .i64] W a len cap F) :
    Calls Try.prog 6 #[.int .i64 n, .slice a len cap] W fun e W' => e = .returned (.bool true) ∧ Below W.heap.size W W' := by
  have hcm : cap ≤ 9223372036854775807 := by have := hrow.cm; unfold maxLen at this; omega
  by_cases h : 1 ≤ n ∧ n ≤ 64
  · obtain ⟨k, rfl⟩ : ∃ k : Nat, n = (k : Int) := ⟨n.toNat, by omega⟩
    by_cases hl : len ≤ 200
    · exact plays_short k (by omega) (by omega) a len cap F hl W hrow
    · exact plays_long k (by omega) (by omega) a len cap hrow.lc hcm (by omega) W
  · exact plays_bad n (by omega) a len cap hrow.lc hcm W

end Go.Proofs.Ytpdnbkibnpkfbad
