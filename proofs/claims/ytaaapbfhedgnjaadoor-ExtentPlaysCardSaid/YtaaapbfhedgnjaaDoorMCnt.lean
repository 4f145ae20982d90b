/- masks.Count, Next, Last: regions that draw their order. -/
import Derived.Test.YtaaapbfhedgnjaaDoorMShelf
namespace Go.Proofs.YtaaapbfhedgnjaaDoor
open Go.RowKit

/-- how many of a range are in a word -/
theorem count_any (x : Nat) (hx : x < 18446744073709551616) (f t : Int) (w : World) : Calls Tryd.prog 51 #[.int .u64 x, .int .i64 f, .int .i64 t] w fun e w' => e = .returned (.int .i64 (cnt (x &&& runN f t) 64)) ∧ w = w' := by
  have e : bits .and .u64 (x : Int) (runN f t : Int) = ((x &&& runN f t : Nat) : Int) := band _ _ hx (runN_lt f t)
  have L : x &&& runN f t < 18446744073709551616 := Nat.lt_of_le_of_lt Nat.and_le_left hx
  generalize x &&& runN f t = y at e L ⊢
  go_enter Tryd.func51, Tryd.ntmps51
  go_wp2_with (first | (go_at_call 55; refine (run_any _ _ _).mono ?_; rintro e1 w1 ⟨rfl, rfl⟩) | (go_at_call 66; refine (ones_any _ L _).mono ?_; rintro e1 w1 ⟨rfl, rfl⟩))
  go_ret
  exact ⟨rfl, rfl⟩

theorem last_any (x : Nat) (hx : x < 18446744073709551616) (b : Int) (w : World) : Calls Tryd.prog 71 #[.int .u64 x, .int .i64 b] w fun e w' => e = .returned (.int .i64 ((Lib.bitLen (x &&& runN 0 b) : Nat) - 1)) ∧ w = w' := by
  have e : bits .and .u64 (x : Int) (runN 0 b : Int) = ((x &&& runN 0 b : Nat) : Int) := band _ _ hx (runN_lt 0 b)
  have L : x &&& runN 0 b < 18446744073709551616 := Nat.lt_of_le_of_lt Nat.and_le_left hx
  generalize x &&& runN 0 b = y at e L ⊢
  have hb : Lib.bitLen y ≤ 64 := Lib.bitLen_le y 64 (by omega) (by omega)
  go_enter Tryd.func71, Tryd.ntmps71
  go_wp2_with (first | (go_at_call 55; refine (run_any _ _ _).mono ?_; rintro e1 w1 ⟨rfl, rfl⟩) | (go_at_call 76; refine (len64_any _ L _).mono ?_; rintro e1 w1 ⟨rfl, rfl⟩))
  go_ret
  exact ⟨rfl, rfl⟩

theorem and_pred (z : Nat) (h1 : 1 ≤ z) (h2 : z < 9223372036854775808) : bits .and .i64 (z : Int) ((z : Int) - 1) = ((z &&& (z - 1) : Nat) : Int) := by
  rw [show (z : Int) - 1 = ((z - 1 : Nat) : Int) by omega]
  exact i64_and_n z (z - 1) h2 (by omega)

/-- a power of two, by its bits -/
def powB (n : Int) : Bool := decide (0 < n) && (n.toNat &&& (n.toNat - 1) == 0)

theorem power_any (n : Int) (h0 : -9223372036854775808 ≤ n) (h1 : n ≤ 9223372036854775807) (w : World) : Calls Tryd.prog 45 #[.int .i64 n] w fun e w' => e = .returned (.bool (powB n)) ∧ w = w' := by
  by_cases hn : 0 < n
  · obtain ⟨z, rfl⟩ : ∃ z : Nat, n = (z : Int) := ⟨n.toNat, by omega⟩
    have e := and_pred z (by omega) (by omega)
    have E : powB (z : Int) = (((z &&& (z - 1) : Nat) : Int) == 0) := by
      unfold powB
      rw [decide_eq_true hn, Bool.true_and, Int.toNat_natCast, Bool.eq_iff_iff]
      simp only [beq_iff_eq]; omega
    rw [E]
    clear E
    go_enter Tryd.func45, Tryd.ntmps45
    go_wp2
    go_ret
    exact ⟨rfl, rfl⟩
  · have E : powB n = false := by unfold powB; rw [decide_eq_false hn, Bool.false_and]
    rw [E]
    go_enter Tryd.func45, Tryd.ntmps45
    go_wp2
    go_ret
    exact ⟨rfl, rfl⟩

end Go.Proofs.YtaaapbfhedgnjaaDoor
