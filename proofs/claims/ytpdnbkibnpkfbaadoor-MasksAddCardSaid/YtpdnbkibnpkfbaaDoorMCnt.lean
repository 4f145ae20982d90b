/- masks.Count, Next, Last: regions that draw their order. -/
import Derived.Test.YtpdnbkibnpkfbaaDoorMRev
namespace Go.Proofs.YtpdnbkibnpkfbaaDoor
open Go.RowKit

theorem drawn {P : Program} {f : FuncId} {args : Array Value} {w : World} {v : Value} (h : Calls P f args w fun e w' => e = .returned v ∧ w = w') : Calls P f args w fun e w' => e = .returned v ∧ ∃ m, w' = w.drewN m :=
  h.mono fun _ _ ⟨he, hm⟩ => ⟨he, 0, hm.symm⟩

theorem Tab.drewN {w : World} (h : Tab w) (n : Nat) : Tab (w.drewN n) := fun j hj => h j hj

/-- how many of a range are in a word -/
theorem count_any (x : Nat) (hx : x < 18446744073709551616) (f t : Int) (w : World) : Calls Tryd.prog 11 #[.int .u64 x, .int .i64 f, .int .i64 t] w fun e w' => e = .returned (.int .i64 (cnt (x &&& runN f t) 64)) ∧ w = w' := by
  have e : bits .and .u64 (x : Int) (runN f t : Int) = ((x &&& runN f t : Nat) : Int) := band _ _ hx (runN_lt f t)
  have L : x &&& runN f t < 18446744073709551616 := Nat.lt_of_le_of_lt Nat.and_le_left hx
  generalize x &&& runN f t = y at e L ⊢
  go_enter Tryd.func11, Tryd.ntmps11
  go_wp2_with (first | (go_at_call 9; refine (run_any _ _ _).mono ?_; rintro e1 w1 ⟨rfl, rfl⟩) | (go_at_call 34; refine (ones_any _ L _).mono ?_; rintro e1 w1 ⟨rfl, rfl⟩))
  go_ret
  exact ⟨rfl, rfl⟩

theorem next_any (x : Nat) (hx : x < 18446744073709551616) (f : Int) (w : World) (hT : Tab w) : Calls Tryd.prog 13 #[.int .u64 x, .int .i64 f] w fun e w' => e = .returned (.int .i64 (Lib.ctz 64 (x &&& runN f 64))) ∧ w = w' := by
  have e : bits .and .u64 (x : Int) (runN f 64 : Int) = ((x &&& runN f 64 : Nat) : Int) := band _ _ hx (runN_lt f 64)
  have L : x &&& runN f 64 < 18446744073709551616 := Nat.lt_of_le_of_lt Nat.and_le_left hx
  generalize x &&& runN f 64 = y at e L ⊢
  go_enter Tryd.func13, Tryd.ntmps13
  go_wp2_with (first | (go_at_call 9; refine (run_any _ _ _).mono ?_; rintro e1 w1 ⟨rfl, rfl⟩) | (go_at_call 36; refine (tz_any _ L _ hT).mono ?_; rintro e1 w1 ⟨rfl, rfl⟩))
  go_ret
  exact ⟨rfl, rfl⟩

theorem last_any (x : Nat) (hx : x < 18446744073709551616) (b : Int) (w : World) : Calls Tryd.prog 15 #[.int .u64 x, .int .i64 b] w fun e w' => e = .returned (.int .i64 ((Lib.bitLen (x &&& runN 0 b) : Nat) - 1)) ∧ w = w' := by
  have e : bits .and .u64 (x : Int) (runN 0 b : Int) = ((x &&& runN 0 b : Nat) : Int) := band _ _ hx (runN_lt 0 b)
  have L : x &&& runN 0 b < 18446744073709551616 := Nat.lt_of_le_of_lt Nat.and_le_left hx
  generalize x &&& runN 0 b = y at e L ⊢
  have hb : Lib.bitLen y ≤ 64 := Lib.bitLen_le y 64 (by omega) (by omega)
  go_enter Tryd.func15, Tryd.ntmps15
  go_wp2_with (first | (go_at_call 9; refine (run_any _ _ _).mono ?_; rintro e1 w1 ⟨rfl, rfl⟩) | (go_at_call 37; refine (len64_any _ L _).mono ?_; rintro e1 w1 ⟨rfl, rfl⟩))
  go_ret
  exact ⟨rfl, rfl⟩

theorem ofInt_i64 (a : Nat) (ha : a < 9223372036854775808) : (BitVec.ofInt 64 (a : Int)).toNat = a := by
  rw [BitVec.ofInt_natCast, BitVec.toNat_ofNat]; exact Nat.mod_eq_of_lt (by omega)
theorem i64_and_n (a b : Nat) (ha : a < 9223372036854775808) (hb : b < 9223372036854775808) : bits .and .i64 (a : Int) (b : Int) = ((a &&& b : Nat) : Int) := by
  have hx : a &&& b < 2 ^ 63 := Nat.and_lt_two_pow _ (by omega)
  show IntKind.i64.wrap ((BitVec.ofInt 64 (a : Int) &&& BitVec.ofInt 64 (b : Int)).toNat : Int) = _
  rw [BitVec.toNat_and, ofInt_i64 a ha, ofInt_i64 b hb, IntKind.wrap_i64]
  omega
theorem i64_andNot_n (a b : Nat) (ha : a < 9223372036854775808) (hb : b < 9223372036854775808) : bits .andNot .i64 (a : Int) (b : Int) = ((a &&& (18446744073709551615 - b) : Nat) : Int) := by
  have hx : a &&& (18446744073709551615 - b) < 9223372036854775808 := Nat.lt_of_le_of_lt Nat.and_le_left ha
  show IntKind.i64.wrap ((BitVec.ofInt 64 (a : Int) &&& ~~~BitVec.ofInt 64 (b : Int)).toNat : Int) = _
  rw [BitVec.toNat_and, BitVec.toNat_not, ofInt_i64 a ha, ofInt_i64 b hb, IntKind.wrap_i64]
  have e : 2 ^ 64 - 1 - b = 18446744073709551615 - b := by omega
  rw [e]
  omega
/-- the multiple at or below -/
theorem andNot_low (a j : Nat) (ha : a < 9223372036854775808) (hj : j ≤ 62) : bits .andNot .i64 (a : Int) ((2 ^ j : Nat) - 1 : Int) = ((a / 2 ^ j * 2 ^ j : Nat) : Int) := by
  have h1 : 1 ≤ 2 ^ j := Nat.one_le_two_pow
  have h2 : 2 ^ j ≤ 2 ^ 62 := Nat.pow_le_pow_right (by decide) hj
  rw [show ((2 ^ j : Nat) - 1 : Int) = ((2 ^ j - 1 : Nat) : Int) by omega, i64_andNot_n a _ ha (by omega)]
  congr 1
  apply Nat.eq_of_testBit_eq
  intro i
  have e : 18446744073709551615 - (2 ^ j - 1) = 2 ^ 64 - ((2 ^ j - 1) + 1) := by omega
  rw [Nat.testBit_and, e, Nat.testBit_two_pow_sub_succ (by omega), Nat.testBit_two_pow_sub_one, Nat.mul_comm, Nat.testBit_two_pow_mul, Nat.testBit_div_two_pow]
  by_cases hi : i < 64
  · by_cases hij : i < j
    · rw [decide_eq_true hij, decide_eq_false (show ¬ j ≤ i by omega)]; simp
    · rw [decide_eq_false hij, decide_eq_true (show j ≤ i by omega), decide_eq_true hi, show i - j + j = i by omega]; simp
  · rw [Nat.testBit_lt_two_pow (x := a) (i := i) (Nat.lt_of_lt_of_le ha (by have : 2 ^ 63 ≤ 2 ^ i := Nat.pow_le_pow_right (by decide) (by omega); omega))]
    rw [show i - j + j = i by omega, Nat.testBit_lt_two_pow (x := a) (i := i) (Nat.lt_of_lt_of_le ha (by have : 2 ^ 63 ≤ 2 ^ i := Nat.pow_le_pow_right (by decide) (by omega); omega))]; simp
theorem and_pred (z : Nat) (h1 : 1 ≤ z) (h2 : z < 9223372036854775808) : bits .and .i64 (z : Int) ((z : Int) - 1) = ((z &&& (z - 1) : Nat) : Int) := by
  rw [show (z : Int) - 1 = ((z - 1 : Nat) : Int) by omega]
  exact i64_and_n z (z - 1) h2 (by omega)

/-- a power of two, by its bits -/
def powB (n : Int) : Bool := decide (0 < n) && (n.toNat &&& (n.toNat - 1) == 0)

theorem power_any (n : Int) (h0 : -9223372036854775808 ≤ n) (h1 : n ≤ 9223372036854775807) (w : World) : Calls Tryd.prog 26 #[.int .i64 n] w fun e w' => e = .returned (.bool (powB n)) ∧ w = w' := by
  by_cases hn : 0 < n
  · obtain ⟨z, rfl⟩ : ∃ z : Nat, n = (z : Int) := ⟨n.toNat, by omega⟩
    have e := and_pred z (by omega) (by omega)
    have E : powB (z : Int) = (((z &&& (z - 1) : Nat) : Int) == 0) := by
      unfold powB
      rw [decide_eq_true hn, Bool.true_and, Int.toNat_natCast, Bool.eq_iff_iff]
      simp only [beq_iff_eq]; omega
    rw [E]
    clear E
    go_enter Tryd.func26, Tryd.ntmps26
    go_wp2
    go_ret
    exact ⟨rfl, rfl⟩
  · have E : powB n = false := by unfold powB; rw [decide_eq_false hn, Bool.false_and]
    rw [E]
    go_enter Tryd.func26, Tryd.ntmps26
    go_wp2
    go_ret
    exact ⟨rfl, rfl⟩

end Go.Proofs.YtpdnbkibnpkfbaaDoor
