/- masks.Run, masks.Next and bits.TrailingZeros64 over its table. -/
import Derived.Test.YtaaapbfhedgnjaaDoorMskA
import Derived.Test.YtaaapbfhedgnjaaDoorSep
namespace Go.Proofs.YtaaapbfhedgnjaaDoor
open Go.RowKit

theorem band (a b : Nat) (ha : a < 18446744073709551616) (hb : b < 18446744073709551616) : bits .and .u64 (a : Int) (b : Int) = ((a &&& b : Nat) : Int) := u64_and_nat a b ha hb

theorem wrap64_small (n : Int) (h0 : 0 ≤ n) (h1 : n < 9223372036854775808) : wrap64 n = n := IntWalk.wrap64_in n ⟨by omega, by omega⟩

/-- the table of bits.TrailingZeros64 in its variable -/
def Tab (w : World) : Prop := ∀ j, j < 64 → w.cell? ⟨0, j, none⟩ = some (.int .u8 (Lib.deBruijn64tab.getD j 0))

theorem tz_core (x k idx : Nat) (w : World) (hx0 : ((x : Int) == 0) = false)
    (key : IntKind.u64.wrap (bits BinOp.and IntKind.u64 (x : Int) (IntKind.u64.wrap (-(x : Int))) * 285870213051353865) / 288230376151711744 = (idx : Int))
    (hi : idx < 64) (hk : k < 64) (hcell : w.cell? ⟨0, idx, none⟩ = some (.int .u8 k)) :
    Calls Tryd.prog 77 #[.int .u64 x] w fun e w' => e = .returned (.int .i64 k) ∧ w = w' := by
  go_enter Tryd.func77, Tryd.ntmps77
  go_wp2_with (simp only [key])
  go_ret
  exact ⟨rfl, rfl⟩

theorem tz_zero (w : World) : Calls Tryd.prog 77 #[.int .u64 0] w fun e w' => e = .returned (.int .i64 64) ∧ w = w' := by
  go_enter Tryd.func77, Tryd.ntmps77
  go_wp2
  go_ret
  exact ⟨rfl, rfl⟩

theorem tz_key (x a : Nat) (hx : x < 18446744073709551616) (hlow : x &&& (18446744073709551616 - x) = a) (hx0 : x ≠ 0) :
    IntKind.u64.wrap (bits BinOp.and IntKind.u64 (x : Int) (IntKind.u64.wrap (-(x : Int))) * 285870213051353865) / 288230376151711744 = ((a * 285870213051353865 % 18446744073709551616 / 288230376151711744 : Nat) : Int) := by
  have e1 : IntKind.u64.wrap (-(x : Int)) = ((18446744073709551616 - x : Nat) : Int) := by rw [IntKind.wrap_u64]; omega
  rw [e1, band x _ hx (by omega), hlow, IntKind.wrap_u64]
  omega

theorem tz_any (x : Nat) (hx : x < 18446744073709551616) (w : World) (hT : Tab w) : Calls Tryd.prog 77 #[.int .u64 x] w fun e w' => e = .returned (.int .i64 (Lib.ctz 64 x)) ∧ w = w' := by
  by_cases hx0 : x = 0
  · subst hx0
    exact tz_zero w
  · obtain ⟨hlow, hk⟩ := Lib.lowest_bit 64 x hx0 hx
    obtain ⟨hi, htab⟩ := Lib.deBruijn64_at _ hk
    have hcell := hT _ hi
    rw [htab] at hcell
    exact tz_core x _ _ w (by simp; omega) (tz_key x _ hx hlow hx0) hi hk hcell

/-- an int brought to 0 .. 64 -/
def cl (i : Int) : Nat := (min (max i 0) 64).toNat

theorem cl_le (i : Int) : cl i ≤ 64 := by unfold cl; omega

theorem clamp_any (i : Int) (w : World) : Calls Tryd.prog 67 #[.int .i64 i] w fun e w' => e = .returned (.int .i64 (cl i)) ∧ w = w' := by
  go_enter Tryd.func67, Tryd.ntmps67
  go_wp2
  all_goals go_ret
  all_goals exact ⟨ret_int (by unfold cl; omega), rfl⟩

theorem low_val (n : Nat) (hn : n ≤ 64) : IntKind.u64.wrap (IntKind.u64.wrap (2 ^ n) - 1) = ((2 ^ n - 1 : Nat) : Int) := by
  have h1 : 1 ≤ 2 ^ n := Nat.one_le_two_pow
  have e : (2 : Int) ^ n = ((2 ^ n : Nat) : Int) := by simp
  rw [e, IntKind.wrap_u64, IntKind.wrap_u64]
  by_cases h : n = 64
  · subst h; decide
  · have h2 : 2 ^ n ≤ 2 ^ 63 := Nat.pow_le_pow_right (by decide) (by omega)
    generalize 2 ^ n = z at h1 h2
    omega

theorem low_any (n : Nat) (hn : n ≤ 64) (w : World) : Calls Tryd.prog 68 #[.int .i64 n] w fun e w' => e = .returned (.int .u64 ((2 ^ n - 1 : Nat) : Int)) ∧ w = w' := by
  go_enter Tryd.func68, Tryd.ntmps68
  go_wp2
  go_ret
  refine ⟨?_, rfl⟩
  rw [← low_val n hn]
  rfl

/-- the word of a range -/
def runN (f t : Int) : Nat := (2 ^ cl t - 1) &&& (18446744073709551615 - (2 ^ cl f - 1))

theorem p64 (n : Nat) (hn : n ≤ 64) : 2 ^ n - 1 < 18446744073709551616 := by
  have : 2 ^ n ≤ 2 ^ 64 := Nat.pow_le_pow_right (by decide) hn
  omega

theorem runN_lt (f t : Int) : runN f t < 18446744073709551616 := Nat.lt_of_le_of_lt Nat.and_le_left (p64 _ (cl_le t))

theorem runN_bit (f t : Int) (i : Nat) : (runN f t).testBit i = (decide (i < 64) && decide (f ≤ (i : Int) ∧ (i : Int) < t)) := by
  unfold runN
  have h1 : 1 ≤ 2 ^ cl f := Nat.one_le_two_pow
  have e : 18446744073709551615 - (2 ^ cl f - 1) = 2 ^ 64 - ((2 ^ cl f - 1) + 1) := by omega
  rw [Nat.testBit_and, Nat.testBit_two_pow_sub_one, e, Nat.testBit_two_pow_sub_succ (p64 _ (cl_le f)), Nat.testBit_two_pow_sub_one, Bool.eq_iff_iff]
  have := cl_le t
  simp only [Bool.and_eq_true, decide_eq_true_eq, Bool.not_eq_true', decide_eq_false_iff_not]
  unfold cl
  omega

theorem run_any (f t : Int) (w : World) : Calls Tryd.prog 55 #[.int .i64 f, .int .i64 t] w fun e w' => e = .returned (.int .u64 (runN f t)) ∧ w = w' := by
  have e : bits .andNot .u64 ((2 ^ cl t - 1 : Nat) : Int) ((2 ^ cl f - 1 : Nat) : Int) = (runN f t : Int) := u64_andNot_nat _ _ (p64 _ (cl_le t)) (p64 _ (cl_le f))
  have E := Lib.hid e
  clear e
  go_enter Tryd.func55, Tryd.ntmps55
  go_wp2_with (first | (go_at_call 67; refine (clamp_any _ _).mono ?_; rintro e1 w1 ⟨rfl, rfl⟩) | (go_at_call 68; refine (low_any _ (cl_le _) _).mono ?_; rintro e1 w1 ⟨rfl, rfl⟩))
  go_ret
  refine ⟨?_, rfl⟩
  rw [← E.out]
  rfl

theorem drawn {P : Program} {f : FuncId} {args : Array Value} {w : World} {v : Value} (h : Calls P f args w fun e w' => e = .returned v ∧ w = w') : Calls P f args w fun e w' => e = .returned v ∧ ∃ m, w' = w.drewN m :=
  h.mono fun _ _ ⟨he, hm⟩ => ⟨he, 0, hm.symm⟩

theorem Tab.drewN {w : World} (h : Tab w) (n : Nat) : Tab (w.drewN n) := fun j hj => h j hj

theorem next_any (x : Nat) (hx : x < 18446744073709551616) (f : Int) (w : World) (hT : Tab w) : Calls Tryd.prog 73 #[.int .u64 x, .int .i64 f] w fun e w' => e = .returned (.int .i64 (Lib.ctz 64 (x &&& runN f 64))) ∧ w = w' := by
  have e : bits .and .u64 (x : Int) (runN f 64 : Int) = ((x &&& runN f 64 : Nat) : Int) := band _ _ hx (runN_lt f 64)
  have L : x &&& runN f 64 < 18446744073709551616 := Nat.lt_of_le_of_lt Nat.and_le_left hx
  generalize x &&& runN f 64 = y at e L ⊢
  go_enter Tryd.func73, Tryd.ntmps73
  go_wp2_with (first | (go_at_call 55; refine (run_any _ _ _).mono ?_; rintro e1 w1 ⟨rfl, rfl⟩) | (go_at_call 77; refine (tz_any _ L _ hT).mono ?_; rintro e1 w1 ⟨rfl, rfl⟩))
  go_ret
  exact ⟨rfl, rfl⟩

theorem ofInt_i64 (a : Nat) (ha : a < 9223372036854775808) : (BitVec.ofInt 64 (a : Int)).toNat = a := by
  rw [BitVec.ofInt_natCast, BitVec.toNat_ofNat]; exact Nat.mod_eq_of_lt (by omega)

theorem i64_and_n (a b : Nat) (ha : a < 9223372036854775808) (hb : b < 9223372036854775808) : bits .and .i64 (a : Int) (b : Int) = ((a &&& b : Nat) : Int) := by
  have hx : a &&& b < 2 ^ 63 := Nat.and_lt_two_pow _ (by omega)
  show IntKind.i64.wrap ((BitVec.ofInt 64 (a : Int) &&& BitVec.ofInt 64 (b : Int)).toNat : Int) = _
  rw [BitVec.toNat_and, ofInt_i64 a ha, ofInt_i64 b hb, IntKind.wrap_i64]
  omega

theorem i64_andNot_n (a b : Nat) (ha : a < 9223372036854775808) (hb : b < 9223372036854775808) : bits .andNot .i64 (a : Int) (b : Int) = ((a &&& (18446744073709551615 - b) : Nat) : Int) := by
  have hx : a &&& (18446744073709551615 - b) < 9223372036854775808 := Nat.lt_of_le_of_lt Nat.and_le_left ha
  show IntKind.i64.wrap ((BitVec.ofInt 64 (a : Int) &&& ~~~BitVec.ofInt 64 (b : Int)).toNat : Int) = _
  rw [BitVec.toNat_and, BitVec.toNat_not, ofInt_i64 a ha, ofInt_i64 b hb, IntKind.wrap_i64]
  have e : 2 ^ 64 - 1 - b = 18446744073709551615 - b := by omega
  rw [e]
  omega

/-- the multiple at or below -/
theorem andNot_low (a j : Nat) (ha : a < 9223372036854775808) (hj : j ≤ 62) : bits .andNot .i64 (a : Int) ((2 ^ j : Nat) - 1 : Int) = ((a / 2 ^ j * 2 ^ j : Nat) : Int) := by
  have h1 : 1 ≤ 2 ^ j := Nat.one_le_two_pow
  have h2 : 2 ^ j ≤ 2 ^ 62 := Nat.pow_le_pow_right (by decide) hj
  rw [show ((2 ^ j : Nat) - 1 : Int) = ((2 ^ j - 1 : Nat) : Int) by omega, i64_andNot_n a _ ha (by omega)]
  congr 1
  apply Nat.eq_of_testBit_eq
  intro i
  have e : 18446744073709551615 - (2 ^ j - 1) = 2 ^ 64 - ((2 ^ j - 1) + 1) := by omega
  rw [Nat.testBit_and, e, Nat.testBit_two_pow_sub_succ (by omega), Nat.testBit_two_pow_sub_one, Nat.mul_comm, Nat.testBit_two_pow_mul, Nat.testBit_div_two_pow]
  by_cases hi : i < 64
  · by_cases hij : i < j
    · rw [decide_eq_true hij, decide_eq_false (show ¬ j ≤ i by omega)]; simp
    · rw [decide_eq_false hij, decide_eq_true (show j ≤ i by omega), decide_eq_true hi, show i - j + j = i by omega]; simp
  · rw [Nat.testBit_lt_two_pow (x := a) (i := i) (Nat.lt_of_lt_of_le ha (by have : 2 ^ 63 ≤ 2 ^ i := Nat.pow_le_pow_right (by decide) (by omega); omega))]
    rw [show i - j + j = i by omega, Nat.testBit_lt_two_pow (x := a) (i := i) (Nat.lt_of_lt_of_le ha (by have : 2 ^ 63 ≤ 2 ^ i := Nat.pow_le_pow_right (by decide) (by omega); omega))]; simp

end Go.Proofs.YtaaapbfhedgnjaaDoor
