/- Bits of floats: masks of the sign, as plain numbers. -/
import Derived.Test.YtflkbefiopnigaaDoorBase
import Derived.Laws.BitsAllLaws
namespace Go.Proofs.YtflkbefiopnigaaDoor
open Go.ChangeShapes Go.WideShapes Go.ChangeAt Go.RowKit

theorem tb63 (i : Nat) : (9223372036854775808 : Nat).testBit i = decide (i = 63) := by
  rw [show (9223372036854775808 : Nat) = 2 ^ 63 by rfl, Nat.testBit_two_pow]
  by_cases h : i = 63
  · subst h; simp
  · simp [h]; omega

theorem tbhi {b i : Nat} (h : b < 18446744073709551616) (hi : 64 ≤ i) : b.testBit i = false :=
  Nat.testBit_lt_two_pow (Nat.lt_of_lt_of_le (show b < 2 ^ 64 from h) (Nat.pow_le_pow_right (by omega) hi))

theorem tb63v {b : Nat} (h : b < 18446744073709551616) : b.testBit 63 = decide (9223372036854775808 ≤ b) := by
  rw [Nat.testBit_eq_decide_div_mod_eq, Bool.eq_iff_iff]
  simp only [decide_eq_true_eq]
  rw [show (2 : Nat) ^ 63 = 9223372036854775808 by rfl]
  omega

theorem not_sign (b : Nat) (h : b < 18446744073709551616) : bits .andNot .u64 (b : Int) 9223372036854775808 = ((b % 9223372036854775808 : Nat) : Int) := by
  rw [show (9223372036854775808 : Int) = ((9223372036854775808 : Nat) : Int) by rfl, u64_andNot_nat b _ h (by decide)]
  congr 1
  rw [show (18446744073709551615 - 9223372036854775808 : Nat) = 2 ^ 63 - 1 by rfl, Nat.and_two_pow_sub_one_eq_mod]

theorem and_sign (b : Nat) (h : b < 18446744073709551616) : bits .and .u64 (b : Int) 9223372036854775808 = if 9223372036854775808 ≤ b then 9223372036854775808 else 0 := by
  rw [show (9223372036854775808 : Int) = ((9223372036854775808 : Nat) : Int) by rfl, u64_and_nat b _ h (by decide)]
  have e : b &&& 9223372036854775808 = if 9223372036854775808 ≤ b then 9223372036854775808 else 0 := by
    apply Nat.eq_of_testBit_eq
    intro i
    rw [Nat.testBit_and, tb63]
    by_cases hi : i = 63
    · subst hi
      rw [tb63v h]
      by_cases hb : 9223372036854775808 ≤ b
      · rw [if_pos hb]; simp [hb, tb63]
      · rw [if_neg hb]; simp [hb]
    · by_cases hb : 9223372036854775808 ≤ b
      · rw [if_pos hb, tb63]; simp [hi]
      · rw [if_neg hb]; simp [hi]
  rw [e]
  split <;> rfl

theorem or_sign (b : Nat) (h : b < 9223372036854775808) : bits .or .u64 (b : Int) 9223372036854775808 = ((b + 9223372036854775808 : Nat) : Int) := by
  rw [show (9223372036854775808 : Int) = ((9223372036854775808 : Nat) : Int) by rfl, u64_or_nat b _ (by omega) (by decide)]
  congr 1
  have := Nat.two_pow_add_eq_or_of_lt (i := 63) (b := b) (by simpa using h) 1
  rw [show (2 : Nat) ^ 63 * 1 = 9223372036854775808 by rfl] at this
  rw [Nat.or_comm, ← this, Nat.add_comm]

theorem xor_sign (b : Nat) (h : b < 18446744073709551616) : bits .xor .u64 (b : Int) 9223372036854775808 = if 9223372036854775808 ≤ b then ((b - 9223372036854775808 : Nat) : Int) else ((b + 9223372036854775808 : Nat) : Int) := by
  rw [show (9223372036854775808 : Int) = ((9223372036854775808 : Nat) : Int) by rfl, u64_xor_nat b _ h (by decide)]
  have key : ∀ c, c < 9223372036854775808 → c ^^^ 9223372036854775808 = c + 9223372036854775808 := by
    intro c hc
    have := Nat.two_pow_add_eq_or_of_lt (i := 63) (b := c) (by simpa using hc) 1
    rw [show (2 : Nat) ^ 63 * 1 = 9223372036854775808 by rfl] at this
    rw [Nat.add_comm, this]
    apply Nat.eq_of_testBit_eq
    intro i
    rw [Nat.testBit_xor, Nat.testBit_or, tb63]
    by_cases hi : i = 63
    · subst hi
      have : c.testBit 63 = false := Nat.testBit_lt_two_pow (by simpa using hc)
      simp [this]
    · simp [hi]
  by_cases hb : 9223372036854775808 ≤ b
  · rw [if_pos hb]
    have e := key (b - 9223372036854775808) (by omega)
    rw [show b - 9223372036854775808 + 9223372036854775808 = b by omega] at e
    have e2 : b ^^^ 9223372036854775808 = b - 9223372036854775808 := by
      have := congrArg (· ^^^ 9223372036854775808) e
      simpa only [Nat.xor_assoc, Nat.xor_self, Nat.xor_zero] using this.symm
    rw [e2]
  · rw [if_neg hb, key b (by omega)]

theorem not_all (b : Nat) (h : b < 18446744073709551616) : bits .xor .u64 IntKind.u64.max (b : Int) = ((18446744073709551615 - b : Nat) : Int) := by
  rw [show IntKind.u64.max = ((18446744073709551615 : Nat) : Int) by rfl, u64_xor_nat _ b (by decide) h]
  congr 1
  apply Nat.eq_of_testBit_eq
  intro i
  have := Nat.testBit_two_pow_sub_succ (x := b) (n := 64) (by simpa using h) i
  rw [Nat.testBit_xor, show 18446744073709551615 - b = 2 ^ 64 - (b + 1) by omega, this, show (18446744073709551615 : Nat) = 2 ^ 64 - 1 by rfl, Nat.testBit_two_pow_sub_one]
  by_cases hi : i < 64
  · simp [hi]
  · rw [tbhi (i := i) h (by omega)]; simp [hi]

end Go.Proofs.YtflkbefiopnigaaDoor
