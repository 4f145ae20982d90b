/- Plain arithmetic of 64-bit words, by their bits. No program here. -/
import Derived.Test.YtaaapbfhedgnjaaDoorMskA
namespace Go.Proofs.YtaaapbfhedgnjaaDoor

theorem cnt_succ (x n : Nat) : cnt x (n + 1) = cnt x n + x / 2 ^ n % 2 := rfl

theorem cnt_add8 (x n : Nat) : cnt x (n + 8) = cnt x n + o8 (x / 2 ^ n) := by
  have e : ∀ k, x / 2 ^ (n + k) = x / 2 ^ n / 2 ^ k := fun k => by rw [Nat.pow_add, Nat.div_div_eq_div_mul]
  have h : cnt x (n + 8) = cnt x n + x / 2 ^ n % 2 + x / 2 ^ (n + 1) % 2 + x / 2 ^ (n + 2) % 2 + x / 2 ^ (n + 3) % 2 + x / 2 ^ (n + 4) % 2 + x / 2 ^ (n + 5) % 2 + x / 2 ^ (n + 6) % 2 + x / 2 ^ (n + 7) % 2 := rfl
  rw [h, e 1, e 2, e 3, e 4, e 5, e 6, e 7]
  generalize x / 2 ^ n = y
  unfold o8 o4
  omega

theorem pC8 (x : Nat) : pC 8 x = o8 x + 256 * (o8 (x / 2 ^ 8) + 256 * (o8 (x / 2 ^ 16) + 256 * (o8 (x / 2 ^ 24) + 256 * (o8 (x / 2 ^ 32) + 256 * (o8 (x / 2 ^ 40) + 256 * (o8 (x / 2 ^ 48) + 256 * o8 (x / 2 ^ 56))))))) := by
  simp only [pC]
  have e2 : x / 256 / 256 = x / 2 ^ 16 := by omega
  have e3 : x / 256 / 256 / 256 = x / 2 ^ 24 := by omega
  have e4 : x / 256 / 256 / 256 / 256 = x / 2 ^ 32 := by omega
  have e5 : x / 256 / 256 / 256 / 256 / 256 = x / 2 ^ 40 := by omega
  have e6 : x / 256 / 256 / 256 / 256 / 256 / 256 = x / 2 ^ 48 := by omega
  have e7 : x / 256 / 256 / 256 / 256 / 256 / 256 / 256 = x / 2 ^ 56 := by omega
  rw [e7, e6, e5, e4, e3, e2]
  rfl

theorem cnt64 (x : Nat) : cnt x 64 = o8 x + o8 (x / 2 ^ 8) + o8 (x / 2 ^ 16) + o8 (x / 2 ^ 24) + o8 (x / 2 ^ 32) + o8 (x / 2 ^ 40) + o8 (x / 2 ^ 48) + o8 (x / 2 ^ 56) := by
  rw [show (64 : Nat) = 56 + 8 from rfl, cnt_add8, show (56 : Nat) = 48 + 8 from rfl, cnt_add8, show (48 : Nat) = 40 + 8 from rfl, cnt_add8, show (40 : Nat) = 32 + 8 from rfl, cnt_add8, show (32 : Nat) = 24 + 8 from rfl, cnt_add8, show (24 : Nat) = 16 + 8 from rfl, cnt_add8, show (16 : Nat) = 8 + 8 from rfl, cnt_add8, show (8 : Nat) = 0 + 8 from rfl, cnt_add8]
  simp [cnt]

theorem ones_steps (x : Nat) : ∃ a1 a2 b1 b2 u : Nat, (x / 2 &&& 6148914691236517205) = a1 ∧ (x &&& 6148914691236517205) = a2 ∧ ((a1 + a2) / 4 &&& 3689348814741910323) = b1 ∧ ((a1 + a2) &&& 3689348814741910323) = b2 ∧
    (((b1 + b2) / 16 + (b1 + b2)) &&& 1085102592571150095) = u ∧ a1 ≤ 6148914691236517205 ∧ a2 ≤ 6148914691236517205 ∧ b1 ≤ 3689348814741910323 ∧ b2 ≤ 3689348814741910323 ∧
    u + u / 256 < 2 ^ 62 ∧ (u + u / 256) + (u + u / 256) / 65536 < 2 ^ 62 ∧
    ((u + u / 256) + (u + u / 256) / 65536 + ((u + u / 256) + (u + u / 256) / 65536) / 4294967296) % 128 = cnt x 64 := by
  refine ⟨_, _, _, _, _, rfl, rfl, rfl, rfl, rfl, Nat.and_le_right, Nat.and_le_right, Nat.and_le_right, Nat.and_le_right, ?_⟩
  have hA : (6148914691236517205 : Nat) = mA 32 := by decide
  have hB : (3689348814741910323 : Nat) = mB 16 := by decide
  have hC : (1085102592571150095 : Nat) = mC 8 := by decide
  rw [hA, stageA, hB, stageB, show (32 : Nat) = 2 * 16 from rfl, qB_pA, hC, show (16 : Nat) = 2 * 8 from rfl, stageC]
  obtain ⟨r1, r2, r3⟩ := bytes_sum _ _ _ _ _ _ _ _ (o8_le x) (o8_le (x / 2 ^ 8)) (o8_le (x / 2 ^ 16)) (o8_le (x / 2 ^ 24)) (o8_le (x / 2 ^ 32)) (o8_le (x / 2 ^ 40)) (o8_le (x / 2 ^ 48)) (o8_le (x / 2 ^ 56)) (pC 8 x) _ _ (pC8 x) rfl rfl
  exact ⟨r2, r3, by rw [r1, cnt64]⟩

/-! ### the turn of a word -/

def swp (s m x : Nat) : Nat := (x / 2 ^ s &&& m) ||| ((x &&& m) * 2 ^ s % 2 ^ 64)

def swpB (m s : Nat) : Bool := (List.range 64).all fun i => (m.testBit i && (decide (i < s) || !m.testBit (i - s)) && (i ^^^ s == i + s)) || (!m.testBit i && decide (s ≤ i) && m.testBit (i - s) && (i ^^^ s == i - s))

theorem swp_bit (m s x i : Nat) (h : swpB m s = true) (hi : i < 64) : (swp s m x).testBit i = x.testBit (i ^^^ s) := by
  unfold swpB at h
  rw [List.all_eq_true] at h
  have h := h i (by simpa using hi)
  unfold swp
  rw [Nat.testBit_or, Nat.testBit_and, Nat.testBit_div_two_pow, Nat.testBit_mod_two_pow, Nat.mul_comm, Nat.testBit_two_pow_mul, Nat.testBit_and]
  simp only [Bool.or_eq_true, Bool.and_eq_true, Bool.not_eq_true', decide_eq_true_eq, beq_iff_eq] at h
  rcases h with ⟨⟨a, b⟩, c⟩ | ⟨⟨⟨a, b⟩, c⟩, d⟩
  · rw [a, c]
    rcases b with b | b
    · have : ¬ s ≤ i := by omega
      simp [this, hi]
    · simp [b, hi]
  · rw [a, c, d]
    simp [b, hi]

theorem swp_lt (m s x : Nat) (hm : m < 2 ^ 64) : swp s m x < 2 ^ 64 := Nat.or_lt_two_pow (Nat.lt_of_le_of_lt Nat.and_le_right hm) (Nat.mod_lt _ (by decide))

theorem last_bit (x i : Nat) (hx : x < 2 ^ 64) (hi : i < 64) : ((x / 2 ^ 32) ||| (x * 2 ^ 32 % 2 ^ 64)).testBit i = x.testBit (i ^^^ 32) := by
  rw [Nat.testBit_or, Nat.testBit_div_two_pow, Nat.testBit_mod_two_pow, Nat.mul_comm, Nat.testBit_two_pow_mul]
  have h : ∀ i, i < 64 → (i < 32 ∧ i ^^^ 32 = i + 32) ∨ (32 ≤ i ∧ i ^^^ 32 = i - 32) := by decide +kernel
  rcases h i hi with ⟨a, b⟩ | ⟨a, b⟩
  · rw [b]
    have : ¬ 32 ≤ i := by omega
    simp [this]
  · rw [b]
    have h64 : x.testBit (i + 32) = false := Nat.testBit_lt_two_pow (Nat.lt_of_lt_of_le hx (Nat.pow_le_pow_right (by decide) (by omega)))
    simp [a, hi, h64]

/-- the word turned round -/
def rev (x : Nat) : Nat :=
  let y := swp 16 281470681808895 (swp 8 71777214294589695 (swp 4 1085102592571150095 (swp 2 3689348814741910323 (swp 1 6148914691236517205 x))))
  (y / 2 ^ 32) ||| (y * 2 ^ 32 % 2 ^ 64)

theorem rev_bit (x i : Nat) (hi : i < 64) : (rev x).testBit i = x.testBit (63 - i) := by
  have hx : ∀ a b, a < 64 → b < 64 → a ^^^ b < 64 := fun a b ha hb => Nat.xor_lt_two_pow (n := 6) ha hb
  have h1 := hx i 32 hi (by decide)
  have h2 := hx _ 16 h1 (by decide)
  have h3 := hx _ 8 h2 (by decide)
  have h4 := hx _ 4 h3 (by decide)
  have h5 := hx _ 2 h4 (by decide)
  unfold rev
  rw [last_bit _ i (swp_lt _ _ _ (by decide)) hi, swp_bit _ _ _ _ (by decide +kernel) h1, swp_bit _ _ _ _ (by decide +kernel) h2, swp_bit _ _ _ _ (by decide +kernel) h3, swp_bit _ _ _ _ (by decide +kernel) h4, swp_bit _ _ _ _ (by decide +kernel) h5]
  have h : ∀ i, i < 64 → i ^^^ 32 ^^^ 16 ^^^ 8 ^^^ 4 ^^^ 2 ^^^ 1 = 63 - i := by decide +kernel
  rw [h i hi]

theorem rev_lt (x : Nat) : rev x < 2 ^ 64 := by
  unfold rev
  refine Nat.or_lt_two_pow (Nat.lt_of_le_of_lt (Nat.div_le_self _ _) (swp_lt _ _ _ (by decide))) (Nat.mod_lt _ (by decide))

end Go.Proofs.YtaaapbfhedgnjaaDoor
