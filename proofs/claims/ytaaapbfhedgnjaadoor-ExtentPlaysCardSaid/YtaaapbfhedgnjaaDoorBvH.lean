/- A vector of bits (layer 11): Next and Last, as plain numbers and walked. -/
import Derived.Test.YtaaapbfhedgnjaaDoorBvE
namespace Go.Proofs.YtaaapbfhedgnjaaDoor.BV
open Go.ChangeShapes Go.WideShapes Go.ChangeAt Go.RowKit

/-- the first one of p among i, i + 1, .. (m of them) -/
def nxF (p : Nat → Bool) (i : Nat) : Nat → Option Nat
  | 0 => none
  | m + 1 => if p i then some i else nxF p (i + 1) m

theorem nxF_some {p : Nat → Bool} {r : Nat} : ∀ m i, i ≤ r → r < i + m → p r = true → (∀ k, i ≤ k → k < r → p k = false) → nxF p i m = some r
  | 0, i, h1, h2, _, _ => by omega
  | m + 1, i, h1, h2, h3, h4 => by
    unfold nxF
    by_cases e : r = i
    · subst e; rw [if_pos h3]
    · rw [h4 i (Nat.le_refl _) (by omega), if_neg (by simp)]
      exact nxF_some m (i + 1) (by omega) (by omega) h3 fun k a b => h4 k (by omega) b

theorem nxF_none {p : Nat → Bool} : ∀ m i, (∀ k, i ≤ k → k < i + m → p k = false) → nxF p i m = none
  | 0, i, _ => rfl
  | m + 1, i, h => by
    unfold nxF
    rw [h i (Nat.le_refl _) (by omega), if_neg (by simp)]
    exact nxF_none m (i + 1) fun k a b => h k (by omega) (by omega)

theorem nxF_is {p : Nat → Bool} : ∀ m i, (nxF p i m = none ∧ ∀ k, i ≤ k → k < i + m → p k = false) ∨ (∃ r, nxF p i m = some r ∧ i ≤ r ∧ r < i + m ∧ p r = true ∧ ∀ k, i ≤ k → k < r → p k = false)
  | 0, i => .inl ⟨rfl, fun k a b => by omega⟩
  | m + 1, i => by
    unfold nxF
    cases e : p i with
    | true => exact .inr ⟨i, by rw [if_pos rfl], Nat.le_refl _, by omega, e, fun k a b => by omega⟩
    | false =>
      rw [if_neg (by simp)]
      have key : ∀ k, i ≤ k → (i + 1 ≤ k → p k = false) → p k = false := fun k a g => by
        by_cases ek : k = i
        · rw [ek]; exact e
        · exact g (by omega)
      rcases nxF_is m (i + 1) with ⟨a, b⟩ | ⟨r, a, b, c, d, f⟩
      · exact .inl ⟨a, fun k h1 h2 => key k h1 fun h => b k h (by omega)⟩
      · exact .inr ⟨r, a, by omega, by omega, d, fun k h1 h2 => key k h1 fun h => f k h h2⟩

/-- the last one of p below m -/
def lsF (p : Nat → Bool) : Nat → Option Nat
  | 0 => none
  | m + 1 => if p m then some m else lsF p m

theorem lsF_some {p : Nat → Bool} {r : Nat} : ∀ m, r < m → p r = true → (∀ k, r < k → k < m → p k = false) → lsF p m = some r
  | 0, h, _, _ => by omega
  | m + 1, h, h3, h4 => by
    unfold lsF
    by_cases e : r = m
    · subst e; rw [if_pos h3]
    · rw [h4 m (by omega) (by omega), if_neg (by simp)]
      exact lsF_some m (by omega) h3 fun k a b => h4 k a (by omega)

theorem lsF_none {p : Nat → Bool} : ∀ m, (∀ k, k < m → p k = false) → lsF p m = none
  | 0, _ => rfl
  | m + 1, h => by
    unfold lsF
    rw [h m (by omega), if_neg (by simp)]
    exact lsF_none m fun k b => h k (by omega)

theorem lsF_is {p : Nat → Bool} : ∀ m, (lsF p m = none ∧ ∀ k, k < m → p k = false) ∨ (∃ r, lsF p m = some r ∧ r < m ∧ p r = true ∧ ∀ k, r < k → k < m → p k = false)
  | 0 => .inl ⟨rfl, fun k b => by omega⟩
  | m + 1 => by
    unfold lsF
    cases e : p m with
    | true => exact .inr ⟨m, by rw [if_pos rfl], by omega, e, fun k a b => by omega⟩
    | false =>
      rw [if_neg (by simp)]
      have key : ∀ k, k < m + 1 → (k < m → p k = false) → p k = false := fun k a g => by
        by_cases ek : k = m
        · rw [ek]; exact e
        · exact g (by omega)
      rcases lsF_is m with ⟨a, b⟩ | ⟨r, a, c, d, f⟩
      · exact .inl ⟨a, fun k h2 => key k h2 fun h => b k h⟩
      · exact .inr ⟨r, a, by omega, d, fun k h1 h2 => key k h2 fun h => f k h1 h⟩

def oV (r : Option Nat) : Value := .tuple #[.int .i64 ((r.getD 0 : Nat) : Int), .bool r.isSome]

/-- in one word -/
theorem nx_word (x fr : Nat) (hx : x < 18446744073709551616) (hf : fr < 64) :
    (Lib.ctz 64 (x &&& runN fr 64) = 64 ∧ ∀ k, fr ≤ k → k < 64 → x.testBit k = false) ∨
    (Lib.ctz 64 (x &&& runN fr 64) < 64 ∧ fr ≤ Lib.ctz 64 (x &&& runN fr 64) ∧ x.testBit (Lib.ctz 64 (x &&& runN fr 64)) = true ∧ ∀ k, fr ≤ k → k < Lib.ctz 64 (x &&& runN fr 64) → x.testBit k = false) := by
  have hb : ∀ k, k < 64 → (x &&& runN fr 64).testBit k = (x.testBit k && decide (fr ≤ k)) := fun k hk => by
    rw [Nat.testBit_and, runN_bit, decide_eq_true hk, Bool.true_and]
    congr 1
    rw [decide_eq_decide]; omega
  by_cases h0 : x &&& runN fr 64 = 0
  · refine .inl ⟨by rw [h0]; rfl, fun k h1 h2 => ?_⟩
    have := hb k h2
    rw [h0, Nat.zero_testBit, decide_eq_true h1, Bool.and_true] at this
    exact this.symm
  · obtain ⟨a, b, c⟩ := ctz_is (x &&& runN fr 64) (Nat.lt_of_le_of_lt Nat.and_le_left hx) h0
    generalize Lib.ctz 64 (x &&& runN fr 64) = z at *
    have := hb z b
    rw [a] at this
    have t := (Bool.and_eq_true _ _).mp this.symm
    refine .inr ⟨b, by simpa using t.2, t.1, fun k h1 h2 => ?_⟩
    have g := hb k (by omega)
    rw [c k h2, decide_eq_true h1, Bool.and_true] at g
    exact g.symm

theorem ls_word (x bl : Nat) (hx : x < 18446744073709551616) (hb : bl ≤ 64) :
    (Lib.bitLen (x &&& runN 0 bl) = 0 ∧ ∀ k, k < bl → x.testBit k = false) ∨
    (∃ c, Lib.bitLen (x &&& runN 0 bl) = c + 1 ∧ c < bl ∧ x.testBit c = true ∧ ∀ k, c < k → k < bl → x.testBit k = false) := by
  have hbit : ∀ k, k < 64 → (x &&& runN 0 bl).testBit k = (x.testBit k && decide (k < bl)) := fun k hk => by
    rw [Nat.testBit_and, runN_bit, decide_eq_true hk, Bool.true_and]
    congr 1
    rw [decide_eq_decide]; omega
  by_cases h0 : x &&& runN 0 bl = 0
  · refine .inl ⟨by rw [h0]; rfl, fun k h2 => ?_⟩
    have := hbit k (by omega)
    rw [h0, Nat.zero_testBit, decide_eq_true h2, Bool.and_true] at this
    exact this.symm
  · have hlt : x &&& runN 0 bl < 2 ^ 64 := Nat.lt_of_le_of_lt Nat.and_le_left hx
    obtain ⟨a, b, c⟩ := len_is (x &&& runN 0 bl) hlt h0
    generalize Lib.bitLen (x &&& runN 0 bl) = z at *
    have hz : z - 1 < 64 := by
      rcases Nat.lt_or_ge (z - 1) 64 with h | h
      · exact h
      · exfalso
        have := Nat.testBit_lt_two_pow (Nat.lt_of_lt_of_le hlt (Nat.pow_le_pow_right (by decide) h))
        rw [b] at this; cases this
    have := hbit (z - 1) hz
    rw [b] at this
    have t := (Bool.and_eq_true _ _).mp this.symm
    have t2 : z - 1 < bl := by simpa using t.2
    refine .inr ⟨z - 1, by omega, t2, t.1, fun k h1 h2 => ?_⟩
    have g := hbit k (by omega)
    rw [c k (by omega), decide_eq_true h2, Bool.and_true] at g
    exact g.symm

theorem us_bit (b : Nat → Bool) (i j : Nat) (hj : j < 64) : (us b i).testBit j = (wd b (64 * i + j) != 0) := by
  unfold us
  rw [ob_bit, decide_eq_true hj, Bool.true_and]

theorem wd_none {b : Nat → Bool} {i : Nat} (h : wd b i = 0) (j : Nat) (hj : j < 64) : b (64 * i + j) = false := by
  rw [← wd_bit b i j hj, h]; exact Nat.zero_testBit j

theorem wd_some {b : Nat → Bool} {i : Nat} (h : wd b i ≠ 0) : ∃ j, j < 64 ∧ b (64 * i + j) = true := by
  obtain ⟨a, b', _⟩ := ctz_is (wd b i) (wd_lt b i) h
  exact ⟨_, b', by rw [← wd_bit b i _ b']; exact a⟩

end Go.Proofs.YtaaapbfhedgnjaaDoor.BV
