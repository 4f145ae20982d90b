/- Floats by their bits: the order of two floats is that of their signed rungs. Plain numbers. -/
import Ieee.Arith
namespace Ieee

/-- the least unit's multiple that a rung is -/
def rv (r : Nat) : Nat := if r < 2 ^ 52 then r else (2 ^ 52 + r % 2 ^ 52) * 2 ^ (r / 2 ^ 52 - 1)

theorem rv_mono {r s : Nat} (h : r < s) : rv r < rv s := by
  unfold rv
  by_cases hr : r < 2 ^ 52
  · rw [if_pos hr]
    by_cases hs : s < 2 ^ 52
    · rw [if_pos hs]; exact h
    · rw [if_neg hs]
      have : 2 ^ 52 ≤ (2 ^ 52 + s % 2 ^ 52) * 2 ^ (s / 2 ^ 52 - 1) :=
        Nat.le_trans (by omega : 2 ^ 52 ≤ 2 ^ 52 + s % 2 ^ 52) (Nat.le_mul_of_pos_right _ (Nat.two_pow_pos _))
      omega
  · have hs : ¬ s < 2 ^ 52 := by omega
    rw [if_neg hr, if_neg hs]
    by_cases he : r / 2 ^ 52 = s / 2 ^ 52
    · rw [he]
      exact Nat.mul_lt_mul_of_pos_right (by omega) (Nat.two_pow_pos _)
    · have hlt : r / 2 ^ 52 < s / 2 ^ 52 := by omega
      have e1 : 1 ≤ r / 2 ^ 52 := by omega
      have a1 : (2 ^ 52 + r % 2 ^ 52) * 2 ^ (r / 2 ^ 52 - 1) < 2 ^ 53 * 2 ^ (r / 2 ^ 52 - 1) :=
        Nat.mul_lt_mul_of_pos_right (by omega) (Nat.two_pow_pos _)
      have a2 : 2 ^ 53 * 2 ^ (r / 2 ^ 52 - 1) = 2 ^ 52 * 2 ^ (r / 2 ^ 52) := by
        rw [show (2 : Nat) ^ 53 = 2 ^ 52 * 2 by rfl, Nat.mul_assoc, ← Nat.pow_succ']
        congr 2; omega
      have a3 : 2 ^ 52 * 2 ^ (r / 2 ^ 52) ≤ 2 ^ 52 * 2 ^ (s / 2 ^ 52 - 1) :=
        Nat.mul_le_mul_left _ (Nat.pow_le_pow_right (by omega) (by omega))
      have a4 : 2 ^ 52 * 2 ^ (s / 2 ^ 52 - 1) ≤ (2 ^ 52 + s % 2 ^ 52) * 2 ^ (s / 2 ^ 52 - 1) :=
        Nat.mul_le_mul_right _ (by omega)
      omega

/-- the signed rung -/
def srung (a : Nat) : Int := if 2 ^ 63 ≤ a then -((a - 2 ^ 63 : Nat) : Int) else a

def infR : Nat := 0x7FF0000000000000

theorem compare_int_mul (a b : Int) (k : Nat) : compare (a * 2 ^ k) (b * 2 ^ k) = compare a b := by
  have hp : (0 : Int) < 2 ^ k := Int.pow_pos (by omega)
  rcases Int.lt_trichotomy a b with h | h | h
  · have := Int.mul_lt_mul_of_pos_right h hp
    rw [Std.compare_eq_lt.2 h, Std.compare_eq_lt.2 this]
  · subst h; rw [Std.compare_self, Std.compare_self]
  · have := Int.mul_lt_mul_of_pos_right h hp
    rw [Std.compare_eq_gt.2 h, Std.compare_eq_gt.2 this]

/-- signed value of a rung -/
def sval (neg : Bool) (r : Nat) : Int := if neg then -(rv r : Int) else rv r

theorem read_eq (a : Nat) (ha : a < 2 ^ 64) : double.read a =
    let neg := decide (2 ^ 63 ≤ a)
    let r := a % 2 ^ 63
    if r < 2 ^ 52 then .number neg r (-1074)
    else if r < infR then .number neg (2 ^ 52 + r % 2 ^ 52) (-1074 + (r / 2 ^ 52 - 1 : Nat))
    else if r = infR then .infinity neg
    else .nan neg (r - infR) := by
  have hn : (a / 2 ^ 63 % 2 == 1) = decide (2 ^ 63 ≤ a) := by
    rw [Bool.eq_iff_iff]; simp only [beq_iff_eq, decide_eq_true_eq]; omega
  show (let neg := a / 2 ^ 63 % 2 == 1
        let rung := a % 2 ^ 63
        if rung < 2 ^ 52 then Datum.number neg rung (-1074)
        else if rung < infR then
          .number neg (2 ^ 52 + rung % 2 ^ 52) (-1074 + (rung / 2 ^ 52 - 1 : Nat))
        else if rung = infR then .infinity neg
        else .nan neg (rung - infR)) = _
  simp only [hn]

/-- a number datum stands for its signed value, in least units -/
theorem order_numbers (s t : Bool) (m n : Nat) (x y : Nat) :
    (Datum.number s m (-1074 + (x : Int))).order (.number t n (-1074 + (y : Int))) = some (compare (if s then -((m * 2 ^ x : Nat) : Int) else (m * 2 ^ x : Nat)) (if t then -((n * 2 ^ y : Nat) : Int) else (n * 2 ^ y : Nat))) := by
  unfold Datum.order
  simp only [signed, Nat.shiftLeft_eq]
  congr 1
  have key : ∀ (neg : Bool) (k z b : Nat), b ≤ z → (if neg then -((k * 2 ^ z : Nat) : Int) else ((k * 2 ^ z : Nat) : Int)) = (if neg then -((k * 2 ^ (z - b) : Nat) : Int) else ((k * 2 ^ (z - b) : Nat) : Int)) * 2 ^ b := by
    intro neg k z b hb
    have : k * 2 ^ z = k * 2 ^ (z - b) * 2 ^ b := by rw [Nat.mul_assoc, ← Nat.pow_add]; congr 2; omega
    cases neg <;> simp [this, Int.neg_mul]
  rcases Nat.le_total x y with h | h
  · have e : min (-1074 + (x : Int)) (-1074 + (y : Int)) = -1074 + (x : Int) := by omega
    rw [e, show (-1074 + (x : Int) - (-1074 + (x : Int))).toNat = x - x by omega, show (-1074 + (y : Int) - (-1074 + (x : Int))).toNat = y - x by omega]
    rw [key s m x x (Nat.le_refl _), key t n y x h, compare_int_mul]
  · have e : min (-1074 + (x : Int)) (-1074 + (y : Int)) = -1074 + (y : Int) := by omega
    rw [e, show (-1074 + (x : Int) - (-1074 + (y : Int))).toNat = x - y by omega, show (-1074 + (y : Int) - (-1074 + (y : Int))).toNat = y - y by omega]
    rw [key s m x y h, key t n y y (Nat.le_refl _), compare_int_mul]

theorem read_num (a : Nat) (ha : a < 2 ^ 64) (h : a % 2 ^ 63 < infR) : ∃ m x : Nat, double.read a = .number (decide (2 ^ 63 ≤ a)) m (-1074 + (x : Int)) ∧ m * 2 ^ x = rv (a % 2 ^ 63) := by
  rw [read_eq a ha]
  simp only
  unfold rv
  by_cases hr : a % 2 ^ 63 < 2 ^ 52
  · rw [if_pos hr, if_pos hr]
    exact ⟨_, 0, rfl, by simp⟩
  · rw [if_neg hr, if_pos h, if_neg hr]
    exact ⟨_, _, rfl, rfl⟩

theorem rv_le_iff {r s : Nat} : rv r ≤ rv s ↔ r ≤ s := by
  constructor
  · intro h; apply Nat.le_of_not_lt; intro g; have := rv_mono g; omega
  · intro h; rcases Nat.lt_or_ge r s with g | g
    · exact Nat.le_of_lt (rv_mono g)
    · have : r = s := by omega
      subst this; exact Nat.le_refl _

theorem rv_zero : rv 0 = 0 := by unfold rv; simp

theorem cmp_of (x y u v : Int) (h1 : x < y → u < v) (h2 : y < x → v < u) (h3 : x = y → u = v) : compare u v = compare x y := by
  rcases Int.lt_trichotomy x y with h | h | h
  · rw [Std.compare_eq_lt.2 h, Std.compare_eq_lt.2 (h1 h)]
  · rw [h3 h, h, Std.compare_self, Std.compare_self]
  · rw [Std.compare_eq_gt.2 h, Std.compare_eq_gt.2 (h2 h)]

theorem sval_cmp (a b : Nat) (ha : a < 2 ^ 64) (hb : b < 2 ^ 64) :
    compare (if decide (2 ^ 63 ≤ a) then -((rv (a % 2 ^ 63) : Nat) : Int) else (rv (a % 2 ^ 63) : Nat)) (if decide (2 ^ 63 ≤ b) then -((rv (b % 2 ^ 63) : Nat) : Int) else (rv (b % 2 ^ 63) : Nat)) = compare (srung a) (srung b) := by
  unfold srung
  have m1 : ∀ {r s : Nat}, r < s → rv r < rv s := fun h => rv_mono h
  have z := rv_zero
  have pos : ∀ r, 0 < r → 0 < rv r := fun r h => by have := rv_mono h; omega
  generalize hx : a % 2 ^ 63 = x
  generalize hy : b % 2 ^ 63 = y
  have xy := @rv_mono x y
  have yx := @rv_mono y x
  have px := pos x
  have py := pos y
  have ex : x = 0 → rv x = 0 := fun h => by rw [h]; exact z
  have ey : y = 0 → rv y = 0 := fun h => by rw [h]; exact z
  have exy : x = y → rv x = rv y := fun h => by rw [h]
  by_cases h1 : 2 ^ 63 ≤ a <;> by_cases h2 : 2 ^ 63 ≤ b <;> simp only [h1, h2, if_true, if_false, decide_true, decide_false, Bool.false_eq_true] <;> refine cmp_of _ _ _ _ ?_ ?_ ?_ <;> intro h <;> omega

/-- The order of two floats, by their bits. -/
theorem order_bits (a b : Nat) (ha : a < 2 ^ 64) (hb : b < 2 ^ 64) : double.order a b = if a % 2 ^ 63 ≤ infR ∧ b % 2 ^ 63 ≤ infR then some (compare (srung a) (srung b)) else none := by
  unfold Format.order
  have rdI : ∀ a, a < 2 ^ 64 → a % 2 ^ 63 = infR → double.read a = .infinity (decide (2 ^ 63 ≤ a)) := by
    intro a ha h
    rw [read_eq a ha]
    simp only
    rw [if_neg (by unfold infR at h; omega), if_neg (by omega), if_pos h]
  have rdN : ∀ a, a < 2 ^ 64 → ¬ a % 2 ^ 63 ≤ infR → ∃ n f, double.read a = .nan n f := by
    intro a ha h
    rw [read_eq a ha]
    simp only
    rw [if_neg (by unfold infR at h; omega), if_neg (by omega), if_neg (by omega)]
    exact ⟨_, _, rfl⟩
  by_cases na : a % 2 ^ 63 ≤ infR
  · by_cases nb : b % 2 ^ 63 ≤ infR
    · rw [if_pos ⟨na, nb⟩]
      by_cases ia : a % 2 ^ 63 = infR
      · rw [rdI a ha ia]
        by_cases ib : b % 2 ^ 63 = infR
        · rw [rdI b hb ib]
          unfold srung infR at *
          by_cases h1 : 2 ^ 63 ≤ a <;> by_cases h2 : 2 ^ 63 ≤ b <;> simp only [h1, h2, Datum.order, if_true, if_false, decide_true, decide_false]
          · exact congrArg some (Std.compare_self.trans (by rw [show a = b by omega, Std.compare_self]))
          · exact congrArg some (Eq.trans (b := .lt) (by decide) (Std.compare_eq_lt.2 (by omega)).symm)
          · exact congrArg some (Eq.trans (b := .gt) (by decide) (Std.compare_eq_gt.2 (by omega)).symm)
          · exact congrArg some (Std.compare_self.trans (by rw [show a = b by omega, Std.compare_self]))
        · obtain ⟨m, x, e, hv⟩ := read_num b hb (by omega)
          rw [e]
          unfold srung infR at *
          by_cases h1 : 2 ^ 63 ≤ a <;> simp only [h1, Datum.order, if_true, if_false, decide_true, decide_false, Bool.false_eq_true]
          · exact congrArg some (Std.compare_eq_lt.2 (by split <;> omega)).symm
          · exact congrArg some (Std.compare_eq_gt.2 (by split <;> omega)).symm
      · obtain ⟨m, x, e, hv⟩ := read_num a ha (by omega)
        rw [e]
        by_cases ib : b % 2 ^ 63 = infR
        · rw [rdI b hb ib]
          unfold srung infR at *
          by_cases h1 : 2 ^ 63 ≤ b <;> simp only [h1, Datum.order, if_true, if_false, decide_true, decide_false, Bool.false_eq_true]
          · exact congrArg some (Std.compare_eq_gt.2 (by split <;> omega)).symm
          · exact congrArg some (Std.compare_eq_lt.2 (by split <;> omega)).symm
        · obtain ⟨n, y, e2, hv2⟩ := read_num b hb (by omega)
          rw [e2, order_numbers, hv, hv2, sval_cmp a b ha hb]
    · rw [if_neg (fun h => nb h.2)]
      obtain ⟨n, f, e⟩ := rdN b hb nb
      rw [e]
      cases double.read a <;> rfl
  · rw [if_neg (fun h => na h.1)]
    obtain ⟨n, f, e⟩ := rdN a ha na
    rw [e]
    cases double.read b <;> rfl

end Ieee
