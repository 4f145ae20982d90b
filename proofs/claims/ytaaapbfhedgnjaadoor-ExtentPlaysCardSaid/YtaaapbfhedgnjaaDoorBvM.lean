/- A vector of bits (layer 11): runs of bits, as plain numbers. -/
import Derived.Test.YtaaapbfhedgnjaaDoorBvE
namespace Go.Proofs.YtaaapbfhedgnjaaDoor.BV
open Go.ChangeShapes Go.WideShapes Go.ChangeAt Go.RowKit

/-- is j one of n bits, and in the run from x to y? -/
def inR (n : Nat) (x y : Int) (j : Nat) : Bool := decide (x ≤ (j : Int) ∧ (j : Int) < y) && decide (j < n)

theorem inR_iff {n : Nat} {x y : Int} {j : Nat} : inR n x y j = true ↔ (x ≤ (j : Int) ∧ (j : Int) < y ∧ j < n) := by
  unfold inR
  rw [Bool.and_eq_true, decide_eq_true_eq, decide_eq_true_eq]
  omega

theorem inR_not {n : Nat} {x y : Int} {j : Nat} (h : ¬ (x ≤ (j : Int) ∧ (j : Int) < y ∧ j < n)) : inR n x y j = false := by
  cases e : inR n x y j with
  | false => rfl
  | true => exact absurd (inR_iff.1 e) h

theorem mask_bit {n f t : Nat} {x y : Int} (hf : max x 0 = (f : Int)) (ht : min y n = (t : Int)) (k j : Nat) (hj : j < 64) : (runN ((f : Int) - (k : Int) * 64) ((t : Int) - (k : Int) * 64)).testBit j = inR n x y (64 * k + j) := by
  rw [runN_bit, decide_eq_true hj, Bool.true_and, Bool.eq_iff_iff, decide_eq_true_eq, inR_iff]
  omega

theorem cp_add (p : Nat → Bool) (a : Nat) : ∀ n, cp p (a + n) = cp p a + cp (fun j => p (a + j)) n
  | 0 => rfl
  | n + 1 => by
    show cp p (a + n) + (p (a + n)).toNat = cp p a + (cp (fun j => p (a + j)) n + (p (a + n)).toNat)
    rw [cp_add p a n]; omega

theorem cp_none (p : Nat → Bool) : ∀ n, (∀ j, j < n → p j = false) → cp p n = 0
  | 0, _ => rfl
  | n + 1, h => by
    show cp p n + (p n).toNat = 0
    rw [cp_none p n fun j hj => h j (by omega), h n (by omega)]; rfl

theorem cp_tail (p : Nat → Bool) {a b : Nat} (hab : a ≤ b) (h : ∀ j, a ≤ j → p j = false) : cp p b = cp p a := by
  obtain ⟨d, rfl⟩ := Nat.exists_eq_add_of_le hab
  rw [cp_add, cp_none _ d fun j _ => h (a + j) (by omega)]; omega

theorem not_bit (w j : Nat) (hw : w < 18446744073709551616) (hj : j < 64) : (18446744073709551615 - w).testBit j = !w.testBit j := by
  rw [show 18446744073709551615 - w = 2 ^ 64 - (w + 1) by omega, Nat.testBit_two_pow_sub_succ (by omega), decide_eq_true hj, Bool.true_and]

theorem cnt_all (x : Nat) (q : Nat → Bool) (h : ∀ j, j < 64 → x.testBit j = q j) : cnt (x &&& runN 0 64) 64 = cp q 64 := by
  rw [cnt_cp]
  refine cp_congr 64 fun j hj => ?_
  rw [Nat.testBit_and, runN_bit, h j hj, decide_eq_true hj, Bool.true_and, decide_eq_true (show (0 : Int) ≤ (j : Int) ∧ (j : Int) < 64 by omega), Bool.and_true]

theorem cp64 (q : Nat → Bool) : cp q 64 ≤ 64 := cp_le q 64

/-- the bits of the run that lie below m are z -/
def laidB (b : Nat → Bool) (n : Nat) (x y : Int) (z : Bool) (m : Nat) (j : Nat) : Bool := if inR n x y j && decide (j < m) then z else b j

theorem laidB_at {b : Nat → Bool} {n : Nat} {x y : Int} {z : Bool} (k j : Nat) : laidB b n x y z (64 * k) (64 * k + j) = b (64 * k + j) := by
  unfold laidB
  rw [decide_eq_false (by omega : ¬ (64 * k + j < 64 * k)), Bool.and_false]; rfl

theorem laidB_next {b : Nat → Bool} {n : Nat} {x y : Int} {z : Bool} (k j : Nat) (hj : j < 64) : laidB b n x y z (64 * (k + 1)) (64 * k + j) = if inR n x y (64 * k + j) then z else b (64 * k + j) := by
  unfold laidB
  rw [decide_eq_true (by omega : 64 * k + j < 64 * (k + 1)), Bool.and_true]

theorem laidB_other {b : Nat → Bool} {n : Nat} {x y : Int} {z : Bool} (k i : Nat) (hi : i ≠ k) : wd (laidB b n x y z (64 * (k + 1))) i = wd (laidB b n x y z (64 * k)) i :=
  wd_congr fun j hj => by
    unfold laidB
    rw [show decide (64 * i + j < 64 * (k + 1)) = decide (64 * i + j < 64 * k) by rw [decide_eq_decide]; omega]

section
variable {b : Nat → Bool} {n f t : Nat} {x y : Int}

theorem laid_or (hf : max x 0 = (f : Int)) (ht : min y n = (t : Int)) (k : Nat) :
    wd (laidB b n x y true (64 * (k + 1))) k = wd (laidB b n x y true (64 * k)) k ||| runN ((f : Int) - (k : Int) * 64) ((t : Int) - (k : Int) * 64) := by
  refine eq_bits _ _ (wd_lt _ _) (Nat.or_lt_two_pow (n := 64) (wd_lt _ _) (runN_lt _ _)) fun j hj => ?_
  rw [Nat.testBit_or, wd_bit _ _ _ hj, wd_bit _ _ _ hj, mask_bit hf ht k j hj, laidB_next k j hj, laidB_at]
  cases inR n x y (64 * k + j) <;> simp

theorem laid_andn (hf : max x 0 = (f : Int)) (ht : min y n = (t : Int)) (k : Nat) :
    wd (laidB b n x y false (64 * (k + 1))) k = wd (laidB b n x y false (64 * k)) k &&& (18446744073709551615 - runN ((f : Int) - (k : Int) * 64) ((t : Int) - (k : Int) * 64)) := by
  refine eq_bits _ _ (wd_lt _ _) (Nat.lt_of_le_of_lt Nat.and_le_left (wd_lt _ _)) fun j hj => ?_
  rw [Nat.testBit_and, not_bit _ _ (runN_lt _ _) hj, wd_bit _ _ _ hj, wd_bit _ _ _ hj, mask_bit hf ht k j hj, laidB_next k j hj, laidB_at]
  cases inR n x y (64 * k + j) <;> simp

/-- which bits of the run were not z -/
def offR (b : Nat → Bool) (n : Nat) (x y : Int) (z : Bool) (j : Nat) : Bool := inR n x y j && (b j != z)
/-- which bits of the run are 1 -/
def onR (b : Nat → Bool) (n : Nat) (x y : Int) (j : Nat) : Bool := inR n x y j && b j

theorem cnt_fill (hf : max x 0 = (f : Int)) (ht : min y n = (t : Int)) (k : Nat) :
    cnt ((runN ((f : Int) - (k : Int) * 64) ((t : Int) - (k : Int) * 64) &&& (18446744073709551615 - wd (laidB b n x y true (64 * k)) k)) &&& runN 0 64) 64 = cp (fun j => offR b n x y true (64 * k + j)) 64 :=
  cnt_all _ _ fun j hj => by
    rw [Nat.testBit_and, not_bit _ _ (wd_lt _ _) hj, wd_bit _ _ _ hj, mask_bit hf ht k j hj, laidB_at]
    unfold offR
    cases b (64 * k + j) <;> rfl

theorem cnt_wipe (hf : max x 0 = (f : Int)) (ht : min y n = (t : Int)) (k : Nat) :
    cnt ((runN ((f : Int) - (k : Int) * 64) ((t : Int) - (k : Int) * 64) &&& wd (laidB b n x y false (64 * k)) k) &&& runN 0 64) 64 = cp (fun j => offR b n x y false (64 * k + j)) 64 :=
  cnt_all _ _ fun j hj => by
    rw [Nat.testBit_and, wd_bit _ _ _ hj, mask_bit hf ht k j hj, laidB_at]
    unfold offR
    cases b (64 * k + j) <;> rfl

theorem cnt_count (hf : max x 0 = (f : Int)) (ht : min y n = (t : Int)) (k : Nat) :
    cnt ((wd b k &&& runN ((f : Int) - (k : Int) * 64) ((t : Int) - (k : Int) * 64)) &&& runN 0 64) 64 = cp (fun j => onR b n x y (64 * k + j)) 64 :=
  cnt_all _ _ fun j hj => by
    rw [Nat.testBit_and, wd_bit _ _ _ hj, mask_bit hf ht k j hj]
    unfold onR
    rw [Bool.and_comm]

theorem inR_low (hf : max x 0 = (f : Int)) {j : Nat} (h : j < 64 * (f / 64)) : inR n x y j = false := inR_not (by omega)
theorem inR_high (ht : min y n = (t : Int)) {j : Nat} (h : 64 * ((t - 1) / 64 + 1) ≤ j) : inR n x y j = false := inR_not (by omega)

theorem laid_first (hf : max x 0 = (f : Int)) (z : Bool) : laidB b n x y z (64 * (f / 64)) = b := by
  funext j
  unfold laidB
  by_cases h : j < 64 * (f / 64)
  · rw [inR_low hf h]; rfl
  · rw [decide_eq_false h, Bool.and_false]; rfl

theorem laid_last (ht : min y n = (t : Int)) (z : Bool) : laidB b n x y z (64 * ((t - 1) / 64 + 1)) = fun j => if inR n x y j then z else b j := by
  funext j
  unfold laidB
  by_cases h : j < 64 * ((t - 1) / 64 + 1)
  · rw [decide_eq_true h, Bool.and_true]
  · rw [inR_high ht (by omega)]; rfl
end

/-- the run is z now -/
def Bits.lay (v : Bits) (x y : Int) (z : Bool) : Bits := { v with b := fun j => if inR v.n x y j then z else v.b j }

theorem Bits.ok.lay {v : Bits} (h : v.ok) (x y : Int) (z : Bool) : (v.lay x y z).ok :=
  ⟨h.n1, h.n2, fun j hj => by
    have hj' : v.n ≤ j := hj
    show (if inR v.n x y j then z else v.b j) = false
    rw [inR_not (by omega), if_neg (by simp)]; exact h.far j hj'⟩

theorem Bits.ok.laid {v : Bits} (h : v.ok) (x y : Int) (z : Bool) (m : Nat) : ({ v with b := laidB v.b v.n x y z m } : Bits).ok :=
  ⟨h.n1, h.n2, fun j hj => by
    have hj' : v.n ≤ j := hj
    show laidB v.b v.n x y z m j = false
    unfold laidB
    rw [inR_not (by omega), Bool.false_and, if_neg (by simp)]; exact h.far j hj'⟩

end Go.Proofs.YtaaapbfhedgnjaaDoor.BV
