/- The order of floats, plain: what < tells of bits, what is next. -/
import Derived.Test.YtflkbefiopnigaaDoorFlC
import Derived.Test.YtflkbefiopnigaaDoorFlMath
namespace Go.Proofs.YtflkbefiopnigaaDoor
open Ieee

def ltB (a b : Nat) : Bool := Ieee.double.order a b == some .lt
def gtB (a b : Nat) : Bool := Ieee.double.order a b == some .gt

theorem ltB_of (a b : Nat) (ha : a < 18446744073709551616) (hb : b < 18446744073709551616) : ltB a b = decide (a % 9223372036854775808 ≤ infR ∧ b % 9223372036854775808 ≤ infR ∧ srung a < srung b) := by
  unfold ltB
  rw [order_bits a b ha hb, show (2 : Nat) ^ 63 = 9223372036854775808 by rfl]
  by_cases h : a % 9223372036854775808 ≤ infR ∧ b % 9223372036854775808 ≤ infR
  · rw [if_pos h, Bool.eq_iff_iff]
    simp only [beq_iff_eq, Option.some.injEq, Std.compare_eq_lt, decide_eq_true_eq]
    exact ⟨fun g => ⟨h.1, h.2, g⟩, fun g => g.2.2⟩
  · rw [if_neg h]
    symm
    rw [show (none == some Ordering.lt) = false by rfl]
    exact decide_eq_false fun g => h ⟨g.1, g.2.1⟩

theorem gtB_of (a b : Nat) (ha : a < 18446744073709551616) (hb : b < 18446744073709551616) : gtB a b = ltB b a := by
  rw [ltB_of b a hb ha]
  unfold gtB
  rw [order_bits a b ha hb, show (2 : Nat) ^ 63 = 9223372036854775808 by rfl]
  by_cases h : a % 9223372036854775808 ≤ infR ∧ b % 9223372036854775808 ≤ infR
  · rw [if_pos h, Bool.eq_iff_iff]
    simp only [beq_iff_eq, Option.some.injEq, Std.compare_eq_gt, decide_eq_true_eq]
    exact ⟨fun g => ⟨h.2, h.1, g⟩, fun g => g.2.2⟩
  · rw [if_neg h]
    symm
    rw [show (none == some Ordering.gt) = false by rfl]
    exact decide_eq_false fun g => h ⟨g.2.1, g.1⟩

theorem srung_rk (a b : Nat) (ha : a < 18446744073709551616) (hb : b < 18446744073709551616) (h : srung a < srung b) : rkN a < rkN b := by
  unfold srung at h
  unfold rkN sgB
  rw [show (2 : Nat) ^ 63 = 9223372036854775808 by rfl] at h
  by_cases h1 : 9223372036854775808 ≤ a <;> by_cases h2 : 9223372036854775808 ≤ b <;> simp only [h1, h2, if_true, if_false, decide_true, decide_false, Bool.false_eq_true, reduceIte] at h ⊢ <;> omega

theorem lt_before (a b : Nat) (ha : a < 18446744073709551616) (hb : b < 18446744073709551616) (h : ltB a b = true) : bfB a b = true := by
  rw [ltB_of a b ha hb] at h
  exact decide_eq_true (srung_rk a b ha hb (of_decide_eq_true h).2.2)

theorem rkN_inj (a b : Nat) (ha : a < 18446744073709551616) (hb : b < 18446744073709551616) (h : rkN a = rkN b) : a = b := by
  unfold rkN sgB at h
  by_cases h1 : 9223372036854775808 ≤ a <;> by_cases h2 : 9223372036854775808 ≤ b <;> simp only [h1, h2, if_true, if_false, decide_true, decide_false, Bool.false_eq_true, reduceIte] at h <;> omega

theorem before_refl (a : Nat) : bfB a a = false := decide_eq_false (by omega)
theorem before_asymm (a b : Nat) (h : bfB a b = true) : bfB b a = false := by
  have := of_decide_eq_true h
  exact decide_eq_false (by omega)
theorem before_trans (a b c : Nat) (h : bfB a b = true) (k : bfB b c = true) : bfB a c = true := by
  have := of_decide_eq_true h
  have := of_decide_eq_true k
  exact decide_eq_true (by omega)
theorem before_total (a b : Nat) (ha : a < 18446744073709551616) (hb : b < 18446744073709551616) (h : bfB a b = false) (k : bfB b a = false) : a = b := by
  have := of_decide_eq_false h
  have := of_decide_eq_false k
  exact rkN_inj a b ha hb (by omega)

/-- a nonzero number -/
def numB (a : Nat) : Prop := 0 < a % 9223372036854775808 ∧ a % 9223372036854775808 < infR

theorem kd_num (a : Nat) (h4 : ¬ kd a = 4) (h3 : ¬ kd a = 3) (h0 : ¬ kd a = 0) : numB a := by
  unfold kd kdx at h4 h3 h0
  unfold numB infR
  generalize a % 9223372036854775808 = x at *
  by_cases e0 : x = 0
  · rw [if_pos e0] at h0; exact absurd rfl h0
  rw [if_neg e0] at h3 h4
  by_cases e1 : x ≤ 4503599627370495
  · omega
  rw [if_neg e1] at h3 h4
  by_cases e2 : x < 9218868437227405312
  · omega
  rw [if_neg e2] at h3 h4
  by_cases e3 : x = 9218868437227405312
  · rw [if_pos e3] at h3; exact absurd rfl h3
  · rw [if_neg e3] at h4; exact absurd rfl h4

theorem num_kd (a : Nat) (h : numB a) : ¬ kd a = 4 ∧ ¬ kd a = 0 ∧ ¬ a = 9218868437227405312 := by
  unfold numB infR at h
  unfold kd kdx
  generalize hx : a % 9223372036854775808 = x at *
  refine ⟨?_, ?_, fun e => by subst e; omega⟩
  · rw [if_neg (by omega)]
    split
    · omega
    · rw [if_pos (by omega)]; omega
  · rw [if_neg (by omega)]
    split
    · omega
    · rw [if_pos (by omega)]; omega

theorem up_num (a : Nat) (ha : a < 18446744073709551616) (h : numB a) : srung (upN a) = srung a + 1 ∧ upN a % 9223372036854775808 ≤ infR := by
  obtain ⟨k1, k2, k3⟩ := num_kd a h
  unfold upN
  rw [if_neg (fun g => g.elim k1 k3), if_neg k2]
  unfold numB infR at h
  unfold srung sgB infR
  rw [show (2 : Nat) ^ 63 = 9223372036854775808 by rfl]
  by_cases h1 : 9223372036854775808 ≤ a
  · rw [if_pos (decide_eq_true h1), if_pos (show 9223372036854775808 ≤ a by omega)]
    constructor
    · split <;> omega
    · omega
  · rw [if_neg (show ¬ (decide (9223372036854775808 ≤ a) = true) by simpa using h1), if_neg (show ¬ 9223372036854775808 ≤ a by omega)]
    constructor
    · split <;> omega
    · omega

theorem ng_num (a : Nat) (ha : a < 18446744073709551616) : srung (ngN a) = - srung a ∧ ngN a % 9223372036854775808 = a % 9223372036854775808 := by
  unfold ngN srung sgB
  rw [show (2 : Nat) ^ 63 = 9223372036854775808 by rfl]
  by_cases h1 : 9223372036854775808 ≤ a
  · rw [if_pos (decide_eq_true h1), if_pos h1]
    constructor
    · split <;> omega
    · omega
  · rw [if_neg (show ¬ (decide (9223372036854775808 ≤ a) = true) by simpa using h1), if_neg h1]
    constructor
    · split <;> omega
    · omega

theorem down_num (a : Nat) (ha : a < 18446744073709551616) (h : numB a) : srung (dnN a) = srung a - 1 ∧ dnN a % 9223372036854775808 ≤ infR := by
  obtain ⟨k1, _, _⟩ := num_kd a h
  have n1 := ng_num a ha
  have hn : numB (ngN a) := by unfold numB; rw [n1.2]; exact h
  have l1 := ngN_lt a ha
  have u := up_num (ngN a) l1 hn
  have n2 := ng_num (upN (ngN a)) (upN_lt _ l1)
  unfold dnN
  rw [if_neg k1]
  constructor
  · rw [n2.1, u.1, n1.1]; omega
  · rw [n2.2]; exact u.2

theorem dnN_lt (a : Nat) (ha : a < 18446744073709551616) : dnN a < 18446744073709551616 := by
  unfold dnN
  split
  · exact ha
  · exact ngN_lt _ (upN_lt _ (ngN_lt a ha))

/-- a float that is no zero is told by its signed rung -/
theorem srung_inj (a b : Nat) (ha : a < 18446744073709551616) (hb : b < 18446744073709551616) (hz : 0 < a % 9223372036854775808) (h : srung a = srung b) : a = b := by
  unfold srung at h
  rw [show (2 : Nat) ^ 63 = 9223372036854775808 by rfl] at h
  by_cases h1 : 9223372036854775808 ≤ a <;> by_cases h2 : 9223372036854775808 ≤ b <;> simp only [h1, h2, if_true, if_false] at h <;> omega

theorem kd_zero (a : Nat) (h : ¬ kd a = 0) : 0 < a % 9223372036854775808 := by
  rcases Nat.eq_zero_or_pos (a % 9223372036854775808) with g | g
  · exact absurd (by unfold kd kdx; rw [if_pos g]) h
  · exact g

theorem srung_abs (a b : Nat) (ha : a < 18446744073709551616) (hb : b < 18446744073709551616) (h : srung a = srung b + 1 ∨ srung a = srung b - 1) : a % 9223372036854775808 ≤ b % 9223372036854775808 + 1 := by
  unfold srung at h
  rw [show (2 : Nat) ^ 63 = 9223372036854775808 by rfl] at h
  by_cases h1 : 9223372036854775808 ≤ a <;> by_cases h2 : 9223372036854775808 ≤ b <;> simp only [h1, h2, if_true, if_false] at h <;> omega

theorem down_up (a : Nat) (ha : a < 18446744073709551616) (h : numB a) (hk : ¬ kd (upN a) = 0) : dnN (upN a) = a := by
  have u := up_num a ha h
  have l := upN_lt a ha
  have hz := kd_zero _ hk
  by_cases hi : upN a % 9223372036854775808 < infR
  · have d := down_num (upN a) l ⟨hz, hi⟩
    exact (srung_inj a _ ha (dnN_lt _ l) h.1 (by rw [d.1, u.1]; omega)).symm
  · -- up is infinite
    have e : upN a % 9223372036854775808 = infR := by omega
    have k4 : ¬ kd (upN a) = 4 := by unfold kd kdx; rw [e]; decide
    have n1 := ng_num (upN a) l
    have l1 := ngN_lt _ l
    have a1 := srung_abs _ _ l ha (.inl u.1)
    unfold numB at h
    have pos : upN a = 9218868437227405312 := by
      have := u.1
      unfold srung infR at *
      rw [show (2 : Nat) ^ 63 = 9223372036854775808 by rfl] at this
      by_cases h1 : 9223372036854775808 ≤ upN a <;> by_cases h2 : 9223372036854775808 ≤ a <;> simp only [h1, h2, if_true, if_false] at this <;> omega
    have ea : a = 9218868437227405311 := by
      have := u.1
      rw [pos] at this
      unfold srung at this
      rw [show (2 : Nat) ^ 63 = 9223372036854775808 by rfl] at this
      rw [if_neg (by decide)] at this
      unfold infR at h
      by_cases h2 : 9223372036854775808 ≤ a <;> simp only [h2, if_true, if_false] at this <;> omega
    rw [pos, ea]
    decide

theorem up_ng (a : Nat) (ha : a < 18446744073709551616) : ngN (ngN a) = a := by
  unfold ngN sgB
  by_cases h1 : 9223372036854775808 ≤ a
  · rw [if_pos (decide_eq_true h1), if_neg (by simp only [decide_eq_true_eq]; omega)]; omega
  · rw [if_neg (show ¬ (decide (9223372036854775808 ≤ a) = true) by simpa using h1), if_pos (decide_eq_true (by omega))]; omega

theorem kd_ng (a : Nat) (ha : a < 18446744073709551616) : kd (ngN a) = kd a := by
  unfold kd; rw [(ng_num a ha).2]

theorem up_down (a : Nat) (ha : a < 18446744073709551616) (h : numB a) (hk : ¬ kd (dnN a) = 0) : upN (dnN a) = a := by
  obtain ⟨k1, _, _⟩ := num_kd a h
  have l1 := ngN_lt a ha
  have hn : numB (ngN a) := by unfold numB; rw [(ng_num a ha).2]; exact h
  have l2 := upN_lt _ l1
  unfold dnN at hk ⊢
  rw [if_neg k1] at hk ⊢
  rw [kd_ng _ l2] at hk
  have d := down_up (ngN a) l1 hn hk
  unfold dnN at d
  have k4 : ¬ kd (upN (ngN a)) = 4 := by
    have u := up_num (ngN a) l1 hn
    have := u.2
    intro e
    unfold kd kdx at e
    unfold infR at this
    generalize upN (ngN a) % 9223372036854775808 = x at *
    repeat' split at e
    all_goals omega
  rw [if_neg k4] at d
  have := congrArg ngN d
  rw [up_ng _ (upN_lt _ (ngN_lt _ l2)), up_ng a ha] at this
  exact this

theorem near_no (a g : Nat) (ha : a < 18446744073709551616) (hg : g < 18446744073709551616) (h : numB a) : ltB (upN a) a = false ∧ gtB (upN a) a = true ∧ ltB (dnN a) a = true ∧ (ltB a g = true → ltB g (upN a) = false) ∧ (ltB (dnN a) g = true → ltB g a = false) := by
  have u := up_num a ha h
  have d := down_num a ha h
  have lu := upN_lt a ha
  have ld := dnN_lt a ha
  have h' : a % 9223372036854775808 ≤ infR := Nat.le_of_lt h.2
  refine ⟨?_, ?_, ?_, ?_, ?_⟩
  · rw [ltB_of _ _ lu ha]; exact decide_eq_false (fun x => by have := x.2.2; rw [u.1] at this; omega)
  · rw [gtB_of _ _ lu ha, ltB_of _ _ ha lu]; exact decide_eq_true ⟨h', u.2, by rw [u.1]; omega⟩
  · rw [ltB_of _ _ ld ha]; exact decide_eq_true ⟨d.2, h', by rw [d.1]; omega⟩
  · rw [ltB_of _ _ ha hg, ltB_of _ _ hg lu]
    intro x
    have x := (of_decide_eq_true x).2.2
    exact decide_eq_false (fun y => by have := y.2.2; rw [u.1] at this; omega)
  · rw [ltB_of _ _ ld hg, ltB_of _ _ hg ha]
    intro x
    have x := (of_decide_eq_true x).2.2
    rw [d.1] at x
    exact decide_eq_false (fun y => by have := y.2.2; omega)

end Go.Proofs.YtflkbefiopnigaaDoor
