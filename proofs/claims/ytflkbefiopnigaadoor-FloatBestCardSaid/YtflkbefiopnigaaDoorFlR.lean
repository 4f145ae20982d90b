/- The document's floats (its functions of bits): kind, order, next floats. -/
import Derived.Test.YtflkbefiopnigaaDoorFlW
namespace Go.Proofs.YtflkbefiopnigaaDoor
open Go.ChangeShapes Go.WideShapes Go.ChangeAt Go.RowKit

theorem run_rem63 {P : Program} (t : TypeId) (b : Nat) (w : World) : (binOp .rem t (.int .u64 b) (.int .u64 9223372036854775808)).run P w = .ok (.int .u64 ((b % 9223372036854775808 : Nat) : Int)) w := by
  have e : ((b % 9223372036854775808 : Nat) : Int) = (b : Int).tmod 9223372036854775808 := by
    rw [Int.tmod_eq_emod_of_nonneg (by omega)]; omega
  rw [e]
  simp [binOp, Op.intDiv]

theorem run_sub63 {P : Program} (t : TypeId) (b : Nat) (h1 : 9223372036854775808 ≤ b) (hb : b < 18446744073709551616) (w : World) : (binOp .sub t (.int .u64 b) (.int .u64 9223372036854775808)).run P w = .ok (.int .u64 ((b - 9223372036854775808 : Nat) : Int)) w := by
  have e : ((b - 9223372036854775808 : Nat) : Int) = IntKind.u64.wrap ((b : Int) - 9223372036854775808) := by rw [u64_in _ (by omega) (by omega)]; omega
  rw [e]
  first | rfl | simp [binOp, go_sem]

theorem run_add63 {P : Program} (t : TypeId) (b : Nat) (hb : b < 9223372036854775808) (w : World) : (binOp .add t (.int .u64 b) (.int .u64 9223372036854775808)).run P w = .ok (.int .u64 ((b + 9223372036854775808 : Nat) : Int)) w := by
  have e : ((b + 9223372036854775808 : Nat) : Int) = IntKind.u64.wrap ((b : Int) + 9223372036854775808) := by rw [u64_in _ (by omega) (by omega)]; omega
  rw [e]
  first | rfl | simp [binOp, go_sem]

theorem r_kind0 (b x : Nat) (hx : b % 9223372036854775808 = x) (h1 : decide (9218868437227405312 < (x : Int)) = true) (w : World) : Calls Tryd.prog 14 #[.int .u64 b] w fun e w' => e = .returned (.int .i64 4) ∧ w = w' := by
  have E := Lib.hid (run_rem63 (P := Tryd.prog) 22 b w)
  rw [hx] at E
  have E1 := Lib.hid (run_cmp (P := Tryd.prog) .gtr 22 .u64 (x : Int) 9218868437227405312 true h1 w)
  clear hx h1
  go_enter Tryd.func14, Tryd.ntmps14
  go_wp2_with (first | (refine wpList_bin _ rfl .rem _ _ _ _ rfl _ _ rfl rfl rfl _ E.out ?_) | (refine wpList_bin _ rfl .gtr _ _ (.const (.int .u64 9218868437227405312)) _ rfl _ _ rfl rfl rfl _ E1.out ?_))
  go_ret
  exact ⟨rfl, rfl⟩

theorem r_kind1 (b x : Nat) (hx : b % 9223372036854775808 = x) (h1 : decide (9218868437227405312 < (x : Int)) = false) (h2 : ((x : Int) == 9218868437227405312) = true) (w : World) : Calls Tryd.prog 14 #[.int .u64 b] w fun e w' => e = .returned (.int .i64 3) ∧ w = w' := by
  have E := Lib.hid (run_rem63 (P := Tryd.prog) 22 b w)
  rw [hx] at E
  have E1 := Lib.hid (run_cmp (P := Tryd.prog) .gtr 22 .u64 (x : Int) 9218868437227405312 false h1 w)
  have E2 := Lib.hid (run_cmp (P := Tryd.prog) .eql 22 .u64 (x : Int) 9218868437227405312 true h2 w)
  clear hx h1 h2
  go_enter Tryd.func14, Tryd.ntmps14
  go_wp2_with (first | (refine wpList_bin _ rfl .rem _ _ _ _ rfl _ _ rfl rfl rfl _ E.out ?_) | (refine wpList_bin _ rfl .gtr _ _ (.const (.int .u64 9218868437227405312)) _ rfl _ _ rfl rfl rfl _ E1.out ?_) | (refine wpList_bin _ rfl .eql _ _ (.const (.int .u64 9218868437227405312)) _ rfl _ _ rfl rfl rfl _ E2.out ?_))
  go_ret
  exact ⟨rfl, rfl⟩

theorem r_kind2 (b x : Nat) (hx : b % 9223372036854775808 = x) (h1 : decide (9218868437227405312 < (x : Int)) = false) (h2 : ((x : Int) == 9218868437227405312) = false) (h3 : decide (4503599627370496 ≤ (x : Int)) = true) (w : World) : Calls Tryd.prog 14 #[.int .u64 b] w fun e w' => e = .returned (.int .i64 2) ∧ w = w' := by
  have E := Lib.hid (run_rem63 (P := Tryd.prog) 22 b w)
  rw [hx] at E
  have E1 := Lib.hid (run_cmp (P := Tryd.prog) .gtr 22 .u64 (x : Int) 9218868437227405312 false h1 w)
  have E2 := Lib.hid (run_cmp (P := Tryd.prog) .eql 22 .u64 (x : Int) 9218868437227405312 false h2 w)
  have E3 := Lib.hid (run_cmp (P := Tryd.prog) .geq 22 .u64 (x : Int) 4503599627370496 true h3 w)
  clear hx h1 h2 h3
  go_enter Tryd.func14, Tryd.ntmps14
  go_wp2_with (first | (refine wpList_bin _ rfl .rem _ _ _ _ rfl _ _ rfl rfl rfl _ E.out ?_) | (refine wpList_bin _ rfl .gtr _ _ (.const (.int .u64 9218868437227405312)) _ rfl _ _ rfl rfl rfl _ E1.out ?_) | (refine wpList_bin _ rfl .eql _ _ (.const (.int .u64 9218868437227405312)) _ rfl _ _ rfl rfl rfl _ E2.out ?_) | (refine wpList_bin _ rfl .geq _ _ (.const (.int .u64 4503599627370496)) _ rfl _ _ rfl rfl rfl _ E3.out ?_))
  go_ret
  exact ⟨rfl, rfl⟩

theorem r_kind3 (b x : Nat) (hx : b % 9223372036854775808 = x) (h1 : decide (9218868437227405312 < (x : Int)) = false) (h2 : ((x : Int) == 9218868437227405312) = false) (h3 : decide (4503599627370496 ≤ (x : Int)) = false) (h4 : decide (0 < (x : Int)) = true) (w : World) : Calls Tryd.prog 14 #[.int .u64 b] w fun e w' => e = .returned (.int .i64 1) ∧ w = w' := by
  have E := Lib.hid (run_rem63 (P := Tryd.prog) 22 b w)
  rw [hx] at E
  have E1 := Lib.hid (run_cmp (P := Tryd.prog) .gtr 22 .u64 (x : Int) 9218868437227405312 false h1 w)
  have E2 := Lib.hid (run_cmp (P := Tryd.prog) .eql 22 .u64 (x : Int) 9218868437227405312 false h2 w)
  have E3 := Lib.hid (run_cmp (P := Tryd.prog) .geq 22 .u64 (x : Int) 4503599627370496 false h3 w)
  have E4 := Lib.hid (run_cmp (P := Tryd.prog) .gtr 22 .u64 (x : Int) 0 true h4 w)
  clear hx h1 h2 h3 h4
  go_enter Tryd.func14, Tryd.ntmps14
  go_wp2_with (first | (refine wpList_bin _ rfl .rem _ _ _ _ rfl _ _ rfl rfl rfl _ E.out ?_) | (refine wpList_bin _ rfl .gtr _ _ (.const (.int .u64 9218868437227405312)) _ rfl _ _ rfl rfl rfl _ E1.out ?_) | (refine wpList_bin _ rfl .eql _ _ (.const (.int .u64 9218868437227405312)) _ rfl _ _ rfl rfl rfl _ E2.out ?_) | (refine wpList_bin _ rfl .geq _ _ (.const (.int .u64 4503599627370496)) _ rfl _ _ rfl rfl rfl _ E3.out ?_) | (refine wpList_bin _ rfl .gtr _ _ (.const (.int .u64 0)) _ rfl _ _ rfl rfl rfl _ E4.out ?_))
  go_ret
  exact ⟨rfl, rfl⟩

theorem r_kind4 (b x : Nat) (hx : b % 9223372036854775808 = x) (h1 : decide (9218868437227405312 < (x : Int)) = false) (h2 : ((x : Int) == 9218868437227405312) = false) (h3 : decide (4503599627370496 ≤ (x : Int)) = false) (h4 : decide (0 < (x : Int)) = false) (w : World) : Calls Tryd.prog 14 #[.int .u64 b] w fun e w' => e = .returned (.int .i64 0) ∧ w = w' := by
  have E := Lib.hid (run_rem63 (P := Tryd.prog) 22 b w)
  rw [hx] at E
  have E1 := Lib.hid (run_cmp (P := Tryd.prog) .gtr 22 .u64 (x : Int) 9218868437227405312 false h1 w)
  have E2 := Lib.hid (run_cmp (P := Tryd.prog) .eql 22 .u64 (x : Int) 9218868437227405312 false h2 w)
  have E3 := Lib.hid (run_cmp (P := Tryd.prog) .geq 22 .u64 (x : Int) 4503599627370496 false h3 w)
  have E4 := Lib.hid (run_cmp (P := Tryd.prog) .gtr 22 .u64 (x : Int) 0 false h4 w)
  clear hx h1 h2 h3 h4
  go_enter Tryd.func14, Tryd.ntmps14
  go_wp2_with (first | (refine wpList_bin _ rfl .rem _ _ _ _ rfl _ _ rfl rfl rfl _ E.out ?_) | (refine wpList_bin _ rfl .gtr _ _ (.const (.int .u64 9218868437227405312)) _ rfl _ _ rfl rfl rfl _ E1.out ?_) | (refine wpList_bin _ rfl .eql _ _ (.const (.int .u64 9218868437227405312)) _ rfl _ _ rfl rfl rfl _ E2.out ?_) | (refine wpList_bin _ rfl .geq _ _ (.const (.int .u64 4503599627370496)) _ rfl _ _ rfl rfl rfl _ E3.out ?_) | (refine wpList_bin _ rfl .gtr _ _ (.const (.int .u64 0)) _ rfl _ _ rfl rfl rfl _ E4.out ?_))
  go_ret
  exact ⟨rfl, rfl⟩

theorem r_kind (b : Nat) (w : World) : Calls Tryd.prog 14 #[.int .u64 b] w fun e w' => e = .returned (.int .i64 (kd b)) ∧ w = w' := by
  unfold kd
  have g0 := r_kind0 b _ rfl
  have g1 := r_kind1 b _ rfl
  have g2 := r_kind2 b _ rfl
  have g3 := r_kind3 b _ rfl
  have g4 := r_kind4 b _ rfl
  generalize b % 9223372036854775808 = x at *
  unfold kdx
  by_cases h1 : 9218868437227405312 < x
  · rw [if_neg (by omega), if_neg (by omega), if_neg (by omega), if_neg (by omega)]; exact g0 (decide_eq_true (by omega)) w
  have b1 : decide (9218868437227405312 < (x : Int)) = false := decide_eq_false (by omega)
  by_cases h2 : x = 9218868437227405312
  · rw [if_neg (by omega), if_neg (by omega), if_neg (by omega), if_pos h2]; exact g1 b1 (by rw [beq_iff_eq]; omega) w
  have b2 : ((x : Int) == 9218868437227405312) = false := by rw [beq_eq_false_iff_ne]; omega
  by_cases h3 : 4503599627370496 ≤ x
  · rw [if_neg (by omega), if_neg (by omega), if_pos (by omega)]; exact g2 b1 b2 (decide_eq_true (by omega)) w
  have b3 : decide (4503599627370496 ≤ (x : Int)) = false := decide_eq_false (by omega)
  by_cases h4 : 0 < x
  · rw [if_neg (by omega), if_pos (by omega)]; exact g3 b1 b2 b3 (decide_eq_true (by omega)) w
  · rw [if_pos (by omega)]; exact g4 b1 b2 b3 (decide_eq_false (by omega)) w

theorem r_nan (b : Nat) (w : World) : Calls Tryd.prog 12 #[.int .u64 b] w fun e w' => e = .returned (.bool (kd b == 4)) ∧ w = w' := by
  have K := Lib.hid (r_kind b w)
  generalize kd b = k at *
  go_enter Tryd.func12, Tryd.ntmps12
  go_wp2_with (go_at_call 14; refine (K.out).mono ?_; rintro e1 w1 ⟨rfl, rfl⟩)
  go_ret
  exact ⟨rfl, rfl⟩

theorem r_before_true_true (a b : Nat) (ha : sgB a = true) (hb : sgB b = true) (w : World) : Calls Tryd.prog 19 #[.int .u64 a, .int .u64 b] w fun e w' => e = .returned (.bool (decide (b < a))) ∧ w = w' := by
  have E1 := Lib.hid (run_cmp (P := Tryd.prog) .geq 22 .u64 (a : Int) 9223372036854775808 true (by unfold sgB at *; simp only [decide_eq_true_eq, decide_eq_false_iff_not] at *; omega) w)
  have E2 := Lib.hid (run_cmp (P := Tryd.prog) .geq 22 .u64 (b : Int) 9223372036854775808 true (by unfold sgB at *; simp only [decide_eq_true_eq, decide_eq_false_iff_not] at *; omega) w)
  clear ha hb
  go_enter Tryd.func19, Tryd.ntmps19
  go_wp2_with (first | (refine wpList_bin _ rfl .geq _ (.tmp 7) (.const (.int .u64 9223372036854775808)) _ rfl _ _ rfl rfl rfl _ E1.out ?_) | (refine wpList_bin _ rfl .geq _ (.tmp 9) (.const (.int .u64 9223372036854775808)) _ rfl _ _ rfl rfl rfl _ E2.out ?_))
  go_ret
  exact ⟨rfl, rfl⟩

theorem r_before_true_false (a b : Nat) (ha : sgB a = true) (hb : sgB b = false) (w : World) : Calls Tryd.prog 19 #[.int .u64 a, .int .u64 b] w fun e w' => e = .returned (.bool true) ∧ w = w' := by
  have E1 := Lib.hid (run_cmp (P := Tryd.prog) .geq 22 .u64 (a : Int) 9223372036854775808 true (by unfold sgB at *; simp only [decide_eq_true_eq, decide_eq_false_iff_not] at *; omega) w)
  have E2 := Lib.hid (run_cmp (P := Tryd.prog) .geq 22 .u64 (b : Int) 9223372036854775808 false (by unfold sgB at *; simp only [decide_eq_true_eq, decide_eq_false_iff_not] at *; omega) w)
  clear ha hb
  go_enter Tryd.func19, Tryd.ntmps19
  go_wp2_with (first | (refine wpList_bin _ rfl .geq _ (.tmp 7) (.const (.int .u64 9223372036854775808)) _ rfl _ _ rfl rfl rfl _ E1.out ?_) | (refine wpList_bin _ rfl .geq _ (.tmp 9) (.const (.int .u64 9223372036854775808)) _ rfl _ _ rfl rfl rfl _ E2.out ?_))
  go_ret
  exact ⟨rfl, rfl⟩

theorem r_before_false_true (a b : Nat) (ha : sgB a = false) (hb : sgB b = true) (w : World) : Calls Tryd.prog 19 #[.int .u64 a, .int .u64 b] w fun e w' => e = .returned (.bool false) ∧ w = w' := by
  have E1 := Lib.hid (run_cmp (P := Tryd.prog) .geq 22 .u64 (a : Int) 9223372036854775808 false (by unfold sgB at *; simp only [decide_eq_true_eq, decide_eq_false_iff_not] at *; omega) w)
  have E2 := Lib.hid (run_cmp (P := Tryd.prog) .geq 22 .u64 (b : Int) 9223372036854775808 true (by unfold sgB at *; simp only [decide_eq_true_eq, decide_eq_false_iff_not] at *; omega) w)
  clear ha hb
  go_enter Tryd.func19, Tryd.ntmps19
  go_wp2_with (first | (refine wpList_bin _ rfl .geq _ (.tmp 7) (.const (.int .u64 9223372036854775808)) _ rfl _ _ rfl rfl rfl _ E1.out ?_) | (refine wpList_bin _ rfl .geq _ (.tmp 9) (.const (.int .u64 9223372036854775808)) _ rfl _ _ rfl rfl rfl _ E2.out ?_))
  go_ret
  exact ⟨rfl, rfl⟩

theorem r_before_false_false (a b : Nat) (ha : sgB a = false) (hb : sgB b = false) (w : World) : Calls Tryd.prog 19 #[.int .u64 a, .int .u64 b] w fun e w' => e = .returned (.bool (decide (a < b))) ∧ w = w' := by
  have E1 := Lib.hid (run_cmp (P := Tryd.prog) .geq 22 .u64 (a : Int) 9223372036854775808 false (by unfold sgB at *; simp only [decide_eq_true_eq, decide_eq_false_iff_not] at *; omega) w)
  have E2 := Lib.hid (run_cmp (P := Tryd.prog) .geq 22 .u64 (b : Int) 9223372036854775808 false (by unfold sgB at *; simp only [decide_eq_true_eq, decide_eq_false_iff_not] at *; omega) w)
  clear ha hb
  go_enter Tryd.func19, Tryd.ntmps19
  go_wp2_with (first | (refine wpList_bin _ rfl .geq _ (.tmp 7) (.const (.int .u64 9223372036854775808)) _ rfl _ _ rfl rfl rfl _ E1.out ?_) | (refine wpList_bin _ rfl .geq _ (.tmp 9) (.const (.int .u64 9223372036854775808)) _ rfl _ _ rfl rfl rfl _ E2.out ?_))
  go_ret
  exact ⟨rfl, rfl⟩

theorem bfB_of (a b : Nat) (ha : a < 18446744073709551616) (hb : b < 18446744073709551616) : bfB a b = if sgB a then (if sgB b then decide (b < a) else true) else (if sgB b then false else decide (a < b)) := by
  unfold bfB rkN
  cases h1 : sgB a <;> cases h2 : sgB b <;> simp only [if_true, if_false, Bool.false_eq_true, reduceIte] <;> unfold sgB at h1 h2 <;> simp only [decide_eq_true_eq, decide_eq_false_iff_not] at h1 h2 <;> first | (rw [decide_eq_decide]; omega) | (exact decide_eq_true (by omega)) | (exact decide_eq_false (by omega))

theorem r_before (a b : Nat) (ha : a < 18446744073709551616) (hb : b < 18446744073709551616) (w : World) : Calls Tryd.prog 19 #[.int .u64 a, .int .u64 b] w fun e w' => e = .returned (.bool (bfB a b)) ∧ w = w' := by
  rw [bfB_of a b ha hb]
  cases h1 : sgB a <;> cases h2 : sgB b <;> simp only [if_true, if_false, Bool.false_eq_true, reduceIte]
  · exact r_before_false_false a b h1 h2 w
  · exact r_before_false_true a b h1 h2 w
  · exact r_before_true_false a b h1 h2 w
  · exact r_before_true_true a b h1 h2 w

theorem r_turn1 (b : Nat) (hb : b < 18446744073709551616) (hs : 9223372036854775808 ≤ b) (w : World) : Calls Tryd.prog 34 #[.int .u64 b] w fun e w' => e = .returned (.int .u64 ((b - 9223372036854775808 : Nat) : Int)) ∧ w = w' := by
  have E1 := Lib.hid (run_cmp (P := Tryd.prog) .geq 22 .u64 (b : Int) 9223372036854775808 true (decide_eq_true (by omega)) w)
  have E2 := Lib.hid (run_sub63 (P := Tryd.prog) 22 b hs hb w)
  generalize b - 9223372036854775808 = n at *
  clear hb hs
  go_enter Tryd.func34, Tryd.ntmps34
  go_wp2_with (first | (refine wpList_bin _ rfl .geq _ _ _ _ rfl _ _ rfl rfl rfl _ E1.out ?_) | (refine wpList_bin _ rfl .sub _ _ _ _ rfl _ _ rfl rfl rfl _ E2.out ?_))
  go_ret
  exact ⟨rfl, rfl⟩

theorem r_turn0 (b : Nat) (hs : b < 9223372036854775808) (w : World) : Calls Tryd.prog 34 #[.int .u64 b] w fun e w' => e = .returned (.int .u64 ((b + 9223372036854775808 : Nat) : Int)) ∧ w = w' := by
  have E1 := Lib.hid (run_cmp (P := Tryd.prog) .geq 22 .u64 (b : Int) 9223372036854775808 false (decide_eq_false (by omega)) w)
  have E2 := Lib.hid (run_add63 (P := Tryd.prog) 22 b hs w)
  generalize b + 9223372036854775808 = n at *
  clear hs
  go_enter Tryd.func34, Tryd.ntmps34
  go_wp2_with (first | (refine wpList_bin _ rfl .geq _ _ _ _ rfl _ _ rfl rfl rfl _ E1.out ?_) | (refine wpList_bin _ rfl .add _ _ _ _ rfl _ _ rfl rfl rfl _ E2.out ?_))
  go_ret
  exact ⟨rfl, rfl⟩

theorem r_turn (b : Nat) (hb : b < 18446744073709551616) (w : World) : Calls Tryd.prog 34 #[.int .u64 b] w fun e w' => e = .returned (.int .u64 (ngN b)) ∧ w = w' := by
  unfold ngN sgB
  by_cases h : 9223372036854775808 ≤ b
  · rw [if_pos (decide_eq_true h)]; exact r_turn1 b hb h w
  · rw [if_neg (by simpa using h)]; exact r_turn0 b (by omega) w

theorem r_up4 (b : Nat) (hk : kd b = 4) (w : World) : Calls Tryd.prog 21 #[.int .u64 b] w fun e w' => e = .returned (.int .u64 b) ∧ w = w' := by
  have K := r_nan b w
  rw [hk] at K
  have K := Lib.hid K
  clear hk
  go_enter Tryd.func21, Tryd.ntmps21
  go_wp2_with (go_at_call 12; refine (K.out).mono ?_; rintro e1 w1 ⟨rfl, rfl⟩)
  go_ret
  exact ⟨rfl, rfl⟩

theorem r_up3 (b : Nat) (hk4 : ¬ kd b = 4) (hi : b = 9218868437227405312) (w : World) : Calls Tryd.prog 21 #[.int .u64 b] w fun e w' => e = .returned (.int .u64 b) ∧ w = w' := by
  have K := r_nan b w
  rw [show (kd b == 4) = false by simpa using hk4] at K
  have K := Lib.hid K
  have E := Lib.hid (run_cmp (P := Tryd.prog) .eql 22 .u64 (b : Int) 9218868437227405312 true (by first | (rw [beq_eq_false_iff_ne]; omega) | (rw [beq_iff_eq]; omega)) w)
  clear hk4 hi
  go_enter Tryd.func21, Tryd.ntmps21
  go_wp2_with (first | (go_at_call 12; refine (K.out).mono ?_; rintro e1 w1 ⟨rfl, rfl⟩) | (refine wpList_binw _ (by rfl) .eql _ _ (.const (.int .u64 9218868437227405312)) _ rfl _ _ rfl rfl rfl _ E.out ?_))
  go_ret
  exact ⟨rfl, rfl⟩

theorem r_up0 (b : Nat) (hk4 : ¬ kd b = 4) (hk0 : kd b = 0) (hi : ¬ b = 9218868437227405312) (w : World) : Calls Tryd.prog 21 #[.int .u64 b] w fun e w' => e = .returned (.int .u64 1) ∧ w = w' := by
  have K := r_nan b w
  rw [show (kd b == 4) = false by simpa using hk4] at K
  have K := Lib.hid K
  have K2 := r_kind b w
  rw [hk0] at K2
  have K2 := Lib.hid K2
  have E := Lib.hid (run_cmp (P := Tryd.prog) .eql 22 .u64 (b : Int) 9218868437227405312 false (by first | (rw [beq_eq_false_iff_ne]; omega) | (rw [beq_iff_eq]; omega)) w)
  clear hk4 hk0 hi
  go_enter Tryd.func21, Tryd.ntmps21
  go_wp2_with (first | (go_at_call 12; refine (K.out).mono ?_; rintro e1 w1 ⟨rfl, rfl⟩) | (go_at_call 14; refine (K2.out).mono ?_; rintro e1 w1 ⟨rfl, rfl⟩) | (refine wpList_binw _ (by rfl) .eql _ _ (.const (.int .u64 9218868437227405312)) _ rfl _ _ rfl rfl rfl _ E.out ?_))
  go_ret
  exact ⟨rfl, rfl⟩

theorem r_upN (b : Nat) (hb : b < 18446744073709551616) (hk4 : ¬ kd b = 4) (hk0 : ¬ kd b = 0) (hi : ¬ b = 9218868437227405312) (hs : 9223372036854775808 < b) (w : World) : Calls Tryd.prog 21 #[.int .u64 b] w fun e w' => e = .returned (.int .u64 ((b - 1 : Nat) : Int)) ∧ w = w' := by
  have K := r_nan b w
  rw [show (kd b == 4) = false by simpa using hk4] at K
  have K := Lib.hid K
  have K2 := Lib.hid (r_kind b w)
  have k0 : (kd b == 0) = false := by simpa using hk0
  generalize kd b = k at *
  have E := Lib.hid (run_cmp (P := Tryd.prog) .eql 22 .u64 (b : Int) 9218868437227405312 false (by first | (rw [beq_eq_false_iff_ne]; omega) | (rw [beq_iff_eq]; omega)) w)
  have E1 := Lib.hid (run_cmp (P := Tryd.prog) .gtr 22 .u64 (b : Int) 9223372036854775808 true (by first | exact decide_eq_true (by omega) | exact decide_eq_false (by omega)) w)
  have E2 := Lib.hid (run_pred (P := Tryd.prog) 22 b (by omega) hb w)
  generalize b - 1 = n at *
  clear hb hk4 hk0 hi hs
  go_enter Tryd.func21, Tryd.ntmps21
  go_wp2_with (first | (go_at_call 12; refine (K.out).mono ?_; rintro e1 w1 ⟨rfl, rfl⟩) | (go_at_call 14; refine (K2.out).mono ?_; rintro e1 w1 ⟨rfl, rfl⟩) | (refine wpList_binw _ (by rfl) .eql _ _ (.const (.int .u64 9218868437227405312)) _ rfl _ _ rfl rfl rfl _ E.out ?_) | (refine wpList_bin _ rfl .gtr _ _ _ _ rfl _ _ rfl rfl rfl _ E1.out ?_) | (refine wpList_bin _ rfl .sub _ _ _ _ rfl _ _ rfl rfl rfl _ E2.out ?_))
  go_ret
  exact ⟨rfl, rfl⟩

theorem r_upP (b : Nat) (hb : b ≤ 9223372036854775808) (hk4 : ¬ kd b = 4) (hk0 : ¬ kd b = 0) (hi : ¬ b = 9218868437227405312) (w : World) : Calls Tryd.prog 21 #[.int .u64 b] w fun e w' => e = .returned (.int .u64 ((b + 1 : Nat) : Int)) ∧ w = w' := by
  have K := r_nan b w
  rw [show (kd b == 4) = false by simpa using hk4] at K
  have K := Lib.hid K
  have K2 := Lib.hid (r_kind b w)
  have k0 : (kd b == 0) = false := by simpa using hk0
  generalize kd b = k at *
  have E := Lib.hid (run_cmp (P := Tryd.prog) .eql 22 .u64 (b : Int) 9218868437227405312 false (by first | (rw [beq_eq_false_iff_ne]; omega) | (rw [beq_iff_eq]; omega)) w)
  have E1 := Lib.hid (run_cmp (P := Tryd.prog) .gtr 22 .u64 (b : Int) 9223372036854775808 false (by first | exact decide_eq_true (by omega) | exact decide_eq_false (by omega)) w)
  have E2 := Lib.hid (run_succ (P := Tryd.prog) 22 b (by omega) w)
  generalize b + 1 = n at *
  clear hb hk4 hk0 hi
  go_enter Tryd.func21, Tryd.ntmps21
  go_wp2_with (first | (go_at_call 12; refine (K.out).mono ?_; rintro e1 w1 ⟨rfl, rfl⟩) | (go_at_call 14; refine (K2.out).mono ?_; rintro e1 w1 ⟨rfl, rfl⟩) | (refine wpList_binw _ (by rfl) .eql _ _ (.const (.int .u64 9218868437227405312)) _ rfl _ _ rfl rfl rfl _ E.out ?_) | (refine wpList_bin _ rfl .gtr _ _ _ _ rfl _ _ rfl rfl rfl _ E1.out ?_) | (refine wpList_bin _ rfl .add _ _ _ _ rfl _ _ rfl rfl rfl _ E2.out ?_))
  go_ret
  exact ⟨rfl, rfl⟩

theorem r_up (b : Nat) (hb : b < 18446744073709551616) (w : World) : Calls Tryd.prog 21 #[.int .u64 b] w fun e w' => e = .returned (.int .u64 (upN b)) ∧ w = w' := by
  unfold upN
  by_cases h4 : kd b = 4
  · rw [if_pos (.inl h4)]; exact r_up4 b h4 w
  by_cases hi : b = 9218868437227405312
  · rw [if_pos (.inr hi)]; exact r_up3 b h4 hi w
  rw [if_neg (fun h => h.elim h4 hi)]
  by_cases h0 : kd b = 0
  · rw [if_pos h0]; exact r_up0 b h4 h0 hi w
  rw [if_neg h0]
  by_cases hs : 9223372036854775808 < b
  · rw [if_pos (by unfold sgB; exact decide_eq_true (by omega))]; exact r_upN b hb h4 h0 hi hs w
  · have hne : ¬ b = 9223372036854775808 := by
      intro e; apply h0; subst e; unfold kd kdx; decide
    rw [if_neg (by unfold sgB; simp only [decide_eq_true_eq]; omega)]; exact r_upP b (by omega) h4 h0 hi w

theorem r_down (b : Nat) (hb : b < 18446744073709551616) (w : World) : Calls Tryd.prog 23 #[.int .u64 b] w fun e w' => e = .returned (.int .u64 (dnN b)) ∧ w = w' := by
  unfold dnN
  have K := r_nan b w
  by_cases h4 : kd b = 4
  · rw [if_pos h4]
    rw [h4] at K
    have K := Lib.hid K
    clear h4 hb
    go_enter Tryd.func23, Tryd.ntmps23
    go_wp2_with (go_at_call 12; refine (K.out).mono ?_; rintro e1 w1 ⟨rfl, rfl⟩)
    go_ret
    exact ⟨rfl, rfl⟩
  · rw [if_neg h4]
    rw [show (kd b == 4) = false by simpa using h4] at K
    have K := Lib.hid K
    have N1 := Lib.hid (r_turn b hb w)
    have N2 := Lib.hid (r_up (ngN b) (ngN_lt b hb) w)
    have N3 := Lib.hid (r_turn (upN (ngN b)) (upN_lt _ (ngN_lt b hb)) w)
    generalize upN (ngN b) = x at *
    generalize ngN x = y at *
    generalize ngN b = z at *
    clear h4 hb
    go_enter Tryd.func23, Tryd.ntmps23
    go_wp2_with fail
    refine K.out.mono ?_
    rintro e1 w1 ⟨rfl, rfl⟩
    go_wp2_with fail
    refine N1.out.mono ?_
    rintro e1 w1 ⟨rfl, rfl⟩
    go_wp2_with fail
    refine N2.out.mono ?_
    rintro e1 w1 ⟨rfl, rfl⟩
    go_wp2_with fail
    refine N3.out.mono ?_
    rintro e1 w1 ⟨rfl, rfl⟩
    go_wp2
    go_ret
    exact ⟨rfl, rfl⟩

end Go.Proofs.YtflkbefiopnigaaDoor

