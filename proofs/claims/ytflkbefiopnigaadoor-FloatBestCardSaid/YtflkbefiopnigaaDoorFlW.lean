/- Package float and the document's floats, by bits: sign, order, next floats. -/
import Derived.Test.YtflkbefiopnigaaDoorFl
namespace Go.Proofs.YtflkbefiopnigaaDoor
open Go.ChangeShapes Go.WideShapes Go.ChangeAt Go.RowKit

theorem wpList_un {P : Program} (w : World) {ops : Array Oper} {rest : List Oper} {o : Oper} {a : Act} {Q : Exit → Act → World → Prop} (hg : o.guard = none) (op : UnOp) (t : TypeId) (x : Operand)
    (hop : o.op = Op.unOp op t x) (u1 : Value) (h1 : a.eval x = u1) (v : Value) (hrun : (Op.unary op u1).run P w = .ok v w) (hK : wpList P ops Q rest (a.put o.dst v) w) : wpList P ops Q (o :: rest) a w := by
  refine wpList_plain hg fun K hK' => ?_
  unfold Oper.wp
  simp [execOp, hop, h1, hrun, Result.andThen]
  exact hK' _ _ hK

theorem wpList_binw {P : Program} (w : World) {ops : Array Oper} {rest : List Oper} {o : Oper} {a : Act} {Q : Exit → Act → World → Prop} (hw : Region.wanted o (yielded ops a.tmps) = true) (op : BinOp) (t : TypeId) (x y : Operand) (t2 : TypeId)
    (hop : o.op = Op.binOp op t x y t2) (u1 u2 : Value) (h1 : a.eval x = u1) (h2 : a.eval y = u2) (hgd : (eqGuard op t x y u1 u2).run P w = .ok () w) (v : Value) (hrun : (binOp op t u1 u2).run P w = .ok v w) (hK : wpList P ops Q rest (a.put o.dst v) w) : wpList P ops Q (o :: rest) a w := by
  refine BigFrame.wpList_want hw fun K hK' => ?_
  unfold Oper.wp
  simp [execOp, hop, h1, h2, hgd, hrun, Result.andThen]
  exact hK' _ _ hK

theorem run_andSign {P : Program} (t : TypeId) (b : Nat) (hb : b < 18446744073709551616) (w : World) : (binOp .and t (.int .u64 b) (.int .u64 9223372036854775808)).run P w = .ok (.int .u64 (if 9223372036854775808 ≤ b then 9223372036854775808 else 0)) w := by
  rw [← and_sign b hb]
  rfl

theorem run_orSign {P : Program} (t : TypeId) (b : Nat) (hb : b < 9223372036854775808) (w : World) : (binOp .or t (.int .u64 b) (.int .u64 9223372036854775808)).run P w = .ok (.int .u64 ((b + 9223372036854775808 : Nat) : Int)) w := by
  rw [← or_sign b hb]
  rfl

theorem run_xorSign {P : Program} (t : TypeId) (b : Nat) (hb : b < 18446744073709551616) (w : World) : (binOp .xor t (.int .u64 b) (.int .u64 9223372036854775808)).run P w = .ok (.int .u64 ((ngN b : Nat) : Int)) w := by
  have e : ((ngN b : Nat) : Int) = bits .xor .u64 (b : Int) 9223372036854775808 := by
    rw [xor_sign b hb]
    unfold ngN sgB
    by_cases h : 9223372036854775808 ≤ b
    · rw [if_pos (decide_eq_true h), if_pos h]
    · rw [if_neg (by simpa using h), if_neg h]
  rw [e]
  rfl

theorem run_notAll {P : Program} (b : Nat) (hb : b < 18446744073709551616) (w : World) : (Op.unary .xor (.int .u64 b)).run P w = .ok (.int .u64 ((18446744073709551615 - b : Nat) : Int)) w := by
  rw [← not_all b hb]
  first | rfl | simp [Op.unary] | simp [Op.unary, go_sem]

theorem u64_in (n : Int) (h0 : 0 ≤ n) (h1 : n < 18446744073709551616) : IntKind.u64.wrap n = n := by
  rw [IntKind.wrap_u64]; omega

theorem run_pred {P : Program} (t : TypeId) (b : Nat) (h1 : 1 ≤ b) (hb : b < 18446744073709551616) (w : World) : (binOp .sub t (.int .u64 b) (.int .u64 1)).run P w = .ok (.int .u64 ((b - 1 : Nat) : Int)) w := by
  have e : ((b - 1 : Nat) : Int) = IntKind.u64.wrap ((b : Int) - 1) := by rw [u64_in _ (by omega) (by omega)]; omega
  rw [e]
  first | rfl | simp [binOp, go_sem]

theorem run_succ {P : Program} (t : TypeId) (b : Nat) (hb : b < 18446744073709551615) (w : World) : (binOp .add t (.int .u64 b) (.int .u64 1)).run P w = .ok (.int .u64 ((b + 1 : Nat) : Int)) w := by
  have e : ((b + 1 : Nat) : Int) = IntKind.u64.wrap ((b : Int) + 1) := by rw [u64_in _ (by omega) (by omega)]; omega
  rw [e]
  first | rfl | simp [binOp, go_sem]

theorem fl_sign1 (b : Nat) (hb : b < 18446744073709551616) (hs : 9223372036854775808 ≤ b) (w : World) : Calls Tryd.prog 15 #[.float .f64 b] w fun e w' => e = .returned (.bool true) ∧ w = w' := by
  have E := Lib.hid (run_andSign (P := Tryd.prog) 22 b hb w)
  rw [if_pos hs] at E
  have E2 := Lib.hid (run_cmp (P := Tryd.prog) .neq 22 .u64 9223372036854775808 0 true rfl w)
  clear hb hs
  go_enter Tryd.func15, Tryd.ntmps15
  go_wp2_with (first | (go_at_call 10; refine (fl_bits _ _).mono ?_; rintro e1 w1 ⟨rfl, rfl⟩) | (refine wpList_bin _ rfl .and _ _ _ _ rfl _ _ rfl rfl rfl _ E.out ?_) | (refine wpList_bin _ rfl .neq _ _ _ _ rfl _ _ rfl rfl rfl _ E2.out ?_))
  go_ret
  exact ⟨rfl, rfl⟩

theorem fl_sign0 (b : Nat) (hb : b < 18446744073709551616) (hs : ¬ 9223372036854775808 ≤ b) (w : World) : Calls Tryd.prog 15 #[.float .f64 b] w fun e w' => e = .returned (.bool false) ∧ w = w' := by
  have E := Lib.hid (run_andSign (P := Tryd.prog) 22 b hb w)
  rw [if_neg hs] at E
  clear hb hs
  go_enter Tryd.func15, Tryd.ntmps15
  go_wp2_with (first | (go_at_call 10; refine (fl_bits _ _).mono ?_; rintro e1 w1 ⟨rfl, rfl⟩) | (refine wpList_bin _ rfl .and _ _ _ _ rfl _ _ rfl rfl rfl _ E.out ?_))
  go_ret
  exact ⟨rfl, rfl⟩

theorem fl_sign (b : Nat) (hb : b < 18446744073709551616) (w : World) : Calls Tryd.prog 15 #[.float .f64 b] w fun e w' => e = .returned (.bool (sgB b)) ∧ w = w' := by
  unfold sgB
  by_cases h : 9223372036854775808 ≤ b
  · rw [decide_eq_true h]; exact fl_sign1 b hb h w
  · rw [decide_eq_false h]; exact fl_sign0 b hb h w

theorem fl_of_nan (w : World) : Calls Tryd.prog 9 #[.int .u64 9221120237041090560] w fun e w' => e = .returned (.float .f64 9221120237041090560) ∧ w = w' := fl_of 9221120237041090560 w
theorem fl_of_one (w : World) : Calls Tryd.prog 9 #[.int .u64 1] w fun e w' => e = .returned (.float .f64 1) ∧ w = w' := fl_of 1 w

theorem fl_same (a b : Nat) (w : World) : Calls Tryd.prog 16 #[.float .f64 a, .float .f64 b] w fun e w' => e = .returned (.bool ((a : Int) == (b : Int))) ∧ w = w' := by
  go_enter Tryd.func16, Tryd.ntmps16
  go_wp2_with (go_at_call 10; refine (fl_bits _ _).mono ?_; rintro e1 w1 ⟨rfl, rfl⟩)
  go_ret
  exact ⟨rfl, rfl⟩

theorem fl_canon1 (b : Nat) (hb : b < 18446744073709551616) (hk : kd b = 4) (w : World) : Calls Tryd.prog 11 #[.float .f64 b] w fun e w' => e = .returned (.float .f64 9221120237041090560) ∧ w = w' := by
  have K := fl_kind b hb w
  rw [hk] at K
  have K := Lib.hid K
  clear hb hk
  go_enter Tryd.func11, Tryd.ntmps11
  go_wp2_with (first | (go_at_call 13; refine (K.out).mono ?_; rintro e1 w1 ⟨rfl, rfl⟩) | (go_at_call 9; refine (fl_of_nan _).mono ?_; rintro e1 w1 ⟨rfl, rfl⟩))
  go_ret
  exact ⟨rfl, rfl⟩

theorem fl_canon0 (b : Nat) (hb : b < 18446744073709551616) (hk : ¬ kd b = 4) (w : World) : Calls Tryd.prog 11 #[.float .f64 b] w fun e w' => e = .returned (.float .f64 b) ∧ w = w' := by
  have K := Lib.hid (fl_kind b hb w)
  have hk2 : (kd b == 4) = false := by simpa using hk
  generalize kd b = k at *
  clear hb hk
  go_enter Tryd.func11, Tryd.ntmps11
  go_wp2_with (go_at_call 13; refine (K.out).mono ?_; rintro e1 w1 ⟨rfl, rfl⟩)
  go_ret
  exact ⟨rfl, rfl⟩

theorem fl_canon (b : Nat) (hb : b < 18446744073709551616) (w : World) : Calls Tryd.prog 11 #[.float .f64 b] w fun e w' => e = .returned (.float .f64 (cnN b)) ∧ w = w' := by
  unfold cnN
  by_cases h : kd b = 4
  · rw [if_pos h]; exact fl_canon1 b hb h w
  · rw [if_neg h]; exact fl_canon0 b hb h w

theorem fl_rank1 (b : Nat) (hb : b < 18446744073709551616) (hs : sgB b = true) (w : World) : Calls Tryd.prog 32 #[.float .f64 b] w fun e w' => e = .returned (.int .u64 ((18446744073709551615 - b : Nat) : Int)) ∧ w = w' := by
  have S := fl_sign b hb w
  rw [hs] at S
  have S := Lib.hid S
  have E := Lib.hid (run_notAll (P := Tryd.prog) b hb w)
  generalize 18446744073709551615 - b = n at *
  clear hb hs
  go_enter Tryd.func32, Tryd.ntmps32
  go_wp2_with (first | (go_at_call 10; refine (fl_bits _ _).mono ?_; rintro e1 w1 ⟨rfl, rfl⟩) | (go_at_call 15; refine (S.out).mono ?_; rintro e1 w1 ⟨rfl, rfl⟩) | (refine wpList_un _ rfl .xor _ _ rfl _ rfl _ E.out ?_))
  go_ret
  exact ⟨rfl, rfl⟩

theorem fl_rank0 (b : Nat) (hb : b < 18446744073709551616) (hs : sgB b = false) (w : World) : Calls Tryd.prog 32 #[.float .f64 b] w fun e w' => e = .returned (.int .u64 ((b + 9223372036854775808 : Nat) : Int)) ∧ w = w' := by
  have S := fl_sign b hb w
  rw [hs] at S
  have S := Lib.hid S
  have E := Lib.hid (run_orSign (P := Tryd.prog) 22 b (by unfold sgB at hs; simp only [decide_eq_false_iff_not] at hs; omega) w)
  generalize b + 9223372036854775808 = n at *
  clear hb hs
  go_enter Tryd.func32, Tryd.ntmps32
  go_wp2_with (first | (go_at_call 10; refine (fl_bits _ _).mono ?_; rintro e1 w1 ⟨rfl, rfl⟩) | (go_at_call 15; refine (S.out).mono ?_; rintro e1 w1 ⟨rfl, rfl⟩) | (refine wpList_bin _ rfl .or _ _ _ _ rfl _ _ rfl rfl rfl _ E.out ?_))
  go_ret
  exact ⟨rfl, rfl⟩

theorem fl_rank (b : Nat) (hb : b < 18446744073709551616) (w : World) : Calls Tryd.prog 32 #[.float .f64 b] w fun e w' => e = .returned (.int .u64 (rkN b)) ∧ w = w' := by
  unfold rkN
  cases hs : sgB b
  · exact fl_rank0 b hb hs w
  · exact fl_rank1 b hb hs w

theorem fl_before (a b : Nat) (ha : a < 18446744073709551616) (hb : b < 18446744073709551616) (w : World) : Calls Tryd.prog 18 #[.float .f64 a, .float .f64 b] w fun e w' => e = .returned (.bool (bfB a b)) ∧ w = w' := by
  have R1 := Lib.hid (fl_rank a ha w)
  have R2 := Lib.hid (fl_rank b hb w)
  unfold bfB
  clear ha hb
  generalize rkN a = x at *
  generalize rkN b = y at *
  go_enter Tryd.func18, Tryd.ntmps18
  go_wp2_with fail
  refine R1.out.mono ?_
  rintro e1 w1 ⟨rfl, rfl⟩
  go_wp2_with fail
  refine R2.out.mono ?_
  rintro e1 w1 ⟨rfl, rfl⟩
  go_wp2
  go_ret
  exact ⟨rfl, rfl⟩

theorem fl_neg (b : Nat) (hb : b < 18446744073709551616) (w : World) : Calls Tryd.prog 33 #[.float .f64 b] w fun e w' => e = .returned (.float .f64 (ngN b)) ∧ w = w' := by
  have E := Lib.hid (run_xorSign (P := Tryd.prog) 22 b hb w)
  generalize ngN b = n at *
  clear hb
  go_enter Tryd.func33, Tryd.ntmps33
  go_wp2_with (first | (go_at_call 10; refine (fl_bits _ _).mono ?_; rintro e1 w1 ⟨rfl, rfl⟩) | (refine wpList_bin _ rfl .xor _ _ _ _ rfl _ _ rfl rfl rfl _ E.out ?_) | (go_at_call 9; refine (fl_of _ _).mono ?_; rintro e1 w1 ⟨rfl, rfl⟩))
  go_ret
  exact ⟨rfl, rfl⟩

theorem fl_up4 (b : Nat) (hb : b < 18446744073709551616) (hk : kd b = 4) (w : World) : Calls Tryd.prog 20 #[.float .f64 b] w fun e w' => e = .returned (.float .f64 b) ∧ w = w' := by
  have K := fl_kind b hb w
  rw [hk] at K
  have K := Lib.hid K
  clear hb hk
  go_enter Tryd.func20, Tryd.ntmps20
  go_wp2_with (first | (go_at_call 10; refine (fl_bits _ _).mono ?_; rintro e1 w1 ⟨rfl, rfl⟩) | (go_at_call 13; refine (K.out).mono ?_; rintro e1 w1 ⟨rfl, rfl⟩))
  go_ret
  exact ⟨rfl, rfl⟩

theorem fl_up3 (b : Nat) (hb : b < 18446744073709551616) (hk : kd b = 3) (hi : b = 9218868437227405312) (w : World) : Calls Tryd.prog 20 #[.float .f64 b] w fun e w' => e = .returned (.float .f64 b) ∧ w = w' := by
  have K := fl_kind b hb w
  rw [hk] at K
  have K := Lib.hid K
  have E := Lib.hid (run_cmp (P := Tryd.prog) .eql 22 .u64 (b : Int) 9218868437227405312 true (by first | (rw [beq_eq_false_iff_ne]; omega) | (rw [beq_iff_eq]; omega)) w)
  clear hb hk hi
  go_enter Tryd.func20, Tryd.ntmps20
  go_wp2_with (first | (go_at_call 10; refine (fl_bits _ _).mono ?_; rintro e1 w1 ⟨rfl, rfl⟩) | (go_at_call 13; refine (K.out).mono ?_; rintro e1 w1 ⟨rfl, rfl⟩) | (refine wpList_binw _ (by rfl) .eql _ _ (.const (.int .u64 9218868437227405312)) _ rfl _ _ rfl rfl rfl _ E.out ?_))
  go_ret
  exact ⟨rfl, rfl⟩

theorem fl_up0 (b : Nat) (hb : b < 18446744073709551616) (hk : kd b = 0) (hi : ¬ b = 9218868437227405312) (w : World) : Calls Tryd.prog 20 #[.float .f64 b] w fun e w' => e = .returned (.float .f64 1) ∧ w = w' := by
  have K := fl_kind b hb w
  rw [hk] at K
  have K := Lib.hid K
  have E := Lib.hid (run_cmp (P := Tryd.prog) .eql 22 .u64 (b : Int) 9218868437227405312 false (by first | (rw [beq_eq_false_iff_ne]; omega) | (rw [beq_iff_eq]; omega)) w)
  clear hb hk hi
  go_enter Tryd.func20, Tryd.ntmps20
  go_wp2_with (first | (go_at_call 10; refine (fl_bits _ _).mono ?_; rintro e1 w1 ⟨rfl, rfl⟩) | (go_at_call 13; refine (K.out).mono ?_; rintro e1 w1 ⟨rfl, rfl⟩) | (refine wpList_binw _ (by rfl) .eql _ _ (.const (.int .u64 9218868437227405312)) _ rfl _ _ rfl rfl rfl _ E.out ?_) | (go_at_call 9; refine (fl_of_one _).mono ?_; rintro e1 w1 ⟨rfl, rfl⟩))
  go_ret
  exact ⟨rfl, rfl⟩

theorem fl_upN (b : Nat) (hb : b < 18446744073709551616) (hk4 : ¬ kd b = 4) (hk0 : ¬ kd b = 0) (hi : ¬ b = 9218868437227405312) (hs : sgB b = true) (w : World) : Calls Tryd.prog 20 #[.float .f64 b] w fun e w' => e = .returned (.float .f64 (b - 1)) ∧ w = w' := by
  have K := Lib.hid (fl_kind b hb w)
  have k4 : (kd b == 4) = false := by simpa using hk4
  have k0 : (kd b == 0) = false := by simpa using hk0
  generalize kd b = k at *
  have S := fl_sign b hb w
  rw [hs] at S
  have S := Lib.hid S
  have E := Lib.hid (run_cmp (P := Tryd.prog) .eql 22 .u64 (b : Int) 9218868437227405312 false (by first | (rw [beq_eq_false_iff_ne]; omega) | (rw [beq_iff_eq]; omega)) w)
  have E2 := Lib.hid (run_pred (P := Tryd.prog) 22 b (by unfold sgB at hs; simp only [decide_eq_true_eq] at hs; omega) hb w)
  generalize b - 1 = n at *
  clear hb hk4 hk0 hi hs
  go_enter Tryd.func20, Tryd.ntmps20
  go_wp2_with (first | (go_at_call 10; refine (fl_bits _ _).mono ?_; rintro e1 w1 ⟨rfl, rfl⟩) | (go_at_call 13; refine (K.out).mono ?_; rintro e1 w1 ⟨rfl, rfl⟩) | (go_at_call 15; refine (S.out).mono ?_; rintro e1 w1 ⟨rfl, rfl⟩) | (refine wpList_binw _ (by rfl) .eql _ _ (.const (.int .u64 9218868437227405312)) _ rfl _ _ rfl rfl rfl _ E.out ?_) | (refine wpList_bin _ rfl .sub _ _ _ _ rfl _ _ rfl rfl rfl _ E2.out ?_) | (go_at_call 9; refine (fl_of _ _).mono ?_; rintro e1 w1 ⟨rfl, rfl⟩))
  go_ret
  exact ⟨rfl, rfl⟩

theorem fl_upP (b : Nat) (hb : b < 18446744073709551616) (hk4 : ¬ kd b = 4) (hk0 : ¬ kd b = 0) (hi : ¬ b = 9218868437227405312) (hs : sgB b = false) (w : World) : Calls Tryd.prog 20 #[.float .f64 b] w fun e w' => e = .returned (.float .f64 (b + 1)) ∧ w = w' := by
  have K := Lib.hid (fl_kind b hb w)
  have k4 : (kd b == 4) = false := by simpa using hk4
  have k0 : (kd b == 0) = false := by simpa using hk0
  generalize kd b = k at *
  have S := fl_sign b hb w
  rw [hs] at S
  have S := Lib.hid S
  have E := Lib.hid (run_cmp (P := Tryd.prog) .eql 22 .u64 (b : Int) 9218868437227405312 false (by first | (rw [beq_eq_false_iff_ne]; omega) | (rw [beq_iff_eq]; omega)) w)
  have E2 := Lib.hid (run_succ (P := Tryd.prog) 22 b (by unfold sgB at hs; simp only [decide_eq_false_iff_not] at hs; omega) w)
  generalize b + 1 = n at *
  clear hb hk4 hk0 hi hs
  go_enter Tryd.func20, Tryd.ntmps20
  go_wp2_with (first | (go_at_call 10; refine (fl_bits _ _).mono ?_; rintro e1 w1 ⟨rfl, rfl⟩) | (go_at_call 13; refine (K.out).mono ?_; rintro e1 w1 ⟨rfl, rfl⟩) | (go_at_call 15; refine (S.out).mono ?_; rintro e1 w1 ⟨rfl, rfl⟩) | (refine wpList_binw _ (by rfl) .eql _ _ (.const (.int .u64 9218868437227405312)) _ rfl _ _ rfl rfl rfl _ E.out ?_) | (refine wpList_bin _ rfl .add _ _ _ _ rfl _ _ rfl rfl rfl _ E2.out ?_) | (go_at_call 9; refine (fl_of _ _).mono ?_; rintro e1 w1 ⟨rfl, rfl⟩))
  go_ret
  exact ⟨rfl, rfl⟩

theorem kd3 (b : Nat) (h : b = 9218868437227405312) : kd b = 3 := by subst h; unfold kd kdx; decide

theorem fl_up (b : Nat) (hb : b < 18446744073709551616) (w : World) : Calls Tryd.prog 20 #[.float .f64 b] w fun e w' => e = .returned (.float .f64 (upN b)) ∧ w = w' := by
  unfold upN
  by_cases h4 : kd b = 4
  · rw [if_pos (.inl h4)]; exact fl_up4 b hb h4 w
  by_cases hi : b = 9218868437227405312
  · rw [if_pos (.inr hi)]; exact fl_up3 b hb (kd3 b hi) hi w
  rw [if_neg (fun h => h.elim h4 hi)]
  by_cases h0 : kd b = 0
  · rw [if_pos h0]; exact fl_up0 b hb h0 hi w
  rw [if_neg h0]
  cases hs : sgB b
  · exact fl_upP b hb h4 h0 hi hs w
  · exact fl_upN b hb h4 h0 hi hs w

theorem fl_down4 (b : Nat) (hb : b < 18446744073709551616) (hk : kd b = 4) (w : World) : Calls Tryd.prog 22 #[.float .f64 b] w fun e w' => e = .returned (.float .f64 b) ∧ w = w' := by
  have K := fl_kind b hb w
  rw [hk] at K
  have K := Lib.hid K
  clear hb hk
  go_enter Tryd.func22, Tryd.ntmps22
  go_wp2_with (go_at_call 13; refine (K.out).mono ?_; rintro e1 w1 ⟨rfl, rfl⟩)
  go_ret
  exact ⟨rfl, rfl⟩

theorem fl_down0 (b : Nat) (hb : b < 18446744073709551616) (hk4 : ¬ kd b = 4) (w : World) : Calls Tryd.prog 22 #[.float .f64 b] w fun e w' => e = .returned (.float .f64 (ngN (upN (ngN b)))) ∧ w = w' := by
  have K := Lib.hid (fl_kind b hb w)
  have k4 : (kd b == 4) = false := by simpa using hk4
  have N1 := Lib.hid (fl_neg b hb w)
  have N2 := Lib.hid (fl_up (ngN b) (ngN_lt b hb) w)
  have N3 := Lib.hid (fl_neg (upN (ngN b)) (upN_lt _ (ngN_lt b hb)) w)
  generalize kd b = k at *
  generalize upN (ngN b) = x at *
  generalize ngN x = y at *
  generalize ngN b = z at *
  clear hb hk4
  go_enter Tryd.func22, Tryd.ntmps22
  go_wp2_with fail
  refine K.out.mono ?_
  rintro e1 w1 ⟨rfl, rfl⟩
  go_wp2_with fail
  refine N1.out.mono ?_
  rintro e1 w1 ⟨rfl, rfl⟩
  go_wp2_with fail
  refine N2.out.mono ?_
  rintro e1 w1 ⟨rfl, rfl⟩
  go_wp2_with fail
  refine N3.out.mono ?_
  rintro e1 w1 ⟨rfl, rfl⟩
  go_wp2
  go_ret
  exact ⟨rfl, rfl⟩

theorem fl_down (b : Nat) (hb : b < 18446744073709551616) (w : World) : Calls Tryd.prog 22 #[.float .f64 b] w fun e w' => e = .returned (.float .f64 (dnN b)) ∧ w = w' := by
  unfold dnN
  by_cases h4 : kd b = 4
  · rw [if_pos h4]; exact fl_down4 b hb h4 w
  · rw [if_neg h4]; exact fl_down0 b hb h4 w

end Go.Proofs.YtflkbefiopnigaaDoor

