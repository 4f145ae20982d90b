/- Package float and the document's floats: what each function gives, by bits. -/
import Derived.Test.YtflkbefiopnigaaDoorFlB
import Derived.Test.YtflkbefiopnigaaDoorSep
namespace Go.Proofs.YtflkbefiopnigaaDoor
open Go.ChangeShapes Go.WideShapes Go.ChangeAt Go.RowKit

/-- the kind, of bits without the sign -/
def kdx (x : Nat) : Int := if x = 0 then 0 else if x ≤ 4503599627370495 then 1 else if x < 9218868437227405312 then 2 else if x = 9218868437227405312 then 3 else 4
def kd (b : Nat) : Int := kdx (b % 9223372036854775808)
def sgB (b : Nat) : Bool := decide (9223372036854775808 ≤ b)
def rkN (b : Nat) : Nat := if sgB b then 18446744073709551615 - b else b + 9223372036854775808
def ngN (b : Nat) : Nat := if sgB b then b - 9223372036854775808 else b + 9223372036854775808
def upN (b : Nat) : Nat := if kd b = 4 ∨ b = 9218868437227405312 then b else if kd b = 0 then 1 else if sgB b then b - 1 else b + 1
def dnN (b : Nat) : Nat := if kd b = 4 then b else ngN (upN (ngN b))
def bfB (a b : Nat) : Bool := decide (rkN a < rkN b)
def cnN (b : Nat) : Nat := if kd b = 4 then 9221120237041090560 else b

theorem kd_range (b : Nat) : 0 ≤ kd b ∧ kd b ≤ 4 := by unfold kd kdx; repeat' split <;> omega

theorem ngN_lt (b : Nat) (h : b < 18446744073709551616) : ngN b < 18446744073709551616 := by
  unfold ngN sgB; split <;> rename_i g <;> simp only [decide_eq_true_eq] at g <;> omega

theorem upN_lt (b : Nat) (h : b < 18446744073709551616) : upN b < 18446744073709551616 := by
  unfold upN
  split
  · exact h
  · rename_i h1
    split
    · omega
    · split
      · omega
      · rename_i h2 h3
        unfold sgB at h3
        simp only [decide_eq_true_eq] at h3
        omega

theorem x_of (b : Nat) (w : World) : (callFunc 30 #[.int .u64 b]).run Tryd.prog w = .ok (.value (.float .f64 b)) w := by
  rw [run_callFunc_extern (e := Extern.MathFloatBits.float64frombits) Tryd.func30 (by kernel_rfl) (by kernel_rfl) (by kernel_rfl) (by kernel_rfl)]
  rfl

theorem x_bits (b : Nat) (w : World) : (callFunc 31 #[.float .f64 b]).run Tryd.prog w = .ok (.value (.int .u64 b)) w := by
  rw [run_callFunc_extern (e := Extern.MathFloatBits.float64bits) Tryd.func31 (by kernel_rfl) (by kernel_rfl) (by kernel_rfl) (by kernel_rfl)]
  rfl

theorem fl_of (b : Nat) (w : World) : Calls Tryd.prog 9 #[.int .u64 b] w fun e w' => e = .returned (.float .f64 b) ∧ w = w' := by
  have X := x_of b
  go_enter Tryd.func9, Tryd.ntmps9
  go_wp2
  go_ret
  exact ⟨rfl, rfl⟩

theorem fl_bits (b : Nat) (w : World) : Calls Tryd.prog 10 #[.float .f64 b] w fun e w' => e = .returned (.int .u64 b) ∧ w = w' := by
  have X := x_bits b
  go_enter Tryd.func10, Tryd.ntmps10
  go_wp2
  go_ret
  exact ⟨rfl, rfl⟩

/-- a binary operation whose value is told -/
theorem wpList_bin {P : Program} (w : World) {ops : Array Oper} {rest : List Oper} {o : Oper} {a : Act} {Q : Exit → Act → World → Prop} (hg : o.guard = none) (op : BinOp) (t : TypeId) (x y : Operand) (t2 : TypeId)
    (hop : o.op = Op.binOp op t x y t2) (u1 u2 : Value) (h1 : a.eval x = u1) (h2 : a.eval y = u2) (hgd : (eqGuard op t x y u1 u2).run P w = .ok () w) (v : Value) (hrun : (binOp op t u1 u2).run P w = .ok v w) (hK : wpList P ops Q rest (a.put o.dst v) w) : wpList P ops Q (o :: rest) a w := by
  refine wpList_plain hg fun K hK' => ?_
  unfold Oper.wp
  simp [execOp, hop, h1, h2, hgd, hrun, Result.andThen]
  exact hK' _ _ hK

theorem run_notSign {P : Program} (t : TypeId) (b : Nat) (hb : b < 18446744073709551616) (w : World) : (binOp .andNot t (.int .u64 b) (.int .u64 9223372036854775808)).run P w = .ok (.int .u64 ((b % 9223372036854775808 : Nat) : Int)) w := by
  rw [← not_sign b hb]
  rfl

theorem run_cmp {P : Program} (op : BinOp) (t : TypeId) (k : IntKind) (a b : Int) (v : Bool) (h : match op with | .eql => (a == b) = v | .neq => (a != b) = v | .lss => decide (a < b) = v | .leq => decide (a ≤ b) = v | .gtr => decide (b < a) = v | .geq => decide (b ≤ a) = v | _ => False) (w : World) :
    (binOp op t (.int k a) (.int k b)).run P w = .ok (.bool v) w := by
  cases op <;> simp only at h <;> first | exact h.elim | (subst h; simp [binOp, Op.intCmp])

theorem fl_kind0 (b x : Nat) (hb : b < 18446744073709551616) (hx : b % 9223372036854775808 = x) (h1 : ((x : Int) == 0) = true) (w : World) : Calls Tryd.prog 13 #[.float .f64 b] w fun e w' => e = .returned (.int .i64 0) ∧ w = w' := by
  have E := Lib.hid (run_notSign (P := Tryd.prog) 22 b hb w)
  rw [hx] at E
  have E1 := Lib.hid (run_cmp (P := Tryd.prog) .eql 22 .u64 (x : Int) 0 true h1 w)
  clear hx hb h1
  go_enter Tryd.func13, Tryd.ntmps13
  go_wp2_with (first | (go_at_call 10; refine (fl_bits _ _).mono ?_; rintro e1 w1 ⟨rfl, rfl⟩) | (refine wpList_bin _ rfl .andNot _ _ _ _ rfl _ _ rfl rfl rfl _ E.out ?_) | (refine wpList_bin _ rfl .eql _ _ (.const (.int .u64 0)) _ rfl _ _ rfl rfl rfl _ E1.out ?_))
  go_ret
  exact ⟨rfl, rfl⟩

theorem fl_kind1 (b x : Nat) (hb : b < 18446744073709551616) (hx : b % 9223372036854775808 = x) (h1 : ((x : Int) == 0) = false) (h2 : decide ((x : Int) ≤ 4503599627370495) = true) (w : World) : Calls Tryd.prog 13 #[.float .f64 b] w fun e w' => e = .returned (.int .i64 1) ∧ w = w' := by
  have E := Lib.hid (run_notSign (P := Tryd.prog) 22 b hb w)
  rw [hx] at E
  have E1 := Lib.hid (run_cmp (P := Tryd.prog) .eql 22 .u64 (x : Int) 0 false h1 w)
  have E2 := Lib.hid (run_cmp (P := Tryd.prog) .leq 22 .u64 (x : Int) 4503599627370495 true h2 w)
  clear hx hb h1 h2
  go_enter Tryd.func13, Tryd.ntmps13
  go_wp2_with (first | (go_at_call 10; refine (fl_bits _ _).mono ?_; rintro e1 w1 ⟨rfl, rfl⟩) | (refine wpList_bin _ rfl .andNot _ _ _ _ rfl _ _ rfl rfl rfl _ E.out ?_) | (refine wpList_bin _ rfl .eql _ _ (.const (.int .u64 0)) _ rfl _ _ rfl rfl rfl _ E1.out ?_) | (refine wpList_bin _ rfl .leq _ _ _ _ rfl _ _ rfl rfl rfl _ E2.out ?_))
  go_ret
  exact ⟨rfl, rfl⟩

theorem fl_kind2 (b x : Nat) (hb : b < 18446744073709551616) (hx : b % 9223372036854775808 = x) (h1 : ((x : Int) == 0) = false) (h2 : decide ((x : Int) ≤ 4503599627370495) = false) (h3 : decide ((x : Int) < 9218868437227405312) = true) (w : World) : Calls Tryd.prog 13 #[.float .f64 b] w fun e w' => e = .returned (.int .i64 2) ∧ w = w' := by
  have E := Lib.hid (run_notSign (P := Tryd.prog) 22 b hb w)
  rw [hx] at E
  have E1 := Lib.hid (run_cmp (P := Tryd.prog) .eql 22 .u64 (x : Int) 0 false h1 w)
  have E2 := Lib.hid (run_cmp (P := Tryd.prog) .leq 22 .u64 (x : Int) 4503599627370495 false h2 w)
  have E3 := Lib.hid (run_cmp (P := Tryd.prog) .lss 22 .u64 (x : Int) 9218868437227405312 true h3 w)
  clear hx hb h1 h2 h3
  go_enter Tryd.func13, Tryd.ntmps13
  go_wp2_with (first | (go_at_call 10; refine (fl_bits _ _).mono ?_; rintro e1 w1 ⟨rfl, rfl⟩) | (refine wpList_bin _ rfl .andNot _ _ _ _ rfl _ _ rfl rfl rfl _ E.out ?_) | (refine wpList_bin _ rfl .eql _ _ (.const (.int .u64 0)) _ rfl _ _ rfl rfl rfl _ E1.out ?_) | (refine wpList_bin _ rfl .leq _ _ _ _ rfl _ _ rfl rfl rfl _ E2.out ?_) | (refine wpList_bin _ rfl .lss _ _ _ _ rfl _ _ rfl rfl rfl _ E3.out ?_))
  go_ret
  exact ⟨rfl, rfl⟩

theorem fl_kind3 (b x : Nat) (hb : b < 18446744073709551616) (hx : b % 9223372036854775808 = x) (h1 : ((x : Int) == 0) = false) (h2 : decide ((x : Int) ≤ 4503599627370495) = false) (h3 : decide ((x : Int) < 9218868437227405312) = false) (h4 : ((x : Int) == 9218868437227405312) = true) (w : World) : Calls Tryd.prog 13 #[.float .f64 b] w fun e w' => e = .returned (.int .i64 3) ∧ w = w' := by
  have E := Lib.hid (run_notSign (P := Tryd.prog) 22 b hb w)
  rw [hx] at E
  have E1 := Lib.hid (run_cmp (P := Tryd.prog) .eql 22 .u64 (x : Int) 0 false h1 w)
  have E2 := Lib.hid (run_cmp (P := Tryd.prog) .leq 22 .u64 (x : Int) 4503599627370495 false h2 w)
  have E3 := Lib.hid (run_cmp (P := Tryd.prog) .lss 22 .u64 (x : Int) 9218868437227405312 false h3 w)
  have E4 := Lib.hid (run_cmp (P := Tryd.prog) .eql 22 .u64 (x : Int) 9218868437227405312 true h4 w)
  clear hx hb h1 h2 h3 h4
  go_enter Tryd.func13, Tryd.ntmps13
  go_wp2_with (first | (go_at_call 10; refine (fl_bits _ _).mono ?_; rintro e1 w1 ⟨rfl, rfl⟩) | (refine wpList_bin _ rfl .andNot _ _ _ _ rfl _ _ rfl rfl rfl _ E.out ?_) | (refine wpList_bin _ rfl .eql _ _ (.const (.int .u64 0)) _ rfl _ _ rfl rfl rfl _ E1.out ?_) | (refine wpList_bin _ rfl .leq _ _ _ _ rfl _ _ rfl rfl rfl _ E2.out ?_) | (refine wpList_bin _ rfl .lss _ _ _ _ rfl _ _ rfl rfl rfl _ E3.out ?_) | (refine wpList_bin _ rfl .eql _ _ (.const (.int .u64 9218868437227405312)) _ rfl _ _ rfl rfl rfl _ E4.out ?_))
  go_ret
  exact ⟨rfl, rfl⟩

theorem fl_kind4 (b x : Nat) (hb : b < 18446744073709551616) (hx : b % 9223372036854775808 = x) (h1 : ((x : Int) == 0) = false) (h2 : decide ((x : Int) ≤ 4503599627370495) = false) (h3 : decide ((x : Int) < 9218868437227405312) = false) (h4 : ((x : Int) == 9218868437227405312) = false) (w : World) : Calls Tryd.prog 13 #[.float .f64 b] w fun e w' => e = .returned (.int .i64 4) ∧ w = w' := by
  have E := Lib.hid (run_notSign (P := Tryd.prog) 22 b hb w)
  rw [hx] at E
  have E1 := Lib.hid (run_cmp (P := Tryd.prog) .eql 22 .u64 (x : Int) 0 false h1 w)
  have E2 := Lib.hid (run_cmp (P := Tryd.prog) .leq 22 .u64 (x : Int) 4503599627370495 false h2 w)
  have E3 := Lib.hid (run_cmp (P := Tryd.prog) .lss 22 .u64 (x : Int) 9218868437227405312 false h3 w)
  have E4 := Lib.hid (run_cmp (P := Tryd.prog) .eql 22 .u64 (x : Int) 9218868437227405312 false h4 w)
  clear hx hb h1 h2 h3 h4
  go_enter Tryd.func13, Tryd.ntmps13
  go_wp2_with (first | (go_at_call 10; refine (fl_bits _ _).mono ?_; rintro e1 w1 ⟨rfl, rfl⟩) | (refine wpList_bin _ rfl .andNot _ _ _ _ rfl _ _ rfl rfl rfl _ E.out ?_) | (refine wpList_bin _ rfl .eql _ _ (.const (.int .u64 0)) _ rfl _ _ rfl rfl rfl _ E1.out ?_) | (refine wpList_bin _ rfl .leq _ _ _ _ rfl _ _ rfl rfl rfl _ E2.out ?_) | (refine wpList_bin _ rfl .lss _ _ _ _ rfl _ _ rfl rfl rfl _ E3.out ?_) | (refine wpList_bin _ rfl .eql _ _ (.const (.int .u64 9218868437227405312)) _ rfl _ _ rfl rfl rfl _ E4.out ?_))
  go_ret
  exact ⟨rfl, rfl⟩

theorem fl_kind (b : Nat) (hb : b < 18446744073709551616) (w : World) : Calls Tryd.prog 13 #[.float .f64 b] w fun e w' => e = .returned (.int .i64 (kd b)) ∧ w = w' := by
  unfold kd
  have g0 := fl_kind0 b _ hb rfl
  have g1 := fl_kind1 b _ hb rfl
  have g2 := fl_kind2 b _ hb rfl
  have g3 := fl_kind3 b _ hb rfl
  have g4 := fl_kind4 b _ hb rfl
  generalize b % 9223372036854775808 = x at *
  unfold kdx
  by_cases h1 : x = 0
  · rw [if_pos h1]; exact g0 (by simp [h1]) w
  rw [if_neg h1]
  have b1 : ((x : Int) == 0) = false := by rw [beq_eq_false_iff_ne]; omega
  by_cases h2 : x ≤ 4503599627370495
  · rw [if_pos h2]; exact g1 b1 (decide_eq_true (by omega)) w
  rw [if_neg h2]
  have b2 : decide ((x : Int) ≤ 4503599627370495) = false := decide_eq_false (by omega)
  by_cases h3 : x < 9218868437227405312
  · rw [if_pos h3]; exact g2 b1 b2 (decide_eq_true (by omega)) w
  rw [if_neg h3]
  have b3 : decide ((x : Int) < 9218868437227405312) = false := decide_eq_false (by omega)
  by_cases h4 : x = 9218868437227405312
  · rw [if_pos h4]; exact g3 b1 b2 b3 (by rw [beq_iff_eq]; omega) w
  rw [if_neg h4]
  exact g4 b1 b2 b3 (by rw [beq_eq_false_iff_ne]; omega) w

end Go.Proofs.YtflkbefiopnigaaDoor
