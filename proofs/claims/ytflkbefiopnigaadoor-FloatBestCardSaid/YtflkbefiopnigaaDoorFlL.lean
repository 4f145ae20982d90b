/- The laws FloatKinds, FloatSteps, FloatOrder, FloatNear: the walks. -/
import Derived.Test.YtflkbefiopnigaaDoorFlTab
namespace Go.Proofs.YtflkbefiopnigaaDoor
open Go.ChangeShapes Go.WideShapes Go.ChangeAt Go.RowKit

theorem run_fcmp {P : Program} (op : BinOp) (t : TypeId) (a b : Nat) (v : Bool) (h : match op with | .lss => ltB a b = v | .gtr => gtB a b = v | _ => False) (w : World) :
    (binOp op t (.float .f64 a) (.float .f64 b)).run P w = .ok (.bool v) w := by
  cases op <;> simp only at h <;> first | exact h.elim | (subst h; first | rfl | simp [binOp, Op.floatCmp, ltB, gtB, FloatKind.format])

def nanN : Nat := 9221120237041090560
theorem cn_nan (a : Nat) (h : kd a = 4) : cnN a = nanN := by unfold cnN; rw [if_pos h]; rfl
theorem nan_eq : ((nanN : Nat) : Int) = 9221120237041090560 := rfl
attribute [irreducible] nanN

theorem run_geqS {P : Program} (t : TypeId) (a : Nat) (w : World) : (binOp .geq t (.int .u64 a) (.int .u64 9223372036854775808)).run P w = .ok (.bool (sgB a)) w :=
  run_cmp .geq t .u64 a 9223372036854775808 (sgB a) (by unfold sgB; simp only [decide_eq_decide]; omega) w

set_option maxHeartbeats 4000000 in
theorem kinds_N (a b : Nat) (ha : a < 18446744073709551616) (hk : kd a = 4) (w : World) (hT : Tab w) : Calls Tryd.prog 3 #[.int .u64 a, .int .u64 b] w fun e w' => e = .returned (.bool true) ∧ Below w.heap.size w w' := by
  have EQ : Hid ((binOp .eql 22 (.int .u64 (nanN : Nat)) (.int .u64 9221120237041090560)).run Tryd.prog w = .ok (.bool true) w) := Lib.hid (run_cmp .eql 22 .u64 _ _ true (by rw [nan_eq]; decide) w)
  have LL := Lib.hid (fl_lives w hT)
  have CN := fl_canon a ha w
  have e : cnN a = nanN := by exact cn_nan a hk
  rw [e] at CN
  have CN := Lib.hid CN
  have RN := r_nan a w
  rw [show (kd a == 4) = true by simpa using hk] at RN
  have RN := Lib.hid RN
  have K := Lib.hid (fl_kind a ha w)
  have RK := Lib.hid (r_kind a w)
  have SG := Lib.hid (fl_sign a ha w)
  have SM := Lib.hid (fl_same a b w)
  have G := Lib.hid (run_geqS (P := Tryd.prog) 22 a w)
  have BN := Lib.hid (fl_bits nanN w)
  generalize kd a = k at *
  generalize sgB a = s at *
  clear e ha hk hT
  go_enter Tryd.func3, Tryd.ntmps3
  go_wp2_with (first | (go_at_call 9; refine (fl_of _ _).mono ?_; rintro e1 w1 ⟨rfl, rfl⟩) | (go_at_call 10; with_reducible refine (BN.out).mono ?_; rintro e1 w1 ⟨rfl, rfl⟩) | (go_at_call 10; refine (fl_bits _ _).mono ?_; rintro e1 w1 ⟨rfl, rfl⟩) | (go_at_call 11; refine (CN.out).mono ?_; rintro e1 w1 ⟨rfl, rfl⟩) | (go_at_call 12; refine (RN.out).mono ?_; rintro e1 w1 ⟨rfl, rfl⟩) | (go_at_call 13; refine (K.out).mono ?_; rintro e1 w1 ⟨rfl, rfl⟩) | (go_at_call 14; refine (RK.out).mono ?_; rintro e1 w1 ⟨rfl, rfl⟩) | (go_at_call 15; refine (SG.out).mono ?_; rintro e1 w1 ⟨rfl, rfl⟩) | (go_at_call 16; refine (SM.out).mono ?_; rintro e1 w1 ⟨rfl, rfl⟩) | (go_at_call 17; refine (LL.out).mono ?_; rintro e1 w1 ⟨rfl, hb⟩) | (refine wpList_binw _ (by rfl) .geq _ _ _ _ rfl _ _ rfl rfl rfl _ G.out ?_) | (refine wpList_binw _ (by rfl) .eql _ (.tmp 47) (.tmp 48) _ rfl (.int .u64 (nanN : Nat)) (.int .u64 9221120237041090560) rfl rfl rfl (.bool true) EQ.out ?_))
  go_ret
  exact ⟨rfl, hb⟩

set_option maxHeartbeats 4000000 in
theorem kinds_0 (a b : Nat) (ha : a < 18446744073709551616) (hk : ¬ kd a = 4) (w : World) (hT : Tab w) : Calls Tryd.prog 3 #[.int .u64 a, .int .u64 b] w fun e w' => e = .returned (.bool true) ∧ Below w.heap.size w w' := by
  have LL := Lib.hid (fl_lives w hT)
  have CN := fl_canon a ha w
  have e : cnN a = a := by unfold cnN; rw [if_neg hk]
  rw [e] at CN
  have CN := Lib.hid CN
  have RN := r_nan a w
  rw [show (kd a == 4) = false by simpa using hk] at RN
  have RN := Lib.hid RN
  have K := Lib.hid (fl_kind a ha w)
  have RK := Lib.hid (r_kind a w)
  have SG := Lib.hid (fl_sign a ha w)
  have SM := Lib.hid (fl_same a b w)
  have G := Lib.hid (run_geqS (P := Tryd.prog) 22 a w)
  have BN := Lib.hid (fl_bits a w)
  generalize kd a = k at *
  generalize sgB a = s at *
  clear e ha hk hT
  go_enter Tryd.func3, Tryd.ntmps3
  go_wp2_with (first | (go_at_call 9; refine (fl_of _ _).mono ?_; rintro e1 w1 ⟨rfl, rfl⟩) | (go_at_call 10; with_reducible refine (BN.out).mono ?_; rintro e1 w1 ⟨rfl, rfl⟩) | (go_at_call 10; refine (fl_bits _ _).mono ?_; rintro e1 w1 ⟨rfl, rfl⟩) | (go_at_call 11; refine (CN.out).mono ?_; rintro e1 w1 ⟨rfl, rfl⟩) | (go_at_call 12; refine (RN.out).mono ?_; rintro e1 w1 ⟨rfl, rfl⟩) | (go_at_call 13; refine (K.out).mono ?_; rintro e1 w1 ⟨rfl, rfl⟩) | (go_at_call 14; refine (RK.out).mono ?_; rintro e1 w1 ⟨rfl, rfl⟩) | (go_at_call 15; refine (SG.out).mono ?_; rintro e1 w1 ⟨rfl, rfl⟩) | (go_at_call 16; refine (SM.out).mono ?_; rintro e1 w1 ⟨rfl, rfl⟩) | (go_at_call 17; refine (LL.out).mono ?_; rintro e1 w1 ⟨rfl, hb⟩) | (refine wpList_binw _ (by rfl) .geq _ _ _ _ rfl _ _ rfl rfl rfl _ G.out ?_))
  go_ret
  exact ⟨rfl, hb⟩

set_option maxHeartbeats 4000000 in
theorem steps_any (a b : Nat) (ha : a < 18446744073709551616) (hb0 : b < 18446744073709551616) (w : World) (hT : Tab w) : Calls Tryd.prog 4 #[.int .u64 a, .int .u64 b] w fun e w' => e = .returned (.bool true) ∧ Below w.heap.size w w' := by
  have LL := Lib.hid (fl_lives w hT)
  have B1 := Lib.hid (fl_before a b ha hb0 w)
  have B2 := Lib.hid (r_before a b ha hb0 w)
  have U1 := Lib.hid (fl_up a ha w)
  have U2 := Lib.hid (r_up a ha w)
  have D1 := Lib.hid (fl_down a ha w)
  have D2 := Lib.hid (r_down a ha w)
  generalize bfB a b = v at *
  generalize upN a = x at *
  generalize dnN a = y at *
  clear ha hb0 hT
  go_enter Tryd.func4, Tryd.ntmps4
  go_wp2_with (first | (go_at_call 9; refine (fl_of _ _).mono ?_; rintro e1 w1 ⟨rfl, rfl⟩) | (go_at_call 10; refine (fl_bits _ _).mono ?_; rintro e1 w1 ⟨rfl, rfl⟩) | (go_at_call 18; refine (B1.out).mono ?_; rintro e1 w1 ⟨rfl, rfl⟩) | (go_at_call 19; refine (B2.out).mono ?_; rintro e1 w1 ⟨rfl, rfl⟩) | (go_at_call 20; refine (U1.out).mono ?_; rintro e1 w1 ⟨rfl, rfl⟩) | (go_at_call 21; refine (U2.out).mono ?_; rintro e1 w1 ⟨rfl, rfl⟩) | (go_at_call 22; refine (D1.out).mono ?_; rintro e1 w1 ⟨rfl, rfl⟩) | (go_at_call 23; refine (D2.out).mono ?_; rintro e1 w1 ⟨rfl, rfl⟩) | (go_at_call 17; refine (LL.out).mono ?_; rintro e1 w1 ⟨rfl, hb⟩))
  go_ret
  exact ⟨rfl, hb⟩

set_option maxHeartbeats 4000000 in
theorem order_TFTt (a b c : Nat) (ha : a < 18446744073709551616) (hb0 : b < 18446744073709551616) (hc0 : c < 18446744073709551616) (hx1 : bfB a b = true) (hx2 : bfB b a = false) (hx3 : bfB b c = true) (hx4 : bfB a c = true) (hl1 : ltB a b = true) (hl2 : gtB a b = false) (w : World) (hT : Tab w) : Calls Tryd.prog 5 #[.int .u64 a, .int .u64 b, .int .u64 c] w fun e w' => e = .returned (.bool true) ∧ Below w.heap.size w w' := by
  have LL := Lib.hid (fl_lives w hT)
  have Bx1 := fl_before a b ha hb0 w
  rw [hx1] at Bx1
  have Bx1 := Lib.hid Bx1
  have Bx2 := fl_before b a hb0 ha w
  rw [hx2] at Bx2
  have Bx2 := Lib.hid Bx2
  have Bx3 := fl_before b c hb0 hc0 w
  rw [hx3] at Bx3
  have Bx3 := Lib.hid Bx3
  have Bx4 := fl_before a c ha hc0 w
  rw [hx4] at Bx4
  have Bx4 := Lib.hid Bx4
  have Bl1 := Lib.hid (run_fcmp (P := Tryd.prog) .lss 23 a b true hl1 w)
  have Bl2 := Lib.hid (run_fcmp (P := Tryd.prog) .gtr 23 a b false hl2 w)
  have BR := fl_before a a ha ha w
  rw [before_refl] at BR
  have BR := Lib.hid BR
  clear ha hb0 hc0 hT hx1 hx2 hx3 hx4 hl1 hl2
  go_enter Tryd.func5, Tryd.ntmps5
  go_wp2_with (first | (go_at_call 9; refine (fl_of _ _).mono ?_; rintro e1 w1 ⟨rfl, rfl⟩) | (go_at_call 18; with_reducible refine (Bx1.out).mono ?_; rintro e1 w1 ⟨rfl, rfl⟩) | (go_at_call 18; with_reducible refine (Bx2.out).mono ?_; rintro e1 w1 ⟨rfl, rfl⟩) | (go_at_call 18; with_reducible refine (Bx3.out).mono ?_; rintro e1 w1 ⟨rfl, rfl⟩) | (go_at_call 18; with_reducible refine (Bx4.out).mono ?_; rintro e1 w1 ⟨rfl, rfl⟩) | (refine wpList_bin _ rfl .lss _ _ _ _ rfl _ _ rfl rfl rfl _ Bl1.out ?_) | (refine wpList_binw _ (by rfl) .gtr _ _ _ _ rfl _ _ rfl rfl rfl _ Bl2.out ?_) | (go_at_call 18; with_reducible refine (BR.out).mono ?_; rintro e1 w1 ⟨rfl, rfl⟩) | (go_at_call 17; refine (LL.out).mono ?_; rintro e1 w1 ⟨rfl, hb⟩))
  go_ret
  exact ⟨rfl, hb⟩

set_option maxHeartbeats 4000000 in
theorem order_TFFt (a b c : Nat) (ha : a < 18446744073709551616) (hb0 : b < 18446744073709551616) (hc0 : c < 18446744073709551616) (hx1 : bfB a b = true) (hx2 : bfB b a = false) (hx3 : bfB b c = false) (hl1 : ltB a b = true) (hl2 : gtB a b = false) (w : World) (hT : Tab w) : Calls Tryd.prog 5 #[.int .u64 a, .int .u64 b, .int .u64 c] w fun e w' => e = .returned (.bool true) ∧ Below w.heap.size w w' := by
  have LL := Lib.hid (fl_lives w hT)
  have Bx1 := fl_before a b ha hb0 w
  rw [hx1] at Bx1
  have Bx1 := Lib.hid Bx1
  have Bx2 := fl_before b a hb0 ha w
  rw [hx2] at Bx2
  have Bx2 := Lib.hid Bx2
  have Bx3 := fl_before b c hb0 hc0 w
  rw [hx3] at Bx3
  have Bx3 := Lib.hid Bx3
  have Bl1 := Lib.hid (run_fcmp (P := Tryd.prog) .lss 23 a b true hl1 w)
  have Bl2 := Lib.hid (run_fcmp (P := Tryd.prog) .gtr 23 a b false hl2 w)
  have BR := fl_before a a ha ha w
  rw [before_refl] at BR
  have BR := Lib.hid BR
  clear ha hb0 hc0 hT hx1 hx2 hx3 hl1 hl2
  go_enter Tryd.func5, Tryd.ntmps5
  go_wp2_with (first | (go_at_call 9; refine (fl_of _ _).mono ?_; rintro e1 w1 ⟨rfl, rfl⟩) | (go_at_call 18; with_reducible refine (Bx1.out).mono ?_; rintro e1 w1 ⟨rfl, rfl⟩) | (go_at_call 18; with_reducible refine (Bx2.out).mono ?_; rintro e1 w1 ⟨rfl, rfl⟩) | (go_at_call 18; with_reducible refine (Bx3.out).mono ?_; rintro e1 w1 ⟨rfl, rfl⟩) | (refine wpList_bin _ rfl .lss _ _ _ _ rfl _ _ rfl rfl rfl _ Bl1.out ?_) | (refine wpList_binw _ (by rfl) .gtr _ _ _ _ rfl _ _ rfl rfl rfl _ Bl2.out ?_) | (go_at_call 18; with_reducible refine (BR.out).mono ?_; rintro e1 w1 ⟨rfl, rfl⟩) | (go_at_call 17; refine (LL.out).mono ?_; rintro e1 w1 ⟨rfl, hb⟩))
  go_ret
  exact ⟨rfl, hb⟩

set_option maxHeartbeats 4000000 in
theorem order_TFTf (a b c : Nat) (ha : a < 18446744073709551616) (hb0 : b < 18446744073709551616) (hc0 : c < 18446744073709551616) (hx1 : bfB a b = true) (hx2 : bfB b a = false) (hx3 : bfB b c = true) (hx4 : bfB a c = true) (hl1 : ltB a b = false) (hl2 : gtB a b = false) (w : World) (hT : Tab w) : Calls Tryd.prog 5 #[.int .u64 a, .int .u64 b, .int .u64 c] w fun e w' => e = .returned (.bool true) ∧ Below w.heap.size w w' := by
  have LL := Lib.hid (fl_lives w hT)
  have Bx1 := fl_before a b ha hb0 w
  rw [hx1] at Bx1
  have Bx1 := Lib.hid Bx1
  have Bx2 := fl_before b a hb0 ha w
  rw [hx2] at Bx2
  have Bx2 := Lib.hid Bx2
  have Bx3 := fl_before b c hb0 hc0 w
  rw [hx3] at Bx3
  have Bx3 := Lib.hid Bx3
  have Bx4 := fl_before a c ha hc0 w
  rw [hx4] at Bx4
  have Bx4 := Lib.hid Bx4
  have Bl1 := Lib.hid (run_fcmp (P := Tryd.prog) .lss 23 a b false hl1 w)
  have Bl2 := Lib.hid (run_fcmp (P := Tryd.prog) .gtr 23 a b false hl2 w)
  have BR := fl_before a a ha ha w
  rw [before_refl] at BR
  have BR := Lib.hid BR
  clear ha hb0 hc0 hT hx1 hx2 hx3 hx4 hl1 hl2
  go_enter Tryd.func5, Tryd.ntmps5
  go_wp2_with (first | (go_at_call 9; refine (fl_of _ _).mono ?_; rintro e1 w1 ⟨rfl, rfl⟩) | (go_at_call 18; with_reducible refine (Bx1.out).mono ?_; rintro e1 w1 ⟨rfl, rfl⟩) | (go_at_call 18; with_reducible refine (Bx2.out).mono ?_; rintro e1 w1 ⟨rfl, rfl⟩) | (go_at_call 18; with_reducible refine (Bx3.out).mono ?_; rintro e1 w1 ⟨rfl, rfl⟩) | (go_at_call 18; with_reducible refine (Bx4.out).mono ?_; rintro e1 w1 ⟨rfl, rfl⟩) | (refine wpList_bin _ rfl .lss _ _ _ _ rfl _ _ rfl rfl rfl _ Bl1.out ?_) | (refine wpList_binw _ (by rfl) .gtr _ _ _ _ rfl _ _ rfl rfl rfl _ Bl2.out ?_) | (go_at_call 18; with_reducible refine (BR.out).mono ?_; rintro e1 w1 ⟨rfl, rfl⟩) | (go_at_call 17; refine (LL.out).mono ?_; rintro e1 w1 ⟨rfl, hb⟩))
  go_ret
  exact ⟨rfl, hb⟩

set_option maxHeartbeats 4000000 in
theorem order_TFFf (a b c : Nat) (ha : a < 18446744073709551616) (hb0 : b < 18446744073709551616) (hc0 : c < 18446744073709551616) (hx1 : bfB a b = true) (hx2 : bfB b a = false) (hx3 : bfB b c = false) (hl1 : ltB a b = false) (hl2 : gtB a b = false) (w : World) (hT : Tab w) : Calls Tryd.prog 5 #[.int .u64 a, .int .u64 b, .int .u64 c] w fun e w' => e = .returned (.bool true) ∧ Below w.heap.size w w' := by
  have LL := Lib.hid (fl_lives w hT)
  have Bx1 := fl_before a b ha hb0 w
  rw [hx1] at Bx1
  have Bx1 := Lib.hid Bx1
  have Bx2 := fl_before b a hb0 ha w
  rw [hx2] at Bx2
  have Bx2 := Lib.hid Bx2
  have Bx3 := fl_before b c hb0 hc0 w
  rw [hx3] at Bx3
  have Bx3 := Lib.hid Bx3
  have Bl1 := Lib.hid (run_fcmp (P := Tryd.prog) .lss 23 a b false hl1 w)
  have Bl2 := Lib.hid (run_fcmp (P := Tryd.prog) .gtr 23 a b false hl2 w)
  have BR := fl_before a a ha ha w
  rw [before_refl] at BR
  have BR := Lib.hid BR
  clear ha hb0 hc0 hT hx1 hx2 hx3 hl1 hl2
  go_enter Tryd.func5, Tryd.ntmps5
  go_wp2_with (first | (go_at_call 9; refine (fl_of _ _).mono ?_; rintro e1 w1 ⟨rfl, rfl⟩) | (go_at_call 18; with_reducible refine (Bx1.out).mono ?_; rintro e1 w1 ⟨rfl, rfl⟩) | (go_at_call 18; with_reducible refine (Bx2.out).mono ?_; rintro e1 w1 ⟨rfl, rfl⟩) | (go_at_call 18; with_reducible refine (Bx3.out).mono ?_; rintro e1 w1 ⟨rfl, rfl⟩) | (refine wpList_bin _ rfl .lss _ _ _ _ rfl _ _ rfl rfl rfl _ Bl1.out ?_) | (refine wpList_binw _ (by rfl) .gtr _ _ _ _ rfl _ _ rfl rfl rfl _ Bl2.out ?_) | (go_at_call 18; with_reducible refine (BR.out).mono ?_; rintro e1 w1 ⟨rfl, rfl⟩) | (go_at_call 17; refine (LL.out).mono ?_; rintro e1 w1 ⟨rfl, hb⟩))
  go_ret
  exact ⟨rfl, hb⟩

set_option maxHeartbeats 4000000 in
theorem order_FTt (a b c : Nat) (ha : a < 18446744073709551616) (hb0 : b < 18446744073709551616) (hx1 : bfB a b = false) (hx2 : bfB b a = true) (hl1 : ltB a b = false) (hl2 : gtB a b = true) (w : World) (hT : Tab w) : Calls Tryd.prog 5 #[.int .u64 a, .int .u64 b, .int .u64 c] w fun e w' => e = .returned (.bool true) ∧ Below w.heap.size w w' := by
  have LL := Lib.hid (fl_lives w hT)
  have Bx1 := fl_before a b ha hb0 w
  rw [hx1] at Bx1
  have Bx1 := Lib.hid Bx1
  have Bx2 := fl_before b a hb0 ha w
  rw [hx2] at Bx2
  have Bx2 := Lib.hid Bx2
  have Bl1 := Lib.hid (run_fcmp (P := Tryd.prog) .lss 23 a b false hl1 w)
  have Bl2 := Lib.hid (run_fcmp (P := Tryd.prog) .gtr 23 a b true hl2 w)
  have BR := fl_before a a ha ha w
  rw [before_refl] at BR
  have BR := Lib.hid BR
  clear ha hb0 hT hx1 hx2 hl1 hl2
  go_enter Tryd.func5, Tryd.ntmps5
  go_wp2_with (first | (go_at_call 9; refine (fl_of _ _).mono ?_; rintro e1 w1 ⟨rfl, rfl⟩) | (go_at_call 18; with_reducible refine (Bx1.out).mono ?_; rintro e1 w1 ⟨rfl, rfl⟩) | (go_at_call 18; with_reducible refine (Bx2.out).mono ?_; rintro e1 w1 ⟨rfl, rfl⟩) | (refine wpList_bin _ rfl .lss _ _ _ _ rfl _ _ rfl rfl rfl _ Bl1.out ?_) | (refine wpList_binw _ (by rfl) .gtr _ _ _ _ rfl _ _ rfl rfl rfl _ Bl2.out ?_) | (go_at_call 18; with_reducible refine (BR.out).mono ?_; rintro e1 w1 ⟨rfl, rfl⟩) | (go_at_call 17; refine (LL.out).mono ?_; rintro e1 w1 ⟨rfl, hb⟩))
  go_ret
  exact ⟨rfl, hb⟩

set_option maxHeartbeats 4000000 in
theorem order_FTf (a b c : Nat) (ha : a < 18446744073709551616) (hb0 : b < 18446744073709551616) (hx1 : bfB a b = false) (hx2 : bfB b a = true) (hl1 : ltB a b = false) (hl2 : gtB a b = false) (w : World) (hT : Tab w) : Calls Tryd.prog 5 #[.int .u64 a, .int .u64 b, .int .u64 c] w fun e w' => e = .returned (.bool true) ∧ Below w.heap.size w w' := by
  have LL := Lib.hid (fl_lives w hT)
  have Bx1 := fl_before a b ha hb0 w
  rw [hx1] at Bx1
  have Bx1 := Lib.hid Bx1
  have Bx2 := fl_before b a hb0 ha w
  rw [hx2] at Bx2
  have Bx2 := Lib.hid Bx2
  have Bl1 := Lib.hid (run_fcmp (P := Tryd.prog) .lss 23 a b false hl1 w)
  have Bl2 := Lib.hid (run_fcmp (P := Tryd.prog) .gtr 23 a b false hl2 w)
  have BR := fl_before a a ha ha w
  rw [before_refl] at BR
  have BR := Lib.hid BR
  clear ha hb0 hT hx1 hx2 hl1 hl2
  go_enter Tryd.func5, Tryd.ntmps5
  go_wp2_with (first | (go_at_call 9; refine (fl_of _ _).mono ?_; rintro e1 w1 ⟨rfl, rfl⟩) | (go_at_call 18; with_reducible refine (Bx1.out).mono ?_; rintro e1 w1 ⟨rfl, rfl⟩) | (go_at_call 18; with_reducible refine (Bx2.out).mono ?_; rintro e1 w1 ⟨rfl, rfl⟩) | (refine wpList_bin _ rfl .lss _ _ _ _ rfl _ _ rfl rfl rfl _ Bl1.out ?_) | (refine wpList_binw _ (by rfl) .gtr _ _ _ _ rfl _ _ rfl rfl rfl _ Bl2.out ?_) | (go_at_call 18; with_reducible refine (BR.out).mono ?_; rintro e1 w1 ⟨rfl, rfl⟩) | (go_at_call 17; refine (LL.out).mono ?_; rintro e1 w1 ⟨rfl, hb⟩))
  go_ret
  exact ⟨rfl, hb⟩

set_option maxHeartbeats 4000000 in
theorem order_E (a c : Nat) (ha : a < 18446744073709551616) (hl1 : ltB a a = false) (hl2 : gtB a a = false) (w : World) (hT : Tab w) : Calls Tryd.prog 5 #[.int .u64 a, .int .u64 a, .int .u64 c] w fun e w' => e = .returned (.bool true) ∧ Below w.heap.size w w' := by
  have LL := Lib.hid (fl_lives w hT)
  have BR := fl_before a a ha ha w
  rw [before_refl] at BR
  have BR := Lib.hid BR
  have L1 := Lib.hid (run_fcmp (P := Tryd.prog) .lss 23 a a false hl1 w)
  have L2 := Lib.hid (run_fcmp (P := Tryd.prog) .gtr 23 a a false hl2 w)
  clear ha hT hl1 hl2
  go_enter Tryd.func5, Tryd.ntmps5
  go_wp2_with (first | (go_at_call 9; refine (fl_of _ _).mono ?_; rintro e1 w1 ⟨rfl, rfl⟩) | (go_at_call 18; with_reducible refine (BR.out).mono ?_; rintro e1 w1 ⟨rfl, rfl⟩) | (go_at_call 17; refine (LL.out).mono ?_; rintro e1 w1 ⟨rfl, hb⟩) | (refine wpList_bin _ rfl .lss _ _ _ _ rfl _ _ rfl rfl rfl _ L1.out ?_) | (refine wpList_binw _ (by rfl) .gtr _ _ _ _ rfl _ _ rfl rfl rfl _ L2.out ?_))
  go_ret
  exact ⟨rfl, hb⟩

theorem order_any (a b c : Nat) (ha : a < 18446744073709551616) (hb0 : b < 18446744073709551616) (hc0 : c < 18446744073709551616) (w : World) (hT : Tab w) : Calls Tryd.prog 5 #[.int .u64 a, .int .u64 b, .int .u64 c] w fun e w' => e = .returned (.bool true) ∧ Below w.heap.size w w' := by
  have g := gtB_of a b ha hb0
  cases h1 : bfB a b
  · have l1 : ltB a b = false := by
      cases h : ltB a b
      · rfl
      · rw [lt_before a b ha hb0 h] at h1; cases h1
    cases h2 : bfB b a
    · obtain rfl := before_total a b ha hb0 h1 h2
      exact order_E a c ha l1 (by rw [g, l1]) w hT
    · cases h : gtB a b
      · exact order_FTf a b c ha hb0 h1 h2 l1 h w hT
      · exact order_FTt a b c ha hb0 h1 h2 l1 h w hT
  · have h2 := before_asymm a b h1
    have l2 : gtB a b = false := by
      rw [g]
      cases h : ltB b a
      · rfl
      · rw [lt_before b a hb0 ha h] at h2; cases h2
    cases h3 : bfB b c
    · cases h : ltB a b
      · exact order_TFFf a b c ha hb0 hc0 h1 h2 h3 h l2 w hT
      · exact order_TFFt a b c ha hb0 hc0 h1 h2 h3 h l2 w hT
    · have h4 := before_trans a b c h1 h3
      cases h : ltB a b
      · exact order_TFTf a b c ha hb0 hc0 h1 h2 h3 h4 h l2 w hT
      · exact order_TFTt a b c ha hb0 hc0 h1 h2 h3 h4 h l2 w hT

end Go.Proofs.YtflkbefiopnigaaDoor

