/- The law FloatNear: the walks. -/
import Derived.Test.YtflkbefiopnigaaDoorFlL
import Derived.Test.YtflkbefiopnigaaDoorBinX
namespace Go.Proofs.YtflkbefiopnigaaDoor
open Go.ChangeShapes Go.WideShapes Go.ChangeAt Go.RowKit

set_option maxHeartbeats 4000000 in
theorem near_k4 (a b : Nat) (ha : a < 18446744073709551616) (hk : kd a = 4) (w : World) (hT : Tab w) : Calls Tryd.prog 6 #[.int .u64 a, .int .u64 b] w fun e w' => e = .returned (.bool true) ∧ Below w.heap.size w w' := by
  have LL := Lib.hid (fl_lives w hT)
  have K := fl_kind a ha w
  rw [hk] at K
  have K := Lib.hid K
  clear ha hk hT
  go_enter Tryd.func6, Tryd.ntmps6
  go_wp2_with (first | (go_at_call 9; refine (fl_of _ _).mono ?_; rintro e1 w1 ⟨rfl, rfl⟩) | (go_at_call 13; refine (K.out).mono ?_; rintro e1 w1 ⟨rfl, rfl⟩) | (go_at_call 17; refine (LL.out).mono ?_; rintro e1 w1 ⟨rfl, hb⟩))
  go_ret
  exact ⟨rfl, hb⟩

set_option maxHeartbeats 4000000 in
theorem near_k3 (a b : Nat) (ha : a < 18446744073709551616) (hk : kd a = 3) (w : World) (hT : Tab w) : Calls Tryd.prog 6 #[.int .u64 a, .int .u64 b] w fun e w' => e = .returned (.bool true) ∧ Below w.heap.size w w' := by
  have LL := Lib.hid (fl_lives w hT)
  have K := fl_kind a ha w
  rw [hk] at K
  have K := Lib.hid K
  clear ha hk hT
  go_enter Tryd.func6, Tryd.ntmps6
  go_wp2_with (first | (go_at_call 9; refine (fl_of _ _).mono ?_; rintro e1 w1 ⟨rfl, rfl⟩) | (go_at_call 13; refine (K.out).mono ?_; rintro e1 w1 ⟨rfl, rfl⟩) | (go_at_call 17; refine (LL.out).mono ?_; rintro e1 w1 ⟨rfl, hb⟩))
  go_ret
  exact ⟨rfl, hb⟩

set_option maxHeartbeats 4000000 in
theorem near_k0 (a b : Nat) (ha : a < 18446744073709551616) (hk : kd a = 0) (w : World) (hT : Tab w) : Calls Tryd.prog 6 #[.int .u64 a, .int .u64 b] w fun e w' => e = .returned (.bool true) ∧ Below w.heap.size w w' := by
  have LL := Lib.hid (fl_lives w hT)
  have K := fl_kind a ha w
  rw [hk] at K
  have K := Lib.hid K
  clear ha hk hT
  go_enter Tryd.func6, Tryd.ntmps6
  go_wp2_with (first | (go_at_call 9; refine (fl_of _ _).mono ?_; rintro e1 w1 ⟨rfl, rfl⟩) | (go_at_call 13; refine (K.out).mono ?_; rintro e1 w1 ⟨rfl, rfl⟩) | (go_at_call 17; refine (LL.out).mono ?_; rintro e1 w1 ⟨rfl, hb⟩))
  go_ret
  exact ⟨rfl, hb⟩

set_option maxHeartbeats 4000000 in
theorem near_1111 (a b : Nat) (ha : a < 18446744073709551616) (hb0 : b < 18446744073709551616) (hk3 : ¬ kd a = 3) (hn : numB a) (h3 : ltB a b = true) (h5 : ltB (dnN a) b = true) (z1 : (kd (upN a) != 0) = false) (z2 : (kd (dnN a) != 0) = false) (w : World) (hT : Tab w) : Calls Tryd.prog 6 #[.int .u64 a, .int .u64 b] w fun e w' => e = .returned (.bool true) ∧ Below w.heap.size w w' := by
  have LL := Lib.hid (fl_lives w hT)
  obtain ⟨n1, n2, n3, n4, n5⟩ := near_no a b ha hb0 hn
  obtain ⟨k4, k0, ki⟩ := num_kd a hn
  have k3 : ¬ kd a = 3 := hk3
  have lu := upN_lt a ha
  have ld := dnN_lt a ha
  have T10 := run_fcmp (P := Tryd.prog) .gtr 23 (upN a) a true n2 w
  have T20 := run_fcmp (P := Tryd.prog) .lss 23 (dnN a) a true n3 w
  have T30 := run_fcmp (P := Tryd.prog) .lss 23 a b true h3 w
  have T50 := run_fcmp (P := Tryd.prog) .lss 23 (dnN a) b true h5 w
  have T40 := run_fcmp (P := Tryd.prog) .lss 23 b (upN a) false (n4 h3) w
  have T60 := run_fcmp (P := Tryd.prog) .lss 23 b a false (n5 h5) w
  have K0 := fl_kind a ha w
  have KU0 := fl_kind (upN a) lu w
  have KD0 := fl_kind (dnN a) ld w
  have UP0 := fl_up a ha w
  have DN0 := fl_down a ha w
  have e4 : (kd a == 4) = false := by simpa using k4
  have e3 : (kd a == 3) = false := by simpa using k3
  have e0 : (kd a == 0) = false := by simpa using k0
  clear k4 k3 hk3 k0 ki n1 n2 n3 n4 n5 lu ld ha hb0 hn h3 h5 hT
  generalize kd (upN a) = ku at *
  generalize kd (dnN a) = kw at *
  generalize kd a = k at *
  generalize upN a = x at *
  generalize dnN a = y at *
  have T1 := Lib.hid T10
  clear T10
  have T2 := Lib.hid T20
  clear T20
  have T3 := Lib.hid T30
  clear T30
  have T5 := Lib.hid T50
  clear T50
  have T4 := Lib.hid T40
  clear T40
  have T6 := Lib.hid T60
  clear T60
  have K := Lib.hid K0
  clear K0
  have KU := Lib.hid KU0
  clear KU0
  have KD := Lib.hid KD0
  clear KD0
  have UP := Lib.hid UP0
  clear UP0
  have DN := Lib.hid DN0
  clear DN0
  go_enter Tryd.func6, Tryd.ntmps6
  go_wp2_with (first | (go_at_call 9; refine (fl_of _ _).mono ?_; rintro e1 w1 ⟨rfl, rfl⟩) | (go_at_call 13; with_reducible refine (K.out).mono ?_; rintro e1 w1 ⟨rfl, rfl⟩) | (go_at_call 13; with_reducible refine (KU.out).mono ?_; rintro e1 w1 ⟨rfl, rfl⟩) | (go_at_call 13; with_reducible refine (KD.out).mono ?_; rintro e1 w1 ⟨rfl, rfl⟩) | (go_at_call 20; with_reducible refine (UP.out).mono ?_; rintro e1 w1 ⟨rfl, rfl⟩) | (go_at_call 22; with_reducible refine (DN.out).mono ?_; rintro e1 w1 ⟨rfl, rfl⟩) | ((with_reducible refine wpList_binX (dst := some 33) ?_ ?_ ?_ T1.out ?_); rfl; rfl; rfl) | ((with_reducible refine wpList_binwX (dst := some 38) ?_ ?_ ?_ ?_ T2.out ?_); rfl; rfl; rfl; rfl) | ((with_reducible refine wpList_binwX (dst := some 44) ?_ ?_ ?_ ?_ T3.out ?_); rfl; rfl; rfl; rfl) | ((with_reducible refine wpList_binwX (dst := some 48) ?_ ?_ ?_ ?_ T4.out ?_); rfl; rfl; rfl; rfl) | ((with_reducible refine wpList_binwX (dst := some 54) ?_ ?_ ?_ ?_ T5.out ?_); rfl; rfl; rfl; rfl) | ((with_reducible refine wpList_binwX (dst := some 58) ?_ ?_ ?_ ?_ T6.out ?_); rfl; rfl; rfl; rfl) | (go_at_call 17; refine (LL.out).mono ?_; rintro e1 w1 ⟨rfl, hb⟩))
  go_ret
  exact ⟨rfl, hb⟩

set_option maxHeartbeats 4000000 in
theorem near_1110 (a b : Nat) (ha : a < 18446744073709551616) (hb0 : b < 18446744073709551616) (hk3 : ¬ kd a = 3) (hn : numB a) (h3 : ltB a b = true) (h5 : ltB (dnN a) b = true) (z1 : (kd (upN a) != 0) = false) (z2 : (kd (dnN a) != 0) = true) (w : World) (hT : Tab w) : Calls Tryd.prog 6 #[.int .u64 a, .int .u64 b] w fun e w' => e = .returned (.bool true) ∧ Below w.heap.size w w' := by
  have LL := Lib.hid (fl_lives w hT)
  obtain ⟨n1, n2, n3, n4, n5⟩ := near_no a b ha hb0 hn
  obtain ⟨k4, k0, ki⟩ := num_kd a hn
  have k3 : ¬ kd a = 3 := hk3
  have lu := upN_lt a ha
  have ld := dnN_lt a ha
  have T10 := run_fcmp (P := Tryd.prog) .gtr 23 (upN a) a true n2 w
  have T20 := run_fcmp (P := Tryd.prog) .lss 23 (dnN a) a true n3 w
  have T30 := run_fcmp (P := Tryd.prog) .lss 23 a b true h3 w
  have T50 := run_fcmp (P := Tryd.prog) .lss 23 (dnN a) b true h5 w
  have T40 := run_fcmp (P := Tryd.prog) .lss 23 b (upN a) false (n4 h3) w
  have T60 := run_fcmp (P := Tryd.prog) .lss 23 b a false (n5 h5) w
  have K0 := fl_kind a ha w
  have KU0 := fl_kind (upN a) lu w
  have KD0 := fl_kind (dnN a) ld w
  have UP0 := fl_up a ha w
  have DN0 := fl_down a ha w
  have UD := fl_up (dnN a) ld w
  rw [up_down a ha hn (by simpa using z2)] at UD
  have SM := fl_same a a w
  rw [show ((a : Int) == (a : Int)) = true by simp] at SM
  have e4 : (kd a == 4) = false := by simpa using k4
  have e3 : (kd a == 3) = false := by simpa using k3
  have e0 : (kd a == 0) = false := by simpa using k0
  clear k4 k3 hk3 k0 ki n1 n2 n3 n4 n5 lu ld ha hb0 hn h3 h5 hT
  generalize kd (upN a) = ku at *
  generalize kd (dnN a) = kw at *
  generalize kd a = k at *
  generalize upN a = x at *
  generalize dnN a = y at *
  have T1 := Lib.hid T10
  clear T10
  have T2 := Lib.hid T20
  clear T20
  have T3 := Lib.hid T30
  clear T30
  have T5 := Lib.hid T50
  clear T50
  have T4 := Lib.hid T40
  clear T40
  have T6 := Lib.hid T60
  clear T60
  have K := Lib.hid K0
  clear K0
  have KU := Lib.hid KU0
  clear KU0
  have KD := Lib.hid KD0
  clear KD0
  have UP := Lib.hid UP0
  clear UP0
  have DN := Lib.hid DN0
  clear DN0
  have UD9 := Lib.hid UD
  clear UD
  have SM9 := Lib.hid SM
  clear SM
  go_enter Tryd.func6, Tryd.ntmps6
  go_wp2_with (first | (go_at_call 9; refine (fl_of _ _).mono ?_; rintro e1 w1 ⟨rfl, rfl⟩) | (go_at_call 13; with_reducible refine (K.out).mono ?_; rintro e1 w1 ⟨rfl, rfl⟩) | (go_at_call 13; with_reducible refine (KU.out).mono ?_; rintro e1 w1 ⟨rfl, rfl⟩) | (go_at_call 13; with_reducible refine (KD.out).mono ?_; rintro e1 w1 ⟨rfl, rfl⟩) | (go_at_call 20; with_reducible refine (UP.out).mono ?_; rintro e1 w1 ⟨rfl, rfl⟩) | (go_at_call 22; with_reducible refine (DN.out).mono ?_; rintro e1 w1 ⟨rfl, rfl⟩) | ((with_reducible refine wpList_binX (dst := some 33) ?_ ?_ ?_ T1.out ?_); rfl; rfl; rfl) | ((with_reducible refine wpList_binwX (dst := some 38) ?_ ?_ ?_ ?_ T2.out ?_); rfl; rfl; rfl; rfl) | ((with_reducible refine wpList_binwX (dst := some 44) ?_ ?_ ?_ ?_ T3.out ?_); rfl; rfl; rfl; rfl) | ((with_reducible refine wpList_binwX (dst := some 48) ?_ ?_ ?_ ?_ T4.out ?_); rfl; rfl; rfl; rfl) | ((with_reducible refine wpList_binwX (dst := some 54) ?_ ?_ ?_ ?_ T5.out ?_); rfl; rfl; rfl; rfl) | ((with_reducible refine wpList_binwX (dst := some 58) ?_ ?_ ?_ ?_ T6.out ?_); rfl; rfl; rfl; rfl) | (go_at_call 20; with_reducible refine (UD9.out).mono ?_; rintro e1 w1 ⟨rfl, rfl⟩) | (go_at_call 16; with_reducible refine (SM9.out).mono ?_; rintro e1 w1 ⟨rfl, rfl⟩) | (go_at_call 17; refine (LL.out).mono ?_; rintro e1 w1 ⟨rfl, hb⟩))
  go_ret
  exact ⟨rfl, hb⟩

set_option maxHeartbeats 4000000 in
theorem near_1101 (a b : Nat) (ha : a < 18446744073709551616) (hb0 : b < 18446744073709551616) (hk3 : ¬ kd a = 3) (hn : numB a) (h3 : ltB a b = true) (h5 : ltB (dnN a) b = true) (z1 : (kd (upN a) != 0) = true) (z2 : (kd (dnN a) != 0) = false) (w : World) (hT : Tab w) : Calls Tryd.prog 6 #[.int .u64 a, .int .u64 b] w fun e w' => e = .returned (.bool true) ∧ Below w.heap.size w w' := by
  have LL := Lib.hid (fl_lives w hT)
  obtain ⟨n1, n2, n3, n4, n5⟩ := near_no a b ha hb0 hn
  obtain ⟨k4, k0, ki⟩ := num_kd a hn
  have k3 : ¬ kd a = 3 := hk3
  have lu := upN_lt a ha
  have ld := dnN_lt a ha
  have T10 := run_fcmp (P := Tryd.prog) .gtr 23 (upN a) a true n2 w
  have T20 := run_fcmp (P := Tryd.prog) .lss 23 (dnN a) a true n3 w
  have T30 := run_fcmp (P := Tryd.prog) .lss 23 a b true h3 w
  have T50 := run_fcmp (P := Tryd.prog) .lss 23 (dnN a) b true h5 w
  have T40 := run_fcmp (P := Tryd.prog) .lss 23 b (upN a) false (n4 h3) w
  have T60 := run_fcmp (P := Tryd.prog) .lss 23 b a false (n5 h5) w
  have K0 := fl_kind a ha w
  have KU0 := fl_kind (upN a) lu w
  have KD0 := fl_kind (dnN a) ld w
  have UP0 := fl_up a ha w
  have DN0 := fl_down a ha w
  have DU := fl_down (upN a) lu w
  rw [down_up a ha hn (by simpa using z1)] at DU
  have SM := fl_same a a w
  rw [show ((a : Int) == (a : Int)) = true by simp] at SM
  have e4 : (kd a == 4) = false := by simpa using k4
  have e3 : (kd a == 3) = false := by simpa using k3
  have e0 : (kd a == 0) = false := by simpa using k0
  clear k4 k3 hk3 k0 ki n1 n2 n3 n4 n5 lu ld ha hb0 hn h3 h5 hT
  generalize kd (upN a) = ku at *
  generalize kd (dnN a) = kw at *
  generalize kd a = k at *
  generalize upN a = x at *
  generalize dnN a = y at *
  have T1 := Lib.hid T10
  clear T10
  have T2 := Lib.hid T20
  clear T20
  have T3 := Lib.hid T30
  clear T30
  have T5 := Lib.hid T50
  clear T50
  have T4 := Lib.hid T40
  clear T40
  have T6 := Lib.hid T60
  clear T60
  have K := Lib.hid K0
  clear K0
  have KU := Lib.hid KU0
  clear KU0
  have KD := Lib.hid KD0
  clear KD0
  have UP := Lib.hid UP0
  clear UP0
  have DN := Lib.hid DN0
  clear DN0
  have DU9 := Lib.hid DU
  clear DU
  have SM9 := Lib.hid SM
  clear SM
  go_enter Tryd.func6, Tryd.ntmps6
  go_wp2_with (first | (go_at_call 9; refine (fl_of _ _).mono ?_; rintro e1 w1 ⟨rfl, rfl⟩) | (go_at_call 13; with_reducible refine (K.out).mono ?_; rintro e1 w1 ⟨rfl, rfl⟩) | (go_at_call 13; with_reducible refine (KU.out).mono ?_; rintro e1 w1 ⟨rfl, rfl⟩) | (go_at_call 13; with_reducible refine (KD.out).mono ?_; rintro e1 w1 ⟨rfl, rfl⟩) | (go_at_call 20; with_reducible refine (UP.out).mono ?_; rintro e1 w1 ⟨rfl, rfl⟩) | (go_at_call 22; with_reducible refine (DN.out).mono ?_; rintro e1 w1 ⟨rfl, rfl⟩) | ((with_reducible refine wpList_binX (dst := some 33) ?_ ?_ ?_ T1.out ?_); rfl; rfl; rfl) | ((with_reducible refine wpList_binwX (dst := some 38) ?_ ?_ ?_ ?_ T2.out ?_); rfl; rfl; rfl; rfl) | ((with_reducible refine wpList_binwX (dst := some 44) ?_ ?_ ?_ ?_ T3.out ?_); rfl; rfl; rfl; rfl) | ((with_reducible refine wpList_binwX (dst := some 48) ?_ ?_ ?_ ?_ T4.out ?_); rfl; rfl; rfl; rfl) | ((with_reducible refine wpList_binwX (dst := some 54) ?_ ?_ ?_ ?_ T5.out ?_); rfl; rfl; rfl; rfl) | ((with_reducible refine wpList_binwX (dst := some 58) ?_ ?_ ?_ ?_ T6.out ?_); rfl; rfl; rfl; rfl) | (go_at_call 22; with_reducible refine (DU9.out).mono ?_; rintro e1 w1 ⟨rfl, rfl⟩) | (go_at_call 16; with_reducible refine (SM9.out).mono ?_; rintro e1 w1 ⟨rfl, rfl⟩) | (go_at_call 17; refine (LL.out).mono ?_; rintro e1 w1 ⟨rfl, hb⟩))
  go_ret
  exact ⟨rfl, hb⟩

set_option maxHeartbeats 4000000 in
theorem near_1100 (a b : Nat) (ha : a < 18446744073709551616) (hb0 : b < 18446744073709551616) (hk3 : ¬ kd a = 3) (hn : numB a) (h3 : ltB a b = true) (h5 : ltB (dnN a) b = true) (z1 : (kd (upN a) != 0) = true) (z2 : (kd (dnN a) != 0) = true) (w : World) (hT : Tab w) : Calls Tryd.prog 6 #[.int .u64 a, .int .u64 b] w fun e w' => e = .returned (.bool true) ∧ Below w.heap.size w w' := by
  have LL := Lib.hid (fl_lives w hT)
  obtain ⟨n1, n2, n3, n4, n5⟩ := near_no a b ha hb0 hn
  obtain ⟨k4, k0, ki⟩ := num_kd a hn
  have k3 : ¬ kd a = 3 := hk3
  have lu := upN_lt a ha
  have ld := dnN_lt a ha
  have T10 := run_fcmp (P := Tryd.prog) .gtr 23 (upN a) a true n2 w
  have T20 := run_fcmp (P := Tryd.prog) .lss 23 (dnN a) a true n3 w
  have T30 := run_fcmp (P := Tryd.prog) .lss 23 a b true h3 w
  have T50 := run_fcmp (P := Tryd.prog) .lss 23 (dnN a) b true h5 w
  have T40 := run_fcmp (P := Tryd.prog) .lss 23 b (upN a) false (n4 h3) w
  have T60 := run_fcmp (P := Tryd.prog) .lss 23 b a false (n5 h5) w
  have K0 := fl_kind a ha w
  have KU0 := fl_kind (upN a) lu w
  have KD0 := fl_kind (dnN a) ld w
  have UP0 := fl_up a ha w
  have DN0 := fl_down a ha w
  have DU := fl_down (upN a) lu w
  rw [down_up a ha hn (by simpa using z1)] at DU
  have UD := fl_up (dnN a) ld w
  rw [up_down a ha hn (by simpa using z2)] at UD
  have SM := fl_same a a w
  rw [show ((a : Int) == (a : Int)) = true by simp] at SM
  have e4 : (kd a == 4) = false := by simpa using k4
  have e3 : (kd a == 3) = false := by simpa using k3
  have e0 : (kd a == 0) = false := by simpa using k0
  clear k4 k3 hk3 k0 ki n1 n2 n3 n4 n5 lu ld ha hb0 hn h3 h5 hT
  generalize kd (upN a) = ku at *
  generalize kd (dnN a) = kw at *
  generalize kd a = k at *
  generalize upN a = x at *
  generalize dnN a = y at *
  have T1 := Lib.hid T10
  clear T10
  have T2 := Lib.hid T20
  clear T20
  have T3 := Lib.hid T30
  clear T30
  have T5 := Lib.hid T50
  clear T50
  have T4 := Lib.hid T40
  clear T40
  have T6 := Lib.hid T60
  clear T60
  have K := Lib.hid K0
  clear K0
  have KU := Lib.hid KU0
  clear KU0
  have KD := Lib.hid KD0
  clear KD0
  have UP := Lib.hid UP0
  clear UP0
  have DN := Lib.hid DN0
  clear DN0
  have DU9 := Lib.hid DU
  clear DU
  have UD9 := Lib.hid UD
  clear UD
  have SM9 := Lib.hid SM
  clear SM
  go_enter Tryd.func6, Tryd.ntmps6
  go_wp2_with (first | (go_at_call 9; refine (fl_of _ _).mono ?_; rintro e1 w1 ⟨rfl, rfl⟩) | (go_at_call 13; with_reducible refine (K.out).mono ?_; rintro e1 w1 ⟨rfl, rfl⟩) | (go_at_call 13; with_reducible refine (KU.out).mono ?_; rintro e1 w1 ⟨rfl, rfl⟩) | (go_at_call 13; with_reducible refine (KD.out).mono ?_; rintro e1 w1 ⟨rfl, rfl⟩) | (go_at_call 20; with_reducible refine (UP.out).mono ?_; rintro e1 w1 ⟨rfl, rfl⟩) | (go_at_call 22; with_reducible refine (DN.out).mono ?_; rintro e1 w1 ⟨rfl, rfl⟩) | ((with_reducible refine wpList_binX (dst := some 33) ?_ ?_ ?_ T1.out ?_); rfl; rfl; rfl) | ((with_reducible refine wpList_binwX (dst := some 38) ?_ ?_ ?_ ?_ T2.out ?_); rfl; rfl; rfl; rfl) | ((with_reducible refine wpList_binwX (dst := some 44) ?_ ?_ ?_ ?_ T3.out ?_); rfl; rfl; rfl; rfl) | ((with_reducible refine wpList_binwX (dst := some 48) ?_ ?_ ?_ ?_ T4.out ?_); rfl; rfl; rfl; rfl) | ((with_reducible refine wpList_binwX (dst := some 54) ?_ ?_ ?_ ?_ T5.out ?_); rfl; rfl; rfl; rfl) | ((with_reducible refine wpList_binwX (dst := some 58) ?_ ?_ ?_ ?_ T6.out ?_); rfl; rfl; rfl; rfl) | (go_at_call 22; with_reducible refine (DU9.out).mono ?_; rintro e1 w1 ⟨rfl, rfl⟩) | (go_at_call 20; with_reducible refine (UD9.out).mono ?_; rintro e1 w1 ⟨rfl, rfl⟩) | (go_at_call 16; with_reducible refine (SM9.out).mono ?_; rintro e1 w1 ⟨rfl, rfl⟩) | (go_at_call 17; refine (LL.out).mono ?_; rintro e1 w1 ⟨rfl, hb⟩))
  go_ret
  exact ⟨rfl, hb⟩

set_option maxHeartbeats 4000000 in
theorem near_1011 (a b : Nat) (ha : a < 18446744073709551616) (hb0 : b < 18446744073709551616) (hk3 : ¬ kd a = 3) (hn : numB a) (h3 : ltB a b = true) (h5 : ltB (dnN a) b = false) (z1 : (kd (upN a) != 0) = false) (z2 : (kd (dnN a) != 0) = false) (w : World) (hT : Tab w) : Calls Tryd.prog 6 #[.int .u64 a, .int .u64 b] w fun e w' => e = .returned (.bool true) ∧ Below w.heap.size w w' := by
  have LL := Lib.hid (fl_lives w hT)
  obtain ⟨n1, n2, n3, n4, n5⟩ := near_no a b ha hb0 hn
  obtain ⟨k4, k0, ki⟩ := num_kd a hn
  have k3 : ¬ kd a = 3 := hk3
  have lu := upN_lt a ha
  have ld := dnN_lt a ha
  have T10 := run_fcmp (P := Tryd.prog) .gtr 23 (upN a) a true n2 w
  have T20 := run_fcmp (P := Tryd.prog) .lss 23 (dnN a) a true n3 w
  have T30 := run_fcmp (P := Tryd.prog) .lss 23 a b true h3 w
  have T50 := run_fcmp (P := Tryd.prog) .lss 23 (dnN a) b false h5 w
  have T40 := run_fcmp (P := Tryd.prog) .lss 23 b (upN a) false (n4 h3) w
  have K0 := fl_kind a ha w
  have KU0 := fl_kind (upN a) lu w
  have KD0 := fl_kind (dnN a) ld w
  have UP0 := fl_up a ha w
  have DN0 := fl_down a ha w
  have e4 : (kd a == 4) = false := by simpa using k4
  have e3 : (kd a == 3) = false := by simpa using k3
  have e0 : (kd a == 0) = false := by simpa using k0
  clear k4 k3 hk3 k0 ki n1 n2 n3 n4 n5 lu ld ha hb0 hn h3 h5 hT
  generalize kd (upN a) = ku at *
  generalize kd (dnN a) = kw at *
  generalize kd a = k at *
  generalize upN a = x at *
  generalize dnN a = y at *
  have T1 := Lib.hid T10
  clear T10
  have T2 := Lib.hid T20
  clear T20
  have T3 := Lib.hid T30
  clear T30
  have T5 := Lib.hid T50
  clear T50
  have T4 := Lib.hid T40
  clear T40
  have K := Lib.hid K0
  clear K0
  have KU := Lib.hid KU0
  clear KU0
  have KD := Lib.hid KD0
  clear KD0
  have UP := Lib.hid UP0
  clear UP0
  have DN := Lib.hid DN0
  clear DN0
  go_enter Tryd.func6, Tryd.ntmps6
  go_wp2_with (first | (go_at_call 9; refine (fl_of _ _).mono ?_; rintro e1 w1 ⟨rfl, rfl⟩) | (go_at_call 13; with_reducible refine (K.out).mono ?_; rintro e1 w1 ⟨rfl, rfl⟩) | (go_at_call 13; with_reducible refine (KU.out).mono ?_; rintro e1 w1 ⟨rfl, rfl⟩) | (go_at_call 13; with_reducible refine (KD.out).mono ?_; rintro e1 w1 ⟨rfl, rfl⟩) | (go_at_call 20; with_reducible refine (UP.out).mono ?_; rintro e1 w1 ⟨rfl, rfl⟩) | (go_at_call 22; with_reducible refine (DN.out).mono ?_; rintro e1 w1 ⟨rfl, rfl⟩) | ((with_reducible refine wpList_binX (dst := some 33) ?_ ?_ ?_ T1.out ?_); rfl; rfl; rfl) | ((with_reducible refine wpList_binwX (dst := some 38) ?_ ?_ ?_ ?_ T2.out ?_); rfl; rfl; rfl; rfl) | ((with_reducible refine wpList_binwX (dst := some 44) ?_ ?_ ?_ ?_ T3.out ?_); rfl; rfl; rfl; rfl) | ((with_reducible refine wpList_binwX (dst := some 48) ?_ ?_ ?_ ?_ T4.out ?_); rfl; rfl; rfl; rfl) | ((with_reducible refine wpList_binwX (dst := some 54) ?_ ?_ ?_ ?_ T5.out ?_); rfl; rfl; rfl; rfl) | (go_at_call 17; refine (LL.out).mono ?_; rintro e1 w1 ⟨rfl, hb⟩))
  go_ret
  exact ⟨rfl, hb⟩

set_option maxHeartbeats 4000000 in
theorem near_1010 (a b : Nat) (ha : a < 18446744073709551616) (hb0 : b < 18446744073709551616) (hk3 : ¬ kd a = 3) (hn : numB a) (h3 : ltB a b = true) (h5 : ltB (dnN a) b = false) (z1 : (kd (upN a) != 0) = false) (z2 : (kd (dnN a) != 0) = true) (w : World) (hT : Tab w) : Calls Tryd.prog 6 #[.int .u64 a, .int .u64 b] w fun e w' => e = .returned (.bool true) ∧ Below w.heap.size w w' := by
  have LL := Lib.hid (fl_lives w hT)
  obtain ⟨n1, n2, n3, n4, n5⟩ := near_no a b ha hb0 hn
  obtain ⟨k4, k0, ki⟩ := num_kd a hn
  have k3 : ¬ kd a = 3 := hk3
  have lu := upN_lt a ha
  have ld := dnN_lt a ha
  have T10 := run_fcmp (P := Tryd.prog) .gtr 23 (upN a) a true n2 w
  have T20 := run_fcmp (P := Tryd.prog) .lss 23 (dnN a) a true n3 w
  have T30 := run_fcmp (P := Tryd.prog) .lss 23 a b true h3 w
  have T50 := run_fcmp (P := Tryd.prog) .lss 23 (dnN a) b false h5 w
  have T40 := run_fcmp (P := Tryd.prog) .lss 23 b (upN a) false (n4 h3) w
  have K0 := fl_kind a ha w
  have KU0 := fl_kind (upN a) lu w
  have KD0 := fl_kind (dnN a) ld w
  have UP0 := fl_up a ha w
  have DN0 := fl_down a ha w
  have UD := fl_up (dnN a) ld w
  rw [up_down a ha hn (by simpa using z2)] at UD
  have SM := fl_same a a w
  rw [show ((a : Int) == (a : Int)) = true by simp] at SM
  have e4 : (kd a == 4) = false := by simpa using k4
  have e3 : (kd a == 3) = false := by simpa using k3
  have e0 : (kd a == 0) = false := by simpa using k0
  clear k4 k3 hk3 k0 ki n1 n2 n3 n4 n5 lu ld ha hb0 hn h3 h5 hT
  generalize kd (upN a) = ku at *
  generalize kd (dnN a) = kw at *
  generalize kd a = k at *
  generalize upN a = x at *
  generalize dnN a = y at *
  have T1 := Lib.hid T10
  clear T10
  have T2 := Lib.hid T20
  clear T20
  have T3 := Lib.hid T30
  clear T30
  have T5 := Lib.hid T50
  clear T50
  have T4 := Lib.hid T40
  clear T40
  have K := Lib.hid K0
  clear K0
  have KU := Lib.hid KU0
  clear KU0
  have KD := Lib.hid KD0
  clear KD0
  have UP := Lib.hid UP0
  clear UP0
  have DN := Lib.hid DN0
  clear DN0
  have UD9 := Lib.hid UD
  clear UD
  have SM9 := Lib.hid SM
  clear SM
  go_enter Tryd.func6, Tryd.ntmps6
  go_wp2_with (first | (go_at_call 9; refine (fl_of _ _).mono ?_; rintro e1 w1 ⟨rfl, rfl⟩) | (go_at_call 13; with_reducible refine (K.out).mono ?_; rintro e1 w1 ⟨rfl, rfl⟩) | (go_at_call 13; with_reducible refine (KU.out).mono ?_; rintro e1 w1 ⟨rfl, rfl⟩) | (go_at_call 13; with_reducible refine (KD.out).mono ?_; rintro e1 w1 ⟨rfl, rfl⟩) | (go_at_call 20; with_reducible refine (UP.out).mono ?_; rintro e1 w1 ⟨rfl, rfl⟩) | (go_at_call 22; with_reducible refine (DN.out).mono ?_; rintro e1 w1 ⟨rfl, rfl⟩) | ((with_reducible refine wpList_binX (dst := some 33) ?_ ?_ ?_ T1.out ?_); rfl; rfl; rfl) | ((with_reducible refine wpList_binwX (dst := some 38) ?_ ?_ ?_ ?_ T2.out ?_); rfl; rfl; rfl; rfl) | ((with_reducible refine wpList_binwX (dst := some 44) ?_ ?_ ?_ ?_ T3.out ?_); rfl; rfl; rfl; rfl) | ((with_reducible refine wpList_binwX (dst := some 48) ?_ ?_ ?_ ?_ T4.out ?_); rfl; rfl; rfl; rfl) | ((with_reducible refine wpList_binwX (dst := some 54) ?_ ?_ ?_ ?_ T5.out ?_); rfl; rfl; rfl; rfl) | (go_at_call 20; with_reducible refine (UD9.out).mono ?_; rintro e1 w1 ⟨rfl, rfl⟩) | (go_at_call 16; with_reducible refine (SM9.out).mono ?_; rintro e1 w1 ⟨rfl, rfl⟩) | (go_at_call 17; refine (LL.out).mono ?_; rintro e1 w1 ⟨rfl, hb⟩))
  go_ret
  exact ⟨rfl, hb⟩

set_option maxHeartbeats 4000000 in
theorem near_1001 (a b : Nat) (ha : a < 18446744073709551616) (hb0 : b < 18446744073709551616) (hk3 : ¬ kd a = 3) (hn : numB a) (h3 : ltB a b = true) (h5 : ltB (dnN a) b = false) (z1 : (kd (upN a) != 0) = true) (z2 : (kd (dnN a) != 0) = false) (w : World) (hT : Tab w) : Calls Tryd.prog 6 #[.int .u64 a, .int .u64 b] w fun e w' => e = .returned (.bool true) ∧ Below w.heap.size w w' := by
  have LL := Lib.hid (fl_lives w hT)
  obtain ⟨n1, n2, n3, n4, n5⟩ := near_no a b ha hb0 hn
  obtain ⟨k4, k0, ki⟩ := num_kd a hn
  have k3 : ¬ kd a = 3 := hk3
  have lu := upN_lt a ha
  have ld := dnN_lt a ha
  have T10 := run_fcmp (P := Tryd.prog) .gtr 23 (upN a) a true n2 w
  have T20 := run_fcmp (P := Tryd.prog) .lss 23 (dnN a) a true n3 w
  have T30 := run_fcmp (P := Tryd.prog) .lss 23 a b true h3 w
  have T50 := run_fcmp (P := Tryd.prog) .lss 23 (dnN a) b false h5 w
  have T40 := run_fcmp (P := Tryd.prog) .lss 23 b (upN a) false (n4 h3) w
  have K0 := fl_kind a ha w
  have KU0 := fl_kind (upN a) lu w
  have KD0 := fl_kind (dnN a) ld w
  have UP0 := fl_up a ha w
  have DN0 := fl_down a ha w
  have DU := fl_down (upN a) lu w
  rw [down_up a ha hn (by simpa using z1)] at DU
  have SM := fl_same a a w
  rw [show ((a : Int) == (a : Int)) = true by simp] at SM
  have e4 : (kd a == 4) = false := by simpa using k4
  have e3 : (kd a == 3) = false := by simpa using k3
  have e0 : (kd a == 0) = false := by simpa using k0
  clear k4 k3 hk3 k0 ki n1 n2 n3 n4 n5 lu ld ha hb0 hn h3 h5 hT
  generalize kd (upN a) = ku at *
  generalize kd (dnN a) = kw at *
  generalize kd a = k at *
  generalize upN a = x at *
  generalize dnN a = y at *
  have T1 := Lib.hid T10
  clear T10
  have T2 := Lib.hid T20
  clear T20
  have T3 := Lib.hid T30
  clear T30
  have T5 := Lib.hid T50
  clear T50
  have T4 := Lib.hid T40
  clear T40
  have K := Lib.hid K0
  clear K0
  have KU := Lib.hid KU0
  clear KU0
  have KD := Lib.hid KD0
  clear KD0
  have UP := Lib.hid UP0
  clear UP0
  have DN := Lib.hid DN0
  clear DN0
  have DU9 := Lib.hid DU
  clear DU
  have SM9 := Lib.hid SM
  clear SM
  go_enter Tryd.func6, Tryd.ntmps6
  go_wp2_with (first | (go_at_call 9; refine (fl_of _ _).mono ?_; rintro e1 w1 ⟨rfl, rfl⟩) | (go_at_call 13; with_reducible refine (K.out).mono ?_; rintro e1 w1 ⟨rfl, rfl⟩) | (go_at_call 13; with_reducible refine (KU.out).mono ?_; rintro e1 w1 ⟨rfl, rfl⟩) | (go_at_call 13; with_reducible refine (KD.out).mono ?_; rintro e1 w1 ⟨rfl, rfl⟩) | (go_at_call 20; with_reducible refine (UP.out).mono ?_; rintro e1 w1 ⟨rfl, rfl⟩) | (go_at_call 22; with_reducible refine (DN.out).mono ?_; rintro e1 w1 ⟨rfl, rfl⟩) | ((with_reducible refine wpList_binX (dst := some 33) ?_ ?_ ?_ T1.out ?_); rfl; rfl; rfl) | ((with_reducible refine wpList_binwX (dst := some 38) ?_ ?_ ?_ ?_ T2.out ?_); rfl; rfl; rfl; rfl) | ((with_reducible refine wpList_binwX (dst := some 44) ?_ ?_ ?_ ?_ T3.out ?_); rfl; rfl; rfl; rfl) | ((with_reducible refine wpList_binwX (dst := some 48) ?_ ?_ ?_ ?_ T4.out ?_); rfl; rfl; rfl; rfl) | ((with_reducible refine wpList_binwX (dst := some 54) ?_ ?_ ?_ ?_ T5.out ?_); rfl; rfl; rfl; rfl) | (go_at_call 22; with_reducible refine (DU9.out).mono ?_; rintro e1 w1 ⟨rfl, rfl⟩) | (go_at_call 16; with_reducible refine (SM9.out).mono ?_; rintro e1 w1 ⟨rfl, rfl⟩) | (go_at_call 17; refine (LL.out).mono ?_; rintro e1 w1 ⟨rfl, hb⟩))
  go_ret
  exact ⟨rfl, hb⟩

set_option maxHeartbeats 4000000 in
theorem near_1000 (a b : Nat) (ha : a < 18446744073709551616) (hb0 : b < 18446744073709551616) (hk3 : ¬ kd a = 3) (hn : numB a) (h3 : ltB a b = true) (h5 : ltB (dnN a) b = false) (z1 : (kd (upN a) != 0) = true) (z2 : (kd (dnN a) != 0) = true) (w : World) (hT : Tab w) : Calls Tryd.prog 6 #[.int .u64 a, .int .u64 b] w fun e w' => e = .returned (.bool true) ∧ Below w.heap.size w w' := by
  have LL := Lib.hid (fl_lives w hT)
  obtain ⟨n1, n2, n3, n4, n5⟩ := near_no a b ha hb0 hn
  obtain ⟨k4, k0, ki⟩ := num_kd a hn
  have k3 : ¬ kd a = 3 := hk3
  have lu := upN_lt a ha
  have ld := dnN_lt a ha
  have T10 := run_fcmp (P := Tryd.prog) .gtr 23 (upN a) a true n2 w
  have T20 := run_fcmp (P := Tryd.prog) .lss 23 (dnN a) a true n3 w
  have T30 := run_fcmp (P := Tryd.prog) .lss 23 a b true h3 w
  have T50 := run_fcmp (P := Tryd.prog) .lss 23 (dnN a) b false h5 w
  have T40 := run_fcmp (P := Tryd.prog) .lss 23 b (upN a) false (n4 h3) w
  have K0 := fl_kind a ha w
  have KU0 := fl_kind (upN a) lu w
  have KD0 := fl_kind (dnN a) ld w
  have UP0 := fl_up a ha w
  have DN0 := fl_down a ha w
  have DU := fl_down (upN a) lu w
  rw [down_up a ha hn (by simpa using z1)] at DU
  have UD := fl_up (dnN a) ld w
  rw [up_down a ha hn (by simpa using z2)] at UD
  have SM := fl_same a a w
  rw [show ((a : Int) == (a : Int)) = true by simp] at SM
  have e4 : (kd a == 4) = false := by simpa using k4
  have e3 : (kd a == 3) = false := by simpa using k3
  have e0 : (kd a == 0) = false := by simpa using k0
  clear k4 k3 hk3 k0 ki n1 n2 n3 n4 n5 lu ld ha hb0 hn h3 h5 hT
  generalize kd (upN a) = ku at *
  generalize kd (dnN a) = kw at *
  generalize kd a = k at *
  generalize upN a = x at *
  generalize dnN a = y at *
  have T1 := Lib.hid T10
  clear T10
  have T2 := Lib.hid T20
  clear T20
  have T3 := Lib.hid T30
  clear T30
  have T5 := Lib.hid T50
  clear T50
  have T4 := Lib.hid T40
  clear T40
  have K := Lib.hid K0
  clear K0
  have KU := Lib.hid KU0
  clear KU0
  have KD := Lib.hid KD0
  clear KD0
  have UP := Lib.hid UP0
  clear UP0
  have DN := Lib.hid DN0
  clear DN0
  have DU9 := Lib.hid DU
  clear DU
  have UD9 := Lib.hid UD
  clear UD
  have SM9 := Lib.hid SM
  clear SM
  go_enter Tryd.func6, Tryd.ntmps6
  go_wp2_with (first | (go_at_call 9; refine (fl_of _ _).mono ?_; rintro e1 w1 ⟨rfl, rfl⟩) | (go_at_call 13; with_reducible refine (K.out).mono ?_; rintro e1 w1 ⟨rfl, rfl⟩) | (go_at_call 13; with_reducible refine (KU.out).mono ?_; rintro e1 w1 ⟨rfl, rfl⟩) | (go_at_call 13; with_reducible refine (KD.out).mono ?_; rintro e1 w1 ⟨rfl, rfl⟩) | (go_at_call 20; with_reducible refine (UP.out).mono ?_; rintro e1 w1 ⟨rfl, rfl⟩) | (go_at_call 22; with_reducible refine (DN.out).mono ?_; rintro e1 w1 ⟨rfl, rfl⟩) | ((with_reducible refine wpList_binX (dst := some 33) ?_ ?_ ?_ T1.out ?_); rfl; rfl; rfl) | ((with_reducible refine wpList_binwX (dst := some 38) ?_ ?_ ?_ ?_ T2.out ?_); rfl; rfl; rfl; rfl) | ((with_reducible refine wpList_binwX (dst := some 44) ?_ ?_ ?_ ?_ T3.out ?_); rfl; rfl; rfl; rfl) | ((with_reducible refine wpList_binwX (dst := some 48) ?_ ?_ ?_ ?_ T4.out ?_); rfl; rfl; rfl; rfl) | ((with_reducible refine wpList_binwX (dst := some 54) ?_ ?_ ?_ ?_ T5.out ?_); rfl; rfl; rfl; rfl) | (go_at_call 22; with_reducible refine (DU9.out).mono ?_; rintro e1 w1 ⟨rfl, rfl⟩) | (go_at_call 20; with_reducible refine (UD9.out).mono ?_; rintro e1 w1 ⟨rfl, rfl⟩) | (go_at_call 16; with_reducible refine (SM9.out).mono ?_; rintro e1 w1 ⟨rfl, rfl⟩) | (go_at_call 17; refine (LL.out).mono ?_; rintro e1 w1 ⟨rfl, hb⟩))
  go_ret
  exact ⟨rfl, hb⟩

set_option maxHeartbeats 4000000 in
theorem near_0111 (a b : Nat) (ha : a < 18446744073709551616) (hb0 : b < 18446744073709551616) (hk3 : ¬ kd a = 3) (hn : numB a) (h3 : ltB a b = false) (h5 : ltB (dnN a) b = true) (z1 : (kd (upN a) != 0) = false) (z2 : (kd (dnN a) != 0) = false) (w : World) (hT : Tab w) : Calls Tryd.prog 6 #[.int .u64 a, .int .u64 b] w fun e w' => e = .returned (.bool true) ∧ Below w.heap.size w w' := by
  have LL := Lib.hid (fl_lives w hT)
  obtain ⟨n1, n2, n3, n4, n5⟩ := near_no a b ha hb0 hn
  obtain ⟨k4, k0, ki⟩ := num_kd a hn
  have k3 : ¬ kd a = 3 := hk3
  have lu := upN_lt a ha
  have ld := dnN_lt a ha
  have T10 := run_fcmp (P := Tryd.prog) .gtr 23 (upN a) a true n2 w
  have T20 := run_fcmp (P := Tryd.prog) .lss 23 (dnN a) a true n3 w
  have T30 := run_fcmp (P := Tryd.prog) .lss 23 a b false h3 w
  have T50 := run_fcmp (P := Tryd.prog) .lss 23 (dnN a) b true h5 w
  have T60 := run_fcmp (P := Tryd.prog) .lss 23 b a false (n5 h5) w
  have K0 := fl_kind a ha w
  have KU0 := fl_kind (upN a) lu w
  have KD0 := fl_kind (dnN a) ld w
  have UP0 := fl_up a ha w
  have DN0 := fl_down a ha w
  have e4 : (kd a == 4) = false := by simpa using k4
  have e3 : (kd a == 3) = false := by simpa using k3
  have e0 : (kd a == 0) = false := by simpa using k0
  clear k4 k3 hk3 k0 ki n1 n2 n3 n4 n5 lu ld ha hb0 hn h3 h5 hT
  generalize kd (upN a) = ku at *
  generalize kd (dnN a) = kw at *
  generalize kd a = k at *
  generalize upN a = x at *
  generalize dnN a = y at *
  have T1 := Lib.hid T10
  clear T10
  have T2 := Lib.hid T20
  clear T20
  have T3 := Lib.hid T30
  clear T30
  have T5 := Lib.hid T50
  clear T50
  have T6 := Lib.hid T60
  clear T60
  have K := Lib.hid K0
  clear K0
  have KU := Lib.hid KU0
  clear KU0
  have KD := Lib.hid KD0
  clear KD0
  have UP := Lib.hid UP0
  clear UP0
  have DN := Lib.hid DN0
  clear DN0
  go_enter Tryd.func6, Tryd.ntmps6
  go_wp2_with (first | (go_at_call 9; refine (fl_of _ _).mono ?_; rintro e1 w1 ⟨rfl, rfl⟩) | (go_at_call 13; with_reducible refine (K.out).mono ?_; rintro e1 w1 ⟨rfl, rfl⟩) | (go_at_call 13; with_reducible refine (KU.out).mono ?_; rintro e1 w1 ⟨rfl, rfl⟩) | (go_at_call 13; with_reducible refine (KD.out).mono ?_; rintro e1 w1 ⟨rfl, rfl⟩) | (go_at_call 20; with_reducible refine (UP.out).mono ?_; rintro e1 w1 ⟨rfl, rfl⟩) | (go_at_call 22; with_reducible refine (DN.out).mono ?_; rintro e1 w1 ⟨rfl, rfl⟩) | ((with_reducible refine wpList_binX (dst := some 33) ?_ ?_ ?_ T1.out ?_); rfl; rfl; rfl) | ((with_reducible refine wpList_binwX (dst := some 38) ?_ ?_ ?_ ?_ T2.out ?_); rfl; rfl; rfl; rfl) | ((with_reducible refine wpList_binwX (dst := some 44) ?_ ?_ ?_ ?_ T3.out ?_); rfl; rfl; rfl; rfl) | ((with_reducible refine wpList_binwX (dst := some 54) ?_ ?_ ?_ ?_ T5.out ?_); rfl; rfl; rfl; rfl) | ((with_reducible refine wpList_binwX (dst := some 58) ?_ ?_ ?_ ?_ T6.out ?_); rfl; rfl; rfl; rfl) | (go_at_call 17; refine (LL.out).mono ?_; rintro e1 w1 ⟨rfl, hb⟩))
  go_ret
  exact ⟨rfl, hb⟩

set_option maxHeartbeats 4000000 in
theorem near_0110 (a b : Nat) (ha : a < 18446744073709551616) (hb0 : b < 18446744073709551616) (hk3 : ¬ kd a = 3) (hn : numB a) (h3 : ltB a b = false) (h5 : ltB (dnN a) b = true) (z1 : (kd (upN a) != 0) = false) (z2 : (kd (dnN a) != 0) = true) (w : World) (hT : Tab w) : Calls Tryd.prog 6 #[.int .u64 a, .int .u64 b] w fun e w' => e = .returned (.bool true) ∧ Below w.heap.size w w' := by
  have LL := Lib.hid (fl_lives w hT)
  obtain ⟨n1, n2, n3, n4, n5⟩ := near_no a b ha hb0 hn
  obtain ⟨k4, k0, ki⟩ := num_kd a hn
  have k3 : ¬ kd a = 3 := hk3
  have lu := upN_lt a ha
  have ld := dnN_lt a ha
  have T10 := run_fcmp (P := Tryd.prog) .gtr 23 (upN a) a true n2 w
  have T20 := run_fcmp (P := Tryd.prog) .lss 23 (dnN a) a true n3 w
  have T30 := run_fcmp (P := Tryd.prog) .lss 23 a b false h3 w
  have T50 := run_fcmp (P := Tryd.prog) .lss 23 (dnN a) b true h5 w
  have T60 := run_fcmp (P := Tryd.prog) .lss 23 b a false (n5 h5) w
  have K0 := fl_kind a ha w
  have KU0 := fl_kind (upN a) lu w
  have KD0 := fl_kind (dnN a) ld w
  have UP0 := fl_up a ha w
  have DN0 := fl_down a ha w
  have UD := fl_up (dnN a) ld w
  rw [up_down a ha hn (by simpa using z2)] at UD
  have SM := fl_same a a w
  rw [show ((a : Int) == (a : Int)) = true by simp] at SM
  have e4 : (kd a == 4) = false := by simpa using k4
  have e3 : (kd a == 3) = false := by simpa using k3
  have e0 : (kd a == 0) = false := by simpa using k0
  clear k4 k3 hk3 k0 ki n1 n2 n3 n4 n5 lu ld ha hb0 hn h3 h5 hT
  generalize kd (upN a) = ku at *
  generalize kd (dnN a) = kw at *
  generalize kd a = k at *
  generalize upN a = x at *
  generalize dnN a = y at *
  have T1 := Lib.hid T10
  clear T10
  have T2 := Lib.hid T20
  clear T20
  have T3 := Lib.hid T30
  clear T30
  have T5 := Lib.hid T50
  clear T50
  have T6 := Lib.hid T60
  clear T60
  have K := Lib.hid K0
  clear K0
  have KU := Lib.hid KU0
  clear KU0
  have KD := Lib.hid KD0
  clear KD0
  have UP := Lib.hid UP0
  clear UP0
  have DN := Lib.hid DN0
  clear DN0
  have UD9 := Lib.hid UD
  clear UD
  have SM9 := Lib.hid SM
  clear SM
  go_enter Tryd.func6, Tryd.ntmps6
  go_wp2_with (first | (go_at_call 9; refine (fl_of _ _).mono ?_; rintro e1 w1 ⟨rfl, rfl⟩) | (go_at_call 13; with_reducible refine (K.out).mono ?_; rintro e1 w1 ⟨rfl, rfl⟩) | (go_at_call 13; with_reducible refine (KU.out).mono ?_; rintro e1 w1 ⟨rfl, rfl⟩) | (go_at_call 13; with_reducible refine (KD.out).mono ?_; rintro e1 w1 ⟨rfl, rfl⟩) | (go_at_call 20; with_reducible refine (UP.out).mono ?_; rintro e1 w1 ⟨rfl, rfl⟩) | (go_at_call 22; with_reducible refine (DN.out).mono ?_; rintro e1 w1 ⟨rfl, rfl⟩) | ((with_reducible refine wpList_binX (dst := some 33) ?_ ?_ ?_ T1.out ?_); rfl; rfl; rfl) | ((with_reducible refine wpList_binwX (dst := some 38) ?_ ?_ ?_ ?_ T2.out ?_); rfl; rfl; rfl; rfl) | ((with_reducible refine wpList_binwX (dst := some 44) ?_ ?_ ?_ ?_ T3.out ?_); rfl; rfl; rfl; rfl) | ((with_reducible refine wpList_binwX (dst := some 54) ?_ ?_ ?_ ?_ T5.out ?_); rfl; rfl; rfl; rfl) | ((with_reducible refine wpList_binwX (dst := some 58) ?_ ?_ ?_ ?_ T6.out ?_); rfl; rfl; rfl; rfl) | (go_at_call 20; with_reducible refine (UD9.out).mono ?_; rintro e1 w1 ⟨rfl, rfl⟩) | (go_at_call 16; with_reducible refine (SM9.out).mono ?_; rintro e1 w1 ⟨rfl, rfl⟩) | (go_at_call 17; refine (LL.out).mono ?_; rintro e1 w1 ⟨rfl, hb⟩))
  go_ret
  exact ⟨rfl, hb⟩

set_option maxHeartbeats 4000000 in
theorem near_0101 (a b : Nat) (ha : a < 18446744073709551616) (hb0 : b < 18446744073709551616) (hk3 : ¬ kd a = 3) (hn : numB a) (h3 : ltB a b = false) (h5 : ltB (dnN a) b = true) (z1 : (kd (upN a) != 0) = true) (z2 : (kd (dnN a) != 0) = false) (w : World) (hT : Tab w) : Calls Tryd.prog 6 #[.int .u64 a, .int .u64 b] w fun e w' => e = .returned (.bool true) ∧ Below w.heap.size w w' := by
  have LL := Lib.hid (fl_lives w hT)
  obtain ⟨n1, n2, n3, n4, n5⟩ := near_no a b ha hb0 hn
  obtain ⟨k4, k0, ki⟩ := num_kd a hn
  have k3 : ¬ kd a = 3 := hk3
  have lu := upN_lt a ha
  have ld := dnN_lt a ha
  have T10 := run_fcmp (P := Tryd.prog) .gtr 23 (upN a) a true n2 w
  have T20 := run_fcmp (P := Tryd.prog) .lss 23 (dnN a) a true n3 w
  have T30 := run_fcmp (P := Tryd.prog) .lss 23 a b false h3 w
  have T50 := run_fcmp (P := Tryd.prog) .lss 23 (dnN a) b true h5 w
  have T60 := run_fcmp (P := Tryd.prog) .lss 23 b a false (n5 h5) w
  have K0 := fl_kind a ha w
  have KU0 := fl_kind (upN a) lu w
  have KD0 := fl_kind (dnN a) ld w
  have UP0 := fl_up a ha w
  have DN0 := fl_down a ha w
  have DU := fl_down (upN a) lu w
  rw [down_up a ha hn (by simpa using z1)] at DU
  have SM := fl_same a a w
  rw [show ((a : Int) == (a : Int)) = true by simp] at SM
  have e4 : (kd a == 4) = false := by simpa using k4
  have e3 : (kd a == 3) = false := by simpa using k3
  have e0 : (kd a == 0) = false := by simpa using k0
  clear k4 k3 hk3 k0 ki n1 n2 n3 n4 n5 lu ld ha hb0 hn h3 h5 hT
  generalize kd (upN a) = ku at *
  generalize kd (dnN a) = kw at *
  generalize kd a = k at *
  generalize upN a = x at *
  generalize dnN a = y at *
  have T1 := Lib.hid T10
  clear T10
  have T2 := Lib.hid T20
  clear T20
  have T3 := Lib.hid T30
  clear T30
  have T5 := Lib.hid T50
  clear T50
  have T6 := Lib.hid T60
  clear T60
  have K := Lib.hid K0
  clear K0
  have KU := Lib.hid KU0
  clear KU0
  have KD := Lib.hid KD0
  clear KD0
  have UP := Lib.hid UP0
  clear UP0
  have DN := Lib.hid DN0
  clear DN0
  have DU9 := Lib.hid DU
  clear DU
  have SM9 := Lib.hid SM
  clear SM
  go_enter Tryd.func6, Tryd.ntmps6
  go_wp2_with (first | (go_at_call 9; refine (fl_of _ _).mono ?_; rintro e1 w1 ⟨rfl, rfl⟩) | (go_at_call 13; with_reducible refine (K.out).mono ?_; rintro e1 w1 ⟨rfl, rfl⟩) | (go_at_call 13; with_reducible refine (KU.out).mono ?_; rintro e1 w1 ⟨rfl, rfl⟩) | (go_at_call 13; with_reducible refine (KD.out).mono ?_; rintro e1 w1 ⟨rfl, rfl⟩) | (go_at_call 20; with_reducible refine (UP.out).mono ?_; rintro e1 w1 ⟨rfl, rfl⟩) | (go_at_call 22; with_reducible refine (DN.out).mono ?_; rintro e1 w1 ⟨rfl, rfl⟩) | ((with_reducible refine wpList_binX (dst := some 33) ?_ ?_ ?_ T1.out ?_); rfl; rfl; rfl) | ((with_reducible refine wpList_binwX (dst := some 38) ?_ ?_ ?_ ?_ T2.out ?_); rfl; rfl; rfl; rfl) | ((with_reducible refine wpList_binwX (dst := some 44) ?_ ?_ ?_ ?_ T3.out ?_); rfl; rfl; rfl; rfl) | ((with_reducible refine wpList_binwX (dst := some 54) ?_ ?_ ?_ ?_ T5.out ?_); rfl; rfl; rfl; rfl) | ((with_reducible refine wpList_binwX (dst := some 58) ?_ ?_ ?_ ?_ T6.out ?_); rfl; rfl; rfl; rfl) | (go_at_call 22; with_reducible refine (DU9.out).mono ?_; rintro e1 w1 ⟨rfl, rfl⟩) | (go_at_call 16; with_reducible refine (SM9.out).mono ?_; rintro e1 w1 ⟨rfl, rfl⟩) | (go_at_call 17; refine (LL.out).mono ?_; rintro e1 w1 ⟨rfl, hb⟩))
  go_ret
  exact ⟨rfl, hb⟩

set_option maxHeartbeats 4000000 in
theorem near_0100 (a b : Nat) (ha : a < 18446744073709551616) (hb0 : b < 18446744073709551616) (hk3 : ¬ kd a = 3) (hn : numB a) (h3 : ltB a b = false) (h5 : ltB (dnN a) b = true) (z1 : (kd (upN a) != 0) = true) (z2 : (kd (dnN a) != 0) = true) (w : World) (hT : Tab w) : Calls Tryd.prog 6 #[.int .u64 a, .int .u64 b] w fun e w' => e = .returned (.bool true) ∧ Below w.heap.size w w' := by
  have LL := Lib.hid (fl_lives w hT)
  obtain ⟨n1, n2, n3, n4, n5⟩ := near_no a b ha hb0 hn
  obtain ⟨k4, k0, ki⟩ := num_kd a hn
  have k3 : ¬ kd a = 3 := hk3
  have lu := upN_lt a ha
  have ld := dnN_lt a ha
  have T10 := run_fcmp (P := Tryd.prog) .gtr 23 (upN a) a true n2 w
  have T20 := run_fcmp (P := Tryd.prog) .lss 23 (dnN a) a true n3 w
  have T30 := run_fcmp (P := Tryd.prog) .lss 23 a b false h3 w
  have T50 := run_fcmp (P := Tryd.prog) .lss 23 (dnN a) b true h5 w
  have T60 := run_fcmp (P := Tryd.prog) .lss 23 b a false (n5 h5) w
  have K0 := fl_kind a ha w
  have KU0 := fl_kind (upN a) lu w
  have KD0 := fl_kind (dnN a) ld w
  have UP0 := fl_up a ha w
  have DN0 := fl_down a ha w
  have DU := fl_down (upN a) lu w
  rw [down_up a ha hn (by simpa using z1)] at DU
  have UD := fl_up (dnN a) ld w
  rw [up_down a ha hn (by simpa using z2)] at UD
  have SM := fl_same a a w
  rw [show ((a : Int) == (a : Int)) = true by simp] at SM
  have e4 : (kd a == 4) = false := by simpa using k4
  have e3 : (kd a == 3) = false := by simpa using k3
  have e0 : (kd a == 0) = false := by simpa using k0
  clear k4 k3 hk3 k0 ki n1 n2 n3 n4 n5 lu ld ha hb0 hn h3 h5 hT
  generalize kd (upN a) = ku at *
  generalize kd (dnN a) = kw at *
  generalize kd a = k at *
  generalize upN a = x at *
  generalize dnN a = y at *
  have T1 := Lib.hid T10
  clear T10
  have T2 := Lib.hid T20
  clear T20
  have T3 := Lib.hid T30
  clear T30
  have T5 := Lib.hid T50
  clear T50
  have T6 := Lib.hid T60
  clear T60
  have K := Lib.hid K0
  clear K0
  have KU := Lib.hid KU0
  clear KU0
  have KD := Lib.hid KD0
  clear KD0
  have UP := Lib.hid UP0
  clear UP0
  have DN := Lib.hid DN0
  clear DN0
  have DU9 := Lib.hid DU
  clear DU
  have UD9 := Lib.hid UD
  clear UD
  have SM9 := Lib.hid SM
  clear SM
  go_enter Tryd.func6, Tryd.ntmps6
  go_wp2_with (first | (go_at_call 9; refine (fl_of _ _).mono ?_; rintro e1 w1 ⟨rfl, rfl⟩) | (go_at_call 13; with_reducible refine (K.out).mono ?_; rintro e1 w1 ⟨rfl, rfl⟩) | (go_at_call 13; with_reducible refine (KU.out).mono ?_; rintro e1 w1 ⟨rfl, rfl⟩) | (go_at_call 13; with_reducible refine (KD.out).mono ?_; rintro e1 w1 ⟨rfl, rfl⟩) | (go_at_call 20; with_reducible refine (UP.out).mono ?_; rintro e1 w1 ⟨rfl, rfl⟩) | (go_at_call 22; with_reducible refine (DN.out).mono ?_; rintro e1 w1 ⟨rfl, rfl⟩) | ((with_reducible refine wpList_binX (dst := some 33) ?_ ?_ ?_ T1.out ?_); rfl; rfl; rfl) | ((with_reducible refine wpList_binwX (dst := some 38) ?_ ?_ ?_ ?_ T2.out ?_); rfl; rfl; rfl; rfl) | ((with_reducible refine wpList_binwX (dst := some 44) ?_ ?_ ?_ ?_ T3.out ?_); rfl; rfl; rfl; rfl) | ((with_reducible refine wpList_binwX (dst := some 54) ?_ ?_ ?_ ?_ T5.out ?_); rfl; rfl; rfl; rfl) | ((with_reducible refine wpList_binwX (dst := some 58) ?_ ?_ ?_ ?_ T6.out ?_); rfl; rfl; rfl; rfl) | (go_at_call 22; with_reducible refine (DU9.out).mono ?_; rintro e1 w1 ⟨rfl, rfl⟩) | (go_at_call 20; with_reducible refine (UD9.out).mono ?_; rintro e1 w1 ⟨rfl, rfl⟩) | (go_at_call 16; with_reducible refine (SM9.out).mono ?_; rintro e1 w1 ⟨rfl, rfl⟩) | (go_at_call 17; refine (LL.out).mono ?_; rintro e1 w1 ⟨rfl, hb⟩))
  go_ret
  exact ⟨rfl, hb⟩

set_option maxHeartbeats 4000000 in
theorem near_0011 (a b : Nat) (ha : a < 18446744073709551616) (hb0 : b < 18446744073709551616) (hk3 : ¬ kd a = 3) (hn : numB a) (h3 : ltB a b = false) (h5 : ltB (dnN a) b = false) (z1 : (kd (upN a) != 0) = false) (z2 : (kd (dnN a) != 0) = false) (w : World) (hT : Tab w) : Calls Tryd.prog 6 #[.int .u64 a, .int .u64 b] w fun e w' => e = .returned (.bool true) ∧ Below w.heap.size w w' := by
  have LL := Lib.hid (fl_lives w hT)
  obtain ⟨n1, n2, n3, n4, n5⟩ := near_no a b ha hb0 hn
  obtain ⟨k4, k0, ki⟩ := num_kd a hn
  have k3 : ¬ kd a = 3 := hk3
  have lu := upN_lt a ha
  have ld := dnN_lt a ha
  have T10 := run_fcmp (P := Tryd.prog) .gtr 23 (upN a) a true n2 w
  have T20 := run_fcmp (P := Tryd.prog) .lss 23 (dnN a) a true n3 w
  have T30 := run_fcmp (P := Tryd.prog) .lss 23 a b false h3 w
  have T50 := run_fcmp (P := Tryd.prog) .lss 23 (dnN a) b false h5 w
  have K0 := fl_kind a ha w
  have KU0 := fl_kind (upN a) lu w
  have KD0 := fl_kind (dnN a) ld w
  have UP0 := fl_up a ha w
  have DN0 := fl_down a ha w
  have e4 : (kd a == 4) = false := by simpa using k4
  have e3 : (kd a == 3) = false := by simpa using k3
  have e0 : (kd a == 0) = false := by simpa using k0
  clear k4 k3 hk3 k0 ki n1 n2 n3 n4 n5 lu ld ha hb0 hn h3 h5 hT
  generalize kd (upN a) = ku at *
  generalize kd (dnN a) = kw at *
  generalize kd a = k at *
  generalize upN a = x at *
  generalize dnN a = y at *
  have T1 := Lib.hid T10
  clear T10
  have T2 := Lib.hid T20
  clear T20
  have T3 := Lib.hid T30
  clear T30
  have T5 := Lib.hid T50
  clear T50
  have K := Lib.hid K0
  clear K0
  have KU := Lib.hid KU0
  clear KU0
  have KD := Lib.hid KD0
  clear KD0
  have UP := Lib.hid UP0
  clear UP0
  have DN := Lib.hid DN0
  clear DN0
  go_enter Tryd.func6, Tryd.ntmps6
  go_wp2_with (first | (go_at_call 9; refine (fl_of _ _).mono ?_; rintro e1 w1 ⟨rfl, rfl⟩) | (go_at_call 13; with_reducible refine (K.out).mono ?_; rintro e1 w1 ⟨rfl, rfl⟩) | (go_at_call 13; with_reducible refine (KU.out).mono ?_; rintro e1 w1 ⟨rfl, rfl⟩) | (go_at_call 13; with_reducible refine (KD.out).mono ?_; rintro e1 w1 ⟨rfl, rfl⟩) | (go_at_call 20; with_reducible refine (UP.out).mono ?_; rintro e1 w1 ⟨rfl, rfl⟩) | (go_at_call 22; with_reducible refine (DN.out).mono ?_; rintro e1 w1 ⟨rfl, rfl⟩) | ((with_reducible refine wpList_binX (dst := some 33) ?_ ?_ ?_ T1.out ?_); rfl; rfl; rfl) | ((with_reducible refine wpList_binwX (dst := some 38) ?_ ?_ ?_ ?_ T2.out ?_); rfl; rfl; rfl; rfl) | ((with_reducible refine wpList_binwX (dst := some 44) ?_ ?_ ?_ ?_ T3.out ?_); rfl; rfl; rfl; rfl) | ((with_reducible refine wpList_binwX (dst := some 54) ?_ ?_ ?_ ?_ T5.out ?_); rfl; rfl; rfl; rfl) | (go_at_call 17; refine (LL.out).mono ?_; rintro e1 w1 ⟨rfl, hb⟩))
  go_ret
  exact ⟨rfl, hb⟩

set_option maxHeartbeats 4000000 in
theorem near_0010 (a b : Nat) (ha : a < 18446744073709551616) (hb0 : b < 18446744073709551616) (hk3 : ¬ kd a = 3) (hn : numB a) (h3 : ltB a b = false) (h5 : ltB (dnN a) b = false) (z1 : (kd (upN a) != 0) = false) (z2 : (kd (dnN a) != 0) = true) (w : World) (hT : Tab w) : Calls Tryd.prog 6 #[.int .u64 a, .int .u64 b] w fun e w' => e = .returned (.bool true) ∧ Below w.heap.size w w' := by
  have LL := Lib.hid (fl_lives w hT)
  obtain ⟨n1, n2, n3, n4, n5⟩ := near_no a b ha hb0 hn
  obtain ⟨k4, k0, ki⟩ := num_kd a hn
  have k3 : ¬ kd a = 3 := hk3
  have lu := upN_lt a ha
  have ld := dnN_lt a ha
  have T10 := run_fcmp (P := Tryd.prog) .gtr 23 (upN a) a true n2 w
  have T20 := run_fcmp (P := Tryd.prog) .lss 23 (dnN a) a true n3 w
  have T30 := run_fcmp (P := Tryd.prog) .lss 23 a b false h3 w
  have T50 := run_fcmp (P := Tryd.prog) .lss 23 (dnN a) b false h5 w
  have K0 := fl_kind a ha w
  have KU0 := fl_kind (upN a) lu w
  have KD0 := fl_kind (dnN a) ld w
  have UP0 := fl_up a ha w
  have DN0 := fl_down a ha w
  have UD := fl_up (dnN a) ld w
  rw [up_down a ha hn (by simpa using z2)] at UD
  have SM := fl_same a a w
  rw [show ((a : Int) == (a : Int)) = true by simp] at SM
  have e4 : (kd a == 4) = false := by simpa using k4
  have e3 : (kd a == 3) = false := by simpa using k3
  have e0 : (kd a == 0) = false := by simpa using k0
  clear k4 k3 hk3 k0 ki n1 n2 n3 n4 n5 lu ld ha hb0 hn h3 h5 hT
  generalize kd (upN a) = ku at *
  generalize kd (dnN a) = kw at *
  generalize kd a = k at *
  generalize upN a = x at *
  generalize dnN a = y at *
  have T1 := Lib.hid T10
  clear T10
  have T2 := Lib.hid T20
  clear T20
  have T3 := Lib.hid T30
  clear T30
  have T5 := Lib.hid T50
  clear T50
  have K := Lib.hid K0
  clear K0
  have KU := Lib.hid KU0
  clear KU0
  have KD := Lib.hid KD0
  clear KD0
  have UP := Lib.hid UP0
  clear UP0
  have DN := Lib.hid DN0
  clear DN0
  have UD9 := Lib.hid UD
  clear UD
  have SM9 := Lib.hid SM
  clear SM
  go_enter Tryd.func6, Tryd.ntmps6
  go_wp2_with (first | (go_at_call 9; refine (fl_of _ _).mono ?_; rintro e1 w1 ⟨rfl, rfl⟩) | (go_at_call 13; with_reducible refine (K.out).mono ?_; rintro e1 w1 ⟨rfl, rfl⟩) | (go_at_call 13; with_reducible refine (KU.out).mono ?_; rintro e1 w1 ⟨rfl, rfl⟩) | (go_at_call 13; with_reducible refine (KD.out).mono ?_; rintro e1 w1 ⟨rfl, rfl⟩) | (go_at_call 20; with_reducible refine (UP.out).mono ?_; rintro e1 w1 ⟨rfl, rfl⟩) | (go_at_call 22; with_reducible refine (DN.out).mono ?_; rintro e1 w1 ⟨rfl, rfl⟩) | ((with_reducible refine wpList_binX (dst := some 33) ?_ ?_ ?_ T1.out ?_); rfl; rfl; rfl) | ((with_reducible refine wpList_binwX (dst := some 38) ?_ ?_ ?_ ?_ T2.out ?_); rfl; rfl; rfl; rfl) | ((with_reducible refine wpList_binwX (dst := some 44) ?_ ?_ ?_ ?_ T3.out ?_); rfl; rfl; rfl; rfl) | ((with_reducible refine wpList_binwX (dst := some 54) ?_ ?_ ?_ ?_ T5.out ?_); rfl; rfl; rfl; rfl) | (go_at_call 20; with_reducible refine (UD9.out).mono ?_; rintro e1 w1 ⟨rfl, rfl⟩) | (go_at_call 16; with_reducible refine (SM9.out).mono ?_; rintro e1 w1 ⟨rfl, rfl⟩) | (go_at_call 17; refine (LL.out).mono ?_; rintro e1 w1 ⟨rfl, hb⟩))
  go_ret
  exact ⟨rfl, hb⟩

set_option maxHeartbeats 4000000 in
theorem near_0001 (a b : Nat) (ha : a < 18446744073709551616) (hb0 : b < 18446744073709551616) (hk3 : ¬ kd a = 3) (hn : numB a) (h3 : ltB a b = false) (h5 : ltB (dnN a) b = false) (z1 : (kd (upN a) != 0) = true) (z2 : (kd (dnN a) != 0) = false) (w : World) (hT : Tab w) : Calls Tryd.prog 6 #[.int .u64 a, .int .u64 b] w fun e w' => e = .returned (.bool true) ∧ Below w.heap.size w w' := by
  have LL := Lib.hid (fl_lives w hT)
  obtain ⟨n1, n2, n3, n4, n5⟩ := near_no a b ha hb0 hn
  obtain ⟨k4, k0, ki⟩ := num_kd a hn
  have k3 : ¬ kd a = 3 := hk3
  have lu := upN_lt a ha
  have ld := dnN_lt a ha
  have T10 := run_fcmp (P := Tryd.prog) .gtr 23 (upN a) a true n2 w
  have T20 := run_fcmp (P := Tryd.prog) .lss 23 (dnN a) a true n3 w
  have T30 := run_fcmp (P := Tryd.prog) .lss 23 a b false h3 w
  have T50 := run_fcmp (P := Tryd.prog) .lss 23 (dnN a) b false h5 w
  have K0 := fl_kind a ha w
  have KU0 := fl_kind (upN a) lu w
  have KD0 := fl_kind (dnN a) ld w
  have UP0 := fl_up a ha w
  have DN0 := fl_down a ha w
  have DU := fl_down (upN a) lu w
  rw [down_up a ha hn (by simpa using z1)] at DU
  have SM := fl_same a a w
  rw [show ((a : Int) == (a : Int)) = true by simp] at SM
  have e4 : (kd a == 4) = false := by simpa using k4
  have e3 : (kd a == 3) = false := by simpa using k3
  have e0 : (kd a == 0) = false := by simpa using k0
  clear k4 k3 hk3 k0 ki n1 n2 n3 n4 n5 lu ld ha hb0 hn h3 h5 hT
  generalize kd (upN a) = ku at *
  generalize kd (dnN a) = kw at *
  generalize kd a = k at *
  generalize upN a = x at *
  generalize dnN a = y at *
  have T1 := Lib.hid T10
  clear T10
  have T2 := Lib.hid T20
  clear T20
  have T3 := Lib.hid T30
  clear T30
  have T5 := Lib.hid T50
  clear T50
  have K := Lib.hid K0
  clear K0
  have KU := Lib.hid KU0
  clear KU0
  have KD := Lib.hid KD0
  clear KD0
  have UP := Lib.hid UP0
  clear UP0
  have DN := Lib.hid DN0
  clear DN0
  have DU9 := Lib.hid DU
  clear DU
  have SM9 := Lib.hid SM
  clear SM
  go_enter Tryd.func6, Tryd.ntmps6
  go_wp2_with (first | (go_at_call 9; refine (fl_of _ _).mono ?_; rintro e1 w1 ⟨rfl, rfl⟩) | (go_at_call 13; with_reducible refine (K.out).mono ?_; rintro e1 w1 ⟨rfl, rfl⟩) | (go_at_call 13; with_reducible refine (KU.out).mono ?_; rintro e1 w1 ⟨rfl, rfl⟩) | (go_at_call 13; with_reducible refine (KD.out).mono ?_; rintro e1 w1 ⟨rfl, rfl⟩) | (go_at_call 20; with_reducible refine (UP.out).mono ?_; rintro e1 w1 ⟨rfl, rfl⟩) | (go_at_call 22; with_reducible refine (DN.out).mono ?_; rintro e1 w1 ⟨rfl, rfl⟩) | ((with_reducible refine wpList_binX (dst := some 33) ?_ ?_ ?_ T1.out ?_); rfl; rfl; rfl) | ((with_reducible refine wpList_binwX (dst := some 38) ?_ ?_ ?_ ?_ T2.out ?_); rfl; rfl; rfl; rfl) | ((with_reducible refine wpList_binwX (dst := some 44) ?_ ?_ ?_ ?_ T3.out ?_); rfl; rfl; rfl; rfl) | ((with_reducible refine wpList_binwX (dst := some 54) ?_ ?_ ?_ ?_ T5.out ?_); rfl; rfl; rfl; rfl) | (go_at_call 22; with_reducible refine (DU9.out).mono ?_; rintro e1 w1 ⟨rfl, rfl⟩) | (go_at_call 16; with_reducible refine (SM9.out).mono ?_; rintro e1 w1 ⟨rfl, rfl⟩) | (go_at_call 17; refine (LL.out).mono ?_; rintro e1 w1 ⟨rfl, hb⟩))
  go_ret
  exact ⟨rfl, hb⟩

set_option maxHeartbeats 4000000 in
theorem near_0000 (a b : Nat) (ha : a < 18446744073709551616) (hb0 : b < 18446744073709551616) (hk3 : ¬ kd a = 3) (hn : numB a) (h3 : ltB a b = false) (h5 : ltB (dnN a) b = false) (z1 : (kd (upN a) != 0) = true) (z2 : (kd (dnN a) != 0) = true) (w : World) (hT : Tab w) : Calls Tryd.prog 6 #[.int .u64 a, .int .u64 b] w fun e w' => e = .returned (.bool true) ∧ Below w.heap.size w w' := by
  have LL := Lib.hid (fl_lives w hT)
  obtain ⟨n1, n2, n3, n4, n5⟩ := near_no a b ha hb0 hn
  obtain ⟨k4, k0, ki⟩ := num_kd a hn
  have k3 : ¬ kd a = 3 := hk3
  have lu := upN_lt a ha
  have ld := dnN_lt a ha
  have T10 := run_fcmp (P := Tryd.prog) .gtr 23 (upN a) a true n2 w
  have T20 := run_fcmp (P := Tryd.prog) .lss 23 (dnN a) a true n3 w
  have T30 := run_fcmp (P := Tryd.prog) .lss 23 a b false h3 w
  have T50 := run_fcmp (P := Tryd.prog) .lss 23 (dnN a) b false h5 w
  have K0 := fl_kind a ha w
  have KU0 := fl_kind (upN a) lu w
  have KD0 := fl_kind (dnN a) ld w
  have UP0 := fl_up a ha w
  have DN0 := fl_down a ha w
  have DU := fl_down (upN a) lu w
  rw [down_up a ha hn (by simpa using z1)] at DU
  have UD := fl_up (dnN a) ld w
  rw [up_down a ha hn (by simpa using z2)] at UD
  have SM := fl_same a a w
  rw [show ((a : Int) == (a : Int)) = true by simp] at SM
  have e4 : (kd a == 4) = false := by simpa using k4
  have e3 : (kd a == 3) = false := by simpa using k3
  have e0 : (kd a == 0) = false := by simpa using k0
  clear k4 k3 hk3 k0 ki n1 n2 n3 n4 n5 lu ld ha hb0 hn h3 h5 hT
  generalize kd (upN a) = ku at *
  generalize kd (dnN a) = kw at *
  generalize kd a = k at *
  generalize upN a = x at *
  generalize dnN a = y at *
  have T1 := Lib.hid T10
  clear T10
  have T2 := Lib.hid T20
  clear T20
  have T3 := Lib.hid T30
  clear T30
  have T5 := Lib.hid T50
  clear T50
  have K := Lib.hid K0
  clear K0
  have KU := Lib.hid KU0
  clear KU0
  have KD := Lib.hid KD0
  clear KD0
  have UP := Lib.hid UP0
  clear UP0
  have DN := Lib.hid DN0
  clear DN0
  have DU9 := Lib.hid DU
  clear DU
  have UD9 := Lib.hid UD
  clear UD
  have SM9 := Lib.hid SM
  clear SM
  go_enter Tryd.func6, Tryd.ntmps6
  go_wp2_with (first | (go_at_call 9; refine (fl_of _ _).mono ?_; rintro e1 w1 ⟨rfl, rfl⟩) | (go_at_call 13; with_reducible refine (K.out).mono ?_; rintro e1 w1 ⟨rfl, rfl⟩) | (go_at_call 13; with_reducible refine (KU.out).mono ?_; rintro e1 w1 ⟨rfl, rfl⟩) | (go_at_call 13; with_reducible refine (KD.out).mono ?_; rintro e1 w1 ⟨rfl, rfl⟩) | (go_at_call 20; with_reducible refine (UP.out).mono ?_; rintro e1 w1 ⟨rfl, rfl⟩) | (go_at_call 22; with_reducible refine (DN.out).mono ?_; rintro e1 w1 ⟨rfl, rfl⟩) | ((with_reducible refine wpList_binX (dst := some 33) ?_ ?_ ?_ T1.out ?_); rfl; rfl; rfl) | ((with_reducible refine wpList_binwX (dst := some 38) ?_ ?_ ?_ ?_ T2.out ?_); rfl; rfl; rfl; rfl) | ((with_reducible refine wpList_binwX (dst := some 44) ?_ ?_ ?_ ?_ T3.out ?_); rfl; rfl; rfl; rfl) | ((with_reducible refine wpList_binwX (dst := some 54) ?_ ?_ ?_ ?_ T5.out ?_); rfl; rfl; rfl; rfl) | (go_at_call 22; with_reducible refine (DU9.out).mono ?_; rintro e1 w1 ⟨rfl, rfl⟩) | (go_at_call 20; with_reducible refine (UD9.out).mono ?_; rintro e1 w1 ⟨rfl, rfl⟩) | (go_at_call 16; with_reducible refine (SM9.out).mono ?_; rintro e1 w1 ⟨rfl, rfl⟩) | (go_at_call 17; refine (LL.out).mono ?_; rintro e1 w1 ⟨rfl, hb⟩))
  go_ret
  exact ⟨rfl, hb⟩

theorem near_any (a b : Nat) (ha : a < 18446744073709551616) (hb0 : b < 18446744073709551616) (w : World) (hT : Tab w) : Calls Tryd.prog 6 #[.int .u64 a, .int .u64 b] w fun e w' => e = .returned (.bool true) ∧ Below w.heap.size w w' := by
  by_cases k4 : kd a = 4
  · exact near_k4 a b ha k4 w hT
  by_cases k3 : kd a = 3
  · exact near_k3 a b ha k3 w hT
  by_cases k0 : kd a = 0
  · exact near_k0 a b ha k0 w hT
  have hn := kd_num a k4 k3 k0
  cases h3 : ltB a b <;> cases h5 : ltB (dnN a) b <;> cases z1 : (kd (upN a) != 0) <;> cases z2 : (kd (dnN a) != 0)
  · exact near_0011 a b ha hb0 k3 hn h3 h5 z1 z2 w hT
  · exact near_0010 a b ha hb0 k3 hn h3 h5 z1 z2 w hT
  · exact near_0001 a b ha hb0 k3 hn h3 h5 z1 z2 w hT
  · exact near_0000 a b ha hb0 k3 hn h3 h5 z1 z2 w hT
  · exact near_0111 a b ha hb0 k3 hn h3 h5 z1 z2 w hT
  · exact near_0110 a b ha hb0 k3 hn h3 h5 z1 z2 w hT
  · exact near_0101 a b ha hb0 k3 hn h3 h5 z1 z2 w hT
  · exact near_0100 a b ha hb0 k3 hn h3 h5 z1 z2 w hT
  · exact near_1011 a b ha hb0 k3 hn h3 h5 z1 z2 w hT
  · exact near_1010 a b ha hb0 k3 hn h3 h5 z1 z2 w hT
  · exact near_1001 a b ha hb0 k3 hn h3 h5 z1 z2 w hT
  · exact near_1000 a b ha hb0 k3 hn h3 h5 z1 z2 w hT
  · exact near_1111 a b ha hb0 k3 hn h3 h5 z1 z2 w hT
  · exact near_1110 a b ha hb0 k3 hn h3 h5 z1 z2 w hT
  · exact near_1101 a b ha hb0 k3 hn h3 h5 z1 z2 w hT
  · exact near_1100 a b ha hb0 k3 hn h3 h5 z1 z2 w hT

/-- a law that holds of two words -/
theorem kinds_any (a b : Nat) (ha : a < 18446744073709551616) (w : World) (hT : Tab w) : Calls Tryd.prog 3 #[.int .u64 a, .int .u64 b] w fun e w' => e = .returned (.bool true) ∧ Below w.heap.size w w' := by
  by_cases k4 : kd a = 4
  · exact kinds_N a b ha k4 w hT
  · exact kinds_0 a b ha k4 w hT

theorem kinds_law (x y : Int) (hx : (Lit.int .u64 x).wf = true) (hy : (Lit.int .u64 y).wf = true) (w : World) (hT : Tab w) : Calls Tryd.prog 3 #[.int .u64 x, .int .u64 y] w fun e w' => e = .returned (.bool true) ∧ Below w.heap.size w w' := by
  obtain ⟨a, rfl, ha⟩ := word hx
  obtain ⟨b, rfl, hb⟩ := word hy
  exact kinds_any a b ha w hT
theorem steps_law (x y : Int) (hx : (Lit.int .u64 x).wf = true) (hy : (Lit.int .u64 y).wf = true) (w : World) (hT : Tab w) : Calls Tryd.prog 4 #[.int .u64 x, .int .u64 y] w fun e w' => e = .returned (.bool true) ∧ Below w.heap.size w w' := by
  obtain ⟨a, rfl, ha⟩ := word hx
  obtain ⟨b, rfl, hb⟩ := word hy
  exact steps_any a b ha hb w hT
theorem near_law (x y : Int) (hx : (Lit.int .u64 x).wf = true) (hy : (Lit.int .u64 y).wf = true) (w : World) (hT : Tab w) : Calls Tryd.prog 6 #[.int .u64 x, .int .u64 y] w fun e w' => e = .returned (.bool true) ∧ Below w.heap.size w w' := by
  obtain ⟨a, rfl, ha⟩ := word hx
  obtain ⟨b, rfl, hb⟩ := word hy
  exact near_any a b ha hb w hT
theorem order_law (x y z : Int) (hx : (Lit.int .u64 x).wf = true) (hy : (Lit.int .u64 y).wf = true) (hz : (Lit.int .u64 z).wf = true) (w : World) (hT : Tab w) : Calls Tryd.prog 5 #[.int .u64 x, .int .u64 y, .int .u64 z] w fun e w' => e = .returned (.bool true) ∧ Below w.heap.size w w' := by
  obtain ⟨a, rfl, ha⟩ := word hx
  obtain ⟨b, rfl, hb⟩ := word hy
  obtain ⟨c, rfl, hc⟩ := word hz
  exact order_any a b c ha hb hc w hT

end Go.Proofs.YtflkbefiopnigaaDoor

