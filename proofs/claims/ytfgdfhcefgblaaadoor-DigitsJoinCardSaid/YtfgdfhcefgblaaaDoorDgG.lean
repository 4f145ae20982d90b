/- Digits (layer 4): the example; the law DigitsReads. -/
import Derived.Test.YtfgdfhcefgblaaaDoorDgF
namespace Go.Proofs.YtfgdfhcefgblaaaDoor
open Go.ChangeShapes Go.WideShapes Go.ChangeAt Go.RowKit Go.Shelf

theorem dg_putint (n : Int) (h0 : -9223372036854775808 ≤ n) (h1 : n ≤ 9223372036854775807) (w : World) (hT : PowTab w) :
    Calls Tryd.prog 15 #[.int .i64 n] w fun e w' => e = .returned (.string ⟨(Lib.itoa n).toArray⟩) ∧ Below w.heap.size w w' := by
  have I := Lib.hid (Tryd.strconv_Itoa n h0 h1 w hT)
  clear hT
  go_enter Tryd.func15, Tryd.ntmps15
  go_wp2_with (go_at_call 34; with_reducible refine I.out.mono ?_; rintro e1 w1 ⟨rfl, k, os, rfl⟩)
  go_ret
  exact ⟨rfl, below_grow os k⟩

theorem dlives (w : World) (hT : PowTab w) : Calls Tryd.prog 7 #[] w fun e w' => e = .returned (.bool true) ∧ Below w.heap.size w w' := by
  have R := dg_readint ⟨#[45, 48]⟩ (by decide) w
  rw [show riV (⟨#[45, 48]⟩ : ByteArray).data.toList = 0 by decide +kernel, show riE (⟨#[45, 48]⟩ : ByteArray).data.toList = 2 by decide +kernel] at R
  have R := Lib.hid R
  have P := dg_putint (-9223372036854775808) (by decide) (by decide) w hT
  rw [show Lib.itoa (-9223372036854775808) = [45, 57, 50, 50, 51, 51, 55, 50, 48, 51, 54, 56, 53, 52, 55, 55, 53, 56, 48, 56] by decide +kernel] at P
  have P := Lib.hid P
  clear hT
  go_enter Tryd.func7, Tryd.ntmps7
  go_wp2_with (first | (go_at_call 10; with_reducible refine R.out.mono ?_; rintro e1 w1 ⟨rfl, rfl⟩) | (go_at_call 15; with_reducible refine P.out.mono ?_; rintro e1 w1 ⟨rfl, hb⟩))
  go_ret
  exact ⟨rfl, hb⟩

set_option maxRecDepth 100000 in
set_option maxHeartbeats 1000000 in
theorem dreads_law (s : ByteArray) (hss : s.size ≤ maxLen) (w : World) (hT : PowTab w) : Calls Tryd.prog 3 #[.string s] w fun e w' => e = .returned (.bool true) ∧ Below w.heap.size w w' := by
  have L := Lib.hid (dlives w hT)
  unfold maxLen at hss
  clear hT
  by_cases h : 300 < s.size
  · have hI : (300 : Int) < (s.size : Int) := by omega
    clear h
    go_enter Tryd.func3, Tryd.ntmps3
    go_wp2_with (go_at_call 7; refine L.out.mono ?_; rintro e1 w2 ⟨rfl, hb⟩)
    go_ret
    exact ⟨rfl, hb⟩
  · have hI : ¬ (300 : Int) < (s.size : Int) := by omega
    have A1 := dg_read s (by omega) w
    have A2 := r4_Read s (by omega) w
    have A3 := dg_readint s (by omega) w
    have A4 := r4_readint s (by omega) w
    have A5 := dg_readhex s (by omega) w
    have A6 := r4_ReadHex s (by omega) w
    generalize rdV 10 s.data.toList = v1 at *
    generalize rdE 10 s.data.toList = e1 at *
    generalize riV s.data.toList = v2 at *
    generalize riE s.data.toList = e2 at *
    generalize rdV 16 s.data.toList = v3 at *
    generalize rdE 16 s.data.toList = e3 at *
    have A1 := Lib.hid A1
    have A2 := Lib.hid A2
    have A3 := Lib.hid A3
    have A4 := Lib.hid A4
    have A5 := Lib.hid A5
    have A6 := Lib.hid A6
    clear h
    go_enter Tryd.func3, Tryd.ntmps3
    go_wp2_with (first | (go_at_call 8; with_reducible refine A1.out.mono ?_; rintro e1 w1 ⟨rfl, rfl⟩) | (go_at_call 9; with_reducible refine A2.out.mono ?_; rintro e1 w1 ⟨rfl, rfl⟩) | (go_at_call 10; with_reducible refine A3.out.mono ?_; rintro e1 w1 ⟨rfl, rfl⟩) | (go_at_call 11; with_reducible refine A4.out.mono ?_; rintro e1 w1 ⟨rfl, rfl⟩) | (go_at_call 12; with_reducible refine A5.out.mono ?_; rintro e1 w1 ⟨rfl, rfl⟩) | (go_at_call 13; with_reducible refine A6.out.mono ?_; rintro e1 w1 ⟨rfl, rfl⟩) | (go_at_call 7; refine L.out.mono ?_; rintro e1 w2 ⟨rfl, hb⟩))
    go_ret
    exact ⟨rfl, hb⟩

end Go.Proofs.YtfgdfhcefgblaaaDoor
