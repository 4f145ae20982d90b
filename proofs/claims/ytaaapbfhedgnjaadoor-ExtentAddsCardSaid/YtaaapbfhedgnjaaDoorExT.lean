/- The law ExtentAdds, whole. -/
import Derived.Test.YtaaapbfhedgnjaaDoorExS
namespace Go.Proofs.YtaaapbfhedgnjaaDoor.BV
open Go.ChangeShapes Go.WideShapes Go.ChangeAt Go.RowKit Go.Shelf

attribute [local go_sem] Oper.semAt_some

set_option maxRecDepth 100000 in
set_option maxHeartbeats 2000000 in
theorem eadds_long {F : Fence} (hW : Wd F) (a : Option Addr) (len cap : Nat) (cut stop : Int) (h : 80 < len) (W : World) (hT : Tab W) :
    CallsIn F 6 Tryd.prog 7 #[.slice a len cap, .int .i64 cut, .int .u8 stop] W fun e W' => e = .returned (.bool true) ∧ Below W.heap.size W W' := by
  have hro := hW.ro
  have hf5 := hW.fn 25
  have A0 := ((At.emp W).alloc (.cells #[.int .u8 stop] 5)).alloc (.cells #[.bool false] 4)
  simp only [World.size_alloc] at A0
  have A1 := A0.re (B := blk (W.heap.size + 1) (.cells #[.bool false] 4 (0, 0)) * (blk W.heap.size (.cells #[.int .u8 stop] 5 (0, 0)) * pur True)) (by ac_rfl)
  have LV := Lib.hid (hW.cal (n := 6 - 1) (elives _ (At.tabB hT A0)))
  have H1 := Lib.hid A1
  clear A0 A1 hT
  refine callsIn_of_wp Tryd.func7 rfl (hW.fn _) ?_ hro
  simp only [Tryd.ntmps7, List.size_toArray, List.length_cons, List.length_nil, Nat.reduceAdd, Nat.reduceSub, Array.replicate_succ, Array.replicate_zero, List.push_toArray, List.append_toArray, List.nil_append, List.cons_append]
  have h1I : (80 : Int) < (len : Int) := by omega
  clear h
  gi_wp2_with (gi_at_call 25; with_reducible refine LV.out.mono ?_; rintro e4 w4 ⟨rfl, hb⟩; have h5 := At.later H1.out hb; have q5 := cell1 (At.blkIs h5); obtain ⟨g5, g6⟩ := q5; have hM := Lib.hid (At.set_blk h5 0 (.bool true)); clear h5 hb)
  have hC := (cell1 (x0 := .bool true) (At.blkIs hM.out)).1
  have hB := hM.out.below
  refine bodyPost_ret (v := .bool true) ?_ rfl ⟨rfl, hB⟩
  simp [results, Tryd.f7, go_sem, hC]

theorem eadds_law (a : Option Addr) (len cap : Nat) (F1 : Nat → Nat → Int) (x1 x2 : Int) (h2 : (Lit.int .u8 x2).wf = true) (W : World) (hT : Tab W) (hrow : RecRow [.u8, .i64, .i64] W a len cap F1) :
    Calls Tryd.prog 7 #[.slice a len cap, .int .i64 x1, .int .u8 x2] W fun e W' => e = .returned (.bool true) ∧ Below W.heap.size W W' := by
  have hcm : cap ≤ 9223372036854775807 := by have := hrow.cm; unfold maxLen at this; omega
  by_cases hl : 80 < len
  · exact callsIn_wide.1 (eadds_long Wd.wide a len cap x1 x2 hl W hT)
  · exact callsIn_wide.1 (eadds_in Wd.wide a len cap x1 x2 F1 (by omega) hrow.lc hcm (bounds_u8 h2) W hT hrow)

end Go.Proofs.YtaaapbfhedgnjaaDoor.BV
