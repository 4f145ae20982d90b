/- The law BitvecOnes, whole. -/
import Derived.Test.YtflkbefiopnigacDoorBvOc
namespace Go.Proofs.YtflkbefiopnigacDoor.BV
open Go.ChangeShapes Go.WideShapes Go.ChangeAt Go.RowKit Go.Shelf

attribute [local go_sem] Oper.semAt_some

set_option maxRecDepth 100000 in
set_option maxHeartbeats 2000000 in
theorem ones_long {F : Fence} (hW : Wd F) (x0 : Int) (a b : Option Addr) (len cap len2 cap2 : Nat) (stop : Int) (h : 100 < len ∨ 100 < len2) (W : World) (hT : Tab W) :
    CallsIn F 6 Tryd.prog 4 #[.int .u8 x0, .slice a len cap, .agg #[.slice b len2 cap2, .int .u8 stop]] W fun e W' => e = .returned (.bool true) ∧ Below W.heap.size W W' := by
  have hro := hW.ro
  have hf5 := hW.fn 11
  have A0 := (((At.emp W).alloc (.cells #[.slice b len2 cap2, .int .u8 stop] 42)).alloc (.cells #[.bool false] 4)).alloc (.cells #[.slice b len2 cap2] 22)
  simp only [World.size_alloc] at A0
  have A1 := A0.re (B := blk (W.heap.size + 1) (.cells #[.bool false] 4 (0, 0)) * (blk W.heap.size (.cells #[.slice b len2 cap2, .int .u8 stop] 42 (0, 0)) * (blk (W.heap.size + 1 + 1) (.cells #[.slice b len2 cap2] 22 (0, 0)) * pur True))) (by ac_rfl)
  have LV := Lib.hid (hW.cal (n := 6 - 1) (blives _ (At.tabB hT A0)))
  have H1 := Lib.hid A1
  clear A0 A1 hT
  have hb : (decide ((100 : Int) < (len : Int)) || decide ((100 : Int) < (len2 : Int))) = true := by
    rw [Bool.or_eq_true, decide_eq_true_iff, decide_eq_true_iff]; omega
  refine callsIn_of_wp Tryd.func4 rfl (hW.fn _) ?_ hro
  simp only [Tryd.ntmps4, List.size_toArray, List.length_cons, List.length_nil, Nat.reduceAdd, Nat.reduceSub, Array.replicate_succ, Array.replicate_zero, List.push_toArray, List.append_toArray, List.nil_append, List.cons_append]
  by_cases h1 : 100 < len
  · have h1I : (100 : Int) < (len : Int) := by omega
    clear h hb
    gi_wp2_with (gi_at_call 11; with_reducible refine LV.out.mono ?_; rintro e4 w4 ⟨rfl, hb⟩; have h5 := At.later H1.out hb; have q5 := cell1 (At.blkIs h5); obtain ⟨g5, g6⟩ := q5; have hM := Lib.hid (At.set_blk h5 0 (.bool true)); clear h5 hb)
    have hC := (cell1 (x0 := .bool true) (At.blkIs hM.out)).1
    have hB := hM.out.below
    refine bodyPost_ret (v := .bool true) ?_ rfl ⟨rfl, hB⟩
    simp [results, Tryd.f4, go_sem, hC]
  · have h1I : ¬ (100 : Int) < (len : Int) := by omega
    have h2I : (100 : Int) < (len2 : Int) := by omega
    clear h hb
    gi_wp2_with (gi_at_call 11; with_reducible refine LV.out.mono ?_; rintro e4 w4 ⟨rfl, hb⟩; have h5 := At.later H1.out hb; have q5 := cell1 (At.blkIs h5); obtain ⟨g5, g6⟩ := q5; have hM := Lib.hid (At.set_blk h5 0 (.bool true)); clear h5 hb)
    have hC := (cell1 (x0 := .bool true) (At.blkIs hM.out)).1
    have hB := hM.out.below
    refine bodyPost_ret (v := .bool true) ?_ rfl ⟨rfl, hB⟩
    simp [results, Tryd.f4, go_sem, hC]

theorem ones_law (x0 : Int) (h0 : (Lit.int .u8 x0).wf = true) (a : Option Addr) (len cap : Nat) (F1 : Nat → Nat → Int) (b : Option Addr) (len2 cap2 : Nat) (F2 : Nat → Nat → Int) (st : Int) (W : World) (hT : Tab W) (hrow : RecRow [.u8, .i64, .i64] W a len cap F1) (hs : (Lit.int .u8 st).wf = true) (hrow2 : RecRow [.u8, .i64, .i64] W b len2 cap2 F2) :
    Calls Tryd.prog 4 #[.int .u8 x0, .slice a len cap, .agg #[.slice b len2 cap2, .int .u8 st]] W fun e W' => e = .returned (.bool true) ∧ Below W.heap.size W W' := by
  have hcm : cap ≤ 9223372036854775807 := by have := hrow.cm; unfold maxLen at this; omega
  have hcm2 : cap2 ≤ 9223372036854775807 := by have := hrow2.cm; unfold maxLen at this; omega
  have hb := bounds_u8 h0
  by_cases hl : 100 < len ∨ 100 < len2
  · exact callsIn_wide.1 (ones_long Wd.wide x0 a b len cap len2 cap2 st hl W hT)
  · obtain ⟨n, rfl⟩ := Int.eq_ofNat_of_zero_le hb.1
    exact callsIn_wide.1 (ones_in Wd.wide n (by omega) a b len cap len2 cap2 st F1 F2 (by omega) (by omega) hrow.lc hcm hrow2.lc hcm2 (bounds_u8 hs) W hT (rec_cells hrow) (rec_cells hrow2))

end Go.Proofs.YtflkbefiopnigacDoor.BV
