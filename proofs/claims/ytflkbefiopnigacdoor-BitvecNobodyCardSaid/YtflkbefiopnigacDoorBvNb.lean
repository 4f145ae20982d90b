/- The law BitvecNobody, walked. -/
import Derived.Test.YtflkbefiopnigacDoorBvO
import Derived.RangeFuncRecord
import Derived.RangeFuncBox
namespace Go.Proofs.YtflkbefiopnigacDoor.BV
open Go.ChangeShapes Go.WideShapes Go.ChangeAt Go.RowKit Go.Shelf

attribute [local go_sem] Oper.semAt_some

theorem run_eql_seq (k : Nat) (x y : Array Value) (w : World) : (binOp BinOp.eql 44 (Value.func (Fn.func k) x y) Value.nilFunc).run Tryd.prog w = .ok (.bool false) w := by
  have hu : ∀ w, (underlying 44).run Tryd.prog w = .ok (.func #[27] #[] false) w := run_underlying (by kernel_rfl)
  have h : ∀ d : Nat, (Op.equalIn (d + 1) 44 (.func (.func k) x y) .nilFunc).run Tryd.prog w = .ok false w := fun d => by
    simp [Op.equalIn, hu]
  simp only [binOp]
  simp [Op.equal, Op.maxDepth, h 9999]

def noA (R B : Nat) : Asn := blk R (.cells #[.bool false] 4 (0, 0)) * blk B (.cells #[.pointer none] 23 (0, 0))

/-- the end of a function that ranged over a function: its result lies in a cell -/
theorem mark_end {A : Asn} {W w : World} {R D : Nat} {v u : Value} {t : TypeId} (h : At ((blk R (.cells #[u] t (0, 0)) * A) * blk D (.deferred (some []))) W (fun _ => False) w) :
    (w.setCell ⟨R, 0, none⟩ v).heap[D]? = some (.deferred (some [])) ∧ ((w.setCell ⟨R, 0, none⟩ v).putObj D (.deferred none)).cell? ⟨R, 0, none⟩ = some v ∧ Below W.heap.size W ((w.setCell ⟨R, 0, none⟩ v).putObj D (.deferred none)) := by
  have h1 := At.set_blk (A := A * blk D (.deferred (some []))) (h.re (B := blk R (.cells #[u] t (0, 0)) * (A * blk D (.deferred (some [])))) (by ac_rfl)) 0 v
  have h2 : At (blk D (.deferred (some [])) * (blk R (.cells #[v] t (0, 0)) * A)) W (fun _ => False) (w.setCell ⟨R, 0, none⟩ v) := h1.re (by show blk R (.cells #[v] t (0, 0)) * _ = _; ac_rfl)
  have h3 := h2.putObj (.deferred none)
  exact ⟨h2.blkIs, (cell1 (At.blkIs (A := A * blk D (.deferred none)) (h3.re (by ac_rfl)))).1, h3.below⟩

theorem mark_cell {A : Asn} {W w : World} {R D : Nat} {u : Value} {t : TypeId} (h : At ((blk R (.cells #[u] t (0, 0)) * A) * blk D (.deferred (some []))) W (fun _ => False) w) : w.cell? ⟨R, 0, none⟩ = some u ∧ w.frozen? ⟨R, 0, none⟩ = false :=
  cell1 (At.blkIs (h.re (B := blk R (.cells #[u] t (0, 0)) * (A * blk D (.deferred (some [])))) (by ac_rfl)))

set_option maxRecDepth 100000 in
set_option maxHeartbeats 4000000 in
theorem nobody_in {F : Fence} (hW : Wd F) (x y : Int) (W : World) (hT : Tab W) : CallsIn F 6 Tryd.prog 7 #[.int .i64 x, .int .i64 y] W fun e W' => e = .returned (.bool true) ∧ Below W.heap.size W W' := by
  have hro := hW.ro
  have hf1 := hW.fn 13
  have hf2 := hW.fn 15
  have hf3 := hW.fn 17
  have hf4 := hW.fn 24
  have hf5 := hW.fn 28
  have hf6 := hW.fn 26
  have hf7 := hW.fn 21
  have hf8 := hW.fn 25
  have hf9 := hW.fn 29
  have hf10 := hW.fn 19
  have hf11 := hW.fn 23
  have hf12 := hW.fn 27
  have hf13 := hW.fn 11
  refine callsIn_of_wp_marks Tryd.func7 rfl (hW.fn _) ?_ hro
  simp only [Tryd.ntmps7, List.size_toArray, List.length_cons, List.length_nil, Nat.reduceAdd, Nat.reduceSub, Array.replicate_succ, Array.replicate_zero, List.push_toArray, List.append_toArray, List.nil_append, List.cons_append]
  gi_wp2_with (first | (gi_at_call 13; refine (hW.cal (vn_next _ _)).mono ?_; rintro e1 w1 ⟨rfl, rfl⟩) | (gi_at_call 15; refine (hW.cal (vn_last _ _)).mono ?_; rintro e1 w1 ⟨rfl, rfl⟩) | (gi_at_call 17; refine (hW.cal (vn_pick _ _)).mono ?_; rintro e1 w1 ⟨rfl, rfl⟩) | (gi_at_call 24; refine (hW.cal (bv_ones _ _)).mono ?_; rintro e1 w1 ⟨rfl, rfl⟩))
  simp only [run_eql_seq]
  gi_wp2
  have A0 : At (noA W.heap.size (W.heap.size + 1)) W (fun _ => False) ((W.alloc (.cells #[.bool false] 4)).alloc (.cells #[.pointer none] 23)) := by
    have h1 := ((At.emp W).alloc (.cells #[.bool false] 4)).alloc (.cells #[.pointer none] 23)
    rw [World.size_alloc] at h1
    exact At.nounit (h1.re (by unfold noA; ac_rfl))
  obtain ⟨R, hR⟩ : ∃ R, W.heap.size = R := ⟨_, rfl⟩
  rw [hR] at A0 ⊢
  have HT := Lib.hid hT
  have HR := Lib.hid hR
  clear hT hR
  refine wp_range0 hro (by omega) (gf := 49) (lb := #[.pointer (some ⟨R + 1, 0, none⟩)]) rfl (hW.fn _) (enters_of Tryd.func49 (by kernel_rfl) rfl) (ones_nil hW 5 (R + 1) (by omega)) (fun _ => rfl) (w0 := W) (S0 := fun _ => False) (fun _ _ => noA R (R + 1)) (fun _ => pur False) () A0 ?rd ?body ?done ?stop
  case rd =>
    intro s pre C w h
    exact (cell1 (At.blkIs (A := blk R (.cells #[.bool false] 4 (0, 0)) * C) (h.re (by unfold noA; ac_rfl)))).1
  case body =>
    intro l s pre x C w h hok
    exact hok.elim
  case stop =>
    intro D c w h
    exact (At.purIs h).elim
  case done =>
    intro D s pre w1 hd hA
    have hD := Lib.hid hA
    clear A0 hA
    gi_wp2_with (first | (gi_at_call 28; refine (hW.cal (vn_set _ _)).mono ?_; rintro e1 w1 ⟨rfl, rfl⟩) | (gi_at_call 26; refine (hW.cal (vn_clear _ _)).mono ?_; rintro e1 w1 ⟨rfl, rfl⟩) | (gi_at_call 21; refine (hW.cal (vn_test _ _)).mono ?_; rintro e1 w1 ⟨rfl, rfl⟩) | (gi_at_call 23; refine (hW.cal (vn_len _)).mono ?_; rintro e1 w1 ⟨rfl, rfl⟩) | (gi_at_call 27; refine (hW.cal (vn_copy _)).mono ?_; rintro e1 w1 ⟨rfl, rfl⟩) | (gi_at_call 25; refine (hW.cal (vn_fill _ _ _)).mono ?_; rintro e1 w2 ⟨rfl, hb⟩; have hD := Lib.hid (At.later hD.out hb); clear hb) | (gi_at_call 29; refine (hW.cal (vn_wipe _ _ _)).mono ?_; rintro e1 w2 ⟨rfl, hb⟩; have hD := Lib.hid (At.later hD.out hb); clear hb) | (gi_at_call 19; refine (hW.cal (vn_count _ _ _)).mono ?_; rintro e1 w2 ⟨rfl, hb⟩; have hD := Lib.hid (At.later hD.out hb); clear hb) | (gi_at_call 11; refine (hW.cal (blives _ (At.tabB HT.out hD.out))).mono ?_; rintro e1 w2 ⟨rfl, hb⟩; have hD := At.later hD.out hb; obtain ⟨c0, f0⟩ := mark_cell hD; have hM := Lib.hid (mark_end (v := .bool true) hD); clear hb hD))
    obtain ⟨hK, hC, hB⟩ := hM.out
    refine ⟨by simp, .inl ⟨_, _, rfl, run_takeDeferred hK, ?_⟩⟩
    refine ⟨.bool true, ?_, rfl, hB⟩
    simp [results, Tryd.f7, go_sem, hC]

theorem nobody_any (x y : Int) (W : World) (hT : Tab W) : Calls Tryd.prog 7 #[.int .i64 x, .int .i64 y] W fun e W' => e = .returned (.bool true) ∧ Below W.heap.size W W' :=
  callsIn_wide.1 (nobody_in Wd.wide x y W hT)

end Go.Proofs.YtflkbefiopnigacDoor.BV
