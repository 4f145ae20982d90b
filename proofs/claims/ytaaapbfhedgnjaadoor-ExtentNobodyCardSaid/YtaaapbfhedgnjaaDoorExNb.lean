/- The law ExtentNobody, walked. -/
import Derived.Test.YtaaapbfhedgnjaaDoorExV
import Derived.Test.YtaaapbfhedgnjaaDoorRfE
namespace Go.Proofs.YtaaapbfhedgnjaaDoor.BV
open Go.ChangeShapes Go.WideShapes Go.ChangeAt Go.RowKit Go.Shelf

attribute [local go_sem] Oper.semAt_some

theorem run_eql_seq2 (k : Nat) (x y : Array Value) (w : World) : (binOp BinOp.eql 68 (Value.func (Fn.func k) x y) Value.nilFunc).run Tryd.prog w = .ok (.bool false) w := by
  have hu : ∀ w, (underlying 68).run Tryd.prog w = .ok (.func #[46] #[] false) w := run_underlying (by kernel_rfl)
  have h : ∀ d : Nat, (Op.equalIn (d + 1) 68 (.func (.func k) x y) .nilFunc).run Tryd.prog w = .ok false w := fun d => by
    simp [Op.equalIn, hu]
  simp only [binOp]
  simp [Op.equal, Op.maxDepth, h 9999]

set_option maxRecDepth 100000 in
set_option maxHeartbeats 2000000 in
theorem en_word_in {F : Fence} (hW : Wd F) (k : Int) (w : World) : CallsIn F 6 Tryd.prog 36 #[.pointer none, .int .i64 k] w fun e w' => e = .returned (.tuple #[.int .i64 0, .bool false]) ∧ Below w.heap.size w w' := by
  have hro := hW.ro
  have hf1 := hW.fn 42
  have A0 := (((At.emp w).alloc (.cells #[.int .i64 k] 3)).alloc (.cells #[.int .i64 0] 3)).alloc (.cells #[.bool false] 4)
  have A1 := A0.alloc (.cells #[.pointer none] 48)
  simp only [World.size_alloc] at A0 A1
  obtain ⟨Z, hZ⟩ : ∃ Z, w.heap.size = Z := ⟨_, rfl⟩
  rw [hZ] at A0 A1
  by_cases hk : k < 0
  · have B1 := A0.re (B := blk (Z + 1) (.cells #[.int .i64 0] 3 (0, 0)) * (blk (Z + 1 + 1) (.cells #[.bool false] 4 (0, 0)) * (blk Z (.cells #[.int .i64 k] 3 (0, 0)) * pur True))) (by ac_rfl)
    obtain ⟨c1, c2⟩ := cell1 (At.blkIs B1)
    have c5 := (cell1 (At.blkIs (B1.re (B := blk (Z + 1 + 1) (.cells #[.bool false] 4 (0, 0)) * (blk (Z + 1) (.cells #[.int .i64 0] 3 (0, 0)) * (blk Z (.cells #[.int .i64 k] 3 (0, 0)) * pur True))) (by ac_rfl)))).1
    have hM := Lib.hid (And.intro c1 (And.intro c5 A0.below))
    clear A0 A1 B1 c1 c2 c5
    refine callsIn_of_wp Tryd.func36 rfl (hW.fn _) ?_ hro
    simp only [Tryd.ntmps36, List.size_toArray, List.length_cons, List.length_nil, Nat.reduceAdd, Nat.reduceSub, Array.replicate_succ, Array.replicate_zero, List.push_toArray, List.append_toArray, List.nil_append, List.cons_append]
    gi_wp2
    obtain ⟨hC, hC2, hB⟩ := hM.out
    refine bodyPost_ret (v := .tuple #[.int .i64 0, .bool false]) ?_ rfl ⟨rfl, hB⟩
    simp [results, Tryd.f36, go_sem, hC, hC2]
  · have hk' : (0 : Int) ≤ k := by omega
    have A5 := A1.re (B := blk (Z + 1) (.cells #[.int .i64 0] 3 (0, 0)) * (blk (Z + 1 + 1) (.cells #[.bool false] 4 (0, 0)) * (blk (Z + 1 + 1 + 1) (.cells #[.pointer none] 48 (0, 0)) * (blk Z (.cells #[.int .i64 k] 3 (0, 0)) * pur True)))) (by ac_rfl)
    have A5 := Lib.hid A5
    clear A0 A1
    refine callsIn_of_wp_marks Tryd.func36 rfl (hW.fn _) ?_ hro
    simp only [Tryd.ntmps36, List.size_toArray, List.length_cons, List.length_nil, Nat.reduceAdd, Nat.reduceSub, Array.replicate_succ, Array.replicate_zero, List.push_toArray, List.append_toArray, List.nil_append, List.cons_append]
    gi_wp2_with (gi_at_call 42; with_reducible refine (hW.cal (ex_all _ _)).mono ?_; rintro e1 w3 ⟨rfl, rfl⟩)
    try rw [hZ]
    have HZ := Lib.hid hZ
    clear hZ
    refine wp_rangeE hro (by omega) (gf := 62) (lb := #[.pointer (some ⟨Z + 1 + 1 + 1, 0, none⟩)]) rfl (hW.fn _) (enters_of Tryd.func62 (by kernel_rfl) rfl) (all_nil hW 5 (Z + 1 + 1 + 1) (by omega)) (fun _ => rfl) (w0 := w) (S0 := fun _ => False) (fun _ _ => blk (Z + 1) (.cells #[.int .i64 0] 3 (0, 0)) * (blk (Z + 1 + 1) (.cells #[.bool false] 4 (0, 0)) * (blk (Z + 1 + 1 + 1) (.cells #[.pointer none] 48 (0, 0)) * (blk Z (.cells #[.int .i64 k] 3 (0, 0)) * pur True)))) (fun _ => pur False) () A5.out ?rd ?ab ?done ?stop
    case rd =>
      intro s pre R W h
      exact (cell1 (At.blkIs (A := blk (Z + 1) (.cells #[.int .i64 0] 3 (0, 0)) * (blk (Z + 1 + 1) (.cells #[.bool false] 4 (0, 0)) * (blk Z (.cells #[.int .i64 k] 3 (0, 0)) * pur True)) * R) (h.re (by ac_rfl)))).1
    case ab =>
      apply Exists.intro
      refine ⟨?_, ?_⟩
      focus
        intro l i W K hK
        gi_wp2
        exact hK
      intro l s pre i R W hA hok
      exact hok.elim
    case stop =>
      intro D cd W hA
      exact (At.purIs hA).elim
    case done =>
      intro D s pre W hd hA
      obtain ⟨⟨c1, c2⟩, ⟨c3, c4⟩, hK, hC, hC2, hE⟩ := mk_two (v0 := .int .i64 0) (v1 := .bool false) hA
      have hM := Lib.hid (And.intro hK (And.intro hC (And.intro hC2 hE.below)))
      clear hA hK hC hC2 hE A5
      gi_wp2
      obtain ⟨hK, hC, hC2, hB⟩ := hM.out
      refine ⟨by simp, .inl ⟨_, _, rfl, run_takeDeferred hK, ?_⟩⟩
      refine ⟨.tuple #[.int .i64 0, .bool false], ?_, rfl, hB⟩
      simp [results, Tryd.f36, go_sem, hC, hC2]

theorem en_word (k : Int) (w : World) : Calls Tryd.prog 36 #[.pointer none, .int .i64 k] w fun e w' => e = .returned (.tuple #[.int .i64 0, .bool false]) ∧ Below w.heap.size w w' :=
  callsIn_wide.1 (en_word_in Wd.wide k w)

set_option maxRecDepth 100000 in
set_option maxHeartbeats 4000000 in
theorem enobody_in {F : Fence} (hW : Wd F) (x y : Int) (W : World) (hT : Tab W) : CallsIn F 6 Tryd.prog 8 #[.int .i64 x, .int .i64 y] W fun e W' => e = .returned (.bool true) ∧ Below W.heap.size W W' := by
  have hro := hW.ro
  have hf1 := hW.fn 31
  have hf2 := hW.fn 34
  have hf3 := hW.fn 26
  have hf4 := hW.fn 36
  have hf5 := hW.fn 28
  have hf6 := hW.fn 42
  have hf7 := hW.fn 30
  have hf8 := hW.fn 38
  have hf9 := hW.fn 40
  have hf10 := hW.fn 41
  have hf11 := hW.fn 25
  have A0 := (At.emp W).alloc (.cells #[.bool false] 4)
  obtain ⟨R, hR⟩ : ∃ R, W.heap.size = R := ⟨_, rfl⟩
  rw [hR] at A0
  have A0 := Lib.hid A0
  have HT := Lib.hid hT
  clear hT
  refine callsIn_of_wp_marks Tryd.func8 rfl (hW.fn _) ?_ hro
  simp only [Tryd.ntmps8, List.size_toArray, List.length_cons, List.length_nil, Nat.reduceAdd, Nat.reduceSub, Array.replicate_succ, Array.replicate_zero, List.push_toArray, List.append_toArray, List.nil_append, List.cons_append]
  gi_wp2_with (first | (gi_at_call 31; with_reducible refine (hW.cal (en_find _ _)).mono ?_; rintro e1 w1 ⟨rfl, rfl⟩) | (gi_at_call 34; with_reducible refine (hW.cal (en_next _ _)).mono ?_; rintro e1 w1 ⟨rfl, rfl⟩) | (gi_at_call 26; with_reducible refine (hW.cal (en_drop _ _)).mono ?_; rintro e1 w1 ⟨rfl, rfl⟩) | (gi_at_call 36; with_reducible refine (hW.cal (en_word _ _)).mono ?_; rintro e1 w2 ⟨rfl, hb⟩; have hD := Lib.hid (At.later A0.out hb); clear hb) | (gi_at_call 28; with_reducible refine (hW.cal (en_wipe _)).mono ?_; rintro e1 w1 ⟨rfl, rfl⟩) | (gi_at_call 42; with_reducible refine (hW.cal (ex_all _ _)).mono ?_; rintro e1 w1 ⟨rfl, rfl⟩))
  simp only [run_eql_seq2]
  gi_wp2
  have A1 := hD.out.alloc (.cells #[.pointer none] 48)
  obtain ⟨B, hB⟩ : ∃ B, w2.heap.size = B := ⟨_, rfl⟩
  rw [hB] at A1
  try rw [hB]
  have A2 := A1.re (B := blk R (.cells #[.bool false] 4 (0, 0)) * blk B (.cells #[.pointer none] 48 (0, 0)) * pur True) (by ac_rfl)
  have A3 := Lib.hid A2.nounit
  have HR := Lib.hid hR
  clear A1 A2 hB hR hD A0
  refine wp_rangeE hro (by omega) (gf := 62) (lb := #[.pointer (some ⟨B, 0, none⟩)]) rfl (hW.fn _) (enters_of Tryd.func62 (by kernel_rfl) rfl) (all_nil hW 5 B (by omega)) (fun _ => rfl) (w0 := W) (S0 := fun _ => False) (fun _ _ => blk R (.cells #[.bool false] 4 (0, 0)) * blk B (.cells #[.pointer none] 48 (0, 0))) (fun _ => pur False) () A3.out ?rd ?ab ?done ?stop
  case rd =>
    intro s pre C w h
    exact (cell1 (At.blkIs (h.re (B := blk B (.cells #[.pointer none] 48 (0, 0)) * (blk R (.cells #[.bool false] 4 (0, 0)) * C)) (by ac_rfl)))).1
  case ab =>
    apply Exists.intro
    refine ⟨?_, ?_⟩
    focus
      intro l i w K hK
      gi_wp2
      exact hK
    intro l s pre i C w hA hok
    exact hok.elim
  case stop =>
    intro D c w h
    exact (At.purIs h).elim
  case done =>
    intro D s pre w1 hd hA
    have hD := Lib.hid hA
    clear A3 hA
    gi_wp2_with (first | (gi_at_call 30; with_reducible refine (hW.cal (en_add _ _ _)).mono ?_; rintro e1 w1 ⟨rfl, rfl⟩) | (gi_at_call 38; with_reducible refine (hW.cal (en_live _ _ _)).mono ?_; rintro e1 w1 ⟨rfl, rfl⟩) | (gi_at_call 40; with_reducible refine (hW.cal (en_objs _)).mono ?_; rintro e1 w1 ⟨rfl, rfl⟩) | (gi_at_call 41; with_reducible refine (hW.cal (en_words _)).mono ?_; rintro e1 w1 ⟨rfl, rfl⟩) | (gi_at_call 25; with_reducible refine (hW.cal (elives _ (At.tabB HT.out hD.out))).mono ?_; rintro e1 w2 ⟨rfl, hb⟩; have h5 := At.later hD.out hb; obtain ⟨c0, f0⟩ := mk_cell h5; have hM := Lib.hid (mk_end (v := .bool true) h5); clear hb h5))
    obtain ⟨hK, hC, hE⟩ := hM.out
    refine ⟨by simp, .inl ⟨_, _, rfl, run_takeDeferred hK, ?_⟩⟩
    refine ⟨.bool true, ?_, rfl, hE.below⟩
    simp [results, Tryd.f8, go_sem, hC]

theorem enobody_any (x y : Int) (W : World) (hT : Tab W) : Calls Tryd.prog 8 #[.int .i64 x, .int .i64 y] W fun e W' => e = .returned (.bool true) ∧ Below W.heap.size W W' :=
  callsIn_wide.1 (enobody_in Wd.wide x y W hT)

end Go.Proofs.YtaaapbfhedgnjaaDoor.BV
