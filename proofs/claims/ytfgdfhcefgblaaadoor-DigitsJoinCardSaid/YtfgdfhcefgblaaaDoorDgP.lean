/- Digits (layer 4): Lines and Fields, walked over the iterator. -/
import Derived.Test.YtfgdfhcefgblaaaDoorDgO
namespace Go.Proofs.YtfgdfhcefgblaaaDoor
set_option linter.unusedVariables false
open Go.ChangeShapes Go.WideShapes Go.ChangeAt Go.RowKit Go.Shelf

attribute [local go_sem] Oper.semAt_some

theorem cell1 {w : World} {b : Nat} {x0 : Value} {t : TypeId} (h : w.heap[b]? = some (.cells #[x0] t (0, 0))) : w.cell? ⟨b, 0, none⟩ = some x0 ∧ w.frozen? ⟨b, 0, none⟩ = false := by
  simp [World.cell?, World.frozen?, h]

/-- the box of the list, the list -/
def lnI (K : Nat) (L : List (List UInt8)) : Asn := exa fun v : Value => blk K (.cells #[v] 38 (0, 0)) * sA v L
def lnF (B1 B2 G : Nat) (s : ByteArray) : Asn := blk B1 (.cells #[.string s] 9 (0, 0)) * blk B2 (.cells #[.func (.func G) #[] #[]] 41 (0, 0))

theorem ln_start {A : Asn} {w0 w : World} {S : Nat → Prop} (h : At A w0 S w) (s : ByteArray) (G : Nat) :
    At (lnI w.heap.size [] * (lnF (w.heap.size + 1) (w.heap.size + 1 + 1) G s * A)) w0 S
      (((w.alloc (.cells #[.slice none 0 0] 38)).alloc (.cells #[.string s] 9)).alloc (.cells #[.func (.func G) #[] #[]] 41)) := by
  have h1 := (((h.own_nil 9 1).alloc (.cells #[.slice none 0 0] 38)).alloc (.cells #[.string s] 9)).alloc (.cells #[.func (.func G) #[] #[]] 41)
  simp only [World.size_alloc] at h1
  refine At.shuts (.slice none 0 0) (h1.re ?_)
  unfold lnF sA
  show _ = _ * own 9 1 (.slice none 0 0) 0 [] * _
  ac_rfl

section
variable {w0 w : World} {S : Nat → Prop} {K B1 B2 G : Nat} {s : ByteArray} {L : List (List UInt8)} {C R : Asn}

theorem ln_rd (h : At (lnI K L * (lnF B1 B2 G s * C)) w0 S w) : PtRd B1 B2 G s w := by
  have h1 : At (blk B1 (.cells #[.string s] 9 (0, 0)) * (blk B2 (.cells #[.func (.func G) #[] #[]] 41 (0, 0)) * (lnI K L * C))) w0 S w := h.re (by unfold lnF; ac_rfl)
  have h2 : At (blk B2 (.cells #[.func (.func G) #[] #[]] 41 (0, 0)) * (blk B1 (.cells #[.string s] 9 (0, 0)) * (lnI K L * C))) w0 S w := h.re (by unfold lnF; ac_rfl)
  exact ⟨(cell1 (At.blkIs h1)).1, (cell1 (At.blkIs h2)).1⟩

theorem ln_open (h : At (lnI K L * C) w0 S w) : ∃ v, (w.cell? ⟨K, 0, none⟩ = some v ∧ w.frozen? ⟨K, 0, none⟩ = false) ∧ At (sA v L * (blk K (.cells #[v] 38 (0, 0)) * C)) w0 S w := by
  obtain ⟨v, h⟩ := At.opens h
  exact ⟨v, cell1 (At.blkIs (h.re (Asn.star_assoc _ _ _))), h.re (by ac_rfl)⟩

theorem ln_set {v v' : Value} (h : At (sA v' L * (blk K (.cells #[v] 38 (0, 0)) * C)) w0 S w) : At (lnI K L * C) w0 S (w.setCell ⟨K, 0, none⟩ v') ∧ w.cell? ⟨K, 0, none⟩ = some v ∧ w.frozen? ⟨K, 0, none⟩ = false := by
  have h1 : At (blk K (.cells #[v] 38 (0, 0)) * (sA v' L * C)) w0 S w := h.re (by ac_rfl)
  have h2 : At (blk K (.cells #[v'] 38 (0, 0)) * (sA v' L * C)) w0 S (w.setCell ⟨K, 0, none⟩ v') := At.set_blk h1 0 v'
  exact ⟨At.shuts v' (h2.re (by ac_rfl)), cell1 (At.blkIs h1)⟩

theorem ln_end {D : Nat} (h : At (lnI K L * (lnF B1 B2 G s * C) * blk D (.deferred (some []))) w0 S w) :
    ∃ v, w.cell? ⟨K, 0, none⟩ = some v ∧ w.heap[D]? = some (.deferred (some [])) ∧ At (sA v L * C) w0 S (w.putObj D (.deferred none)) := by
  have hD : At (blk D (.deferred (some [])) * (lnI K L * (lnF B1 B2 G s * C))) w0 S w := h.re (by ac_rfl)
  obtain ⟨v, hc, h2⟩ := ln_open (C := lnF B1 B2 G s * C * blk D (.deferred (some []))) (h.re (by ac_rfl))
  have h3 : At (blk D (.deferred (some [])) * (sA v L * C * (blk K (.cells #[v] 38 (0, 0)) * lnF B1 B2 G s))) w0 S w := h2.re (by ac_rfl)
  have h4 := h3.putObj (.deferred none)
  exact ⟨v, hc.1, hD.blkIs, At.dropr (C := blk K (.cells #[v] 38 (0, 0)) * lnF B1 B2 G s * blk D (.deferred none)) (h4.re (by ac_rfl))⟩
end

theorem pt_len (p : UInt8 → Bool) : ∀ (r cur : List UInt8), (ptS p cur r).length ≤ r.length + 1
  | [], cur => by show ([cur] : List _).length ≤ _; simp
  | c :: r, cur => by
    show (if p c then cur :: ptS p [] r else ptS p (cur ++ [c]) r).length ≤ _
    have h1 := pt_len p r []
    have h2 := pt_len p r (cur ++ [c])
    split <;> simp <;> omega

theorem ok_len {p : UInt8 → Bool} {s : ByteArray} {u : Unit} {pre : List (List UInt8)} {x : List UInt8} (h : PtOk p s u pre x) : pre.length ≤ s.size := by
  obtain ⟨rest, h⟩ := h
  have h1 := congrArg List.length h
  have h2 := pt_len p s.data.toList []
  have h3 : s.data.toList.length = s.size := by simp
  rw [List.length_append, List.length_cons] at h1
  omega

set_option maxRecDepth 100000 in
set_option maxHeartbeats 8000000 in
theorem lines_in {F : Fence} (hW : Wd F) (s : ByteArray) (hs : s.size ≤ 1000000) (h0 : 0 < s.size) {w0 w : World} {S : Nat → Prop} {A : Asn} (h : At A w0 S w) :
    CallsIn F 6 Tryd.prog 21 #[.string s] w fun e w' => ∃ v, e = .returned v ∧ Hid (At (sA v (liS [] s.data.toList) * A) w0 S w') := by
  have hro := hW.ro
  have hf1 := hW.fn 36
  have hf2 := hW.fn 37
  have TM := Lib.hid (fun w => dg_trim s h0 hs w)
  have TS : (tmS s).size ≤ 1000000 := Nat.le_trans (tm_size s) hs
  obtain ⟨e1, e2⟩ := ne_empty (l := s.data.toList) (by intro e; have : s.data.toList.length = s.size := by simp
                                                       rw [e] at this; simp at this; omega)
  rw [← bS_of] at e1 e2
  have A0 := ln_start h (tmS s) 38
  obtain ⟨K, hK⟩ : ∃ K, w.heap.size = K := ⟨_, rfl⟩
  rw [hK] at A0
  obtain ⟨i0, hi, hz0, hz1', hz2⟩ := info_parts' infSt
  have HI := Lib.hid hi
  have HZ0 := Lib.hid hz0
  have HZ1 := Lib.hid hz1'
  have HZ2 := Lib.hid hz2
  clear h hi hz0 hz1' hz2
  refine callsIn_of_wp_marks Tryd.func21 rfl (hW.fn _) ?_ hro
  simp only [Tryd.ntmps21, List.size_toArray, List.length_cons, List.length_nil, Nat.reduceAdd, Nat.reduceSub, Array.replicate_succ, Array.replicate_zero, List.push_toArray, List.append_toArray, List.nil_append, List.cons_append]
  gi_wp2_with (first | (gi_at_call 36; with_reducible refine (hW.cal (dg_parts _ _ _)).mono ?_; rintro e1 w3 ⟨rfl, rfl⟩) | (gi_at_call 37; with_reducible refine (hW.cal (TM.out _)).mono ?_; rintro e1 w3 ⟨rfl, rfl⟩))
  obtain ⟨w1, hw1⟩ : ∃ w1, (((w.alloc (.cells #[.slice none 0 0] 38)).alloc (.cells #[.string (tmS s)] 9)).alloc (.cells #[.func (.func 38) #[] #[]] 41)) = w1 := ⟨_, rfl⟩
  rw [hw1] at A0 ⊢
  try rw [hK]
  try simp only [World.size_alloc]
  try rw [hK]
  clear hw1 hK
  refine wp_rangeDE hro (by omega) (gf := 44) (lb := #[.pointer (some ⟨K + 1, 0, none⟩), .pointer (some ⟨K + 1 + 1, 0, none⟩)]) rfl (hW.fn _) (enters_of Tryd.func44 (by kernel_rfl) rfl) (parts_iter hW 5 (K + 1) (K + 1 + 1) 38 lfB (tmS s) TS (by omega) lf_is (enters_of Tryd.func38 (by kernel_rfl) rfl)) (fun _ => rfl) (w0 := w0) (S0 := S) (fun _ pre => lnI K (pre) * (lnF (K + 1) (K + 1 + 1) 38 (tmS s) * A)) (fun _ => pur False) () A0 ?rd ?ab ?done ?stop
  case rd =>
    intro u pre R W h
    exact ln_rd (C := A * R) (h.re (by ac_rfl))
  case ab =>
    apply Exists.intro
    refine ⟨?_, ?_⟩
    focus
      intro l x w K hK
      gi_wp2
      exact hK
    intro l u pre x R W hA hok
    have hlen := ok_len hok
    have hts := TS
    have hA := hA.re (B := lnI K (pre) * ((lnF (K + 1) (K + 1 + 1) 38 (tmS s) * A) * R)) (Asn.star_assoc _ _ _)
    obtain ⟨v, ⟨c1, c2⟩, hB⟩ := ln_open hA
    clear A0 hok
    have HO := Lib.hid (sA_own hB)
    have PU := Lib.hid (fun v' w1 => s_push (w1 := w1) (v' := v') (x := x) hB)
    have ST := Lib.hid (fun (v' : Value) (w : World) (L : List (List UInt8)) h => ln_set (v' := v') (w := w) (w0 := w0) (S := S) (K := K) (L := L) (v := v) (C := (lnF (K + 1) (K + 1 + 1) 38 (tmS s) * A) * R) h)
    obtain ⟨M, hM⟩ : ∃ M, pre = M := ⟨_, rfl⟩
    rw [hM] at HO PU
    have FIN : Hid (pre ++ [x] = M ++ [x]) := Lib.hid (by rw [hM])
    unfold tv at PU
    obtain ⟨t, ht⟩ : ∃ t, bS x = t := ⟨_, rfl⟩
    rw [ht] at PU ⊢
    have hml : M.length ≤ 1000000 := by rw [← hM]; exact Nat.le_trans hlen TS
    clear hA hB ht hM
    gi_wp2_with (gi_at_builtin; refine wpListIn_append_own_at _ rfl _ _ 38 rfl 0 9 i0 (.string ⟨#[]⟩) 1 16 Tryd.underlying38 HI.out HZ0.out HZ1.out HZ2.out rfl (by decide) _ _ _ rfl (World.ownsRow.alloc HO.out _) ⟨W.heap.size, 0, none⟩ 1 1 [.string t] rfl rfl ?c1 ?c2 ?c3 ?c4 ?c5 ?_)
    try (case c1 => exact lit_nw W _)
    try (case c2 => simp [Value.oneCell'])
    try (case c3 => unfold maxLen; omega)
    try (case c4 => omega)
    try (case c5 => exact Nat.zero_le _)
    intro pv pw hown hgrow hnil hat
    have A1 := PU.out _ _ hown hgrow (fun q hq => by
      rcases hat with h | h
      · left; rw [← h]; exact hq
      · right; rw [h] at hq; cases hq; simp)
    obtain ⟨pa, pcap, rfl, _⟩ := sc_of A1
    obtain ⟨A2, c3, c4⟩ := ST.out _ _ _ A1
    have A3 := Lib.hid A2
    clear hown hgrow hnil hat PU HO A1 A2 ST
    gi_wp2_with fail
    refine ⟨(), ?_⟩
    show At ((lnI K (pre ++ [x]) * (lnF (K + 1) (K + 1 + 1) 38 (tmS s) * A)) * R) w0 S _
    rw [FIN.out]
    have A4 := A3.out.re (Asn.star_assoc _ _ _).symm
    rw [show (M ++ [x]).length = M.length + 1 by simp] at A4
    exact A4
  case stop =>
    intro D cd W hA
    exact (At.purIs hA).elim
  case done =>
    intro D u pre W hd hA
    obtain ⟨v, c1, hD, hE⟩ := ln_end hA
    have hd : _ = pre := hd
    rw [tm_lines s h0] at hd
    subst hd
    have hE := Lib.hid hE
    have hD := Lib.hid hD
    clear hA hd A0
    gi_wp2
    refine ⟨by simp, .inl ⟨_, _, rfl, run_takeDeferred hD.out, ?_⟩⟩
    refine ⟨v, ?_, v, rfl, hE⟩
    simp [results, Tryd.f21, go_sem]

def ftE (L : List (List UInt8)) : List (List UInt8) := L.filter fun x => decide (x ≠ [])
theorem ft_nil {L : List (List UInt8)} : ftE (L ++ [[]]) = ftE L := by unfold ftE; rw [List.filter_append]; simp
theorem ft_cons {L : List (List UInt8)} {x : List UInt8} (h : x ≠ []) : ftE (L ++ [x]) = ftE L ++ [x] := by unfold ftE; rw [List.filter_append]; simp [h]
theorem ft_len (L : List (List UInt8)) : (ftE L).length ≤ L.length := List.length_filter_le _ _

set_option maxRecDepth 100000 in
set_option maxHeartbeats 8000000 in
theorem fields_in {F : Fence} (hW : Wd F) (s : ByteArray) (hs : s.size ≤ 1000000) {w0 w : World} {S : Nat → Prop} {A : Asn} (h : At A w0 S w) :
    CallsIn F 6 Tryd.prog 23 #[.string s] w fun e w' => ∃ v, e = .returned v ∧ Hid (At (sA v (fiS [] s.data.toList) * A) w0 S w') := by
  have hro := hW.ro
  have hf1 := hW.fn 36

  have A0 := ln_start h s 39
  obtain ⟨K, hK⟩ : ∃ K, w.heap.size = K := ⟨_, rfl⟩
  rw [hK] at A0
  obtain ⟨i0, hi, hz0, hz1', hz2⟩ := info_parts' infSt
  have HI := Lib.hid hi
  have HZ0 := Lib.hid hz0
  have HZ1 := Lib.hid hz1'
  have HZ2 := Lib.hid hz2
  clear h hi hz0 hz1' hz2
  refine callsIn_of_wp_marks Tryd.func23 rfl (hW.fn _) ?_ hro
  simp only [Tryd.ntmps23, List.size_toArray, List.length_cons, List.length_nil, Nat.reduceAdd, Nat.reduceSub, Array.replicate_succ, Array.replicate_zero, List.push_toArray, List.append_toArray, List.nil_append, List.cons_append]
  gi_wp2_with (first | (gi_at_call 36; with_reducible refine (hW.cal (dg_parts _ _ _)).mono ?_; rintro e1 w3 ⟨rfl, rfl⟩))
  obtain ⟨w1, hw1⟩ : ∃ w1, (((w.alloc (.cells #[.slice none 0 0] 38)).alloc (.cells #[.string s] 9)).alloc (.cells #[.func (.func 39) #[] #[]] 41)) = w1 := ⟨_, rfl⟩
  rw [hw1] at A0 ⊢
  try rw [hK]
  try simp only [World.size_alloc]
  try rw [hK]
  clear hw1 hK
  refine wp_rangeDE hro (by omega) (gf := 44) (lb := #[.pointer (some ⟨K + 1, 0, none⟩), .pointer (some ⟨K + 1 + 1, 0, none⟩)]) rfl (hW.fn _) (enters_of Tryd.func44 (by kernel_rfl) rfl) (parts_iter hW 5 (K + 1) (K + 1 + 1) 39 spB s hs (by omega) sp_is (enters_of Tryd.func39 (by kernel_rfl) rfl)) (fun _ => rfl) (w0 := w0) (S0 := S) (fun _ pre => lnI K (ftE pre) * (lnF (K + 1) (K + 1 + 1) 39 s * A)) (fun _ => pur False) () A0 ?rd ?ab ?done ?stop
  case rd =>
    intro u pre R W h
    exact ln_rd (C := A * R) (h.re (by ac_rfl))
  case ab =>
    apply Exists.intro
    refine ⟨?_, ?_⟩
    focus
      intro l x w K hK
      gi_wp2
      exact hK
    intro l u pre x R W hA hok
    have hlen := ok_len hok
    have hts := hs
    have hA := hA.re (B := lnI K (ftE pre) * ((lnF (K + 1) (K + 1 + 1) 39 s * A) * R)) (Asn.star_assoc _ _ _)
    obtain ⟨v, ⟨c1, c2⟩, hB⟩ := ln_open hA
    clear A0 hok
    by_cases hx : x = []
    · subst hx
      have FIN : Hid (ftE (pre ++ [[]]) = ftE pre) := Lib.hid ft_nil
      have EN : bS [] = ⟨#[]⟩ := rfl
      have hA := Lib.hid hA
      rw [EN]
      clear hB c1 c2
      gi_wp2_with fail
      refine ⟨(), ?_⟩
      show At ((lnI K (ftE (pre ++ [[]])) * (lnF (K + 1) (K + 1 + 1) 39 s * A)) * R) w0 S _
      rw [FIN.out]
      exact hA.out.re (Asn.star_assoc _ _ _).symm
    · obtain ⟨e1, e2⟩ := ne_empty hx
      have HO := Lib.hid (sA_own hB)
      have PU := Lib.hid (fun v' w1 => s_push (w1 := w1) (v' := v') (x := x) hB)
      have ST := Lib.hid (fun (v' : Value) (w : World) (L : List (List UInt8)) h => ln_set (v' := v') (w := w) (w0 := w0) (S := S) (K := K) (L := L) (v := v) (C := (lnF (K + 1) (K + 1 + 1) 39 s * A) * R) h)
      obtain ⟨M, hM⟩ : ∃ M, ftE pre = M := ⟨_, rfl⟩
      rw [hM] at HO PU
      have FIN : Hid (ftE (pre ++ [x]) = M ++ [x]) := Lib.hid (by rw [ft_cons hx, hM])
      unfold tv at PU
      obtain ⟨t, ht⟩ : ∃ t, bS x = t := ⟨_, rfl⟩
      rw [ht] at PU e1 e2 ⊢
      have hml : M.length ≤ 1000000 := by rw [← hM]; exact Nat.le_trans (ft_len pre) (Nat.le_trans hlen hs)
      clear hA hB ht hM
      gi_wp2_with (gi_at_builtin; refine wpListIn_append_own_at _ rfl _ _ 38 rfl 0 9 i0 (.string ⟨#[]⟩) 1 16 Tryd.underlying38 HI.out HZ0.out HZ1.out HZ2.out rfl (by decide) _ _ _ rfl (World.ownsRow.alloc HO.out _) ⟨W.heap.size, 0, none⟩ 1 1 [.string t] rfl rfl ?c1 ?c2 ?c3 ?c4 ?c5 ?_)
      try (case c1 => exact lit_nw W _)
      try (case c2 => simp [Value.oneCell'])
      try (case c3 => unfold maxLen; omega)
      try (case c4 => omega)
      try (case c5 => exact Nat.zero_le _)
      intro pv pw hown hgrow hnil hat
      have A1 := PU.out _ _ hown hgrow (fun q hq => by
        rcases hat with h | h
        · left; rw [← h]; exact hq
        · right; rw [h] at hq; cases hq; simp)
      obtain ⟨pa, pcap, rfl, _⟩ := sc_of A1
      obtain ⟨A2, c3, c4⟩ := ST.out _ _ _ A1
      have A3 := Lib.hid A2
      clear hown hgrow hnil hat PU HO A1 A2 ST
      gi_wp2_with fail
      refine ⟨(), ?_⟩
      show At ((lnI K (ftE (pre ++ [x])) * (lnF (K + 1) (K + 1 + 1) 39 s * A)) * R) w0 S _
      rw [FIN.out]
      have A4 := A3.out.re (Asn.star_assoc _ _ _).symm
      rw [show (M ++ [x]).length = M.length + 1 by simp] at A4
      exact A4
  case stop =>
    intro D cd W hA
    exact (At.purIs hA).elim
  case done =>
    intro D u pre W hd hA
    obtain ⟨v, c1, hD, hE⟩ := ln_end hA
    have hd : _ = pre := hd
    rw [← hd, show ftE (ptS spB [] s.data.toList) = fiS [] s.data.toList from fi_pt _ _] at hE
    have hE := Lib.hid hE
    have hD := Lib.hid hD
    clear hA hd A0
    gi_wp2
    refine ⟨by simp, .inl ⟨_, _, rfl, run_takeDeferred hD.out, ?_⟩⟩
    refine ⟨v, ?_, v, rfl, hE⟩
    simp [results, Tryd.f23, go_sem]

theorem dg_lines (s : ByteArray) (hs : s.size ≤ 1000000) {w0 w : World} {S : Nat → Prop} {A : Asn} (h : At A w0 S w) :
    Calls Tryd.prog 21 #[.string s] w fun e w' => ∃ v, e = .returned v ∧ Hid (At (sA v (liS [] s.data.toList) * A) w0 S w') := by
  by_cases h0 : 0 < s.size
  · exact callsIn_wide.1 (lines_in Wd.wide s hs h0 h)
  · have e : s.data.toList = [] := List.eq_nil_of_length_eq_zero (by have : s.data.toList.length = s.size := by simp
                                                                     omega)
    rw [e, show liS [] [] = [] from rfl]
    have e2 : s.toList.isEmpty = true := by rw [ByteArray.toList_eq, e]; rfl
    have e3 : s = ⟨#[]⟩ := by rw [bS_of s, e]; rfl
    have A0 := Lib.hid (h.own_nil 9 1)
    subst e3
    clear e e2 h0 h
    go_enter Tryd.func21, Tryd.ntmps21
    go_wp2
    go_ret
    exact ⟨_, rfl, A0⟩

theorem dg_fields (s : ByteArray) (hs : s.size ≤ 1000000) {w0 w : World} {S : Nat → Prop} {A : Asn} (h : At A w0 S w) :
    Calls Tryd.prog 23 #[.string s] w fun e w' => ∃ v, e = .returned v ∧ Hid (At (sA v (fiS [] s.data.toList) * A) w0 S w') :=
  callsIn_wide.1 (fields_in Wd.wide s hs h)

end Go.Proofs.YtfgdfhcefgblaaaDoor
