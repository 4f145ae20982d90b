/- A paged memory (layer 9): Store, Map, Unmap, Move. -/
import Derived.Test.YtflkbefiopnigabDoorVmA
import Derived.Deep.RegionWith
namespace Go.Proofs.YtflkbefiopnigabDoor.VM
open Go.ChangeShapes Go.WideShapes Go.ChangeAt Go.RowKit
open PT (QS upd pmA newQ)

theorem vm_store_bad {p : Nat} {m : MV} (a u : Int) (h0 : frE m (a / m.page) ≠ 0) : Look Tryd.prog 12 #[.pointer (some ⟨p, 0, none⟩), .int .i64 a, .int .u64 u] (memA p m) (.int .i64 (frE m (a / m.page))) := by
  intro w S h
  obtain ⟨sh, c, t, s, q, v, e1, e2, hX⟩ := memA_open (At.refl h)
  have F := vm_frame v e2 a hX
  rw [show ((2 : Int) ^ sh) = (m.page : Int) by rw [e1]; push_cast; rfl] at F
  have F := Lib.hid F
  generalize frE m (a / m.page) = fe at *
  generalize frV m q (a / m.page) = fv at *
  clear h hX v e1 e2
  go_enter Tryd.func12, Tryd.ntmps12
  go_wp2_with (go_at_call 56; refine F.out.mono ?_; rintro e1 w1 ⟨rfl, n, rfl⟩)
  go_ret
  exact ⟨rfl, _, rfl⟩

set_option maxRecDepth 100000 in
theorem vm_store_ok {p : Nat} {m : MV} (hm : m.ok) (i j : Nat) (u : Int) (hi : m.mp i = true) (hj : j < m.page) : Tri1 Tryd.prog 12 #[.pointer (some ⟨p, 0, none⟩), .int .i64 (i * m.page + j : Nat), .int .u64 u] (memA p m) (.int .i64 0) (memA p (m.put i j u)) := by
  intro w S h
  obtain ⟨sh, c, t, s, q, v, e1, e2, hX⟩ := memA_open (At.refl h)
  have hb := hm.mb i hi
  have F := vm_frame v e2 ((i * m.page + j : Nat) : Int) hX
  obtain ⟨d1, d2⟩ := split_pg i j m.page hj
  have e3 : (((i * m.page + j : Nat) : Int) / 2 ^ sh) = (i : Int) := by
    rw [show ((2 : Int) ^ sh) = (m.page : Int) by rw [e1]; push_cast; rfl]
    exact_mod_cast congrArg (fun x : Nat => (x : Int)) d1
  rw [e3, frE_ok hb hi, frV_ok hb hi] at F
  have F := Lib.hid F
  have al := v.al i (v.nz hi)
  have PL := Lib.hid (fm_store_ok (p := c) v.pi.ok (q.fr i - 1) j (v.pi.kr al) al (by rw [v.page]; exact hj) u)
  have hlt := adr_lt hm hb hj
  have hw := hm.w2
  have AE := and_page (i * m.page + j) sh (by omega) e2 m.page e1
  rw [d2] at AE
  have p1 := hm.p1
  have p2 := hm.p2
  have HX := Lib.hid hX
  have SH : Hid (∀ w', At (mX p m sh c t (s.store (q.fr i - 1) j u) q) w S w' → At (memA p (m.put i j u)) w S w') := Lib.hid fun w' h' => memA_shut (v.put i j u hi hj) e1 e2 h'
  generalize memA p (m.put i j u) = MM at *
  generalize i * m.page + j = a at *
  obtain ⟨pg, hpg⟩ : ∃ pg, m.page = pg := ⟨_, rfl⟩
  rw [hpg] at AE p1 p2
  have PW : IntKind.i64.wrap ((pg : Int) - 1) = (pg : Int) - 1 := IntWalk.i64_in _ (by omega)
  generalize q.fr i - 1 = f at *
  clear h hX v e1 e2 e3 d1 d2 al hi hb
  go_enter Tryd.func12, Tryd.ntmps12
  go_wp2_with (go_at_call 56; refine F.out.mono ?_; rintro e1 w1 ⟨rfl, n, rfl⟩)
  have H1 := HX.out.drewN n
  generalize w.drewN n = wz at H1 ⊢
  obtain ⟨c0, c1, c2, c3, c4⟩ := mX_hdr H1
  rw [hpg] at c3
  have PQ := Lib.hid (mX_pool PL.out H1.drew)
  clear H1 HX PL hpg
  go_region_with (go_at_call 57; with_reducible refine PQ.out.mono ?_; rintro e1 w1 ⟨rfl, hA⟩)
  all_goals go_wp2
  all_goals go_ret
  all_goals exact ⟨rfl, SH.out _ hA⟩

/-- Map of a page that is not there -/
theorem vm_map_range {p : Nat} {m : MV} (i : Int) (hi : ¬ (0 ≤ i ∧ i < m.pages)) : Ask Tryd.prog 13 #[.pointer (some ⟨p, 0, none⟩), .int .i64 i] (memA p m) (.int .i64 11) := by
  intro w S h
  obtain ⟨sh, c, t, s, q, v, e1, e2, hX⟩ := memA_open (At.refl h)
  obtain ⟨c0, c1, c2, c3, c4⟩ := mX_hdr hX
  have F := mX_task (tab_frame v t i) hX
  rw [show frE m i = 11 by unfold frE; rw [if_neg hi]] at F
  have F := Lib.hid F
  generalize frV m q i = fv at *
  clear h hX v e1 e2 hi
  go_enter Tryd.func13, Tryd.ntmps13
  go_wp2_with (go_at_call 58; refine F.out.mono ?_; rintro e1 w1 ⟨rfl, rfl⟩)
  go_ret
  exact ⟨rfl, rfl⟩

theorem vm_map_mapped {p : Nat} {m : MV} (hm : m.ok) (i : Nat) (hi : m.mp i = true) : Ask Tryd.prog 13 #[.pointer (some ⟨p, 0, none⟩), .int .i64 i] (memA p m) (.int .i64 13) := by
  intro w S h
  obtain ⟨sh, c, t, s, q, v, e1, e2, hX⟩ := memA_open (At.refl h)
  obtain ⟨c0, c1, c2, c3, c4⟩ := mX_hdr hX
  have F := mX_task (tab_frame v t i) hX
  rw [frE_ok (hm.mb i hi) hi] at F
  have F := Lib.hid F
  generalize frV m q i = fv at *
  clear h hX v e1 e2 hi
  go_enter Tryd.func13, Tryd.ntmps13
  go_wp2_with (go_at_call 58; refine F.out.mono ?_; rintro e1 w1 ⟨rfl, rfl⟩)
  go_ret
  exact ⟨rfl, rfl⟩

theorem frE_un {m : MV} {i : Nat} (h1 : i < m.pages) (h2 : m.mp i = false) : frE m (i : Int) = 12 := by
  unfold frE
  rw [if_pos (by omega), Int.toNat_natCast, if_neg (by rw [h2]; simp)]

theorem vm_map_full {p : Nat} {m : MV} (i : Nat) (hb : i < m.pages) (hi : m.mp i = false) (hu : m.used = m.room) : Ask Tryd.prog 13 #[.pointer (some ⟨p, 0, none⟩), .int .i64 i] (memA p m) (.int .i64 14) := by
  intro w S h
  obtain ⟨sh, c, t, s, q, v, e1, e2, hX⟩ := memA_open (At.refl h)
  obtain ⟨c0, c1, c2, c3, c4⟩ := mX_hdr hX
  have F := mX_task (tab_frame v t i) hX
  rw [frE_un hb hi] at F
  have F := Lib.hid F
  have T : Ask Tryd.prog 59 #[.pointer (some ⟨c, 0, none⟩)] (poolA c s) (.tuple #[.int .i64 0, .int .i64 14]) := by
    rcases v.pi.take c with ⟨_, _, T⟩ | ⟨hlt, _⟩
    · exact T
    · have := v.used; have := v.room; omega
  have T := Lib.hid (mX_pask T hX)
  generalize frV m q i = fv at *
  clear h hX v e1 e2 hi
  go_enter Tryd.func13, Tryd.ntmps13
  go_wp2_with (first | (go_at_call 58; refine F.out.mono ?_; rintro e1 w1 ⟨rfl, rfl⟩) | (go_at_call 59; refine T.out.mono ?_; rintro e1 w1 ⟨rfl, rfl⟩))
  go_ret
  exact ⟨rfl, rfl⟩

theorem vm_map_ok {p : Nat} {m : MV} (hm : m.ok) (i : Nat) (hb : i < m.pages) (hi : m.mp i = false) (hu : m.used < m.room) : Tri1 Tryd.prog 13 #[.pointer (some ⟨p, 0, none⟩), .int .i64 i] (memA p m) (.int .i64 0) (memA p (m.map i)) := by
  intro w S h
  obtain ⟨sh, c, t, s, q, v, e1, e2, hX⟩ := memA_open (At.refl h)
  obtain ⟨c0, c1, c2, c3, c4⟩ := mX_hdr hX
  have F := mX_task (tab_frame v t i) hX
  rw [frE_un hb hi] at F
  have F := Lib.hid F
  obtain ⟨f, s1, tk, T⟩ : ∃ k s1, Took2 s k s1 ∧ Tri1 Tryd.prog 59 #[.pointer (some ⟨c, 0, none⟩)] (poolA c s) (.tuple #[.int .i64 (k : Nat), .int .i64 0]) (poolA c s1) := by
    rcases v.pi.take c with ⟨e, e', _⟩ | ⟨_, g⟩
    · have h1 := v.used
      have h2 := v.room
      rw [e] at h1
      simp at h1
      omega
    · exact g
  have T := Lib.hid (mX_pool T hX)
  have kr := tk.kr
  have r2 := v.pi.ok.r2
  have hpq := v.pages
  have htot := v.tot
  have P := PT.pm_put_ok (c := t) v.qo i f (by omega) (v.z hi) (by omega) (by have := hm.r2; omega)
  have P := Lib.hid (fun w' h' => mX_tab (w := w') (w0 := w) (S := S) (p := p) (m := m) (sh := sh) (c := c) (s := s1) P h')
  have SH : Hid (∀ w', At (mX p m sh c t s1 (q.put i (f + 1) 1)) w S w' → At (memA p (m.map i)) w S w') := Lib.hid fun w' h' => memA_shut (v.map hm tk i) e1 e2 h'
  generalize frV m q i = fv at *
  clear h hX v e1 e2 hi tk htot hpq
  go_enter Tryd.func13, Tryd.ntmps13
  go_wp2_with (go_at_call 58; refine F.out.mono ?_; rintro e1 w1 ⟨rfl, rfl⟩)
  go_wp2_with fail
  refine T.out.mono ?_
  rintro e1 w1 ⟨rfl, hA⟩
  obtain ⟨d0, d1, d2, d3, d4⟩ := mX_hdr hA
  have PP := Lib.hid (P.out _ hA)
  clear hA P T F c0 c1 c2 c3 c4
  go_wp2_with (go_at_call 60; refine PP.out.mono ?_; rintro e1 w2 ⟨rfl, hB⟩)
  go_ret
  exact ⟨rfl, SH.out _ hB⟩

theorem pm_drop_badV {c : Nat} {s : QS} (hs : s.ok) (p : Int) (hp : ¬ (0 ≤ p ∧ p < s.pages)) : Ask Tryd.prog 61 #[.pointer (some ⟨c, 0, none⟩), .int .i64 p] (pmA c s) (.tuple #[.int .i64 0, .int .i64 11]) := by
  intro w S h
  have FR := Lib.hid (PT.pm_frame_bad hs p (by omega) w S h)
  clear h hs hp
  go_enter Tryd.func61, Tryd.ntmps61
  go_wp2_with (go_at_call 58; refine FR.out.mono ?_; rintro e1 w1 ⟨rfl, rfl⟩)
  go_ret2
  exact ⟨rfl, rfl⟩

theorem vm_unmap_bad {p : Nat} {m : MV} (i : Int) (h0 : frE m i ≠ 0) : Ask Tryd.prog 14 #[.pointer (some ⟨p, 0, none⟩), .int .i64 i] (memA p m) (.int .i64 (frE m i)) := by
  intro w S h
  obtain ⟨sh, c, t, s, q, v, e1, e2, hX⟩ := memA_open (At.refl h)
  obtain ⟨c0, c1, c2, c3, c4⟩ := mX_hdr hX
  have D : Ask Tryd.prog 61 #[.pointer (some ⟨t, 0, none⟩), .int .i64 i] (pmA t q) (.tuple #[.int .i64 0, .int .i64 (frE m i)]) := by
    have hp := v.pages
    by_cases hr : 0 ≤ i ∧ i < m.pages
    · obtain ⟨k, rfl⟩ := Int.eq_ofNat_of_zero_le hr.1
      have hz : m.mp k = false := by
        cases e : m.mp k with
        | false => rfl
        | true => exact absurd (frE_ok (by omega) e) h0
      rw [frE_un (by omega) hz]
      exact PT.pm_drop_none v.qo k (by omega) (v.z hz)
    · rw [show frE m i = 11 by unfold frE; rw [if_neg hr]]
      exact pm_drop_badV v.qo i (by omega)
  have D := Lib.hid (mX_task D hX)
  generalize frE m i = fe at *
  clear h hX v e1 e2
  go_enter Tryd.func14, Tryd.ntmps14
  go_wp2_with (go_at_call 61; refine D.out.mono ?_; rintro e1 w1 ⟨rfl, rfl⟩)
  go_ret
  exact ⟨rfl, rfl⟩

theorem vm_unmap_ok {p : Nat} {m : MV} (hm : m.ok) (i : Nat) (hi : m.mp i = true) : Tri1 Tryd.prog 14 #[.pointer (some ⟨p, 0, none⟩), .int .i64 i] (memA p m) (.int .i64 0) (memA p (m.unmap i)) := by
  intro w S h
  obtain ⟨sh, c, t, s, q, v, e1, e2, hX⟩ := memA_open (At.refl h)
  obtain ⟨c0, c1, c2, c3, c4⟩ := mX_hdr hX
  have hb := hm.mb i hi
  have hpq := v.pages
  have htot := v.tot
  have D := PT.pm_drop_ok (c := t) v.qo i (by omega) (v.nz hi) (by omega)
  rw [show (q.fr i : Int) - 1 = ((q.fr i - 1 : Nat) : Int) by have := v.nz hi; omega] at D
  have D := Lib.hid (mX_tab D hX)
  have al := v.al i (v.nz hi)
  have G := fm_give_ok (p := c) v.pi.ok (q.fr i - 1) (v.pi.kr al) al
  have G := Lib.hid (fun w' h' => mX_pool (w := w') (w0 := w) (S := S) (p := p) (m := m) (sh := sh) (t := t) (q := q.put i 0 (-1)) G h')
  have SH : Hid (∀ w', At (mX p m sh c t (s.give (q.fr i - 1)) (q.put i 0 (-1))) w S w' → At (memA p (m.unmap i)) w S w') := Lib.hid fun w' h' => memA_shut (v.unmap hm i hi) e1 e2 h'
  generalize q.fr i - 1 = f at *
  clear h hX v e1 e2 hi htot hpq al
  go_enter Tryd.func14, Tryd.ntmps14
  go_wp2_with fail
  refine D.out.mono ?_
  rintro e1 w1 ⟨rfl, hA⟩
  obtain ⟨d0, d1, d2, d3, d4⟩ := mX_hdr hA
  have GG := Lib.hid (G.out _ hA)
  clear hA G D c0 c1 c2 c3 c4
  go_wp2_with (go_at_call 62; refine GG.out.mono ?_; rintro e1 w2 ⟨rfl, hB⟩)
  go_ret
  exact ⟨rfl, SH.out _ hB⟩

theorem pm_move_rangeV {c : Nat} {s : QS} (hs : s.ok) (p q : Int) (hp : ¬ ((0 ≤ p ∧ p < s.pages) ∧ (0 ≤ q ∧ q < s.pages))) : Ask Tryd.prog 63 #[.pointer (some ⟨c, 0, none⟩), .int .i64 p, .int .i64 q] (pmA c s) (.int .i64 11) := by
  intro w S h
  by_cases h1 : 0 ≤ p ∧ p < s.pages
  · obtain ⟨k, rfl⟩ := Int.eq_ofNat_of_zero_le h1.1
    have CK := Lib.hid (PT.pm_check_ok hs k (by omega) w S h)
    have CQ := Lib.hid (PT.pm_check_bad hs q (by omega) w S h)
    clear h hs hp h1
    go_enter Tryd.func63, Tryd.ntmps63
    go_wp2_with fail
    refine CK.out.mono ?_
    rintro e1 w1 ⟨rfl, rfl⟩
    go_wp2_with fail
    refine CQ.out.mono ?_
    rintro e1 w1 ⟨rfl, rfl⟩
    go_wp2
    go_ret
    exact ⟨rfl, rfl⟩
  · have CK := Lib.hid (PT.pm_check_bad hs p (by omega) w S h)
    clear h hs hp h1
    go_enter Tryd.func63, Tryd.ntmps63
    go_wp2_with fail
    refine CK.out.mono ?_
    rintro e1 w1 ⟨rfl, rfl⟩
    go_wp2
    go_ret
    exact ⟨rfl, rfl⟩

/-- Move's answer -/
def mvE (m : MV) (i j : Int) : Int := if (0 ≤ i ∧ i < m.pages) ∧ (0 ≤ j ∧ j < m.pages) then (if m.mp i.toNat = true then (if m.mp j.toNat = true then 13 else 0) else 12) else 11

theorem vm_move_bad {p : Nat} {m : MV} (i j : Int) (h0 : mvE m i j ≠ 0) : Ask Tryd.prog 15 #[.pointer (some ⟨p, 0, none⟩), .int .i64 i, .int .i64 j] (memA p m) (.int .i64 (mvE m i j)) := by
  intro w S h
  obtain ⟨sh, c, t, s, q, v, e1, e2, hX⟩ := memA_open (At.refl h)
  obtain ⟨c0, c1, c2, c3, c4⟩ := mX_hdr hX
  have D : Ask Tryd.prog 63 #[.pointer (some ⟨t, 0, none⟩), .int .i64 i, .int .i64 j] (pmA t q) (.int .i64 (mvE m i j)) := by
    have hp := v.pages
    unfold mvE at h0 ⊢
    by_cases hr : (0 ≤ i ∧ i < m.pages) ∧ (0 ≤ j ∧ j < m.pages)
    · obtain ⟨k, rfl⟩ := Int.eq_ofNat_of_zero_le hr.1.1
      obtain ⟨l, rfl⟩ := Int.eq_ofNat_of_zero_le hr.2.1
      rw [if_pos hr, Int.toNat_natCast, Int.toNat_natCast] at h0 ⊢
      by_cases hz : m.mp k = true
      · by_cases hy : m.mp l = true
        · rw [if_pos hz, if_pos hy]
          exact PT.pm_move_mapped v.qo k l (by omega) (by omega) (v.nz hz) (v.nz hy)
        · rw [if_pos hz, if_neg hy] at h0; exact absurd rfl h0
      · rw [if_neg hz]
        exact PT.pm_move_un v.qo k l (by omega) (by omega) (v.z (by simpa using hz))
    · rw [if_neg hr]
      exact pm_move_rangeV v.qo i j (by rw [hp]; exact hr)
  have D := Lib.hid (mX_task D hX)
  generalize mvE m i j = fe at *
  clear h hX v e1 e2 h0
  go_enter Tryd.func15, Tryd.ntmps15
  go_wp2_with (go_at_call 63; refine D.out.mono ?_; rintro e1 w1 ⟨rfl, rfl⟩)
  go_ret
  exact ⟨rfl, rfl⟩

theorem vm_move_ok {p : Nat} {m : MV} (hm : m.ok) (i j : Nat) (hi : m.mp i = true) (hj : m.mp j = false) (hjb : j < m.pages) : Tri1 Tryd.prog 15 #[.pointer (some ⟨p, 0, none⟩), .int .i64 i, .int .i64 j] (memA p m) (.int .i64 0) (memA p (m.move i j)) := by
  intro w S h
  obtain ⟨sh, c, t, s, q, v, e1, e2, hX⟩ := memA_open (At.refl h)
  obtain ⟨c0, c1, c2, c3, c4⟩ := mX_hdr hX
  have hib := hm.mb i hi
  have hpq := v.pages
  have htot := v.tot
  have hu := hm.ur
  have hr2 := hm.r2
  have D := Lib.hid (mX_tab (PT.pm_move_ok (c := t) v.qo i j (by omega) (by omega) (v.nz hi) (v.z hj) (by omega) (by omega)) hX)
  have SH : Hid (∀ w', At (mX p m sh c t s ((q.put i 0 (-1)).put j (q.fr i) 1)) w S w' → At (memA p (m.move i j)) w S w') := Lib.hid fun w' h' => memA_shut (v.move i j hi hj) e1 e2 h'
  clear h hX v e1 e2 hi hj htot hpq hu hr2
  go_enter Tryd.func15, Tryd.ntmps15
  go_wp2_with (go_at_call 63; refine D.out.mono ?_; rintro e1 w1 ⟨rfl, hA⟩)
  go_ret
  exact ⟨rfl, SH.out _ hA⟩

end Go.Proofs.YtflkbefiopnigabDoor.VM
