/- The law BitvecOnes, walked. -/
import Derived.Test.YtflkbefiopnigacDoorBvOb
import Derived.Test.YtflkbefiopnigacDoorBvZ
import Derived.Test.YtflkbefiopnigacDoorRfR
namespace Go.Proofs.YtflkbefiopnigacDoor.BV
open Go.ChangeShapes Go.WideShapes Go.ChangeAt Go.RowKit Go.Shelf

attribute [local go_sem] Oper.semAt_some

/-- what lies beside the vector and the row while acts are done -/
def prA (T R X V M c q n : Nat) (tv : Value) (stop : Int) : Asn := blk T (.cells #[tv, .int .u8 stop] 42 (0, 0)) * (blk R (.cells #[.bool false] 4 (0, 0)) * (blk X (.cells #[tv] 22 (0, 0)) * (blk V (.cells #[.pointer (some ⟨c, 0, none⟩)] 23 (0, 0)) * blk M (.cells #[.slice (some ⟨q, 0, none⟩) n n] 29 (0, 0)))))

theorem pr_cells {w0 w : World} {S : Nat → Prop} {T R X V M c q n : Nat} {tv : Value} {stop : Int} {s : Bits} {C : Asn} (h : At (plA c q s * (prA T R X V M c q n tv stop * C)) w0 S w) : w.cell? ⟨V, 0, none⟩ = some (.pointer (some ⟨c, 0, none⟩)) ∧ w.cell? ⟨M, 0, none⟩ = some (.slice (some ⟨q, 0, none⟩) n n) :=
  ⟨(cell1 (At.blkIs (A := plA c q s * (blk T (.cells #[tv, .int .u8 stop] 42 (0, 0)) * (blk R (.cells #[.bool false] 4 (0, 0)) * (blk X (.cells #[tv] 22 (0, 0)) * (blk M (.cells #[.slice (some ⟨q, 0, none⟩) n n] 29 (0, 0)) * C))))) (h.re (by unfold prA; ac_rfl)))).1,
   (cell1 (At.blkIs (A := plA c q s * (blk T (.cells #[tv, .int .u8 stop] 42 (0, 0)) * (blk R (.cells #[.bool false] 4 (0, 0)) * (blk X (.cells #[tv] 22 (0, 0)) * (blk V (.cells #[.pointer (some ⟨c, 0, none⟩)] 23 (0, 0)) * C))))) (h.re (by unfold prA; ac_rfl)))).1⟩

theorem pr_start {W w1 : World} {T R X c n : Nat} {tv : Value} {stop : Int} (h : At (bvA c (newB n) * (blk X (.cells #[tv] 22 (0, 0)) * (blk R (.cells #[.bool false] 4 (0, 0)) * (blk T (.cells #[tv, .int .u8 stop] 42 (0, 0)) * pur True)))) W (fun _ => False) w1) :
    At (plA c (w1.heap.size + 1) (newB n) * (prA T R X w1.heap.size (w1.heap.size + 1 + 1) c (w1.heap.size + 1) n tv stop * pur True)) W (fun _ => False)
      (((w1.alloc (.cells #[.pointer (some ⟨c, 0, none⟩)] 23)).alloc (.cells (madeCells #[.bool false] n) 4)).alloc (.cells #[.slice (some ⟨w1.heap.size + 1, 0, none⟩) n n] 29)) := by
  have h1 := h.alloc (.cells #[.pointer (some ⟨c, 0, none⟩)] 23)
  have h2 := lA_made n h1
  have h3 := h2.alloc (.cells #[.slice (some ⟨w1.heap.size + 1, 0, none⟩) n n] 29)
  simp only [World.size_alloc] at h3
  exact h3.re (by unfold plA prA; ac_rfl)

theorem on_start {W w : World} {T R X V M c q n : Nat} {tv : Value} {stop : Int} {s : Bits} (h : At (plA c q s * (prA T R X V M c q n tv stop * pur True)) W (fun _ => False) w) :
    At (onB ⟨T, X, V, M, w.heap.size, w.heap.size + 1, R, w.heap.size + 1 + 1, c, q, n, tv, stop⟩ s (-1) 0) W (fun _ => False)
      (((w.alloc (.cells #[.int .i64 (-1)] 3)).alloc (.cells #[.int .i64 0] 3)).alloc (.cells #[.pointer (some ⟨c, 0, none⟩)] 23)) := by
  have h1 := ((h.alloc (.cells #[.int .i64 (-1)] 3)).alloc (.cells #[.int .i64 0] 3)).alloc (.cells #[.pointer (some ⟨c, 0, none⟩)] 23)
  simp only [World.size_alloc] at h1
  exact At.nounit (h1.re (by unfold onB fxA prA; dsimp only; ac_rfl))

theorem mark_end2 {W w : World} {R D : Nat} {v : Value} {t : TypeId} (h : At (blk R (.cells #[v] t (0, 0)) * blk D (.deferred (some []))) W (fun _ => False) w) :
    w.heap[D]? = some (.deferred (some [])) ∧ (w.putObj D (.deferred none)).cell? ⟨R, 0, none⟩ = some v ∧ Below W.heap.size W (w.putObj D (.deferred none)) := by
  have h2 : At (blk D (.deferred (some [])) * blk R (.cells #[v] t (0, 0))) W (fun _ => False) w := h.re (Asn.star_comm _ _)
  have h3 := h2.putObj (.deferred none)
  exact ⟨h2.blkIs, (cell1 (At.blkIs (A := blk D (.deferred none)) (h3.re (Asn.star_comm _ _)))).1, h3.below⟩

set_option maxRecDepth 100000 in
set_option maxHeartbeats 8000000 in
theorem ones_in {F : Fence} (hW : Wd F) (n0 : Nat) (hn0 : n0 ≤ 255) (a b : Option Addr) (len cap len2 cap2 : Nat) (stop : Int) (F1 F2 : Nat → Nat → Int) (hl : len ≤ 100) (hl2 : len2 ≤ 100) (hcl : len ≤ cap) (hcm : cap ≤ 9223372036854775807) (hcl2 : len2 ≤ cap2) (hcm2 : cap2 ≤ 9223372036854775807) (hst : 0 ≤ stop ∧ stop ≤ 255) (W : World) (hT : Tab W) (hr1 : ActsAt W a len F1) (hr2 : ActsAt W b len2 F2) :
    CallsIn F 6 Tryd.prog 4 #[.int .u8 n0, .slice a len cap, .agg #[.slice b len2 cap2, .int .u8 stop]] W fun e W' => e = .returned (.bool true) ∧ Below W.heap.size W W' := by
  have hro := hW.ro
  have hf1 := hW.fn 14
  have hf2 := hW.fn 12
  have hf3 := hW.fn 9
  have hf4 := hW.fn 24
  have hf5 := hW.fn 11
  have cell := Lib.hid hr1
  have cell2 := Lib.hid hr2
  have HT := Lib.hid hT
  obtain ⟨n, hn⟩ : ∃ n, n0 + 1 = n := ⟨_, rfl⟩
  have hnI : (n0 : Int) + 1 = (n : Int) := by omega
  have hn1 : 1 ≤ n := by omega
  have hn2 : n ≤ 256 := by omega
  have MK := fun w => run_make_row' (P := Tryd.prog) 29 4 (.bool false) 1 Tryd.underlying29 infBool rfl .i64 .i64 n (by omega) (by omega) w
  have A0 := (((At.emp W).alloc (.cells #[.slice b len2 cap2, .int .u8 stop] 42)).alloc (.cells #[.bool false] 4)).alloc (.cells #[.slice b len2 cap2] 22)
  simp only [World.size_alloc] at A0
  have N := Lib.hid (At.tri (At.pure_in trivial A0) (bv_new_ok n hn1 (by omega)))
  have START := Lib.hid (fun c w1 h => pr_start (W := W) (w1 := w1) (T := W.heap.size) (R := W.heap.size + 1) (X := W.heap.size + 1 + 1) (c := c) (n := n) (tv := .slice b len2 cap2) (stop := stop) h)
  have NB := Lib.hid (And.intro (newB_ok n hn1 (by omega)) (show (newB n).n = n from rfl))
  clear A0
  clear hr1 hr2 hT
  refine callsIn_of_wp_marks Tryd.func4 rfl (hW.fn _) ?_ hro
  simp only [Tryd.ntmps4, List.size_toArray, List.length_cons, List.length_nil, Nat.reduceAdd, Nat.reduceSub, Array.replicate_succ, Array.replicate_zero, List.push_toArray, List.append_toArray, List.nil_append, List.cons_append]
  gi_wp2_with fail
  refine (hW.cal N.out).mono ?_
  rintro e w1 ⟨c, rfl, a1⟩
  have A1 := Lib.hid (START.out c w1 a1)
  clear a1 N START
  obtain ⟨T, hTT⟩ : ∃ T, W.heap.size = T := ⟨_, rfl⟩
  obtain ⟨V, hVV⟩ : ∃ V, w1.heap.size = V := ⟨_, rfl⟩
  rw [hTT, hVV] at A1
  rw [hTT]
  gi_wp2_with fail
  try rw [hVV]
  clear hVV
  have A2 : Hid (∃ s : Bits, s.ok ∧ s.n = n ∧ At (plA c (V + 1) s * (prA T (T + 1) (T + 1 + 1) V (V + 1 + 1) c (V + 1) n (.slice b len2 cap2) stop * pur True)) W (fun _ => False) (((w1.alloc (.cells #[.pointer (some ⟨c, 0, none⟩)] 23)).alloc (.cells (madeCells #[.bool false] n) 4)).alloc (.cells #[.slice (some ⟨V + 1, 0, none⟩) n n] 29))) := Lib.hid ⟨_, NB.out.1, NB.out.2, A1.out⟩
  clear A1 NB MK
  obtain ⟨w2, hw2⟩ : ∃ w2, (((w1.alloc (.cells #[.pointer (some ⟨c, 0, none⟩)] 23)).alloc (.cells (madeCells #[.bool false] n) 4)).alloc (.cells #[.slice (some ⟨V + 1, 0, none⟩) n n] 29)) = w2 := ⟨_, rfl⟩
  rw [hw2] at A2 ⊢
  clear hw2
  gi_loopw [46] (fun i wr => ∃ (k : Nat), k ≤ len ∧ i = .int .i64 k ∧ Hid (∃ s : Bits, s.ok ∧ s.n = n ∧ At (plA c (V + 1) s * (prA T (T + 1) (T + 1 + 1) V (V + 1 + 1) c (V + 1) n (.slice b len2 cap2) stop * pur True)) W (fun _ => False) wr)) (fun i _ => len - (intOf i).toNat)
  case atStart => exact ⟨0, Nat.zero_le _, rfl, A2⟩
  case round =>
    clear A2
    obtain ⟨k, hk, rfl, HR⟩ := hrel
    obtain ⟨v, hv, hvn, hA⟩ := HR.out
    clear HR
    by_cases hlt : k < len
    · obtain ⟨d, off, rfl, hc0, hc1, hc2, b0, b1, b2⟩ := cell.out wr hA.below k hlt
      have hltI : (k : Int) < (len : Int) := by omega
      generalize F1 k 0 = f0 at *
      generalize F1 k 1 = f1 at *
      generalize F1 k 2 = f2 at *
      have A2 := box_pair f0 f1 f2 hA
      obtain ⟨Y, hY⟩ : ∃ Y, wr.heap.size = Y := ⟨_, rfl⟩
      rw [hY] at A2
      have y012 := act_cells (A := plA c (V + 1) v * (prA T (T + 1) (T + 1 + 1) V (V + 1 + 1) c (V + 1) n (.slice b len2 cap2) stop * pur True)) (A2.re (by ac_rfl))
      obtain ⟨y0, y1, y2⟩ := y012
      obtain ⟨v0, m0⟩ := pr_cells (C := pur True * blk Y _) (A2.re (by ac_rfl))
      have C1 := Lib.hid (hW.cal (n := 5) (pair_done hv hvn f0 f1 f2 b0 b1 Y A2))
      clear hA A2 hv hvn v
      gi_wp2_with fail
      refine C1.out.mono ?_
      rintro e w3 ⟨rfl, hA⟩
      have FF := Lib.hid hA
      clear C1 y0 y1 y2 hA
      gi_wp2_with fail
      exact ⟨⟨k + 1, by omega, by go_num, FF⟩, by simp [intOf]; omega⟩
    · obtain rfl : k = len := by omega
      have hltI : ¬ (k : Int) < (k : Int) := by omega
      have A4 := (hA.alloc (.cells #[.int .i64 (-1)] 3)).alloc (.cells #[.int .i64 0] 3)
      obtain ⟨v0, _⟩ := pr_cells (C := pur True * (blk wr.heap.size (.cells #[.int .i64 (-1)] 3 (0, 0)) * blk (wr.alloc (.cells #[.int .i64 (-1)] 3)).heap.size (.cells #[.int .i64 0] 3 (0, 0)))) (A4.re (by ac_rfl))
      clear A4
      have A3 := Lib.hid (on_start hA)
      have HV := Lib.hid (And.intro hv hvn)
      obtain ⟨Z, hZ⟩ : ∃ Z, wr.heap.size = Z := ⟨_, rfl⟩
      rw [hZ] at A3
      clear hA cell hv hvn
      gi_wp2_with (gi_at_call 24; refine (hW.cal (bv_ones _ _)).mono ?_; rintro e1 w3 ⟨rfl, rfl⟩)
      obtain ⟨w3, hw3⟩ : ∃ w3, (((wr.alloc (.cells #[.int .i64 (-1)] 3)).alloc (.cells #[.int .i64 0] 3)).alloc (.cells #[.pointer (some ⟨c, 0, none⟩)] 23)) = w3 := ⟨_, rfl⟩
      rw [hw3] at A3 ⊢
      try rw [hZ]
      obtain ⟨x, hx⟩ : ∃ x : Bx, (⟨T, T + 1 + 1, V, V + 1 + 1, Z, Z + 1, T + 1, Z + 1 + 1, c, V + 1, n, .slice b len2 cap2, stop⟩ : Bx) = x := ⟨_, rfl⟩
      have A5 : At (onA x v []) W (fun _ => False) w3 := At.nounit (onA_mk ⟨HV.out.1, by rw [← hx]; exact HV.out.2, by simp [stp], by simp [stp]⟩ (by rw [← hx]; exact A3.out.unit))
      have XT : x.T = T := by rw [← hx]
      have XX : x.X = T + 1 + 1 := by rw [← hx]
      have XV : x.V = V := by rw [← hx]
      have XM : x.M = V + 1 + 1 := by rw [← hx]
      have XL : x.L = Z := by rw [← hx]
      have XK : x.K = Z + 1 := by rw [← hx]
      have XR : x.R = T + 1 := by rw [← hx]
      have XB : x.B = Z + 1 + 1 := by rw [← hx]
      have Xc : x.c = c := by rw [← hx]
      have Xq : x.q = V + 1 := by rw [← hx]
      have Xn : x.n = n := by rw [← hx]
      have Xt : x.tv = .slice b len2 cap2 := by rw [← hx]
      have Xs : x.stop = stop := by rw [← hx]
      clear hw3 hx A3 HV v0 hZ
      rw [← XX, ← XR, ← XT, ← XM, ← Xq, ← XV, ← XB, ← XK, ← XL, ← Xc]
      have TV := Lib.hid Xt
      have hxn : x.n ≤ 256 := by omega
      have hxs : 0 ≤ x.stop ∧ x.stop ≤ 255 := by omega
      clear Xt Xn Xs
      have HX := Lib.hid (And.intro XT (And.intro XX (And.intro XV (And.intro XM (And.intro XL (And.intro XK (And.intro XR (And.intro XB (And.intro Xc Xq)))))))))
      clear XT XX XV XM XL XK XR XB Xc Xq
      refine wp_rangeE hro (by omega) (gf := 49) (lb := #[.pointer (some ⟨x.B, 0, none⟩)]) rfl (hW.fn _) (enters_of Tryd.func49 (by kernel_rfl) rfl) (ones_iter hW 5 x.B x.c x.n (by omega) (by omega)) (fun _ => rfl) (w0 := W) (S0 := fun _ => False) (onA x) (onX x) v A5 (fun s pre C w h => onA_rd HT.out h) ?ab ?done ?stop
      case ab =>
        apply Exists.intro
        refine ⟨?_, ?_⟩
        focus
          intro l i w K hK
          gi_wp2
          exact hK
        intro l s pre i C w hA hok
        obtain ⟨⟨p1, p2, p3, p4⟩, hB⟩ := onA_of hA
        obtain ⟨g1, g2, _, _⟩ := nxF_lt hok
        obtain ⟨k1, b1, F1', N1⟩ := on_look p1 p2 (stp pre) hB
        rcases F1' with ⟨rfl, e1⟩ | ⟨rfl, e1⟩
        case inr => rw [hok] at e1; cases e1
        obtain rfl : i = k1 := by rw [hok] at e1; cases e1; rfl
        have q := on_cells hB
        have hB2 := on_setL hB (i : Int)
        have q2 := on_cells hB2
        have FIN : Hid (∀ w s', s'.ok → s'.n = x.n → ∀ k2 : Int, k2 = (pre.length : Int) + 1 → At (onB x s' (i : Int) k2 * C) W (fun _ => False) w → ∃ s, At (onA x s (pre ++ [i]) * C) W (fun _ => False) w) := Lib.hid fun w s' h1 h2 k2 hk h => ⟨s', onA_mk ⟨h1, h2, by rw [stp_snoc, List.length_append]; simp; omega, by rw [stp_snoc]; omega⟩ (h.re (by rw [hk, stp_snoc]; simp))⟩
        have RET : Hid (∀ w s' lv kv, At (onB x s' lv kv * C) W (fun _ => False) w → At (onX x .ret * C) W (fun _ => False) (w.setCell ⟨x.R, 0, none⟩ (.bool true))) := Lib.hid fun w s' lv kv h => on_setR h _
        have hi : (i : Int) < 256 := by omega
        have hkk : (pre.length : Int) < 256 := by omega
        have hkN : pre.length < 256 := by omega
        have hm : (stp pre : Int) ≤ 256 := by omega
        have WL : wrap64 ((stp pre : Int) - 1 + 1) = (stp pre : Int) := by unfold wrap64; omega
        have N1 := Lib.hid (hW.calr l (n := 6 - 1 - 1 - 1) N1)
        have H2 := Lib.hid hB2
        have OK := Lib.hid (And.intro p1 p2)
        clear hA hok e1 hB hB2 p1 p2 p3 p4 g1 g2
        generalize stp pre = m at *
        generalize pre.length = kk at *
        have c1 := q.M
        have c2 := q.L
        have c3 := q.Lf
        have d1 := q2.M
        have d2 := q2.K
        have d3 := q2.Kf
        have d4 := q2.X
        have d5 := q2.V
        have d6 := q2.T1
        rw [TV.out] at d4
        clear q q2
        by_cases hlt : kk < len2
        · have hltI : (kk : Int) < (len2 : Int) := by omega
          obtain ⟨d, off, hb, e0, e1, e2, _⟩ := cell2.out _ H2.out.below kk hlt
          subst hb
          obtain ⟨f0, hf0⟩ : ∃ f0, F2 kk 0 = f0 := ⟨_, rfl⟩
          obtain ⟨f1, hf1'⟩ : ∃ f1, F2 kk 1 = f1 := ⟨_, rfl⟩
          obtain ⟨f2, hf2'⟩ : ∃ f2, F2 kk 2 = f2 := ⟨_, rfl⟩
          have QS : Hid (∀ wx, (∃ s', s'.ok ∧ s'.n = x.n ∧ At (onB x s' (i : Int) kk * C) W (fun _ => False) wx) → wx.cell? ⟨x.V, 0, none⟩ = some (.pointer (some ⟨x.c, 0, none⟩)) ∧ wx.cell? ⟨x.M, 0, none⟩ = some (.slice (some ⟨x.q, 0, none⟩) x.n x.n) ∧ wx.cell? ⟨x.X, 0, none⟩ = some (.slice (some ⟨d, off, none⟩) len2 cap2) ∧ wx.cell? ⟨x.K, 0, none⟩ = some (.int .i64 kk) ∧ wx.cell? ⟨d, off + kk * 3, none⟩ = some (.int .u8 f0) ∧ wx.cell? ⟨d, off + kk * 3 + 1, none⟩ = some (.int .i64 f1) ∧ wx.cell? ⟨d, off + kk * 3 + 2, none⟩ = some (.int .i64 f2) ∧
              CallsIn F (6 - 1 - 1 - 1) Tryd.prog 12 #[.pointer (some ⟨x.c, 0, none⟩), .slice (some ⟨x.q, 0, none⟩) x.n x.n, .agg #[.int .u8 f0, .int .i64 f1, .int .i64 f2]] wx fun e w' => e = .returned (.bool true) ∧ ∃ s', s'.ok ∧ s'.n = x.n ∧ At (onB x s' (i : Int) kk * C) W (fun _ => False) w') := Lib.hid (by
            rintro wx ⟨s', o1, o2, h⟩
            have q := on_cells h
            obtain ⟨d', off', hb, e0, e1, e2, b0, b1, _⟩ := cell2.out _ h.below kk hlt
            rw [hf0] at e0 b0
            rw [hf1'] at e1 b1
            rw [hf2'] at e2
            cases hb
            exact ⟨q.V, q.M, by rw [q.X, TV.out], q.K, e0, e1, e2, hW.cal (on_done (f2 := f2) o1 o2 b0 b1 h)⟩)
          have HC := Lib.hid (⟨s, OK.out.1, OK.out.2, H2.out.drew⟩ : ∃ s', s'.ok ∧ s'.n = x.n ∧ At (onB x s' (i : Int) kk * C) W (fun _ => False) (w.setCell ⟨x.L, 0, none⟩ (.int .i64 i)).drew)
          have CEL : Hid (∀ wx s', At (onB x s' (i : Int) kk * C) W (fun _ => False) wx → wx.cell? ⟨x.K, 0, none⟩ = some (.int .i64 kk) ∧ wx.frozen? ⟨x.K, 0, none⟩ = false) := Lib.hid fun wx s' h => ⟨(on_cells h).K, (on_cells h).Kf⟩
          clear H2 OK cell2 e0 e1 e2 hf0 hf1' hf2'
          gi_wp2_with (gi_at_call 14; with_reducible refine N1.out.mono ?_; rintro e3 w3 ⟨rfl, rfl⟩)
          refine region_round (fun w' => ∃ s', s'.ok ∧ s'.n = x.n ∧ At (onB x s' (i : Int) kk * C) W (fun _ => False) w') hro (by kernel_rfl) (by kernel_rfl) (noDefer_of (by kernel_rfl)) HC.out ?_
          clear c1 c2 c3 d1 d2 d3 d4 d5 d6
          repeat (first | gi_big_quiet_skip | (gi_big_quiet_want; first | (gi_big_quiet_op; go_big_quiet_on) | (apply quietIn_upon; (focus (intro wx hx; obtain ⟨d1, d2, d3, d4, d5, d6, d7, dn⟩ := QS.out wx hx; go_simp; first | rfl | exact dn)); (try simp only [Act.put, List.setIfInBounds_toArray, List.set_cons_zero, List.set_cons_succ]); go_big_quiet_on)))
          refine wpQuietIn_nil ?_
          rintro wz ⟨s3, ok3, n3, h3⟩
          clear QS HC CEL N1
          have hB4 := on_setK h3 ((kk : Int) + 1)
          have q3 := on_cells h3
          have q4 := on_cells hB4
          have g1 := q3.K
          have g2 := q3.Kf
          have g3 := q4.K
          have g4 := q4.T1
          have FF := Lib.hid (FIN.out _ s3 ok3 n3 _ rfl hB4)
          clear h3 q3 q4 FIN ok3 n3
          by_cases hs : x.stop = (kk : Int) + 1
          · have LV := Lib.hid (hW.calr l (n := 6 - 1 - 1 - 1) (blives _ (At.tabB HT.out hB4)))
            have H4 := Lib.hid hB4
            clear hB4
            gi_wp2_with (gi_at_call 11; with_reducible refine LV.out.mono ?_; rintro e4 w4 ⟨rfl, hb⟩; have h5 := At.later H4.out hb; have q5 := on_cells h5; have g5 := q5.R; have g6 := q5.Rf; have RR := Lib.hid (RET.out _ _ _ _ h5); clear q5 h5 hb)
            exact RR.out
          · have hs' : ¬ (kk : Int) + 1 = x.stop := fun e => hs e.symm
            clear hB4 hs
            gi_wp2_with fail
            exact FF.out
        · have hltI : ¬ (kk : Int) < (len2 : Int) := by omega
          have h3 := H2.out
          obtain ⟨s3, hs3⟩ : ∃ s3, s = s3 := ⟨_, rfl⟩
          rw [hs3] at h3 OK
          have ok3 := OK.out.1
          have n3 := OK.out.2
          have hB4 := on_setK h3 ((kk : Int) + 1)
          have q4 := on_cells hB4
          have g3 := q4.K
          have g4 := q4.T1
          have FF := Lib.hid (FIN.out _ s3 ok3 n3 _ rfl hB4)
          clear h3 q4 FIN ok3 n3 H2 OK hs3
          by_cases hs : x.stop = (kk : Int) + 1
          · have LV := Lib.hid (hW.calr l (n := 6 - 1 - 1 - 1) (blives _ (At.tabB HT.out hB4)))
            have H4 := Lib.hid hB4
            clear hB4
            gi_wp2_with (first | (gi_at_call 14; with_reducible refine N1.out.mono ?_; rintro e3 w3 ⟨rfl, rfl⟩) | (gi_at_call 11; with_reducible refine LV.out.mono ?_; rintro e4 w4 ⟨rfl, hb⟩; have h5 := At.later H4.out hb; have q5 := on_cells h5; have g5 := q5.R; have g6 := q5.Rf; have RR := Lib.hid (RET.out _ _ _ _ h5); clear q5 h5 hb))
            exact RR.out
          · have hs' : ¬ (kk : Int) + 1 = x.stop := fun e => hs e.symm
            clear hB4 hs
            gi_wp2_with (gi_at_call 14; with_reducible refine N1.out.mono ?_; rintro e3 w3 ⟨rfl, rfl⟩)
            exact FF.out
      case stop =>
        intro D c w hA
        cases c
        case ret =>
          have hM := Lib.hid (mark_end2 hA)
          clear hA A5
          gi_wp2
          obtain ⟨hK, hC, hB⟩ := hM.out
          refine ⟨by simp, .inl ⟨_, _, rfl, run_takeDeferred hK, ?_⟩⟩
          refine ⟨.bool true, ?_, rfl, hB⟩
          simp [results, Tryd.f4, go_sem, hC]
        all_goals exact (At.purIs hA).elim
      case done =>
        intro D s pre w hd hA
        obtain ⟨⟨p1, p2, p3, p4⟩, hB⟩ := onA_of hA
        obtain ⟨k1, b1, F1', N1⟩ := on_look p1 p2 (stp pre) hB
        rcases F1' with ⟨rfl, e1⟩ | ⟨rfl, _⟩
        case inl => rw [hd] at e1; cases e1
        have q := on_cells hB
        have c1 := q.M
        have c2 := q.L
        have hm : (stp pre : Int) ≤ 256 := by omega
        have WL : wrap64 ((stp pre : Int) - 1 + 1) = (stp pre : Int) := by unfold wrap64; omega
        have N1 := Lib.hid (hW.cal (n := 6 - 1) N1)
        have LV := Lib.hid (hW.cal (n := 6 - 1) (blives _ (At.tabB HT.out hB)))
        have H2 := Lib.hid hB
        clear hA hd hB q A5 p1 p2 p3 p4
        generalize stp pre = m at *
        generalize pre.length = kk at *
        gi_wp2_with (first | (gi_at_call 14; with_reducible refine N1.out.mono ?_; rintro e3 w3 ⟨rfl, rfl⟩) | (gi_at_call 11; with_reducible refine LV.out.mono ?_; rintro e4 w4 ⟨rfl, hb⟩; have h5 := At.later H2.out hb; have q5 := on_cells h5; have g5 := q5.R; have g6 := q5.Rf; have hM := Lib.hid (mark_end2 (on_setR h5 (.bool true))); clear q5 h5 hb))
        obtain ⟨hK, hC, hB⟩ := hM.out
        refine ⟨by simp, .inl ⟨_, _, rfl, run_takeDeferred hK, ?_⟩⟩
        refine ⟨.bool true, ?_, rfl, hB⟩
        simp [results, Tryd.f4, go_sem, hC]

end Go.Proofs.YtflkbefiopnigacDoor.BV
