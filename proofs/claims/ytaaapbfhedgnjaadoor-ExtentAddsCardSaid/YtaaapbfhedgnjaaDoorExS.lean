/- The law ExtentAdds, walked. -/
import Derived.Test.YtaaapbfhedgnjaaDoorExR
namespace Go.Proofs.YtaaapbfhedgnjaaDoor.BV
open Go.ChangeShapes Go.WideShapes Go.ChangeAt Go.RowKit Go.Shelf

attribute [local go_sem] Oper.semAt_some

theorem u_mod' (x : Int) (n : Nat) (h1 : 1 ≤ n) (h2 : n ≤ 65537) : ∃ j : Nat, j < n ∧ wrap64 ((IntKind.u64.wrap x).tmod n) = (j : Int) := by
  have h0 : ∃ m : Nat, IntKind.u64.wrap x = m := by
    refine ⟨(IntKind.u64.wrap x).toNat, ?_⟩
    have : 0 ≤ IntKind.u64.wrap x := by unfold IntKind.wrap; simp [IntKind.bits, IntKind.signed]; omega
    omega
  obtain ⟨m, hm⟩ := h0
  rw [hm]
  have : (m : Int).tmod (n : Int) = ((m % n : Nat) : Int) := by
    rw [Int.tmod_eq_emod_of_nonneg (by omega)]; rfl
  rw [this]
  have hlt := Nat.mod_lt m (show 0 < n by omega)
  refine ⟨m % n, hlt, ?_⟩
  generalize m % n = q at *
  unfold wrap64
  omega

def prB (T R M c : Nat) (stop : Int) : Asn := blk T (.cells #[.int .u8 stop] 5 (0, 0)) * (blk R (.cells #[.bool false] 4 (0, 0)) * (blk M (.cells #[.pointer (some ⟨c, 0, none⟩)] 48 (0, 0)) * pur True))

theorem prB_start {W w1 : World} {T R c : Nat} {stop : Int} (h : At (exA c 1000 (fun _ => 0) 0 * (blk R (.cells #[.bool false] 4 (0, 0)) * (blk T (.cells #[.int .u8 stop] 5 (0, 0)) * pur True))) W (fun _ => False) w1) :
    ∃ p q sz, ExOk 1000 sz ∧ At (exX c p q 1000 sz (cp (fst' sz) 1000 : Nat) * prB T R w1.heap.size c stop) W (fun _ => False) (w1.alloc (.cells #[.pointer (some ⟨c, 0, none⟩)] 48)) := by
  obtain ⟨⟨p, q⟩, h1⟩ := At.opens h
  refine ⟨p, q, fun _ => 0, ex_zero 1000 (by omega) (by omega), ?_⟩
  rw [show cp (fst' fun _ => 0) 1000 = 0 from cp_none _ _ fun j _ => rfl]
  exact (h1.alloc (.cells #[.pointer (some ⟨c, 0, none⟩)] 48)).re (by unfold prB; ac_rfl)

theorem prB_M {w0 w : World} {S : Nat → Prop} {T R M c p q : Nat} {sz : Nat → Nat} {k stop : Int} {C : Asn} (h : At (exX c p q 1000 sz k * (prB T R M c stop * C)) w0 S w) : w.cell? ⟨M, 0, none⟩ = some (.pointer (some ⟨c, 0, none⟩)) :=
  (cell1 (At.blkIs (A := exX c p q 1000 sz k * (blk T (.cells #[.int .u8 stop] 5 (0, 0)) * (blk R (.cells #[.bool false] 4 (0, 0)) * (pur True * C)))) (h.re (by unfold prB; ac_rfl)))).1

theorem ax_start {W w : World} {T R M c p q : Nat} {sz : Nat → Nat} {stop : Int} (h : At (exX c p q 1000 sz (cp (fst' sz) 1000 : Nat) * prB T R M c stop) W (fun _ => False) w) :
    At (axA ⟨T, R, M, w.heap.size, w.heap.size + 1, w.heap.size + 1 + 1, w.heap.size + 1 + 1 + 1, c, p, q, sz, (cp (fst' sz) 1000 : Nat), stop⟩ 0 (-1) 0 * pur True) W (fun _ => False)
      ((((w.alloc (.cells #[.int .i64 0] 3)).alloc (.cells #[.int .i64 (-1)] 3)).alloc (.cells #[.int .i64 0] 3)).alloc (.cells #[.pointer (some ⟨c, 0, none⟩)] 48)) := by
  have h1 := (((h.alloc (.cells #[.int .i64 0] 3)).alloc (.cells #[.int .i64 (-1)] 3)).alloc (.cells #[.int .i64 0] 3)).alloc (.cells #[.pointer (some ⟨c, 0, none⟩)] 48)
  simp only [World.size_alloc] at h1
  exact h1.re (by unfold axA axF prB; dsimp only; ac_rfl)

theorem act_box {w0 w : World} {S : Nat → Prop} {A : Asn} {f0 f1 f2 : Int} (h : At A w0 S w) : At (blk w.heap.size (.cells #[.int .u8 f0, .int .i64 f1, .int .i64 f2] 53 (0, 0)) * A) w0 S (w.alloc (.cells #[.int .u8 f0, .int .i64 f1, .int .i64 f2] 53)) := h.alloc _

theorem rec_cells' {W : World} {a : Option Addr} {len cap : Nat} {F : Nat → Nat → Int} (hrow : RecRow [.u8, .i64, .i64] W a len cap F) : ∀ wr, Below W.heap.size W wr → ∀ j, j < len → ∃ q off, a = some ⟨q, off, none⟩ ∧ wr.cell? ⟨q, off + j * 3, none⟩ = some (.int .u8 (F j 0)) ∧ wr.cell? ⟨q, off + j * 3 + 1, none⟩ = some (.int .i64 (F j 1)) ∧ wr.cell? ⟨q, off + j * 3 + 2, none⟩ = some (.int .i64 (F j 2)) := by
  intro wr hb j hj
  obtain ⟨q, off, ha, hq, hc⟩ := hrow.at_ j hj
  exact ⟨q, off, ha, (hb.cell (p := ⟨q, _, none⟩) hq).trans (hc 0 _ rfl), (hb.cell (p := ⟨q, _, none⟩) hq).trans (hc 1 _ rfl), (hb.cell (p := ⟨q, _, none⟩) hq).trans (hc 2 _ rfl)⟩

theorem mk_end1 {W w : World} {R D : Nat} {v : Value} {t : TypeId} (h : At (blk R (.cells #[v] t (0, 0)) * blk D (.deferred (some []))) W (fun _ => False) w) :
    w.heap[D]? = some (.deferred (some [])) ∧ (w.putObj D (.deferred none)).cell? ⟨R, 0, none⟩ = some v ∧ Below W.heap.size W (w.putObj D (.deferred none)) := by
  have h2 : At (blk D (.deferred (some [])) * blk R (.cells #[v] t (0, 0))) W (fun _ => False) w := h.re (Asn.star_comm _ _)
  have h3 := h2.putObj (.deferred none)
  exact ⟨h2.blkIs, (cell1 (At.blkIs (A := blk D (.deferred none)) (h3.re (Asn.star_comm _ _)))).1, h3.below⟩

theorem quiet_hide {F : Fence} {n : Nat} {P : Program} {b : Array Oper} {C : World → Prop} {Q : Act → Prop} {l : List Oper} {a : Act} (h : ∀ Q0 : Act → Prop, Hid (∀ a', Q a' → Q0 a') → wpQuietIn F n P b C Q0 l a) : wpQuietIn F n P b C Q l a := h Q (Lib.hid fun _ h => h)

set_option maxRecDepth 100000 in
set_option maxHeartbeats 8000000 in
theorem eadds_in {F : Fence} (hW : Wd F) (a : Option Addr) (len cap : Nat) (cut stop : Int) (F1 : Nat → Nat → Int) (hl : len ≤ 80) (hcl : len ≤ cap) (hcm : cap ≤ 9223372036854775807) (hst : 0 ≤ stop ∧ stop ≤ 255) (W : World) (hT : Tab W) (hr1 : RecRow [.u8, .i64, .i64] W a len cap F1) :
    CallsIn F 6 Tryd.prog 7 #[.slice a len cap, .int .i64 cut, .int .u8 stop] W fun e W' => e = .returned (.bool true) ∧ Below W.heap.size W W' := by
  have hro := hW.ro
  have hf1 := hW.fn 23
  have hf2 := hW.fn 30
  have hf3 := hW.fn 42
  have hf4 := hW.fn 36
  have hf5 := hW.fn 38
  have hf6 := hW.fn 40
  have hf7 := hW.fn 25
  have cell := Lib.hid (rec_cells' hr1)
  have HT := Lib.hid (fun (A : Asn) (w : World) (h : At A W (fun _ => False) w) => At.tabB hT h)
  have A0 := ((At.emp W).alloc (.cells #[.int .u8 stop] 5)).alloc (.cells #[.bool false] 4)
  simp only [World.size_alloc] at A0
  have N := Lib.hid (At.tri (At.pure_in trivial A0) (ex_new_ok 1000 (by omega) (by omega)))
  have START := Lib.hid (fun c w1 h => prB_start (W := W) (w1 := w1) (T := W.heap.size) (R := W.heap.size + 1) (c := c) (stop := stop) h)
  obtain ⟨kc, hkc, ekc⟩ := u_mod' cut 1001 (by omega) (by omega)
  have EK : Hid (wrap64 ((IntKind.u64.wrap cut).tmod 1001) = (kc : Int)) := Lib.hid ekc
  clear hr1 hT A0 ekc
  refine callsIn_of_wp_marks Tryd.func7 rfl (hW.fn _) ?_ hro
  simp only [Tryd.ntmps7, List.size_toArray, List.length_cons, List.length_nil, Nat.reduceAdd, Nat.reduceSub, Array.replicate_succ, Array.replicate_zero, List.push_toArray, List.append_toArray, List.nil_append, List.cons_append]
  gi_wp2_with fail
  refine (hW.cal N.out).mono ?_
  rintro e w1 ⟨c, rfl, a1⟩
  obtain ⟨p, q, sz0, ok0, A1⟩ := START.out c w1 a1
  clear a1 N START
  obtain ⟨T, hTT⟩ : ∃ T, W.heap.size = T := ⟨_, rfl⟩
  obtain ⟨M, hMM⟩ : ∃ M, w1.heap.size = M := ⟨_, rfl⟩
  rw [hTT, hMM] at A1
  rw [hTT]
  have A2 : Hid (∃ sz, ExOk 1000 sz ∧ At (exX c p q 1000 sz (cp (fst' sz) 1000 : Nat) * (prB T (T + 1) M c stop * pur True)) W (fun _ => False) (w1.alloc (.cells #[.pointer (some ⟨c, 0, none⟩)] 48))) := Lib.hid ⟨sz0, ok0, A1.unit.re (Asn.star_assoc _ _ _)⟩
  clear A1 ok0
  gi_wp2_with fail
  try rw [hMM]
  clear hMM
  obtain ⟨w2, hw2⟩ : ∃ w2, (w1.alloc (.cells #[.pointer (some ⟨c, 0, none⟩)] 48)) = w2 := ⟨_, rfl⟩
  rw [hw2] at A2 ⊢
  clear hw2
  gi_loopw [32] (fun i wr => ∃ (k : Nat), k ≤ len ∧ i = .int .i64 k ∧ Hid (∃ sz, ExOk 1000 sz ∧ At (exX c p q 1000 sz (cp (fst' sz) 1000 : Nat) * (prB T (T + 1) M c stop * pur True)) W (fun _ => False) wr)) (fun i _ => len - (intOf i).toNat)
  case atStart => exact ⟨0, Nat.zero_le _, rfl, A2⟩
  case round =>
    clear A2
    obtain ⟨k, hk, rfl, HR⟩ := hrel
    obtain ⟨sz, ok, hA⟩ := HR.out
    clear HR
    by_cases hlt : k < len
    · obtain ⟨d, off, rfl, hc0, hc1, hc2⟩ := cell.out wr hA.below k hlt
      have hltI : (k : Int) < (len : Int) := by omega
      generalize F1 k 0 = f0 at *
      generalize F1 k 1 = f1 at *
      generalize F1 k 2 = f2 at *
      have A2 := act_box (f0 := f0) (f1 := f1) (f2 := f2) hA
      obtain ⟨Y, hY⟩ : ∃ Y, wr.heap.size = Y := ⟨_, rfl⟩
      rw [hY] at A2
      obtain ⟨y0, y1, y2⟩ := vcells (At.blkIs A2)
      have A3 := A2.re (B := exX c p q 1000 sz (cp (fst' sz) 1000 : Nat) * (prB T (T + 1) M c stop * (pur True * blk Y (.cells #[.int .u8 f0, .int .i64 f1, .int .i64 f2] 53 (0, 0))))) (by ac_rfl)
      have m0 := prB_M A3
      obtain ⟨sa, hsa, esa⟩ := u_mod' f1 1000 (by omega) (by omega)
      obtain ⟨za, hza, eza⟩ := u_mod' f2 30 (by omega) (by omega)
      have C1 := Lib.hid (hW.cal (n := 5) (ex_add_any ok sa za hsa hza (HT.out _ _ A3) A3))
      have ESA : Hid (wrap64 ((IntKind.u64.wrap f1).tmod 1000) = (sa : Int)) := Lib.hid esa
      have EZA : Hid (wrap64 ((IntKind.u64.wrap f2).tmod 30) = (za : Int)) := Lib.hid eza
      clear hA A2 A3 ok esa eza
      gi_wp2_with fail
      rw [ESA.out, EZA.out]
      refine C1.out.mono ?_
      rintro e w3 ⟨ev, sz', rfl, ok', hA⟩
      have FF := Lib.hid (⟨sz', ok', At.dropr (C := blk Y (.cells #[.int .u8 f0, .int .i64 f1, .int .i64 f2] 53 (0, 0))) (hA.re (by ac_rfl))⟩ : ∃ sz, ExOk 1000 sz ∧ At (exX c p q 1000 sz (cp (fst' sz) 1000 : Nat) * (prB T (T + 1) M c stop * pur True)) W (fun _ => False) w3)
      clear C1 y0 y1 y2 m0 hA ok'
      gi_wp2_with fail
      exact ⟨⟨k + 1, by omega, by go_num, FF⟩, by simp [intOf]; omega⟩
    · obtain rfl : k = len := by omega
      have hltI : ¬ (k : Int) < (k : Int) := by omega
      have A4 := ((hA.alloc (.cells #[.int .i64 0] 3)).alloc (.cells #[.int .i64 (-1)] 3)).alloc (.cells #[.int .i64 0] 3)
      have m0 := prB_M (C := pur True * (blk _ (.cells #[.int .i64 0] 3 (0, 0)) * (blk _ (.cells #[.int .i64 (-1)] 3 (0, 0)) * blk _ (.cells #[.int .i64 0] 3 (0, 0))))) (A4.re (by ac_rfl))
      have A3 := Lib.hid (ax_start (At.nounit (hA.re (Asn.star_assoc _ _ _).symm)))
      obtain ⟨Z, hZ⟩ : ∃ Z, wr.heap.size = Z := ⟨_, rfl⟩
      rw [hZ] at A3
      have OK := Lib.hid ok
      clear hA cell A4 ok
      gi_wp2_with (gi_at_call 42; with_reducible refine (hW.cal (ex_all _ _)).mono ?_; rintro e1 w3 ⟨rfl, rfl⟩)
      try rw [EK.out]
      obtain ⟨w3, hw3⟩ : ∃ w3, ((((wr.alloc (.cells #[.int .i64 0] 3)).alloc (.cells #[.int .i64 (-1)] 3)).alloc (.cells #[.int .i64 0] 3)).alloc (.cells #[.pointer (some ⟨c, 0, none⟩)] 48)) = w3 := ⟨_, rfl⟩
      rw [hw3] at A3 ⊢
      try rw [hZ]
      obtain ⟨x, hx⟩ : ∃ x : Ax, (⟨T, T + 1, M, Z, Z + 1, Z + 1 + 1, Z + 1 + 1 + 1, c, p, q, sz, (cp (fst' sz) 1000 : Nat), stop⟩ : Ax) = x := ⟨_, rfl⟩
      have okx : ExOk 1000 x.sz := by rw [← hx]; exact OK.out
      have hcn : x.cnt = (cp (fst' x.sz) 1000 : Nat) := by rw [← hx]
      have A5 : At (axI x (x.sz, x.cnt) []) W (fun _ => False) w3 := At.nounit (axI_mk (C := pur True) ⟨rfl, edge_zero _, by simp [stq], rfl⟩ (by rw [← hx]; exact A3.out))
      have XT : x.T = T := by rw [← hx]
      have XR : x.R = T + 1 := by rw [← hx]
      have XM : x.M = M := by rw [← hx]
      have XA : x.A = Z := by rw [← hx]
      have XL : x.L = Z + 1 := by rw [← hx]
      have XN : x.N = Z + 1 + 1 := by rw [← hx]
      have XB : x.B = Z + 1 + 1 + 1 := by rw [← hx]
      have Xc : x.c = c := by rw [← hx]
      have hxs : 0 ≤ x.stop ∧ x.stop ≤ 255 := by rw [← hx]; exact hst
      clear hw3 hx A3 OK m0 hZ
      rw [← XR, ← XT, ← XM, ← XB, ← XN, ← XL, ← XA, ← Xc]
      clear XT XR XM XA XL XN XB Xc
      refine wp_rangeE hro (by omega) (gf := 62) (lb := #[.pointer (some ⟨x.B, 0, none⟩)]) rfl (hW.fn _) (enters_of Tryd.func62 (by kernel_rfl) rfl) (all_iter hW 5 x.B x.c 1000 (by omega) (by omega)) (fun _ => rfl) (w0 := W) (S0 := fun _ => False) (axI x) (axX x) (x.sz, x.cnt) A5 ?rd ?ab ?done ?stop
      case rd =>
        intro s pre C w h
        obtain ⟨⟨rfl, _⟩, hA⟩ := axI_of h
        exact ⟨(ax_cells hA).B, HT.out _ _ h, okx, x.p, x.q, W, _, _, hA.re ax_ex⟩
      case ab =>
        apply Exists.intro
        refine ⟨?_, ?_⟩
        focus
          intro l i w K hK
          gi_wp2
          exact hK
        intro l s pre i C w hA hok
        obtain ⟨⟨rfl, pe, p1, plen⟩, hB⟩ := axI_of hA
        obtain ⟨i1, i2⟩ := i
        obtain ⟨hn, hz⟩ := hok
        dsimp only at hn hz
        obtain ⟨g1, g2, g3, g4⟩ := nxF_lt hn
        have hs := fst_iff.1 g3
        have hft := okx.s.fit i1 hs
        have hL0 := gap_cp g1 pe g4
        have hst' := starts_step okx.s hs g1 g4
        have hin := in_cp okx.s hs (Nat.le_refl (x.sz i1))
        have hed := edge_end okx.s hs
        have WDA : ∀ j, j < x.sz i1 → _ := fun j hj => wd_all okx.s hs hj
        have LVA : ∀ j, j < x.sz i1 → _ := fun j hj => in_cp okx.s hs (Nat.le_of_lt hj)
        rw [← hz] at hft hst' hs hin hed WDA LVA
        rw [hL0] at hin WDA LVA
        have hLb : cp (lv x.sz) (stq pre) ≤ stq pre := cp_le _ _
        have FIN : Hid (∀ w, At (axA x ((cp (lv x.sz) (stq pre) : Nat) + (i2 : Int)) ((i1 : Int) + (i2 : Int) - 1) ((pre.length : Int) + 1) * C) W (fun _ => False) w → ∃ s, At (axI x s (pre ++ [(i1, i2)]) * C) W (fun _ => False) w) := Lib.hid fun w h => ⟨(x.sz, x.cnt), axI_mk ⟨rfl, by rw [stq_snoc]; exact hed, by rw [stq_snoc]; exact hft, by rw [stq_snoc, List.length_append]; simp; omega⟩ (h.re (by
          rw [stq_snoc]; dsimp only
          rw [hin, show ((cp (lv x.sz) (stq pre) + i2 : Nat) : Int) = (cp (lv x.sz) (stq pre) : Nat) + (i2 : Int) by omega, show ((i1 + i2 : Nat) : Int) - 1 = (i1 : Int) + (i2 : Int) - 1 by omega, show ((pre ++ [(i1, i2)]).length : Int) = (pre.length : Int) + 1 by simp]))⟩
        have RET : Hid (∀ w al ll nl, At (axA x al ll nl * C) W (fun _ => False) w → At (axX x .ret * C) W (fun _ => False) (w.setCell ⟨x.R, 0, none⟩ (.bool true))) := Lib.hid fun w al ll nl h => ax_setR h _
        have hle : ¬ (i1 : Int) ≤ (stq pre : Int) - 1 := by omega
        have hz1 : ¬ (i2 : Int) < 1 := by omega
        have h1000 : ¬ (1000 : Int) < (i1 : Int) + (i2 : Int) := by omega
        have hI1 : (i1 : Int) ≤ 1000 := by omega
        have hI2 : (i2 : Int) ≤ 1000 := by omega
        have hLI : ((cp (lv x.sz) (stq pre) : Nat) : Int) ≤ 1000 := by omega
        have hln : (pre.length : Int) ≤ 1000 := by have := cp_le (fst' x.sz) (stq pre); omega
        have WORD : Hid (∀ j, j < i2 → ∀ w', At (axA x (cp (lv x.sz) (stq pre) : Nat) ((stq pre : Int) - 1) pre.length * C) W (fun _ => False) w' → Calls Tryd.prog 36 #[.pointer (some ⟨x.c, 0, none⟩), .int .i64 ((cp (lv x.sz) (stq pre) : Nat) + (j : Int))] w' fun e w2 => e = .returned (.tuple #[.int .i64 ((i1 : Int) + (j : Int)), .bool true]) ∧ At (axA x (cp (lv x.sz) (stq pre) : Nat) ((stq pre : Int) - 1) pre.length * C) W (fun _ => False) w2) := Lib.hid fun j hj w' h => by
          have := callsIn_wide.1 (word_in Wd.wide okx HT.out (cp (lv x.sz) (stq pre) + j) (by omega) (h.re ax_ex))
          rw [WDA j hj, show ((cp (lv x.sz) (stq pre) + j : Nat) : Int) = (cp (lv x.sz) (stq pre) : Nat) + (j : Int) by omega] at this
          refine this.mono ?_
          rintro e w2 ⟨rfl, h2⟩
          exact ⟨by show _ = Ending.returned (.tuple #[.int .i64 ((i1 : Int) + (j : Int)), .bool true]); rw [show (i1 : Int) + (j : Int) = ((i1 + j : Nat) : Int) by omega]; rfl, h2.re ax_ex.symm⟩
        have LIVE : Hid (∀ j, j < i2 → ∀ w', At (axA x (cp (lv x.sz) (stq pre) : Nat) ((stq pre : Int) - 1) pre.length * C) W (fun _ => False) w' → Calls Tryd.prog 38 #[.pointer (some ⟨x.c, 0, none⟩), .int .i64 0, .int .i64 ((i1 : Int) + (j : Int))] w' fun e w2 => e = .returned (.int .i64 ((cp (lv x.sz) (stq pre) : Nat) + (j : Int))) ∧ w' = w2) := Lib.hid fun j hj w' h => by
          have := ex_live okx 0 ((i1 : Int) + (j : Int)) (HT.out _ _ h) (h.re ax_ex)
          rw [show (i1 : Int) + (j : Int) = ((i1 + j : Nat) : Int) by omega, lvR_zero (by omega), LVA j hj, show ((cp (lv x.sz) (stq pre) + j : Nat) : Int) = (cp (lv x.sz) (stq pre) : Nat) + (j : Int) by omega] at this
          rw [show (i1 : Int) + (j : Int) = ((i1 + j : Nat) : Int) by omega]
          exact this
        have H0 := Lib.hid hB
        have q := ax_cells hB
        have c1 := q.L
        clear hA hB q hn hz g1 g2 g3 g4 hs hft hL0 hst' hin hed WDA LVA pe p1 plen hLb A5
        generalize cp (lv x.sz) (stq pre) = L0 at *
        generalize stq pre = P0 at *
        generalize hlen : pre.length = n0 at *
        gi_wp2_with fail
        gi_loopw [71] (fun u wr => ∃ j : Nat, j ≤ i2 ∧ u = .int .i64 j ∧ Hid (At (axA x (L0 : Nat) ((P0 : Int) - 1) n0 * C) W (fun _ => False) wr)) (fun u _ => i2 - (intOf u).toNat)
        case atStart => exact ⟨0, Nat.zero_le _, rfl, H0⟩
        case round =>
          clear H0 c1
          obtain ⟨j, hj, rfl, HA⟩ := hrel
          by_cases hlt2 : j < i2
          · have hltI2 : (j : Int) < (i2 : Int) := by omega
            have q := ax_cells HA.out
            have c1 := q.M
            have c2 := q.A
            have WD := Lib.hid (hW.calr l (n := 6 - 1 - 1 - 1) (WORD.out j hlt2 _ HA.out))
            clear q
            gi_wp2_with fail
            refine WD.out.mono ?_
            rintro e w3 ⟨rfl, hA3⟩
            have QS : Hid (∀ wx, At (axA x (L0 : Nat) ((P0 : Int) - 1) n0 * C) W (fun _ => False) wx → wx.cell? ⟨x.M, 0, none⟩ = some (.pointer (some ⟨x.c, 0, none⟩)) ∧ wx.cell? ⟨x.A, 0, none⟩ = some (.int .i64 (L0 : Nat)) ∧
                (CallsIn F (6 - 1 - 1 - 1) Tryd.prog 38 #[.pointer (some ⟨x.c, 0, none⟩), .int .i64 0, .int .i64 ((i1 : Int) + (j : Int))] wx fun e w' => e = .returned (.int .i64 ((L0 : Nat) + (j : Int))) ∧ At (axA x (L0 : Nat) ((P0 : Int) - 1) n0 * C) W (fun _ => False) w')) := Lib.hid fun wx h => by
              have q := ax_cells h
              refine ⟨q.M, q.A, hW.cal ((LIVE.out j hlt2 wx h).mono ?_)⟩
              rintro e w' ⟨rfl, rfl⟩
              exact ⟨rfl, h⟩
            have v1 : IntKind.i64.wrap ((i1 : Int) + (j : Int)) = (i1 : Int) + (j : Int) := IntWalk.i64_in _ (by omega)
            have v2 : IntKind.i64.wrap ((L0 : Int) + (j : Int)) = (L0 : Int) + (j : Int) := IntWalk.i64_in _ (by omega)
            have HC := Lib.hid hA3.drew
            clear WD c1 c2 HA hA3
            gi_wp2_with fail
            refine region_round (fun w' => At (axA x (L0 : Nat) ((P0 : Int) - 1) n0 * C) W (fun _ => False) w') hro (by kernel_rfl) (by kernel_rfl) (noDefer_of (by kernel_rfl)) HC.out ?_
            repeat (first | gi_big_quiet_skip | (gi_big_quiet_want; first | (gi_big_quiet_op; go_big_quiet_on) | (apply quietIn_upon; (focus (intro wx hx; obtain ⟨d1, d2, dn⟩ := QS.out wx hx; go_simp; first | rfl | exact dn)); (try simp only [Act.put, List.setIfInBounds_toArray, List.set_cons_zero, List.set_cons_succ]); go_big_quiet_on)))
            refine wpQuietIn_nil ?_
            intro wz hzz
            have GG := Lib.hid hzz
            clear QS HC hzz
            gi_wp2_with fail
            exact ⟨⟨j + 1, by omega, by go_num, GG⟩, by simp [intOf]; omega⟩
          · obtain rfl : j = i2 := by omega
            have hltI2 : ¬ (j : Int) < (j : Int) := by omega
            have h1 := HA.out
            have h2 := ax_setA h1 ((L0 : Int) + (j : Int))
            have h3 := ax_setL h2 ((i1 : Int) + (j : Int) - 1)
            have h4 := ax_setN h3 ((n0 : Int) + 1)
            have q1 := ax_cells h1
            have q2 := ax_cells h2
            have q3 := ax_cells h3
            have q4 := ax_cells h4
            have c1 := q1.A
            have c2 := q1.Af
            have c3 := q2.L
            have c4 := q2.Lf
            have c5 := q3.N
            have c6 := q3.Nf
            have c7 := q4.N
            have c8 := q4.T
            have FF := Lib.hid (FIN.out _ h4)
            clear h1 h2 h3 q1 q2 q3 q4 HA FIN WORD LIVE
            by_cases hsp : x.stop = (n0 : Int) + 1
            · have LV := Lib.hid (hW.calr l (n := 6 - 1 - 1 - 1) (elives _ (HT.out _ _ h4)))
              have H4 := Lib.hid h4
              clear h4
              gi_wp2_with (gi_at_call 25; with_reducible refine LV.out.mono ?_; rintro e4 w4 ⟨rfl, hb⟩; have h5 := At.later H4.out hb; have q5 := ax_cells h5; have g5 := q5.R; have g6 := q5.Rf; have RR := Lib.hid (RET.out _ _ _ _ h5); clear q5 h5 hb)
              exact RR.out
            · have hs' : ¬ (n0 : Int) + 1 = x.stop := fun e => hsp e.symm
              clear h4 hsp
              gi_wp2_with fail
              exact FF.out
      case stop =>
        intro D cd w hA
        cases cd
        case ret =>
          have hM := Lib.hid (mk_end1 hA)
          clear hA A5
          gi_wp2
          obtain ⟨hK, hC, hB⟩ := hM.out
          refine ⟨by simp, .inl ⟨_, _, rfl, run_takeDeferred hK, ?_⟩⟩
          refine ⟨.bool true, ?_, rfl, hB⟩
          simp [results, Tryd.f7, go_sem, hC]
        all_goals exact (At.purIs hA).elim
      case done =>
        intro D s pre w hd hA
        obtain ⟨⟨rfl, pe, p1, plen⟩, hB⟩ := axI_of hA
        have e1 := starts_end p1 hd
        have e2 := live_end p1 pe hd
        dsimp only at e1 e2 p1 pe plen
        have hk0 : (kc : Int) ≤ 1000 := by omega
        have LS := lvR_split (sz := x.sz) 1000 (f := 0) (g := (kc : Int)) (h := ((1000 : Nat) : Int)) (by omega) (by omega)
        have LZ := lvR_zero (sz := x.sz) (n := 1000) (t := 1000) (by omega)
        rw [LZ, e2] at LS
        have hP : cp (lv x.sz) (stq pre) ≤ stq pre := cp_le _ _
        rw [← plen] at e1
        rw [e1] at hcn
        obtain ⟨La, hLa⟩ : ∃ La, cp (lvR x.sz 0 (kc : Int)) 1000 = La := ⟨_, rfl⟩
        obtain ⟨Lb, hLb⟩ : ∃ Lb, cp (lvR x.sz (kc : Int) ((1000 : Nat) : Int)) 1000 = Lb := ⟨_, rfl⟩
        rw [e2] at LZ
        rw [hLa, hLb] at LS
        obtain ⟨T0, hT0⟩ : ∃ T0, cp (lv x.sz) (stq pre) = T0 := ⟨_, rfl⟩
        obtain ⟨P0, hP0⟩ : ∃ P0, stq pre = P0 := ⟨_, rfl⟩
        obtain ⟨n0, hn0⟩ : ∃ n0, pre.length = n0 := ⟨_, rfl⟩
        rw [hT0] at hB LS LZ
        rw [hP0, hn0] at hB
        rw [hn0] at hcn
        have hT1 : T0 ≤ 1000 := by omega
        have v1 : IntKind.i64.wrap ((La : Int) + (Lb : Int)) = (T0 : Int) := by rw [show (La : Int) + (Lb : Int) = (T0 : Int) by omega]; exact IntWalk.i64_in _ (by omega)
        have QS : Hid (∀ wx, At (axA x (T0 : Nat) ((P0 : Int) - 1) n0 * blk D (.deferred (some []))) W (fun _ => False) wx → wx.cell? ⟨x.M, 0, none⟩ = some (.pointer (some ⟨x.c, 0, none⟩)) ∧ wx.cell? ⟨x.A, 0, none⟩ = some (.int .i64 (T0 : Nat)) ∧ wx.cell? ⟨x.N, 0, none⟩ = some (.int .i64 (n0 : Nat)) ∧
            (CallsIn F (6 - 1) Tryd.prog 40 #[.pointer (some ⟨x.c, 0, none⟩)] wx fun e w' => e = .returned (.int .i64 (n0 : Int)) ∧ At (axA x (T0 : Nat) ((P0 : Int) - 1) n0 * blk D (.deferred (some []))) W (fun _ => False) w') ∧
            (CallsIn F (6 - 1) Tryd.prog 38 #[.pointer (some ⟨x.c, 0, none⟩), .int .i64 0, .int .i64 (kc : Int)] wx fun e w' => e = .returned (.int .i64 (La : Int)) ∧ At (axA x (T0 : Nat) ((P0 : Int) - 1) n0 * blk D (.deferred (some []))) W (fun _ => False) w') ∧
            (CallsIn F (6 - 1) Tryd.prog 38 #[.pointer (some ⟨x.c, 0, none⟩), .int .i64 (kc : Int), .int .i64 1000] wx fun e w' => e = .returned (.int .i64 (Lb : Int)) ∧ At (axA x (T0 : Nat) ((P0 : Int) - 1) n0 * blk D (.deferred (some []))) W (fun _ => False) w') ∧
            (CallsIn F (6 - 1) Tryd.prog 38 #[.pointer (some ⟨x.c, 0, none⟩), .int .i64 0, .int .i64 1000] wx fun e w' => e = .returned (.int .i64 (T0 : Int)) ∧ At (axA x (T0 : Nat) ((P0 : Int) - 1) n0 * blk D (.deferred (some []))) W (fun _ => False) w') ∧
            (CallsIn F (6 - 1) Tryd.prog 25 #[] wx fun e w' => e = .returned (.bool true) ∧ At (axA x (T0 : Nat) ((P0 : Int) - 1) n0 * blk D (.deferred (some []))) W (fun _ => False) w')) := Lib.hid fun wx h => by
          have q := ax_cells h
          have ht := HT.out _ _ h
          refine ⟨q.M, q.A, q.N, hW.cal ((ex_objs (h.re ax_ex)).mono ?_), hW.cal ((ex_live okx 0 (kc : Int) ht (h.re ax_ex)).mono ?_), hW.cal ((ex_live okx (kc : Int) 1000 ht (h.re ax_ex)).mono ?_), hW.cal ((ex_live okx 0 1000 ht (h.re ax_ex)).mono ?_), hW.cal ((elives _ ht).mono ?_)⟩
          · rintro e w' ⟨rfl, rfl⟩; exact ⟨by rw [hcn], h⟩
          · rintro e w' ⟨rfl, rfl⟩; exact ⟨by rw [hLa], h⟩
          · rintro e w' ⟨rfl, rfl⟩; exact ⟨by rw [← hLb]; rfl, h⟩
          · rintro e w' ⟨rfl, rfl⟩; exact ⟨by rw [← LZ]; rfl, h⟩
          · rintro e w' ⟨rfl, hb⟩; exact ⟨rfl, At.later h hb⟩
        have HC := Lib.hid hB.drew
        clear hA hB e1 e2 pe p1 plen LS LZ hP hLa hLb hT0 hP0 hn0 hcn hd A5 okx
        gi_wp2_with fail
        refine region_store (fun w' => At (axA x (T0 : Nat) ((P0 : Int) - 1) n0 * blk D (.deferred (some []))) W (fun _ => False) w') hro (by kernel_rfl) rfl (by kernel_rfl) (by kernel_rfl) (by kernel_rfl) (by kernel_rfl) HC.out ?_
        simp only [List.dropLast, List.getLast]
        refine quiet_hide fun Q0 HQ => ?_
        repeat (first | gi_big_quiet_skip | (gi_big_quiet_want; first | (gi_big_quiet_op; go_big_quiet_on) | (apply quietIn_upon; (focus (intro wx hx; obtain ⟨d1, d2, d3, c1, c2, c3, c4, c5⟩ := QS.out wx hx; go_simp; try simp only [Nat.reduceSub] at c1 c2 c3 c4 c5 ⊢; with_reducible first | exact c1 | exact c2 | exact c3 | exact c4 | exact c5 | rfl)); (try simp only [Act.put, List.setIfInBounds_toArray, List.set_cons_zero, List.set_cons_succ]); go_big_quiet_on)))
        refine wpQuietIn_nil ?_
        refine HQ.out _ ?_
        clear HQ
        intro wz hzz
        have qz := ax_cells hzz
        have g5 := qz.R
        have g6 := qz.Rf
        have hM := Lib.hid (mk_end1 (ax_setR hzz (.bool true)))
        clear qz hzz QS HC
        gi_wp2
        obtain ⟨hK, hC, hB⟩ := hM.out
        refine ⟨by simp, .inl ⟨_, _, rfl, run_takeDeferred hK, ?_⟩⟩
        refine ⟨.bool true, ?_, rfl, hB⟩
        simp [results, Tryd.f7, go_sem, hC]

end Go.Proofs.YtaaapbfhedgnjaaDoor.BV
