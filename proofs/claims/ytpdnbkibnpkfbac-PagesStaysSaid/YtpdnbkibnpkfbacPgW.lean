/- The law PagesStays, walked. -/
import Derived.Test.YtpdnbkibnpkfbacPgV
import Derived.Test.YtpdnbkibnpkfbacPgD
import Derived.Test.YtpdnbkibnpkfbacRecs
import Derived.Deep.QuietTactic
import Derived.BigQuiet
namespace Go.Proofs.Ytpdnbkibnpkfbac.PT
open Go.ChangeShapes Go.WideShapes Go.ChangeAt Go.RowKit

structure Stay (s : QS) (k : Nat) (s' : QS) : Prop where
  ok : s'.ok
  pages : s'.pages = s.pages
  t1 : s.tot - 1 ≤ s'.tot
  t2 : s'.tot ≤ s.tot + 1
  fr : ∀ r, r ≠ k → s.fr r ≠ 0 → s'.fr r = s.fr r

theorem Stay.rfl' {s : QS} (h : s.ok) (k : Nat) : Stay s k s := ⟨h, rfl, by omega, by omega, fun _ _ _ => rfl⟩

theorem pm_put_any {c : Nat} {s : QS} (hs : s.ok) (k f : Nat) (hk : k < s.pages) (hf : f ≤ 2147483647) (ht1 : -900000 ≤ s.tot) (ht : s.tot ≤ 900000) : ∃ e s', Stay s k s' ∧ Tri1 Try.prog 22 #[.pointer (some ⟨c, 0, none⟩), .int .i64 k, .int .i64 f] (pmA c s) (.int .i64 e) (pmA c s') := by
  by_cases hz : s.fr k = 0
  · refine ⟨0, _, ⟨QS.put_ok hs k (f + 1) 1 (by omega) (by omega) (by omega), rfl, ?_, ?_, ?_⟩, pm_put_ok hs k f hk hz hf ht⟩
    · show s.tot - 1 ≤ s.tot + 1; omega
    · show s.tot + 1 ≤ s.tot + 1; omega
    · intro r hr _
      show upd s.fr k (f + 1) r = _
      unfold upd; rw [if_neg hr]
  · exact ⟨13, s, Stay.rfl' hs k, (pm_put_mapped hs k f hk hz hf).tri⟩

theorem pm_drop_any {c : Nat} {s : QS} (hs : s.ok) (k : Nat) (hk : k < s.pages) (ht1 : -900000 ≤ s.tot) (ht : s.tot ≤ 900000) : ∃ g e s', Stay s k s' ∧ Tri1 Try.prog 24 #[.pointer (some ⟨c, 0, none⟩), .int .i64 k] (pmA c s) (.tuple #[.int .i64 g, .int .i64 e]) (pmA c s') := by
  by_cases hz : s.fr k = 0
  · exact ⟨0, 12, s, Stay.rfl' hs k, (pm_drop_none hs k hk hz).tri⟩
  · refine ⟨_, 0, _, ⟨QS.put_ok hs k 0 (-1) (by omega) (by omega) (by omega), rfl, ?_, ?_, ?_⟩, pm_drop_ok hs k hk hz ht1⟩
    · show s.tot - 1 ≤ s.tot + -1; omega
    · show s.tot + -1 ≤ s.tot + 1; omega
    · intro r hr _
      show upd s.fr k 0 r = _
      unfold upd; rw [if_neg hr]

theorem pm_move_any {c : Nat} {s : QS} (hs : s.ok) (k q : Nat) (hk : k < s.pages) (hq : q < s.pages) (ht1 : -900000 ≤ s.tot) (ht : s.tot ≤ 900000) : ∃ e s', Stay s k s' ∧ Tri1 Try.prog 26 #[.pointer (some ⟨c, 0, none⟩), .int .i64 k, .int .i64 q] (pmA c s) (.int .i64 e) (pmA c s') := by
  by_cases hz : s.fr k = 0
  · exact ⟨12, s, Stay.rfl' hs k, (pm_move_un hs k q hk hq hz).tri⟩
  by_cases hz2 : s.fr q = 0
  · refine ⟨0, _, ⟨QS.put_ok (QS.put_ok hs k 0 (-1) (by omega) (by omega) (by omega)) q (s.fr k) 1 (hs.fb k) ?_ ?_, rfl, ?_, ?_, ?_⟩, pm_move_ok hs k q hk hq hz hz2 ht1 ht⟩
    · show -1000000 ≤ s.tot + -1 + 1; omega
    · show s.tot + -1 + 1 ≤ 1000000; omega
    · show s.tot - 1 ≤ s.tot + -1 + 1; omega
    · show s.tot + -1 + 1 ≤ s.tot + 1; omega
    · intro r hr hr0
      show upd (upd s.fr k 0) q (s.fr k) r = _
      have : r ≠ q := fun e => hr0 (by rw [e]; exact hz2)
      unfold upd; rw [if_neg this, if_neg hr]
  · exact ⟨13, s, Stay.rfl' hs k, (pm_move_mapped hs k q hk hq hz hz2).tri⟩

theorem at_mod (x : Int) : ∃ j : Nat, j < 131072 ∧ wrap64 ((IntKind.u64.wrap x).tmod 131072) = (j : Int) := by
  have h0 : ∃ m : Nat, IntKind.u64.wrap x = m := by
    refine ⟨(IntKind.u64.wrap x).toNat, ?_⟩
    have : 0 ≤ IntKind.u64.wrap x := by unfold IntKind.wrap; simp [IntKind.bits, IntKind.signed]; omega
    omega
  obtain ⟨m, hm⟩ := h0
  rw [hm]
  have : (m : Int).tmod (131072 : Int) = ((m % 131072 : Nat) : Int) := by
    rw [Int.tmod_eq_emod_of_nonneg (by omega)]; rfl
  rw [this]
  have hlt := Nat.mod_lt m (show 0 < 131072 by omega)
  refine ⟨m % 131072, hlt, ?_⟩
  generalize m % 131072 = q at *
  unfold wrap64
  omega

def stA (c X : Nat) (s : QS) (f0 f1 f2 : Int) : Asn := pmA c s * blk X (.cells #[.int .u8 f0, .int .i64 f1, .int .i64 f2] 49 (0, 0))

theorem stA_box {w0 w : World} {S : Nat → Prop} {c X : Nat} {s : QS} {f0 f1 f2 : Int} (h : At (stA c X s f0 f1 f2) w0 S w) :
    w.cell? ⟨X, 0, none⟩ = some (.int .u8 f0) ∧ w.cell? ⟨X, 1, none⟩ = some (.int .i64 f1) ∧ w.cell? ⟨X, 2, none⟩ = some (.int .i64 f2) := by
  obtain ⟨a, b, c, _⟩ := pcells (At.blkIs (A := pmA c s) (h.re (by unfold stA; ac_rfl)))
  exact ⟨a, b, c⟩

theorem plives' (w : World) : Calls Try.prog 21 #[] w fun e w' => e = .returned (.bool true) ∧ Below w.heap.size w w' := plives w

set_option maxHeartbeats 4000000 in
set_option maxRecDepth 100000 in
theorem stays_short (p f : Nat) (hp : p ≤ 65535) (hf : f ≤ 65535) (a : Option Addr) (len cap : Nat) (F : Nat → Nat → Int) (hl : len ≤ 200) (W : World) (hrow : RecRow [.u8, .i64, .i64] W a len cap F) :
    Calls Try.prog 7 #[.int .u16 p, .int .u16 f, .slice a len cap] W fun e W' => e = .returned (.bool true) ∧ Below W.heap.size W W' := by
  have hcl : len ≤ cap := hrow.lc
  have hcm : cap ≤ 9223372036854775807 := by have := hrow.cm; unfold maxLen at this; omega
  have cell : Hid (∀ wr, Below W.heap.size W wr → ∀ j, j < len → ∃ q off, a = some ⟨q, off, none⟩ ∧ wr.cell? ⟨q, off + j * 3, none⟩ = some (.int .u8 (F j 0)) ∧ wr.cell? ⟨q, off + j * 3 + 1, none⟩ = some (.int .i64 (F j 1)) ∧ wr.cell? ⟨q, off + j * 3 + 2, none⟩ = some (.int .i64 (F j 2)) ∧ 0 ≤ F j 0 ∧ F j 0 ≤ 255) := Lib.hid <| by
    intro wr hb j hj
    obtain ⟨q, off, ha, hq, hc⟩ := hrow.at_ j hj
    have b0 := bounds_u8 (hrow.wf j hj 0 _ rfl)
    exact ⟨q, off, ha, (hb.cell (p := ⟨q, _, none⟩) hq).trans (hc 0 _ rfl), (hb.cell (p := ⟨q, _, none⟩) hq).trans (hc 1 _ rfl), (hb.cell (p := ⟨q, _, none⟩) hq).trans (hc 2 _ rfl), b0.1, b0.2⟩
  clear hrow
  have NB := Lib.hid (pm_new 131072 (by omega) (by omega))
  have E := Lib.hid (At.emp W)
  have PU := Lib.hid (fun c => pm_put_ok (c := c) (newQ_ok 131072 (by omega) (by omega)) p f (by show p < 131072; omega) rfl (by omega) (by show (0 : Int) ≤ _; omega))
  have O1 := QS.put_ok (newQ_ok 131072 (by omega) (by omega)) p (f + 1) 1 (by omega) (by show (-1000000 : Int) ≤ 0 + 1; omega) (by show (0 : Int) + 1 ≤ _; omega)
  have ST0 : Hid (∃ s : QS, s = (newQ 131072).put p (f + 1) 1 ∧ s.ok ∧ s.pages = 131072 ∧ s.fr p = f + 1 ∧ -1 ≤ s.tot ∧ s.tot ≤ 1) := Lib.hid ⟨_, rfl, O1, rfl, by show upd _ p (f + 1) p = _; unfold upd; rw [if_pos rfl], by show (-1 : Int) ≤ 0 + 1; omega, by show (0 : Int) + 1 ≤ 1; omega⟩
  clear O1
  go_enter Try.func7, Try.ntmps7
  go_wp2_with fail
  refine (E.out.trix NB.out).mono ?_
  rintro e w1 ⟨c, rfl, a1⟩
  have C := Lib.hid (a1.tri0 (PU.out c))
  clear a1 NB E PU
  go_wp2_with fail
  refine C.out.mono ?_
  rintro e w2 ⟨rfl, a2⟩
  obtain ⟨s0, e0, ST⟩ := ST0.out
  rw [← e0] at a2
  have A2 := Lib.hid a2
  have ST2 := Lib.hid ST
  clear a2 ST e0 ST0 C
  go_wp2_with fail
  go_loopw [36] (fun i wr => ∃ (k : Nat), k ≤ len ∧ i = .int .i64 k ∧ Hid (∃ s : QS, s.ok ∧ s.pages = 131072 ∧ s.fr p = f + 1 ∧ -1 - (k : Int) ≤ s.tot ∧ s.tot ≤ 1 + k ∧ At (pmA c s) W (fun _ => False) wr)) (fun i _ => len - (intOf i).toNat)
  case atStart =>
    obtain ⟨o, p1, p2, p3, p4⟩ := ST2.out
    exact ⟨0, Nat.zero_le _, rfl, Lib.hid ⟨s0, o, p1, p2, by omega, by omega, A2.out⟩⟩
  case round =>
    clear ST2 A2
    obtain ⟨k, hk, rfl, HR⟩ := hrel
    obtain ⟨s, hs, hpg, hfp, ht1, ht2, HA⟩ := HR.out
    clear HR
    by_cases hlt : k < len
    · obtain ⟨q, off, rfl, hc0, hc1, hc2, hK0, hK1⟩ := cell.out wr HA.below k hlt
      have hltI : (k : Int) < (len : Int) := by omega
      generalize F k 0 = f0 at *
      generalize F k 1 = f1 at *
      generalize F k 2 = f2 at *
      have A1 : At (stA c wr.heap.size s f0 f1 f2) W (fun _ => False) (wr.alloc (.cells #[.int .u8 f0, .int .i64 f1, .int .i64 f2] 49)) := (HA.alloc _).re (by unfold stA; ac_rfl)
      obtain ⟨bx0, bx1, bx2⟩ := stA_box A1
      obtain ⟨x, hx, ex⟩ := at_mod f1
      obtain ⟨y, hy, ey⟩ := at_mod f2
      have H1 := Lib.hid A1
      clear A1 HA
      go_wp2
      go_quiet (fail)
      have H2 : At (stA c wr.heap.size s f0 f1 f2) W (fun _ => False) ((wr.alloc (.cells #[.int .u8 f0, .int .i64 f1, .int .i64 f2] 49)).drewN nq) := At.drewN H1.out nq
      clear H1 bx0 bx1 bx2
      rw [ex, ey]
      clear ex ey hc0 hc1 hc2
      generalize (wr.alloc (.cells #[.int .u8 f0, .int .i64 f1, .int .i64 f2] 49)).drewN nq = w5 at H2 ⊢
      generalize wr.heap.size = X at *
      obtain ⟨bx0, bx1, bx2⟩ := stA_box H2
      by_cases hxp : x = p
      · have hI : (x : Int) = (p : Int) := by omega
        have xe : (((p + 1 : Nat) : Int)) = (p : Int) + 1 := by omega
        by_cases k2 : f0 % 4 = 2
        · obtain ⟨g, ee, s', ST, TR⟩ := pm_drop_any (c := c) hs (p + 1) (by rw [hpg]; omega) (by omega) (by omega)
          have C := Lib.hid (H2.tri1 TR)
          have ev : ((s'.fr p : Nat) : Int) - 1 = f := by rw [ST.fr p (by omega) (by rw [hfp]; omega), hfp]; push_cast; omega
          have hpg2 : s'.pages = 131072 := by rw [ST.pages, hpg]
          have hfp2 : s'.fr p = f + 1 := by rw [ST.fr p (by omega) (by rw [hfp]; omega), hfp]
          have q1 := ST.t1
          have q2 := ST.t2
          have FRX := fun (w : World) (h : At (stA c X s' f0 f1 f2) W (fun _ => False) w) => At.ask (A := pmA c s') (h.re (B := pmA c s' * blk X (.cells #[.int .u8 f0, .int .i64 f1, .int .i64 f2] 49 (0, 0))) (by unfold stA; rfl)) (pm_frame_ok ST.ok p (by rw [hpg2]; omega) (by rw [hfp2]; omega))
          rw [ev] at FRX
          have HST := Lib.hid ST.ok
          have FRH := Lib.hid FRX
          clear TR ST FRX ev hfp hs
          go_wp2_with fail
          refine C.out.mono ?_
          rintro e w3 ⟨rfl, a3⟩
          have A3 : Hid (At (stA c X s' f0 f1 f2) W (fun _ => False) w3) := Lib.hid a3
          have FR := Lib.hid (FRH.out w3 A3.out)
          clear a3 C FRH
          go_wp2_with fail
          refine FR.out.mono ?_
          rintro e w4 ⟨rfl, rfl⟩
          clear FR
          go_wp2_with fail
          exact ⟨⟨k + 1, by omega, by go_num, Lib.hid ⟨s', HST.out, hpg2, hfp2, by push_cast; omega, by push_cast; omega, (A3.out.re (B := pmA c s' * blk X _) (by unfold stA; rfl)).dropr⟩⟩, by simp [intOf]; omega⟩
        by_cases k3 : f0 % 4 = 3
        · obtain ⟨ee, s', ST, TR⟩ := pm_move_any (c := c) hs (p + 1) y (by rw [hpg]; omega) (by rw [hpg]; omega) (by omega) (by omega)
          have C := Lib.hid (H2.tri1 TR)
          have ev : ((s'.fr p : Nat) : Int) - 1 = f := by rw [ST.fr p (by omega) (by rw [hfp]; omega), hfp]; push_cast; omega
          have hpg2 : s'.pages = 131072 := by rw [ST.pages, hpg]
          have hfp2 : s'.fr p = f + 1 := by rw [ST.fr p (by omega) (by rw [hfp]; omega), hfp]
          have q1 := ST.t1
          have q2 := ST.t2
          have FRX := fun (w : World) (h : At (stA c X s' f0 f1 f2) W (fun _ => False) w) => At.ask (A := pmA c s') (h.re (B := pmA c s' * blk X (.cells #[.int .u8 f0, .int .i64 f1, .int .i64 f2] 49 (0, 0))) (by unfold stA; rfl)) (pm_frame_ok ST.ok p (by rw [hpg2]; omega) (by rw [hfp2]; omega))
          rw [ev] at FRX
          have HST := Lib.hid ST.ok
          have FRH := Lib.hid FRX
          clear TR ST FRX ev hfp hs
          go_wp2_with fail
          refine C.out.mono ?_
          rintro e w3 ⟨rfl, a3⟩
          have A3 : Hid (At (stA c X s' f0 f1 f2) W (fun _ => False) w3) := Lib.hid a3
          have FR := Lib.hid (FRH.out w3 A3.out)
          clear a3 C FRH
          go_wp2_with fail
          refine FR.out.mono ?_
          rintro e w4 ⟨rfl, rfl⟩
          clear FR
          go_wp2_with fail
          exact ⟨⟨k + 1, by omega, by go_num, Lib.hid ⟨s', HST.out, hpg2, hfp2, by push_cast; omega, by push_cast; omega, (A3.out.re (B := pmA c s' * blk X _) (by unfold stA; rfl)).dropr⟩⟩, by simp [intOf]; omega⟩
        by_cases k0 : f0 % 4 = 0
        · obtain ⟨ee, s', ST, TR⟩ := pm_put_any (c := c) hs (p + 1) y (by rw [hpg]; omega) (by omega) (by omega) (by omega)
          have C := Lib.hid (H2.tri1 TR)
          have ev : ((s'.fr p : Nat) : Int) - 1 = f := by rw [ST.fr p (by omega) (by rw [hfp]; omega), hfp]; push_cast; omega
          have hpg2 : s'.pages = 131072 := by rw [ST.pages, hpg]
          have hfp2 : s'.fr p = f + 1 := by rw [ST.fr p (by omega) (by rw [hfp]; omega), hfp]
          have q1 := ST.t1
          have q2 := ST.t2
          have FRX := fun (w : World) (h : At (stA c X s' f0 f1 f2) W (fun _ => False) w) => At.ask (A := pmA c s') (h.re (B := pmA c s' * blk X (.cells #[.int .u8 f0, .int .i64 f1, .int .i64 f2] 49 (0, 0))) (by unfold stA; rfl)) (pm_frame_ok ST.ok p (by rw [hpg2]; omega) (by rw [hfp2]; omega))
          rw [ev] at FRX
          have HST := Lib.hid ST.ok
          have FRH := Lib.hid FRX
          clear TR ST FRX ev hfp hs
          go_wp2_with fail
          refine C.out.mono ?_
          rintro e w3 ⟨rfl, a3⟩
          have A3 : Hid (At (stA c X s' f0 f1 f2) W (fun _ => False) w3) := Lib.hid a3
          have FR := Lib.hid (FRH.out w3 A3.out)
          clear a3 C FRH
          go_wp2_with fail
          refine FR.out.mono ?_
          rintro e w4 ⟨rfl, rfl⟩
          clear FR
          go_wp2_with fail
          exact ⟨⟨k + 1, by omega, by go_num, Lib.hid ⟨s', HST.out, hpg2, hfp2, by push_cast; omega, by push_cast; omega, (A3.out.re (B := pmA c s' * blk X _) (by unfold stA; rfl)).dropr⟩⟩, by simp [intOf]; omega⟩
        · have k1 : f0 % 4 = 1 := by omega
          obtain ⟨ee, s', ST, TR⟩ := pm_put_any (c := c) hs (p + 1) y (by rw [hpg]; omega) (by omega) (by omega) (by omega)
          have C := Lib.hid (H2.tri1 TR)
          have ev : ((s'.fr p : Nat) : Int) - 1 = f := by rw [ST.fr p (by omega) (by rw [hfp]; omega), hfp]; push_cast; omega
          have hpg2 : s'.pages = 131072 := by rw [ST.pages, hpg]
          have hfp2 : s'.fr p = f + 1 := by rw [ST.fr p (by omega) (by rw [hfp]; omega), hfp]
          have q1 := ST.t1
          have q2 := ST.t2
          have FRX := fun (w : World) (h : At (stA c X s' f0 f1 f2) W (fun _ => False) w) => At.ask (A := pmA c s') (h.re (B := pmA c s' * blk X (.cells #[.int .u8 f0, .int .i64 f1, .int .i64 f2] 49 (0, 0))) (by unfold stA; rfl)) (pm_frame_ok ST.ok p (by rw [hpg2]; omega) (by rw [hfp2]; omega))
          rw [ev] at FRX
          have HST := Lib.hid ST.ok
          have FRH := Lib.hid FRX
          clear TR ST FRX ev hfp hs
          go_wp2_with fail
          refine C.out.mono ?_
          rintro e w3 ⟨rfl, a3⟩
          have A3 : Hid (At (stA c X s' f0 f1 f2) W (fun _ => False) w3) := Lib.hid a3
          have FR := Lib.hid (FRH.out w3 A3.out)
          clear a3 C FRH
          go_wp2_with fail
          refine FR.out.mono ?_
          rintro e w4 ⟨rfl, rfl⟩
          clear FR
          go_wp2_with fail
          exact ⟨⟨k + 1, by omega, by go_num, Lib.hid ⟨s', HST.out, hpg2, hfp2, by push_cast; omega, by push_cast; omega, (A3.out.re (B := pmA c s' * blk X _) (by unfold stA; rfl)).dropr⟩⟩, by simp [intOf]; omega⟩
      · have hI : ¬ (x : Int) = (p : Int) := by omega
        by_cases k2 : f0 % 4 = 2
        · obtain ⟨g, ee, s', ST, TR⟩ := pm_drop_any (c := c) hs (x) (by rw [hpg]; omega) (by omega) (by omega)
          have C := Lib.hid (H2.tri1 TR)
          have ev : ((s'.fr p : Nat) : Int) - 1 = f := by rw [ST.fr p (by omega) (by rw [hfp]; omega), hfp]; push_cast; omega
          have hpg2 : s'.pages = 131072 := by rw [ST.pages, hpg]
          have hfp2 : s'.fr p = f + 1 := by rw [ST.fr p (by omega) (by rw [hfp]; omega), hfp]
          have q1 := ST.t1
          have q2 := ST.t2
          have FRX := fun (w : World) (h : At (stA c X s' f0 f1 f2) W (fun _ => False) w) => At.ask (A := pmA c s') (h.re (B := pmA c s' * blk X (.cells #[.int .u8 f0, .int .i64 f1, .int .i64 f2] 49 (0, 0))) (by unfold stA; rfl)) (pm_frame_ok ST.ok p (by rw [hpg2]; omega) (by rw [hfp2]; omega))
          rw [ev] at FRX
          have HST := Lib.hid ST.ok
          have FRH := Lib.hid FRX
          clear TR ST FRX ev hfp hs
          go_wp2_with fail
          refine C.out.mono ?_
          rintro e w3 ⟨rfl, a3⟩
          have A3 : Hid (At (stA c X s' f0 f1 f2) W (fun _ => False) w3) := Lib.hid a3
          have FR := Lib.hid (FRH.out w3 A3.out)
          clear a3 C FRH
          go_wp2_with fail
          refine FR.out.mono ?_
          rintro e w4 ⟨rfl, rfl⟩
          clear FR
          go_wp2_with fail
          exact ⟨⟨k + 1, by omega, by go_num, Lib.hid ⟨s', HST.out, hpg2, hfp2, by push_cast; omega, by push_cast; omega, (A3.out.re (B := pmA c s' * blk X _) (by unfold stA; rfl)).dropr⟩⟩, by simp [intOf]; omega⟩
        by_cases k3 : f0 % 4 = 3
        · obtain ⟨ee, s', ST, TR⟩ := pm_move_any (c := c) hs (x) y (by rw [hpg]; omega) (by rw [hpg]; omega) (by omega) (by omega)
          have C := Lib.hid (H2.tri1 TR)
          have ev : ((s'.fr p : Nat) : Int) - 1 = f := by rw [ST.fr p (by omega) (by rw [hfp]; omega), hfp]; push_cast; omega
          have hpg2 : s'.pages = 131072 := by rw [ST.pages, hpg]
          have hfp2 : s'.fr p = f + 1 := by rw [ST.fr p (by omega) (by rw [hfp]; omega), hfp]
          have q1 := ST.t1
          have q2 := ST.t2
          have FRX := fun (w : World) (h : At (stA c X s' f0 f1 f2) W (fun _ => False) w) => At.ask (A := pmA c s') (h.re (B := pmA c s' * blk X (.cells #[.int .u8 f0, .int .i64 f1, .int .i64 f2] 49 (0, 0))) (by unfold stA; rfl)) (pm_frame_ok ST.ok p (by rw [hpg2]; omega) (by rw [hfp2]; omega))
          rw [ev] at FRX
          have HST := Lib.hid ST.ok
          have FRH := Lib.hid FRX
          clear TR ST FRX ev hfp hs
          go_wp2_with fail
          refine C.out.mono ?_
          rintro e w3 ⟨rfl, a3⟩
          have A3 : Hid (At (stA c X s' f0 f1 f2) W (fun _ => False) w3) := Lib.hid a3
          have FR := Lib.hid (FRH.out w3 A3.out)
          clear a3 C FRH
          go_wp2_with fail
          refine FR.out.mono ?_
          rintro e w4 ⟨rfl, rfl⟩
          clear FR
          go_wp2_with fail
          exact ⟨⟨k + 1, by omega, by go_num, Lib.hid ⟨s', HST.out, hpg2, hfp2, by push_cast; omega, by push_cast; omega, (A3.out.re (B := pmA c s' * blk X _) (by unfold stA; rfl)).dropr⟩⟩, by simp [intOf]; omega⟩
        by_cases k0 : f0 % 4 = 0
        · obtain ⟨ee, s', ST, TR⟩ := pm_put_any (c := c) hs (x) y (by rw [hpg]; omega) (by omega) (by omega) (by omega)
          have C := Lib.hid (H2.tri1 TR)
          have ev : ((s'.fr p : Nat) : Int) - 1 = f := by rw [ST.fr p (by omega) (by rw [hfp]; omega), hfp]; push_cast; omega
          have hpg2 : s'.pages = 131072 := by rw [ST.pages, hpg]
          have hfp2 : s'.fr p = f + 1 := by rw [ST.fr p (by omega) (by rw [hfp]; omega), hfp]
          have q1 := ST.t1
          have q2 := ST.t2
          have FRX := fun (w : World) (h : At (stA c X s' f0 f1 f2) W (fun _ => False) w) => At.ask (A := pmA c s') (h.re (B := pmA c s' * blk X (.cells #[.int .u8 f0, .int .i64 f1, .int .i64 f2] 49 (0, 0))) (by unfold stA; rfl)) (pm_frame_ok ST.ok p (by rw [hpg2]; omega) (by rw [hfp2]; omega))
          rw [ev] at FRX
          have HST := Lib.hid ST.ok
          have FRH := Lib.hid FRX
          clear TR ST FRX ev hfp hs
          go_wp2_with fail
          refine C.out.mono ?_
          rintro e w3 ⟨rfl, a3⟩
          have A3 : Hid (At (stA c X s' f0 f1 f2) W (fun _ => False) w3) := Lib.hid a3
          have FR := Lib.hid (FRH.out w3 A3.out)
          clear a3 C FRH
          go_wp2_with fail
          refine FR.out.mono ?_
          rintro e w4 ⟨rfl, rfl⟩
          clear FR
          go_wp2_with fail
          exact ⟨⟨k + 1, by omega, by go_num, Lib.hid ⟨s', HST.out, hpg2, hfp2, by push_cast; omega, by push_cast; omega, (A3.out.re (B := pmA c s' * blk X _) (by unfold stA; rfl)).dropr⟩⟩, by simp [intOf]; omega⟩
        · have k1 : f0 % 4 = 1 := by omega
          obtain ⟨ee, s', ST, TR⟩ := pm_put_any (c := c) hs (x) y (by rw [hpg]; omega) (by omega) (by omega) (by omega)
          have C := Lib.hid (H2.tri1 TR)
          have ev : ((s'.fr p : Nat) : Int) - 1 = f := by rw [ST.fr p (by omega) (by rw [hfp]; omega), hfp]; push_cast; omega
          have hpg2 : s'.pages = 131072 := by rw [ST.pages, hpg]
          have hfp2 : s'.fr p = f + 1 := by rw [ST.fr p (by omega) (by rw [hfp]; omega), hfp]
          have q1 := ST.t1
          have q2 := ST.t2
          have FRX := fun (w : World) (h : At (stA c X s' f0 f1 f2) W (fun _ => False) w) => At.ask (A := pmA c s') (h.re (B := pmA c s' * blk X (.cells #[.int .u8 f0, .int .i64 f1, .int .i64 f2] 49 (0, 0))) (by unfold stA; rfl)) (pm_frame_ok ST.ok p (by rw [hpg2]; omega) (by rw [hfp2]; omega))
          rw [ev] at FRX
          have HST := Lib.hid ST.ok
          have FRH := Lib.hid FRX
          clear TR ST FRX ev hfp hs
          go_wp2_with fail
          refine C.out.mono ?_
          rintro e w3 ⟨rfl, a3⟩
          have A3 : Hid (At (stA c X s' f0 f1 f2) W (fun _ => False) w3) := Lib.hid a3
          have FR := Lib.hid (FRH.out w3 A3.out)
          clear a3 C FRH
          go_wp2_with fail
          refine FR.out.mono ?_
          rintro e w4 ⟨rfl, rfl⟩
          clear FR
          go_wp2_with fail
          exact ⟨⟨k + 1, by omega, by go_num, Lib.hid ⟨s', HST.out, hpg2, hfp2, by push_cast; omega, by push_cast; omega, (A3.out.re (B := pmA c s' * blk X _) (by unfold stA; rfl)).dropr⟩⟩, by simp [intOf]; omega⟩
    · obtain rfl : k = len := by omega
      have hltI : ¬ (k : Int) < (k : Int) := by omega
      have B := Lib.hid HA.below
      have SZ := HA.size
      have L := Lib.hid (plives' wr)
      clear HA
      go_wp2_with (go_at_call 21; refine L.out.mono ?_; rintro e w3 ⟨rfl, hb⟩)
      go_ret
      exact ⟨rfl, Below.step B.out hb SZ⟩

theorem stays_long (p f : Int) (a : Option Addr) (len cap : Nat) (hl : len ≤ cap) (hc : cap ≤ 9223372036854775807) (hlong : 200 < len) (W : World) :
    Calls Try.prog 7 #[.int .u16 p, .int .u16 f, .slice a len cap] W fun e W' => e = .returned (.bool true) ∧ Below W.heap.size W W' := by
  have L := Lib.hid (plives' W)
  go_enter Try.func7, Try.ntmps7
  go_wp2_with (go_at_call 21; refine L.out.mono ?_; rintro e w3 ⟨rfl, hb⟩)
  go_ret
  exact ⟨rfl, hb⟩

theorem stays_law (x0 x1 : Int) (w0 : (Lit.int .u16 x0).wf = true) (w1 : (Lit.int .u16 x1).wf = true) (a : Option Addr) (len cap : Nat) (F : Nat → Nat → Int) (W : World) (hrow : RecRow [.u8, .i64, .i64] W a len cap F) :
    Calls Try.prog 7 #[.int .u16 x0, .int .u16 x1, .slice a len cap] W fun e W' => e = .returned (.bool true) ∧ Below W.heap.size W W' := by
  have b0 := bounds_u16 w0
  have b1 := bounds_u16 w1
  obtain ⟨p, rfl⟩ := Int.eq_ofNat_of_zero_le b0.1
  obtain ⟨f, rfl⟩ := Int.eq_ofNat_of_zero_le b1.1
  by_cases h : len ≤ 200
  · exact stays_short p f (by omega) (by omega) a len cap F h W hrow
  · exact stays_long p f a len cap hrow.lc (by have := hrow.cm; unfold maxLen at this; omega) (by omega) W

end Go.Proofs.Ytpdnbkibnpkfbac.PT
