/- The law ExtentPlays, walked. -/
import Derived.Test.YtaaapbfhedgnjaaDoorExPw
import Derived.Test.YtaaapbfhedgnjaaDoorRecs
import Derived.Deep.CutRange
import Derived.Deep.CutBlock
namespace Go.Proofs.YtaaapbfhedgnjaaDoor.BV
open Go.ChangeShapes Go.WideShapes Go.ChangeAt Go.RowKit

theorem rec_cellsP {W : World} {a : Option Addr} {len cap : Nat} {F : Nat → Nat → Int} (hrow : RecRow [.u8, .i64, .i64] W a len cap F) : ∀ wr, Below W.heap.size W wr → ∀ j, j < len → ∃ q off, a = some ⟨q, off, none⟩ ∧ wr.cell? ⟨q, off + j * 3, none⟩ = some (.int .u8 (F j 0)) ∧ wr.cell? ⟨q, off + j * 3 + 1, none⟩ = some (.int .i64 (F j 1)) ∧ wr.cell? ⟨q, off + j * 3 + 2, none⟩ = some (.int .i64 (F j 2)) := by
  intro wr hb j hj
  obtain ⟨q, off, ha, hq, hc⟩ := hrow.at_ j hj
  exact ⟨q, off, ha, (hb.cell (p := ⟨q, _, none⟩) hq).trans (hc 0 _ rfl), (hb.cell (p := ⟨q, _, none⟩) hq).trans (hc 1 _ rfl), (hb.cell (p := ⟨q, _, none⟩) hq).trans (hc 2 _ rfl)⟩

theorem emay_any (n : Int) (w : World) : Calls Tryd.prog 24 #[.int .i64 n] w fun e w' => e = .returned (.bool (decide (1 ≤ n ∧ n ≤ 1048576))) ∧ w = w' := by
  by_cases h0 : 1 ≤ n
  · by_cases h1 : n ≤ 1048576
    · rw [decide_eq_true (And.intro h0 h1)]
      go_enter Tryd.func24, Tryd.ntmps24
      go_wp2
      go_ret
      exact ⟨rfl, rfl⟩
    · rw [decide_eq_false (fun g => h1 g.2)]
      go_enter Tryd.func24, Tryd.ntmps24
      go_wp2
      go_ret
      exact ⟨rfl, rfl⟩
  · rw [decide_eq_false (fun g => h0 g.1)]
    go_enter Tryd.func24, Tryd.ntmps24
    go_wp2
    go_ret
    exact ⟨rfl, rfl⟩

set_option maxRecDepth 100000 in
theorem eplays_bad (n : Int) (hn : ¬ (1 ≤ n ∧ n ≤ 1048576)) (a : Option Addr) (len cap : Nat) (W : World) (hT : Tab W) :
    Calls Tryd.prog 6 #[.int .i64 n, .slice a len cap] W fun e W' => e = .returned (.bool true) ∧ Below W.heap.size W W' := by
  have N := Lib.hid (ex_new_bad n (by omega) W)
  have M := Lib.hid (emay_any n W)
  rw [decide_eq_false hn] at M
  have L := Lib.hid (elives W hT)
  clear hT
  go_enter Tryd.func6, Tryd.ntmps6
  go_wp2_with (first | (go_at_call 23; with_reducible refine N.out.mono ?_; rintro e1 w1 ⟨rfl, rfl⟩) | (go_at_call 24; with_reducible refine M.out.mono ?_; rintro e1 w1 ⟨rfl, rfl⟩) | (go_at_call 25; refine L.out.mono ?_; rintro e1 w1 ⟨rfl, hb⟩))
  go_ret
  exact ⟨rfl, hb⟩

set_option maxRecDepth 100000 in
theorem eplays_long (n : Nat) (h1 : 1 ≤ n) (h2 : n ≤ 1048576) (a : Option Addr) (len cap : Nat) (hbig : 600 < n ∨ 80 < len) (hlen : len ≤ 9223372036854775807) (W : World) (hT : Tab W) :
    Calls Tryd.prog 6 #[.int .i64 n, .slice a len cap] W fun e W' => e = .returned (.bool true) ∧ Below W.heap.size W W' := by
  have N := Lib.hid (At.tri (At.pure_in trivial (At.emp W)) (ex_new_ok n h1 h2))
  have M := Lib.hid (fun w => emay_any (n : Int) w)
  rw [decide_eq_true (by omega : 1 ≤ (n : Int) ∧ (n : Int) ≤ 1048576)] at M
  have L := Lib.hid (fun (w : World) (p : Nat) (h : At (exA p n (fun _ => 0) 0 * pur True) W (fun _ => False) w) => elives w (At.tabB hT h))
  clear hT
  go_enter Tryd.func6, Tryd.ntmps6
  go_wp2_with fail
  refine N.out.mono ?_
  rintro e w1 ⟨p, rfl, a1⟩
  have L0 := Lib.hid (L.out _ p a1)
  have M0 := Lib.hid (M.out w1)
  have B := Lib.hid a1.below
  have SZ := Lib.hid a1.size
  clear N M L a1
  by_cases hn : 600 < n
  · have hnI : (600 : Int) < (n : Int) := by omega
    clear hbig
    go_wp2_with (first | (go_at_call 24; with_reducible refine M0.out.mono ?_; rintro e1 w1 ⟨rfl, rfl⟩) | (go_at_call 25; refine L0.out.mono ?_; rintro e1 w2 ⟨rfl, hb⟩))
    go_ret
    exact ⟨rfl, Below.step B.out hb SZ.out⟩
  · have hnI : ¬ (600 : Int) < (n : Int) := by omega
    have hll : (80 : Int) < (len : Int) := by omega
    clear hbig
    go_wp2_with (first | (go_at_call 24; with_reducible refine M0.out.mono ?_; rintro e1 w1 ⟨rfl, rfl⟩) | (go_at_call 25; refine L0.out.mono ?_; rintro e1 w2 ⟨rfl, hb⟩))
    go_ret
    exact ⟨rfl, Below.step B.out hb SZ.out⟩

def Bothly (c p q n : Nat) (w0 : World) (v : Value) (w : World) : Prop := ∃ (sz : Nat → Nat) (L : List (Nat × Nat)), ExOk n sz ∧ Rep sz L ∧ At (eA c p q n sz L v) w0 (fun _ => False) w

set_option maxRecDepth 100000 in
set_option maxHeartbeats 8000000 in
theorem eplays_short (n : Nat) (h1 : 1 ≤ n) (a : Option Addr) (len cap : Nat) (F : Nat → Nat → Int) (hs : n ≤ 600 ∧ len ≤ 80) (W : World) (hT : Tab W) (hrow : RecRow [.u8, .i64, .i64] W a len cap F) :
    Calls Tryd.prog 6 #[.int .i64 n, .slice a len cap] W fun e W' => e = .returned (.bool true) ∧ Below W.heap.size W W' := by
  have hn : ¬ (600 : Int) < (n : Int) := by omega
  have hl0 : ¬ (80 : Int) < (len : Int) := by omega
  have cell := Lib.hid (rec_cellsP hrow)
  have BD : Hid (∀ j, j < len → (0 ≤ F j 0 ∧ F j 0 ≤ 255) ∧ (-9223372036854775808 ≤ F j 1 ∧ F j 1 ≤ 9223372036854775807) ∧ (-9223372036854775808 ≤ F j 2 ∧ F j 2 ≤ 9223372036854775807)) := Lib.hid fun j hj => ⟨bounds_u8 (hrow.wf j hj 0 _ rfl), bounds_i64 (hrow.wf j hj 1 _ rfl), bounds_i64 (hrow.wf j hj 2 _ rfl)⟩
  have N := Lib.hid (At.tri (At.pure_in trivial (At.emp W)) (ex_new_ok n h1 (by omega)))
  have M := Lib.hid (fun w => emay_any (n : Int) w)
  rw [decide_eq_true (by omega : 1 ≤ (n : Int) ∧ (n : Int) ≤ 1048576)] at M
  have START : Hid (∀ c w', At (exA c n (fun _ => 0) 0 * pur True) W (fun _ => False) w' → ∃ p q, Bothly c p q n W (.slice none 0 0) w') := Lib.hid fun c w' h => by
    obtain ⟨⟨p, q⟩, h2⟩ := At.opens h
    refine ⟨p, q, fun _ => 0, [], ex_zero n h1 (by omega), Rep.nil, ?_⟩
    have h3 := (At.nounit h2).own_nil 92 2
    exact h3.re (by unfold eA oA; show own _ _ _ 0 [] * _ = exX c p q n (fun _ => 0) ((0 : Nat) : Int) * own _ _ _ 0 []; exact Asn.star_comm _ _)
  have HT := Lib.hid (fun (A : Asn) (w : World) (h : At A W (fun _ => False) w) => At.tabB hT h)
  have END := Lib.hid (fun (w : World) (A : Asn) (h : At A W (fun _ => False) w) => elives w (At.tabB hT h))
  clear hT hrow
  go_enter Tryd.func6, Tryd.ntmps6
  go_wp2_with fail
  refine N.out.mono ?_
  rintro e w1 ⟨c, rfl, a1⟩
  obtain ⟨p, q, a2⟩ := START.out c _ a1
  have A0 := Lib.hid a2
  have M0 := Lib.hid (M.out w1)
  clear a1 a2 N START M
  go_wp2_with (go_at_call 24; with_reducible refine M0.out.mono ?_; rintro e1 w2 ⟨rfl, rfl⟩)
  clear M0
  go_loopw [8, 64] (fun lv i wr => ∃ (k : Nat), k ≤ len ∧ i = .int .i64 k ∧ Hid (Bothly c p q n W lv wr)) (fun _ i _ => len - (intOf i).toNat)
  case atStart => exact ⟨0, Nat.zero_le _, rfl, A0⟩
  case round =>
    clear A0
    obtain ⟨k, hk, rfl, HR⟩ := hrel
    obtain ⟨sz, L, ok, rep, hA⟩ := HR.out
    clear HR
    by_cases hlt : k < len
    · obtain ⟨d, off, rfl, hc0, hc1, hc2⟩ := cell.out wr hA.below k hlt
      obtain ⟨b0, b1, b2⟩ := BD.out k hlt
      have hltI : (k : Int) < (len : Int) := by omega
      generalize F k 0 = f0 at *
      generalize F k 1 = f1 at *
      generalize F k 2 = f2 at *
      have A2 := dA_box f0 f1 f2 hA
      obtain ⟨av, cv, rfl, _⟩ := dA_oc A2
      obtain ⟨Y, hY⟩ : ∃ Y, wr.heap.size = Y := ⟨_, rfl⟩
      rw [hY] at A2
      obtain ⟨y0, y1, y2⟩ := dA_cells A2
      have A2 := Lib.hid A2
      have OK := Lib.hid ok
      have REP := Lib.hid rep
      clear hA ok rep
      go_upto_block 2 with fail
      try rw [hY]
      have HY := Lib.hid hY
      clear hY
      go_cut [8, 11, 12, 13, 14, 15, 16, 17] from 68 to 123 (fun lv _ _ _ _ _ _ _ wc => Hid (Alike c p q n Y f0 f1 f2 W (fun _ => False) lv wc))
      case first =>
        clear BD cell END hc0 hc1 hc2
        by_cases m5 : f0 % 8 = 5 ∨ f0 % 8 = 6
        · obtain ⟨z, b, M, D1, D2, D3⟩ := a_drop OK.out (by omega) REP.out (HT.out _ _ A2.out) A2.out
          have D1 := Lib.hid D1
          have D2 := Lib.hid D2
          have D3 := Lib.hid D3
          clear A2 OK REP HT
          rcases m5 with m5 | m5
          all_goals
            go_wp2_with fail
            refine D1.out.mono ?_
            rintro e w2 ⟨rfl, hM⟩
            clear y0 y1 y2
            have y1 := D2.out _ hM
            have D4 := Lib.hid (D3.out _ hM)
            clear hM D1 D2 D3
            go_wp2_with fail
            refine D4.out.mono ?_
            rintro e w3 ⟨m', b', c', rfl, hAl⟩
            have AL := Lib.hid hAl
            clear hAl D4 y1
            go_wp2_with fail
            go_meet
            case rel => exact AL
        · have m5a : ¬ f0 % 8 = 5 := fun h => m5 (.inl h)
          have m5b : ¬ f0 % 8 = 6 := fun h => m5 (.inr h)
          clear m5
          by_cases m7 : f0 % 8 = 7
          · by_cases hz : f2 = 0
            · subst hz
              have D1 := Lib.hid (a_wipe OK.out A2.out)
              clear A2 OK REP HT
              go_wp2_with fail
              refine D1.out.mono ?_
              rintro e w2 ⟨rfl, hAl⟩
              have AL := Lib.hid hAl
              clear hAl D1
              go_wp2_with fail
              go_meet
              case rel => exact AL
            · have AL : Hid (Alike c p q n Y f0 f1 f2 W (fun _ => False) (.slice av L.length cv) (wr.alloc (.cells #[.int .u8 f0, .int .i64 f1, .int .i64 f2] 53))) := Lib.hid ⟨sz, L, OK.out, REP.out, A2.out⟩
              clear A2 OK REP HT
              go_wp2_with fail
              go_meet
              case rel => exact AL
          · obtain ⟨z, M, D1, D2, D3⟩ := a_add OK.out (by omega) REP.out b1.2 b2.2 (HT.out _ _ A2.out) HT.out A2.out
            have D1 := Lib.hid D1
            have D2 := Lib.hid D2
            have D3 := Lib.hid D3
            clear A2 OK REP HT
            go_wp2_with fail
            refine D1.out.mono ?_
            rintro e w2 ⟨b', m', c', rfl, hM⟩
            clear y0 y1 y2
            obtain ⟨y1, y2⟩ := D2.out _ _ _ _ hM
            have D4 := Lib.hid (D3.out _ _ _ _ hM)
            clear hM D1 D2 D3
            go_wp2_with fail
            refine D4.out.mono ?_
            rintro e w3 ⟨rfl, hAl⟩
            have AL := Lib.hid hAl
            clear hAl D4 y1 y2
            go_wp2_with fail
            go_meet
            case rel => exact AL
      case rest =>
        clear A2 OK REP y0 y1 y2 hc0 hc1 hc2
        obtain ⟨sz', L', ok', rep', hA⟩ := hcut.out
        clear hcut
        obtain ⟨a', cap', rfl, _⟩ := dA_oc hA
        obtain ⟨y0, y1, y2⟩ := dA_cells hA
        obtain ⟨sm, hln⟩ := rep'.sm ok'
        obtain ⟨j1, s1, z1, v1, Fa, Fb, Fc⟩ := q_find (w0 := W) (S := fun _ => False) (c := c) (p := p) (q := q) (Y := Y) (f0 := f0) (f1 := f1) (f2 := f2) (a := a') (cap := cap') ok' rep' f1 b1.2
        obtain ⟨j2, s2, z2, v2, Na, Nb, Nc⟩ := q_next (w0 := W) (S := fun _ => False) (c := c) (p := p) (q := q) (Y := Y) (f0 := f0) (f1 := f1) (f2 := f2) (a := a') (cap := cap') ok' rep' f2
        obtain ⟨x3, v3, Wa, Wb⟩ := q_word (w0 := W) (S := fun _ => False) (c := c) (p := p) (q := q) (Y := Y) (f0 := f0) (f1 := f1) (f2 := f2) (a := a') (cap := cap') ok' (by omega) rep' f2 b2.2 HT.out
        have F1 := Lib.hid (Fa _ (HT.out _ _ hA) hA)
        have F2 := Lib.hid (Fb _ hA)
        have Fc := Lib.hid Fc
        have Na := Lib.hid (fun w h => Na w (HT.out _ _ h) h)
        have Nb := Lib.hid Nb
        have Nc := Lib.hid Nc
        have Wa := Lib.hid Wa
        have DC := Lib.hid (fun (w : World) (h : At (dA c p q n sz' L' (.slice a' L'.length cap') Y f0 f1 f2) W (fun _ => False) w) => dA_cells h)
        clear Fa Fb
        have LA := Lib.hid (fun (w : World) (h : At (dA c p q n sz' L' (.slice a' L'.length cap') Y f0 f1 f2) W (fun _ => False) w) (m : Nat) => ex_live ok' f1 f2 (HT.out _ _ (h.drewN m)) (h.drewN m))
        have LB := Lib.hid (fun (w : World) (h : At (dA c p q n sz' L' (.slice a' L'.length cap') Y f0 f1 f2) W (fun _ => False) w) (m : Nat) => r13_live (cap := cap') sm n (by omega) f1 f2 (dA_oc' (h.drewN m)))
        have OA := Lib.hid (fun (w : World) (h : At (dA c p q n sz' L' (.slice a' L'.length cap') Y f0 f1 f2) W (fun _ => False) w) (m : Nat) => ex_objs (h.drewN m))
        have WA := Lib.hid (fun (w : World) (h : At (dA c p q n sz' L' (.slice a' L'.length cap') Y f0 f1 f2) W (fun _ => False) w) (m : Nat) => ex_words (h.drewN m))
        rw [rep'.live ok'.s f1 f2] at LB
        have LE : cp (lvR sz' f1 f2) n ≤ n := cp_le _ _
        have FIN : Hid (∀ w m, At (dA c p q n sz' L' (.slice a' L'.length cap') Y f0 f1 f2) W (fun _ => False) w → Bothly c p q n W (.slice a' L'.length cap') (w.drewN m)) := Lib.hid fun w m h => ⟨sz', L', ok', rep', dA_end (h.drewN m)⟩
        generalize cp (lvR sz' f1 f2) n = G at *
        clear ok' rep' hA sm HT BD cell END
        go_wp2_with fail
        refine F1.out.mono ?_
        rintro e w2 ⟨rfl, rfl⟩
        go_wp2_with fail
        refine F2.out.mono ?_
        rintro e w2 ⟨rfl, hA⟩
        have F3 := Lib.hid (Fc.out _ hA)
        have N1 := Lib.hid (Na.out _ hA)
        have N2 := Lib.hid (Nb.out _ hA)
        have N3 := Lib.hid (Nc.out _ hA)
        have W1 := Lib.hid (Wa.out _ hA)
        clear F1 F2 y0 y1 y2
        obtain ⟨y0, y1, y2⟩ := DC.out _ hA
        clear hA Fc Na Nb Nc Wa
        go_wp2_with fail
        refine F3.out.mono ?_
        rintro e w3 ⟨rfl, rfl⟩
        go_wp2_with fail
        refine N1.out.mono ?_
        rintro e w3 ⟨rfl, rfl⟩
        go_wp2_with fail
        refine N2.out.mono ?_
        rintro e w3 ⟨rfl, rfl⟩
        go_wp2_with fail
        refine N3.out.mono ?_
        rintro e w3 ⟨rfl, rfl⟩
        go_wp2_with fail
        refine W1.out.mono ?_
        rintro e w3 ⟨rfl, hA⟩
        clear F3 N1 N2 N3 W1 y0 y1 y2
        obtain ⟨y0, y1, y2⟩ := DC.out _ hA
        have LA := Lib.hid (LA.out _ hA)
        have LB := Lib.hid (LB.out _ hA)
        have OA := Lib.hid (OA.out _ hA)
        have WA := Lib.hid (WA.out _ hA)
        have FIN := Lib.hid (fun m => FIN.out _ m hA)
        have i1 : ((x3 : Int) != (x3 : Int)) = false := by simp
        have i2 : (v3 != v3) = false := by simp
        have i3 : ((G : Int) != (G : Int)) = false := by simp
        have i4 : ((L'.length : Int) != (L'.length : Int)) = false := by simp
        have i5 : ((n : Int) != (n : Int)) = false := by simp
        rcases Wb with ⟨g1, g2, Wb⟩ | ⟨g1, rfl, rfl, Wb⟩
        · have R1 := Lib.hid (Wb _ hA)
          have g2' : ¬ (100000 : Int) < f2 := by omega
          have g1' : ¬ f2 < 0 := by omega
          clear hA DC Wb
          go_wp2_with fail
          refine R1.out.mono ?_
          rintro e w4 ⟨rfl, rfl⟩
          clear R1
          go_wp2_with fail
          go_quiet (first | (go_at_call 38; exact Calls.quiet_of ((LA.out _).mono fun _ _ ⟨a, b⟩ => ⟨a, 0, b.symm⟩)) | (go_at_call 39; exact Calls.quiet_of (LB.out _)) | (go_at_call 40; exact Calls.quiet_of ((OA.out _).mono fun _ _ ⟨a, b⟩ => ⟨a, 0, b.symm⟩)) | (go_at_call 41; exact Calls.quiet_of ((WA.out _).mono fun _ _ ⟨a, b⟩ => ⟨a, 0, b.symm⟩)))
          go_wp2_with fail
          exact ⟨⟨k + 1, by omega, by go_num, Lib.hid (FIN.out _)⟩, by simp [intOf]; omega⟩
        · have R1 := Lib.hid (Wb _ hA)
          clear hA DC Wb
          by_cases g2 : (100000 : Int) < f2
          · clear g1
            go_wp2_with fail
            refine R1.out.mono ?_
            rintro e w4 ⟨⟨yy, bb, rfl⟩, rfl⟩
            clear R1
            go_wp2_with fail
            go_quiet (first | (go_at_call 38; exact Calls.quiet_of ((LA.out _).mono fun _ _ ⟨a, b⟩ => ⟨a, 0, b.symm⟩)) | (go_at_call 39; exact Calls.quiet_of (LB.out _)) | (go_at_call 40; exact Calls.quiet_of ((OA.out _).mono fun _ _ ⟨a, b⟩ => ⟨a, 0, b.symm⟩)) | (go_at_call 41; exact Calls.quiet_of ((WA.out _).mono fun _ _ ⟨a, b⟩ => ⟨a, 0, b.symm⟩)))
            go_wp2_with fail
            exact ⟨⟨k + 1, by omega, by go_num, Lib.hid (FIN.out _)⟩, by simp [intOf]; omega⟩
          · have g1' : f2 < 0 := by omega
            clear g1
            go_wp2_with fail
            refine R1.out.mono ?_
            rintro e w4 ⟨⟨yy, bb, rfl⟩, rfl⟩
            clear R1
            go_wp2_with fail
            go_quiet (first | (go_at_call 38; exact Calls.quiet_of ((LA.out _).mono fun _ _ ⟨a, b⟩ => ⟨a, 0, b.symm⟩)) | (go_at_call 39; exact Calls.quiet_of (LB.out _)) | (go_at_call 40; exact Calls.quiet_of ((OA.out _).mono fun _ _ ⟨a, b⟩ => ⟨a, 0, b.symm⟩)) | (go_at_call 41; exact Calls.quiet_of ((WA.out _).mono fun _ _ ⟨a, b⟩ => ⟨a, 0, b.symm⟩)))
            go_wp2_with fail
            exact ⟨⟨k + 1, by omega, by go_num, Lib.hid (FIN.out _)⟩, by simp [intOf]; omega⟩
    · obtain rfl : k = len := by omega
      have hltI : ¬ (k : Int) < (k : Int) := by omega
      have L0 := Lib.hid (END.out wr _ hA)
      have B := Lib.hid hA.below
      have SZ := Lib.hid hA.size
      clear hA cell END ok rep HT BD
      go_wp2_with (go_at_call 25; refine L0.out.mono ?_; rintro e w3 ⟨rfl, hb⟩)
      go_ret
      exact ⟨rfl, Below.step B.out hb SZ.out⟩

theorem eplays_law (x : Int) (h0 : (Lit.int .i64 x).wf = true) (a : Option Addr) (len cap : Nat) (F : Nat → Nat → Int) (W : World) (hT : Tab W) (hrow : RecRow [.u8, .i64, .i64] W a len cap F) :
    Calls Tryd.prog 6 #[.int .i64 x, .slice a len cap] W fun e W' => e = .returned (.bool true) ∧ Below W.heap.size W W' := by
  have hcm : len ≤ 9223372036854775807 := by have := hrow.cm; have := hrow.lc; unfold maxLen at *; omega
  by_cases hn : 1 ≤ x ∧ x ≤ 1048576
  · obtain ⟨n, rfl⟩ := Int.eq_ofNat_of_zero_le (show 0 ≤ x by omega)
    by_cases hb : 600 < n ∨ 80 < len
    · exact eplays_long n (by omega) (by omega) a len cap hb hcm W hT
    · exact eplays_short n (by omega) a len cap F (by omega) W hT hrow
  · exact eplays_bad x hn a len cap W hT

end Go.Proofs.YtaaapbfhedgnjaaDoor.BV
