/- The law RootsPlays: the loop. -/
import Derived.Test.YtpdnbkibnpkfbadRtF
namespace Go.Proofs.Ytpdnbkibnpkfbad
open Go.ChangeShapes Go.WideShapes Go.ChangeAt Go.RowKit

set_option maxHeartbeats 8000000 in
set_option maxRecDepth 100000 in
theorem plays_short (n : Nat) (h1 : 1 ≤ n) (h2 : n ≤ 64) (a : Option Addr) (len cap : Nat) (F : Nat → Nat → Int) (hl : len ≤ 200) (W : World) (hrow : RecRow [.u8, .i64, .i64] W a len cap F) :
    Calls Try.prog 6 #[.int .i64 n, .slice a len cap] W fun e W' => e = .returned (.bool true) ∧ Below W.heap.size W W' := by
  have NB := Lib.hid (new_ok n h1 h2)
  obtain ⟨i0, hi, hz0, hz1, hz2⟩ := info_parts infInt
  have HI := Lib.hid hi
  have HZ0 := Lib.hid hz0
  have HZ1 := Lib.hid hz1
  have HZ2 := Lib.hid hz2
  clear hi hz0 hz1 hz2
  have hcl : len ≤ cap := hrow.lc
  have hcm : cap ≤ 9223372036854775807 := by have := hrow.cm; unfold maxLen at this; omega
  have cell : Hid (∀ wr, Below W.heap.size W wr → ∀ j, j < len → ∃ q off, a = some ⟨q, off, none⟩ ∧ wr.cell? ⟨q, off + j * 3, none⟩ = some (.int .u8 (F j 0)) ∧ wr.cell? ⟨q, off + j * 3 + 1, none⟩ = some (.int .i64 (F j 1)) ∧ wr.cell? ⟨q, off + j * 3 + 2, none⟩ = some (.int .i64 (F j 2)) ∧ 0 ≤ F j 0 ∧ F j 0 ≤ 255 ∧ -9223372036854775808 ≤ F j 2 ∧ F j 2 ≤ 9223372036854775807) := by
    intro wr hb j hj
    obtain ⟨q, off, ha, hq, hc⟩ := hrow.at_ j hj
    have b0 := bounds_u8 (hrow.wf j hj 0 _ rfl)
    have b2 := bounds_i64 (hrow.wf j hj 2 _ rfl)
    exact ⟨q, off, ha, (hb.cell (p := ⟨q, _, none⟩) hq).trans (hc 0 _ rfl), (hb.cell (p := ⟨q, _, none⟩) hq).trans (hc 1 _ rfl), (hb.cell (p := ⟨q, _, none⟩) hq).trans (hc 2 _ rfl), b0.1, b0.2, b2.1, b2.2⟩
  clear hrow
  go_enter Try.func6, Try.ntmps6
  go_wp2_with (first | (go_at_call 24; refine (NB.out _).mono ?_; rintro e w1 ⟨c, b, rfl, hs, hb, hc, hf⟩) | (at_make; refine wpList_make_row _ rfl _ _ 48 rfl 3 i0 (.int .i64 0) Try.underlying48 HI.out HZ0.out HZ1.out rfl _ _ n rfl rfl ?b2 ?b3 ?_))
  case b2 => rw [HZ2.out]; omega
  case b3 => omega
  have start : QQ W (w1.alloc (.cells (madeCells #[.int .i64 0] n) 3)) c b w1.heap.size n (fun _ => 0) (fun _ => 0) 0 none := by
    have fa : Fr (fun _ => False) w1 (w1.alloc (.cells (madeCells #[.int .i64 0] n) 3)) := (Fr.refl _ w1).alloc _
    have l1 := lt_of_block hs.1
    have l2 := hs.2.1.lt
    exact ⟨hs.fr fa (fun h => h) (fun h => h), made_row w1 n, by omega, by omega, hc, hb, hf.size, fun i _ => by omega, fun h => absurd rfl h, fun h => absurd rfl h, hf.alloc _⟩
  generalize hd : w1.heap.size = d at start
  generalize (w1.alloc (.cells (madeCells #[.int .i64 0] n) 3)) = w2 at start ⊢
  clear hs hb hc hf NB HI HZ0 HZ1 HZ2 hd
  go_wp2
  go_loopw [58] (fun i wr => ∃ (k : Nat) (xs : Nat → Int), k ≤ len ∧ i = .int .i64 k ∧ QQ W wr c b d n xs xs 0 none) (fun i _ => len - (intOf i).toNat)
  case atStart => exact ⟨0, fun _ => 0, Nat.zero_le _, rfl, start⟩
  case round =>
    clear start
    obtain ⟨k, xs, hk, rfl, hp⟩ := hrel
    have hbel : Below W.heap.size W wr := hp.fr.below (Nat.le_refl _) (fun _ _ h => h)
    by_cases hlt : k < len
    · obtain ⟨q, off, rfl, hc0, hc1, hc2, hK0, hK1, hB0, hB1⟩ := cell.out wr hbel k hlt
      have hltI : (k : Int) < (len : Int) := by omega
      have hp2 := hp.act (.cells #[.int .u8 (F k 0), .int .i64 (F k 1), .int .i64 (F k 2)] 61)
      clear hp
      have h4 : F k 0 % 4 = 2 ∨ F k 0 % 4 = 3 ∨ (F k 0 % 4 < 2 ∧ 0 ≤ F k 0 % 4) := by omega
      rcases h4 with h4 | h4 | ⟨h4, h40⟩
      · have C1 : Hid (∀ w', QQ W w' c b d n xs xs wr.heap.size (some (.cells #[.int .u8 (F k 0), .int .i64 (F k 1), .int .i64 (F k 2)] 61 (0, 0))) → _) := fun w' h => QQ.copy h (F k 1) (F k 2)
        have C2 : Hid (∀ w', QQ W w' c b d n (copyF n xs (F k 1) (F k 2)) xs wr.heap.size (some (.cells #[.int .u8 (F k 0), .int .i64 (F k 1), .int .i64 (F k 2)] 61 (0, 0))) → _) := fun w' h => QQ.rcopy h h2 (F k 1) (F k 2)
        have hp2d := hp2.drewN 1
        have hbx := QQ.box hp2
        clear hp2
        generalize copyE n (F k 1) (F k 2) = ee at C1 C2
        go_wp2_with fail
        all_goals go_region_held3 (fun w' => w'.cell? ⟨wr.heap.size, 1, none⟩ = some (.int .i64 (F k 1)) ∧ w'.cell? ⟨wr.heap.size, 2, none⟩ = some (.int .i64 (F k 2))) (first | exact hbx | exact QQ.box (by assumption))
          (first | (go_at_call 28; refine (C1.out _ hp2d).mono ?_; rintro e w2 ⟨rfl, hp3⟩) | (go_at_call 29; refine (C2.out _ (by assumption)).mono ?_; rintro e w3 ⟨rfl, hp4⟩))
        all_goals clear C1 C2 hp2d
        all_goals (
            have G1 : Hid (∀ w', QQ W w' c b d n (copyF n xs (F k 1) (F k 2)) (copyF n xs (F k 1) (F k 2)) wr.heap.size (some (.cells #[.int .u8 (F k 0), .int .i64 (F k 1), .int .i64 (F k 2)] 61 (0, 0))) → _) := fun w' h => QQ.get h (F k 2)
            have G2 : Hid (∀ w', QQ W w' c b d n (copyF n xs (F k 1) (F k 2)) (copyF n xs (F k 1) (F k 2)) wr.heap.size (some (.cells #[.int .u8 (F k 0), .int .i64 (F k 1), .int .i64 (F k 2)] 61 (0, 0))) → _) := fun w' h => QQ.rget h h2 (F k 2)
            have G3 : Hid (∀ w', QQ W w' c b d n (copyF n xs (F k 1) (F k 2)) (copyF n xs (F k 1) (F k 2)) wr.heap.size (some (.cells #[.int .u8 (F k 0), .int .i64 (F k 1), .int .i64 (F k 2)] 61 (0, 0))) → _) := fun w' h => QQ.all h h2 h1
            obtain ⟨z1, z2⟩ := QQ.box hp4
            generalize getV n (copyF n xs (F k 1) (F k 2)) (F k 2) = gv at G1 G2
            generalize getE n (F k 2) = ge at G1 G2
            go_wp2_with (first | (go_at_call 33; refine (G1.out _ hp4).mono ?_; rintro e w5 ⟨rfl, hp5⟩; obtain ⟨y1, y2⟩ := QQ.box hp5) | (go_at_call 34; refine (G2.out _ hp5).mono ?_; rintro e w6 ⟨rfl, hp6⟩; obtain ⟨x1, x2⟩ := QQ.box hp6) | (go_at_call 35; refine (G3.out _ hp6).mono ?_; rintro e w7 ⟨g, cap', rfl, hA⟩))
            have A0 := hA.cell 0 (by omega)
            have A1 := hA.frz 0
            have SM := Lib.hid (hA.same h2)
            have LN := Lib.hid (fun m => (hA.drewN m).len)
            have FIN : Hid (∀ m u, QQ W ((w7.drewN m).setCell ⟨g, 0, none⟩ u) c b d n (copyF n xs (F k 1) (F k 2)) (copyF n xs (F k 1) (F k 2)) 0 none) := fun m u => (hA.drewN m).poke u
            have ncap := hA.nc
            clear hA G1 G2 G3 hp4 hp5 hp6 z1 z2 y1 y2 x1 x2
            refine (SM.out).mono ?_
            rintro e w8 ⟨rfl, m8, rfl⟩
            go_wp2_with (go_at_call 37; refine (LN.out _).mono ?_; rintro e w9 ⟨rfl, m9, rfl⟩)
            exact ⟨⟨k + 1, _, by omega, by go_num, FIN.out _ _⟩, by simp [intOf]; omega⟩)
      · have T1 := Lib.hid (QQ.turn hp2 h2)
        clear hp2
        go_wp2_with (go_at_call 30; refine (T1.out).mono ?_; rintro e w2 ⟨rfl, hp3⟩)
        clear T1
        generalize wr.heap.size = X at hp3 ⊢
        go_loopw [70] (fun jv wz => ∃ j : Nat, j ≤ n ∧ jv = .int .i64 j ∧ QQ W wz c b d n (turnF (F k 2) xs n) (turnF (F k 2) xs j) X (some (.cells #[.int .u8 (F k 0), .int .i64 (F k 1), .int .i64 (F k 2)] 61 (0, 0)))) (fun jv _ => n - (intOf jv).toNat)
        case atStart => exact ⟨0, by omega, rfl, by rw [turnF_zero]; exact hp3⟩
        case round =>
          clear hp3
          obtain ⟨j, hj, rfl, hq⟩ := hrel
          by_cases hjn : j < n
          · have d0 := World.rowIs.cell hq.rw hjn
            rw [turnF_at] at d0
            have g0 := World.rowIs.frozen hq.rw j
            obtain ⟨z1, z2⟩ := QQ.box hq
            by_cases hz : xs j = 0
            · rw [hz] at d0
              have NX := Lib.hid (turnF_skip (F k 2) xs j hz)
              have HQ := Lib.hid hq
              clear hq
              go_wp2
              case roundEnd => exact ⟨⟨j + 1, by omega, by go_num, by rw [← NX.out]; exact HQ.out⟩, by simp [intOf]; omega⟩
            · have bd := turnedV_bd (xs j) (F k 2)
              have NX := Lib.hid (turnF_put (F k 2) xs j hz)
              have TU := Lib.hid (fun w => turned_any (xs j) (F k 2) w)
              have HQ := Lib.hid hq
              clear hq
              generalize turnedV (xs j) (F k 2) = tv at *
              generalize xs j = xj at *
              have FIN : Hid (∀ m, QQ W ((wr.drewN m).setCell ⟨d, j, none⟩ (.int .i64 (max tv 0))) c b d n (turnF (F k 2) xs n) (turnF (F k 2) xs (j + 1)) X (some (.cells #[.int .u8 (F k 0), .int .i64 (F k 1), .int .i64 (F k 2)] 61 (0, 0)))) := fun m => by
                have r := Rw.set ((HQ.out.drewN m).rw) j (max tv 0)
                rw [NX.out] at r
                exact (HQ.out.drewN m).r r ((Fr.refl (fun k => k = d) _).setCell (p := ⟨d, j, none⟩) (fun _ => rfl) _)
              clear HQ NX
              go_wp2
              go_region_with (go_at_call 32; refine (TU.out _).mono ?_; rintro e1 w1 ⟨rfl, rfl⟩)
              all_goals go_wp2
              all_goals exact ⟨⟨j + 1, by omega, by go_num, FIN.out _⟩, by simp [intOf]; omega⟩
          · obtain rfl : n = j := by omega
            have hp4 := hq
            clear hq
            have G1 : Hid (∀ w', QQ W w' c b d n (turnF (F k 2) xs n) (turnF (F k 2) xs n) X (some (.cells #[.int .u8 (F k 0), .int .i64 (F k 1), .int .i64 (F k 2)] 61 (0, 0))) → _) := fun w' h => QQ.get h (F k 2)
            have G2 : Hid (∀ w', QQ W w' c b d n (turnF (F k 2) xs n) (turnF (F k 2) xs n) X (some (.cells #[.int .u8 (F k 0), .int .i64 (F k 1), .int .i64 (F k 2)] 61 (0, 0))) → _) := fun w' h => QQ.rget h h2 (F k 2)
            have G3 : Hid (∀ w', QQ W w' c b d n (turnF (F k 2) xs n) (turnF (F k 2) xs n) X (some (.cells #[.int .u8 (F k 0), .int .i64 (F k 1), .int .i64 (F k 2)] 61 (0, 0))) → _) := fun w' h => QQ.all h h2 h1
            obtain ⟨z1, z2⟩ := QQ.box hp4
            generalize getV n (turnF (F k 2) xs n) (F k 2) = gv at G1 G2
            generalize getE n (F k 2) = ge at G1 G2
            go_wp2_with (first | (go_at_call 33; refine (G1.out _ hp4).mono ?_; rintro e w5 ⟨rfl, hp5⟩; obtain ⟨y1, y2⟩ := QQ.box hp5) | (go_at_call 34; refine (G2.out _ hp5).mono ?_; rintro e w6 ⟨rfl, hp6⟩; obtain ⟨x1, x2⟩ := QQ.box hp6) | (go_at_call 35; refine (G3.out _ hp6).mono ?_; rintro e w7 ⟨g, cap', rfl, hA⟩))
            have A0 := hA.cell 0 (by omega)
            have A1 := hA.frz 0
            have SM := Lib.hid (hA.same h2)
            have LN := Lib.hid (fun m => (hA.drewN m).len)
            have FIN : Hid (∀ m u, QQ W ((w7.drewN m).setCell ⟨g, 0, none⟩ u) c b d n (turnF (F k 2) xs n) (turnF (F k 2) xs n) 0 none) := fun m u => (hA.drewN m).poke u
            have ncap := hA.nc
            clear hA G1 G2 G3 hp4 hp5 hp6 z1 z2 y1 y2 x1 x2
            refine (SM.out).mono ?_
            rintro e w8 ⟨rfl, m8, rfl⟩
            go_wp2_with (go_at_call 37; refine (LN.out _).mono ?_; rintro e w9 ⟨rfl, m9, rfl⟩)
            exact ⟨⟨k + 1, _, by omega, by go_num, FIN.out _ _⟩, by simp [intOf]; omega⟩
      · have C1 : Hid (∀ w', QQ W w' c b d n xs xs wr.heap.size (some (.cells #[.int .u8 (F k 0), .int .i64 (F k 1), .int .i64 (F k 2)] 61 (0, 0))) → _) := fun w' h => QQ.set h (F k 1) (F k 2) hB1
        have C2 : Hid (∀ w', QQ W w' c b d n (setF n xs (F k 1) (F k 2)) xs wr.heap.size (some (.cells #[.int .u8 (F k 0), .int .i64 (F k 1), .int .i64 (F k 2)] 61 (0, 0))) → _) := fun w' h => QQ.rset h h2 (F k 1) (F k 2)
        have hp2d := hp2.drewN 1
        have hbx := QQ.box hp2
        clear hp2
        generalize setE n (F k 1) (F k 2) = ee at C1 C2
        go_wp2_with fail
        all_goals go_region_held3 (fun w' => w'.cell? ⟨wr.heap.size, 1, none⟩ = some (.int .i64 (F k 1)) ∧ w'.cell? ⟨wr.heap.size, 2, none⟩ = some (.int .i64 (F k 2))) (first | exact hbx | exact QQ.box (by assumption))
          (first | (go_at_call 26; refine (C1.out _ hp2d).mono ?_; rintro e w2 ⟨rfl, hp3⟩) | (go_at_call 27; refine (C2.out _ (by assumption)).mono ?_; rintro e w3 ⟨rfl, hp4⟩))
        all_goals clear C1 C2 hp2d
        all_goals (
            have G1 : Hid (∀ w', QQ W w' c b d n (setF n xs (F k 1) (F k 2)) (setF n xs (F k 1) (F k 2)) wr.heap.size (some (.cells #[.int .u8 (F k 0), .int .i64 (F k 1), .int .i64 (F k 2)] 61 (0, 0))) → _) := fun w' h => QQ.get h (F k 2)
            have G2 : Hid (∀ w', QQ W w' c b d n (setF n xs (F k 1) (F k 2)) (setF n xs (F k 1) (F k 2)) wr.heap.size (some (.cells #[.int .u8 (F k 0), .int .i64 (F k 1), .int .i64 (F k 2)] 61 (0, 0))) → _) := fun w' h => QQ.rget h h2 (F k 2)
            have G3 : Hid (∀ w', QQ W w' c b d n (setF n xs (F k 1) (F k 2)) (setF n xs (F k 1) (F k 2)) wr.heap.size (some (.cells #[.int .u8 (F k 0), .int .i64 (F k 1), .int .i64 (F k 2)] 61 (0, 0))) → _) := fun w' h => QQ.all h h2 h1
            obtain ⟨z1, z2⟩ := QQ.box hp4
            generalize getV n (setF n xs (F k 1) (F k 2)) (F k 2) = gv at G1 G2
            generalize getE n (F k 2) = ge at G1 G2
            go_wp2_with (first | (go_at_call 33; refine (G1.out _ hp4).mono ?_; rintro e w5 ⟨rfl, hp5⟩; obtain ⟨y1, y2⟩ := QQ.box hp5) | (go_at_call 34; refine (G2.out _ hp5).mono ?_; rintro e w6 ⟨rfl, hp6⟩; obtain ⟨x1, x2⟩ := QQ.box hp6) | (go_at_call 35; refine (G3.out _ hp6).mono ?_; rintro e w7 ⟨g, cap', rfl, hA⟩))
            have A0 := hA.cell 0 (by omega)
            have A1 := hA.frz 0
            have SM := Lib.hid (hA.same h2)
            have LN := Lib.hid (fun m => (hA.drewN m).len)
            have FIN : Hid (∀ m u, QQ W ((w7.drewN m).setCell ⟨g, 0, none⟩ u) c b d n (setF n xs (F k 1) (F k 2)) (setF n xs (F k 1) (F k 2)) 0 none) := fun m u => (hA.drewN m).poke u
            have ncap := hA.nc
            clear hA G1 G2 G3 hp4 hp5 hp6 z1 z2 y1 y2 x1 x2
            refine (SM.out).mono ?_
            rintro e w8 ⟨rfl, m8, rfl⟩
            go_wp2_with (go_at_call 37; refine (LN.out _).mono ?_; rintro e w9 ⟨rfl, m9, rfl⟩)
            exact ⟨⟨k + 1, _, by omega, by go_num, FIN.out _ _⟩, by simp [intOf]; omega⟩)
    · have hltI : ¬ (k : Int) < (len : Int) := by omega
      go_wp2_with fail
      refine (rlives _).mono ?_
      rintro e w3 ⟨rfl, hb⟩
      go_wp2
      go_ret
      exact ⟨rfl, Below.step hbel hb hp.fr.size⟩
end Go.Proofs.Ytpdnbkibnpkfbad
