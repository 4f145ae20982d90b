/- The law FramesApart, walked. -/
import Derived.Test.YtpdnbkibnpkfbadFaM
import Derived.Test.YtpdnbkibnpkfbadRecs
import Derived.Deep.QuietTactic
import Derived.BigQuiet
namespace Go.Proofs.Ytpdnbkibnpkfbad
open Go.ChangeShapes Go.WideShapes Go.ChangeAt Go.RowKit Go.Maps

theorem intLaw : Keyed Try.prog 3 := int_keyed Try.underlying3
theorem zeroU64 (w : World) : (zeroValue 31).run Try.prog w = .ok (.int .u64 0) w := by kernel_rfl

theorem fa_sz (x : Int) (h0 : 0 ≤ x) : ∃ n : Nat, powP n ∧ wrap64 (2 ^ (x % 9).toNat) = (n : Int) := by
  have h : (x % 9).toNat < 9 := by omega
  generalize (x % 9).toNat = m at h
  refine ⟨2 ^ m, ?_, ?_⟩
  · match m, h with
    | 0, _ | 1, _ | 2, _ | 3, _ | 4, _ | 5, _ | 6, _ | 7, _ | 8, _ => unfold powP; decide
  · match m, h with
    | 0, _ | 1, _ | 2, _ | 3, _ | 4, _ | 5, _ | 6, _ | 7, _ | 8, _ => decide +kernel

/-- the place that is asked for, within the page -/
theorem fa_at (x : Int) (n : Nat) (h1 : 1 ≤ n) (h2 : n ≤ 256) : ∃ j : Nat, j < n ∧ wrap64 ((IntKind.u64.wrap x).tmod n) = (j : Int) := by
  have h0 : ∃ m : Nat, IntKind.u64.wrap x = m := by
    refine ⟨(IntKind.u64.wrap x).toNat, ?_⟩
    have : 0 ≤ IntKind.u64.wrap x := by unfold IntKind.wrap; simp [IntKind.bits, IntKind.signed]; omega
    omega
  obtain ⟨m, hm⟩ := h0
  rw [hm]
  have : (m : Int).tmod (n : Int) = ((m % n : Nat) : Int) := by
    rw [Int.tmod_eq_emod_of_nonneg (by omega)]; rfl
  rw [this]
  have hlt := Nat.mod_lt m (show 0 < n by omega)
  refine ⟨m % n, hlt, ?_⟩
  generalize m % n = q at *
  unfold wrap64
  omega

theorem cells4 {w : World} {b : Nat} {x0 x1 x2 x3 : Value} {t : TypeId} (h : w.heap[b]? = some (.cells #[x0, x1, x2, x3] t (0, 0))) :
    w.cell? ⟨b, 0, none⟩ = some x0 ∧ w.cell? ⟨b, 1, none⟩ = some x1 ∧ w.cell? ⟨b, 2, none⟩ = some x2 ∧ w.cell? ⟨b, 3, none⟩ = some x3 := by
  simp [World.cell?, h]

def faA (c bm X : Nat) (s : PS) (n : Nat) (D : DataW Unit) (f0 f1 f2 f3 : Int) : Asn :=
  poolA c s * (blk X (.cells #[.int .u8 f0, .int .i64 f1, .int .i64 f2, .int .u64 f3] 33 (0, 0)) * mp Try.prog 3 31 bm n D)

theorem faA_own {w0 w : World} {S : Nat → Prop} {c bm X : Nat} {s : PS} {n : Nat} {D : DataW Unit} {f0 f1 f2 f3 : Int} (h : At (faA c bm X s n D f0 f1 f2 f3) w0 S w) : w.ownsMap Try.prog 3 (plainElem Try.prog 31) bm n D :=
  At.mpIs (A := poolA c s * blk X (.cells #[.int .u8 f0, .int .i64 f1, .int .i64 f2, .int .u64 f3] 33 (0, 0))) (h.re (by unfold faA; ac_rfl))

theorem faA_box {w0 w : World} {S : Nat → Prop} {c bm X : Nat} {s : PS} {n : Nat} {D : DataW Unit} {f0 f1 f2 f3 : Int} (h : At (faA c bm X s n D f0 f1 f2 f3) w0 S w) :
    w.cell? ⟨X, 0, none⟩ = some (.int .u8 f0) ∧ w.cell? ⟨X, 1, none⟩ = some (.int .i64 f1) ∧ w.cell? ⟨X, 2, none⟩ = some (.int .i64 f2) ∧ w.cell? ⟨X, 3, none⟩ = some (.int .u64 f3) :=
  cells4 (At.blkIs (A := poolA c s * mp Try.prog 3 31 bm n D) (h.re (by unfold faA; ac_rfl)))

theorem faA_turn {w0 w w' : World} {S : Nat → Prop} {c bm X : Nat} {s : PS} {n n' : Nat} {D D' : DataW Unit} {f0 f1 f2 f3 : Int} (h : At (faA c bm X s n D f0 f1 f2 f3) w0 S w) (ho : w'.ownsMap Try.prog 3 (plainElem Try.prog 31) bm n' D') (ht : w.mapTurned w' bm) : At (faA c bm X s n' D' f0 f1 f2 f3) w0 S w' :=
  (At.mp_turn (A := poolA c s * blk X (.cells #[.int .u8 f0, .int .i64 f1, .int .i64 f2, .int .u64 f3] 33 (0, 0))) (h.re (by unfold faA; ac_rfl)) ho ht).re (by unfold faA; ac_rfl)

theorem faA_end {w0 w : World} {S : Nat → Prop} {c bm X : Nat} {s : PS} {n n' : Nat} {D : DataW Unit} {f0 f1 f2 f3 : Int} (h : At (faA c bm X s n D f0 f1 f2 f3) w0 S w) (hn : n ≤ n') : At (mp Try.prog 3 31 bm n' D * poolA c s) w0 S w :=
  ((h.re (B := (mp Try.prog 3 31 bm n D * poolA c s) * blk X (.cells #[.int .u8 f0, .int .i64 f1, .int .i64 f2, .int .u64 f3] 33 (0, 0))) (by unfold faA; ac_rfl)).dropr).mp_more hn

theorem wf_key (k : Nat) (h : k < 5000) : (Lit.int .i64 (k : Int)).wf = true := WalkArith.wf_i64 (by omega)

set_option maxHeartbeats 8000000 in
set_option maxRecDepth 100000 in
theorem apart_short (x0 x1 : Int) (h0 : 0 ≤ x0 ∧ x0 ≤ 255) (h1 : 0 ≤ x1 ∧ x1 ≤ 255) (a : Option Addr) (len cap : Nat) (F : Nat → Nat → Int) (hl : len ≤ 200) (W : World) (hrow : RecRow [.u8, .i64, .i64, .u64] W a len cap F) :
    Calls Try.prog 4 #[.int .u8 x0, .int .u8 x1, .slice a len cap] W fun e W' => e = .returned (.bool true) ∧ Below W.heap.size W W' := by
  have hcl : len ≤ cap := hrow.lc
  have hcm : cap ≤ 9223372036854775807 := by have := hrow.cm; unfold maxLen at this; omega
  have hmm := @run_makeMap Try.prog
  have cell : Hid (∀ wr, Below W.heap.size W wr → ∀ j, j < len → ∃ q off, a = some ⟨q, off, none⟩ ∧ wr.cell? ⟨q, off + j * 4, none⟩ = some (.int .u8 (F j 0)) ∧ wr.cell? ⟨q, off + j * 4 + 1, none⟩ = some (.int .i64 (F j 1)) ∧ wr.cell? ⟨q, off + j * 4 + 2, none⟩ = some (.int .i64 (F j 2)) ∧ wr.cell? ⟨q, off + j * 4 + 3, none⟩ = some (.int .u64 (F j 3)) ∧ 0 ≤ F j 0 ∧ F j 0 ≤ 255 ∧ (Lit.int .i64 (F j 1)).wf = true ∧ (Lit.int .u64 (F j 3)).wf = true) := Lib.hid <| by
    intro wr hb j hj
    obtain ⟨q, off, ha, hq, hc⟩ := hrow.at_ j hj
    have b0 := bounds_u8 (hrow.wf j hj 0 _ rfl)
    exact ⟨q, off, ha, (hb.cell (p := ⟨q, _, none⟩) hq).trans (hc 0 _ rfl), (hb.cell (p := ⟨q, _, none⟩) hq).trans (hc 1 _ rfl), (hb.cell (p := ⟨q, _, none⟩) hq).trans (hc 2 _ rfl), (hb.cell (p := ⟨q, _, none⟩) hq).trans (hc 3 _ rfl), b0.1, b0.2, hrow.wf j hj 1 _ rfl, hrow.wf j hj 3 _ rfl⟩
  clear hrow
  obtain ⟨sz, hsz, esz⟩ := fa_sz x1 h1.1
  have hszb := powP_le hsz
  obtain ⟨rm, erm⟩ : ∃ rm : Nat, x0 + 1 = (rm : Int) := ⟨(x0 + 1).toNat, by omega⟩
  have hrm : 1 ≤ rm ∧ rm ≤ 256 := by omega
  have NB := Lib.hid (fm_new_ok rm sz hrm.1 (by omega) hsz)
  have HF := Lib.hid (FA.new rm sz hrm.1 (by omega) hsz)
  have HS := Lib.hid hsz
  have E := Lib.hid (At.emp W)
  clear hsz
  go_enter Try.func4, Try.ntmps4
  go_wp2_with fail

  refine (E.out.trix NB.out).mono ?_
  rintro e w1 ⟨c, rfl, a1⟩
  have a2 := a1.mp_made Try.prog 3 31
  clear a1 NB E HS
  go_wp2_with fail
  generalize w1.heap.size = bm at a2 ⊢
  generalize w1.alloc (.map #[] 0) = w2 at a2 ⊢
  have ST : Hid (∃ (s : PS) (D : DataW Unit), FA s D ∧ s.page = sz ∧ At (mp Try.prog 3 31 bm 0 D * poolA c s) W (fun _ => False) w2) := Lib.hid ⟨_, _, HF.out, rfl, a2⟩
  clear HF a2 hmm
  go_loopw [45] (fun i wr => ∃ (k : Nat), k ≤ len ∧ i = .int .i64 k ∧ Hid (∃ (s : PS) (D : DataW Unit), FA s D ∧ s.page = sz ∧ At (mp Try.prog 3 31 bm k D * poolA c s) W (fun _ => False) wr)) (fun i _ => len - (intOf i).toNat)
  case atStart => exact ⟨0, Nat.zero_le _, rfl, ST⟩
  case round =>
    clear ST
    obtain ⟨k, hk, rfl, HR⟩ := hrel
    obtain ⟨s, D, hFA, hpg, HA⟩ := HR.out
    clear HR
    by_cases hlt : k < len
    · obtain ⟨q, off, rfl, hc0, hc1, hc2, hc3, hK0, hK1, hW1, hW3⟩ := cell.out wr HA.below k hlt
      have hltI : (k : Int) < (len : Int) := by omega
      generalize F k 0 = f0 at *
      generalize F k 1 = f1 at *
      generalize F k 2 = f2 at *
      generalize F k 3 = f3 at *
      have A1 : At (faA c bm wr.heap.size s k D f0 f1 f2 f3) W (fun _ => False) (wr.alloc (.cells #[.int .u8 f0, .int .i64 f1, .int .i64 f2, .int .u64 f3] 33)) := (HA.alloc _).re (by unfold faA; ac_rfl)
      have HW1 := Lib.hid hW1
      have HW3 := Lib.hid hW3
      clear HA hW1 hW3
      obtain ⟨bx0, bx1, bx2, bx3⟩ := faA_box A1
      have H1 := Lib.hid A1
      clear A1
      by_cases k3 : f0 % 8 < 3
      · rcases hFA.take c with TF | ⟨f, s1, tk, TT⟩
        · have C := Lib.hid (H1.out.ask TF)
          have RE := Lib.hid (show At (mp Try.prog 3 31 bm (k + 1) D * poolA c s) W (fun _ => False) _ from faA_end H1.out (Nat.le_succ k))
          clear TF H1
          go_wp2_with fail
          refine C.out.mono ?_
          rintro e w3 ⟨rfl, rfl⟩
          go_wp2
          exact ⟨⟨k + 1, by omega, by go_num, Lib.hid ⟨s, D, hFA, hpg, RE.out⟩⟩, by simp [intOf]; omega⟩
        · have C := Lib.hid (H1.out.tri1 TT)
          clear TT H1
          have hfr : f < 5000 := by have := tk.kr; have := hFA.ok.r2; omega
          go_wp2_with fail
          refine C.out.mono ?_
          rintro e w3 ⟨rfl, a3⟩
          have H3 : Hid (At (faA c bm wr.heap.size s1 k D f0 f1 f2 f3) W (fun _ => False) w3) := Lib.hid a3
          clear a3 C
          obtain ⟨cx0, cx1, cx2, cx3⟩ := faA_box H3.out
          have hF := hFA.hasF f tk.was
          clear bx0 bx1 bx2 bx3
          generalize wr.heap.size = X at *
          have HK := Lib.hid (keyOf_int_mk Try.underlying3 (wf_key f hfr))
          have OW3 := Lib.hid (faA_own H3.out)
          go_wp2_with (at_lookup; refine wpList_lookup_own_ok_int _ rfl _ _ 52 rfl 3 31 .u64 intLaw Try.underlying52 Try.underlying31 (zeroU64 _) bm _ _ rfl OW3.out _ _ rfl HK.out ?_; intro c0 hat hwc)
          clear OW3 hat hwc
          generalize hw3 : w3 = w3' at H3 ⊢
          clear hw3
          clear cx0 cx1 cx2 cx3
          go_loopw [68] (fun jv wr => ∃ n : Nat, n ≤ sz ∧ jv = .int .i64 n ∧ Hid (At (faA c bm X s1 k D f0 f1 f2 f3) W (fun _ => False) wr)) (fun jv _ => sz - (intOf jv).toNat)
          case atStart => exact ⟨0, Nat.zero_le _, rfl, H3⟩
          case round =>
            clear H3
            obtain ⟨n, hn, rfl, H4⟩ := hrel
            by_cases hnl : n < sz
            · have LD := fm_load_ok (p := c) tk.ok f n (by rw [tk.room]; exact tk.kr) (by rw [tk.al]; simp) (by rw [tk.page, hpg]; exact hnl)
              have e0 : s1.ws (f * s1.page + n) = 0 := by rw [tk.ws, tk.page, hpg]; show (if _ then (0 : Int) else _) = 0; rw [if_pos (by omega)]
              rw [e0] at LD
              have C4 := Lib.hid (H4.out.look LD)
              have RE := Lib.hid (fun m => At.drewN H4.out m)
              clear LD H4
              have hnlI : (n : Int) < (sz : Int) := by omega
              go_wp2_with fail
              refine C4.out.mono ?_
              rintro e w4 ⟨rfl, m4, rfl⟩
              go_wp2_with fail
              exact ⟨⟨n + 1, by omega, by go_num, Lib.hid (RE.out _)⟩, by simp [intOf]; omega⟩
            · obtain rfl : n = sz := by omega
              have H5 : Hid (At (faA c bm X (s1.fill f 0 f3) k D f0 f1 f2 f3) W (fun _ => False) wr) := Lib.hid (by rw [PS.fill_zero]; exact H4.out)
              clear H4
              go_wp2_with fail
              go_loopw [86] (fun jv wr => ∃ m : Nat, m ≤ n ∧ jv = .int .i64 m ∧ Hid (At (faA c bm X (s1.fill f m f3) k D f0 f1 f2 f3) W (fun _ => False) wr)) (fun jv _ => n - (intOf jv).toNat)
              case atStart => exact ⟨0, Nat.zero_le _, rfl, H5⟩
              case round =>
                clear H5
                obtain ⟨m, hm, rfl, H6⟩ := hrel
                obtain ⟨dx0, dx1, dx2, dx3⟩ := faA_box H6.out
                by_cases hml : m < n
                · have SD := fm_store_ok (p := c) (PS.fill_ok tk.ok f m f3) f m (by show f < s1.room; rw [tk.room]; exact tk.kr) (by show s1.al f = true; rw [tk.al]; simp) (by show m < s1.page; rw [tk.page, hpg]; exact hml) f3
                  rw [PS.fill_succ] at SD
                  have C6 := Lib.hid (H6.out.tri1 SD)
                  clear SD H6
                  have hmlI : (m : Int) < (n : Int) := by omega
                  go_wp2_with fail
                  refine C6.out.mono ?_
                  rintro e w6 ⟨rfl, a6⟩
                  have H7 := Lib.hid a6
                  clear a6
                  go_wp2_with fail
                  exact ⟨⟨m + 1, by omega, by go_num, Lib.hid H7.out⟩, by simp [intOf]; omega⟩
                · obtain rfl : m = n := by omega
                  have hFB := hFA.took tk f3
                  rw [tk.page, hpg] at hFB
                  have OW6 := Lib.hid (faA_own H6.out)
                  have PV := Lib.hid (plainElem_int (H := Unit) Try.underlying31 HW3.out)
                  go_wp2_with (at_mapUpdate; refine wpList_mapUpdate_in _ rfl _ _ _ 52 rfl 3 31 intLaw Try.underlying52 _ bm _ _ rfl OW6.out (by unfold maxLen; omega) _ _ _ rfl rfl HK.out _ [] PV.out ?_; intro w7 hown7 hturn7; have k3n : ¬ f0 % 8 = 3 := (by omega); have H8 := Lib.hid (faA_turn H6.out hown7 hturn7); clear OW6 PV H6 hown7 hturn7 dx0 dx1 dx2 dx3; obtain ⟨dx0, dx1, dx2, dx3⟩ := faA_box H8.out; refine Hid.out ?_)
                  have k3n : ¬ f0 % 8 = 3 := by omega
                  have hpg2 : (s1.fill f m f3).page = m := by show s1.page = m; rw [tk.page, hpg]
                  skip
                  by_cases hp : ∃ q2 : Nat, f1 = (q2 : Int) ∧ (s1.fill f m f3).al q2 = true
                  · obtain ⟨q2, rfl, al2⟩ := hp
                    obtain ⟨xx, hx1, hx2⟩ := hFB.at_ q2 (.lit (.int .u64 0)) al2
                    have hh := (hFB.has q2).2 ⟨q2, rfl, al2⟩
                    have hq2 : q2 < (s1.fill f m f3).room := Nat.lt_of_lt_of_le (hFB.al_lt _ al2) hFB.ok.fr
                    obtain ⟨j2, hj2, ej2⟩ := fa_at f2 m hszb.1 hszb.2
                    have LD := fm_load_ok (p := c) hFB.ok q2 j2 hq2 al2 (by rw [hpg2]; exact hj2)
                    rw [hx2 j2 (by rw [hpg2]; exact hj2)] at LD
                    have US := fm_used (p := c) hFB.ok
                    rw [← hFB.size] at US
                    have U2 := Lib.hid (fun mA => (At.drewN H8.out mA).look US)
                    have C2 := Lib.hid (fun mA => (At.drewN H8.out mA).look LD)
                    have RE := Lib.hid (fun mA => show At (mp Try.prog 3 31 bm (k + 1) (D.put (.int .i64 (f : Int)) (.lit (.int .u64 f3))) * poolA c (s1.fill f m f3)) W (fun _ => False) _ from faA_end (n := k + 1) (H8.out.drewN mA) (by omega))
                    have OW := Lib.hid (fun mA => faA_own (H8.out.drewN mA))
                    have OW0 := Lib.hid (faA_own H8.out)
                    have hsz0 : ¬ (m : Int) = 0 := by omega
                    clear LD US H8
                    have HK2 := keyOf_int_mk Try.underlying3 HW1.out
                    have HK3 := Lib.hid HK2
                    clear HK2
                    refine Lib.hid ?_
                    go_wp2_with (at_lookup; refine wpList_lookup_own_ok_int _ rfl _ _ 52 rfl 3 31 .u64 intLaw Try.underlying52 Try.underlying31 (zeroU64 _) bm _ _ rfl OW0.out _ _ rfl HK3.out ?_; intro c0 hat hwc)
                    rw [hx1] at hat
                    have ecx : xx = c0 := by cases hat; rfl
                    subst ecx
                    clear hat
                    go_quiet (first | (go_at_call 17; exact Calls.quiet_of (C2.out _)))
                    go_wp2_with (first | (go_at_call 19; refine (U2.out _).mono ?_; rintro e w9 ⟨rfl, m9, rfl⟩) | (at_len; refine wpList_len_own _ rfl _ 52 rfl 3 31 Try.underlying52 _ bm _ _ rfl (OW.out _) ?_))
                    exact ⟨⟨k + 1, by omega, by go_num, Lib.hid ⟨_, _, hFB, hpg2, RE.out _⟩⟩, by simp [intOf]; omega⟩
                  · have hh : Maps.has (D.put (.int .i64 (f : Int)) (.lit (.int .u64 f3))) (.int .i64 f1) = false := by
                      cases e : Maps.has (D.put (.int .i64 (f : Int)) (.lit (.int .u64 f3))) (.int .i64 f1) with
                      | false => rfl
                      | true => exact absurd ((hFB.has f1).1 e) hp
                    have US := fm_used (p := c) hFB.ok
                    rw [← hFB.size] at US
                    have U2 := Lib.hid (H8.out.look US)
                    have RE := Lib.hid (fun mA => show At (mp Try.prog 3 31 bm (k + 1) (D.put (.int .i64 (f : Int)) (.lit (.int .u64 f3))) * poolA c (s1.fill f m f3)) W (fun _ => False) _ from faA_end (n := k + 1) (H8.out.drewN mA) (by omega))
                    have OW := Lib.hid (fun mA => faA_own (H8.out.drewN mA))
                    have OW0 := Lib.hid (faA_own H8.out)
                    have HK3 := Lib.hid (keyOf_int_mk Try.underlying3 HW1.out)
                    clear US H8
                    refine Lib.hid ?_
                    go_wp2_with (at_lookup; refine wpList_lookup_own_ok_int _ rfl _ _ 52 rfl 3 31 .u64 intLaw Try.underlying52 Try.underlying31 (zeroU64 _) bm _ _ rfl OW0.out _ _ rfl HK3.out ?_; intro c0 hat hwc)
                    clear hat
                    go_wp2_with (first | (go_at_call 19; refine (U2.out).mono ?_; rintro e w9 ⟨rfl, m9, rfl⟩) | (at_len; refine wpList_len_own _ rfl _ 52 rfl 3 31 Try.underlying52 _ bm _ _ rfl (OW.out _) ?_))
                    exact ⟨⟨k + 1, by omega, by go_num, Lib.hid ⟨_, _, hFB, hpg2, RE.out _⟩⟩, by simp [intOf]; omega⟩

      · by_cases k4 : f0 % 8 = 3
        · by_cases hp0 : ∃ q2 : Nat, f1 = (q2 : Int) ∧ s.al q2 = true
          · obtain ⟨q1, rfl, al1⟩ := hp0
            have GV := fm_give_ok (p := c) hFA.ok q1 (Nat.lt_of_lt_of_le (hFA.al_lt _ al1) hFA.ok.fr) al1
            have C := Lib.hid (H1.out.tri1 GV)
            have hFG := hFA.give al1
            have HK1 := Lib.hid (keyOf_int_mk Try.underlying3 HW1.out)
            clear GV H1
            generalize hwx : wr.heap.size = X at *
            have pgg : (s.give q1).page = sz := hpg
            generalize s.give q1 = sg at *
            go_wp2_with (first | (go_at_call 13; refine C.out.mono ?_; rintro e w3 ⟨rfl, a3⟩; have H3 : Hid (At (faA c bm X sg k D f0 q1 f2 f3) W (fun _ => False) w3) := Lib.hid a3; clear a3 C bx0 bx1 bx2 bx3; obtain ⟨cx0, cx1, cx2, cx3⟩ := faA_box H3.out) | (at_delete; refine wpList_delete_own _ rfl _ _ 52 3 rfl 31 intLaw Try.underlying52 _ bm _ _ rfl (faA_own H3.out) _ _ rfl HK1.out ?_; intro w7 hown7 hturn7; have H8 := Lib.hid (faA_turn H3.out hown7 hturn7); clear H3 hown7 hturn7 cx0 cx1 cx2 cx3; obtain ⟨dx0, dx1, dx2, dx3⟩ := faA_box H8.out; refine Hid.out ?_))
            generalize hD : D.del (.int .i64 (q1 : Int)) = DD at *
            have hh : Maps.has DD (.int .i64 (q1 : Int)) = false := by rw [← hD]; exact has_del_same
            clear hD
            have US := fm_used (p := c) hFG.ok
            rw [← hFG.size] at US
            have U2 := Lib.hid (H8.out.look US)
            have RE := Lib.hid (fun mA => show At (mp Try.prog 3 31 bm (k + 1) (DD) * poolA c (sg)) W (fun _ => False) _ from faA_end (n := k) (H8.out.drewN mA) (by omega))
            have OW := Lib.hid (fun mA => faA_own (H8.out.drewN mA))
            have OW0 := Lib.hid (faA_own H8.out)
            have HK3 := Lib.hid (keyOf_int_mk Try.underlying3 HW1.out)
            clear US H8
            refine Lib.hid ?_
            go_wp2_with (at_lookup; refine wpList_lookup_own_ok_int _ rfl _ _ 52 rfl 3 31 .u64 intLaw Try.underlying52 Try.underlying31 (zeroU64 _) bm _ _ rfl OW0.out _ _ rfl HK3.out ?_; intro c0 hat hwc)
            clear hat
            go_wp2_with (first | (go_at_call 19; refine (U2.out).mono ?_; rintro e w9 ⟨rfl, m9, rfl⟩) | (at_len; refine wpList_len_own _ rfl _ 52 rfl 3 31 Try.underlying52 _ bm _ _ rfl (OW.out _) ?_))
            exact ⟨⟨k + 1, by omega, by go_num, Lib.hid ⟨_, _, hFG, pgg, RE.out _⟩⟩, by simp [intOf]; omega⟩

          · have GV := fm_give_bad (p := c) hFA.ok f1 (by
              rcases Int.lt_or_le f1 0 with g | g
              · exact .inl g
              · refine .inr (.inr ?_)
                cases e : s.al f1.toNat with
                | false => rfl
                | true => exact absurd ⟨f1.toNat, by omega, e⟩ hp0)
            have C := Lib.hid (H1.out.ask GV)
            have H8 := H1
            clear GV H1
            go_wp2_with (first | (go_at_call 13; refine C.out.mono ?_; rintro e w3 ⟨rfl, rfl⟩; refine Hid.out ?_))
            skip
            by_cases hp : ∃ q2 : Nat, f1 = (q2 : Int) ∧ (s).al q2 = true
            · obtain ⟨q2, rfl, al2⟩ := hp
              obtain ⟨xx, hx1, hx2⟩ := hFA.at_ q2 (.lit (.int .u64 0)) al2
              have hh := (hFA.has q2).2 ⟨q2, rfl, al2⟩
              have hq2 : q2 < (s).room := Nat.lt_of_lt_of_le (hFA.al_lt _ al2) hFA.ok.fr
              obtain ⟨j2, hj2, ej2⟩ := fa_at f2 sz hszb.1 hszb.2
              have LD := fm_load_ok (p := c) hFA.ok q2 j2 hq2 al2 (by rw [hpg]; exact hj2)
              rw [hx2 j2 (by rw [hpg]; exact hj2)] at LD
              have US := fm_used (p := c) hFA.ok
              rw [← hFA.size] at US
              have U2 := Lib.hid (fun mA => (At.drewN H8.out mA).look US)
              have C2 := Lib.hid (fun mA => (At.drewN H8.out mA).look LD)
              have RE := Lib.hid (fun mA => show At (mp Try.prog 3 31 bm (k + 1) (D) * poolA c (s)) W (fun _ => False) _ from faA_end (n := k) (H8.out.drewN mA) (by omega))
              have OW := Lib.hid (fun mA => faA_own (H8.out.drewN mA))
              have OW0 := Lib.hid (faA_own H8.out)
              have hsz0 : ¬ (sz : Int) = 0 := by omega
              clear LD US H8
              have HK2 := keyOf_int_mk Try.underlying3 HW1.out
              have HK3 := Lib.hid HK2
              clear HK2
              refine Lib.hid ?_
              go_wp2_with (at_lookup; refine wpList_lookup_own_ok_int _ rfl _ _ 52 rfl 3 31 .u64 intLaw Try.underlying52 Try.underlying31 (zeroU64 _) bm _ _ rfl OW0.out _ _ rfl HK3.out ?_; intro c0 hat hwc)
              rw [hx1] at hat
              have ecx : xx = c0 := by cases hat; rfl
              subst ecx
              clear hat
              go_quiet (first | (go_at_call 17; exact Calls.quiet_of (C2.out _)))
              go_wp2_with (first | (go_at_call 19; refine (U2.out _).mono ?_; rintro e w9 ⟨rfl, m9, rfl⟩) | (at_len; refine wpList_len_own _ rfl _ 52 rfl 3 31 Try.underlying52 _ bm _ _ rfl (OW.out _) ?_))
              exact ⟨⟨k + 1, by omega, by go_num, Lib.hid ⟨_, _, hFA, hpg, RE.out _⟩⟩, by simp [intOf]; omega⟩
            · have hh : Maps.has (D) (.int .i64 f1) = false := by
                cases e : Maps.has (D) (.int .i64 f1) with
                | false => rfl
                | true => exact absurd ((hFA.has f1).1 e) hp
              have US := fm_used (p := c) hFA.ok
              rw [← hFA.size] at US
              have U2 := Lib.hid (H8.out.look US)
              have RE := Lib.hid (fun mA => show At (mp Try.prog 3 31 bm (k + 1) (D) * poolA c (s)) W (fun _ => False) _ from faA_end (n := k) (H8.out.drewN mA) (by omega))
              have OW := Lib.hid (fun mA => faA_own (H8.out.drewN mA))
              have OW0 := Lib.hid (faA_own H8.out)
              have HK3 := Lib.hid (keyOf_int_mk Try.underlying3 HW1.out)
              clear US H8
              refine Lib.hid ?_
              go_wp2_with (at_lookup; refine wpList_lookup_own_ok_int _ rfl _ _ 52 rfl 3 31 .u64 intLaw Try.underlying52 Try.underlying31 (zeroU64 _) bm _ _ rfl OW0.out _ _ rfl HK3.out ?_; intro c0 hat hwc)
              clear hat
              go_wp2_with (first | (go_at_call 19; refine (U2.out).mono ?_; rintro e w9 ⟨rfl, m9, rfl⟩) | (at_len; refine wpList_len_own _ rfl _ 52 rfl 3 31 Try.underlying52 _ bm _ _ rfl (OW.out _) ?_))
              exact ⟨⟨k + 1, by omega, by go_num, Lib.hid ⟨_, _, hFA, hpg, RE.out _⟩⟩, by simp [intOf]; omega⟩

        · have H8 := H1
          clear H1
          obtain ⟨dx0, dx1, dx2, dx3⟩ := faA_box H8.out
          by_cases hp : ∃ q2 : Nat, f1 = (q2 : Int) ∧ (s).al q2 = true
          · obtain ⟨q2, rfl, al2⟩ := hp
            obtain ⟨xx, hx1, hx2⟩ := hFA.at_ q2 (.lit (.int .u64 0)) al2
            have hh := (hFA.has q2).2 ⟨q2, rfl, al2⟩
            have hq2 : q2 < (s).room := Nat.lt_of_lt_of_le (hFA.al_lt _ al2) hFA.ok.fr
            obtain ⟨j2, hj2, ej2⟩ := fa_at f2 sz hszb.1 hszb.2
            have LD := fm_load_ok (p := c) hFA.ok q2 j2 hq2 al2 (by rw [hpg]; exact hj2)
            rw [hx2 j2 (by rw [hpg]; exact hj2)] at LD
            have US := fm_used (p := c) hFA.ok
            rw [← hFA.size] at US
            have U2 := Lib.hid (fun mA => (At.drewN H8.out mA).look US)
            have C2 := Lib.hid (fun mA => (At.drewN H8.out mA).look LD)
            have RE := Lib.hid (fun mA => show At (mp Try.prog 3 31 bm (k + 1) (D) * poolA c (s)) W (fun _ => False) _ from faA_end (n := k) (H8.out.drewN mA) (by omega))
            have OW := Lib.hid (fun mA => faA_own (H8.out.drewN mA))
            have OW0 := Lib.hid (faA_own H8.out)
            have hsz0 : ¬ (sz : Int) = 0 := by omega
            clear LD US H8
            have HK2 := keyOf_int_mk Try.underlying3 HW1.out
            have HK3 := Lib.hid HK2
            clear HK2
            skip
            go_wp2_with (at_lookup; refine wpList_lookup_own_ok_int _ rfl _ _ 52 rfl 3 31 .u64 intLaw Try.underlying52 Try.underlying31 (zeroU64 _) bm _ _ rfl OW0.out _ _ rfl HK3.out ?_; intro c0 hat hwc)
            rw [hx1] at hat
            have ecx : xx = c0 := by cases hat; rfl
            subst ecx
            clear hat
            go_quiet (first | (go_at_call 17; exact Calls.quiet_of (C2.out _)))
            go_wp2_with (first | (go_at_call 19; refine (U2.out _).mono ?_; rintro e w9 ⟨rfl, m9, rfl⟩) | (at_len; refine wpList_len_own _ rfl _ 52 rfl 3 31 Try.underlying52 _ bm _ _ rfl (OW.out _) ?_))
            exact ⟨⟨k + 1, by omega, by go_num, Lib.hid ⟨_, _, hFA, hpg, RE.out _⟩⟩, by simp [intOf]; omega⟩
          · have hh : Maps.has (D) (.int .i64 f1) = false := by
              cases e : Maps.has (D) (.int .i64 f1) with
              | false => rfl
              | true => exact absurd ((hFA.has f1).1 e) hp
            have US := fm_used (p := c) hFA.ok
            rw [← hFA.size] at US
            have U2 := Lib.hid (H8.out.look US)
            have RE := Lib.hid (fun mA => show At (mp Try.prog 3 31 bm (k + 1) (D) * poolA c (s)) W (fun _ => False) _ from faA_end (n := k) (H8.out.drewN mA) (by omega))
            have OW := Lib.hid (fun mA => faA_own (H8.out.drewN mA))
            have OW0 := Lib.hid (faA_own H8.out)
            have HK3 := Lib.hid (keyOf_int_mk Try.underlying3 HW1.out)
            clear US H8
            skip
            go_wp2_with (at_lookup; refine wpList_lookup_own_ok_int _ rfl _ _ 52 rfl 3 31 .u64 intLaw Try.underlying52 Try.underlying31 (zeroU64 _) bm _ _ rfl OW0.out _ _ rfl HK3.out ?_; intro c0 hat hwc)
            clear hat
            go_wp2_with (first | (go_at_call 19; refine (U2.out).mono ?_; rintro e w9 ⟨rfl, m9, rfl⟩) | (at_len; refine wpList_len_own _ rfl _ 52 rfl 3 31 Try.underlying52 _ bm _ _ rfl (OW.out _) ?_))
            exact ⟨⟨k + 1, by omega, by go_num, Lib.hid ⟨_, _, hFA, hpg, RE.out _⟩⟩, by simp [intOf]; omega⟩

    · have hltI : ¬ (k : Int) < (len : Int) := by omega
      have BB := Lib.hid HA.below
      have SZ := Lib.hid HA.size
      clear HA
      go_wp2_with (go_at_call 8; refine (flives _).mono ?_; rintro e w3 ⟨rfl, hb⟩)
      go_ret
      exact ⟨rfl, Below.step BB.out hb SZ.out⟩

theorem apart_long (x0 x1 : Int) (a : Option Addr) (len cap : Nat) (hl : len ≤ cap) (hc : cap ≤ 9223372036854775807) (hlong : 200 < len) (W : World) :
    Calls Try.prog 4 #[.int .u8 x0, .int .u8 x1, .slice a len cap] W fun e W' => e = .returned (.bool true) ∧ Below W.heap.size W W' := by
  have L := Lib.hid (flives W)
  go_enter Try.func4, Try.ntmps4
  go_wp2_with (go_at_call 8; refine L.out.mono ?_; rintro e w3 ⟨rfl, hb⟩)
  go_ret
  exact ⟨rfl, hb⟩

theorem apart_law (x0 x1 : Int) (w0 : (Lit.int .u8 x0).wf = true) (w1 : (Lit.int .u8 x1).wf = true) (a : Option Addr) (len cap : Nat) (F : Nat → Nat → Int) (W : World) (hrow : RecRow [.u8, .i64, .i64, .u64] W a len cap F) :
    Calls Try.prog 4 #[.int .u8 x0, .int .u8 x1, .slice a len cap] W fun e W' => e = .returned (.bool true) ∧ Below W.heap.size W W' := by
  by_cases h : len ≤ 200
  · exact apart_short x0 x1 (bounds_u8 w0) (bounds_u8 w1) a len cap F h W hrow
  · exact apart_long x0 x1 a len cap hrow.lc (by have := hrow.cm; unfold maxLen at this; omega) (by omega) W

end Go.Proofs.Ytpdnbkibnpkfbad
