/- The law WireBack, walked. -/
import Derived.Test.YtfgdfhcefgblaaaRdJ
import Derived.Test.YtfgdfhcefgblaaaParts
import Derived.Deep.CutRange
import Derived.Deep.CutBlock
namespace Go.Proofs.Ytfgdfhcefgblaaa
open Go.ChangeShapes Go.WideShapes Go.ChangeAt Go.RowKit

set_option maxRecDepth 100000 in
theorem back_long (s : ByteArray) (a : Option Addr) (len cap : Nat) (hss : s.size ≤ 9223372036854775807) (hll : len ≤ 9223372036854775807) (h : 100 < len ∨ 1000 < s.size) (W : World) :
    Calls Try.prog 4 #[.slice a len cap, .string s] W fun e W' => e = .returned (.bool true) ∧ Below W.heap.size W W' := by
  have L := Lib.hid (wlives W)
  by_cases h1 : 100 < len
  · have h1I : (100 : Int) < (len : Int) := by omega
    clear h
    go_enter Try.func4, Try.ntmps4
    go_wp2_with (go_at_call 5; refine L.out.mono ?_; rintro e1 w2 ⟨rfl, hb⟩)
    go_ret
    exact ⟨rfl, hb⟩
  · have h1I : ¬ (100 : Int) < (len : Int) := by omega
    have h2I : (1000 : Int) < (s.size : Int) := by omega
    clear h
    go_enter Try.func4, Try.ntmps4
    go_wp2_with (go_at_call 5; refine L.out.mono ?_; rintro e1 w2 ⟨rfl, hb⟩)
    go_ret
    exact ⟨rfl, hb⟩

theorem paB_le (k : Int) (n : Nat) (hn : n < 18446744073709551616) (s : ByteArray) (hs : s.size ≤ 1000) : (paB k n s).length ≤ 2000 := by
  have l1 : ∀ m, m < 18446744073709551616 → (leb m).length ≤ 10 := fun m hm => leb_len 9 m (Nat.lt_of_lt_of_le hm (by decide))
  unfold paB
  by_cases h0 : k % 4 = 0
  · rw [if_pos h0]; have := l1 n hn; omega
  · rw [if_neg h0]
    by_cases h1 : k % 4 = 1
    · rw [if_pos h1]; have := l1 _ (zz_back n hn).2; omega
    · rw [if_neg h1]
      by_cases h2 : k % 4 = 2
      · rw [if_pos h2, leK_len]; omega
      · rw [if_neg h2]
        unfold txB
        have h3 : s.data.toList.length = s.size := rfl
        rw [if_pos (by omega), List.length_append, h3]
        have := l1 s.size (by omega); omega

theorem bC_len (K N : Nat → Int) (S : Nat → ByteArray) : ∀ k, (∀ j, j < k → (N j).toNat < 18446744073709551616 ∧ (S j).size ≤ 1000) → (bC K N S k).length ≤ 2000 * k
  | 0, _ => by simp [bC]
  | k + 1, h => by
    have i := bC_len K N S k fun j hj => h j (by omega)
    have := paB_le (K k) (N k).toNat (h k (by omega)).1 (S k) (h k (by omega)).2
    show (bC K N S k ++ paB _ _ _).length ≤ _
    rw [List.length_append]; omega

theorem own_strB {w : World} {B cap : Nat} {e : TypeId} {a : Option Addr} {l : List UInt8} (h : w.ownsRow B e 1 (.slice a l.length cap) l.length (byV l)) (src dst : TypeId) {P : Program} (hs : P.underlying src = some (.slice e)) (he : P.underlying e = some (.int .u8)) (hd : P.underlying dst = some .string) :
    (convert src dst (.slice a l.length cap)).run P w = .ok (.string ⟨l.toArray⟩) w := by
  by_cases hn : 0 < l.length
  · exact own_str hn rfl h src dst hs he hd
  · have hl : l = [] := List.eq_nil_of_length_eq_zero (by omega)
    subst hl
    rcases h.2 with ⟨hv, hx⟩ | ⟨g, cap', cur, hv, _⟩
    · simp only [Value.slice.injEq] at hv
      obtain ⟨rfl, _, rfl⟩ := hv
      simp [convert, run_underlying hs, run_underlying hd, run_underlying he, Conv.bytesToString]
      rfl
    · simp only [Value.slice.injEq, true_and] at hv
      obtain ⟨rfl, rfl⟩ := hv
      exact run_convert_bytes_back w src dst e ⟨g, 0, none⟩ cap [] hs he hd (fun j hj => absurd hj (by simp))

theorem wr_doneB {p : Nat} {bs : List UInt8} : Ask Try.prog 20 #[.pointer (some ⟨p, 0, none⟩)] (wrA p bs false) (.tuple #[.string ⟨bs.toArray⟩, .int .i64 0]) := by
  intro w S h
  obtain ⟨a, cap, hX⟩ := wr_open (At.refl h)
  obtain ⟨c0, c1, cf⟩ := wr_cells hX
  have hcv := own_strB (wr_own hX) 22 9 (P := Try.prog) Try.underlying22 Try.underlying5 Try.underlying9
  clear hX h
  go_enter Try.func20, Try.ntmps20
  go_wp2
  go_ret2
  exact ⟨rfl, rfl⟩

theorem cellsB {w : World} {b : Nat} {x0 x1 x2 : Value} {t : TypeId} (h : w.heap[b]? = some (.cells #[x0, x1, x2] t (0, 0))) :
    w.cell? ⟨b, 0, none⟩ = some x0 ∧ w.cell? ⟨b, 1, none⟩ = some x1 ∧ w.cell? ⟨b, 2, none⟩ = some x2 := by
  simp [World.cell?, h]

theorem box_cells {w0 w : World} {S : Nat → Prop} {A : Asn} {Y : Nat} {x0 x1 x2 : Value} {t : TypeId} (h : At (A * blk Y (.cells #[x0, x1, x2] t (0, 0))) w0 S w) : w.cell? ⟨Y, 0, none⟩ = some x0 ∧ w.cell? ⟨Y, 1, none⟩ = some x1 ∧ w.cell? ⟨Y, 2, none⟩ = some x2 :=
  cellsB (At.blkIs (h.re (Asn.star_comm _ _)))

theorem str_appB (a : List UInt8) (s : ByteArray) : ((⟨a.toArray⟩ : ByteArray) ++ s).data.toList = a ++ s.data.toList := by simp

set_option maxRecDepth 100000 in
set_option maxHeartbeats 8000000 in
theorem back_short (s : ByteArray) (a : Option Addr) (len cap : Nat) (K N : Nat → Int) (S : Nat → ByteArray) (hl : len ≤ 100) (hs : s.size ≤ 1000) (W : World) (hrow : PartRow W a len cap K N S) :
    Calls Try.prog 4 #[.slice a len cap, .string s] W fun e W' => e = .returned (.bool true) ∧ Below W.heap.size W W' := by
  have h1I : ¬ (100 : Int) < (len : Int) := by omega
  have h2I : ¬ (1000 : Int) < (s.size : Int) := by omega
  have cell : Hid (∀ wr, Below W.heap.size W wr → ∀ j, j < len → ∃ q off, a = some ⟨q, off, none⟩ ∧ wr.cell? ⟨q, off + j * 3, none⟩ = some (.int .u8 (K j)) ∧ wr.cell? ⟨q, off + j * 3 + 1, none⟩ = some (.int .u64 (N j)) ∧ wr.cell? ⟨q, off + j * 3 + 2, none⟩ = some (.string (S j))) := Lib.hid <| by
    intro wr hb j hj
    obtain ⟨q, off, ha, hq, c0, c1, c2⟩ := hrow.at_ j hj
    exact ⟨q, off, ha, (hb.cell (p := ⟨q, _, none⟩) hq).trans c0, (hb.cell (p := ⟨q, _, none⟩) hq).trans c1, (hb.cell (p := ⟨q, _, none⟩) hq).trans c2⟩
  have WF : Hid (∀ j, j < len → 0 ≤ K j ∧ K j ≤ 255 ∧ 0 ≤ N j ∧ N j < 18446744073709551616 ∧ (S j).size ≤ maxLen) := Lib.hid fun j hj => by
    obtain ⟨h0, h1, h2⟩ := hrow.wf j hj
    have b0 := bounds_u8 h0
    have b1 := bounds_u64 h1
    exact ⟨b0.1, b0.2, b1.1, by omega, h2⟩
  have NW := Lib.hid (At.trix (At.emp W) wr_new)
  have END := Lib.hid (fun w => wlives w)
  clear hrow
  go_enter Try.func4, Try.ntmps4
  go_wp2_with fail
  refine NW.out.mono ?_
  rintro e w1 ⟨p, rfl, a1⟩
  have A0 : Hid (At (wrA p (bC K N S 0) false) W (fun _ => False) w1) := Lib.hid a1
  have Z0 : Hid (∀ j, j < 0 → (S j).size ≤ 1000) := Lib.hid fun j hj => absurd hj (by omega)
  clear a1 NW
  go_wp2_with fail
  go_loopw [26] (fun iv wr => ∃ k : Nat, k ≤ len ∧ iv = .int .i64 k ∧ Hid (∀ j, j < k → (S j).size ≤ 1000) ∧ Hid (At (wrA p (bC K N S k) false) W (fun _ => False) wr)) (fun iv _ => len - (intOf iv).toNat)
  case atStart => exact ⟨0, Nat.zero_le _, rfl, Z0, A0⟩
  case round =>
    clear A0 Z0
    obtain ⟨k, hk, rfl, HZ, HA⟩ := hrel
    by_cases hlt : k < len
    · obtain ⟨g, off, rfl, hc0, hc1, hc2⟩ := cell.out wr HA.out.below k hlt
      have hltI : (k : Int) < (len : Int) := by omega
      obtain ⟨k0, k1, n0, n1, s1⟩ := WF.out k hlt
      have hBL : (bC K N S k).length ≤ 10000000 := by
        have := bC_len K N S k fun j hj => ⟨by have := WF.out j (by omega); omega, HZ.out j hj⟩
        omega
      have NX : Hid (∀ sk, S k = sk → sk.size ≤ 1000 → ∀ j, j < k + 1 → (S j).size ≤ 1000) := Lib.hid fun sk e h j hj => by
        by_cases e2 : j = k
        · rw [e2, e]; exact h
        · exact HZ.out j (by omega)
      have ST : Hid (bC K N S (k + 1) = bC K N S k ++ paB (K k) (N k).toNat (S k)) := Lib.hid rfl
      have A1 := (HA.out.alloc (.cells #[.int .u8 (K k), .int .u64 (N k), .string (S k)] 46)).re (B := wrA p (bC K N S k) false * blk wr.heap.size (.cells #[.int .u8 (K k), .int .u64 (N k), .string (S k)] 46)) (by ac_rfl)
      have L1 := Lib.hid (END.out (wr.alloc (.cells #[.int .u8 (K k), .int .u64 (N k), .string (S k)] 46)))
      have LB := Lib.hid A1.below
      have LZ := Lib.hid A1.size
      obtain ⟨n, hn⟩ := Int.eq_ofNat_of_zero_le n0
      have hss : ((S k).size : Int) ≤ 9223372036854775807 := by unfold maxLen at s1; omega
      rw [hn] at A1 hc1 n1 ST L1 LB LZ
      rw [Int.toNat_natCast] at ST
      obtain ⟨sk, hsk⟩ : ∃ sk, S k = sk := ⟨_, rfl⟩
      have NX := Lib.hid (NX.out sk hsk)
      rw [hsk] at A1 hc2 s1 ST L1 LB LZ hss
      obtain ⟨kk, hkk⟩ : ∃ kk, K k = kk := ⟨_, rfl⟩
      rw [hkk] at A1 hc0 ST L1 LB LZ k0 k1
      clear hn hsk hkk HA HZ n0
      by_cases hbig : 1000 < sk.size
      · have hbI : (1000 : Int) < (sk.size : Int) := by omega
        clear A1 NX ST
        go_wp2_with (go_at_call 5; refine L1.out.mono ?_; rintro e1 w2 ⟨rfl, hb⟩)
        go_ret
        exact ⟨rfl, Below.step LB.out hb LZ.out⟩
      · have hbI : ¬ (1000 : Int) < (sk.size : Int) := by omega
        have T1 := At.tri1 A1 (w_write kk k0 k1 n (by omega) sk s1 hBL)
        rw [show (false || paL kk sk) = false by
          unfold paL txL
          by_cases hx : kk % 4 = 0 ∨ kk % 4 = 1 ∨ kk % 4 = 2
          · rw [if_pos hx]; rfl
          · rw [if_neg hx, decide_eq_false (by omega)]; rfl, ← ST.out] at T1
        have T1 := Lib.hid T1
        have NX := Lib.hid (NX.out (by omega))
        clear A1 L1 LB LZ ST
        go_wp2_with fail
        refine T1.out.mono ?_
        rintro e1 w2 ⟨rfl, hA⟩
        have HA := Lib.hid hA.dropr
        clear hA T1
        go_wp2_with fail
        exact ⟨⟨k + 1, by omega, by go_num, NX, HA⟩, by simp [intOf]; omega⟩
    · obtain rfl : k = len := by omega
      have hltI : ¬ (k : Int) < (k : Int) := by omega
      have hBL : (bC K N S k).length ≤ 10000000 := by
        have := bC_len K N S k fun j hj => ⟨by have := WF.out j (by omega); omega, HZ.out j hj⟩
        omega
      have D1 := Lib.hid (At.ask1 HA.out (wr_doneB (p := p) (bs := bC K N S k)))
      obtain ⟨T, hT⟩ : ∃ T : ByteArray, (⟨(bC K N S k).toArray⟩ : ByteArray) ++ s = T := ⟨_, rfl⟩
      have TL : T.data.toList = bC K N S k ++ s.data.toList := by rw [← hT]; exact str_appB _ _
      have TS : T.size = (bC K N S k).length + s.size := by
        have := congrArg List.length TL
        rw [List.length_append] at this
        exact this
      have HT := Lib.hid hT
      have NR := Lib.hid (At.tri (At.pure_in trivial HA.out) (rd_new T))
      have BN : Hid (∀ j, j < k → ∃ rest, T.data.toList.drop (bC K N S j).length = paB (K j) (N j).toNat (S j) ++ rest ∧ (bC K N S j).length ≤ T.size ∧ (bC K N S (j + 1)).length = (bC K N S j).length + (paB (K j) (N j).toNat (S j)).length) := Lib.hid fun j hj => by
        obtain ⟨rest, hr⟩ := bC_rest K N S (j + 1) (k - (j + 1))
        rw [show j + 1 + (k - (j + 1)) = k by omega] at hr
        have e : bC K N S (j + 1) = bC K N S j ++ paB (K j) (N j).toNat (S j) := rfl
        have hl := congrArg List.length hr
        rw [e, List.length_append, List.length_append] at hl
        refine ⟨rest ++ s.data.toList, ?_, by omega, by rw [e, List.length_append]⟩
        rw [TL, hr, e, List.append_assoc, List.append_assoc, List.drop_append_of_le_length (Nat.le_refl _), List.drop_length, List.nil_append]
      have TZ : Hid (T.size ≤ 1000000000 ∧ T.size - (bC K N S k).length = s.size ∧ (bC K N S k).length ≤ T.size) := Lib.hid ⟨by omega, by omega, by omega⟩
      have hz : (⟨(bC K N S k).toArray⟩ : ByteArray).size ≤ 10000000 := hBL
      obtain ⟨t1, ht1⟩ : ∃ t1, (⟨(bC K N S k).toArray⟩ : ByteArray) = t1 := ⟨_, rfl⟩
      have HT := HT.out
      rw [ht1] at D1 HT hz
      have HT := Lib.hid HT
      clear HA hT TL TS hBL ht1
      go_wp2_with fail
      refine D1.out.mono ?_
      rintro e1 w2 ⟨rfl, rfl⟩
      clear D1
      go_wp2_with fail
      try rw [HT.out]
      refine NR.out.mono ?_
      rintro e1 w3 ⟨r, rfl, hA⟩
      have A0 : Hid (At (rdA r T (bC K N S 0).length 0) W (fun _ => False) w3) := Lib.hid hA.dropr
      clear hA NR HT
      go_wp2_with fail
      go_loopw [13, 50] (fun _ iv wr => ∃ j : Nat, j ≤ k ∧ iv = .int .i64 j ∧ Hid (At (rdA r T (bC K N S j).length 0) W (fun _ => False) wr)) (fun _ iv _ => k - (intOf iv).toNat)
      case atStart => exact ⟨0, Nat.zero_le _, rfl, A0⟩
      case round =>
        clear A0
        obtain ⟨j, hj, rfl, HA⟩ := hrel
        by_cases hjk : j < k
        · obtain ⟨g, off, rfl, hc0, hc1, hc2⟩ := cell.out wr HA.out.below j hjk
          have hjkI : (j : Int) < (k : Int) := by omega
          obtain ⟨k0, k1, n0, n1, s1⟩ := WF.out j hjk
          obtain ⟨rest, b1, b2, b3⟩ := BN.out j hjk
          have sz := HZ.out j hjk
          have A1 := (HA.out.alloc (.cells #[.int .u8 (K j), .int .u64 (N j), .string (S j)] 46)).re (B := rdA r T (bC K N S j).length 0 * blk wr.heap.size (.cells #[.int .u8 (K j), .int .u64 (N j), .string (S j)] 46)) (by ac_rfl)
          have GO : Hid (∀ w, At (rdA r T ((bC K N S j).length + (paB (K j) (N j).toNat (S j)).length) 0) W (fun _ => False) w → At (rdA r T (bC K N S (j + 1)).length 0) W (fun _ => False) w) := Lib.hid fun w h => by rw [b3]; exact h
          obtain ⟨n, hn⟩ := Int.eq_ofNat_of_zero_le n0
          rw [hn] at A1 hc1 n1 b1 GO
          rw [Int.toNat_natCast] at b1 GO
          obtain ⟨sk, hsk⟩ : ∃ sk, S j = sk := ⟨_, rfl⟩
          rw [hsk] at A1 hc2 sz b1 GO
          obtain ⟨kk, hkk⟩ : ∃ kk, K j = kk := ⟨_, rfl⟩
          rw [hkk] at A1 hc0 b1 k0 k1 GO
          obtain ⟨q, hq⟩ : ∃ q, (bC K N S j).length = q := ⟨_, rfl⟩
          rw [hq] at A1 b1 b2 GO
          have n2 : n < 18446744073709551616 := by omega
          have TZ1 := TZ.out.1
          obtain ⟨y0, y1, y2⟩ := box_cells A1
          obtain ⟨Y, hY⟩ : ∃ Y, wr.heap.size = Y := ⟨_, rfl⟩
          rw [hY] at A1 y0 y1 y2
          have HY := Lib.hid hY
          have HN2 := Lib.hid n2
          clear hn hsk hkk HA n0 b3 hq s1 hY n1 n2
          by_cases m0 : kk % 4 = 0
          · have PB : paB kk n sk = leb n := by unfold paB; rw [if_pos m0]
            rw [PB] at b1 GO
            have T1 := Lib.hid (At.tri1 A1.drew (b_num TZ1 b2 n HN2.out b1))
            have GO2 := Lib.hid (fun w h => GO.out w (At.dropr (C := blk Y (.cells #[.int .u8 kk, .int .u64 n, .string sk] 46)) h))
            have BX := Lib.hid (fun w (h : At (rdA r T (q + (leb n).length) 0 * blk Y (.cells #[.int .u8 kk, .int .u64 n, .string sk] 46)) W (fun _ => False) w) => box_cells h)
            clear A1 GO PB b1 b2 sz
            go_wp2_with fail
            try rw [HY.out]
            go_region_with (first | (go_at_call 7; with_reducible refine T1.out.mono ?_; rintro e1 w4 ⟨rfl, hA⟩; obtain ⟨z0, z1, z2⟩ := BX.out _ hA; have HA := Lib.hid (GO2.out _ hA); clear hA) | (go_at_call 11; with_reducible refine (fl_bits _ _).mono ?_; rintro e1 w5 ⟨rfl, rfl⟩))
            all_goals
              go_wp2_with fail
              exact ⟨⟨j + 1, by omega, by go_num, HA⟩, by simp [intOf]; omega⟩
          · by_cases m1 : kk % 4 = 1
            · have PB : paB kk n sk = leb (zz n) := by unfold paB; rw [if_neg m0, if_pos m1]
              rw [PB] at b1 GO
              have T1 := Lib.hid (At.tri1 A1.drew (b_int TZ1 b2 n HN2.out b1))
              have GO2 := Lib.hid (fun w h => GO.out w (At.dropr (C := blk Y (.cells #[.int .u8 kk, .int .u64 n, .string sk] 46)) h))
              have BX := Lib.hid (fun w (h : At (rdA r T (q + (leb (zz n)).length) 0 * blk Y (.cells #[.int .u8 kk, .int .u64 n, .string sk] 46)) W (fun _ => False) w) => box_cells h)
              clear A1 GO PB b1 b2 sz
              go_wp2_with fail
              try rw [HY.out]
              go_region_with (first | (go_at_call 9; with_reducible refine T1.out.mono ?_; rintro e1 w4 ⟨rfl, hA⟩; obtain ⟨z0, z1, z2⟩ := BX.out _ hA; have HA := Lib.hid (GO2.out _ hA); clear hA) | (go_at_call 11; with_reducible refine (fl_bits _ _).mono ?_; rintro e1 w5 ⟨rfl, rfl⟩))
              all_goals
                go_wp2_with fail
                exact ⟨⟨j + 1, by omega, by go_num, HA⟩, by simp [intOf]; omega⟩
            · by_cases m2 : kk % 4 = 2
              · have PB : paB kk n sk = leK n 8 := by unfold paB; rw [if_neg m0, if_neg m1, if_pos m2]
                rw [PB] at b1 GO
                have T1 := Lib.hid (At.tri1 A1.drew (b_flt TZ1 b2 n HN2.out b1))
                have GO2 := Lib.hid (fun w h => GO.out w (At.dropr (C := blk Y (.cells #[.int .u8 kk, .int .u64 n, .string sk] 46)) h))
                have BX := Lib.hid (fun w (h : At (rdA r T (q + (leK n 8).length) 0 * blk Y (.cells #[.int .u8 kk, .int .u64 n, .string sk] 46)) W (fun _ => False) w) => box_cells h)
                clear A1 GO PB b1 b2 sz
                go_wp2_with fail
                try rw [HY.out]
                go_region_with (first | (go_at_call 12; with_reducible refine T1.out.mono ?_; rintro e1 w4 ⟨rfl, hA⟩; obtain ⟨z0, z1, z2⟩ := BX.out _ hA; have HA := Lib.hid (GO2.out _ hA); clear hA) | (go_at_call 11; with_reducible refine (fl_bits _ _).mono ?_; rintro e1 w5 ⟨rfl, rfl⟩))
                all_goals
                  go_wp2_with fail
                  exact ⟨⟨j + 1, by omega, by go_num, HA⟩, by simp [intOf]; omega⟩
              · have PB : paB kk n sk = txB sk := by unfold paB; rw [if_neg m0, if_neg m1, if_neg m2]
                rw [PB] at b1 GO
                have T1 := Lib.hid (At.tri1 A1.drew (b_txt TZ1 b2 sk sz b1))
                have GO2 := Lib.hid (fun w h => GO.out w (At.dropr (C := blk Y (.cells #[.int .u8 kk, .int .u64 n, .string sk] 46)) h))
                have BX := Lib.hid (fun w (h : At (rdA r T (q + (txB sk).length) 0 * blk Y (.cells #[.int .u8 kk, .int .u64 n, .string sk] 46)) W (fun _ => False) w) => box_cells h)
                clear A1 GO PB b1 b2 sz
                go_wp2_with fail
                try rw [HY.out]
                go_region_with (first | (go_at_call 14; with_reducible refine T1.out.mono ?_; rintro e1 w4 ⟨rfl, hA⟩; obtain ⟨z0, z1, z2⟩ := BX.out _ hA; have HA := Lib.hid (GO2.out _ hA); clear hA) | (go_at_call 11; with_reducible refine (fl_bits _ _).mono ?_; rintro e1 w5 ⟨rfl, rfl⟩))
                all_goals
                  go_wp2_with fail
                  exact ⟨⟨j + 1, by omega, by go_num, HA⟩, by simp [intOf]; omega⟩
        · obtain rfl : j = k := by omega
          have hjkI : ¬ (j : Int) < (j : Int) := by omega
          obtain ⟨t1, t2, t3⟩ := TZ.out
          have E1 := Lib.hid (rd_err HA.out.unit)
          have L1 := rd_left t1 t3 HA.out.unit
          rw [t2] at L1
          have L1 := Lib.hid L1
          have EN := Lib.hid (fun m => END.out (wr.drewN m))
          have LB := Lib.hid (fun m => (HA.out.drewN m).below)
          have LZ := Lib.hid (fun m => (HA.out.drewN m).size)
          clear HA t1 t2 t3 cell END
          go_wp2_with (first | (go_at_call 17; with_reducible refine E1.out.mono ?_; rintro e1 w4 ⟨rfl, rfl⟩) | (go_at_call 16; with_reducible refine L1.out.mono ?_; rintro e1 w4 ⟨rfl, m, rfl⟩) | (go_at_call 5; refine (EN.out m).mono ?_; rintro e1 w5 ⟨rfl, hb⟩))
          go_ret
          exact ⟨rfl, Below.step (LB.out m) hb (LZ.out m)⟩

theorem back_law (s : ByteArray) (hss : s.size ≤ maxLen) (a : Option Addr) (len cap : Nat) (K N : Nat → Int) (S : Nat → ByteArray) (W : World) (hrow : PartRow W a len cap K N S) :
    Calls Try.prog 4 #[.slice a len cap, .string s] W fun e W' => e = .returned (.bool true) ∧ Below W.heap.size W W' := by
  have h1 := hrow.lc
  have h2 := hrow.cm
  unfold maxLen at h2 hss
  by_cases h : 100 < len ∨ 1000 < s.size
  · exact back_long s a len cap (by omega) (by omega) h W
  · exact back_short s a len cap K N S (by omega) (by omega) W hrow

end Go.Proofs.Ytfgdfhcefgblaaa
