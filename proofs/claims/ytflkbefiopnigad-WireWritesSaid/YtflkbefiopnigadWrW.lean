/- The law WireWrites, walked. -/
import Derived.Test.YtflkbefiopnigadWrR
import Derived.Test.YtflkbefiopnigadParts
namespace Go.Proofs.Ytflkbefiopnigad
open Go.ChangeShapes Go.WideShapes Go.ChangeAt Go.RowKit

theorem At.later {A : Asn} {w0 w w' : World} {S0 : Nat → Prop} (h : At A w0 S0 w) (hb : Below w.heap.size w w') : At A w0 S0 w' := by
  refine h.step ?_
  intro S a
  exact ⟨S, A.keep a (fun k hk => hb.block k (A.lt a k hk)), fun _ h => .inl h, Fr.ofBelow hb (fun k hk _ => hk)⟩

/-- how much the texts weigh -/
def wS (S : Nat → ByteArray) : Nat → Nat
  | 0 => 0
  | k + 1 => wS S k + (min (S k).size 100000 + 1)

def wC (K N : Nat → Int) (S : Nat → ByteArray) : Nat → List UInt8
  | 0 => []
  | k + 1 => wC K N S k ++ paB (K k) (N k).toNat (S k)

def wL (K : Nat → Int) (S : Nat → ByteArray) : Nat → Bool
  | 0 => false
  | k + 1 => wL K S k || paL (K k) (S k)

theorem txB_len (s : ByteArray) : (txB s).length ≤ 10 * (min s.size 100000 + 1) := by
  unfold txB
  by_cases h : s.size ≤ 65535
  · rw [if_pos h, List.length_append]
    have := leb_len 9 s.size (Nat.lt_of_le_of_lt h (by decide))
    have e : s.data.toList.length = s.size := by simp
    omega
  · rw [if_neg h]; simp

theorem paB_len (k : Int) (n : Nat) (hn : n < 18446744073709551616) (s : ByteArray) : (paB k n s).length ≤ 10 * (min s.size 100000 + 1) := by
  have b : ∀ m, m < 18446744073709551616 → (leb m).length ≤ 10 := fun m hm => leb_len 9 m (Nat.lt_of_lt_of_le hm (by decide))
  have z : zz n < 18446744073709551616 := by unfold zz; split <;> omega
  have t := txB_len s
  unfold paB
  split
  · have := b n hn; omega
  · split
    · have := b _ z; omega
    · split
      · rw [leK_len]; omega
      · exact t

theorem wC_len (K N : Nat → Int) (S : Nat → ByteArray) (len : Nat) (hN : ∀ j, j < len → (N j).toNat < 18446744073709551616) : ∀ k, k ≤ len → (wC K N S k).length ≤ 10 * wS S k
  | 0, _ => by simp [wC, wS]
  | k + 1, hk => by
    have ih := wC_len K N S len hN k (by omega)
    have := paB_len (K k) (N k).toNat (hN k (by omega)) (S k)
    unfold wC wS
    rw [List.length_append]; omega

theorem wS_mono (S : Nat → ByteArray) : ∀ a b, wS S a ≤ wS S (a + b)
  | a, 0 => Nat.le_refl _
  | a, b + 1 => by
    have := wS_mono S a b
    show _ ≤ wS S (a + b) + _
    omega

theorem cells3 {w : World} {b : Nat} {x0 x1 x2 : Value} {t : TypeId} (h : w.heap[b]? = some (.cells #[x0, x1, x2] t (0, 0))) :
    w.cell? ⟨b, 0, none⟩ = some x0 ∧ w.cell? ⟨b, 1, none⟩ = some x1 ∧ w.cell? ⟨b, 2, none⟩ = some x2 := by
  simp [World.cell?, h]

theorem own_str0 {w : World} {B cap : Nat} {e : TypeId} {a : Option Addr} {l : List UInt8} (h : w.ownsRow B e 1 (.slice a l.length cap) l.length (byV l)) (src dst : TypeId) {P : Program} (hs : P.underlying src = some (.slice e)) (he : P.underlying e = some (.int .u8)) (hd : P.underlying dst = some .string) :
    (convert src dst (.slice a l.length cap)).run P w = .ok (.string ⟨l.toArray⟩) w := by
  by_cases hn : 0 < l.length
  · exact own_str hn rfl h src dst hs he hd
  · have hl : l = [] := List.eq_nil_of_length_eq_zero (by omega)
    subst hl
    rcases h.2 with ⟨hv, hx⟩ | ⟨g, cap', cur, hv, _⟩
    · simp only [Value.slice.injEq] at hv
      obtain ⟨rfl, _, rfl⟩ := hv
      simp [convert, run_underlying hs, run_underlying hd, run_underlying he, Conv.bytesToString]
      rfl
    · simp only [Value.slice.injEq, true_and] at hv
      obtain ⟨rfl, rfl⟩ := hv
      exact run_convert_bytes_back w src dst e ⟨g, 0, none⟩ cap [] hs he hd (fun j hj => absurd hj (by simp))

theorem wr_done0 {p : Nat} {bs : List UInt8} : Ask Try.prog 6 #[.pointer (some ⟨p, 0, none⟩)] (wrA p bs false) (.tuple #[.string ⟨bs.toArray⟩, .int .i64 0]) := by
  intro w S h
  obtain ⟨a, cap, hX⟩ := wr_open (At.refl h)
  obtain ⟨c0, c1, cf⟩ := wr_cells hX
  have hcv := own_str0 (wr_own hX) 50 9 (P := Try.prog) Try.underlying50 Try.underlying5 Try.underlying9
  clear hX h
  go_enter Try.func6, Try.ntmps6
  go_wp2
  go_ret2
  exact ⟨rfl, rfl⟩

theorem wr_done1 {p : Nat} {bs : List UInt8} : Ask Try.prog 6 #[.pointer (some ⟨p, 0, none⟩)] (wrA p bs true) (.tuple #[.string ⟨#[]⟩, .int .i64 3]) := by
  intro w S h
  obtain ⟨a, cap, hX⟩ := wr_open (At.refl h)
  obtain ⟨c0, c1, cf⟩ := wr_cells hX
  clear hX h
  go_enter Try.func6, Try.ntmps6
  go_wp2
  go_ret2
  exact ⟨rfl, rfl⟩

set_option maxHeartbeats 4000000 in
set_option maxRecDepth 100000 in
theorem writes_any (a : Option Addr) (len cap : Nat) (K N : Nat → Int) (S : Nat → ByteArray) (W : World) (hrow : PartRow W a len cap K N S) :
    Calls Try.prog 4 #[.slice a len cap] W fun e W' => e = .returned (.bool true) ∧ Below W.heap.size W W' := by
  have hcl : len ≤ cap := hrow.lc
  have hcm : cap ≤ 9223372036854775807 := by have := hrow.cm; unfold maxLen at this; omega
  have cell : Hid (∀ wr, Below W.heap.size W wr → ∀ j, j < len → ∃ q off, a = some ⟨q, off, none⟩ ∧ wr.cell? ⟨q, off + j * 3, none⟩ = some (.int .u8 (K j)) ∧ wr.cell? ⟨q, off + j * 3 + 1, none⟩ = some (.int .u64 (N j)) ∧ wr.cell? ⟨q, off + j * 3 + 2, none⟩ = some (.string (S j))) := Lib.hid <| by
    intro wr hb j hj
    obtain ⟨q, off, ha, hq, c0, c1, c2⟩ := hrow.at_ j hj
    exact ⟨q, off, ha, (hb.cell (p := ⟨q, _, none⟩) hq).trans c0, (hb.cell (p := ⟨q, _, none⟩) hq).trans c1, (hb.cell (p := ⟨q, _, none⟩) hq).trans c2⟩
  have WF : Hid (∀ j, j < len → 0 ≤ K j ∧ K j ≤ 255 ∧ 0 ≤ N j ∧ N j < 18446744073709551616 ∧ (S j).size ≤ maxLen) := Lib.hid fun j hj => by
    obtain ⟨h0, h1, h2⟩ := hrow.wf j hj
    have b0 := bounds_u8 h0
    have b1 := bounds_u64 h1
    exact ⟨b0.1, b0.2, b1.1, by omega, h2⟩
  have E := Lib.hid (At.emp W)
  clear hrow
  go_enter Try.func4, Try.ntmps4
  go_wp2
  go_loopw [3, 17] (fun n i wr => ∃ (k : Nat), k ≤ len ∧ i = .int .i64 k ∧ n = .int .i64 (wS S k : Nat) ∧ wS S k ≤ 200000 ∧ Hid (At (pur True) W (fun _ => False) wr)) (fun _ i _ => len - (intOf i).toNat)
  case atStart => exact ⟨0, Nat.zero_le _, rfl, rfl, by simp [wS], E⟩
  case round =>
    obtain ⟨k, hk, rfl, rfl, hT, HA⟩ := hrel
    by_cases hlt : k < len
    · obtain ⟨q, off, rfl, hc0, hc1, hc2⟩ := cell.out wr HA.out.below k hlt
      have hltI : (k : Int) < (len : Int) := by omega
      have hss : (S k).size ≤ 9223372036854775807 := by have := (WF.out k hlt).2.2.2.2; unfold maxLen at this; omega
      have HS : Hid (wS S (k + 1) = wS S k + (min (S k).size 100000 + 1)) := Lib.hid rfl
      have HA2 : Hid (At (pur True) W (fun _ => False) (wr.alloc (.cells #[.int .u8 (K k), .int .u64 (N k), .string (S k)] 24))) := Lib.hid ((HA.out.alloc _).re (B := pur True * blk wr.heap.size (.cells #[.int .u8 (K k), .int .u64 (N k), .string (S k)] 24)) (by ac_rfl)).dropr
      have LB := Lib.hid HA2.out.below
      have LZ := HA2.out.size
      generalize S k = sk at *
      generalize wS S k = tk at *
      generalize K k = kk at *
      generalize N k = nk at *
      clear HA
      by_cases hbig : 200000 < tk + (min sk.size 100000 + 1)
      · have hbI : (200000 : Int) < (tk : Int) + (min (sk.size : Int) 100000 + 1) := by omega
        go_wp2_with (go_at_call 14; refine (wlives _).mono ?_; rintro e1 w1 ⟨rfl, hb⟩)
        all_goals go_ret
        all_goals exact ⟨rfl, Below.step LB.out hb LZ⟩
      · have hbI : ¬ (200000 : Int) < (tk : Int) + (min (sk.size : Int) 100000 + 1) := by omega
        go_wp2
        exact ⟨⟨k + 1, by omega, by go_num, by (rw [HS.out]; congr 1; push_cast; split <;> omega), by rw [HS.out]; omega, HA2⟩, by simp [intOf]; omega⟩
    · obtain rfl : k = len := by omega
      have A0 := Lib.hid (HA.out.trix wr_new)
      have HLEN : Hid (∀ j, j ≤ k → (wC K N S j).length ≤ 2000000) := Lib.hid fun j hj => by
        have h1 := wC_len K N S k (fun j hj => by have := WF.out j hj; omega) j hj
        have h2 := wS_mono S j (k - j)
        rw [show j + (k - j) = k by omega] at h2
        omega
      clear HA E
      generalize wS S k = tk at *
      go_wp2_with fail
      refine A0.out.mono ?_
      rintro e w1 ⟨p, rfl, a1⟩
      have A1 := Lib.hid a1
      clear a1 A0
      go_wp2
      go_loopw [7, 8, 37] (fun want ok i wr => ∃ (j : Nat), j ≤ k ∧ i = .int .i64 j ∧ want = .string ⟨(wC K N S j).toArray⟩ ∧ ok = .bool (!wL K S j) ∧ Hid (At (wrA p (wC K N S j) (wL K S j)) W (fun _ => False) wr)) (fun _ _ i _ => k - (intOf i).toNat)
      case atStart => exact ⟨0, Nat.zero_le _, rfl, rfl, rfl, A1⟩
      case round =>
        clear A1
        obtain ⟨j, hj, rfl, rfl, rfl, HB⟩ := hrel
        by_cases hjl : j < k
        · obtain ⟨q, off, rfl, hc0, hc1, hc2⟩ := cell.out wr HB.out.below j hjl
          have hltI : (j : Int) < (k : Int) := by omega
          obtain ⟨w0, w1', w2', w3', w4'⟩ := WF.out j hjl
          obtain ⟨n, hn⟩ := Int.eq_ofNat_of_zero_le w2'
          have hC : Hid (wC K N S (j + 1) = wC K N S j ++ paB (K j) n (S j)) := Lib.hid (by show wC K N S j ++ paB (K j) (N j).toNat (S j) = _; rw [hn]; rfl)
          have hL : Hid (wL K S (j + 1) = (wL K S j || paL (K j) (S j))) := Lib.hid rfl
          have hb := HLEN.out j hj
          have hb2 := HLEN.out (j + 1) hjl
          rw [hC.out, List.length_append] at hb2
          have WR := w_write (p := p) (bs := wC K N S j) (lg := wL K S j) (K j) w0 w1' n (by omega) (S j) w4' (by omega)
          have BY := Lib.hid (r_bytes (K j) w0 w1' n (by omega) (S j) w4')
          rw [hn] at hc1
          have HB2 := (HB.out.alloc (.cells #[.int .u8 (K j), .int .u64 (n : Int), .string (S j)] 24)).re (B := wrA p (wC K N S j) (wL K S j) * blk wr.heap.size (.cells #[.int .u8 (K j), .int .u64 (n : Int), .string (S j)] 24)) (by ac_rfl)
          have C := Lib.hid (HB2.tri1 WR)
          have AP := str_app (wC K N S j) ⟨(paB (K j) n (S j)).toArray⟩
          have hz1 : (⟨(wC K N S j).toArray⟩ : ByteArray).size ≤ 2000000 := hb
          have hz2 : (⟨(paB (K j) n (S j)).toArray⟩ : ByteArray).size ≤ 2000000 := by show (paB (K j) n (S j)).length ≤ _; omega
          clear WR HB2 HB WF w0 w1' w2' w3' w4' hb hb2
          generalize paB (K j) n (S j) = pb at *
          generalize paL (K j) (S j) = pl at *
          generalize S j = sj at *
          generalize K j = kj at *
          clear hn
          go_wp2_with fail
          refine C.out.mono ?_
          rintro e w3 ⟨rfl, a3⟩
          obtain ⟨x0, x1, x2⟩ := cells3 (At.blkIs (A := wrA p (wC K N S j ++ pb) (wL K S j || pl)) (a3.re (by ac_rfl)))
          have H3 := Lib.hid a3
          clear a3 C
          go_wp2_with fail
          refine (BY.out _).mono ?_
          rintro e w4 ⟨rfl, b4⟩
          have H4 := Lib.hid ((H3.out.dropr).later b4)
          clear H3 b4 BY x0 x1 x2
          go_wp2_with fail
          all_goals exact ⟨⟨j + 1, by omega, by go_num, by rw [hC.out], by (rw [hL.out]; first | (simp [*]; done) | (simp_all; done)), Lib.hid (by rw [hC.out, hL.out]; exact H4.out)⟩, by simp [intOf]; omega⟩
        · obtain rfl : j = k := by omega
          have hltI : ¬ (j : Int) < (j : Int) := by omega
          have B := Lib.hid HB.out.below
          have SZ := Lib.hid HB.out.size
          cases hw : wL K S j
          · rw [hw] at HB
            have D := Lib.hid (HB.out.ask1 wr_done0)
            clear HB HLEN
            generalize (⟨(wC K N S j).toArray⟩ : ByteArray) = res at *
            go_wp2_with (first | (go_at_call 6; refine D.out.mono ?_; rintro e1 w2 ⟨rfl, rfl⟩) | (go_at_call 14; refine (wlives _).mono ?_; rintro e1 w2 ⟨rfl, hb⟩))
            go_ret
            exact ⟨rfl, Below.step B.out hb SZ.out⟩
          · rw [hw] at HB
            have D := Lib.hid (HB.out.ask1 wr_done1)
            clear HB HLEN
            generalize (⟨(wC K N S j).toArray⟩ : ByteArray) = res at *
            go_wp2_with (first | (go_at_call 6; refine D.out.mono ?_; rintro e1 w2 ⟨rfl, rfl⟩) | (go_at_call 14; refine (wlives _).mono ?_; rintro e1 w2 ⟨rfl, hb⟩))
            go_ret
            exact ⟨rfl, Below.step B.out hb SZ.out⟩

end Go.Proofs.Ytflkbefiopnigad
