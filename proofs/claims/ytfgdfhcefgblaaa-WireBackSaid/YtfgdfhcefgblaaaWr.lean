/- The writer (layer 5) in memory: numbers. -/
import Derived.Test.YtfgdfhcefgblaaaSL
import Derived.Lib.Varint
namespace Go.Proofs.Ytfgdfhcefgblaaa
open Go.ChangeShapes Go.WideShapes Go.ChangeAt Go.RowKit

def byV (l : List UInt8) : List Value := l.map (fun c => Value.int .u8 c.toNat)

def wrX (p : Nat) (bs : List UInt8) (lg : Bool) (v : Value) : Asn := blk p (.cells #[v, .bool lg] 63 (0, 0)) * own 5 1 v bs.length (byV bs)

/-- block p is a writer of bs -/
def wrA (p : Nat) (bs : List UInt8) (lg : Bool) : Asn := exa fun v => wrX p bs lg v

theorem wrA_of {w0 w : World} {S0 : Nat → Prop} {p : Nat} {bs : List UInt8} {lg : Bool} {v : Value} (h : At (wrX p bs lg v) w0 S0 w) : At (wrA p bs lg) w0 S0 w :=
  At.ofex (A := fun v => wrX p bs lg v) v h

theorem own_form' {w : World} {B n z : Nat} {e : TypeId} {v : Value} {xs : List Value} (h : w.ownsRow B e z v n xs) : ∃ a cap, v = .slice a n cap := by
  rcases h.2 with ⟨rfl, rfl⟩ | ⟨g, cap, cur, rfl, _⟩
  · exact ⟨_, _, rfl⟩
  · exact ⟨_, _, rfl⟩

theorem wr_open {w0 w : World} {S0 : Nat → Prop} {p : Nat} {bs : List UInt8} {lg : Bool} (h : At (wrA p bs lg) w0 S0 w) : ∃ a cap, At (wrX p bs lg (.slice a bs.length cap)) w0 S0 w := by
  obtain ⟨v, h⟩ := h.exaIs
  have ho := At.ownIs (h.re (B := own 5 1 v bs.length (byV bs) * blk p (.cells #[v, .bool lg] 63 (0, 0))) (by unfold wrX; ac_rfl))
  obtain ⟨a, cap, rfl⟩ := own_form' ho
  exact ⟨a, cap, h⟩

theorem wr_own {w0 w : World} {S0 : Nat → Prop} {p : Nat} {bs : List UInt8} {lg : Bool} {v : Value} (h : At (wrX p bs lg v) w0 S0 w) : w.ownsRow 0 5 1 v bs.length (byV bs) :=
  At.ownIs (h.re (B := own 5 1 v bs.length (byV bs) * blk p (.cells #[v, .bool lg] 63 (0, 0))) (by unfold wrX; ac_rfl))

theorem cells2 {w : World} {b : Nat} {x0 x1 : Value} {t : TypeId} (h : w.heap[b]? = some (.cells #[x0, x1] t (0, 0))) :
    w.cell? ⟨b, 0, none⟩ = some x0 ∧ w.cell? ⟨b, 1, none⟩ = some x1 ∧ (∀ i, w.frozen? ⟨b, i, none⟩ = false) := by
  simp [World.cell?, World.frozen?, h]

theorem wr_cells {w0 w : World} {S0 : Nat → Prop} {p : Nat} {bs : List UInt8} {lg : Bool} {v : Value} (h : At (wrX p bs lg v) w0 S0 w) : w.cell? ⟨p, 0, none⟩ = some v ∧ w.cell? ⟨p, 1, none⟩ = some (.bool lg) ∧ (∀ i, w.frozen? ⟨p, i, none⟩ = false) :=
  cells2 (At.blkIs (A := own 5 1 v bs.length (byV bs)) h)

theorem byV_snoc (bs : List UInt8) (c : UInt8) : byV bs ++ [.int .u8 c.toNat] = byV (bs ++ [c]) := by simp [byV]

/-- a byte behind the others -/
theorem wr_push {w0 w w1 : World} {S : Nat → Prop} {p : Nat} {bs : List UInt8} {lg : Bool} {a : Option Addr} {cap g' cap' : Nat} {x : Int} (c : UInt8) (hx : x = c.toNat) (h : At (wrX p bs lg (.slice a bs.length cap)) w0 S w)
    (hown : w1.ownsRow 0 5 1 (.slice (some ⟨g', 0, none⟩) (bs.length + 1) cap') (bs.length + 1) (byV bs ++ [.int .u8 x]))
    (hgrow : (w.alloc (.cells #[.int .u8 x] 5)).grownBy w1 (Value.slice a bs.length cap).ownBlock)
    (hwhere : (Value.slice a bs.length cap).ownBlock = some g' ∨ w.heap.size + 1 ≤ g') :
    (w1.cell? ⟨p, 0, none⟩ = some (.slice a bs.length cap) ∧ w1.cell? ⟨p, 1, none⟩ = some (.bool lg) ∧ (∀ i, w1.frozen? ⟨p, i, none⟩ = false)) ∧ At (wrA p (bs ++ [c]) lg) w0 S (w1.setCell ⟨p, 0, none⟩ (.slice (some ⟨g', 0, none⟩) (bs.length + 1) cap')) := by
  subst hx
  rw [byV_snoc] at hown
  have H2 := (h.alloc (.cells #[.int .u8 c.toNat] 5)).re (B := own 5 1 (.slice a bs.length cap) bs.length (byV bs) * (blk w.heap.size (.cells #[.int .u8 c.toNat] 5) * blk p (.cells #[.slice a bs.length cap, .bool lg] 63 (0, 0)))) (by unfold wrX; ac_rfl)
  have H3 := H2.grow hown hgrow (fun q hq => by
    cases hq
    rcases hwhere with h | h
    · exact .inl h
    · exact .inr (by simpa using h))
  have H4 := (H3.re (B := blk p (.cells #[.slice a bs.length cap, .bool lg] 63 (0, 0)) * own 5 1 (.slice (some ⟨g', 0, none⟩) (bs.length + 1) cap') (bs.length + 1) (byV (bs ++ [c])) * blk w.heap.size (.cells #[.int .u8 c.toNat] 5)) (by ac_rfl)).dropr
  refine ⟨cells2 H4.blkIs, wrA_of (v := .slice (some ⟨g', 0, none⟩) (bs.length + 1) cap') ?_⟩
  have H5 := H4.set_blk 0 (.slice (some ⟨g', 0, none⟩) (bs.length + 1) cap')
  unfold wrX
  rw [List.length_append, List.length_singleton]
  exact H5

/-- a number's bytes -/
def leb (n : Nat) : List UInt8 := if h : n < 128 then [n.toUInt8] else (n % 128 + 128).toUInt8 :: leb (n / 128)
termination_by n
decreasing_by omega

theorem leb_small {n : Nat} (h : n < 128) : leb n = [n.toUInt8] := by rw [leb, dif_pos h]
theorem leb_big {n : Nat} (h : ¬ n < 128) : leb n = (n % 128 + 128).toUInt8 :: leb (n / 128) := by rw [leb, dif_neg h]

theorem leb_len : ∀ (k n : Nat), n < 128 ^ (k + 1) → (leb n).length ≤ k + 1
  | 0, n, h => by rw [leb_small (by simpa using h)]; simp
  | k + 1, n, h => by
    by_cases e : n < 128
    · rw [leb_small e]; simp
    · rw [leb_big e, List.length_cons]
      have := leb_len k (n / 128) (by rw [Nat.div_lt_iff_lt_mul (by omega)]; rw [Nat.pow_succ] at h; exact h)
      omega

theorem leb_pos (n : Nat) : 0 < (leb n).length := by
  by_cases e : n < 128
  · rw [leb_small e]; simp
  · rw [leb_big e]; simp

theorem infU8 : (Try.prog.info? 5).map (fun i => (i.zero, i.size, i.bytes)) = some (some (.int .u8 0), 1, 1) := by kernel_rfl

theorem one_nw8 (wr : World) (x : Value) : ∀ j u, [x][j]? = some u → (wr.alloc (.cells #[x] 5)).cell? ((⟨wr.heap.size, 0, none⟩ : Addr).add j) = some u := by
  intro j u hj
  match j, hj with
  | 0, hj => simp at hj; subst hj; simp [Addr.add]

set_option maxRecDepth 100000 in
set_option maxHeartbeats 1000000 in
theorem wr_num {p : Nat} {bs : List UInt8} {lg : Bool} (n : Nat) (hn : n < 18446744073709551616) (hb : bs.length ≤ 10000000) : Tri1 Try.prog 21 #[.pointer (some ⟨p, 0, none⟩), .int .u64 n] (wrA p bs lg) (.tuple #[]) (wrA p (bs ++ leb n) lg) := by
  intro w S h
  have H0 := Lib.hid (At.refl h)
  clear h
  have hl : (leb n).length ≤ 10 := leb_len 9 n (Nat.lt_of_lt_of_le hn (by decide))
  obtain ⟨i0, hi, hz0, hz1, hz2⟩ := info_parts infU8
  have HI := Lib.hid hi
  have HZ0 := Lib.hid hz0
  have HZ1 := Lib.hid hz1
  have HZ2 := Lib.hid hz2
  have HN := Lib.hid hn
  clear hi hz0 hz1 hz2 hn
  go_enter Try.func21, Try.ntmps21
  go_wp2
  go_loopw [1] (fun v wr => ∃ (m : Nat) (cs : List UInt8), v = .int .u64 m ∧ Hid (m < 18446744073709551616) ∧ Hid (cs ++ leb m = bs ++ leb n) ∧ Hid (At (wrA p cs lg) w S wr)) (fun v _ => (intOf v).toNat)
  case atStart => exact ⟨n, bs, rfl, HN, Lib.hid rfl, H0⟩
  case round =>
    obtain ⟨m, cs, rfl, HM, HE, HA⟩ := hrel
    obtain ⟨a, cap, hX⟩ := wr_open HA.out
    obtain ⟨c0, c1, cf⟩ := wr_cells hX
    have HX := Lib.hid hX
    clear hX HA H0
    have hlen : cs.length + (leb m).length = bs.length + (leb n).length := by
      have := congrArg List.length HE.out
      simpa using this
    have lp := leb_pos m
    have hcs : cs.length ≤ 10000010 := by omega
    clear hlen lp
    by_cases h : m < 128
    · have hI : (m : Int) < 128 := by omega
      have HE2 := HE.out
      rw [leb_small h] at HE2
      have HE3 := Lib.hid HE2
      have HC : Hid ((m : Int) = (m.toUInt8).toNat) := Lib.hid (by simp; omega)
      have hm256 : (m : Int) % 256 = m := by omega
      clear HE HE2
      go_wp2_with (at_builtin; refine wpList_append_sep _ rfl _ _ 22 rfl 0 5 i0 (.int .u8 0) 1 1 Try.underlying22 HI.out HZ0.out HZ1.out HZ2.out rfl (by decide) _ _ _ rfl (World.ownsRow.alloc (wr_own HX.out) _) ⟨wr.heap.size, 0, none⟩ 1 1 [.int .u8 m] rfl rfl ?c1 ?c2 ?c3 ?c4 ?c5 ?c6 ?_)
      case c1 => exact one_nw8 wr _
      case c2 => simp [Value.oneCell']
      case c3 => unfold maxLen; omega
      case c4 => omega
      case c5 => exact Nat.zero_le _
      case c6 => omega
      intro g' cap' w1 hown' hgrow hwhere
      obtain ⟨⟨d0, d1, df⟩, A1⟩ := wr_push m.toUInt8 HC.out HX.out hown' hgrow hwhere
      have FIN := Lib.hid A1
      clear hown' hgrow hwhere A1 HX c0 c1 cf
      go_wp2
      go_end0
      refine ⟨rfl, ?_⟩
      rw [← HE3.out]
      exact FIN.out
    · have hI : (128 : Int) ≤ (m : Int) := by omega
      have HE2 := HE.out
      rw [leb_big h] at HE2
      have HE3 : Hid ((cs ++ [(m % 128 + 128).toUInt8]) ++ leb (m / 128) = bs ++ leb n) := Lib.hid (by rw [← HE2]; simp)
      have ho : bits .or .u8 ((m : Int) % 256) 128 = (m : Int) % 128 + 128 := by
        rw [Lib.u8_or128_any _ (by omega) (by omega)]; omega
      have HC : Hid ((m : Int) % 128 + 128 = ((m % 128 + 128).toUInt8).toNat) := Lib.hid (by simp; omega)
      have HM2 : Hid (m / 128 < 18446744073709551616) := Lib.hid (by have := HM.out; omega)
      clear HE HE2 HM
      go_wp2_with (at_builtin; refine wpList_append_sep _ rfl _ _ 22 rfl 0 5 i0 (.int .u8 0) 1 1 Try.underlying22 HI.out HZ0.out HZ1.out HZ2.out rfl (by decide) _ _ _ rfl (World.ownsRow.alloc (wr_own HX.out) _) ⟨wr.heap.size, 0, none⟩ 1 1 [.int .u8 ((m : Int) % 128 + 128)] rfl rfl ?c1 ?c2 ?c3 ?c4 ?c5 ?c6 ?_)
      case c1 => exact one_nw8 wr _
      case c2 => simp [Value.oneCell']
      case c3 => unfold maxLen; omega
      case c4 => omega
      case c5 => exact Nat.zero_le _
      case c6 => omega
      intro g' cap' w1 hown' hgrow hwhere
      obtain ⟨⟨d0, d1, df⟩, A1⟩ := wr_push ((m % 128 + 128).toUInt8) HC.out HX.out hown' hgrow hwhere
      have FIN := Lib.hid A1
      clear hown' hgrow hwhere A1 HX c0 c1 cf
      go_wp2
      go_roundw
      case rel => exact ⟨m / 128, _, by go_num, HM2, HE3, FIN⟩
      case measure => simp [intOf]; omega

end Go.Proofs.Ytfgdfhcefgblaaa
