/- A page map of any pages (layer 8): Len, Next, Count. -/
import Derived.Test.YtflkbefiopnigabDoorPgV
import Derived.Deep.QuietTactic
import Derived.BigQuiet
namespace Go.Proofs.YtflkbefiopnigabDoor.PT
open Go.ChangeShapes Go.WideShapes Go.ChangeAt Go.RowKit

theorem or511_nat (i j : Nat) (hj : j < 512) : (i * 512 + j) ||| 511 = i * 512 + 511 := by
  have h1 : ∀ q, q < 512 → 2 ^ 9 * i + q = 2 ^ 9 * i ||| q := fun q hq => Nat.two_pow_add_eq_or_of_lt (by simpa using hq) i
  have h2 : ∀ q : Fin 512, q.val ||| 511 = 511 := by decide +kernel
  have e := h1 j hj
  have e2 := h1 511 (by omega)
  rw [show i * 512 + j = 2 ^ 9 * i + j by omega, e, Nat.or_assoc, h2 ⟨j, hj⟩, ← e2]
  omega

theorem or511 (i j : Nat) (hj : j < 512) (hb : i * 512 + j < 524288) : bits .or .i64 ((i * 512 + j : Nat) : Int) 511 = ((i * 512 + 511 : Nat) : Int) := by
  show IntKind.i64.wrap ((BitVec.ofInt 64 ((i * 512 + j : Nat) : Int) ||| BitVec.ofInt 64 511).toNat : Int) = _
  rw [BitVec.toNat_or]
  have e1 : (BitVec.ofInt 64 ((i * 512 + j : Nat) : Int)).toNat = i * 512 + j := by
    rw [BitVec.toNat_ofInt]; omega
  have e2 : (BitVec.ofInt 64 511).toNat = 511 := by decide
  rw [e1, e2, or511_nat i j hj]
  exact IntWalk.i64_in _ (by omega)

/-- the table of a page, as the walk meets it -/
theorem pm_slot {w : World} {S : Nat → Prop} {c : Nat} {s : QS} {b : Nat} {ad : Nat → Option Nat} (h : At (pmX c s b ad) w S w) (i : Nat) (hi : i < s.nt) :
    w.cell? ⟨b, i, none⟩ = some (ptr (ad i)) ∧ (ad i = none → cntN s.fr i = 0) ∧ (∀ T, ad i = some T → w.cell? ⟨T, 512, none⟩ = some (.int .i64 (cntN s.fr i : Nat))) := by
  obtain ⟨hh, hr⟩ := pm_hdr h
  refine ⟨hr.cell (i := i) hi, fun had => ?_, fun T had => ?_⟩
  · rw [pmX_at c s b ad i hi, had] at h
    exact At.purIs (h.re (B := pur (cntN s.fr i = 0) * (blk c (hdr s b) * (row b 137 s.nt (fun i => ptr (ad i)) * rest s ad i))) (by show _ * (_ * (pur _ * _)) = _; ac_rfl))
  · rw [pmO_of hi had] at h
    obtain ⟨_, _, ht, _⟩ := pmO_facts h
    have t1 := ht.cell (i := 512) (by omega)
    rw [zt2] at t1
    exact t1

set_option maxHeartbeats 1000000 in
/-- the lowest one from r on: fin -/
theorem pm_next {c : Nat} {s : QS} (hs : s.ok) (p : Int) (fin : Value)
    (h1 : ∀ q : Nat, q < s.pages → p ≤ q → s.fr q ≠ 0 → (∀ r : Nat, p ≤ r → r < q → s.fr r = 0) → fin = .tuple #[.int .i64 q, .bool true])
    (h2 : (∀ r : Nat, p ≤ r → r < s.pages → s.fr r = 0) → fin = .tuple #[.int .i64 0, .bool false]) (hpb : p ≤ 9223372036854775807) :
    Ask Tryd.prog 64 #[.pointer (some ⟨c, 0, none⟩), .int .i64 p] (pmA c s) fin := by
  intro w S h
  obtain ⟨b, ad, hX⟩ := pm_open (At.refl h)
  obtain ⟨hh, hr⟩ := pm_hdr hX
  obtain ⟨c0, c1, c2, f0, f1, f2⟩ := pcells hh
  have SL := Lib.hid (pm_slot hX)
  have MP := Lib.hid (fun k hk => pm_mapped hs k hk w S h)
  have H1 := Lib.hid h1
  have H2 := Lib.hid h2
  have ntl := nt_le hs
  have hp2 := hs.p2
  clear h1 h2 h hX hh hr hs
  have HZ : Hid (∀ r : Nat, p ≤ r → r < p.toNat → s.fr r = 0) := Lib.hid fun r a b => absurd a (by omega)
  have hstart : p ≤ p.toNat := by omega
  go_enter Tryd.func64, Tryd.ntmps64
  go_wp2
  all_goals
    go_loop [1] (fun v => ∃ r : Nat, v = .int .i64 r ∧ p ≤ r ∧ r ≤ 524288 + p.toNat ∧ Hid (∀ q : Nat, p ≤ q → q < r → s.fr q = 0)) (fun v => s.pages - (intOf v).toNat)
    case atStart => exact ⟨p.toNat, by first | (go_num; done) | (congr 1; omega), hstart, by omega, HZ⟩
    case round =>
      clear HZ hstart
      obtain ⟨r, rfl, hpr, hrb, HR⟩ := hrel
      by_cases hlt : r < s.pages
      · have hltI : (r : Int) < (s.pages : Int) := by omega
        obtain ⟨i, j, hij, hj, hi⟩ := ij s r hlt
        obtain ⟨b0, n0, n1⟩ := SL.out i hi
        have e1 : (r : Int) / 512 = i := by omega
        have hin : i < s.nt := hi
        have M0 := MP.out r hlt
        have FN0 := H1.out r hlt hpr
        have eo := or511 i j hj (by omega)
        rw [← hij] at eo
        have hijI : (r : Int) = i * 512 + j := by omega
        generalize hrr : (r : Int) = rr at *
        have HJ := Lib.hid hij
        have HJI := Lib.hid hijI
        have HRR := Lib.hid hrr
        clear hij hijI hrr
        have hr0 : 0 ≤ rr := by have := HRR.out; omega
        have hr1 : rr < 524288 := by omega
        cases had : ad i with
        | none =>
          have z := n0 had
          rw [had] at b0
          have b1 : w.cell? ⟨b, i, none⟩ = some (.pointer none) := b0
          have HR2 : Hid (∀ q : Nat, p ≤ q → q < i * 512 + 512 → s.fr q = 0) := Lib.hid fun q ha hb => by
            by_cases e : q < r
            · exact HR.out q ha e
            · have hj2 := HJ.out
              have := cntN_zero z (q - i * 512) (by omega)
              rw [show i * 512 + (q - i * 512) = q by omega] at this
              exact this
          clear b0 n0 n1 z had M0 FN0
          go_wp2
          go_round
          case rel => exact ⟨i * 512 + 512, by (first | go_num | (congr 1; omega)), by have := HJ.out; omega, by have := HJ.out; omega, HR2⟩
          case measure => have := HJ.out; have := HRR.out; simp [intOf]; omega
        | some T =>
          rw [had] at b0
          have b1 : w.cell? ⟨b, i, none⟩ = some (.pointer (some ⟨T, 0, none⟩)) := b0
          have M := M0
          by_cases hz : s.fr r = 0
          · rw [hz] at M
            have M := Lib.hid M
            have HR2 : Hid (∀ q : Nat, p ≤ q → q < r + 1 → s.fr q = 0) := Lib.hid fun q ha hb => by
              by_cases e : q = r
              · rw [e]; exact hz
              · exact HR.out q ha (by omega)
            clear b0 n0 n1 had hz M0 FN0
            go_wp2_with (go_at_call 93; refine M.out.mono ?_; rintro e1 w1 ⟨rfl, rfl⟩)
            go_round
            case rel => exact ⟨r + 1, by (have := HRR.out; first | go_num | (congr 1; omega)), by have := HRR.out; omega, by omega, HR2⟩
            case measure => have := HRR.out; simp [intOf]; omega
          · rw [show (s.fr r != 0) = true by simpa using hz] at M
            have M := Lib.hid M
            have FN := Lib.hid (FN0 hz (fun q ha hb => HR.out q ha hb))
            clear b0 n0 n1 had hz
            go_wp2_with (go_at_call 93; refine M.out.mono ?_; rintro e1 w1 ⟨rfl, rfl⟩)
            go_ret2
            exact ⟨by rw [FN.out]; rfl, rfl⟩
      · have hltI : ¬ (r : Int) < (s.pages : Int) := by omega
        have FN := Lib.hid (H2.out (fun q ha hb => HR.out q ha (by omega)))
        go_wp2
        go_ret2
        exact ⟨by rw [FN.out]; rfl, rfl⟩

end Go.Proofs.YtflkbefiopnigabDoor.PT
