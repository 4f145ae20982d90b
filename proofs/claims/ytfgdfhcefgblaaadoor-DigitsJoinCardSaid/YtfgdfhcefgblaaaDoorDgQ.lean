/- Digits (layer 4): the law DigitsCuts. -/
import Derived.Test.YtfgdfhcefgblaaaDoorDgP
namespace Go.Proofs.YtfgdfhcefgblaaaDoor
set_option linter.unusedVariables false
open Go.ChangeShapes Go.WideShapes Go.ChangeAt Go.RowKit

/-- a call that answers with a list of texts of its own -/
abbrev Lists (f : Nat) (s : ByteArray) (L : List (List UInt8)) : Prop := ∀ (w0 : World) (S : Nat → Prop) (A : Asn) (w : World), Hid (At A w0 S w) → Calls Tryd.prog f #[.string s] w fun e w' => ∃ a c, e = .returned (.slice a L.length c) ∧ Hid (At (sA (.slice a L.length c) L * A) w0 S w')

theorem lists_of {f : Nat} {s : ByteArray} {L : List (List UInt8)} (h : ∀ (w0 : World) (S : Nat → Prop) (A : Asn) (w : World), At A w0 S w → Calls Tryd.prog f #[.string s] w fun e w' => ∃ v, e = .returned v ∧ Hid (At (sA v L * A) w0 S w')) : Hid (Lists f s L) :=
  Lib.hid fun w0 S A w hA => (h w0 S A w hA.out).mono fun e w' ⟨v, he, hB⟩ => by
    obtain ⟨a, c, rfl, _⟩ := sc_of hB.out
    exact ⟨a, c, he, hB⟩

theorem same_at {L : List (List UInt8)} (hL : L.length ≤ 1000000) (w0 : World) (S : Nat → Prop) (A : Asn) (w : World) (a b : Option Addr) (c d : Nat) (h : Hid (At (sA (.slice b L.length d) L * (sA (.slice a L.length c) L * A)) w0 S w)) :
    Calls Tryd.prog 20 #[.slice a L.length c, .slice b L.length d] w fun e w' => e = .returned (.bool true) ∧ Hid (At (sA (.slice b L.length d) L * (sA (.slice a L.length c) L * A)) w0 S w') := by
  obtain ⟨b', d', e1, h1⟩ := sc_of h.out
  cases e1
  obtain ⟨a', c', e2, h2⟩ := sc_of (h.out.re (B := sA (.slice a L.length c) L * (sA (.slice b L.length d) L * A)) (by ac_rfl))
  cases e2
  refine (same_law L hL a b c d w h2 h1).mono ?_
  rintro e w' ⟨rfl, m, rfl⟩
  exact ⟨rfl, Lib.hid (h.out.drewN m)⟩

abbrev Ends (w : World) : Prop := ∀ (A : Asn) (w' : World), Hid (At A w (fun _ => False) w') → Calls Tryd.prog 7 #[] w' fun e w'' => e = .returned (.bool true) ∧ Below w.heap.size w w''
theorem ends_of {w : World} (hT : PowTab w) : Hid (Ends w) :=
  Lib.hid fun A w' h => (dlives w' (tab_grow hT h.out.below)).mono fun e w'' ⟨h1, h2⟩ => ⟨h1, h.out.below.trans (h2.mono h.out.below.size)⟩

theorem li_size (s : ByteArray) : (liS [] s.data.toList).length ≤ s.size + 1 := by
  have := li_len s.data.toList []
  simpa using this
theorem fi_size (s : ByteArray) : (fiS [] s.data.toList).length ≤ s.size + 1 := by
  have := fi_len s.data.toList []
  simpa using this

set_option maxRecDepth 100000 in
set_option maxHeartbeats 4000000 in
theorem dcuts_law (s : ByteArray) (hss : s.size ≤ maxLen) (w : World) (hT : PowTab w) : Calls Tryd.prog 5 #[.string s] w fun e w' => e = .returned (.bool true) ∧ Below w.heap.size w w' := by
  have E := ends_of hT
  have A0 := Lib.hid (At.emp w)
  unfold maxLen at hss
  clear hT
  by_cases h : 2000 < s.size
  · have hI : (2000 : Int) < (s.size : Int) := by omega
    clear h
    go_enter Tryd.func5, Tryd.ntmps5
    go_wp2_with (go_at_call 7; refine (E.out _ _ (by assumption)).mono ?_; rintro e1 w2 ⟨rfl, hb⟩)
    go_ret
    exact ⟨rfl, hb⟩
  · have hI : ¬ (2000 : Int) < (s.size : Int) := by omega
    have L1 := li_size s
    have L2 := fi_size s
    have D1 : Hid (Lists 21 s (liS [] s.data.toList)) := lists_of fun w0 S A w hA => dg_lines s (by omega) hA
    have R1 : Hid (Lists 22 s (liS [] s.data.toList)) := lists_of fun w0 S A w hA => r4_lines s (by omega) hA
    have D2 : Hid (Lists 23 s (fiS [] s.data.toList)) := lists_of fun w0 S A w hA => dg_fields s (by omega) hA
    have R2 : Hid (Lists 24 s (fiS [] s.data.toList)) := lists_of fun w0 S A w hA => r4_fields s (by omega) hA
    generalize liS [] s.data.toList = L at *
    generalize fiS [] s.data.toList = M at *
    have S1 := Lib.hid (same_at (L := L) (by omega))
    have S2 := Lib.hid (same_at (L := M) (by omega))
    clear h
    go_enter Tryd.func5, Tryd.ntmps5
    go_wp2_with (first
      | (go_at_call 21; with_reducible refine (D1.out _ _ _ _ (by assumption)).mono ?_; rintro e1 w1 ⟨a1, c1, rfl, A1⟩)
      | (go_at_call 22; with_reducible refine (R1.out _ _ _ _ (by assumption)).mono ?_; rintro e2 w2 ⟨a2, c2, rfl, A2⟩)
      | (go_at_call 23; with_reducible refine (D2.out _ _ _ _ (by assumption)).mono ?_; rintro e3 w3 ⟨a3, c3, rfl, A3⟩)
      | (go_at_call 24; with_reducible refine (R2.out _ _ _ _ (by assumption)).mono ?_; rintro e4 w4 ⟨a4, c4, rfl, A4⟩)
      | (go_at_call 20; with_reducible refine (S1.out _ _ _ _ _ _ _ _ (by assumption)).mono ?_; rintro e5 w5 ⟨rfl, A5⟩)
      | (go_at_call 20; with_reducible refine (S2.out _ _ _ _ _ _ _ _ (by assumption)).mono ?_; rintro e5 w5 ⟨rfl, A5⟩)
      | (go_at_call 7; refine (E.out _ _ (by assumption)).mono ?_; rintro e6 w6 ⟨rfl, hb⟩))
    go_ret
    exact ⟨rfl, hb⟩

end Go.Proofs.YtfgdfhcefgblaaaDoor
