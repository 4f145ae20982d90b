/- Digits (layer 4): ReadInt, of both. -/
import Derived.Test.YtfgdfhcefgblaaaDoorDgE
namespace Go.Proofs.YtfgdfhcefgblaaaDoor
open Go.ChangeShapes Go.WideShapes Go.ChangeAt Go.RowKit

theorem neg_wrap (V : Nat) (h : V ≤ 9223372036854775808) : wrap64 (IntKind.u64.wrap (-(V : Int))) = -(V : Int) := by
  unfold wrap64; rw [IntKind.wrap_u64]; omega

theorem pos_wrap (V : Nat) (h : V ≤ 9223372036854775807) : IntKind.i64.wrap (V : Int) = (V : Int) := by
  rw [IntKind.wrap_i64]; omega

/-- the ways of an int -/
def Ways (E V : Nat) (ng : Bool) (rE : Nat) (rV : Int) : Prop :=
  (E = 2 ∧ V = 0 ∧ rE = 2 ∧ rV = 0) ∨ (E = 4 ∧ V = 0 ∧ rE = 4 ∧ rV = 0) ∨
  (E = 0 ∧ ng = true ∧ V = 0 ∧ rE = 2 ∧ rV = 0) ∨ (E = 0 ∧ ng = true ∧ 9223372036854775808 < V ∧ rE = 4 ∧ rV = 0) ∨ (E = 0 ∧ ng = true ∧ 0 < V ∧ V ≤ 9223372036854775808 ∧ rE = 0 ∧ rV = -(V : Int)) ∨
  (E = 0 ∧ ng = false ∧ 9223372036854775807 < V ∧ rE = 4 ∧ rV = 0) ∨ (E = 0 ∧ ng = false ∧ V ≤ 9223372036854775807 ∧ rE = 0 ∧ rV = (V : Int))

theorem ri_ways (l : List UInt8) : Ways (rdE 10 (bdy l)) (rdV 10 (bdy l)) (ngB l) (riE l) (riV l) := by
  have EO := rdE_or (bdy l)
  unfold riV riE
  generalize rdE 10 (bdy l) = E at *
  generalize rdV 10 (bdy l) = V at *
  generalize ngB l = ng at *
  unfold Ways
  rcases EO with rfl | ⟨rfl, rfl⟩ | ⟨rfl, rfl⟩
  · cases ng with
    | true =>
      by_cases hz : V = 0
      · subst hz; simp
      · by_cases hb : 9223372036854775808 < V
        · simp [hz, hb]
        · simp [hz, hb]; omega
    | false =>
      by_cases hb : 9223372036854775807 < V
      · simp [hb]
      · simp [hb]; omega
  · left; simp
  · right; left; simp

set_option maxRecDepth 100000 in
set_option maxHeartbeats 2000000 in
theorem dg_readint (s : ByteArray) (hs : s.size ≤ 1000000) (w : World) :
    Calls Tryd.prog 10 #[.string s] w fun e w' => e = .returned (.tuple #[.int .i64 (riV s.data.toList), .int .i64 (riE s.data.toList)]) ∧ w = w' := by
  have C := cut_pub s hs w
  have hbs := bdS_size s
  have R := dg_read (bdS s) (by omega) w
  rw [bdS_list] at R
  have NZ := neg_zero s
  have WY := ri_ways s.data.toList
  generalize rdE 10 (bdy s.data.toList) = E at *
  generalize rdV 10 (bdy s.data.toList) = V at *
  generalize ngB s.data.toList = ng at *
  clear hbs
  generalize riE s.data.toList = rE at *
  generalize riV s.data.toList = rV at *
  generalize bdS s = t at *
  rcases WY with ⟨rfl, rfl, rfl, rfl⟩ | ⟨rfl, rfl, rfl, rfl⟩ | ⟨rfl, rfl, rfl, rfl, rfl⟩ | ⟨rfl, rfl, hb, rfl, rfl⟩ | ⟨rfl, rfl, hz, hb, rfl, rfl⟩ | ⟨rfl, rfl, hb, rfl, rfl⟩ | ⟨rfl, rfl, hb, rfl, rfl⟩
  · clear NZ
    have C := Lib.hid C
    have R := Lib.hid R
    go_enter Tryd.func10, Tryd.ntmps10
    go_wp2_with (first | (go_at_call 30; with_reducible refine C.out.mono ?_; rintro e1 w1 ⟨rfl, rfl⟩) | (go_at_call 8; with_reducible refine R.out.mono ?_; rintro e1 w1 ⟨rfl, rfl⟩))
    go_ret2
    exact ⟨rfl, rfl⟩
  · rw [decide_eq_false (fun h => by have := h.2.1; omega)] at NZ
    have C := Lib.hid C
    have R := Lib.hid R
    cases ng
    all_goals
      go_enter Tryd.func10, Tryd.ntmps10
      go_wp2_with (first | (go_at_call 30; with_reducible refine C.out.mono ?_; rintro e1 w1 ⟨rfl, rfl⟩) | (go_at_call 8; with_reducible refine R.out.mono ?_; rintro e1 w1 ⟨rfl, rfl⟩))
      go_ret2
      exact ⟨rfl, rfl⟩
  · rw [decide_eq_true ⟨rfl, rfl, rfl⟩] at NZ
    have C := Lib.hid C
    have R := Lib.hid R
    go_enter Tryd.func10, Tryd.ntmps10
    go_wp2_with (first | (go_at_call 30; with_reducible refine C.out.mono ?_; rintro e1 w1 ⟨rfl, rfl⟩) | (go_at_call 8; with_reducible refine R.out.mono ?_; rintro e1 w1 ⟨rfl, rfl⟩))
    go_ret2
    exact ⟨rfl, rfl⟩
  · rw [decide_eq_false (fun h => by have := h.2.2; omega)] at NZ
    have hbI : (9223372036854775808 : Int) < (V : Int) := by omega
    have C := Lib.hid C
    have R := Lib.hid R
    clear hb
    go_enter Tryd.func10, Tryd.ntmps10
    go_wp2_with (first | (go_at_call 30; with_reducible refine C.out.mono ?_; rintro e1 w1 ⟨rfl, rfl⟩) | (go_at_call 8; with_reducible refine R.out.mono ?_; rintro e1 w1 ⟨rfl, rfl⟩))
    go_ret2
    exact ⟨rfl, rfl⟩
  · rw [decide_eq_false (fun h => by have := h.2.2; omega)] at NZ
    have hbI : ¬ (9223372036854775808 : Int) < (V : Int) := by omega
    have NW := Lib.hid (neg_wrap V hb)
    have C := Lib.hid C
    have R := Lib.hid R
    clear hb hz
    go_enter Tryd.func10, Tryd.ntmps10
    go_wp2_with (first | (go_at_call 30; with_reducible refine C.out.mono ?_; rintro e1 w1 ⟨rfl, rfl⟩) | (go_at_call 8; with_reducible refine R.out.mono ?_; rintro e1 w1 ⟨rfl, rfl⟩))
    go_ret2
    exact ⟨by rw [NW.out]; rfl, rfl⟩
  · rw [decide_eq_false (fun h => by cases h.1)] at NZ
    have hbI : (9223372036854775807 : Int) < (V : Int) := by omega
    have C := Lib.hid C
    have R := Lib.hid R
    clear hb
    go_enter Tryd.func10, Tryd.ntmps10
    go_wp2_with (first | (go_at_call 30; with_reducible refine C.out.mono ?_; rintro e1 w1 ⟨rfl, rfl⟩) | (go_at_call 8; with_reducible refine R.out.mono ?_; rintro e1 w1 ⟨rfl, rfl⟩))
    go_ret2
    exact ⟨rfl, rfl⟩
  · rw [decide_eq_false (fun h => by cases h.1)] at NZ
    have hbI : ¬ (9223372036854775807 : Int) < (V : Int) := by omega
    have C := Lib.hid C
    have R := Lib.hid R
    clear hb
    go_enter Tryd.func10, Tryd.ntmps10
    go_wp2_with (first | (go_at_call 30; with_reducible refine C.out.mono ?_; rintro e1 w1 ⟨rfl, rfl⟩) | (go_at_call 8; with_reducible refine R.out.mono ?_; rintro e1 w1 ⟨rfl, rfl⟩))
    go_ret2
    exact ⟨rfl, rfl⟩

theorem hd_is {s : ByteArray} (h0 : 0 < s.size) : ((s[0].toNat : Int) == 45) = ngB s.data.toList := by
  rw [Bool.eq_iff_iff, beq_iff_eq, head_of h0]
  unfold ngB
  rw [decide_eq_true_iff]
  show (s[0].toNat : Int) = 45 ↔ (s[0]).toNat = 45
  omega

set_option maxRecDepth 100000 in
set_option maxHeartbeats 2000000 in
theorem r4_readint (s : ByteArray) (hs : s.size ≤ 1000000) (w : World) :
    Calls Tryd.prog 11 #[.string s] w fun e w' => e = .returned (.tuple #[.int .i64 (riV s.data.toList), .int .i64 (riE s.data.toList)]) ∧ w = w' := by
  have hbs := bdS_size s
  have R := r4_read10 (bdS s) (by omega) w
  rw [bdS_list] at R
  have WY := ri_ways s.data.toList
  generalize rdE 10 (bdy s.data.toList) = E at *
  generalize rdV 10 (bdy s.data.toList) = V at *
  clear hbs
  generalize riE s.data.toList = rE at *
  generalize riV s.data.toList = rV at *
  cases hng : ngB s.data.toList with
  | true =>
    have h0 := ng_pos hng
    have h0I : (0 : Int) < (s.size : Int) := by omega
    have h1I : (1 : Int) ≤ (s.size : Int) := by omega
    have HD := hd_is h0
    rw [hng] at HD WY
    unfold bdS at R
    rw [if_pos hng] at R
    clear hng
    rcases WY with ⟨rfl, rfl, rfl, rfl⟩ | ⟨rfl, rfl, rfl, rfl⟩ | ⟨rfl, _, rfl, rfl, rfl⟩ | ⟨rfl, _, hb, rfl, rfl⟩ | ⟨rfl, _, hz, hb, rfl, rfl⟩ | ⟨rfl, h, _⟩ | ⟨rfl, h, _⟩
    · have R := Lib.hid R
      go_enter Tryd.func11, Tryd.ntmps11
      go_wp2_with (go_at_call 29; with_reducible refine R.out.mono ?_; rintro e1 w1 ⟨rfl, rfl⟩)
      go_ret2
      exact ⟨rfl, rfl⟩
    · have R := Lib.hid R
      go_enter Tryd.func11, Tryd.ntmps11
      go_wp2_with (go_at_call 29; with_reducible refine R.out.mono ?_; rintro e1 w1 ⟨rfl, rfl⟩)
      go_ret2
      exact ⟨rfl, rfl⟩
    · have R := Lib.hid R
      go_enter Tryd.func11, Tryd.ntmps11
      go_wp2_with (go_at_call 29; with_reducible refine R.out.mono ?_; rintro e1 w1 ⟨rfl, rfl⟩)
      go_ret2
      exact ⟨rfl, rfl⟩
    · have R := Lib.hid R
      have hbI : (9223372036854775808 : Int) < (V : Int) := by omega
      have hz0 : ((V : Int) == 0) = false := beq_eq_false_iff_ne.2 (by omega)
      clear hb
      go_enter Tryd.func11, Tryd.ntmps11
      go_wp2_with (go_at_call 29; with_reducible refine R.out.mono ?_; rintro e1 w1 ⟨rfl, rfl⟩)
      go_ret2
      exact ⟨rfl, rfl⟩
    · have R := Lib.hid R
      have hbI : ¬ (9223372036854775808 : Int) < (V : Int) := by omega
      have hz0 : ((V : Int) == 0) = false := beq_eq_false_iff_ne.2 (by omega)
      have NW := Lib.hid (neg_wrap V hb)
      clear hb hz
      go_enter Tryd.func11, Tryd.ntmps11
      go_wp2_with (go_at_call 29; with_reducible refine R.out.mono ?_; rintro e1 w1 ⟨rfl, rfl⟩)
      go_ret2
      exact ⟨by rw [NW.out]; rfl, rfl⟩
    · cases h
    · cases h
  | false =>
    have HD : s.size = 0 ∨ ∃ h0 : 0 < s.size, ((s[0].toNat : Int) == 45) = false := by
      rcases Nat.eq_zero_or_pos s.size with e | e
      · exact .inl e
      · exact .inr ⟨e, by rw [hd_is e, hng]⟩
    rw [hng] at WY
    unfold bdS at R
    rw [if_neg (by rw [hng]; simp)] at R
    clear hng
    rcases HD with HD | ⟨h0, HD⟩
    · have h0I : ¬ (0 : Int) < (s.size : Int) := by omega
      clear HD
      rcases WY with ⟨rfl, rfl, rfl, rfl⟩ | ⟨rfl, rfl, rfl, rfl⟩ | ⟨rfl, h, _⟩ | ⟨rfl, h, _⟩ | ⟨rfl, h, _⟩ | ⟨rfl, _, hb, rfl, rfl⟩ | ⟨rfl, _, hb, rfl, rfl⟩
      · have R := Lib.hid R
        go_enter Tryd.func11, Tryd.ntmps11
        go_wp2_with (go_at_call 29; with_reducible refine R.out.mono ?_; rintro e1 w1 ⟨rfl, rfl⟩)
        go_ret2
        exact ⟨rfl, rfl⟩
      · have R := Lib.hid R
        go_enter Tryd.func11, Tryd.ntmps11
        go_wp2_with (go_at_call 29; with_reducible refine R.out.mono ?_; rintro e1 w1 ⟨rfl, rfl⟩)
        go_ret2
        exact ⟨rfl, rfl⟩
      · cases h
      · cases h
      · cases h
      · have R := Lib.hid R
        have hbI : decide ((9223372036854775808 : Int) ≤ (V : Int)) = true := decide_eq_true (by omega)
        clear hb
        go_enter Tryd.func11, Tryd.ntmps11
        go_wp2_with (go_at_call 29; with_reducible refine R.out.mono ?_; rintro e1 w1 ⟨rfl, rfl⟩)
        go_ret2
        exact ⟨rfl, rfl⟩
      · have R := Lib.hid R
        have hbI : decide ((9223372036854775808 : Int) ≤ (V : Int)) = false := decide_eq_false (by omega)
        have PW : Hid (wrap64 (V : Int) = (V : Int)) := Lib.hid (by unfold wrap64; omega)
        clear hb
        go_enter Tryd.func11, Tryd.ntmps11
        go_wp2_with (go_at_call 29; with_reducible refine R.out.mono ?_; rintro e1 w1 ⟨rfl, rfl⟩)
        go_ret2
        exact ⟨by rw [PW.out]; rfl, rfl⟩
    · have h0I : (0 : Int) < (s.size : Int) := by omega
      rcases WY with ⟨rfl, rfl, rfl, rfl⟩ | ⟨rfl, rfl, rfl, rfl⟩ | ⟨rfl, h, _⟩ | ⟨rfl, h, _⟩ | ⟨rfl, h, _⟩ | ⟨rfl, _, hb, rfl, rfl⟩ | ⟨rfl, _, hb, rfl, rfl⟩
      · have R := Lib.hid R
        go_enter Tryd.func11, Tryd.ntmps11
        go_wp2_with (go_at_call 29; with_reducible refine R.out.mono ?_; rintro e1 w1 ⟨rfl, rfl⟩)
        go_ret2
        exact ⟨rfl, rfl⟩
      · have R := Lib.hid R
        go_enter Tryd.func11, Tryd.ntmps11
        go_wp2_with (go_at_call 29; with_reducible refine R.out.mono ?_; rintro e1 w1 ⟨rfl, rfl⟩)
        go_ret2
        exact ⟨rfl, rfl⟩
      · cases h
      · cases h
      · cases h
      · have R := Lib.hid R
        have hbI : decide ((9223372036854775808 : Int) ≤ (V : Int)) = true := decide_eq_true (by omega)
        clear hb
        go_enter Tryd.func11, Tryd.ntmps11
        go_wp2_with (go_at_call 29; with_reducible refine R.out.mono ?_; rintro e1 w1 ⟨rfl, rfl⟩)
        go_ret2
        exact ⟨rfl, rfl⟩
      · have R := Lib.hid R
        have hbI : decide ((9223372036854775808 : Int) ≤ (V : Int)) = false := decide_eq_false (by omega)
        have PW : Hid (wrap64 (V : Int) = (V : Int)) := Lib.hid (by unfold wrap64; omega)
        clear hb
        go_enter Tryd.func11, Tryd.ntmps11
        go_wp2_with (go_at_call 29; with_reducible refine R.out.mono ?_; rintro e1 w1 ⟨rfl, rfl⟩)
        go_ret2
        exact ⟨by rw [PW.out]; rfl, rfl⟩

end Go.Proofs.YtfgdfhcefgblaaaDoor
