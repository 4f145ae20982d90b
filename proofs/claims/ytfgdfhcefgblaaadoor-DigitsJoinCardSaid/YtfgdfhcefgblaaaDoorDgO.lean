/- Digits (layer 4): Lines. -/
import Derived.Test.YtfgdfhcefgblaaaDoorDgN
import Derived.Lib.BufStepsIn
namespace Go.Proofs.YtfgdfhcefgblaaaDoor
set_option linter.unusedVariables false
open Go.ChangeShapes Go.WideShapes Go.ChangeAt Go.RowKit Go.Shelf

attribute [local go_sem] Oper.semAt_some

theorem dg_parts (s : ByteArray) (G : Nat) (w : World) : Calls Tryd.prog 36 #[.string s, .func (.func G) #[] #[]] w fun e w' => e = .returned (.func (.func 44) #[] #[.pointer (some ⟨w.heap.size, 0, none⟩), .pointer (some ⟨w.heap.size + 1, 0, none⟩)]) ∧ w' = (w.alloc (.cells #[.string s] 9)).alloc (.cells #[.func (.func G) #[] #[]] 41) := by
  go_enter Tryd.func36, Tryd.ntmps36
  go_wp2
  go_ret
  exact ⟨by simp, rfl⟩

/-- without the line feed at the end -/
def tmS (s : ByteArray) : ByteArray := if (s.extract (s.size - 1) s.size).toList == [10] then s.extract 0 (s.size - 1) else s

theorem dg_trim (s : ByteArray) (h0 : 0 < s.size) (hs : s.size ≤ 1000000) (w : World) : Calls Tryd.prog 37 #[.string s, .string ⟨#[10]⟩] w fun e w' => e = .returned (.string (tmS s)) ∧ w = w' := by
  have h0I : (1 : Int) ≤ (s.size : Int) := by omega
  have hn : ((s.size : Int) - 1).toNat = s.size - 1 := by omega
  have B : Calls Tryd.prog 52 #[.string s, .string ⟨#[10]⟩] w fun e w' => e = .returned (.bool ((s.extract (s.size - 1) s.size).toList == [10])) ∧ w = w' := by
    go_enter Tryd.func52, Tryd.ntmps52
    go_wp2
    go_ret
    exact ⟨rfl, rfl⟩
  have T : Calls Tryd.prog 45 #[.string s, .string ⟨#[10]⟩] w fun e w' => e = .returned (.string (tmS s)) ∧ w = w' := by
    unfold tmS
    generalize ((s.extract (s.size - 1) s.size).toList == [10]) = b at *
    cases b
    all_goals
      have B := Lib.hid B
      go_enter Tryd.func45, Tryd.ntmps45
      go_wp2_with (go_at_call 52; with_reducible refine B.out.mono ?_; rintro e1 w1 ⟨rfl, rfl⟩)
      go_ret
      exact ⟨rfl, rfl⟩
  have T := Lib.hid T
  go_enter Tryd.func37, Tryd.ntmps37
  go_wp2_with (go_at_call 45; with_reducible refine T.out.mono ?_; rintro e1 w1 ⟨rfl, rfl⟩)
  go_ret
  exact ⟨rfl, rfl⟩

theorem tm_lines (s : ByteArray) (h0 : 0 < s.size) : ptS lfB [] (tmS s).data.toList = liS [] s.data.toList := by
  have hs : s.data.toList.length = s.size := by simp
  rcases List.eq_nil_or_concat s.data.toList with h | ⟨m, c, h⟩
  · rw [h] at hs; simp at hs; omega
  · have h : s.data.toList = m ++ [c] := by simpa using h
    have hm : m.length = s.size - 1 := by rw [h] at hs; simp at hs; omega
    have e1 : (s.extract (s.size - 1) s.size).toList = [c] := by
      rw [ByteArray.toList_eq, ext_mid, h, ← hm]
      show ((((m ++ [c]).drop m.length).take (s.size - m.length)).toArray).toList = [c]
      rw [List.drop_append_of_le_length (Nat.le_refl _), List.drop_length, show s.size - m.length = 1 by omega]; rfl
    unfold tmS
    rw [e1]
    by_cases hc : c = 10
    · subst hc
      rw [if_pos (by decide), ext_mid, h]
      show ptS lfB [] ((((m ++ [10]).drop 0).take (s.size - 1 - 0)).toArray).toList = _
      rw [List.drop_zero, show s.size - 1 - 0 = m.length by omega, List.take_append_of_le_length (Nat.le_refl _), List.take_length, ← li_end]
    · rw [if_neg (by simpa using hc), h]
      refine li_mid _ _ (fun e => by simp at e) fun m' c' e => ?_
      have : c = c' := by
        have := congrArg List.getLast? e
        simpa using this
      subst this
      exact decide_eq_false fun e => hc (UInt8.toNat_inj.1 e)

theorem tm_size (s : ByteArray) : (tmS s).size ≤ s.size := by
  unfold tmS
  split
  · rw [ext_mid, bS_size, List.length_take]; omega
  · exact Nat.le_refl _

end Go.Proofs.YtfgdfhcefgblaaaDoor
