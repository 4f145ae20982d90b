/- The stack of layer 19: a push that is lost, Len, High, Lost, Found, Pop; the nil stack. -/
import Derived.Test.YtpdnbkibnpkfbabStk
namespace Go.Proofs.Ytpdnbkibnpkfbab
open Go.ChangeShapes Go.WideShapes Go.ChangeAt Go.RowKit

/-- a call that leaves the stack but for its own block -/
def StkPost (ty : TypeId) (w : World) (b : Nat) (g : Option Nat) (xs : List Int) (room high : Int) (lost : Bool) (v : Value) (e : Ending) (w' : World) : Prop :=
  e = .returned v ∧ Stk ty w' b g xs room high lost ∧ Fr (fun k => k = b) w w'

theorem Stk.lostSet {ty : TypeId} {w : World} {b : Nat} {g : Option Nat} {xs : List Int} {room high : Int} {lost : Bool} (h : Stk ty w b g xs room high lost) (l : Bool) : Stk ty (w.setCell ⟨b, 3, none⟩ (.bool l)) b g xs room high l := by
  obtain ⟨v, hb, hown, hg, hgb⟩ := h
  exact ⟨v, blk_set hb _, ownsRow_setCell_other hown (a := ⟨b, 3, none⟩) (by rw [hg]; exact hgb) _, hg, hgb⟩

theorem push_full {b : Nat} {g : Option Nat} {xs : List Int} {room high : Int} {lost : Bool} {w : World} (hs : Stk 58 w b g xs room high lost) (hr : (xs.length : Int) = room) (a : Int) :
    Calls Try.prog 15 #[.pointer (some ⟨b, 0, none⟩), .int .i64 a] w (StkPost 58 w b g xs room high true (.bool false)) := by
  have hs0 := hs
  obtain ⟨v, hb, hown, hg, hgb⟩ := hs
  obtain ⟨a0, cap, rfl⟩ := own_form hown
  obtain ⟨c0, c1, c2, c3, f0, f1, f2, f3⟩ := cells4 hb
  have FIN : Hid (∀ n, StkPost 58 w b g xs room high true (.bool false) (.returned (.bool false)) ((w.setCell ⟨b, 3, none⟩ (.bool true)).drewN n)) := fun n => ⟨rfl, hs0.lostSet true, ((Fr.refl (fun k => k = b) w).setCell (fun _ => rfl) _).drewN n⟩
  subst hr
  clear hs0 hb hown hg hgb
  go_enter Try.func15, Try.ntmps15
  go_wp2
  go_quiet (fail)
  go_wp2
  go_ret
  exact FIN.out nq

theorem rpush_full {b : Nat} {g : Option Nat} {xs : List Int} {room high : Int} {lost : Bool} {w : World} (hs : Stk 32 w b g xs room high lost) (hr : (xs.length : Int) = room) (a : Int) :
    Calls Try.prog 16 #[.pointer (some ⟨b, 0, none⟩), .int .i64 a] w (StkPost 32 w b g xs room high true (.bool false)) := by
  have hs0 := hs
  obtain ⟨v, hb, hown, hg, hgb⟩ := hs
  obtain ⟨a0, cap, rfl⟩ := own_form hown
  obtain ⟨c0, c1, c2, c3, f0, f1, f2, f3⟩ := cells4 hb
  have FIN : Hid (∀ n, StkPost 32 w b g xs room high true (.bool false) (.returned (.bool false)) ((w.setCell ⟨b, 3, none⟩ (.bool true)).drewN n)) := fun n => ⟨rfl, hs0.lostSet true, ((Fr.refl (fun k => k = b) w).setCell (fun _ => rfl) _).drewN n⟩
  subst hr
  clear hs0 hb hown hg hgb
  go_enter Try.func16, Try.ntmps16
  go_wp2
  go_quiet (fail)
  go_wp2
  go_ret
  exact FIN.out nq

theorem len_any {b : Nat} {g : Option Nat} {xs : List Int} {room high : Int} {lost : Bool} {w : World} (hs : Stk 58 w b g xs room high lost) :
    Calls Try.prog 17 #[.pointer (some ⟨b, 0, none⟩)] w fun e w' => e = .returned (.int .i64 xs.length) ∧ w = w' := by
  obtain ⟨v, hb, hown, hg, hgb⟩ := hs
  obtain ⟨a0, cap, rfl⟩ := own_form hown
  obtain ⟨c0, c1, c2, c3, f0, f1, f2, f3⟩ := cells4 hb
  clear hb hown hg hgb
  go_enter Try.func17, Try.ntmps17
  go_wp2
  go_ret
  exact ⟨rfl, rfl⟩

theorem high_any {b : Nat} {g : Option Nat} {xs : List Int} {room high : Int} {lost : Bool} {w : World} (hs : Stk 58 w b g xs room high lost) :
    Calls Try.prog 18 #[.pointer (some ⟨b, 0, none⟩)] w fun e w' => e = .returned (.int .i64 high) ∧ w = w' := by
  obtain ⟨v, hb, hown, hg, hgb⟩ := hs
  obtain ⟨c0, c1, c2, c3, f0, f1, f2, f3⟩ := cells4 hb
  clear hb hown hg hgb
  go_enter Try.func18, Try.ntmps18
  go_wp2
  go_ret
  exact ⟨rfl, rfl⟩

theorem lost_any {b : Nat} {g : Option Nat} {xs : List Int} {room high : Int} {lost : Bool} {w : World} (hs : Stk 58 w b g xs room high lost) :
    Calls Try.prog 19 #[.pointer (some ⟨b, 0, none⟩)] w fun e w' => e = .returned (.bool lost) ∧ w = w' := by
  obtain ⟨v, hb, hown, hg, hgb⟩ := hs
  obtain ⟨c0, c1, c2, c3, f0, f1, f2, f3⟩ := cells4 hb
  clear hb hown hg hgb
  go_enter Try.func19, Try.ntmps19
  go_wp2
  go_ret
  exact ⟨rfl, rfl⟩

theorem found_any {b : Nat} {g : Option Nat} {xs : List Int} {room high : Int} {lost : Bool} {w : World} (hs : Stk 58 w b g xs room high lost) :
    Calls Try.prog 14 #[.pointer (some ⟨b, 0, none⟩)] w (StkPost 58 w b g xs room high false (.tuple #[])) := by
  have hs0 := hs
  obtain ⟨v, hb, hown, hg, hgb⟩ := hs
  obtain ⟨c0, c1, c2, c3, f0, f1, f2, f3⟩ := cells4 hb
  have FIN : Hid (StkPost 58 w b g xs room high false (.tuple #[]) (.returned (.tuple #[])) (w.setCell ⟨b, 3, none⟩ (.bool false))) := ⟨rfl, hs0.lostSet false, (Fr.refl (fun k => k = b) w).setCell (fun _ => rfl) _⟩
  clear hs0 hb hown hg hgb
  go_enter Try.func14, Try.ntmps14
  go_wp2
  go_end0
  exact FIN.out

end Go.Proofs.Ytpdnbkibnpkfbab
