/- A slice of texts that came in. -/
import Derived.Test.YtpdnbkibnpkfbacSeS
import Derived.SliceStrings
import Derived.OpenShut
namespace Go.Proofs.Ytpdnbkibnpkfbac
open Go.ChangeShapes Go.WideShapes Go.ChangeAt Go.RowKit

theorem open_str_row {H : Type} {enc : TypeId × Value → H} {P : Program} {W : World} {base b0 : Nat} {sp : Nat → Bool} {held : Bool} {t e : TypeId} {v : Value} {d : DataW H} {p : List MemPlace}
    (ht : P.underlying t = some (.slice e)) (he : P.underlying e = some .string) (hc : P.cellsOf e = 1)
    (hv : Value.okWide P W .any base t v) (h : DataW.Trod enc P W b0 sp held t v d p) : ∃ a cap ps, v = .slice a ps.length cap ∧ ps.length ≤ 9223372036854775807 ∧ StrRow W a ps ∧ ∀ j, (ps.getD j default).size ≤ maxLen := by
  obtain ⟨a, len, cap, rfl⟩ := okWide_slice ht hv
  obtain ⟨fuel, hf⟩ := h
  rcases open_strings ht he hc hf with ⟨hcs, _⟩ | ⟨x, l, c, ss, hcs, _, hl, hm, hz, _, hcell, hws⟩
  · simp [Value.cells] at hcs
    obtain ⟨rfl, rfl, rfl⟩ := hcs
    exact ⟨none, 0, [], rfl, by simp, fun j hj => absurd hj (by simp), fun j => Nat.zero_le _⟩
  · simp [Value.cells] at hcs
    obtain ⟨rfl, rfl, rfl⟩ := hcs
    have hlz : len ≤ ss.length := by rw [hz]; split <;> omega
    have hl2 : (ss.take len).length = len := by simp; omega
    refine ⟨some x, cap, ss.take len, by rw [hl2], by rw [hl2]; unfold maxLen at hm; omega, ?_, ?_⟩
    · intro j hj
      rw [hl2] at hj
      obtain ⟨b, o, spot⟩ := x
      have hspot : spot = none := by simpa [Addr.add] using World.cell?_spot (hcell 0 (by omega))
      subst hspot
      have h1 := hcell j (by omega)
      rw [Go.WideShapes.add_plain] at h1
      refine ⟨b, o, rfl, World.block_lt_of_cell? W ⟨b, o + j, none⟩ h1, ?_⟩
      rw [h1, List.getD_eq_getElem?_getD, List.getD_eq_getElem?_getD, List.getElem?_take, if_pos hj]
      rfl
    · intro j
      rw [List.getD_eq_getElem?_getD]
      cases hx : (ss.take len)[j]? with
      | none => exact Nat.zero_le _
      | some y => exact hws y (List.mem_of_mem_take (List.mem_of_getElem? hx))

end Go.Proofs.Ytpdnbkibnpkfbac
