/- Arguments that are slices, as a walk is told of them. -/
import Derived.Test.YtfgdfhcefgblaaaDoorSep
import Derived.Deep.SlicePairs
import Derived.ProofKit
import Derived.OpenShut
namespace Go.Proofs.YtfgdfhcefgblaaaDoor
open Go.ChangeShapes Go.WideShapes Go.ChangeAt Go.RowKit Go.Deep

/-- a slice of integers that came in -/
structure IntRow (k : IntKind) (W : World) (a : Option Addr) (len cap : Nat) (zs : List Int) : Prop where
  length : zs.length = len
  lc : len ≤ cap
  cm : cap ≤ maxLen
  wf : ∀ n ∈ zs, (Lit.int k n).wf = true
  at_ : ∀ j, j < len → ∃ q off, a = some ⟨q, off, none⟩ ∧ q < W.heap.size ∧ W.cell? ⟨q, off + j, none⟩ = some (.int k (zs.getD j 0))

theorem open_int_row {H : Type} {enc : TypeId × Value → H} {P : Program} {W : World} {base b0 : Nat} {sp : Nat → Bool} {held : Bool} {k : IntKind} {t e : TypeId} {v : Value} {d : DataW H} {p : List MemPlace}
    (ht : P.underlying t = some (.slice e)) (he : P.underlying e = some (.int k)) (hc : P.cellsOf e = 1)
    (hv : Value.okWide P W .any base t v) (h : DataW.Trod enc P W b0 sp held t v d p) : ∃ a len cap zs, v = .slice a len cap ∧ IntRow k W a len cap zs := by
  obtain ⟨a, len, cap, rfl⟩ := okWide_slice ht hv
  obtain ⟨fuel, hf⟩ := h
  rcases open_ints ht he hc hf with ⟨hcs, _⟩ | ⟨x, l, c, zs, hcs, _, hl, hm, hz, _, hcell, hwz⟩
  · simp [Value.cells] at hcs
    obtain ⟨rfl, rfl, rfl⟩ := hcs
    exact ⟨_, _, _, [], rfl, rfl, Nat.le_refl _, Nat.zero_le _, by simp, fun j hj => by omega⟩
  · simp [Value.cells] at hcs
    obtain ⟨rfl, rfl, rfl⟩ := hcs
    refine ⟨_, _, _, zs.take len, rfl, ?_, hl, hm, fun n hn => hwz n (List.mem_of_mem_take hn), fun j hj => ?_⟩
    · have : len ≤ zs.length := by rw [hz]; split <;> omega
      simp; omega
    · have hlz : len ≤ zs.length := by rw [hz]; split <;> omega
      obtain ⟨b, off, rfl, hc'⟩ := ints_at hcell (by omega)
      have h1 := hc' j (by omega)
      exact ⟨b, off, rfl, World.block_lt_of_cell? W ⟨b, off + j, none⟩ h1, by rw [h1]; simp [List.getD, List.getElem?_take, hj]⟩

end Go.Proofs.YtfgdfhcefgblaaaDoor
