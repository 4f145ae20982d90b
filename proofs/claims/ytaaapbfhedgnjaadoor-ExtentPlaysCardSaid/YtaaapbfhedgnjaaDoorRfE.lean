/- Where a function ends that ranged over a function: its results in cells. -/
import Derived.Test.YtaaapbfhedgnjaaDoorRfL
import Derived.Test.YtaaapbfhedgnjaaDoorBvE
namespace Go.Proofs.YtaaapbfhedgnjaaDoor.BV
open Go.ChangeShapes Go.WideShapes Go.ChangeAt Go.RowKit

theorem mk_end {A : Asn} {W w : World} {S : Nat → Prop} {R D : Nat} {v u : Value} {t : TypeId} (h : At ((blk R (.cells #[u] t (0, 0)) * A) * blk D (.deferred (some []))) W S w) :
    (w.setCell ⟨R, 0, none⟩ v).heap[D]? = some (.deferred (some [])) ∧ ((w.setCell ⟨R, 0, none⟩ v).putObj D (.deferred none)).cell? ⟨R, 0, none⟩ = some v ∧ At A W S ((w.setCell ⟨R, 0, none⟩ v).putObj D (.deferred none)) := by
  have h1 := At.set_blk (A := A * blk D (.deferred (some []))) (h.re (B := blk R (.cells #[u] t (0, 0)) * (A * blk D (.deferred (some [])))) (by ac_rfl)) 0 v
  have h2 : At (blk D (.deferred (some [])) * (blk R (.cells #[v] t (0, 0)) * A)) W S (w.setCell ⟨R, 0, none⟩ v) := h1.re (by show blk R (.cells #[v] t (0, 0)) * _ = _; ac_rfl)
  have h3 := h2.putObj (.deferred none)
  exact ⟨h2.blkIs, (cell1 (At.blkIs (A := A * blk D (.deferred none)) (h3.re (by ac_rfl)))).1, At.dropr (C := blk R (.cells #[v] t (0, 0)) * blk D (.deferred none)) (h3.re (by ac_rfl))⟩

theorem mk_cell {A : Asn} {W w : World} {S : Nat → Prop} {R D : Nat} {u : Value} {t : TypeId} (h : At ((blk R (.cells #[u] t (0, 0)) * A) * blk D (.deferred (some []))) W S w) : w.cell? ⟨R, 0, none⟩ = some u ∧ w.frozen? ⟨R, 0, none⟩ = false :=
  cell1 (At.blkIs (h.re (B := blk R (.cells #[u] t (0, 0)) * (A * blk D (.deferred (some [])))) (by ac_rfl)))

/-- two results -/
theorem mk_two {A : Asn} {W w : World} {S : Nat → Prop} {P Q D : Nat} {v0 v1 u0 u1 : Value} {t s : TypeId} (h : At ((blk P (.cells #[u0] t (0, 0)) * (blk Q (.cells #[u1] s (0, 0)) * A)) * blk D (.deferred (some []))) W S w) :
    (w.cell? ⟨P, 0, none⟩ = some u0 ∧ w.frozen? ⟨P, 0, none⟩ = false) ∧ ((w.setCell ⟨P, 0, none⟩ v0).cell? ⟨Q, 0, none⟩ = some u1 ∧ (w.setCell ⟨P, 0, none⟩ v0).frozen? ⟨Q, 0, none⟩ = false) ∧
    ((w.setCell ⟨P, 0, none⟩ v0).setCell ⟨Q, 0, none⟩ v1).heap[D]? = some (.deferred (some [])) ∧ ((((w.setCell ⟨P, 0, none⟩ v0).setCell ⟨Q, 0, none⟩ v1).putObj D (.deferred none)).cell? ⟨P, 0, none⟩ = some v0) ∧
    ((((w.setCell ⟨P, 0, none⟩ v0).setCell ⟨Q, 0, none⟩ v1).putObj D (.deferred none)).cell? ⟨Q, 0, none⟩ = some v1) ∧ At A W S (((w.setCell ⟨P, 0, none⟩ v0).setCell ⟨Q, 0, none⟩ v1).putObj D (.deferred none)) := by
  have h0 := h.re (B := blk P (.cells #[u0] t (0, 0)) * (blk Q (.cells #[u1] s (0, 0)) * A * blk D (.deferred (some [])))) (by ac_rfl)
  have h1 : At (blk P (.cells #[v0] t (0, 0)) * (blk Q (.cells #[u1] s (0, 0)) * A * blk D (.deferred (some [])))) W S (w.setCell ⟨P, 0, none⟩ v0) := At.set_blk h0 0 v0
  have h2 := h1.re (B := blk Q (.cells #[u1] s (0, 0)) * (blk P (.cells #[v0] t (0, 0)) * A * blk D (.deferred (some [])))) (by ac_rfl)
  have h3 : At (blk Q (.cells #[v1] s (0, 0)) * (blk P (.cells #[v0] t (0, 0)) * A * blk D (.deferred (some [])))) W S _ := At.set_blk h2 0 v1
  have h4 := h3.re (B := blk D (.deferred (some [])) * (blk P (.cells #[v0] t (0, 0)) * (blk Q (.cells #[v1] s (0, 0)) * A))) (by ac_rfl)
  have h5 := h4.putObj (.deferred none)
  exact ⟨cell1 (At.blkIs h0), cell1 (At.blkIs h2), h4.blkIs, (cell1 (At.blkIs (A := blk Q (.cells #[v1] s (0, 0)) * A * blk D (.deferred none)) (h5.re (by ac_rfl)))).1, (cell1 (At.blkIs (A := blk P (.cells #[v0] t (0, 0)) * A * blk D (.deferred none)) (h5.re (by ac_rfl)))).1,
    At.dropr (C := blk P (.cells #[v0] t (0, 0)) * blk Q (.cells #[v1] s (0, 0)) * blk D (.deferred none)) (h5.re (by ac_rfl))⟩

end Go.Proofs.YtaaapbfhedgnjaaDoor.BV
