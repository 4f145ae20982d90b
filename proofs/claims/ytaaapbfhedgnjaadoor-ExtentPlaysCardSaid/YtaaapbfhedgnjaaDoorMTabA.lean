/- What the rows' list gives: the table of bits.TrailingZeros64 lies in its variable. -/
import Derived.Test.YtaaapbfhedgnjaaDoorMkA
import Derived.Test.YtaaapbfhedgnjaaDoorRows
import Derived.Lib.LaidTab
import Derived.LaidLaws
namespace Go.Proofs.YtaaapbfhedgnjaaDoor
open Go.RowKit

def tabInts : List Int := Lib.deBruijn64tab.map (fun (n : Nat) => (n : Int))

theorem gTab : Tryd.prog.globalNamed "math/bits.deBruijn64tab" = some 0 := by kernel_rfl
theorem gTabType : (Tryd.prog.globals[0]?).map (·.type) = some 96 := by kernel_rfl
theorem cellsArr : Tryd.prog.cellsOf 96 = 64 := by kernel_rfl
theorem cellsOne : Tryd.prog.cellsOf 5 = 1 := by kernel_rfl

theorem table {W : World} (h : laidMetH Tryd.prog [("math/bits.deBruijn64tab", Rows.laid_math_bits_deBruijn64tab)] W) : Tab W := by
  have T : Lib.TabIs Tryd.prog W "math/bits.deBruijn64tab" .u8 tabInts :=
    Lib.tabIs_of_head (rest := []) gTab gTabType Tryd.underlying96 Tryd.underlying5 cellsOne cellsArr h
  intro j hj
  have := T.cell gTab j hj
  rw [this]
  congr 2
  unfold tabInts
  rw [List.getD_eq_getElem?_getD, List.getElem?_map, List.getD_eq_getElem?_getD]
  cases hx : Lib.deBruijn64tab[j]? <;> simp

/-- the table laid -/
def layTab (w : World) : World := { w with heap := w.heap.modify 0 fun
  | .cells _ t frozen => .cells (tabInts.map (Value.int .u8)).toArray t frozen
  | o => o }

end Go.Proofs.YtaaapbfhedgnjaaDoor
