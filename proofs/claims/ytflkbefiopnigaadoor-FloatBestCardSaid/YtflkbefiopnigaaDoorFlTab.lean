/- What the rows' list gives: strconv's powers of ten lie in their variable. -/
import Derived.Test.YtflkbefiopnigaaDoorFlP
import Derived.Test.YtflkbefiopnigaaDoorRows
import Derived.Lib.LaidTab
import Derived.LaidLaws
import Derived.LaidSub
namespace Go.Proofs.YtflkbefiopnigaaDoor
open Go.RowKit

theorem gTab : Tryd.prog.globalNamed "internal/strconv.uint64pow10" = some 1 := by kernel_rfl
theorem gTabType : (Tryd.prog.globals[1]?).map (·.type) = some 87 := by kernel_rfl
theorem cellsArr : Tryd.prog.cellsOf 87 = 20 := by kernel_rfl
theorem cellsOne : Tryd.prog.cellsOf 22 = 1 := by kernel_rfl

def Tab (w : World) : Prop := PowTab w

theorem table {W : World} (h : laidMetH Tryd.prog [("math/bits.deBruijn32tab", Rows.laid_math_bits_deBruijn32tab), ("math/bits.deBruijn64tab", Rows.laid_math_bits_deBruijn64tab), ("internal/strconv.uint64pow10", Rows.laid_internal_strconv_uint64pow10)] W) : Tab W :=
  Lib.tabIs_of_head (rest := []) gTab gTabType Tryd.underlying87 Tryd.underlying22 cellsOne cellsArr (h.filter fun x => x.1 == "internal/strconv.uint64pow10")

def datCells : DataW Unit → Array Value
  | .agg l => (l.map fun | .lit (.int k z) => Value.int k z | _ => undef).toArray
  | _ => #[]

def layAt (g : Nat) (d : DataW Unit) (w : World) : World := { w with heap := w.heap.modify g fun
  | .cells _ t frozen => .cells (datCells d) t frozen
  | o => o }

/-- the tables laid -/
def layTab (w : World) : World := layAt 5 Rows.laid_math_bits_deBruijn32tab (layAt 6 Rows.laid_math_bits_deBruijn64tab (layAt 1 Rows.laid_internal_strconv_uint64pow10 w))

/-- a word's number -/
theorem word {x : Int} (h : (Lit.int .u64 x).wf = true) : ∃ n : Nat, x = (n : Int) ∧ n < 18446744073709551616 := by
  have h' := bounds_u64 h
  exact ⟨x.toNat, by omega, by omega⟩

end Go.Proofs.YtflkbefiopnigaaDoor
