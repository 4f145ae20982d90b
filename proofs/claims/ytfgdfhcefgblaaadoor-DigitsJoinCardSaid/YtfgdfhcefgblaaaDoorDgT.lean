/- Digits (layer 4): strconv's powers of ten lie in their variable. -/
import Derived.Test.YtfgdfhcefgblaaaDoorArgs
import Derived.Test.YtfgdfhcefgblaaaDoorShelf
import Derived.Test.YtfgdfhcefgblaaaDoorRows
import Derived.Lib.LaidTab
import Derived.Lib.TrailingZeros
import Derived.LaidLaws
import Derived.LaidSub
namespace Go.Proofs.YtfgdfhcefgblaaaDoor
open Go.ChangeShapes Go.WideShapes Go.ChangeAt Go.RowKit Go.Sort Go.Lib Go.Shelf

theorem below_grow {w : World} (os : Array Obj) (k : Nat) : Below w.heap.size w (grow (w.drewN k) os) := by
  refine ⟨rfl, rfl, rfl, ?_, fun i hi => ?_⟩
  · show w.heap.size ≤ (w.heap ++ os).size
    simp
  · show (w.heap ++ os)[i]? = _
    rw [Array.getElem?_append_left hi]

def PowTab (w : World) : Prop := Lib.TabIs Tryd.prog w "internal/strconv.uint64pow10" .u64 Lib.pow10Tab

theorem tab_grow {w : World} (h : PowTab w) {w' : World} (hb : Below w.heap.size w w') : PowTab w' := by
  unfold PowTab Lib.TabIs World.var? at *
  cases hg : (Tryd.prog).globalNamed "internal/strconv.uint64pow10" with
  | none => simp [hg] at h
  | some g =>
    simp only [hg, Option.bind_some] at h ⊢
    have hlt : g < w.heap.size := by
      rcases Nat.lt_or_ge g w.heap.size with h' | h'
      · exact h'
      · rw [Array.getElem?_eq_none h'] at h; simp at h
    rw [hb.block g hlt]
    exact h

def DbTab (w : World) : Prop := Lib.TabIs Tryd.prog w "math/bits.deBruijn64tab" .u8 (Lib.deBruijn64tab.map fun n : Nat => (n : Int))

theorem db_grow {w : World} (h : DbTab w) {w' : World} (hb : Below w.heap.size w w') : DbTab w' := by
  unfold DbTab Lib.TabIs World.var? at *
  cases hg : (Tryd.prog).globalNamed "math/bits.deBruijn64tab" with
  | none => simp [hg] at h
  | some g =>
    simp only [hg, Option.bind_some] at h ⊢
    have hlt : g < w.heap.size := by
      rcases Nat.lt_or_ge g w.heap.size with h' | h'
      · exact h'
      · rw [Array.getElem?_eq_none h'] at h; simp at h
    rw [hb.block g hlt]
    exact h

theorem gTab : Tryd.prog.globalNamed "internal/strconv.uint64pow10" = some 0 := by kernel_rfl
theorem gTabType : (Tryd.prog.globals[0]?).map (·.type) = some 66 := by kernel_rfl
theorem cellsArr : Tryd.prog.cellsOf 66 = 20 := by kernel_rfl
theorem gTabB : Tryd.prog.globalNamed "math/bits.deBruijn64tab" = some 2 := by kernel_rfl
theorem gTabBType : (Tryd.prog.globals[2]?).map (·.type) = some 73 := by kernel_rfl
theorem cellsArrB : Tryd.prog.cellsOf 73 = 64 := by kernel_rfl
theorem cellsOneB : Tryd.prog.cellsOf 5 = 1 := by kernel_rfl
theorem cellsOne : Tryd.prog.cellsOf 23 = 1 := by kernel_rfl

def Tab (w : World) : Prop := PowTab w ∧ DbTab w

theorem table {W : World} (h : laidMetH Tryd.prog [("math/bits.deBruijn32tab", Rows.laid_math_bits_deBruijn32tab), ("math/bits.deBruijn64tab", Rows.laid_math_bits_deBruijn64tab), ("internal/strconv.uint64pow10", Rows.laid_internal_strconv_uint64pow10)] W) : Tab W :=
  ⟨Lib.tabIs_of_head (rest := []) gTab gTabType Tryd.underlying66 Tryd.underlying23 cellsOne cellsArr (h.filter fun x => x.1 == "internal/strconv.uint64pow10"), Lib.tabIs_of_head (rest := []) gTabB gTabBType Tryd.underlying73 Tryd.underlying5 cellsOneB cellsArrB (h.filter fun x => x.1 == "math/bits.deBruijn64tab")⟩

def datCells : DataW Unit → Array Value
  | .agg l => (l.map fun | .lit (.int k z) => Value.int k z | _ => undef).toArray
  | _ => #[]

def layAt (g : Nat) (d : DataW Unit) (w : World) : World := { w with heap := w.heap.modify g fun
  | .cells _ t frozen => .cells (datCells d) t frozen
  | o => o }

/-- the tables laid -/
def layTab (w : World) : World := layAt 1 Rows.laid_math_bits_deBruijn32tab (layAt 2 Rows.laid_math_bits_deBruijn64tab (layAt 0 Rows.laid_internal_strconv_uint64pow10 w))

end Go.Proofs.YtfgdfhcefgblaaaDoor
