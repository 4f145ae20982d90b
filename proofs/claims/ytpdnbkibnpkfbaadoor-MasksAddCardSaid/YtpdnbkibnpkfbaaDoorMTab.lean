/- What the rows' list gives: the table of bits.TrailingZeros64 lies in its variable. -/
import Derived.Test.YtpdnbkibnpkfbaaDoorMLaw
import Derived.Test.YtpdnbkibnpkfbaaDoorRows
import Derived.Lib.LaidTab
import Derived.LaidLaws
namespace Go.Proofs.YtpdnbkibnpkfbaaDoor
open Go.RowKit

def tabInts : List Int := Lib.deBruijn64tab.map (fun (n : Nat) => (n : Int))

theorem gTab : Tryd.prog.globalNamed "math/bits.deBruijn64tab" = some 0 := by kernel_rfl
theorem gTabType : (Tryd.prog.globals[0]?).map (·.type) = some 43 := by kernel_rfl
theorem cellsArr : Tryd.prog.cellsOf 43 = 64 := by kernel_rfl
theorem cellsOne : Tryd.prog.cellsOf 5 = 1 := by kernel_rfl

theorem table {W : World} (h : laidMetH Tryd.prog [("math/bits.deBruijn64tab", Rows.laid_math_bits_deBruijn64tab)] W) : Tab W := by
  have T : Lib.TabIs Tryd.prog W "math/bits.deBruijn64tab" .u8 tabInts :=
    Lib.tabIs_of_head (rest := []) gTab gTabType Tryd.underlying43 Tryd.underlying5 cellsOne cellsArr h
  intro j hj
  have := T.cell gTab j hj
  rw [this]
  congr 2
  unfold tabInts
  rw [List.getD_eq_getElem?_getD, List.getElem?_map, List.getD_eq_getElem?_getD]
  cases hx : Lib.deBruijn64tab[j]? <;> simp

/-- the table laid -/
def layTab (w : World) : World := { w with heap := w.heap.modify 0 fun
  | .cells _ t frozen => .cells (tabInts.map (Value.int .u8)).toArray t frozen
  | o => o }

/-- a word's number -/
theorem word {x : Int} (h : (Lit.int .u64 x).wf = true) : ∃ n : Nat, x = (n : Int) ∧ n < 18446744073709551616 := by
  have h' := bounds_u64 h
  exact ⟨x.toNat, by omega, by omega⟩

theorem same_below {P : Program} {f : FuncId} {args : Array Value} {w : World} {v : Value} (h : Calls P f args w fun e w' => e = .returned v ∧ w = w') : Calls P f args w fun e w' => e = .returned v ∧ Below w.heap.size w w' :=
  h.mono fun _ _ ⟨he, hm⟩ => ⟨he, hm ▸ Below.refl _ _⟩

theorem runs_law (x : Int) (h : (Lit.int .u64 x).wf = true) (f t : Int) (w : World) (hT : Tab w) : Calls Tryd.prog 3 #[.int .u64 x, .int .i64 f, .int .i64 t] w fun e w' => e = .returned (.bool true) ∧ Below w.heap.size w w' := by
  obtain ⟨n, rfl, hn⟩ := word h
  exact same_below (runs_any n hn f t w hT)
theorem picks_law (x : Int) (h : (Lit.int .u64 x).wf = true) (k : Int) (w : World) (hT : Tab w) : Calls Tryd.prog 4 #[.int .u64 x, .int .i64 k] w fun e w' => e = .returned (.bool true) ∧ Below w.heap.size w w' := by
  obtain ⟨n, rfl, hn⟩ := word h
  exact same_below (picks_any n hn k w hT)
theorem packs_law (x : Int) (h : (Lit.int .u64 x).wf = true) (m : Int) (hm : (Lit.int .u64 m).wf = true) (w : World) (hT : Tab w) : Calls Tryd.prog 5 #[.int .u64 x, .int .u64 m] w fun e w' => e = .returned (.bool true) ∧ Below w.heap.size w w' := by
  obtain ⟨n, rfl, hn⟩ := word h
  obtain ⟨k, rfl, hk⟩ := word hm
  exact same_below (packs_any n hn k hk w hT)
theorem rounds_law (n : Int) (h : (Lit.int .i64 n).wf = true) (u : Int) (hu : (Lit.int .i64 u).wf = true) (w : World) (hT : Tab w) : Calls Tryd.prog 8 #[.int .i64 n, .int .i64 u] w fun e w' => e = .returned (.bool true) ∧ Below w.heap.size w w' := by
  have h' := bounds_i64 h
  have u' := bounds_i64 hu
  exact same_below (rounds_any n u (by omega) (by omega) (by omega) (by omega) w hT)

end Go.Proofs.YtpdnbkibnpkfbaaDoor
