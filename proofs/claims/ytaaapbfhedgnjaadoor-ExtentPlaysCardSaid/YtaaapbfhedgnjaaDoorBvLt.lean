/- A vector of bits (layer 11): the table of the count lies where it lay. -/
import Derived.Test.YtaaapbfhedgnjaaDoorBvG
import Derived.Test.YtaaapbfhedgnjaaDoorBvJ
namespace Go.Proofs.YtaaapbfhedgnjaaDoor.BV
open Go.ChangeShapes Go.WideShapes Go.ChangeAt Go.RowKit

theorem tabB_blk {w : World} (h : Tab w) : 0 < w.heap.size := World.block_lt_of_cell? w ⟨0, 0, none⟩ (h 0 (by omega))

theorem tabB {w w' : World} (hT : Tab w) (h : Below w.heap.size w w') : Tab w' := fun j hj => by
  rw [h.cell (p := ⟨0, j, none⟩) (tabB_blk hT)]; exact hT j hj

theorem At.tabB {A : Asn} {W w : World} (hT : Tab W) (h : At A W (fun _ => False) w) : Tab w := BV.tabB hT h.below

end Go.Proofs.YtaaapbfhedgnjaaDoor.BV
