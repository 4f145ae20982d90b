/- The law BitvecOnes: one round. -/
import Derived.Test.YtflkbefiopnigacDoorBvOa
import Derived.Stop.RegionWithIn
namespace Go.Proofs.YtflkbefiopnigacDoor.BV
open Go.ChangeShapes Go.WideShapes Go.ChangeAt Go.RowKit Go.Shelf

attribute [local go_sem] Oper.semAt_some

def onX (x : Bx) : Code → Asn
  | .ret => blk x.R (.cells #[.bool true] 4 (0, 0))
  | _ => pur False

/-- the rows of acts, wherever the walk stands -/
def ActsAt (W : World) (a : Option Addr) (len : Nat) (F : Nat → Nat → Int) : Prop := ∀ wr, Below W.heap.size W wr → ∀ j, j < len → ∃ q off, a = some ⟨q, off, none⟩ ∧ wr.cell? ⟨q, off + j * 3, none⟩ = some (.int .u8 (F j 0)) ∧ wr.cell? ⟨q, off + j * 3 + 1, none⟩ = some (.int .i64 (F j 1)) ∧ wr.cell? ⟨q, off + j * 3 + 2, none⟩ = some (.int .i64 (F j 2)) ∧ (0 ≤ F j 0 ∧ F j 0 ≤ 255) ∧ (-9223372036854775808 ≤ F j 1 ∧ F j 1 ≤ 9223372036854775807) ∧ (-9223372036854775808 ≤ F j 2 ∧ F j 2 ≤ 9223372036854775807)

end Go.Proofs.YtflkbefiopnigacDoor.BV
