/- Operations whose value is told, chosen by their slot: for an arm that fails at once where it does not fit. -/
import Derived.Test.YtflkbefiopnigaaDoorBase
namespace Go.Proofs.YtflkbefiopnigaaDoor
open Go.ChangeShapes Go.WideShapes Go.ChangeAt Go.RowKit

theorem wpList_binX {P : Program} {w : World} {ops : Array Oper} {rest : List Oper} {a : Act} {Q : Exit → Act → World → Prop} {dst : Option Tmp} {op : BinOp} {t : TypeId} {x y : Operand} {t2 ty : TypeId} {pos : String} {after : Array Edge}
    {u1 u2 v : Value} (h1 : a.eval x = u1) (h2 : a.eval y = u2) (hgd : (eqGuard op t x y u1 u2).run P w = .ok () w) (hrun : (binOp op t u1 u2).run P w = .ok v w) (hK : wpList P ops Q rest (a.put dst v) w) :
    wpList P ops Q (⟨dst, Op.binOp op t x y t2, ty, pos, after, none⟩ :: rest) a w := by
  refine wpList_plain rfl fun K hK' => ?_
  unfold Oper.wp
  simp [execOp, h1, h2, hgd, hrun, Result.andThen]
  exact hK' _ _ hK

theorem wpList_binwX {P : Program} {w : World} {ops : Array Oper} {rest : List Oper} {a : Act} {Q : Exit → Act → World → Prop} {dst : Option Tmp} {op : BinOp} {t : TypeId} {x y : Operand} {t2 ty : TypeId} {pos : String} {after : Array Edge} {gd : Option (Nat × Bool)}
    {u1 u2 v : Value} (hw : Region.wanted ⟨dst, Op.binOp op t x y t2, ty, pos, after, gd⟩ (yielded ops a.tmps) = true) (h1 : a.eval x = u1) (h2 : a.eval y = u2) (hgd : (eqGuard op t x y u1 u2).run P w = .ok () w) (hrun : (binOp op t u1 u2).run P w = .ok v w) (hK : wpList P ops Q rest (a.put dst v) w) :
    wpList P ops Q (⟨dst, Op.binOp op t x y t2, ty, pos, after, gd⟩ :: rest) a w := by
  refine BigFrame.wpList_want hw fun K hK' => ?_
  unfold Oper.wp
  simp [execOp, h1, h2, hgd, hrun, Result.andThen]
  exact hK' _ _ hK

theorem wpList_unX {P : Program} {w : World} {ops : Array Oper} {rest : List Oper} {a : Act} {Q : Exit → Act → World → Prop} {dst : Option Tmp} {op : UnOp} {t : TypeId} {x : Operand} {ty : TypeId} {pos : String} {after : Array Edge}
    {u1 v : Value} (h1 : a.eval x = u1) (hrun : (Op.unary op u1).run P w = .ok v w) (hK : wpList P ops Q rest (a.put dst v) w) :
    wpList P ops Q (⟨dst, Op.unOp op t x, ty, pos, after, none⟩ :: rest) a w := by
  refine wpList_plain rfl fun K hK' => ?_
  unfold Oper.wp
  simp [execOp, h1, hrun, Result.andThen]
  exact hK' _ _ hK

end Go.Proofs.YtflkbefiopnigaaDoor
