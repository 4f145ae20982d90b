/-
  NARROWER THAN 'FOR EVERY INPUT', by the rows' own cells (each row's printed sentence says how): VmemKeeps: laid · VmemNobody: laid · BumpPlays: laid · BumpPieces: laid · BumpNobody: laid · ObjectBack: laid.
  DERIVED. THE GIVEN ROWS OF THIS SEAT. 6 by the template 'for every input the law returns true; each argument reads behind the call as it read before'; 0 by the template 'total and deterministic' (their statements: YtflkbefiopnigabDoorTotals.lean).
  GIVEN WITH THE SEED: the statements are not yours to turn. If you find one false, say at which input.
  Laid BY PROGRAM, IN A SANDBOX (cutbox-rows.mjs): the forced cells as the released guide's own fill.sh prints them over the translation c4d12c90ee4ac455… (all of the seat's roots in one cut). By AI agents, Wed Nov 11 2026. No macro, syntax, notation, axiom, sorry.
-/
import Derived.Test.YtflkbefiopnigabDoorChecked
import GoSem.Claim
import GoSem.ClaimJoined
import GoSem.ClaimMapViews
import Derived.JoinedTies
import Derived.KernelRfl
namespace Go.Proofs.YtflkbefiopnigabDoor
/- THE CELL 'sum', in the pinned program and in every row, IS THE sha256 OF THE DUMP (.gsa) THAT YtflkbefiopnigabDoorProg.lean LOADS. Nothing in Lean hashes anything: it is a label: what it is worth is what the hold of that sum in a sandbox is worth. -/
noncomputable def Tryd.pinned : Pinned := { name := "ytflkbefiopnigabdoor", sum := "c4d12c90ee4ac455af96a60c8ab963f8ed8fa75dcb58523e7c8f783a2071223d", checked := Tryd.checked }
namespace Rows
def none {H : Type} : Left H := { results := [], args := [] }

/- WHAT THE LISTED PACKAGE-LEVEL VARIABLES READ AS WHEN THE CALL BEGINS. Each datum BY PROGRAM (the guide's laid-datum.mjs) off the statement by which the dump's own 'gosem.cut.vars' lays the variable. In a bare row this is a premise. The card (YtflkbefiopnigabDoorCards.lean) ties it to the program's text. -/
def laid_math_bits_deBruijn64tab {H : Type} : DataW H := .agg [.lit (.int .u8 0), .lit (.int .u8 1), .lit (.int .u8 56), .lit (.int .u8 2), .lit (.int .u8 57), .lit (.int .u8 49), .lit (.int .u8 28), .lit (.int .u8 3), .lit (.int .u8 61), .lit (.int .u8 58), .lit (.int .u8 42), .lit (.int .u8 50), .lit (.int .u8 38), .lit (.int .u8 29), .lit (.int .u8 17), .lit (.int .u8 4), .lit (.int .u8 62), .lit (.int .u8 47), .lit (.int .u8 59), .lit (.int .u8 36), .lit (.int .u8 45), .lit (.int .u8 43), .lit (.int .u8 51), .lit (.int .u8 22), .lit (.int .u8 53), .lit (.int .u8 39), .lit (.int .u8 33), .lit (.int .u8 30), .lit (.int .u8 24), .lit (.int .u8 18), .lit (.int .u8 12), .lit (.int .u8 5), .lit (.int .u8 63), .lit (.int .u8 55), .lit (.int .u8 48), .lit (.int .u8 27), .lit (.int .u8 60), .lit (.int .u8 41), .lit (.int .u8 37), .lit (.int .u8 16), .lit (.int .u8 46), .lit (.int .u8 35), .lit (.int .u8 44), .lit (.int .u8 21), .lit (.int .u8 52), .lit (.int .u8 32), .lit (.int .u8 23), .lit (.int .u8 11), .lit (.int .u8 54), .lit (.int .u8 26), .lit (.int .u8 40), .lit (.int .u8 15), .lit (.int .u8 34), .lit (.int .u8 20), .lit (.int .u8 31), .lit (.int .u8 10), .lit (.int .u8 25), .lit (.int .u8 14), .lit (.int .u8 19), .lit (.int .u8 9), .lit (.int .u8 13), .lit (.int .u8 8), .lit (.int .u8 7), .lit (.int .u8 6)]

/-- 'ullagelaw09.VmemKeeps': WHATEVER THE INPUT: true; the input reads as it did. -/
def vmemKeepsSpec : ChangeSpec := { name := "vmemKeeps", fn := fun _ => fun
  | [d1, d2, d3] => { results := [.lit (.bool true)], args := [d1, d2, d3] }
  | _ => none }
def vmemKeepsRow : OpenClaim := { program := "ytflkbefiopnigabdoor", sum := "c4d12c90ee4ac455af96a60c8ab963f8ed8fa75dcb58523e7c8f783a2071223d", func := "ullage/ullagelaw09.VmemKeeps", spec := "vmemKeeps", unfollowed := true, recurses := true, named := ["math/bits.deBruijn64tab"], apart := false, laid := [("math/bits.deBruijn64tab", laid_math_bits_deBruijn64tab)] }
def VmemKeepsSaid : Prop := vmemKeepsRow.holds Tryd.pinned (OpenSpec.ofChange vmemKeepsSpec)

/-- ITS FALSE NEIGHBOUR: 'it returns false'. Refute it at one input. -/
def vmemKeepsWrong : ChangeSpec := { name := "vmemKeeps", fn := fun _ => fun
  | [d1, d2, d3] => { results := [.lit (.bool false)], args := [d1, d2, d3] }
  | _ => none }
def VmemKeepsWrongFalsely : Prop := vmemKeepsRow.holds Tryd.pinned (OpenSpec.ofChange vmemKeepsWrong)

/-- 'ullagelaw09.VmemNobody': WHATEVER THE INPUT: true; the input reads as it did. -/
def vmemNobodySpec : ChangeSpec := { name := "vmemNobody", fn := fun _ => fun
  | [d1, d2, d3] => { results := [.lit (.bool true)], args := [d1, d2, d3] }
  | _ => none }
def vmemNobodyRow : OpenClaim := { program := "ytflkbefiopnigabdoor", sum := "c4d12c90ee4ac455af96a60c8ab963f8ed8fa75dcb58523e7c8f783a2071223d", func := "ullage/ullagelaw09.VmemNobody", spec := "vmemNobody", unfollowed := true, recurses := true, named := ["math/bits.deBruijn64tab"], apart := false, laid := [("math/bits.deBruijn64tab", laid_math_bits_deBruijn64tab)] }
def VmemNobodySaid : Prop := vmemNobodyRow.holds Tryd.pinned (OpenSpec.ofChange vmemNobodySpec)

/-- ITS FALSE NEIGHBOUR: 'it returns false'. Refute it at one input. -/
def vmemNobodyWrong : ChangeSpec := { name := "vmemNobody", fn := fun _ => fun
  | [d1, d2, d3] => { results := [.lit (.bool false)], args := [d1, d2, d3] }
  | _ => none }
def VmemNobodyWrongFalsely : Prop := vmemNobodyRow.holds Tryd.pinned (OpenSpec.ofChange vmemNobodyWrong)

/-- 'ullagelaw16.BumpPlays': WHATEVER THE INPUT: true; the input reads as it did. -/
def bumpPlaysSpec : ChangeSpec := { name := "bumpPlays", fn := fun _ => fun
  | [d1, d2, d3] => { results := [.lit (.bool true)], args := [d1, d2, d3] }
  | _ => none }
def bumpPlaysRow : OpenClaim := { program := "ytflkbefiopnigabdoor", sum := "c4d12c90ee4ac455af96a60c8ab963f8ed8fa75dcb58523e7c8f783a2071223d", func := "ullage/ullagelaw16.BumpPlays", spec := "bumpPlays", unfollowed := true, recurses := true, named := ["math/bits.deBruijn64tab"], apart := false, laid := [("math/bits.deBruijn64tab", laid_math_bits_deBruijn64tab)] }
def BumpPlaysSaid : Prop := bumpPlaysRow.holds Tryd.pinned (OpenSpec.ofChange bumpPlaysSpec)

/-- ITS FALSE NEIGHBOUR: 'it returns false'. Refute it at one input. -/
def bumpPlaysWrong : ChangeSpec := { name := "bumpPlays", fn := fun _ => fun
  | [d1, d2, d3] => { results := [.lit (.bool false)], args := [d1, d2, d3] }
  | _ => none }
def BumpPlaysWrongFalsely : Prop := bumpPlaysRow.holds Tryd.pinned (OpenSpec.ofChange bumpPlaysWrong)

/-- 'ullagelaw16.BumpPieces': WHATEVER THE INPUT: true; the input reads as it did. -/
def bumpPiecesSpec : ChangeSpec := { name := "bumpPieces", fn := fun _ => fun
  | [d1, d2] => { results := [.lit (.bool true)], args := [d1, d2] }
  | _ => none }
def bumpPiecesRow : OpenClaim := { program := "ytflkbefiopnigabdoor", sum := "c4d12c90ee4ac455af96a60c8ab963f8ed8fa75dcb58523e7c8f783a2071223d", func := "ullage/ullagelaw16.BumpPieces", spec := "bumpPieces", unfollowed := true, recurses := true, named := ["math/bits.deBruijn64tab"], apart := false, laid := [("math/bits.deBruijn64tab", laid_math_bits_deBruijn64tab)] }
def BumpPiecesSaid : Prop := bumpPiecesRow.holds Tryd.pinned (OpenSpec.ofChange bumpPiecesSpec)

/-- ITS FALSE NEIGHBOUR: 'it returns false'. Refute it at one input. -/
def bumpPiecesWrong : ChangeSpec := { name := "bumpPieces", fn := fun _ => fun
  | [d1, d2] => { results := [.lit (.bool false)], args := [d1, d2] }
  | _ => none }
def BumpPiecesWrongFalsely : Prop := bumpPiecesRow.holds Tryd.pinned (OpenSpec.ofChange bumpPiecesWrong)

/-- 'ullagelaw16.BumpNobody': WHATEVER THE INPUT: true; the input reads as it did. -/
def bumpNobodySpec : ChangeSpec := { name := "bumpNobody", fn := fun _ => fun
  | [d1, d2] => { results := [.lit (.bool true)], args := [d1, d2] }
  | _ => none }
def bumpNobodyRow : OpenClaim := { program := "ytflkbefiopnigabdoor", sum := "c4d12c90ee4ac455af96a60c8ab963f8ed8fa75dcb58523e7c8f783a2071223d", func := "ullage/ullagelaw16.BumpNobody", spec := "bumpNobody", unfollowed := true, recurses := true, named := ["math/bits.deBruijn64tab"], apart := false, laid := [("math/bits.deBruijn64tab", laid_math_bits_deBruijn64tab)] }
def BumpNobodySaid : Prop := bumpNobodyRow.holds Tryd.pinned (OpenSpec.ofChange bumpNobodySpec)

/-- ITS FALSE NEIGHBOUR: 'it returns false'. Refute it at one input. -/
def bumpNobodyWrong : ChangeSpec := { name := "bumpNobody", fn := fun _ => fun
  | [d1, d2] => { results := [.lit (.bool false)], args := [d1, d2] }
  | _ => none }
def BumpNobodyWrongFalsely : Prop := bumpNobodyRow.holds Tryd.pinned (OpenSpec.ofChange bumpNobodyWrong)

/-- 'ullagelaw15.ObjectBack': WHATEVER THE INPUT: true; the input reads as it did. -/
def objectBackSpec : ChangeSpec := { name := "objectBack", fn := fun _ => fun
  | [d1, d2, d3] => { results := [.lit (.bool true)], args := [d1, d2, d3] }
  | _ => none }
def objectBackRow : OpenClaim := { program := "ytflkbefiopnigabdoor", sum := "c4d12c90ee4ac455af96a60c8ab963f8ed8fa75dcb58523e7c8f783a2071223d", func := "ullage/ullagelaw15.ObjectBack", spec := "objectBack", inPlace := ["math.Float64frombits", "math.Float64bits"], unfollowed := true, recurses := true, named := ["math/bits.deBruijn64tab"], apart := false, laid := [("math/bits.deBruijn64tab", laid_math_bits_deBruijn64tab)] }
def ObjectBackSaid : Prop := objectBackRow.holds Tryd.pinned (OpenSpec.ofChange objectBackSpec)

/-- ITS FALSE NEIGHBOUR: 'it returns false'. Refute it at one input. -/
def objectBackWrong : ChangeSpec := { name := "objectBack", fn := fun _ => fun
  | [d1, d2, d3] => { results := [.lit (.bool false)], args := [d1, d2, d3] }
  | _ => none }
def ObjectBackWrongFalsely : Prop := objectBackRow.holds Tryd.pinned (OpenSpec.ofChange objectBackWrong)

/- THE SECOND FORM. 'bulk': how many values and letters a reading holds, each counted each time it is reached (what is shared counts as often as it is met; a slice's spare places count too). A statement '..UptoSaid' is the law's where the arguments, and the package variables that the reading takes, are together of bulk at most 1048576: NARROWER than '..Said'. Prove '..Said' where nothing that the law and all that it calls make is longer than what came in: it says more and counts as full. Else prove '..UptoSaid'. A law counts once. -/
mutual
def uptoBulk {H : Type} : DataW H → Nat
  | .lit (.string bytes) => bytes.length + 1
  | .lit _ => 1
  | .nil => 1
  | .ptr d => uptoBulk d + 1
  | .slice elems spare => uptoBulkAll elems + uptoBulkAll spare + 1
  | .agg parts => uptoBulkAll parts + 1
  | .iface _ d => uptoBulk d + 1
  | .map entries => uptoBulkEntries entries + 1
  | .held _ => 1
def uptoBulkAll {H : Type} : List (DataW H) → Nat
  | [] => 0
  | d :: r => uptoBulk d + uptoBulkAll r
def uptoBulkEntries {H : Type} : List (Lit × DataW H) → Nat
  | [] => 0
  | x :: r => uptoBulkEntry x + uptoBulkEntries r
def uptoBulkEntry {H : Type} : Lit × DataW H → Nat
  | (.string bytes, d) => bytes.length + uptoBulk d + 1
  | (_, d) => uptoBulk d + 1
 end
def uptoSmall : (H : Type) → List (DataW H) → Bool := fun _ ds => decide (uptoBulkAll ds ≤ 1048576)
def OpenSpec.upto (s : _root_.Go.ChangeSpec) : _root_.Go.OpenSpec := { _root_.Go.OpenSpec.ofChange s with cond := some uptoSmall }

/-- 'ullagelaw09.VmemKeeps', WHERE WHAT IT READS IS OF BULK AT MOST 1048576: true; the input reads as it did. -/
def vmemKeepsUptoRow : OpenClaim := { program := "ytflkbefiopnigabdoor", sum := "c4d12c90ee4ac455af96a60c8ab963f8ed8fa75dcb58523e7c8f783a2071223d", func := "ullage/ullagelaw09.VmemKeeps", spec := "vmemKeeps", unfollowed := true, recurses := true, named := ["math/bits.deBruijn64tab"], apart := false, laid := [("math/bits.deBruijn64tab", laid_math_bits_deBruijn64tab)], narrowed := true }
def VmemKeepsUptoSaid : Prop := vmemKeepsUptoRow.holds Tryd.pinned (OpenSpec.upto vmemKeepsSpec)

/-- 'ullagelaw09.VmemNobody', WHERE WHAT IT READS IS OF BULK AT MOST 1048576: true; the input reads as it did. -/
def vmemNobodyUptoRow : OpenClaim := { program := "ytflkbefiopnigabdoor", sum := "c4d12c90ee4ac455af96a60c8ab963f8ed8fa75dcb58523e7c8f783a2071223d", func := "ullage/ullagelaw09.VmemNobody", spec := "vmemNobody", unfollowed := true, recurses := true, named := ["math/bits.deBruijn64tab"], apart := false, laid := [("math/bits.deBruijn64tab", laid_math_bits_deBruijn64tab)], narrowed := true }
def VmemNobodyUptoSaid : Prop := vmemNobodyUptoRow.holds Tryd.pinned (OpenSpec.upto vmemNobodySpec)

/-- 'ullagelaw16.BumpPlays', WHERE WHAT IT READS IS OF BULK AT MOST 1048576: true; the input reads as it did. -/
def bumpPlaysUptoRow : OpenClaim := { program := "ytflkbefiopnigabdoor", sum := "c4d12c90ee4ac455af96a60c8ab963f8ed8fa75dcb58523e7c8f783a2071223d", func := "ullage/ullagelaw16.BumpPlays", spec := "bumpPlays", unfollowed := true, recurses := true, named := ["math/bits.deBruijn64tab"], apart := false, laid := [("math/bits.deBruijn64tab", laid_math_bits_deBruijn64tab)], narrowed := true }
def BumpPlaysUptoSaid : Prop := bumpPlaysUptoRow.holds Tryd.pinned (OpenSpec.upto bumpPlaysSpec)

/-- 'ullagelaw16.BumpPieces', WHERE WHAT IT READS IS OF BULK AT MOST 1048576: true; the input reads as it did. -/
def bumpPiecesUptoRow : OpenClaim := { program := "ytflkbefiopnigabdoor", sum := "c4d12c90ee4ac455af96a60c8ab963f8ed8fa75dcb58523e7c8f783a2071223d", func := "ullage/ullagelaw16.BumpPieces", spec := "bumpPieces", unfollowed := true, recurses := true, named := ["math/bits.deBruijn64tab"], apart := false, laid := [("math/bits.deBruijn64tab", laid_math_bits_deBruijn64tab)], narrowed := true }
def BumpPiecesUptoSaid : Prop := bumpPiecesUptoRow.holds Tryd.pinned (OpenSpec.upto bumpPiecesSpec)

/-- 'ullagelaw16.BumpNobody', WHERE WHAT IT READS IS OF BULK AT MOST 1048576: true; the input reads as it did. -/
def bumpNobodyUptoRow : OpenClaim := { program := "ytflkbefiopnigabdoor", sum := "c4d12c90ee4ac455af96a60c8ab963f8ed8fa75dcb58523e7c8f783a2071223d", func := "ullage/ullagelaw16.BumpNobody", spec := "bumpNobody", unfollowed := true, recurses := true, named := ["math/bits.deBruijn64tab"], apart := false, laid := [("math/bits.deBruijn64tab", laid_math_bits_deBruijn64tab)], narrowed := true }
def BumpNobodyUptoSaid : Prop := bumpNobodyUptoRow.holds Tryd.pinned (OpenSpec.upto bumpNobodySpec)

/-- 'ullagelaw15.ObjectBack', WHERE WHAT IT READS IS OF BULK AT MOST 1048576: true; the input reads as it did. -/
def objectBackUptoRow : OpenClaim := { program := "ytflkbefiopnigabdoor", sum := "c4d12c90ee4ac455af96a60c8ab963f8ed8fa75dcb58523e7c8f783a2071223d", func := "ullage/ullagelaw15.ObjectBack", spec := "objectBack", inPlace := ["math.Float64frombits", "math.Float64bits"], unfollowed := true, recurses := true, named := ["math/bits.deBruijn64tab"], apart := false, laid := [("math/bits.deBruijn64tab", laid_math_bits_deBruijn64tab)], narrowed := true }
def ObjectBackUptoSaid : Prop := objectBackUptoRow.holds Tryd.pinned (OpenSpec.upto objectBackSpec)

end Rows
end Go.Proofs.YtflkbefiopnigabDoor
