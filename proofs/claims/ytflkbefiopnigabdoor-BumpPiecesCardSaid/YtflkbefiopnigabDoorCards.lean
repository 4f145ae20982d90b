/-
  DERIVED. GIVEN WITH THE SEED: THE CARDS: each row of YtflkbefiopnigabDoorRows.lean that lists a variable, with what it lists TIED to the program's text (the seventh form; the later family's looks); each row that meets fmt, with fmt's text TOLD by the authors' own Lean function (tested against real Go, not proved from fmt's source: count such statements apart). THE CARD IS WHAT COUNTS. Prove the row's statement (the work); the ties are given (YtflkbefiopnigabDoorTie.lean); close each card by the builder's one call (the guide's Derived/Test/ToyasCard.lean, 'card_holds'). Laid BY PROGRAM, IN A SANDBOX (cutbox-door.mjs). By AI agents, Wed Nov 11 2026. No macro, syntax, notation, axiom, sorry.
-/
import Derived.Test.YtflkbefiopnigabDoorRows
import GoSem.ClaimSeven
namespace Go.Proofs.YtflkbefiopnigabDoor
namespace Rows

/-- THE TIED CARD OF 'ullagelaw09.VmemKeeps'. -/
def vmemKeepsCard : Claim7 := { stood := { row := vmemKeepsRow, standIns := [], harness := (true, "d7a2aa92ebd94c198afe2249e07f110553cca997aac6bf5fa06894aa76022e49"), looks := true }, kinds := [], alts := [], laidByText := true, laidKinds := [.data], laidTests := true, laidLooks := .later }
def VmemKeepsCardSaid : Prop := Claim7.holds Tryd.pinned (.plain (OpenSpec.ofChange vmemKeepsSpec)) vmemKeepsCard

/-- THE TIED CARD OF 'ullagelaw09.VmemNobody'. -/
def vmemNobodyCard : Claim7 := { stood := { row := vmemNobodyRow, standIns := [], harness := (true, "d7a2aa92ebd94c198afe2249e07f110553cca997aac6bf5fa06894aa76022e49"), looks := true }, kinds := [], alts := [], laidByText := true, laidKinds := [.data], laidTests := true, laidLooks := .later }
def VmemNobodyCardSaid : Prop := Claim7.holds Tryd.pinned (.plain (OpenSpec.ofChange vmemNobodySpec)) vmemNobodyCard

/-- THE TIED CARD OF 'ullagelaw16.BumpPlays'. -/
def bumpPlaysCard : Claim7 := { stood := { row := bumpPlaysRow, standIns := [], harness := (true, "d7a2aa92ebd94c198afe2249e07f110553cca997aac6bf5fa06894aa76022e49"), looks := true }, kinds := [], alts := [], laidByText := true, laidKinds := [.data], laidTests := true, laidLooks := .later }
def BumpPlaysCardSaid : Prop := Claim7.holds Tryd.pinned (.plain (OpenSpec.ofChange bumpPlaysSpec)) bumpPlaysCard

/-- THE TIED CARD OF 'ullagelaw16.BumpPieces'. -/
def bumpPiecesCard : Claim7 := { stood := { row := bumpPiecesRow, standIns := [], harness := (true, "d7a2aa92ebd94c198afe2249e07f110553cca997aac6bf5fa06894aa76022e49"), looks := true }, kinds := [], alts := [], laidByText := true, laidKinds := [.data], laidTests := true, laidLooks := .later }
def BumpPiecesCardSaid : Prop := Claim7.holds Tryd.pinned (.plain (OpenSpec.ofChange bumpPiecesSpec)) bumpPiecesCard

/-- THE TIED CARD OF 'ullagelaw16.BumpNobody'. -/
def bumpNobodyCard : Claim7 := { stood := { row := bumpNobodyRow, standIns := [], harness := (true, "d7a2aa92ebd94c198afe2249e07f110553cca997aac6bf5fa06894aa76022e49"), looks := true }, kinds := [], alts := [], laidByText := true, laidKinds := [.data], laidTests := true, laidLooks := .later }
def BumpNobodyCardSaid : Prop := Claim7.holds Tryd.pinned (.plain (OpenSpec.ofChange bumpNobodySpec)) bumpNobodyCard

/-- THE TIED CARD OF 'ullagelaw15.ObjectBack'. -/
def objectBackCard : Claim7 := { stood := { row := objectBackRow, standIns := [], harness := (true, "d7a2aa92ebd94c198afe2249e07f110553cca997aac6bf5fa06894aa76022e49"), looks := true }, kinds := [], alts := [], laidByText := true, laidKinds := [.data], laidTests := true, laidLooks := .later }
def ObjectBackCardSaid : Prop := Claim7.holds Tryd.pinned (.plain (OpenSpec.ofChange objectBackSpec)) objectBackCard

/-- THE SECOND FORM's CARD OF 'ullagelaw09.VmemKeeps'. -/
def vmemKeepsUptoCard : Claim7 := { stood := { row := vmemKeepsUptoRow, standIns := [], harness := (true, "d7a2aa92ebd94c198afe2249e07f110553cca997aac6bf5fa06894aa76022e49"), looks := true }, kinds := [], alts := [], laidByText := true, laidKinds := [.data], laidTests := true, laidLooks := .later }
def VmemKeepsUptoCardSaid : Prop := Claim7.holds Tryd.pinned (.plain (OpenSpec.upto vmemKeepsSpec)) vmemKeepsUptoCard

/-- THE SECOND FORM's CARD OF 'ullagelaw09.VmemNobody'. -/
def vmemNobodyUptoCard : Claim7 := { stood := { row := vmemNobodyUptoRow, standIns := [], harness := (true, "d7a2aa92ebd94c198afe2249e07f110553cca997aac6bf5fa06894aa76022e49"), looks := true }, kinds := [], alts := [], laidByText := true, laidKinds := [.data], laidTests := true, laidLooks := .later }
def VmemNobodyUptoCardSaid : Prop := Claim7.holds Tryd.pinned (.plain (OpenSpec.upto vmemNobodySpec)) vmemNobodyUptoCard

/-- THE SECOND FORM's CARD OF 'ullagelaw16.BumpPlays'. -/
def bumpPlaysUptoCard : Claim7 := { stood := { row := bumpPlaysUptoRow, standIns := [], harness := (true, "d7a2aa92ebd94c198afe2249e07f110553cca997aac6bf5fa06894aa76022e49"), looks := true }, kinds := [], alts := [], laidByText := true, laidKinds := [.data], laidTests := true, laidLooks := .later }
def BumpPlaysUptoCardSaid : Prop := Claim7.holds Tryd.pinned (.plain (OpenSpec.upto bumpPlaysSpec)) bumpPlaysUptoCard

/-- THE SECOND FORM's CARD OF 'ullagelaw16.BumpPieces'. -/
def bumpPiecesUptoCard : Claim7 := { stood := { row := bumpPiecesUptoRow, standIns := [], harness := (true, "d7a2aa92ebd94c198afe2249e07f110553cca997aac6bf5fa06894aa76022e49"), looks := true }, kinds := [], alts := [], laidByText := true, laidKinds := [.data], laidTests := true, laidLooks := .later }
def BumpPiecesUptoCardSaid : Prop := Claim7.holds Tryd.pinned (.plain (OpenSpec.upto bumpPiecesSpec)) bumpPiecesUptoCard

/-- THE SECOND FORM's CARD OF 'ullagelaw16.BumpNobody'. -/
def bumpNobodyUptoCard : Claim7 := { stood := { row := bumpNobodyUptoRow, standIns := [], harness := (true, "d7a2aa92ebd94c198afe2249e07f110553cca997aac6bf5fa06894aa76022e49"), looks := true }, kinds := [], alts := [], laidByText := true, laidKinds := [.data], laidTests := true, laidLooks := .later }
def BumpNobodyUptoCardSaid : Prop := Claim7.holds Tryd.pinned (.plain (OpenSpec.upto bumpNobodySpec)) bumpNobodyUptoCard

/-- THE SECOND FORM's CARD OF 'ullagelaw15.ObjectBack'. -/
def objectBackUptoCard : Claim7 := { stood := { row := objectBackUptoRow, standIns := [], harness := (true, "d7a2aa92ebd94c198afe2249e07f110553cca997aac6bf5fa06894aa76022e49"), looks := true }, kinds := [], alts := [], laidByText := true, laidKinds := [.data], laidTests := true, laidLooks := .later }
def ObjectBackUptoCardSaid : Prop := Claim7.holds Tryd.pinned (.plain (OpenSpec.upto objectBackSpec)) objectBackUptoCard
end Rows
end Go.Proofs.YtflkbefiopnigabDoor
