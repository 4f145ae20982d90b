/-
  DERIVED. GIVEN WITH THE SEED: THE CARDS: each row of YtflkbefiopnigacDoorRows.lean that lists a variable, with what it lists TIED to the program's text (the seventh form; the later family's looks); each row that meets fmt, with fmt's text TOLD by the authors' own Lean function (tested against real Go, not proved from fmt's source: count such statements apart). THE CARD IS WHAT COUNTS. Prove the row's statement (the work); the ties are given (YtflkbefiopnigacDoorTie.lean); close each card by the builder's one call (the guide's Derived/Test/ToyasCard.lean, 'card_holds'). Laid BY PROGRAM, IN A SANDBOX (cutbox-door.mjs). By AI agents, Wed Nov 11 2026. No macro, syntax, notation, axiom, sorry.
-/
import Derived.Test.YtflkbefiopnigacDoorRows
import GoSem.ClaimSeven
namespace Go.Proofs.YtflkbefiopnigacDoor
namespace Rows

/-- THE TIED CARD OF 'ullagelaw11.BitvecPlays'. -/
def bitvecPlaysCard : Claim7 := { stood := { row := bitvecPlaysRow, standIns := [], harness := (true, "ed3770bf5020058362b547635165b29810efd0ea1cb930e81636c784a1957bc1"), looks := false }, kinds := [], alts := [], laidByText := true, laidKinds := [.data], laidTests := true, laidLooks := .later }
def BitvecPlaysCardSaid : Prop := Claim7.holds Tryd.pinned (.plain (OpenSpec.ofChange bitvecPlaysSpec)) bitvecPlaysCard

/-- THE TIED CARD OF 'ullagelaw11.BitvecOnes'. -/
def bitvecOnesCard : Claim7 := { stood := { row := bitvecOnesRow, standIns := [], harness := (true, "ed3770bf5020058362b547635165b29810efd0ea1cb930e81636c784a1957bc1"), looks := false }, kinds := [], alts := [], laidByText := true, laidKinds := [.data], laidTests := true, laidLooks := .later }
def BitvecOnesCardSaid : Prop := Claim7.holds Tryd.pinned (.plain (OpenSpec.ofChange bitvecOnesSpec)) bitvecOnesCard

/-- THE TIED CARD OF 'ullagelaw11.BitvecAdds'. -/
def bitvecAddsCard : Claim7 := { stood := { row := bitvecAddsRow, standIns := [], harness := (true, "ed3770bf5020058362b547635165b29810efd0ea1cb930e81636c784a1957bc1"), looks := false }, kinds := [], alts := [], laidByText := true, laidKinds := [.data], laidTests := true, laidLooks := .later }
def BitvecAddsCardSaid : Prop := Claim7.holds Tryd.pinned (.plain (OpenSpec.ofChange bitvecAddsSpec)) bitvecAddsCard

/-- THE TIED CARD OF 'ullagelaw11.BitvecCopies'. -/
def bitvecCopiesCard : Claim7 := { stood := { row := bitvecCopiesRow, standIns := [], harness := (true, "ed3770bf5020058362b547635165b29810efd0ea1cb930e81636c784a1957bc1"), looks := false }, kinds := [], alts := [], laidByText := true, laidKinds := [.data], laidTests := true, laidLooks := .later }
def BitvecCopiesCardSaid : Prop := Claim7.holds Tryd.pinned (.plain (OpenSpec.ofChange bitvecCopiesSpec)) bitvecCopiesCard

/-- THE TIED CARD OF 'ullagelaw11.BitvecNobody'. -/
def bitvecNobodyCard : Claim7 := { stood := { row := bitvecNobodyRow, standIns := [], harness := (true, "ed3770bf5020058362b547635165b29810efd0ea1cb930e81636c784a1957bc1"), looks := false }, kinds := [], alts := [], laidByText := true, laidKinds := [.data], laidTests := true, laidLooks := .later }
def BitvecNobodyCardSaid : Prop := Claim7.holds Tryd.pinned (.plain (OpenSpec.ofChange bitvecNobodySpec)) bitvecNobodyCard

/-- THE TIED CARD OF 'ullagelaw12.RankNobody'. -/
def rankNobodyCard : Claim7 := { stood := { row := rankNobodyRow, standIns := [], harness := (true, "ed3770bf5020058362b547635165b29810efd0ea1cb930e81636c784a1957bc1"), looks := false }, kinds := [], alts := [], laidByText := true, laidKinds := [.data], laidTests := true, laidLooks := .later }
def RankNobodyCardSaid : Prop := Claim7.holds Tryd.pinned (.plain (OpenSpec.ofChange rankNobodySpec)) rankNobodyCard

/-- THE SECOND FORM's CARD OF 'ullagelaw11.BitvecPlays'. -/
def bitvecPlaysUptoCard : Claim7 := { stood := { row := bitvecPlaysUptoRow, standIns := [], harness := (true, "ed3770bf5020058362b547635165b29810efd0ea1cb930e81636c784a1957bc1"), looks := false }, kinds := [], alts := [], laidByText := true, laidKinds := [.data], laidTests := true, laidLooks := .later }
def BitvecPlaysUptoCardSaid : Prop := Claim7.holds Tryd.pinned (.plain (OpenSpec.upto bitvecPlaysSpec)) bitvecPlaysUptoCard

/-- THE SECOND FORM's CARD OF 'ullagelaw11.BitvecOnes'. -/
def bitvecOnesUptoCard : Claim7 := { stood := { row := bitvecOnesUptoRow, standIns := [], harness := (true, "ed3770bf5020058362b547635165b29810efd0ea1cb930e81636c784a1957bc1"), looks := false }, kinds := [], alts := [], laidByText := true, laidKinds := [.data], laidTests := true, laidLooks := .later }
def BitvecOnesUptoCardSaid : Prop := Claim7.holds Tryd.pinned (.plain (OpenSpec.upto bitvecOnesSpec)) bitvecOnesUptoCard

/-- THE SECOND FORM's CARD OF 'ullagelaw11.BitvecAdds'. -/
def bitvecAddsUptoCard : Claim7 := { stood := { row := bitvecAddsUptoRow, standIns := [], harness := (true, "ed3770bf5020058362b547635165b29810efd0ea1cb930e81636c784a1957bc1"), looks := false }, kinds := [], alts := [], laidByText := true, laidKinds := [.data], laidTests := true, laidLooks := .later }
def BitvecAddsUptoCardSaid : Prop := Claim7.holds Tryd.pinned (.plain (OpenSpec.upto bitvecAddsSpec)) bitvecAddsUptoCard

/-- THE SECOND FORM's CARD OF 'ullagelaw11.BitvecCopies'. -/
def bitvecCopiesUptoCard : Claim7 := { stood := { row := bitvecCopiesUptoRow, standIns := [], harness := (true, "ed3770bf5020058362b547635165b29810efd0ea1cb930e81636c784a1957bc1"), looks := false }, kinds := [], alts := [], laidByText := true, laidKinds := [.data], laidTests := true, laidLooks := .later }
def BitvecCopiesUptoCardSaid : Prop := Claim7.holds Tryd.pinned (.plain (OpenSpec.upto bitvecCopiesSpec)) bitvecCopiesUptoCard

/-- THE SECOND FORM's CARD OF 'ullagelaw11.BitvecNobody'. -/
def bitvecNobodyUptoCard : Claim7 := { stood := { row := bitvecNobodyUptoRow, standIns := [], harness := (true, "ed3770bf5020058362b547635165b29810efd0ea1cb930e81636c784a1957bc1"), looks := false }, kinds := [], alts := [], laidByText := true, laidKinds := [.data], laidTests := true, laidLooks := .later }
def BitvecNobodyUptoCardSaid : Prop := Claim7.holds Tryd.pinned (.plain (OpenSpec.upto bitvecNobodySpec)) bitvecNobodyUptoCard

/-- THE SECOND FORM's CARD OF 'ullagelaw12.RankNobody'. -/
def rankNobodyUptoCard : Claim7 := { stood := { row := rankNobodyUptoRow, standIns := [], harness := (true, "ed3770bf5020058362b547635165b29810efd0ea1cb930e81636c784a1957bc1"), looks := false }, kinds := [], alts := [], laidByText := true, laidKinds := [.data], laidTests := true, laidLooks := .later }
def RankNobodyUptoCardSaid : Prop := Claim7.holds Tryd.pinned (.plain (OpenSpec.upto rankNobodySpec)) rankNobodyUptoCard
end Rows
end Go.Proofs.YtflkbefiopnigacDoor
