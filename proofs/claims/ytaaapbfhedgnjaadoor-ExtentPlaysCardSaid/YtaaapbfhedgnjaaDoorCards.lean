/-
  DERIVED. GIVEN WITH THE SEED: THE CARDS: each row of YtaaapbfhedgnjaaDoorRows.lean that lists a variable, with what it lists TIED to the program's text (the seventh form; the later family's looks); each row that meets fmt, with fmt's text TOLD by the authors' own Lean function (tested against real Go, not proved from fmt's source: count such statements apart). THE CARD IS WHAT COUNTS. Prove the row's statement (the work); the ties are given (YtaaapbfhedgnjaaDoorTie.lean); close each card by the builder's one call (the guide's Derived/Test/ToyasCard.lean, 'card_holds'). Laid BY PROGRAM, IN A SANDBOX (cutbox-door.mjs). By AI agents, Wed Nov 11 2026. No macro, syntax, notation, axiom, sorry.
-/
import Derived.Test.YtaaapbfhedgnjaaDoorRows
import GoSem.ClaimSeven
namespace Go.Proofs.YtaaapbfhedgnjaaDoor
namespace Rows

/-- THE TIED CARD OF 'ullagelaw12.RankTells'. -/
def rankTellsCard : Claim7 := { stood := { row := rankTellsRow, standIns := [], harness := (true, "78b56e5dd51204ba1a4a7f2f79ca63460f7878576c6e5e53fb48bde44dc311c5"), looks := false }, kinds := [], alts := [], laidByText := true, laidKinds := [.data], laidTests := true, laidLooks := .later }
def RankTellsCardSaid : Prop := Claim7.holds Tryd.pinned (.plain (OpenSpec.ofChange rankTellsSpec)) rankTellsCard

/-- THE TIED CARD OF 'ullagelaw12.RankBack'. -/
def rankBackCard : Claim7 := { stood := { row := rankBackRow, standIns := [], harness := (true, "78b56e5dd51204ba1a4a7f2f79ca63460f7878576c6e5e53fb48bde44dc311c5"), looks := false }, kinds := [], alts := [], laidByText := true, laidKinds := [.data], laidTests := true, laidLooks := .later }
def RankBackCardSaid : Prop := Claim7.holds Tryd.pinned (.plain (OpenSpec.ofChange rankBackSpec)) rankBackCard

/-- THE TIED CARD OF 'ullagelaw12.RankNobody'. -/
def rankNobodyCard : Claim7 := { stood := { row := rankNobodyRow, standIns := [], harness := (true, "78b56e5dd51204ba1a4a7f2f79ca63460f7878576c6e5e53fb48bde44dc311c5"), looks := false }, kinds := [], alts := [], laidByText := true, laidKinds := [.data], laidTests := true, laidLooks := .later }
def RankNobodyCardSaid : Prop := Claim7.holds Tryd.pinned (.plain (OpenSpec.ofChange rankNobodySpec)) rankNobodyCard

/-- THE TIED CARD OF 'ullagelaw13.ExtentPlays'. -/
def extentPlaysCard : Claim7 := { stood := { row := extentPlaysRow, standIns := [], harness := (true, "78b56e5dd51204ba1a4a7f2f79ca63460f7878576c6e5e53fb48bde44dc311c5"), looks := false }, kinds := [], alts := [], laidByText := true, laidKinds := [.data], laidTests := true, laidLooks := .later }
def ExtentPlaysCardSaid : Prop := Claim7.holds Tryd.pinned (.plain (OpenSpec.ofChange extentPlaysSpec)) extentPlaysCard

/-- THE TIED CARD OF 'ullagelaw13.ExtentAdds'. -/
def extentAddsCard : Claim7 := { stood := { row := extentAddsRow, standIns := [], harness := (true, "78b56e5dd51204ba1a4a7f2f79ca63460f7878576c6e5e53fb48bde44dc311c5"), looks := false }, kinds := [], alts := [], laidByText := true, laidKinds := [.data], laidTests := true, laidLooks := .later }
def ExtentAddsCardSaid : Prop := Claim7.holds Tryd.pinned (.plain (OpenSpec.ofChange extentAddsSpec)) extentAddsCard

/-- THE TIED CARD OF 'ullagelaw13.ExtentNobody'. -/
def extentNobodyCard : Claim7 := { stood := { row := extentNobodyRow, standIns := [], harness := (true, "78b56e5dd51204ba1a4a7f2f79ca63460f7878576c6e5e53fb48bde44dc311c5"), looks := false }, kinds := [], alts := [], laidByText := true, laidKinds := [.data], laidTests := true, laidLooks := .later }
def ExtentNobodyCardSaid : Prop := Claim7.holds Tryd.pinned (.plain (OpenSpec.ofChange extentNobodySpec)) extentNobodyCard

/-- THE SECOND FORM's CARD OF 'ullagelaw12.RankTells'. -/
def rankTellsUptoCard : Claim7 := { stood := { row := rankTellsUptoRow, standIns := [], harness := (true, "78b56e5dd51204ba1a4a7f2f79ca63460f7878576c6e5e53fb48bde44dc311c5"), looks := false }, kinds := [], alts := [], laidByText := true, laidKinds := [.data], laidTests := true, laidLooks := .later }
def RankTellsUptoCardSaid : Prop := Claim7.holds Tryd.pinned (.plain (OpenSpec.upto rankTellsSpec)) rankTellsUptoCard

/-- THE SECOND FORM's CARD OF 'ullagelaw12.RankBack'. -/
def rankBackUptoCard : Claim7 := { stood := { row := rankBackUptoRow, standIns := [], harness := (true, "78b56e5dd51204ba1a4a7f2f79ca63460f7878576c6e5e53fb48bde44dc311c5"), looks := false }, kinds := [], alts := [], laidByText := true, laidKinds := [.data], laidTests := true, laidLooks := .later }
def RankBackUptoCardSaid : Prop := Claim7.holds Tryd.pinned (.plain (OpenSpec.upto rankBackSpec)) rankBackUptoCard

/-- THE SECOND FORM's CARD OF 'ullagelaw12.RankNobody'. -/
def rankNobodyUptoCard : Claim7 := { stood := { row := rankNobodyUptoRow, standIns := [], harness := (true, "78b56e5dd51204ba1a4a7f2f79ca63460f7878576c6e5e53fb48bde44dc311c5"), looks := false }, kinds := [], alts := [], laidByText := true, laidKinds := [.data], laidTests := true, laidLooks := .later }
def RankNobodyUptoCardSaid : Prop := Claim7.holds Tryd.pinned (.plain (OpenSpec.upto rankNobodySpec)) rankNobodyUptoCard

/-- THE SECOND FORM's CARD OF 'ullagelaw13.ExtentPlays'. -/
def extentPlaysUptoCard : Claim7 := { stood := { row := extentPlaysUptoRow, standIns := [], harness := (true, "78b56e5dd51204ba1a4a7f2f79ca63460f7878576c6e5e53fb48bde44dc311c5"), looks := false }, kinds := [], alts := [], laidByText := true, laidKinds := [.data], laidTests := true, laidLooks := .later }
def ExtentPlaysUptoCardSaid : Prop := Claim7.holds Tryd.pinned (.plain (OpenSpec.upto extentPlaysSpec)) extentPlaysUptoCard

/-- THE SECOND FORM's CARD OF 'ullagelaw13.ExtentAdds'. -/
def extentAddsUptoCard : Claim7 := { stood := { row := extentAddsUptoRow, standIns := [], harness := (true, "78b56e5dd51204ba1a4a7f2f79ca63460f7878576c6e5e53fb48bde44dc311c5"), looks := false }, kinds := [], alts := [], laidByText := true, laidKinds := [.data], laidTests := true, laidLooks := .later }
def ExtentAddsUptoCardSaid : Prop := Claim7.holds Tryd.pinned (.plain (OpenSpec.upto extentAddsSpec)) extentAddsUptoCard

/-- THE SECOND FORM's CARD OF 'ullagelaw13.ExtentNobody'. -/
def extentNobodyUptoCard : Claim7 := { stood := { row := extentNobodyUptoRow, standIns := [], harness := (true, "78b56e5dd51204ba1a4a7f2f79ca63460f7878576c6e5e53fb48bde44dc311c5"), looks := false }, kinds := [], alts := [], laidByText := true, laidKinds := [.data], laidTests := true, laidLooks := .later }
def ExtentNobodyUptoCardSaid : Prop := Claim7.holds Tryd.pinned (.plain (OpenSpec.upto extentNobodySpec)) extentNobodyUptoCard
end Rows
end Go.Proofs.YtaaapbfhedgnjaaDoor
