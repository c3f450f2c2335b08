/-
  DERIVED. GIVEN WITH THE SEED: THE CARDS: each row of YtafniangljmjeaaDoorRows.lean that lists a variable, with what it lists TIED to the program's text (the seventh form; the later family's looks); each row that meets fmt, with fmt's text TOLD by the authors' own Lean function (tested against real Go, not proved from fmt's source: count such statements apart). THE CARD IS WHAT COUNTS. Prove the row's statement (the work); the ties are given (YtafniangljmjeaaDoorTie.lean); close each card by the builder's one call (the guide's Derived/Test/ToyasCard.lean, 'card_holds'). Laid BY PROGRAM, IN A SANDBOX (cutbox-door.mjs). By AI agents, Wed Nov 11 2026. No macro, syntax, notation, axiom, sorry.
-/
import Derived.Test.YtafniangljmjeaaDoorRows
import GoSem.ClaimSeven
namespace Go.Proofs.YtafniangljmjeaaDoor
namespace Rows

/-- THE TIED CARD OF 'arborlaw11.CodeEncodes'. -/
def codeEncodesCard : Claim7 := { stood := { row := codeEncodesRow, standIns := [], harness := (true, "de55c7828a95427a7affd8dc2df7fe1f55fcf2d9955eba50e7ae66005d26700a"), looks := false }, kinds := [], alts := [], laidByText := true, laidKinds := [.data, .data], laidTests := true, laidLooks := .later }
def CodeEncodesCardSaid : Prop := Claim7.holds Tryd.pinned (.plain (OpenSpec.ofChange codeEncodesSpec)) codeEncodesCard

/-- THE TIED CARD OF 'arborlaw11.CodeParts'. -/
def codePartsCard : Claim7 := { stood := { row := codePartsRow, standIns := [], harness := (true, "de55c7828a95427a7affd8dc2df7fe1f55fcf2d9955eba50e7ae66005d26700a"), looks := false }, kinds := [], alts := [], laidByText := true, laidKinds := [.data, .data], laidTests := true, laidLooks := .later }
def CodePartsCardSaid : Prop := Claim7.holds Tryd.pinned (.plain (OpenSpec.ofChange codePartsSpec)) codePartsCard

/-- THE TIED CARD OF 'arborlaw11.CodeDecodes'. -/
def codeDecodesCard : Claim7 := { stood := { row := codeDecodesRow, standIns := [], harness := (true, "de55c7828a95427a7affd8dc2df7fe1f55fcf2d9955eba50e7ae66005d26700a"), looks := false }, kinds := [], alts := [], laidByText := true, laidKinds := [.data, .data], laidTests := true, laidLooks := .later }
def CodeDecodesCardSaid : Prop := Claim7.holds Tryd.pinned (.plain (OpenSpec.ofChange codeDecodesSpec)) codeDecodesCard

/-- THE TIED CARD OF 'arborlaw11.CodeRounds'. -/
def codeRoundsCard : Claim7 := { stood := { row := codeRoundsRow, standIns := [], harness := (true, "de55c7828a95427a7affd8dc2df7fe1f55fcf2d9955eba50e7ae66005d26700a"), looks := false }, kinds := [], alts := [], laidByText := true, laidKinds := [.data, .data], laidTests := true, laidLooks := .later }
def CodeRoundsCardSaid : Prop := Claim7.holds Tryd.pinned (.plain (OpenSpec.ofChange codeRoundsSpec)) codeRoundsCard

/-- THE TIED CARD OF 'arborlaw11.CodeVerifies'. -/
def codeVerifiesCard : Claim7 := { stood := { row := codeVerifiesRow, standIns := [], harness := (true, "de55c7828a95427a7affd8dc2df7fe1f55fcf2d9955eba50e7ae66005d26700a"), looks := false }, kinds := [], alts := [], laidByText := true, laidKinds := [.data, .data], laidTests := true, laidLooks := .later }
def CodeVerifiesCardSaid : Prop := Claim7.holds Tryd.pinned (.plain (OpenSpec.ofChange codeVerifiesSpec)) codeVerifiesCard

/-- THE TIED CARD OF 'arborlaw11.CodePaths'. -/
def codePathsCard : Claim7 := { stood := { row := codePathsRow, standIns := [], harness := (true, "de55c7828a95427a7affd8dc2df7fe1f55fcf2d9955eba50e7ae66005d26700a"), looks := false }, kinds := [], alts := [], laidByText := true, laidKinds := [.data, .data], laidTests := true, laidLooks := .later }
def CodePathsCardSaid : Prop := Claim7.holds Tryd.pinned (.plain (OpenSpec.ofChange codePathsSpec)) codePathsCard

/-- THE SECOND FORM's CARD OF 'arborlaw11.CodeEncodes'. -/
def codeEncodesUptoCard : Claim7 := { stood := { row := codeEncodesUptoRow, standIns := [], harness := (true, "de55c7828a95427a7affd8dc2df7fe1f55fcf2d9955eba50e7ae66005d26700a"), looks := false }, kinds := [], alts := [], laidByText := true, laidKinds := [.data, .data], laidTests := true, laidLooks := .later }
def CodeEncodesUptoCardSaid : Prop := Claim7.holds Tryd.pinned (.plain (OpenSpec.upto codeEncodesSpec)) codeEncodesUptoCard

/-- THE SECOND FORM's CARD OF 'arborlaw11.CodeParts'. -/
def codePartsUptoCard : Claim7 := { stood := { row := codePartsUptoRow, standIns := [], harness := (true, "de55c7828a95427a7affd8dc2df7fe1f55fcf2d9955eba50e7ae66005d26700a"), looks := false }, kinds := [], alts := [], laidByText := true, laidKinds := [.data, .data], laidTests := true, laidLooks := .later }
def CodePartsUptoCardSaid : Prop := Claim7.holds Tryd.pinned (.plain (OpenSpec.upto codePartsSpec)) codePartsUptoCard

/-- THE SECOND FORM's CARD OF 'arborlaw11.CodeDecodes'. -/
def codeDecodesUptoCard : Claim7 := { stood := { row := codeDecodesUptoRow, standIns := [], harness := (true, "de55c7828a95427a7affd8dc2df7fe1f55fcf2d9955eba50e7ae66005d26700a"), looks := false }, kinds := [], alts := [], laidByText := true, laidKinds := [.data, .data], laidTests := true, laidLooks := .later }
def CodeDecodesUptoCardSaid : Prop := Claim7.holds Tryd.pinned (.plain (OpenSpec.upto codeDecodesSpec)) codeDecodesUptoCard

/-- THE SECOND FORM's CARD OF 'arborlaw11.CodeRounds'. -/
def codeRoundsUptoCard : Claim7 := { stood := { row := codeRoundsUptoRow, standIns := [], harness := (true, "de55c7828a95427a7affd8dc2df7fe1f55fcf2d9955eba50e7ae66005d26700a"), looks := false }, kinds := [], alts := [], laidByText := true, laidKinds := [.data, .data], laidTests := true, laidLooks := .later }
def CodeRoundsUptoCardSaid : Prop := Claim7.holds Tryd.pinned (.plain (OpenSpec.upto codeRoundsSpec)) codeRoundsUptoCard

/-- THE SECOND FORM's CARD OF 'arborlaw11.CodeVerifies'. -/
def codeVerifiesUptoCard : Claim7 := { stood := { row := codeVerifiesUptoRow, standIns := [], harness := (true, "de55c7828a95427a7affd8dc2df7fe1f55fcf2d9955eba50e7ae66005d26700a"), looks := false }, kinds := [], alts := [], laidByText := true, laidKinds := [.data, .data], laidTests := true, laidLooks := .later }
def CodeVerifiesUptoCardSaid : Prop := Claim7.holds Tryd.pinned (.plain (OpenSpec.upto codeVerifiesSpec)) codeVerifiesUptoCard

/-- THE SECOND FORM's CARD OF 'arborlaw11.CodePaths'. -/
def codePathsUptoCard : Claim7 := { stood := { row := codePathsUptoRow, standIns := [], harness := (true, "de55c7828a95427a7affd8dc2df7fe1f55fcf2d9955eba50e7ae66005d26700a"), looks := false }, kinds := [], alts := [], laidByText := true, laidKinds := [.data, .data], laidTests := true, laidLooks := .later }
def CodePathsUptoCardSaid : Prop := Claim7.holds Tryd.pinned (.plain (OpenSpec.upto codePathsSpec)) codePathsUptoCard
end Rows
end Go.Proofs.YtafniangljmjeaaDoor
