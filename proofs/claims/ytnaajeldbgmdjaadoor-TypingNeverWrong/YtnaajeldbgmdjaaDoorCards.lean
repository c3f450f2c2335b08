/-
  DERIVED. GIVEN WITH THE SEED: THE CARDS: each row of YtnaajeldbgmdjaaDoorRows.lean that lists a variable, with what it lists TIED to the program's text (the seventh form; the later family's looks); each row that meets fmt, with fmt's text TOLD by the authors' own Lean function (tested against real Go, not proved from fmt's source: count such statements apart). THE CARD IS WHAT COUNTS. Prove the row's statement (the work); the ties are given (YtnaajeldbgmdjaaDoorTie.lean); close each card by the builder's one call (the guide's Derived/Test/ToyasCard.lean, 'card_holds'). Laid BY PROGRAM, IN A SANDBOX (cutbox-door.mjs). By AI agents, Wed Nov 11 2026. No macro, syntax, notation, axiom, sorry.
-/
import Derived.Test.YtnaajeldbgmdjaaDoorRows
import GoSem.ClaimSeven
namespace Go.Proofs.YtnaajeldbgmdjaaDoor
namespace Rows

/-- THE TIED CARD OF 'arborlaw9.TypingRight'. -/
def typingRightCard : Claim7 := { stood := { row := typingRightRow, standIns := [], harness := (true, "b334ed0b2c90261f74c1e0bd604941f2046c219fe52ddb77fea9ce434bae72b9"), looks := false }, kinds := [], alts := [], laidByText := true, laidKinds := [.data, .data], laidTests := true, laidLooks := .later }
def TypingRightCardSaid : Prop := Claim7.holds Tryd.pinned (.plain (OpenSpec.ofChange typingRightSpec)) typingRightCard

/-- THE TIED CARD OF 'arborlaw9.TypingTypes'. -/
def typingTypesCard : Claim7 := { stood := { row := typingTypesRow, standIns := [], harness := (true, "b334ed0b2c90261f74c1e0bd604941f2046c219fe52ddb77fea9ce434bae72b9"), looks := false }, kinds := [], alts := [], laidByText := true, laidKinds := [.data, .data], laidTests := true, laidLooks := .later }
def TypingTypesCardSaid : Prop := Claim7.holds Tryd.pinned (.plain (OpenSpec.ofChange typingTypesSpec)) typingTypesCard

/-- THE TIED CARD OF 'arborlaw9.TypingNeverWrong'. -/
def typingNeverWrongCard : Claim7 := { stood := { row := typingNeverWrongRow, standIns := [], harness := (true, "b334ed0b2c90261f74c1e0bd604941f2046c219fe52ddb77fea9ce434bae72b9"), looks := false }, kinds := [], alts := [], laidByText := true, laidKinds := [.data, .data], laidTests := true, laidLooks := .later }
def TypingNeverWrongCardSaid : Prop := Claim7.holds Tryd.pinned (.plain (OpenSpec.ofChange typingNeverWrongSpec)) typingNeverWrongCard

/-- THE TIED CARD OF 'arborlaw9.TypingNeeds'. -/
def typingNeedsCard : Claim7 := { stood := { row := typingNeedsRow, standIns := [], harness := (true, "b334ed0b2c90261f74c1e0bd604941f2046c219fe52ddb77fea9ce434bae72b9"), looks := false }, kinds := [], alts := [], laidByText := true, laidKinds := [.data, .data], laidTests := true, laidLooks := .later }
def TypingNeedsCardSaid : Prop := Claim7.holds Tryd.pinned (.plain (OpenSpec.ofChange typingNeedsSpec)) typingNeedsCard

/-- THE TIED CARD OF 'arborlaw9.TypingPrograms'. -/
def typingProgramsCard : Claim7 := { stood := { row := typingProgramsRow, standIns := [], harness := (true, "b334ed0b2c90261f74c1e0bd604941f2046c219fe52ddb77fea9ce434bae72b9"), looks := false }, kinds := [], alts := [], laidByText := true, laidKinds := [.data, .data], laidTests := true, laidLooks := .later }
def TypingProgramsCardSaid : Prop := Claim7.holds Tryd.pinned (.plain (OpenSpec.ofChange typingProgramsSpec)) typingProgramsCard

/-- THE TIED CARD OF 'arborlaw9.TypingJoins'. -/
def typingJoinsCard : Claim7 := { stood := { row := typingJoinsRow, standIns := [], harness := (true, "b334ed0b2c90261f74c1e0bd604941f2046c219fe52ddb77fea9ce434bae72b9"), looks := false }, kinds := [], alts := [], laidByText := true, laidKinds := [.data, .data], laidTests := true, laidLooks := .later }
def TypingJoinsCardSaid : Prop := Claim7.holds Tryd.pinned (.plain (OpenSpec.ofChange typingJoinsSpec)) typingJoinsCard

/-- THE SECOND FORM's CARD OF 'arborlaw9.TypingRight'. -/
def typingRightUptoCard : Claim7 := { stood := { row := typingRightUptoRow, standIns := [], harness := (true, "b334ed0b2c90261f74c1e0bd604941f2046c219fe52ddb77fea9ce434bae72b9"), looks := false }, kinds := [], alts := [], laidByText := true, laidKinds := [.data, .data], laidTests := true, laidLooks := .later }
def TypingRightUptoCardSaid : Prop := Claim7.holds Tryd.pinned (.plain (OpenSpec.upto typingRightSpec)) typingRightUptoCard

/-- THE SECOND FORM's CARD OF 'arborlaw9.TypingTypes'. -/
def typingTypesUptoCard : Claim7 := { stood := { row := typingTypesUptoRow, standIns := [], harness := (true, "b334ed0b2c90261f74c1e0bd604941f2046c219fe52ddb77fea9ce434bae72b9"), looks := false }, kinds := [], alts := [], laidByText := true, laidKinds := [.data, .data], laidTests := true, laidLooks := .later }
def TypingTypesUptoCardSaid : Prop := Claim7.holds Tryd.pinned (.plain (OpenSpec.upto typingTypesSpec)) typingTypesUptoCard

/-- THE SECOND FORM's CARD OF 'arborlaw9.TypingNeverWrong'. -/
def typingNeverWrongUptoCard : Claim7 := { stood := { row := typingNeverWrongUptoRow, standIns := [], harness := (true, "b334ed0b2c90261f74c1e0bd604941f2046c219fe52ddb77fea9ce434bae72b9"), looks := false }, kinds := [], alts := [], laidByText := true, laidKinds := [.data, .data], laidTests := true, laidLooks := .later }
def TypingNeverWrongUptoCardSaid : Prop := Claim7.holds Tryd.pinned (.plain (OpenSpec.upto typingNeverWrongSpec)) typingNeverWrongUptoCard

/-- THE SECOND FORM's CARD OF 'arborlaw9.TypingNeeds'. -/
def typingNeedsUptoCard : Claim7 := { stood := { row := typingNeedsUptoRow, standIns := [], harness := (true, "b334ed0b2c90261f74c1e0bd604941f2046c219fe52ddb77fea9ce434bae72b9"), looks := false }, kinds := [], alts := [], laidByText := true, laidKinds := [.data, .data], laidTests := true, laidLooks := .later }
def TypingNeedsUptoCardSaid : Prop := Claim7.holds Tryd.pinned (.plain (OpenSpec.upto typingNeedsSpec)) typingNeedsUptoCard

/-- THE SECOND FORM's CARD OF 'arborlaw9.TypingPrograms'. -/
def typingProgramsUptoCard : Claim7 := { stood := { row := typingProgramsUptoRow, standIns := [], harness := (true, "b334ed0b2c90261f74c1e0bd604941f2046c219fe52ddb77fea9ce434bae72b9"), looks := false }, kinds := [], alts := [], laidByText := true, laidKinds := [.data, .data], laidTests := true, laidLooks := .later }
def TypingProgramsUptoCardSaid : Prop := Claim7.holds Tryd.pinned (.plain (OpenSpec.upto typingProgramsSpec)) typingProgramsUptoCard

/-- THE SECOND FORM's CARD OF 'arborlaw9.TypingJoins'. -/
def typingJoinsUptoCard : Claim7 := { stood := { row := typingJoinsUptoRow, standIns := [], harness := (true, "b334ed0b2c90261f74c1e0bd604941f2046c219fe52ddb77fea9ce434bae72b9"), looks := false }, kinds := [], alts := [], laidByText := true, laidKinds := [.data, .data], laidTests := true, laidLooks := .later }
def TypingJoinsUptoCardSaid : Prop := Claim7.holds Tryd.pinned (.plain (OpenSpec.upto typingJoinsSpec)) typingJoinsUptoCard
end Rows
end Go.Proofs.YtnaajeldbgmdjaaDoor
