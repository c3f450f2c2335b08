/-
  DERIVED. GIVEN WITH THE SEED: THE CARDS: each row of YtjhppnecadnekaaDoorRows.lean that lists a variable, with what it lists TIED to the program's text (the seventh form; the later family's looks); each row that meets fmt, with fmt's text TOLD by the authors' own Lean function (tested against real Go, not proved from fmt's source: count such statements apart). THE CARD IS WHAT COUNTS. Prove the row's statement (the work); the ties are given (YtjhppnecadnekaaDoorTie.lean); close each card by the builder's one call (the guide's Derived/Test/ToyasCard.lean, 'card_holds'). Laid BY PROGRAM, IN A SANDBOX (cutbox-door.mjs). By AI agents, Wed Nov 11 2026. No macro, syntax, notation, axiom, sorry.
-/
import Derived.Test.YtjhppnecadnekaaDoorRows
import GoSem.ClaimSeven
namespace Go.Proofs.YtjhppnecadnekaaDoor
namespace Rows

/-- THE TIED CARD OF 'arborlaw9.TypingPrograms'. -/
def typingProgramsCard : Claim7 := { stood := { row := typingProgramsRow, standIns := [], harness := (true, "814a60d797474c079826b44177b0622e2113ed3f6a97502dc68b4f959accfbc2"), looks := false }, kinds := [], alts := [], laidByText := true, laidKinds := [.data, .data], laidTests := true, laidLooks := .later }
def TypingProgramsCardSaid : Prop := Claim7.holds Tryd.pinned (.plain (OpenSpec.ofChange typingProgramsSpec)) typingProgramsCard

/-- THE TIED CARD OF 'arborlaw9.TypingJoins'. -/
def typingJoinsCard : Claim7 := { stood := { row := typingJoinsRow, standIns := [], harness := (true, "814a60d797474c079826b44177b0622e2113ed3f6a97502dc68b4f959accfbc2"), looks := false }, kinds := [], alts := [], laidByText := true, laidKinds := [.data, .data], laidTests := true, laidLooks := .later }
def TypingJoinsCardSaid : Prop := Claim7.holds Tryd.pinned (.plain (OpenSpec.ofChange typingJoinsSpec)) typingJoinsCard

/-- THE TIED CARD OF 'arborlaw9.TypingChecks'. -/
def typingChecksCard : Claim7 := { stood := { row := typingChecksRow, standIns := [], harness := (true, "814a60d797474c079826b44177b0622e2113ed3f6a97502dc68b4f959accfbc2"), looks := false }, kinds := [], alts := [], laidByText := true, laidKinds := [.data, .data], laidTests := true, laidLooks := .later }
def TypingChecksCardSaid : Prop := Claim7.holds Tryd.pinned (.plain (OpenSpec.ofChange typingChecksSpec)) typingChecksCard

/-- THE TIED CARD OF 'arborlaw9.TypingNeeds'. -/
def typingNeedsCard : Claim7 := { stood := { row := typingNeedsRow, standIns := [], harness := (true, "814a60d797474c079826b44177b0622e2113ed3f6a97502dc68b4f959accfbc2"), looks := false }, kinds := [], alts := [], laidByText := true, laidKinds := [.data, .data], laidTests := true, laidLooks := .later }
def TypingNeedsCardSaid : Prop := Claim7.holds Tryd.pinned (.plain (OpenSpec.ofChange typingNeedsSpec)) typingNeedsCard

/-- THE TIED CARD OF 'arborlaw9.TypingFields'. -/
def typingFieldsCard : Claim7 := { stood := { row := typingFieldsRow, standIns := [], harness := (true, "814a60d797474c079826b44177b0622e2113ed3f6a97502dc68b4f959accfbc2"), looks := false }, kinds := [], alts := [], laidByText := true, laidKinds := [.data, .data], laidTests := true, laidLooks := .later }
def TypingFieldsCardSaid : Prop := Claim7.holds Tryd.pinned (.plain (OpenSpec.ofChange typingFieldsSpec)) typingFieldsCard

/-- THE SECOND FORM's CARD OF 'arborlaw9.TypingPrograms'. -/
def typingProgramsUptoCard : Claim7 := { stood := { row := typingProgramsUptoRow, standIns := [], harness := (true, "814a60d797474c079826b44177b0622e2113ed3f6a97502dc68b4f959accfbc2"), looks := false }, kinds := [], alts := [], laidByText := true, laidKinds := [.data, .data], laidTests := true, laidLooks := .later }
def TypingProgramsUptoCardSaid : Prop := Claim7.holds Tryd.pinned (.plain (OpenSpec.upto typingProgramsSpec)) typingProgramsUptoCard

/-- THE SECOND FORM's CARD OF 'arborlaw9.TypingJoins'. -/
def typingJoinsUptoCard : Claim7 := { stood := { row := typingJoinsUptoRow, standIns := [], harness := (true, "814a60d797474c079826b44177b0622e2113ed3f6a97502dc68b4f959accfbc2"), looks := false }, kinds := [], alts := [], laidByText := true, laidKinds := [.data, .data], laidTests := true, laidLooks := .later }
def TypingJoinsUptoCardSaid : Prop := Claim7.holds Tryd.pinned (.plain (OpenSpec.upto typingJoinsSpec)) typingJoinsUptoCard

/-- THE SECOND FORM's CARD OF 'arborlaw9.TypingChecks'. -/
def typingChecksUptoCard : Claim7 := { stood := { row := typingChecksUptoRow, standIns := [], harness := (true, "814a60d797474c079826b44177b0622e2113ed3f6a97502dc68b4f959accfbc2"), looks := false }, kinds := [], alts := [], laidByText := true, laidKinds := [.data, .data], laidTests := true, laidLooks := .later }
def TypingChecksUptoCardSaid : Prop := Claim7.holds Tryd.pinned (.plain (OpenSpec.upto typingChecksSpec)) typingChecksUptoCard

/-- THE SECOND FORM's CARD OF 'arborlaw9.TypingNeeds'. -/
def typingNeedsUptoCard : Claim7 := { stood := { row := typingNeedsUptoRow, standIns := [], harness := (true, "814a60d797474c079826b44177b0622e2113ed3f6a97502dc68b4f959accfbc2"), looks := false }, kinds := [], alts := [], laidByText := true, laidKinds := [.data, .data], laidTests := true, laidLooks := .later }
def TypingNeedsUptoCardSaid : Prop := Claim7.holds Tryd.pinned (.plain (OpenSpec.upto typingNeedsSpec)) typingNeedsUptoCard

/-- THE SECOND FORM's CARD OF 'arborlaw9.TypingFields'. -/
def typingFieldsUptoCard : Claim7 := { stood := { row := typingFieldsUptoRow, standIns := [], harness := (true, "814a60d797474c079826b44177b0622e2113ed3f6a97502dc68b4f959accfbc2"), looks := false }, kinds := [], alts := [], laidByText := true, laidKinds := [.data, .data], laidTests := true, laidLooks := .later }
def TypingFieldsUptoCardSaid : Prop := Claim7.holds Tryd.pinned (.plain (OpenSpec.upto typingFieldsSpec)) typingFieldsUptoCard
end Rows
end Go.Proofs.YtjhppnecadnekaaDoor
