/-
  DERIVED. GIVEN WITH THE SEED: THE CARDS: each row of YtafniangljmjeabDoorRows.lean that lists a variable, with what it lists TIED to the program's text (the seventh form; the later family's looks); each row that meets fmt, with fmt's text TOLD by the authors' own Lean function (tested against real Go, not proved from fmt's source: count such statements apart). THE CARD IS WHAT COUNTS. Prove the row's statement (the work); the ties are given (YtafniangljmjeabDoorTie.lean); close each card by the builder's one call (the guide's Derived/Test/ToyasCard.lean, 'card_holds'). Laid BY PROGRAM, IN A SANDBOX (cutbox-door.mjs). By AI agents, Wed Nov 11 2026. No macro, syntax, notation, axiom, sorry.
-/
import Derived.Test.YtafniangljmjeabDoorRows
import GoSem.ClaimSeven
namespace Go.Proofs.YtafniangljmjeabDoor
namespace Rows

/-- THE TIED CARD OF 'arborlaw11.CodeTypes'. -/
def codeTypesCard : Claim7 := { stood := { row := codeTypesRow, standIns := [], harness := (true, "b0ca7ef6137b180a1def2ae29931d893a28c76845eec7ad8d46e329685d068dc"), looks := false }, kinds := [], alts := [], laidByText := true, laidKinds := [.data, .data], laidTests := true, laidLooks := .later }
def CodeTypesCardSaid : Prop := Claim7.holds Tryd.pinned (.plain (OpenSpec.ofChange codeTypesSpec)) codeTypesCard

/-- THE TIED CARD OF 'arborlaw11.CodeGrows'. -/
def codeGrowsCard : Claim7 := { stood := { row := codeGrowsRow, standIns := [], harness := (true, "b0ca7ef6137b180a1def2ae29931d893a28c76845eec7ad8d46e329685d068dc"), looks := false }, kinds := [], alts := [], laidByText := true, laidKinds := [.data, .data], laidTests := true, laidLooks := .later }
def CodeGrowsCardSaid : Prop := Claim7.holds Tryd.pinned (.plain (OpenSpec.ofChange codeGrowsSpec)) codeGrowsCard

/-- THE TIED CARD OF 'arborlaw11.CodeLists'. -/
def codeListsCard : Claim7 := { stood := { row := codeListsRow, standIns := [], harness := (true, "b0ca7ef6137b180a1def2ae29931d893a28c76845eec7ad8d46e329685d068dc"), looks := false }, kinds := [], alts := [], laidByText := true, laidKinds := [.data, .data, .data, .data, .data, .data], laidTests := true, laidLooks := .later }
def CodeListsCardSaid : Prop := Claim7.holds Tryd.pinned (.plain (OpenSpec.ofChange codeListsSpec)) codeListsCard

/-- THE SECOND FORM's CARD OF 'arborlaw11.CodeTypes'. -/
def codeTypesUptoCard : Claim7 := { stood := { row := codeTypesUptoRow, standIns := [], harness := (true, "b0ca7ef6137b180a1def2ae29931d893a28c76845eec7ad8d46e329685d068dc"), looks := false }, kinds := [], alts := [], laidByText := true, laidKinds := [.data, .data], laidTests := true, laidLooks := .later }
def CodeTypesUptoCardSaid : Prop := Claim7.holds Tryd.pinned (.plain (OpenSpec.upto codeTypesSpec)) codeTypesUptoCard

/-- THE SECOND FORM's CARD OF 'arborlaw11.CodeGrows'. -/
def codeGrowsUptoCard : Claim7 := { stood := { row := codeGrowsUptoRow, standIns := [], harness := (true, "b0ca7ef6137b180a1def2ae29931d893a28c76845eec7ad8d46e329685d068dc"), looks := false }, kinds := [], alts := [], laidByText := true, laidKinds := [.data, .data], laidTests := true, laidLooks := .later }
def CodeGrowsUptoCardSaid : Prop := Claim7.holds Tryd.pinned (.plain (OpenSpec.upto codeGrowsSpec)) codeGrowsUptoCard

/-- THE SECOND FORM's CARD OF 'arborlaw11.CodeLists'. -/
def codeListsUptoCard : Claim7 := { stood := { row := codeListsUptoRow, standIns := [], harness := (true, "b0ca7ef6137b180a1def2ae29931d893a28c76845eec7ad8d46e329685d068dc"), looks := false }, kinds := [], alts := [], laidByText := true, laidKinds := [.data, .data, .data, .data, .data, .data], laidTests := true, laidLooks := .later }
def CodeListsUptoCardSaid : Prop := Claim7.holds Tryd.pinned (.plain (OpenSpec.upto codeListsSpec)) codeListsUptoCard
end Rows
end Go.Proofs.YtafniangljmjeabDoor
