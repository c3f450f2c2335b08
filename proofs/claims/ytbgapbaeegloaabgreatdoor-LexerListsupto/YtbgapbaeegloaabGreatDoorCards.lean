/-
  DERIVED. GIVEN WITH THE SEED: THE CARDS: each row of YtbgapbaeegloaabGreatDoorRows.lean that lists a variable, with what it lists TIED to the program's text (the seventh form; the later family's looks); each row that meets fmt, with fmt's text TOLD by the authors' own Lean function (tested against real Go, not proved from fmt's source: count such statements apart). THE CARD IS WHAT COUNTS. Prove the row's statement (the work); the ties are given (YtbgapbaeegloaabGreatDoorTie.lean); close each card by the builder's one call (the guide's Derived/Test/ToyasCard.lean, 'card_holds'). Laid BY PROGRAM, IN A SANDBOX (cutbox-door.mjs). By AI agents, Wed Nov 11 2026. No macro, syntax, notation, axiom, sorry.
-/
import Derived.Test.YtbgapbaeegloaabGreatDoorRows
import GoSem.ClaimSeven
namespace Go.Proofs.YtbgapbaeegloaabGreatDoor
namespace Rows

/-- THE TIED CARD OF 'arborlaw7.LexerLexes'. -/
def lexerLexesCard : Claim7 := { stood := { row := lexerLexesRow, standIns := [], harness := (true, "a0436185183b4bbc8e891f5c9af52845237ea1bdb9ad40caaea73a04b371b568"), looks := true }, kinds := [], alts := [], laidByText := true, laidKinds := [.data, .data, .data, .data, .sentinel, .sentinel, .pinned], laidTests := true, laidLooks := .later }
def LexerLexesCardSaid : Prop := Claim7.holds Tryz.pinned (.plain (OpenSpec.ofChange lexerLexesSpec)) lexerLexesCard

/-- THE TIED CARD OF 'arborlaw7.LexerLists'. -/
def lexerListsCard : Claim7 := { stood := { row := lexerListsRow, standIns := [], harness := (true, "a0436185183b4bbc8e891f5c9af52845237ea1bdb9ad40caaea73a04b371b568"), looks := true }, kinds := [], alts := [], laidByText := true, laidKinds := [.data, .data, .data, .data, .sentinel, .sentinel, .pinned], laidTests := true, laidLooks := .later }
def LexerListsCardSaid : Prop := Claim7.holds Tryz.pinned (.plain (OpenSpec.ofChange lexerListsSpec)) lexerListsCard

/-- THE SECOND FORM's CARD OF 'arborlaw7.LexerLexes'. -/
def lexerLexesUptoCard : Claim7 := { stood := { row := lexerLexesUptoRow, standIns := [], harness := (true, "a0436185183b4bbc8e891f5c9af52845237ea1bdb9ad40caaea73a04b371b568"), looks := true }, kinds := [], alts := [], laidByText := true, laidKinds := [.data, .data, .data, .data, .sentinel, .sentinel, .pinned], laidTests := true, laidLooks := .later }
def LexerLexesUptoCardSaid : Prop := Claim7.holds Tryz.pinned (.plain (OpenSpec.upto lexerLexesSpec)) lexerLexesUptoCard

/-- THE SECOND FORM's CARD OF 'arborlaw7.LexerLists'. -/
def lexerListsUptoCard : Claim7 := { stood := { row := lexerListsUptoRow, standIns := [], harness := (true, "a0436185183b4bbc8e891f5c9af52845237ea1bdb9ad40caaea73a04b371b568"), looks := true }, kinds := [], alts := [], laidByText := true, laidKinds := [.data, .data, .data, .data, .sentinel, .sentinel, .pinned], laidTests := true, laidLooks := .later }
def LexerListsUptoCardSaid : Prop := Claim7.holds Tryz.pinned (.plain (OpenSpec.upto lexerListsSpec)) lexerListsUptoCard
end Rows
end Go.Proofs.YtbgapbaeegloaabGreatDoor
