/-
  DERIVED. GIVEN WITH THE SEED: THE CARDS: each row of YtoempeobaknkcaaGreatDoorRows.lean that lists a variable, with what it lists TIED to the program's text (the seventh form; the later family's looks); each row that meets fmt, with fmt's text TOLD by the authors' own Lean function (tested against real Go, not proved from fmt's source: count such statements apart). THE CARD IS WHAT COUNTS. Prove the row's statement (the work); the ties are given (YtoempeobaknkcaaGreatDoorTie.lean); close each card by the builder's one call (the guide's Derived/Test/ToyasCard.lean, 'card_holds'). Laid BY PROGRAM, IN A SANDBOX (cutbox-door.mjs). By AI agents, Wed Nov 11 2026. No macro, syntax, notation, axiom, sorry.
-/
import Derived.Test.YtoempeobaknkcaaGreatDoorRows
import GoSem.ClaimSeven
namespace Go.Proofs.YtoempeobaknkcaaGreatDoor
namespace Rows

/-- THE TIED CARD OF 'arborlaw9.TypingLists'. -/
def typingListsCard : Claim7 := { stood := { row := typingListsRow, standIns := [], harness := (true, "007b73e07005e52c5842bc712115c57912924da7e02f26816290db0ce4538327"), looks := false }, kinds := [], alts := [], laidByText := true, laidKinds := [.data, .data], laidTests := true, laidLooks := .later }
def TypingListsCardSaid : Prop := Claim7.holds Tryz.pinned (.plain (OpenSpec.ofChange typingListsSpec)) typingListsCard

/-- THE SECOND FORM's CARD OF 'arborlaw9.TypingLists'. -/
def typingListsUptoCard : Claim7 := { stood := { row := typingListsUptoRow, standIns := [], harness := (true, "007b73e07005e52c5842bc712115c57912924da7e02f26816290db0ce4538327"), looks := false }, kinds := [], alts := [], laidByText := true, laidKinds := [.data, .data], laidTests := true, laidLooks := .later }
def TypingListsUptoCardSaid : Prop := Claim7.holds Tryz.pinned (.plain (OpenSpec.upto typingListsSpec)) typingListsUptoCard
end Rows
end Go.Proofs.YtoempeobaknkcaaGreatDoor
