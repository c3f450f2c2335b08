/-
  DERIVED. GIVEN WITH THE SEED: THE CARDS: each row of YtljoacpaehmbdaaGreatDoorRows.lean that lists a variable, with what it lists TIED to the program's text (the seventh form; the later family's looks); each row that meets fmt, with fmt's text TOLD by the authors' own Lean function (tested against real Go, not proved from fmt's source: count such statements apart). THE CARD IS WHAT COUNTS. Prove the row's statement (the work); the ties are given (YtljoacpaehmbdaaGreatDoorTie.lean); close each card by the builder's one call (the guide's Derived/Test/ToyasCard.lean, 'card_holds'). Laid BY PROGRAM, IN A SANDBOX (cutbox-door.mjs). By AI agents, Wed Nov 11 2026. No macro, syntax, notation, axiom, sorry.
-/
import Derived.Test.YtljoacpaehmbdaaGreatDoorRows
import GoSem.ClaimSeven
namespace Go.Proofs.YtljoacpaehmbdaaGreatDoor
namespace Rows

/-- THE TIED CARD OF 'arborlaw9.TypingCalls'. -/
def typingCallsCard : Claim7 := { stood := { row := typingCallsRow, standIns := [], harness := (true, "4a7c036fd4254faf2805c2761318b8e7bcfc7f5c76e7983bea9e61e503829937"), looks := false }, kinds := [], alts := [], laidByText := true, laidKinds := [.data, .data], laidTests := true, laidLooks := .later }
def TypingCallsCardSaid : Prop := Claim7.holds Tryz.pinned (.plain (OpenSpec.ofChange typingCallsSpec)) typingCallsCard

/-- THE SECOND FORM's CARD OF 'arborlaw9.TypingCalls'. -/
def typingCallsUptoCard : Claim7 := { stood := { row := typingCallsUptoRow, standIns := [], harness := (true, "4a7c036fd4254faf2805c2761318b8e7bcfc7f5c76e7983bea9e61e503829937"), looks := false }, kinds := [], alts := [], laidByText := true, laidKinds := [.data, .data], laidTests := true, laidLooks := .later }
def TypingCallsUptoCardSaid : Prop := Claim7.holds Tryz.pinned (.plain (OpenSpec.upto typingCallsSpec)) typingCallsUptoCard
end Rows
end Go.Proofs.YtljoacpaehmbdaaGreatDoor
