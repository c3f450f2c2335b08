/-
  DERIVED. GIVEN WITH THE SEED: THE CARDS: each row of YtcfnlnceoalnoaaGreatDoorRows.lean that lists a variable, with what it lists TIED to the program's text (the seventh form; the later family's looks); each row that meets fmt, with fmt's text TOLD by the authors' own Lean function (tested against real Go, not proved from fmt's source: count such statements apart). THE CARD IS WHAT COUNTS. Prove the row's statement (the work); the ties are given (YtcfnlnceoalnoaaGreatDoorTie.lean); close each card by the builder's one call (the guide's Derived/Test/ToyasCard.lean, 'card_holds'). Laid BY PROGRAM, IN A SANDBOX (cutbox-door.mjs). By AI agents, Wed Nov 11 2026. No macro, syntax, notation, axiom, sorry.
-/
import Derived.Test.YtcfnlnceoalnoaaGreatDoorRows
import GoSem.ClaimSeven
namespace Go.Proofs.YtcfnlnceoalnoaaGreatDoor
namespace Rows

/-- THE TIED CARD OF 'arborlaw14.MessageEncodes'. -/
def messageEncodesCard : Claim7 := { stood := { row := messageEncodesRow, standIns := [], harness := (true, "4987a8802a68a72a1e1941cb95531ed9a21f0e38b47dec5a210ec8442836d9af"), looks := false }, kinds := [], alts := [], laidByText := true, laidKinds := [.data, .data, .data], laidTests := true, laidLooks := .later }
def MessageEncodesCardSaid : Prop := Claim7.holds Tryz.pinned (.plain (OpenSpec.ofChange messageEncodesSpec)) messageEncodesCard

/-- THE TIED CARD OF 'arborlaw14.MessageRounds'. -/
def messageRoundsCard : Claim7 := { stood := { row := messageRoundsRow, standIns := [], harness := (true, "4987a8802a68a72a1e1941cb95531ed9a21f0e38b47dec5a210ec8442836d9af"), looks := false }, kinds := [], alts := [], laidByText := true, laidKinds := [.data, .data, .data], laidTests := true, laidLooks := .later }
def MessageRoundsCardSaid : Prop := Claim7.holds Tryz.pinned (.plain (OpenSpec.ofChange messageRoundsSpec)) messageRoundsCard

/-- THE TIED CARD OF 'arborlaw14.MessageDecodes'. -/
def messageDecodesCard : Claim7 := { stood := { row := messageDecodesRow, standIns := [], harness := (true, "4987a8802a68a72a1e1941cb95531ed9a21f0e38b47dec5a210ec8442836d9af"), looks := false }, kinds := [], alts := [], laidByText := true, laidKinds := [.data, .data, .data], laidTests := true, laidLooks := .later }
def MessageDecodesCardSaid : Prop := Claim7.holds Tryz.pinned (.plain (OpenSpec.ofChange messageDecodesSpec)) messageDecodesCard

/-- THE TIED CARD OF 'arborlaw14.MessageApplies'. -/
def messageAppliesCard : Claim7 := { stood := { row := messageAppliesRow, standIns := [], harness := (true, "4987a8802a68a72a1e1941cb95531ed9a21f0e38b47dec5a210ec8442836d9af"), looks := false }, kinds := [], alts := [], laidByText := true, laidKinds := [.data, .data, .data], laidTests := true, laidLooks := .later }
def MessageAppliesCardSaid : Prop := Claim7.holds Tryz.pinned (.plain (OpenSpec.ofChange messageAppliesSpec)) messageAppliesCard

/-- THE SECOND FORM's CARD OF 'arborlaw14.MessageEncodes'. -/
def messageEncodesUptoCard : Claim7 := { stood := { row := messageEncodesUptoRow, standIns := [], harness := (true, "4987a8802a68a72a1e1941cb95531ed9a21f0e38b47dec5a210ec8442836d9af"), looks := false }, kinds := [], alts := [], laidByText := true, laidKinds := [.data, .data, .data], laidTests := true, laidLooks := .later }
def MessageEncodesUptoCardSaid : Prop := Claim7.holds Tryz.pinned (.plain (OpenSpec.upto messageEncodesSpec)) messageEncodesUptoCard

/-- THE SECOND FORM's CARD OF 'arborlaw14.MessageRounds'. -/
def messageRoundsUptoCard : Claim7 := { stood := { row := messageRoundsUptoRow, standIns := [], harness := (true, "4987a8802a68a72a1e1941cb95531ed9a21f0e38b47dec5a210ec8442836d9af"), looks := false }, kinds := [], alts := [], laidByText := true, laidKinds := [.data, .data, .data], laidTests := true, laidLooks := .later }
def MessageRoundsUptoCardSaid : Prop := Claim7.holds Tryz.pinned (.plain (OpenSpec.upto messageRoundsSpec)) messageRoundsUptoCard

/-- THE SECOND FORM's CARD OF 'arborlaw14.MessageDecodes'. -/
def messageDecodesUptoCard : Claim7 := { stood := { row := messageDecodesUptoRow, standIns := [], harness := (true, "4987a8802a68a72a1e1941cb95531ed9a21f0e38b47dec5a210ec8442836d9af"), looks := false }, kinds := [], alts := [], laidByText := true, laidKinds := [.data, .data, .data], laidTests := true, laidLooks := .later }
def MessageDecodesUptoCardSaid : Prop := Claim7.holds Tryz.pinned (.plain (OpenSpec.upto messageDecodesSpec)) messageDecodesUptoCard

/-- THE SECOND FORM's CARD OF 'arborlaw14.MessageApplies'. -/
def messageAppliesUptoCard : Claim7 := { stood := { row := messageAppliesUptoRow, standIns := [], harness := (true, "4987a8802a68a72a1e1941cb95531ed9a21f0e38b47dec5a210ec8442836d9af"), looks := false }, kinds := [], alts := [], laidByText := true, laidKinds := [.data, .data, .data], laidTests := true, laidLooks := .later }
def MessageAppliesUptoCardSaid : Prop := Claim7.holds Tryz.pinned (.plain (OpenSpec.upto messageAppliesSpec)) messageAppliesUptoCard
end Rows
end Go.Proofs.YtcfnlnceoalnoaaGreatDoor
