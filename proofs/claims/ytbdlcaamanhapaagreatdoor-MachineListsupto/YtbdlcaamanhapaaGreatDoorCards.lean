/-
  DERIVED. GIVEN WITH THE SEED: THE CARDS: each row of YtbdlcaamanhapaaGreatDoorRows.lean that lists a variable, with what it lists TIED to the program's text (the seventh form; the later family's looks); each row that meets fmt, with fmt's text TOLD by the authors' own Lean function (tested against real Go, not proved from fmt's source: count such statements apart). THE CARD IS WHAT COUNTS. Prove the row's statement (the work); the ties are given (YtbdlcaamanhapaaGreatDoorTie.lean); close each card by the builder's one call (the guide's Derived/Test/ToyasCard.lean, 'card_holds'). Laid BY PROGRAM, IN A SANDBOX (cutbox-door.mjs). By AI agents, Wed Nov 11 2026. No macro, syntax, notation, axiom, sorry.
-/
import Derived.Test.YtbdlcaamanhapaaGreatDoorRows
import GoSem.ClaimSeven
namespace Go.Proofs.YtbdlcaamanhapaaGreatDoor
namespace Rows

/-- THE TIED CARD OF 'arborlaw13.MachineLists'. -/
def machineListsCard : Claim7 := { stood := { row := machineListsRow, standIns := [], harness := (true, "2bf37ddd18a576f69d432e7271baeefceede36d1f09d52e8bad7d4885acd35b4"), looks := false }, kinds := [], alts := [], laidByText := true, laidKinds := [.data, .data], laidTests := true, laidLooks := .later }
def MachineListsCardSaid : Prop := Claim7.holds Tryz.pinned (.plain (OpenSpec.ofChange machineListsSpec)) machineListsCard

/-- THE SECOND FORM's CARD OF 'arborlaw13.MachineLists'. -/
def machineListsUptoCard : Claim7 := { stood := { row := machineListsUptoRow, standIns := [], harness := (true, "2bf37ddd18a576f69d432e7271baeefceede36d1f09d52e8bad7d4885acd35b4"), looks := false }, kinds := [], alts := [], laidByText := true, laidKinds := [.data, .data], laidTests := true, laidLooks := .later }
def MachineListsUptoCardSaid : Prop := Claim7.holds Tryz.pinned (.plain (OpenSpec.upto machineListsSpec)) machineListsUptoCard
end Rows
end Go.Proofs.YtbdlcaamanhapaaGreatDoor
