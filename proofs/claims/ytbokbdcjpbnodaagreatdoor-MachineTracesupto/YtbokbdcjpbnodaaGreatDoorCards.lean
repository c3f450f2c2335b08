/-
  DERIVED. GIVEN WITH THE SEED: THE CARDS: each row of YtbokbdcjpbnodaaGreatDoorRows.lean that lists a variable, with what it lists TIED to the program's text (the seventh form; the later family's looks); each row that meets fmt, with fmt's text TOLD by the authors' own Lean function (tested against real Go, not proved from fmt's source: count such statements apart). THE CARD IS WHAT COUNTS. Prove the row's statement (the work); the ties are given (YtbokbdcjpbnodaaGreatDoorTie.lean); close each card by the builder's one call (the guide's Derived/Test/ToyasCard.lean, 'card_holds'). Laid BY PROGRAM, IN A SANDBOX (cutbox-door.mjs). By AI agents, Wed Nov 11 2026. No macro, syntax, notation, axiom, sorry.
-/
import Derived.Test.YtbokbdcjpbnodaaGreatDoorRows
import GoSem.ClaimSeven
namespace Go.Proofs.YtbokbdcjpbnodaaGreatDoor
namespace Rows

/-- THE TIED CARD OF 'arborlaw13.MachineRuns'. -/
def machineRunsCard : Claim7 := { stood := { row := machineRunsRow, standIns := [], harness := (true, "ad18ed6d540d45f2f43928920465f63b246d560455e05a5b98621723b84ec9b4"), looks := false }, kinds := [], alts := [], laidByText := true, laidKinds := [.data, .data], laidTests := true, laidLooks := .later }
def MachineRunsCardSaid : Prop := Claim7.holds Tryz.pinned (.plain (OpenSpec.ofChange machineRunsSpec)) machineRunsCard

/-- THE TIED CARD OF 'arborlaw13.MachineTraces'. -/
def machineTracesCard : Claim7 := { stood := { row := machineTracesRow, standIns := [], harness := (true, "ad18ed6d540d45f2f43928920465f63b246d560455e05a5b98621723b84ec9b4"), looks := false }, kinds := [], alts := [], laidByText := true, laidKinds := [.data, .data], laidTests := true, laidLooks := .later }
def MachineTracesCardSaid : Prop := Claim7.holds Tryz.pinned (.plain (OpenSpec.ofChange machineTracesSpec)) machineTracesCard

/-- THE TIED CARD OF 'arborlaw13.MachineExecs'. -/
def machineExecsCard : Claim7 := { stood := { row := machineExecsRow, standIns := [], harness := (true, "ad18ed6d540d45f2f43928920465f63b246d560455e05a5b98621723b84ec9b4"), looks := false }, kinds := [], alts := [], laidByText := true, laidKinds := [.data, .data], laidTests := true, laidLooks := .later }
def MachineExecsCardSaid : Prop := Claim7.holds Tryz.pinned (.plain (OpenSpec.ofChange machineExecsSpec)) machineExecsCard

/-- THE TIED CARD OF 'arborlaw14.MessageApplies'. -/
def messageAppliesCard : Claim7 := { stood := { row := messageAppliesRow, standIns := [], harness := (true, "ad18ed6d540d45f2f43928920465f63b246d560455e05a5b98621723b84ec9b4"), looks := false }, kinds := [], alts := [], laidByText := true, laidKinds := [.data, .data, .data], laidTests := true, laidLooks := .later }
def MessageAppliesCardSaid : Prop := Claim7.holds Tryz.pinned (.plain (OpenSpec.ofChange messageAppliesSpec)) messageAppliesCard

/-- THE TIED CARD OF 'arborlaw14.MessageForgets'. -/
def messageForgetsCard : Claim7 := { stood := { row := messageForgetsRow, standIns := [], harness := (true, "ad18ed6d540d45f2f43928920465f63b246d560455e05a5b98621723b84ec9b4"), looks := false }, kinds := [], alts := [], laidByText := true, laidKinds := [.data, .data, .data], laidTests := true, laidLooks := .later }
def MessageForgetsCardSaid : Prop := Claim7.holds Tryz.pinned (.plain (OpenSpec.ofChange messageForgetsSpec)) messageForgetsCard

/-- THE TIED CARD OF 'arborlaw14.MessageChains'. -/
def messageChainsCard : Claim7 := { stood := { row := messageChainsRow, standIns := [], harness := (true, "ad18ed6d540d45f2f43928920465f63b246d560455e05a5b98621723b84ec9b4"), looks := false }, kinds := [], alts := [], laidByText := true, laidKinds := [.data, .data, .data], laidTests := true, laidLooks := .later }
def MessageChainsCardSaid : Prop := Claim7.holds Tryz.pinned (.plain (OpenSpec.ofChange messageChainsSpec)) messageChainsCard

/-- THE SECOND FORM's CARD OF 'arborlaw13.MachineRuns'. -/
def machineRunsUptoCard : Claim7 := { stood := { row := machineRunsUptoRow, standIns := [], harness := (true, "ad18ed6d540d45f2f43928920465f63b246d560455e05a5b98621723b84ec9b4"), looks := false }, kinds := [], alts := [], laidByText := true, laidKinds := [.data, .data], laidTests := true, laidLooks := .later }
def MachineRunsUptoCardSaid : Prop := Claim7.holds Tryz.pinned (.plain (OpenSpec.upto machineRunsSpec)) machineRunsUptoCard

/-- THE SECOND FORM's CARD OF 'arborlaw13.MachineTraces'. -/
def machineTracesUptoCard : Claim7 := { stood := { row := machineTracesUptoRow, standIns := [], harness := (true, "ad18ed6d540d45f2f43928920465f63b246d560455e05a5b98621723b84ec9b4"), looks := false }, kinds := [], alts := [], laidByText := true, laidKinds := [.data, .data], laidTests := true, laidLooks := .later }
def MachineTracesUptoCardSaid : Prop := Claim7.holds Tryz.pinned (.plain (OpenSpec.upto machineTracesSpec)) machineTracesUptoCard

/-- THE SECOND FORM's CARD OF 'arborlaw13.MachineExecs'. -/
def machineExecsUptoCard : Claim7 := { stood := { row := machineExecsUptoRow, standIns := [], harness := (true, "ad18ed6d540d45f2f43928920465f63b246d560455e05a5b98621723b84ec9b4"), looks := false }, kinds := [], alts := [], laidByText := true, laidKinds := [.data, .data], laidTests := true, laidLooks := .later }
def MachineExecsUptoCardSaid : Prop := Claim7.holds Tryz.pinned (.plain (OpenSpec.upto machineExecsSpec)) machineExecsUptoCard

/-- THE SECOND FORM's CARD OF 'arborlaw14.MessageApplies'. -/
def messageAppliesUptoCard : Claim7 := { stood := { row := messageAppliesUptoRow, standIns := [], harness := (true, "ad18ed6d540d45f2f43928920465f63b246d560455e05a5b98621723b84ec9b4"), looks := false }, kinds := [], alts := [], laidByText := true, laidKinds := [.data, .data, .data], laidTests := true, laidLooks := .later }
def MessageAppliesUptoCardSaid : Prop := Claim7.holds Tryz.pinned (.plain (OpenSpec.upto messageAppliesSpec)) messageAppliesUptoCard

/-- THE SECOND FORM's CARD OF 'arborlaw14.MessageForgets'. -/
def messageForgetsUptoCard : Claim7 := { stood := { row := messageForgetsUptoRow, standIns := [], harness := (true, "ad18ed6d540d45f2f43928920465f63b246d560455e05a5b98621723b84ec9b4"), looks := false }, kinds := [], alts := [], laidByText := true, laidKinds := [.data, .data, .data], laidTests := true, laidLooks := .later }
def MessageForgetsUptoCardSaid : Prop := Claim7.holds Tryz.pinned (.plain (OpenSpec.upto messageForgetsSpec)) messageForgetsUptoCard

/-- THE SECOND FORM's CARD OF 'arborlaw14.MessageChains'. -/
def messageChainsUptoCard : Claim7 := { stood := { row := messageChainsUptoRow, standIns := [], harness := (true, "ad18ed6d540d45f2f43928920465f63b246d560455e05a5b98621723b84ec9b4"), looks := false }, kinds := [], alts := [], laidByText := true, laidKinds := [.data, .data, .data], laidTests := true, laidLooks := .later }
def MessageChainsUptoCardSaid : Prop := Claim7.holds Tryz.pinned (.plain (OpenSpec.upto messageChainsSpec)) messageChainsUptoCard
end Rows
end Go.Proofs.YtbokbdcjpbnodaaGreatDoor
