/-
  DERIVED. GIVEN WITH THE SEED: THE CARDS: each row of YtonodcmbbgpjjaaDoorRows.lean that lists a variable, with what it lists TIED to the program's text (the seventh form; the later family's looks); each row that meets fmt, with fmt's text TOLD by the authors' own Lean function (tested against real Go, not proved from fmt's source: count such statements apart). THE CARD IS WHAT COUNTS. Prove the row's statement (the work); the ties are given (YtonodcmbbgpjjaaDoorTie.lean); close each card by the builder's one call (the guide's Derived/Test/ToyasCard.lean, 'card_holds'). Laid BY PROGRAM, IN A SANDBOX (cutbox-door.mjs). By AI agents, Wed Nov 11 2026. No macro, syntax, notation, axiom, sorry.
-/
import Derived.Test.YtonodcmbbgpjjaaDoorRows
import GoSem.ClaimSeven
namespace Go.Proofs.YtonodcmbbgpjjaaDoor
namespace Rows

/-- THE TIED CARD OF 'arborlaw13.MachineBounds'. -/
def machineBoundsCard : Claim7 := { stood := { row := machineBoundsRow, standIns := [], harness := (true, "2383c15673808c5b9e096de8fb81950562c395d48ee7386d907a4cf0bf3383bf"), looks := false }, kinds := [], alts := [], laidByText := true, laidKinds := [.data, .data], laidTests := true, laidLooks := .later }
def MachineBoundsCardSaid : Prop := Claim7.holds Tryd.pinned (.plain (OpenSpec.ofChange machineBoundsSpec)) machineBoundsCard

/-- THE TIED CARD OF 'arborlaw13.MachineExec'. -/
def machineExecCard : Claim7 := { stood := { row := machineExecRow, standIns := [], harness := (true, "2383c15673808c5b9e096de8fb81950562c395d48ee7386d907a4cf0bf3383bf"), looks := false }, kinds := [], alts := [], laidByText := true, laidKinds := [.data, .data], laidTests := true, laidLooks := .later }
def MachineExecCardSaid : Prop := Claim7.holds Tryd.pinned (.plain (OpenSpec.ofChange machineExecSpec)) machineExecCard

/-- THE TIED CARD OF 'arborlaw13.MachineUnseen'. -/
def machineUnseenCard : Claim7 := { stood := { row := machineUnseenRow, standIns := [], harness := (true, "2383c15673808c5b9e096de8fb81950562c395d48ee7386d907a4cf0bf3383bf"), looks := false }, kinds := [], alts := [], laidByText := true, laidKinds := [.data, .data], laidTests := true, laidLooks := .later }
def MachineUnseenCardSaid : Prop := Claim7.holds Tryd.pinned (.plain (OpenSpec.ofChange machineUnseenSpec)) machineUnseenCard

/-- THE TIED CARD OF 'arborlaw13.MachineJoins'. -/
def machineJoinsCard : Claim7 := { stood := { row := machineJoinsRow, standIns := [], harness := (true, "2383c15673808c5b9e096de8fb81950562c395d48ee7386d907a4cf0bf3383bf"), looks := false }, kinds := [], alts := [], laidByText := true, laidKinds := [.data, .data], laidTests := true, laidLooks := .later }
def MachineJoinsCardSaid : Prop := Claim7.holds Tryd.pinned (.plain (OpenSpec.ofChange machineJoinsSpec)) machineJoinsCard

/-- THE SECOND FORM's CARD OF 'arborlaw13.MachineBounds'. -/
def machineBoundsUptoCard : Claim7 := { stood := { row := machineBoundsUptoRow, standIns := [], harness := (true, "2383c15673808c5b9e096de8fb81950562c395d48ee7386d907a4cf0bf3383bf"), looks := false }, kinds := [], alts := [], laidByText := true, laidKinds := [.data, .data], laidTests := true, laidLooks := .later }
def MachineBoundsUptoCardSaid : Prop := Claim7.holds Tryd.pinned (.plain (OpenSpec.upto machineBoundsSpec)) machineBoundsUptoCard

/-- THE SECOND FORM's CARD OF 'arborlaw13.MachineExec'. -/
def machineExecUptoCard : Claim7 := { stood := { row := machineExecUptoRow, standIns := [], harness := (true, "2383c15673808c5b9e096de8fb81950562c395d48ee7386d907a4cf0bf3383bf"), looks := false }, kinds := [], alts := [], laidByText := true, laidKinds := [.data, .data], laidTests := true, laidLooks := .later }
def MachineExecUptoCardSaid : Prop := Claim7.holds Tryd.pinned (.plain (OpenSpec.upto machineExecSpec)) machineExecUptoCard

/-- THE SECOND FORM's CARD OF 'arborlaw13.MachineUnseen'. -/
def machineUnseenUptoCard : Claim7 := { stood := { row := machineUnseenUptoRow, standIns := [], harness := (true, "2383c15673808c5b9e096de8fb81950562c395d48ee7386d907a4cf0bf3383bf"), looks := false }, kinds := [], alts := [], laidByText := true, laidKinds := [.data, .data], laidTests := true, laidLooks := .later }
def MachineUnseenUptoCardSaid : Prop := Claim7.holds Tryd.pinned (.plain (OpenSpec.upto machineUnseenSpec)) machineUnseenUptoCard

/-- THE SECOND FORM's CARD OF 'arborlaw13.MachineJoins'. -/
def machineJoinsUptoCard : Claim7 := { stood := { row := machineJoinsUptoRow, standIns := [], harness := (true, "2383c15673808c5b9e096de8fb81950562c395d48ee7386d907a4cf0bf3383bf"), looks := false }, kinds := [], alts := [], laidByText := true, laidKinds := [.data, .data], laidTests := true, laidLooks := .later }
def MachineJoinsUptoCardSaid : Prop := Claim7.holds Tryd.pinned (.plain (OpenSpec.upto machineJoinsSpec)) machineJoinsUptoCard
end Rows
end Go.Proofs.YtonodcmbbgpjjaaDoor
