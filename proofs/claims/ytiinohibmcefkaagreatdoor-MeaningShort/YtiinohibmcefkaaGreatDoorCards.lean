/-
  DERIVED. GIVEN WITH THE SEED: THE CARDS: each row of YtiinohibmcefkaaGreatDoorRows.lean that lists a variable, with what it lists TIED to the program's text (the seventh form; the later family's looks); each row that meets fmt, with fmt's text TOLD by the authors' own Lean function (tested against real Go, not proved from fmt's source: count such statements apart). THE CARD IS WHAT COUNTS. Prove the row's statement (the work); the ties are given (YtiinohibmcefkaaGreatDoorTie.lean); close each card by the builder's one call (the guide's Derived/Test/ToyasCard.lean, 'card_holds'). Laid BY PROGRAM, IN A SANDBOX (cutbox-door.mjs). By AI agents, Wed Nov 11 2026. No macro, syntax, notation, axiom, sorry.
-/
import Derived.Test.YtiinohibmcefkaaGreatDoorRows
import GoSem.ClaimSeven
namespace Go.Proofs.YtiinohibmcefkaaGreatDoor
namespace Rows

/-- THE TIED CARD OF 'arborlaw10.MeaningIf'. -/
def meaningIfCard : Claim7 := { stood := { row := meaningIfRow, standIns := [], harness := (true, "be5a60a968e49a1d554e7d4d5b87d6a4e073b9b674c90dd913b129bfe4fa15ce"), looks := false }, kinds := [], alts := [], laidByText := true, laidKinds := [.data, .data], laidTests := true, laidLooks := .later }
def MeaningIfCardSaid : Prop := Claim7.holds Tryz.pinned (.plain (OpenSpec.ofChange meaningIfSpec)) meaningIfCard

/-- THE TIED CARD OF 'arborlaw10.MeaningShort'. -/
def meaningShortCard : Claim7 := { stood := { row := meaningShortRow, standIns := [], harness := (true, "be5a60a968e49a1d554e7d4d5b87d6a4e073b9b674c90dd913b129bfe4fa15ce"), looks := false }, kinds := [], alts := [], laidByText := true, laidKinds := [.data, .data], laidTests := true, laidLooks := .later }
def MeaningShortCardSaid : Prop := Claim7.holds Tryz.pinned (.plain (OpenSpec.ofChange meaningShortSpec)) meaningShortCard

/-- THE TIED CARD OF 'arborlaw10.MeaningValues'. -/
def meaningValuesCard : Claim7 := { stood := { row := meaningValuesRow, standIns := [], harness := (true, "be5a60a968e49a1d554e7d4d5b87d6a4e073b9b674c90dd913b129bfe4fa15ce"), looks := false }, kinds := [], alts := [], laidByText := true, laidKinds := [.data, .data], laidTests := true, laidLooks := .later }
def MeaningValuesCardSaid : Prop := Claim7.holds Tryz.pinned (.plain (OpenSpec.ofChange meaningValuesSpec)) meaningValuesCard

/-- THE TIED CARD OF 'arborlaw10.MeaningRuns'. -/
def meaningRunsCard : Claim7 := { stood := { row := meaningRunsRow, standIns := [], harness := (true, "be5a60a968e49a1d554e7d4d5b87d6a4e073b9b674c90dd913b129bfe4fa15ce"), looks := false }, kinds := [], alts := [], laidByText := true, laidKinds := [.data, .data], laidTests := true, laidLooks := .later }
def MeaningRunsCardSaid : Prop := Claim7.holds Tryz.pinned (.plain (OpenSpec.ofChange meaningRunsSpec)) meaningRunsCard

/-- THE TIED CARD OF 'arborlaw10.MeaningChains'. -/
def meaningChainsCard : Claim7 := { stood := { row := meaningChainsRow, standIns := [], harness := (true, "be5a60a968e49a1d554e7d4d5b87d6a4e073b9b674c90dd913b129bfe4fa15ce"), looks := false }, kinds := [], alts := [], laidByText := true, laidKinds := [.data, .data], laidTests := true, laidLooks := .later }
def MeaningChainsCardSaid : Prop := Claim7.holds Tryz.pinned (.plain (OpenSpec.ofChange meaningChainsSpec)) meaningChainsCard

/-- THE TIED CARD OF 'arborlaw10.MeaningLists'. -/
def meaningListsCard : Claim7 := { stood := { row := meaningListsRow, standIns := [], harness := (true, "be5a60a968e49a1d554e7d4d5b87d6a4e073b9b674c90dd913b129bfe4fa15ce"), looks := false }, kinds := [], alts := [], laidByText := true, laidKinds := [.data, .data], laidTests := true, laidLooks := .later }
def MeaningListsCardSaid : Prop := Claim7.holds Tryz.pinned (.plain (OpenSpec.ofChange meaningListsSpec)) meaningListsCard

/-- THE SECOND FORM's CARD OF 'arborlaw10.MeaningIf'. -/
def meaningIfUptoCard : Claim7 := { stood := { row := meaningIfUptoRow, standIns := [], harness := (true, "be5a60a968e49a1d554e7d4d5b87d6a4e073b9b674c90dd913b129bfe4fa15ce"), looks := false }, kinds := [], alts := [], laidByText := true, laidKinds := [.data, .data], laidTests := true, laidLooks := .later }
def MeaningIfUptoCardSaid : Prop := Claim7.holds Tryz.pinned (.plain (OpenSpec.upto meaningIfSpec)) meaningIfUptoCard

/-- THE SECOND FORM's CARD OF 'arborlaw10.MeaningShort'. -/
def meaningShortUptoCard : Claim7 := { stood := { row := meaningShortUptoRow, standIns := [], harness := (true, "be5a60a968e49a1d554e7d4d5b87d6a4e073b9b674c90dd913b129bfe4fa15ce"), looks := false }, kinds := [], alts := [], laidByText := true, laidKinds := [.data, .data], laidTests := true, laidLooks := .later }
def MeaningShortUptoCardSaid : Prop := Claim7.holds Tryz.pinned (.plain (OpenSpec.upto meaningShortSpec)) meaningShortUptoCard

/-- THE SECOND FORM's CARD OF 'arborlaw10.MeaningValues'. -/
def meaningValuesUptoCard : Claim7 := { stood := { row := meaningValuesUptoRow, standIns := [], harness := (true, "be5a60a968e49a1d554e7d4d5b87d6a4e073b9b674c90dd913b129bfe4fa15ce"), looks := false }, kinds := [], alts := [], laidByText := true, laidKinds := [.data, .data], laidTests := true, laidLooks := .later }
def MeaningValuesUptoCardSaid : Prop := Claim7.holds Tryz.pinned (.plain (OpenSpec.upto meaningValuesSpec)) meaningValuesUptoCard

/-- THE SECOND FORM's CARD OF 'arborlaw10.MeaningRuns'. -/
def meaningRunsUptoCard : Claim7 := { stood := { row := meaningRunsUptoRow, standIns := [], harness := (true, "be5a60a968e49a1d554e7d4d5b87d6a4e073b9b674c90dd913b129bfe4fa15ce"), looks := false }, kinds := [], alts := [], laidByText := true, laidKinds := [.data, .data], laidTests := true, laidLooks := .later }
def MeaningRunsUptoCardSaid : Prop := Claim7.holds Tryz.pinned (.plain (OpenSpec.upto meaningRunsSpec)) meaningRunsUptoCard

/-- THE SECOND FORM's CARD OF 'arborlaw10.MeaningChains'. -/
def meaningChainsUptoCard : Claim7 := { stood := { row := meaningChainsUptoRow, standIns := [], harness := (true, "be5a60a968e49a1d554e7d4d5b87d6a4e073b9b674c90dd913b129bfe4fa15ce"), looks := false }, kinds := [], alts := [], laidByText := true, laidKinds := [.data, .data], laidTests := true, laidLooks := .later }
def MeaningChainsUptoCardSaid : Prop := Claim7.holds Tryz.pinned (.plain (OpenSpec.upto meaningChainsSpec)) meaningChainsUptoCard

/-- THE SECOND FORM's CARD OF 'arborlaw10.MeaningLists'. -/
def meaningListsUptoCard : Claim7 := { stood := { row := meaningListsUptoRow, standIns := [], harness := (true, "be5a60a968e49a1d554e7d4d5b87d6a4e073b9b674c90dd913b129bfe4fa15ce"), looks := false }, kinds := [], alts := [], laidByText := true, laidKinds := [.data, .data], laidTests := true, laidLooks := .later }
def MeaningListsUptoCardSaid : Prop := Claim7.holds Tryz.pinned (.plain (OpenSpec.upto meaningListsSpec)) meaningListsUptoCard
end Rows
end Go.Proofs.YtiinohibmcefkaaGreatDoor
