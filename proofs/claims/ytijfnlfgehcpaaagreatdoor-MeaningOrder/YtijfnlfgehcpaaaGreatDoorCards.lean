/-
  DERIVED. GIVEN WITH THE SEED: THE CARDS: each row of YtijfnlfgehcpaaaGreatDoorRows.lean that lists a variable, with what it lists TIED to the program's text (the seventh form; the later family's looks); each row that meets fmt, with fmt's text TOLD by the authors' own Lean function (tested against real Go, not proved from fmt's source: count such statements apart). THE CARD IS WHAT COUNTS. Prove the row's statement (the work); the ties are given (YtijfnlfgehcpaaaGreatDoorTie.lean); close each card by the builder's one call (the guide's Derived/Test/ToyasCard.lean, 'card_holds'). Laid BY PROGRAM, IN A SANDBOX (cutbox-door.mjs). By AI agents, Wed Nov 11 2026. No macro, syntax, notation, axiom, sorry.
-/
import Derived.Test.YtijfnlfgehcpaaaGreatDoorRows
import GoSem.ClaimSeven
namespace Go.Proofs.YtijfnlfgehcpaaaGreatDoor
namespace Rows

/-- THE TIED CARD OF 'arborlaw10.MeaningSound'. -/
def meaningSoundCard : Claim7 := { stood := { row := meaningSoundRow, standIns := [], harness := (true, "7affb48160212873bfb08a82ebf53c5479036e25669237484e6b25d23a60fa64"), looks := false }, kinds := [], alts := [], laidByText := true, laidKinds := [.data, .data], laidTests := true, laidLooks := .later }
def MeaningSoundCardSaid : Prop := Claim7.holds Tryz.pinned (.plain (OpenSpec.ofChange meaningSoundSpec)) meaningSoundCard

/-- THE TIED CARD OF 'arborlaw10.MeaningFrame'. -/
def meaningFrameCard : Claim7 := { stood := { row := meaningFrameRow, standIns := [], harness := (true, "7affb48160212873bfb08a82ebf53c5479036e25669237484e6b25d23a60fa64"), looks := false }, kinds := [], alts := [], laidByText := true, laidKinds := [.data, .data], laidTests := true, laidLooks := .later }
def MeaningFrameCardSaid : Prop := Claim7.holds Tryz.pinned (.plain (OpenSpec.ofChange meaningFrameSpec)) meaningFrameCard

/-- THE TIED CARD OF 'arborlaw10.MeaningBlind'. -/
def meaningBlindCard : Claim7 := { stood := { row := meaningBlindRow, standIns := [], harness := (true, "7affb48160212873bfb08a82ebf53c5479036e25669237484e6b25d23a60fa64"), looks := false }, kinds := [], alts := [], laidByText := true, laidKinds := [.data, .data], laidTests := true, laidLooks := .later }
def MeaningBlindCardSaid : Prop := Claim7.holds Tryz.pinned (.plain (OpenSpec.ofChange meaningBlindSpec)) meaningBlindCard

/-- THE TIED CARD OF 'arborlaw10.MeaningSeq'. -/
def meaningSeqCard : Claim7 := { stood := { row := meaningSeqRow, standIns := [], harness := (true, "7affb48160212873bfb08a82ebf53c5479036e25669237484e6b25d23a60fa64"), looks := false }, kinds := [], alts := [], laidByText := true, laidKinds := [.data, .data], laidTests := true, laidLooks := .later }
def MeaningSeqCardSaid : Prop := Claim7.holds Tryz.pinned (.plain (OpenSpec.ofChange meaningSeqSpec)) meaningSeqCard

/-- THE TIED CARD OF 'arborlaw10.MeaningRing'. -/
def meaningRingCard : Claim7 := { stood := { row := meaningRingRow, standIns := [], harness := (true, "7affb48160212873bfb08a82ebf53c5479036e25669237484e6b25d23a60fa64"), looks := false }, kinds := [], alts := [], laidByText := true, laidKinds := [.data, .data], laidTests := true, laidLooks := .later }
def MeaningRingCardSaid : Prop := Claim7.holds Tryz.pinned (.plain (OpenSpec.ofChange meaningRingSpec)) meaningRingCard

/-- THE TIED CARD OF 'arborlaw10.MeaningOrder'. -/
def meaningOrderCard : Claim7 := { stood := { row := meaningOrderRow, standIns := [], harness := (true, "7affb48160212873bfb08a82ebf53c5479036e25669237484e6b25d23a60fa64"), looks := false }, kinds := [], alts := [], laidByText := true, laidKinds := [.data, .data], laidTests := true, laidLooks := .later }
def MeaningOrderCardSaid : Prop := Claim7.holds Tryz.pinned (.plain (OpenSpec.ofChange meaningOrderSpec)) meaningOrderCard

/-- THE SECOND FORM's CARD OF 'arborlaw10.MeaningSound'. -/
def meaningSoundUptoCard : Claim7 := { stood := { row := meaningSoundUptoRow, standIns := [], harness := (true, "7affb48160212873bfb08a82ebf53c5479036e25669237484e6b25d23a60fa64"), looks := false }, kinds := [], alts := [], laidByText := true, laidKinds := [.data, .data], laidTests := true, laidLooks := .later }
def MeaningSoundUptoCardSaid : Prop := Claim7.holds Tryz.pinned (.plain (OpenSpec.upto meaningSoundSpec)) meaningSoundUptoCard

/-- THE SECOND FORM's CARD OF 'arborlaw10.MeaningFrame'. -/
def meaningFrameUptoCard : Claim7 := { stood := { row := meaningFrameUptoRow, standIns := [], harness := (true, "7affb48160212873bfb08a82ebf53c5479036e25669237484e6b25d23a60fa64"), looks := false }, kinds := [], alts := [], laidByText := true, laidKinds := [.data, .data], laidTests := true, laidLooks := .later }
def MeaningFrameUptoCardSaid : Prop := Claim7.holds Tryz.pinned (.plain (OpenSpec.upto meaningFrameSpec)) meaningFrameUptoCard

/-- THE SECOND FORM's CARD OF 'arborlaw10.MeaningBlind'. -/
def meaningBlindUptoCard : Claim7 := { stood := { row := meaningBlindUptoRow, standIns := [], harness := (true, "7affb48160212873bfb08a82ebf53c5479036e25669237484e6b25d23a60fa64"), looks := false }, kinds := [], alts := [], laidByText := true, laidKinds := [.data, .data], laidTests := true, laidLooks := .later }
def MeaningBlindUptoCardSaid : Prop := Claim7.holds Tryz.pinned (.plain (OpenSpec.upto meaningBlindSpec)) meaningBlindUptoCard

/-- THE SECOND FORM's CARD OF 'arborlaw10.MeaningSeq'. -/
def meaningSeqUptoCard : Claim7 := { stood := { row := meaningSeqUptoRow, standIns := [], harness := (true, "7affb48160212873bfb08a82ebf53c5479036e25669237484e6b25d23a60fa64"), looks := false }, kinds := [], alts := [], laidByText := true, laidKinds := [.data, .data], laidTests := true, laidLooks := .later }
def MeaningSeqUptoCardSaid : Prop := Claim7.holds Tryz.pinned (.plain (OpenSpec.upto meaningSeqSpec)) meaningSeqUptoCard

/-- THE SECOND FORM's CARD OF 'arborlaw10.MeaningRing'. -/
def meaningRingUptoCard : Claim7 := { stood := { row := meaningRingUptoRow, standIns := [], harness := (true, "7affb48160212873bfb08a82ebf53c5479036e25669237484e6b25d23a60fa64"), looks := false }, kinds := [], alts := [], laidByText := true, laidKinds := [.data, .data], laidTests := true, laidLooks := .later }
def MeaningRingUptoCardSaid : Prop := Claim7.holds Tryz.pinned (.plain (OpenSpec.upto meaningRingSpec)) meaningRingUptoCard

/-- THE SECOND FORM's CARD OF 'arborlaw10.MeaningOrder'. -/
def meaningOrderUptoCard : Claim7 := { stood := { row := meaningOrderUptoRow, standIns := [], harness := (true, "7affb48160212873bfb08a82ebf53c5479036e25669237484e6b25d23a60fa64"), looks := false }, kinds := [], alts := [], laidByText := true, laidKinds := [.data, .data], laidTests := true, laidLooks := .later }
def MeaningOrderUptoCardSaid : Prop := Claim7.holds Tryz.pinned (.plain (OpenSpec.upto meaningOrderSpec)) meaningOrderUptoCard
end Rows
end Go.Proofs.YtijfnlfgehcpaaaGreatDoor
