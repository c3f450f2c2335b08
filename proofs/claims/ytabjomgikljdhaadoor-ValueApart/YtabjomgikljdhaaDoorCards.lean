/-
  DERIVED. GIVEN WITH THE SEED: THE CARDS: each row of YtabjomgikljdhaaDoorRows.lean that lists a variable, with what it lists TIED to the program's text (the seventh form; the later family's looks); each row that meets fmt, with fmt's text TOLD by the authors' own Lean function (tested against real Go, not proved from fmt's source: count such statements apart). THE CARD IS WHAT COUNTS. Prove the row's statement (the work); the ties are given (YtabjomgikljdhaaDoorTie.lean); close each card by the builder's one call (the guide's Derived/Test/ToyasCard.lean, 'card_holds'). Laid BY PROGRAM, IN A SANDBOX (cutbox-door.mjs). By AI agents, Wed Nov 11 2026. No macro, syntax, notation, axiom, sorry.
-/
import Derived.Test.YtabjomgikljdhaaDoorRows
import GoSem.ClaimSeven
namespace Go.Proofs.YtabjomgikljdhaaDoor
namespace Rows

/-- THE TIED CARD OF 'arborlaw6.ValueOnly'. -/
def valueOnlyCard : Claim7 := { stood := { row := valueOnlyRow, standIns := [], harness := (true, "65e711df70e902d772e1e61aad36ac35f41e2207fd1730c49b4527e20939a4b9"), looks := true }, kinds := [], alts := [], laidByText := true, laidKinds := [.data], laidTests := true, laidLooks := .later }
def ValueOnlyCardSaid : Prop := Claim7.holds Tryd.pinned (.plain (OpenSpec.ofChange valueOnlySpec)) valueOnlyCard

/-- THE TIED CARD OF 'arborlaw6.ValueQuoted'. -/
def valueQuotedCard : Claim7 := { stood := { row := valueQuotedRow, standIns := [], harness := (true, "65e711df70e902d772e1e61aad36ac35f41e2207fd1730c49b4527e20939a4b9"), looks := true }, kinds := [], alts := [], laidByText := true, laidKinds := [.data, .data, .data, .data, .sentinel, .sentinel, .pinned], laidTests := true, laidLooks := .later }
def ValueQuotedCardSaid : Prop := Claim7.holds Tryd.pinned (.plain (OpenSpec.ofChange valueQuotedSpec)) valueQuotedCard

/-- THE TIED CARD OF 'arborlaw6.ValueApart'. -/
def valueApartCard : Claim7 := { stood := { row := valueApartRow, standIns := [], harness := (true, "65e711df70e902d772e1e61aad36ac35f41e2207fd1730c49b4527e20939a4b9"), looks := true }, kinds := [], alts := [], laidByText := true, laidKinds := [.data, .data, .data, .data], laidTests := true, laidLooks := .later }
def ValueApartCardSaid : Prop := Claim7.holds Tryd.pinned (.plain (OpenSpec.ofChange valueApartSpec)) valueApartCard

/-- THE SECOND FORM's CARD OF 'arborlaw6.ValueOnly'. -/
def valueOnlyUptoCard : Claim7 := { stood := { row := valueOnlyUptoRow, standIns := [], harness := (true, "65e711df70e902d772e1e61aad36ac35f41e2207fd1730c49b4527e20939a4b9"), looks := true }, kinds := [], alts := [], laidByText := true, laidKinds := [.data], laidTests := true, laidLooks := .later }
def ValueOnlyUptoCardSaid : Prop := Claim7.holds Tryd.pinned (.plain (OpenSpec.upto valueOnlySpec)) valueOnlyUptoCard

/-- THE SECOND FORM's CARD OF 'arborlaw6.ValueQuoted'. -/
def valueQuotedUptoCard : Claim7 := { stood := { row := valueQuotedUptoRow, standIns := [], harness := (true, "65e711df70e902d772e1e61aad36ac35f41e2207fd1730c49b4527e20939a4b9"), looks := true }, kinds := [], alts := [], laidByText := true, laidKinds := [.data, .data, .data, .data, .sentinel, .sentinel, .pinned], laidTests := true, laidLooks := .later }
def ValueQuotedUptoCardSaid : Prop := Claim7.holds Tryd.pinned (.plain (OpenSpec.upto valueQuotedSpec)) valueQuotedUptoCard

/-- THE SECOND FORM's CARD OF 'arborlaw6.ValueApart'. -/
def valueApartUptoCard : Claim7 := { stood := { row := valueApartUptoRow, standIns := [], harness := (true, "65e711df70e902d772e1e61aad36ac35f41e2207fd1730c49b4527e20939a4b9"), looks := true }, kinds := [], alts := [], laidByText := true, laidKinds := [.data, .data, .data, .data], laidTests := true, laidLooks := .later }
def ValueApartUptoCardSaid : Prop := Claim7.holds Tryd.pinned (.plain (OpenSpec.upto valueApartSpec)) valueApartUptoCard
end Rows
end Go.Proofs.YtabjomgikljdhaaDoor
