/-
  DERIVED. GIVEN WITH THE SEED: THE CARDS: each row of YtbgapbaeegloaaaDoorRows.lean that lists a variable, with what it lists TIED to the program's text (the seventh form; the later family's looks); each row that meets fmt, with fmt's text TOLD by the authors' own Lean function (tested against real Go, not proved from fmt's source: count such statements apart). THE CARD IS WHAT COUNTS. Prove the row's statement (the work); the ties are given (YtbgapbaeegloaaaDoorTie.lean); close each card by the builder's one call (the guide's Derived/Test/ToyasCard.lean, 'card_holds'). Laid BY PROGRAM, IN A SANDBOX (cutbox-door.mjs). By AI agents, Wed Nov 11 2026. No macro, syntax, notation, axiom, sorry.
-/
import Derived.Test.YtbgapbaeegloaaaDoorRows
import GoSem.ClaimSeven
namespace Go.Proofs.YtbgapbaeegloaaaDoor
namespace Rows

/-- THE TIED CARD OF 'arborlaw7.LexerJoins'. -/
def lexerJoinsCard : Claim7 := { stood := { row := lexerJoinsRow, standIns := [], harness := (true, "7a0afe7eaf431aad6f77432d8ffb297e72bb5d1e8b2fdac4257deeb140647a3b"), looks := true }, kinds := [], alts := [], laidByText := true, laidKinds := [.data, .data, .data], laidTests := true, laidLooks := .later }
def LexerJoinsCardSaid : Prop := Claim7.holds Tryd.pinned (.plain (OpenSpec.ofChange lexerJoinsSpec)) lexerJoinsCard

/-- THE TIED CARD OF 'arborlaw7.LexerBlames'. -/
def lexerBlamesCard : Claim7 := { stood := { row := lexerBlamesRow, standIns := [], harness := (true, "7a0afe7eaf431aad6f77432d8ffb297e72bb5d1e8b2fdac4257deeb140647a3b"), looks := true }, kinds := [], alts := [], laidByText := true, laidKinds := [.data, .data, .data, .data, .sentinel, .sentinel, .pinned], laidTests := true, laidLooks := .later }
def LexerBlamesCardSaid : Prop := Claim7.holds Tryd.pinned (.plain (OpenSpec.ofChange lexerBlamesSpec)) lexerBlamesCard

/-- THE TIED CARD OF 'arborlaw7.LexerPieces'. -/
def lexerPiecesCard : Claim7 := { stood := { row := lexerPiecesRow, standIns := [], harness := (true, "7a0afe7eaf431aad6f77432d8ffb297e72bb5d1e8b2fdac4257deeb140647a3b"), looks := true }, kinds := [], alts := [], laidByText := true, laidKinds := [.data, .data, .data, .data, .sentinel, .sentinel, .pinned], laidTests := true, laidLooks := .later }
def LexerPiecesCardSaid : Prop := Claim7.holds Tryd.pinned (.plain (OpenSpec.ofChange lexerPiecesSpec)) lexerPiecesCard

/-- THE TIED CARD OF 'arborlaw7.LexerRounds'. -/
def lexerRoundsCard : Claim7 := { stood := { row := lexerRoundsRow, standIns := [], harness := (true, "7a0afe7eaf431aad6f77432d8ffb297e72bb5d1e8b2fdac4257deeb140647a3b"), looks := true }, kinds := [], alts := [], laidByText := true, laidKinds := [.data, .data, .data, .data, .sentinel, .sentinel, .pinned], laidTests := true, laidLooks := .later }
def LexerRoundsCardSaid : Prop := Claim7.holds Tryd.pinned (.plain (OpenSpec.ofChange lexerRoundsSpec)) lexerRoundsCard

/-- THE TIED CARD OF 'arborlaw7.LexerGaps'. -/
def lexerGapsCard : Claim7 := { stood := { row := lexerGapsRow, standIns := [], harness := (true, "7a0afe7eaf431aad6f77432d8ffb297e72bb5d1e8b2fdac4257deeb140647a3b"), looks := true }, kinds := [], alts := [], laidByText := true, laidKinds := [.data, .data, .data, .data, .sentinel, .sentinel, .pinned], laidTests := true, laidLooks := .later }
def LexerGapsCardSaid : Prop := Claim7.holds Tryd.pinned (.plain (OpenSpec.ofChange lexerGapsSpec)) lexerGapsCard

/-- THE SECOND FORM's CARD OF 'arborlaw7.LexerJoins'. -/
def lexerJoinsUptoCard : Claim7 := { stood := { row := lexerJoinsUptoRow, standIns := [], harness := (true, "7a0afe7eaf431aad6f77432d8ffb297e72bb5d1e8b2fdac4257deeb140647a3b"), looks := true }, kinds := [], alts := [], laidByText := true, laidKinds := [.data, .data, .data], laidTests := true, laidLooks := .later }
def LexerJoinsUptoCardSaid : Prop := Claim7.holds Tryd.pinned (.plain (OpenSpec.upto lexerJoinsSpec)) lexerJoinsUptoCard

/-- THE SECOND FORM's CARD OF 'arborlaw7.LexerBlames'. -/
def lexerBlamesUptoCard : Claim7 := { stood := { row := lexerBlamesUptoRow, standIns := [], harness := (true, "7a0afe7eaf431aad6f77432d8ffb297e72bb5d1e8b2fdac4257deeb140647a3b"), looks := true }, kinds := [], alts := [], laidByText := true, laidKinds := [.data, .data, .data, .data, .sentinel, .sentinel, .pinned], laidTests := true, laidLooks := .later }
def LexerBlamesUptoCardSaid : Prop := Claim7.holds Tryd.pinned (.plain (OpenSpec.upto lexerBlamesSpec)) lexerBlamesUptoCard

/-- THE SECOND FORM's CARD OF 'arborlaw7.LexerPieces'. -/
def lexerPiecesUptoCard : Claim7 := { stood := { row := lexerPiecesUptoRow, standIns := [], harness := (true, "7a0afe7eaf431aad6f77432d8ffb297e72bb5d1e8b2fdac4257deeb140647a3b"), looks := true }, kinds := [], alts := [], laidByText := true, laidKinds := [.data, .data, .data, .data, .sentinel, .sentinel, .pinned], laidTests := true, laidLooks := .later }
def LexerPiecesUptoCardSaid : Prop := Claim7.holds Tryd.pinned (.plain (OpenSpec.upto lexerPiecesSpec)) lexerPiecesUptoCard

/-- THE SECOND FORM's CARD OF 'arborlaw7.LexerRounds'. -/
def lexerRoundsUptoCard : Claim7 := { stood := { row := lexerRoundsUptoRow, standIns := [], harness := (true, "7a0afe7eaf431aad6f77432d8ffb297e72bb5d1e8b2fdac4257deeb140647a3b"), looks := true }, kinds := [], alts := [], laidByText := true, laidKinds := [.data, .data, .data, .data, .sentinel, .sentinel, .pinned], laidTests := true, laidLooks := .later }
def LexerRoundsUptoCardSaid : Prop := Claim7.holds Tryd.pinned (.plain (OpenSpec.upto lexerRoundsSpec)) lexerRoundsUptoCard

/-- THE SECOND FORM's CARD OF 'arborlaw7.LexerGaps'. -/
def lexerGapsUptoCard : Claim7 := { stood := { row := lexerGapsUptoRow, standIns := [], harness := (true, "7a0afe7eaf431aad6f77432d8ffb297e72bb5d1e8b2fdac4257deeb140647a3b"), looks := true }, kinds := [], alts := [], laidByText := true, laidKinds := [.data, .data, .data, .data, .sentinel, .sentinel, .pinned], laidTests := true, laidLooks := .later }
def LexerGapsUptoCardSaid : Prop := Claim7.holds Tryd.pinned (.plain (OpenSpec.upto lexerGapsSpec)) lexerGapsUptoCard
end Rows
end Go.Proofs.YtbgapbaeegloaaaDoor
