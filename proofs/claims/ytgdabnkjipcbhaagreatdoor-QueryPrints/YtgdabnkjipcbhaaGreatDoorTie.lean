/-
  DERIVED. GIVEN WITH THE SEED: THE PROGRAM's TIES (one call each: nine closed facts by the kernel) AND EACH ROW's TIE, after the 31st guide's Derived/Test/Toyas{Tie, Card}.lean. No idea stands in it: it is a product of the set-up. Laid BY PROGRAM, IN A SANDBOX (cutbox-door.mjs). By AI agents, Wed Nov 11 2026. No macro, syntax, notation, axiom, sorry.
-/
import Derived.Test.YtgdabnkjipcbhaaGreatDoorRows
import Derived.LaidByTextLater
import Derived.SevenTiedAt
import Derived.LaidSub
import Derived.LaidOnce
namespace Go.Proofs.YtgdabnkjipcbhaaGreatDoor
open Go
set_option maxRecDepth 100000
theorem seatTie1 : Tryz.prog.laidByTextLater [("math/bits.deBruijn32tab", Rows.laid_math_bits_deBruijn32tab), ("math/bits.deBruijn64tab", Rows.laid_math_bits_deBruijn64tab), ("internal/strconv.uint64pow10", Rows.laid_internal_strconv_uint64pow10), ("arbor/arborref8.comparisonMarks", Rows.laid_arbor_arborref8_comparisonMarks), ("arbor/arborref8.comparisonOps", Rows.laid_arbor_arborref8_comparisonOps), ("arbor/arborref8.callWords", Rows.laid_arbor_arborref8_callWords), ("arbor/arborref8.callOps", Rows.laid_arbor_arborref8_callOps), ("arbor/syntax.forms", Rows.laid_arbor_syntax_forms)] [.data, .data, .data, .data, .data, .data, .data, .data] true :=
  Program.laidByTextLater_by_one 74 8 157 (by kernel_rfl) (by kernel_rfl) (by kernel_rfl) (by kernel_rfl) (by kernel_rfl) (by kernel_rfl) (fun _ _ => by kernel_rfl)
theorem noOwnUnsafe : Tryz.pinned.checked.prog.headLifts.contains "ownunsafe" = false := by kernel_rfl
theorem tie : Tryz.prog.laidByTextLater [("math/bits.deBruijn32tab", Rows.laid_math_bits_deBruijn32tab), ("math/bits.deBruijn64tab", Rows.laid_math_bits_deBruijn64tab), ("internal/strconv.uint64pow10", Rows.laid_internal_strconv_uint64pow10), ("arbor/arborref8.comparisonMarks", Rows.laid_arbor_arborref8_comparisonMarks), ("arbor/arborref8.comparisonOps", Rows.laid_arbor_arborref8_comparisonOps), ("arbor/arborref8.callWords", Rows.laid_arbor_arborref8_callWords), ("arbor/arborref8.callOps", Rows.laid_arbor_arborref8_callOps), ("arbor/syntax.forms", Rows.laid_arbor_syntax_forms)] [.data, .data, .data, .data, .data, .data, .data, .data] true :=
  Program.laidByTextLater.sub seatTie1 ["math/bits.deBruijn32tab", "math/bits.deBruijn64tab", "internal/strconv.uint64pow10", "arbor/arborref8.comparisonMarks", "arbor/arborref8.comparisonOps", "arbor/arborref8.callWords", "arbor/arborref8.callOps", "arbor/syntax.forms"] (by kernel_rfl) (by kernel_rfl)
theorem queryPrints_row_tie : Rows.queryPrintsRow.laidByTextAt .later Tryz.pinned [.data, .data, .data, .data, .data, .data, .data, .data] true :=
  OpenClaim.laidByTextAt_later rfl rfl tie noOwnUnsafe
theorem queryPrintsUpto_row_tie : Rows.queryPrintsUptoRow.laidByTextAt .later Tryz.pinned [.data, .data, .data, .data, .data, .data, .data, .data] true :=
  OpenClaim.laidByTextAt_later rfl rfl tie noOwnUnsafe
end Go.Proofs.YtgdabnkjipcbhaaGreatDoor
