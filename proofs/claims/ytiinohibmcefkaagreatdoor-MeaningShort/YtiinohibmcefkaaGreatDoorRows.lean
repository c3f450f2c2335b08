/-
  NARROWER THAN 'FOR EVERY INPUT', by the rows' own cells (each row's printed sentence says how): MeaningIf: loops, laid · MeaningShort: loops, laid · MeaningValues: loops, laid · MeaningRuns: loops, laid · MeaningChains: loops, laid · MeaningLists: loops, laid.
  DERIVED. THE GIVEN ROWS OF THIS SEAT. 6 by the template 'for every input the law returns true; each argument reads behind the call as it read before'; 0 by the template 'total and deterministic' (their statements: YtiinohibmcefkaaGreatDoorTotals.lean).
  GIVEN WITH THE SEED: the statements are not yours to turn. If you find one false, say at which input.
  Laid BY PROGRAM, IN A SANDBOX (cutbox-rows.mjs): the forced cells as the released guide's own fill.sh prints them over the translation 8581296ac318ac0f… (all of the seat's roots in one cut). By AI agents, Wed Nov 11 2026. No macro, syntax, notation, axiom, sorry.
-/
import Derived.Test.YtiinohibmcefkaaGreatDoorChecked
import GoSem.Claim
import GoSem.ClaimJoined
import GoSem.ClaimMapViews
import Derived.JoinedTies
import Derived.KernelRfl
namespace Go.Proofs.YtiinohibmcefkaaGreatDoor
/- THE CELL 'sum', in the pinned program and in every row, IS THE sha256 OF THE DUMP (.gsa) THAT YtiinohibmcefkaaGreatDoorProg.lean LOADS. Nothing in Lean hashes anything: it is a label: what it is worth is what the hold of that sum in a sandbox is worth. -/
noncomputable def Tryz.pinned : Pinned := { name := "ytiinohibmcefkaagreatdoor", sum := "8581296ac318ac0fe3208cc3fcf94477bb1316ae83975bbaff315fd35f257843", checked := Tryz.checked }
namespace Rows
def none {H : Type} : Left H := { results := [], args := [] }

/- WHAT THE LISTED PACKAGE-LEVEL VARIABLES READ AS WHEN THE CALL BEGINS. Each datum BY PROGRAM (the guide's laid-datum.mjs) off the statement by which the dump's own 'gosem.cut.vars' lays the variable. In a bare row this is a premise. The card (YtiinohibmcefkaaGreatDoorCards.lean) ties it to the program's text. -/
def laid_arbor_value_types {H : Type} : DataW H := .agg [.agg [.lit (.string []), .lit (.int .i64 0)], .agg [.lit (.string [105, 110, 116]), .lit (.int .i64 10)], .agg [.lit (.string [98, 111, 111, 108]), .lit (.int .i64 1)], .agg [.lit (.string [98, 121, 116, 101, 115]), .lit (.int .i64 21)]]
def laid_arbor_syntax_forms {H : Type} : DataW H := .agg [.agg [.lit (.int .i64 0), .lit (.string []), .lit (.int .i64 0), .lit (.int .i64 0), .lit (.int .i64 0), .lit (.int .i64 0)], .agg [.lit (.int .i64 1), .lit (.string []), .lit (.int .i64 0), .lit (.int .i64 9), .lit (.int .i64 0), .lit (.int .i64 0)], .agg [.lit (.int .i64 1), .lit (.string []), .lit (.int .i64 0), .lit (.int .i64 9), .lit (.int .i64 0), .lit (.int .i64 0)], .agg [.lit (.int .i64 1), .lit (.string []), .lit (.int .i64 0), .lit (.int .i64 9), .lit (.int .i64 0), .lit (.int .i64 0)], .agg [.lit (.int .i64 1), .lit (.string []), .lit (.int .i64 0), .lit (.int .i64 9), .lit (.int .i64 0), .lit (.int .i64 0)], .agg [.lit (.int .i64 1), .lit (.string []), .lit (.int .i64 0), .lit (.int .i64 9), .lit (.int .i64 0), .lit (.int .i64 0)], .agg [.lit (.int .i64 1), .lit (.string []), .lit (.int .i64 0), .lit (.int .i64 9), .lit (.int .i64 0), .lit (.int .i64 0)], .agg [.lit (.int .i64 2), .lit (.string [110, 111, 116]), .lit (.int .i64 1), .lit (.int .i64 3), .lit (.int .i64 0), .lit (.int .i64 3)], .agg [.lit (.int .i64 2), .lit (.string [45]), .lit (.int .i64 1), .lit (.int .i64 8), .lit (.int .i64 0), .lit (.int .i64 8)], .agg [.lit (.int .i64 3), .lit (.string [43]), .lit (.int .i64 2), .lit (.int .i64 6), .lit (.int .i64 6), .lit (.int .i64 7)], .agg [.lit (.int .i64 3), .lit (.string [45]), .lit (.int .i64 2), .lit (.int .i64 6), .lit (.int .i64 6), .lit (.int .i64 7)], .agg [.lit (.int .i64 3), .lit (.string [42]), .lit (.int .i64 2), .lit (.int .i64 7), .lit (.int .i64 7), .lit (.int .i64 8)], .agg [.lit (.int .i64 3), .lit (.string [60]), .lit (.int .i64 2), .lit (.int .i64 4), .lit (.int .i64 5), .lit (.int .i64 5)], .agg [.lit (.int .i64 3), .lit (.string [60, 61]), .lit (.int .i64 2), .lit (.int .i64 4), .lit (.int .i64 5), .lit (.int .i64 5)], .agg [.lit (.int .i64 3), .lit (.string [62]), .lit (.int .i64 2), .lit (.int .i64 4), .lit (.int .i64 5), .lit (.int .i64 5)], .agg [.lit (.int .i64 3), .lit (.string [62, 61]), .lit (.int .i64 2), .lit (.int .i64 4), .lit (.int .i64 5), .lit (.int .i64 5)], .agg [.lit (.int .i64 3), .lit (.string [61, 61]), .lit (.int .i64 2), .lit (.int .i64 4), .lit (.int .i64 5), .lit (.int .i64 5)], .agg [.lit (.int .i64 3), .lit (.string [33, 61]), .lit (.int .i64 2), .lit (.int .i64 4), .lit (.int .i64 5), .lit (.int .i64 5)], .agg [.lit (.int .i64 3), .lit (.string [97, 110, 100]), .lit (.int .i64 2), .lit (.int .i64 2), .lit (.int .i64 2), .lit (.int .i64 3)], .agg [.lit (.int .i64 3), .lit (.string [111, 114]), .lit (.int .i64 2), .lit (.int .i64 1), .lit (.int .i64 1), .lit (.int .i64 2)], .agg [.lit (.int .i64 3), .lit (.string [63, 63]), .lit (.int .i64 2), .lit (.int .i64 5), .lit (.int .i64 6), .lit (.int .i64 5)], .agg [.lit (.int .i64 4), .lit (.string [109, 105, 110]), .lit (.int .i64 2), .lit (.int .i64 9), .lit (.int .i64 0), .lit (.int .i64 0)], .agg [.lit (.int .i64 4), .lit (.string [109, 97, 120]), .lit (.int .i64 2), .lit (.int .i64 9), .lit (.int .i64 0), .lit (.int .i64 0)], .agg [.lit (.int .i64 4), .lit (.string [108, 101, 110]), .lit (.int .i64 1), .lit (.int .i64 9), .lit (.int .i64 0), .lit (.int .i64 0)], .agg [.lit (.int .i64 4), .lit (.string [99, 97, 116]), .lit (.int .i64 2), .lit (.int .i64 9), .lit (.int .i64 0), .lit (.int .i64 0)], .agg [.lit (.int .i64 4), .lit (.string [112, 105, 99, 107]), .lit (.int .i64 3), .lit (.int .i64 9), .lit (.int .i64 0), .lit (.int .i64 0)]]

/-- 'arborlaw10.MeaningIf': WHATEVER THE INPUT: true; the input reads as it did. -/
def meaningIfSpec : ChangeSpec := { name := "meaningIf", fn := fun _ => fun
  | [d1, d2, d3, d4, d5] => { results := [.lit (.bool true)], args := [d1, d2, d3, d4, d5] }
  | _ => none }
def meaningIfRow : OpenClaim := { program := "ytiinohibmcefkaagreatdoor", sum := "8581296ac318ac0fe3208cc3fcf94477bb1316ae83975bbaff315fd35f257843", func := "arbor/arborlaw10.MeaningIf", spec := "meaningIf", unfollowed := true, recurses := true, named := ["arbor/value.types", "arbor/syntax.forms"], loops := true, apart := false, laid := [("arbor/value.types", laid_arbor_value_types), ("arbor/syntax.forms", laid_arbor_syntax_forms)] }
def MeaningIfSaid : Prop := meaningIfRow.holds Tryz.pinned (OpenSpec.ofChange meaningIfSpec)

/-- ITS FALSE NEIGHBOUR: 'it returns false'. Refute it at one input. -/
def meaningIfWrong : ChangeSpec := { name := "meaningIf", fn := fun _ => fun
  | [d1, d2, d3, d4, d5] => { results := [.lit (.bool false)], args := [d1, d2, d3, d4, d5] }
  | _ => none }
def MeaningIfWrongFalsely : Prop := meaningIfRow.holds Tryz.pinned (OpenSpec.ofChange meaningIfWrong)

/-- 'arborlaw10.MeaningShort': WHATEVER THE INPUT: true; the input reads as it did. -/
def meaningShortSpec : ChangeSpec := { name := "meaningShort", fn := fun _ => fun
  | [d1, d2, d3, d4, d5] => { results := [.lit (.bool true)], args := [d1, d2, d3, d4, d5] }
  | _ => none }
def meaningShortRow : OpenClaim := { program := "ytiinohibmcefkaagreatdoor", sum := "8581296ac318ac0fe3208cc3fcf94477bb1316ae83975bbaff315fd35f257843", func := "arbor/arborlaw10.MeaningShort", spec := "meaningShort", unfollowed := true, recurses := true, named := ["arbor/value.types", "arbor/syntax.forms"], loops := true, apart := false, laid := [("arbor/value.types", laid_arbor_value_types), ("arbor/syntax.forms", laid_arbor_syntax_forms)] }
def MeaningShortSaid : Prop := meaningShortRow.holds Tryz.pinned (OpenSpec.ofChange meaningShortSpec)

/-- ITS FALSE NEIGHBOUR: 'it returns false'. Refute it at one input. -/
def meaningShortWrong : ChangeSpec := { name := "meaningShort", fn := fun _ => fun
  | [d1, d2, d3, d4, d5] => { results := [.lit (.bool false)], args := [d1, d2, d3, d4, d5] }
  | _ => none }
def MeaningShortWrongFalsely : Prop := meaningShortRow.holds Tryz.pinned (OpenSpec.ofChange meaningShortWrong)

/-- 'arborlaw10.MeaningValues': WHATEVER THE INPUT: true; the input reads as it did. -/
def meaningValuesSpec : ChangeSpec := { name := "meaningValues", fn := fun _ => fun
  | [d1, d2, d3] => { results := [.lit (.bool true)], args := [d1, d2, d3] }
  | _ => none }
def meaningValuesRow : OpenClaim := { program := "ytiinohibmcefkaagreatdoor", sum := "8581296ac318ac0fe3208cc3fcf94477bb1316ae83975bbaff315fd35f257843", func := "arbor/arborlaw10.MeaningValues", spec := "meaningValues", unfollowed := true, recurses := true, named := ["arbor/value.types", "arbor/syntax.forms"], loops := true, apart := false, laid := [("arbor/value.types", laid_arbor_value_types), ("arbor/syntax.forms", laid_arbor_syntax_forms)] }
def MeaningValuesSaid : Prop := meaningValuesRow.holds Tryz.pinned (OpenSpec.ofChange meaningValuesSpec)

/-- ITS FALSE NEIGHBOUR: 'it returns false'. Refute it at one input. -/
def meaningValuesWrong : ChangeSpec := { name := "meaningValues", fn := fun _ => fun
  | [d1, d2, d3] => { results := [.lit (.bool false)], args := [d1, d2, d3] }
  | _ => none }
def MeaningValuesWrongFalsely : Prop := meaningValuesRow.holds Tryz.pinned (OpenSpec.ofChange meaningValuesWrong)

/-- 'arborlaw10.MeaningRuns': WHATEVER THE INPUT: true; the input reads as it did. -/
def meaningRunsSpec : ChangeSpec := { name := "meaningRuns", fn := fun _ => fun
  | [d1, d2, d3] => { results := [.lit (.bool true)], args := [d1, d2, d3] }
  | _ => none }
def meaningRunsRow : OpenClaim := { program := "ytiinohibmcefkaagreatdoor", sum := "8581296ac318ac0fe3208cc3fcf94477bb1316ae83975bbaff315fd35f257843", func := "arbor/arborlaw10.MeaningRuns", spec := "meaningRuns", unfollowed := true, recurses := true, named := ["arbor/value.types", "arbor/syntax.forms"], loops := true, apart := false, laid := [("arbor/value.types", laid_arbor_value_types), ("arbor/syntax.forms", laid_arbor_syntax_forms)] }
def MeaningRunsSaid : Prop := meaningRunsRow.holds Tryz.pinned (OpenSpec.ofChange meaningRunsSpec)

/-- ITS FALSE NEIGHBOUR: 'it returns false'. Refute it at one input. -/
def meaningRunsWrong : ChangeSpec := { name := "meaningRuns", fn := fun _ => fun
  | [d1, d2, d3] => { results := [.lit (.bool false)], args := [d1, d2, d3] }
  | _ => none }
def MeaningRunsWrongFalsely : Prop := meaningRunsRow.holds Tryz.pinned (OpenSpec.ofChange meaningRunsWrong)

/-- 'arborlaw10.MeaningChains': WHATEVER THE INPUT: true; the input reads as it did. -/
def meaningChainsSpec : ChangeSpec := { name := "meaningChains", fn := fun _ => fun
  | [d1, d2, d3] => { results := [.lit (.bool true)], args := [d1, d2, d3] }
  | _ => none }
def meaningChainsRow : OpenClaim := { program := "ytiinohibmcefkaagreatdoor", sum := "8581296ac318ac0fe3208cc3fcf94477bb1316ae83975bbaff315fd35f257843", func := "arbor/arborlaw10.MeaningChains", spec := "meaningChains", unfollowed := true, recurses := true, named := ["arbor/value.types", "arbor/syntax.forms"], loops := true, apart := false, laid := [("arbor/value.types", laid_arbor_value_types), ("arbor/syntax.forms", laid_arbor_syntax_forms)] }
def MeaningChainsSaid : Prop := meaningChainsRow.holds Tryz.pinned (OpenSpec.ofChange meaningChainsSpec)

/-- ITS FALSE NEIGHBOUR: 'it returns false'. Refute it at one input. -/
def meaningChainsWrong : ChangeSpec := { name := "meaningChains", fn := fun _ => fun
  | [d1, d2, d3] => { results := [.lit (.bool false)], args := [d1, d2, d3] }
  | _ => none }
def MeaningChainsWrongFalsely : Prop := meaningChainsRow.holds Tryz.pinned (OpenSpec.ofChange meaningChainsWrong)

/-- 'arborlaw10.MeaningLists': WHATEVER THE INPUT: true; the input reads as it did. -/
def meaningListsSpec : ChangeSpec := { name := "meaningLists", fn := fun _ => fun
  | [d1, d2, d3] => { results := [.lit (.bool true)], args := [d1, d2, d3] }
  | _ => none }
def meaningListsRow : OpenClaim := { program := "ytiinohibmcefkaagreatdoor", sum := "8581296ac318ac0fe3208cc3fcf94477bb1316ae83975bbaff315fd35f257843", func := "arbor/arborlaw10.MeaningLists", spec := "meaningLists", unfollowed := true, recurses := true, named := ["arbor/value.types", "arbor/syntax.forms"], loops := true, apart := false, laid := [("arbor/value.types", laid_arbor_value_types), ("arbor/syntax.forms", laid_arbor_syntax_forms)] }
def MeaningListsSaid : Prop := meaningListsRow.holds Tryz.pinned (OpenSpec.ofChange meaningListsSpec)

/-- ITS FALSE NEIGHBOUR: 'it returns false'. Refute it at one input. -/
def meaningListsWrong : ChangeSpec := { name := "meaningLists", fn := fun _ => fun
  | [d1, d2, d3] => { results := [.lit (.bool false)], args := [d1, d2, d3] }
  | _ => none }
def MeaningListsWrongFalsely : Prop := meaningListsRow.holds Tryz.pinned (OpenSpec.ofChange meaningListsWrong)

/- THE SECOND FORM. 'bulk': how many values and letters a reading holds, each counted each time it is reached (what is shared counts as often as it is met; a slice's spare places count too). A statement '..UptoSaid' is the law's where the arguments, and the package variables that the reading takes, are together of bulk at most 1048576: NARROWER than '..Said'. Prove '..Said' where nothing that the law and all that it calls make is longer than what came in: it says more and counts as full. Else prove '..UptoSaid'. A law counts once. -/
mutual
def uptoBulk {H : Type} : DataW H → Nat
  | .lit (.string bytes) => bytes.length + 1
  | .lit _ => 1
  | .nil => 1
  | .ptr d => uptoBulk d + 1
  | .slice elems spare => uptoBulkAll elems + uptoBulkAll spare + 1
  | .agg parts => uptoBulkAll parts + 1
  | .iface _ d => uptoBulk d + 1
  | .map entries => uptoBulkEntries entries + 1
  | .held _ => 1
def uptoBulkAll {H : Type} : List (DataW H) → Nat
  | [] => 0
  | d :: r => uptoBulk d + uptoBulkAll r
def uptoBulkEntries {H : Type} : List (Lit × DataW H) → Nat
  | [] => 0
  | x :: r => uptoBulkEntry x + uptoBulkEntries r
def uptoBulkEntry {H : Type} : Lit × DataW H → Nat
  | (.string bytes, d) => bytes.length + uptoBulk d + 1
  | (_, d) => uptoBulk d + 1
 end
def uptoSmall : (H : Type) → List (DataW H) → Bool := fun _ ds => decide (uptoBulkAll ds ≤ 1048576)
def OpenSpec.upto (s : _root_.Go.ChangeSpec) : _root_.Go.OpenSpec := { _root_.Go.OpenSpec.ofChange s with cond := some uptoSmall }

/-- 'arborlaw10.MeaningIf', WHERE WHAT IT READS IS OF BULK AT MOST 1048576: true; the input reads as it did. -/
def meaningIfUptoRow : OpenClaim := { program := "ytiinohibmcefkaagreatdoor", sum := "8581296ac318ac0fe3208cc3fcf94477bb1316ae83975bbaff315fd35f257843", func := "arbor/arborlaw10.MeaningIf", spec := "meaningIf", unfollowed := true, recurses := true, named := ["arbor/value.types", "arbor/syntax.forms"], loops := true, apart := false, laid := [("arbor/value.types", laid_arbor_value_types), ("arbor/syntax.forms", laid_arbor_syntax_forms)], narrowed := true }
def MeaningIfUptoSaid : Prop := meaningIfUptoRow.holds Tryz.pinned (OpenSpec.upto meaningIfSpec)

/-- 'arborlaw10.MeaningShort', WHERE WHAT IT READS IS OF BULK AT MOST 1048576: true; the input reads as it did. -/
def meaningShortUptoRow : OpenClaim := { program := "ytiinohibmcefkaagreatdoor", sum := "8581296ac318ac0fe3208cc3fcf94477bb1316ae83975bbaff315fd35f257843", func := "arbor/arborlaw10.MeaningShort", spec := "meaningShort", unfollowed := true, recurses := true, named := ["arbor/value.types", "arbor/syntax.forms"], loops := true, apart := false, laid := [("arbor/value.types", laid_arbor_value_types), ("arbor/syntax.forms", laid_arbor_syntax_forms)], narrowed := true }
def MeaningShortUptoSaid : Prop := meaningShortUptoRow.holds Tryz.pinned (OpenSpec.upto meaningShortSpec)

/-- 'arborlaw10.MeaningValues', WHERE WHAT IT READS IS OF BULK AT MOST 1048576: true; the input reads as it did. -/
def meaningValuesUptoRow : OpenClaim := { program := "ytiinohibmcefkaagreatdoor", sum := "8581296ac318ac0fe3208cc3fcf94477bb1316ae83975bbaff315fd35f257843", func := "arbor/arborlaw10.MeaningValues", spec := "meaningValues", unfollowed := true, recurses := true, named := ["arbor/value.types", "arbor/syntax.forms"], loops := true, apart := false, laid := [("arbor/value.types", laid_arbor_value_types), ("arbor/syntax.forms", laid_arbor_syntax_forms)], narrowed := true }
def MeaningValuesUptoSaid : Prop := meaningValuesUptoRow.holds Tryz.pinned (OpenSpec.upto meaningValuesSpec)

/-- 'arborlaw10.MeaningRuns', WHERE WHAT IT READS IS OF BULK AT MOST 1048576: true; the input reads as it did. -/
def meaningRunsUptoRow : OpenClaim := { program := "ytiinohibmcefkaagreatdoor", sum := "8581296ac318ac0fe3208cc3fcf94477bb1316ae83975bbaff315fd35f257843", func := "arbor/arborlaw10.MeaningRuns", spec := "meaningRuns", unfollowed := true, recurses := true, named := ["arbor/value.types", "arbor/syntax.forms"], loops := true, apart := false, laid := [("arbor/value.types", laid_arbor_value_types), ("arbor/syntax.forms", laid_arbor_syntax_forms)], narrowed := true }
def MeaningRunsUptoSaid : Prop := meaningRunsUptoRow.holds Tryz.pinned (OpenSpec.upto meaningRunsSpec)

/-- 'arborlaw10.MeaningChains', WHERE WHAT IT READS IS OF BULK AT MOST 1048576: true; the input reads as it did. -/
def meaningChainsUptoRow : OpenClaim := { program := "ytiinohibmcefkaagreatdoor", sum := "8581296ac318ac0fe3208cc3fcf94477bb1316ae83975bbaff315fd35f257843", func := "arbor/arborlaw10.MeaningChains", spec := "meaningChains", unfollowed := true, recurses := true, named := ["arbor/value.types", "arbor/syntax.forms"], loops := true, apart := false, laid := [("arbor/value.types", laid_arbor_value_types), ("arbor/syntax.forms", laid_arbor_syntax_forms)], narrowed := true }
def MeaningChainsUptoSaid : Prop := meaningChainsUptoRow.holds Tryz.pinned (OpenSpec.upto meaningChainsSpec)

/-- 'arborlaw10.MeaningLists', WHERE WHAT IT READS IS OF BULK AT MOST 1048576: true; the input reads as it did. -/
def meaningListsUptoRow : OpenClaim := { program := "ytiinohibmcefkaagreatdoor", sum := "8581296ac318ac0fe3208cc3fcf94477bb1316ae83975bbaff315fd35f257843", func := "arbor/arborlaw10.MeaningLists", spec := "meaningLists", unfollowed := true, recurses := true, named := ["arbor/value.types", "arbor/syntax.forms"], loops := true, apart := false, laid := [("arbor/value.types", laid_arbor_value_types), ("arbor/syntax.forms", laid_arbor_syntax_forms)], narrowed := true }
def MeaningListsUptoSaid : Prop := meaningListsUptoRow.holds Tryz.pinned (OpenSpec.upto meaningListsSpec)

end Rows
end Go.Proofs.YtiinohibmcefkaaGreatDoor
