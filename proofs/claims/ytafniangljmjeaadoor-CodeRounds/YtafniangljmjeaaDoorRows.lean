/-
  NARROWER THAN 'FOR EVERY INPUT', by the rows' own cells (each row's printed sentence says how): CodeEncodes: laid · CodeParts: laid · CodeDecodes: laid · CodeRounds: laid · CodeVerifies: laid · CodePaths: laid.
  DERIVED. THE GIVEN ROWS OF THIS SEAT. 6 by the template 'for every input the law returns true; each argument reads behind the call as it read before'; 0 by the template 'total and deterministic' (their statements: YtafniangljmjeaaDoorTotals.lean).
  GIVEN WITH THE SEED: the statements are not yours to turn. If you find one false, say at which input.
  Laid BY PROGRAM, IN A SANDBOX (cutbox-rows.mjs): the forced cells as the released guide's own fill.sh prints them over the translation 3df2558a5eeca955… (all of the seat's roots in one cut). By AI agents, Wed Nov 11 2026. No macro, syntax, notation, axiom, sorry.
-/
import Derived.Test.YtafniangljmjeaaDoorChecked
import GoSem.Claim
import GoSem.ClaimJoined
import GoSem.ClaimMapViews
import Derived.JoinedTies
import Derived.KernelRfl
namespace Go.Proofs.YtafniangljmjeaaDoor
/- THE CELL 'sum', in the pinned program and in every row, IS THE sha256 OF THE DUMP (.gsa) THAT YtafniangljmjeaaDoorProg.lean LOADS. Nothing in Lean hashes anything: it is a label: what it is worth is what the hold of that sum in a sandbox is worth. -/
noncomputable def Tryd.pinned : Pinned := { name := "ytafniangljmjeaadoor", sum := "3df2558a5eeca955c899d0c6a16061ba2ddd67931ab22ed3d2d614469a403e5a", checked := Tryd.checked }
namespace Rows
def none {H : Type} : Left H := { results := [], args := [] }

/- WHAT THE LISTED PACKAGE-LEVEL VARIABLES READ AS WHEN THE CALL BEGINS. Each datum BY PROGRAM (the guide's laid-datum.mjs) off the statement by which the dump's own 'gosem.cut.vars' lays the variable. In a bare row this is a premise. The card (YtafniangljmjeaaDoorCards.lean) ties it to the program's text. -/
def laid_arbor_value_types {H : Type} : DataW H := .agg [.agg [.lit (.string []), .lit (.int .i64 0)], .agg [.lit (.string [105, 110, 116]), .lit (.int .i64 10)], .agg [.lit (.string [98, 111, 111, 108]), .lit (.int .i64 1)], .agg [.lit (.string [98, 121, 116, 101, 115]), .lit (.int .i64 21)]]
def laid_arbor_code_operations {H : Type} : DataW H := .agg [.agg [.lit (.string []), .lit (.int .i64 0), .lit (.int .i64 0), .lit (.int .i64 0), .lit (.int .i64 0)], .agg [.lit (.string [112, 117, 115, 104]), .lit (.int .i64 1), .lit (.int .i64 0), .lit (.int .i64 0), .lit (.int .i64 1)], .agg [.lit (.string [116, 114, 117, 101]), .lit (.int .i64 0), .lit (.int .i64 0), .lit (.int .i64 0), .lit (.int .i64 2)], .agg [.lit (.string [102, 97, 108, 115, 101]), .lit (.int .i64 0), .lit (.int .i64 0), .lit (.int .i64 0), .lit (.int .i64 2)], .agg [.lit (.string [98, 121, 116, 101, 115]), .lit (.int .i64 2), .lit (.int .i64 0), .lit (.int .i64 0), .lit (.int .i64 3)], .agg [.lit (.string [108, 111, 97, 100]), .lit (.int .i64 3), .lit (.int .i64 0), .lit (.int .i64 0), .lit (.int .i64 4)], .agg [.lit (.string [104, 97, 115]), .lit (.int .i64 4), .lit (.int .i64 0), .lit (.int .i64 0), .lit (.int .i64 2)], .agg [.lit (.string [104, 101, 114, 101]), .lit (.int .i64 0), .lit (.int .i64 0), .lit (.int .i64 0), .lit (.int .i64 2)], .agg [.lit (.string [110, 111, 116]), .lit (.int .i64 0), .lit (.int .i64 1), .lit (.int .i64 2), .lit (.int .i64 2)], .agg [.lit (.string [110, 101, 103]), .lit (.int .i64 0), .lit (.int .i64 1), .lit (.int .i64 1), .lit (.int .i64 1)], .agg [.lit (.string [97, 100, 100]), .lit (.int .i64 0), .lit (.int .i64 2), .lit (.int .i64 1), .lit (.int .i64 1)], .agg [.lit (.string [115, 117, 98]), .lit (.int .i64 0), .lit (.int .i64 2), .lit (.int .i64 1), .lit (.int .i64 1)], .agg [.lit (.string [109, 117, 108]), .lit (.int .i64 0), .lit (.int .i64 2), .lit (.int .i64 1), .lit (.int .i64 1)], .agg [.lit (.string [109, 105, 110]), .lit (.int .i64 0), .lit (.int .i64 2), .lit (.int .i64 1), .lit (.int .i64 1)], .agg [.lit (.string [109, 97, 120]), .lit (.int .i64 0), .lit (.int .i64 2), .lit (.int .i64 1), .lit (.int .i64 1)], .agg [.lit (.string [108, 116]), .lit (.int .i64 0), .lit (.int .i64 2), .lit (.int .i64 5), .lit (.int .i64 2)], .agg [.lit (.string [108, 101]), .lit (.int .i64 0), .lit (.int .i64 2), .lit (.int .i64 5), .lit (.int .i64 2)], .agg [.lit (.string [101, 113]), .lit (.int .i64 0), .lit (.int .i64 2), .lit (.int .i64 6), .lit (.int .i64 2)], .agg [.lit (.string [108, 101, 110]), .lit (.int .i64 0), .lit (.int .i64 1), .lit (.int .i64 3), .lit (.int .i64 1)], .agg [.lit (.string [99, 97, 116]), .lit (.int .i64 0), .lit (.int .i64 2), .lit (.int .i64 3), .lit (.int .i64 3)], .agg [.lit (.string [115, 116, 111, 114, 101]), .lit (.int .i64 3), .lit (.int .i64 1), .lit (.int .i64 4), .lit (.int .i64 0)], .agg [.lit (.string [97, 100, 100, 116, 111]), .lit (.int .i64 5), .lit (.int .i64 1), .lit (.int .i64 1), .lit (.int .i64 0)], .agg [.lit (.string [99, 108, 101, 97, 114]), .lit (.int .i64 4), .lit (.int .i64 0), .lit (.int .i64 0), .lit (.int .i64 0)], .agg [.lit (.string [110, 101, 119]), .lit (.int .i64 0), .lit (.int .i64 0), .lit (.int .i64 0), .lit (.int .i64 0)], .agg [.lit (.string [100, 101, 108, 101, 116, 101]), .lit (.int .i64 0), .lit (.int .i64 0), .lit (.int .i64 0), .lit (.int .i64 0)], .agg [.lit (.string [106, 117, 109, 112]), .lit (.int .i64 6), .lit (.int .i64 0), .lit (.int .i64 0), .lit (.int .i64 0)], .agg [.lit (.string [117, 110, 108, 101, 115, 115]), .lit (.int .i64 6), .lit (.int .i64 1), .lit (.int .i64 2), .lit (.int .i64 0)]]

/-- 'arborlaw11.CodeEncodes': WHATEVER THE INPUT: true; the input reads as it did. -/
def codeEncodesSpec : ChangeSpec := { name := "codeEncodes", fn := fun _ => fun
  | [d] => { results := [.lit (.bool true)], args := [d] }
  | _ => none }
def codeEncodesRow : OpenClaim := { program := "ytafniangljmjeaadoor", sum := "3df2558a5eeca955c899d0c6a16061ba2ddd67931ab22ed3d2d614469a403e5a", func := "arbor/arborlaw11.CodeEncodes", spec := "codeEncodes", named := ["arbor/code.operations", "arbor/value.types"], apart := false, laid := [("arbor/value.types", laid_arbor_value_types), ("arbor/code.operations", laid_arbor_code_operations)] }
def CodeEncodesSaid : Prop := codeEncodesRow.holds Tryd.pinned (OpenSpec.ofChange codeEncodesSpec)

/-- ITS FALSE NEIGHBOUR: 'it returns false'. Refute it at one input. -/
def codeEncodesWrong : ChangeSpec := { name := "codeEncodes", fn := fun _ => fun
  | [d] => { results := [.lit (.bool false)], args := [d] }
  | _ => none }
def CodeEncodesWrongFalsely : Prop := codeEncodesRow.holds Tryd.pinned (OpenSpec.ofChange codeEncodesWrong)

/-- 'arborlaw11.CodeParts': WHATEVER THE INPUT: true; the input reads as it did. -/
def codePartsSpec : ChangeSpec := { name := "codeParts", fn := fun _ => fun
  | [d1, d2] => { results := [.lit (.bool true)], args := [d1, d2] }
  | _ => none }
def codePartsRow : OpenClaim := { program := "ytafniangljmjeaadoor", sum := "3df2558a5eeca955c899d0c6a16061ba2ddd67931ab22ed3d2d614469a403e5a", func := "arbor/arborlaw11.CodeParts", spec := "codeParts", named := ["arbor/code.operations", "arbor/value.types"], apart := false, laid := [("arbor/value.types", laid_arbor_value_types), ("arbor/code.operations", laid_arbor_code_operations)] }
def CodePartsSaid : Prop := codePartsRow.holds Tryd.pinned (OpenSpec.ofChange codePartsSpec)

/-- ITS FALSE NEIGHBOUR: 'it returns false'. Refute it at one input. -/
def codePartsWrong : ChangeSpec := { name := "codeParts", fn := fun _ => fun
  | [d1, d2] => { results := [.lit (.bool false)], args := [d1, d2] }
  | _ => none }
def CodePartsWrongFalsely : Prop := codePartsRow.holds Tryd.pinned (OpenSpec.ofChange codePartsWrong)

/-- 'arborlaw11.CodeDecodes': WHATEVER THE INPUT: true; the input reads as it did. -/
def codeDecodesSpec : ChangeSpec := { name := "codeDecodes", fn := fun _ => fun
  | [d] => { results := [.lit (.bool true)], args := [d] }
  | _ => none }
def codeDecodesRow : OpenClaim := { program := "ytafniangljmjeaadoor", sum := "3df2558a5eeca955c899d0c6a16061ba2ddd67931ab22ed3d2d614469a403e5a", func := "arbor/arborlaw11.CodeDecodes", spec := "codeDecodes", unfollowed := true, recurses := true, named := ["arbor/code.operations", "arbor/value.types"], apart := false, laid := [("arbor/value.types", laid_arbor_value_types), ("arbor/code.operations", laid_arbor_code_operations)] }
def CodeDecodesSaid : Prop := codeDecodesRow.holds Tryd.pinned (OpenSpec.ofChange codeDecodesSpec)

/-- ITS FALSE NEIGHBOUR: 'it returns false'. Refute it at one input. -/
def codeDecodesWrong : ChangeSpec := { name := "codeDecodes", fn := fun _ => fun
  | [d] => { results := [.lit (.bool false)], args := [d] }
  | _ => none }
def CodeDecodesWrongFalsely : Prop := codeDecodesRow.holds Tryd.pinned (OpenSpec.ofChange codeDecodesWrong)

/-- 'arborlaw11.CodeRounds': WHATEVER THE INPUT: true; the input reads as it did. -/
def codeRoundsSpec : ChangeSpec := { name := "codeRounds", fn := fun _ => fun
  | [d1, d2] => { results := [.lit (.bool true)], args := [d1, d2] }
  | _ => none }
def codeRoundsRow : OpenClaim := { program := "ytafniangljmjeaadoor", sum := "3df2558a5eeca955c899d0c6a16061ba2ddd67931ab22ed3d2d614469a403e5a", func := "arbor/arborlaw11.CodeRounds", spec := "codeRounds", unfollowed := true, recurses := true, named := ["arbor/code.operations", "arbor/value.types"], apart := false, laid := [("arbor/value.types", laid_arbor_value_types), ("arbor/code.operations", laid_arbor_code_operations)] }
def CodeRoundsSaid : Prop := codeRoundsRow.holds Tryd.pinned (OpenSpec.ofChange codeRoundsSpec)

/-- ITS FALSE NEIGHBOUR: 'it returns false'. Refute it at one input. -/
def codeRoundsWrong : ChangeSpec := { name := "codeRounds", fn := fun _ => fun
  | [d1, d2] => { results := [.lit (.bool false)], args := [d1, d2] }
  | _ => none }
def CodeRoundsWrongFalsely : Prop := codeRoundsRow.holds Tryd.pinned (OpenSpec.ofChange codeRoundsWrong)

/-- 'arborlaw11.CodeVerifies': WHATEVER THE INPUT: true; the input reads as it did. -/
def codeVerifiesSpec : ChangeSpec := { name := "codeVerifies", fn := fun _ => fun
  | [d1, d2] => { results := [.lit (.bool true)], args := [d1, d2] }
  | _ => none }
def codeVerifiesRow : OpenClaim := { program := "ytafniangljmjeaadoor", sum := "3df2558a5eeca955c899d0c6a16061ba2ddd67931ab22ed3d2d614469a403e5a", func := "arbor/arborlaw11.CodeVerifies", spec := "codeVerifies", named := ["arbor/value.types", "arbor/code.operations"], apart := false, laid := [("arbor/value.types", laid_arbor_value_types), ("arbor/code.operations", laid_arbor_code_operations)] }
def CodeVerifiesSaid : Prop := codeVerifiesRow.holds Tryd.pinned (OpenSpec.ofChange codeVerifiesSpec)

/-- ITS FALSE NEIGHBOUR: 'it returns false'. Refute it at one input. -/
def codeVerifiesWrong : ChangeSpec := { name := "codeVerifies", fn := fun _ => fun
  | [d1, d2] => { results := [.lit (.bool false)], args := [d1, d2] }
  | _ => none }
def CodeVerifiesWrongFalsely : Prop := codeVerifiesRow.holds Tryd.pinned (OpenSpec.ofChange codeVerifiesWrong)

/-- 'arborlaw11.CodePaths': WHATEVER THE INPUT: true; the input reads as it did. -/
def codePathsSpec : ChangeSpec := { name := "codePaths", fn := fun _ => fun
  | [d1, d2, d3] => { results := [.lit (.bool true)], args := [d1, d2, d3] }
  | _ => none }
def codePathsRow : OpenClaim := { program := "ytafniangljmjeaadoor", sum := "3df2558a5eeca955c899d0c6a16061ba2ddd67931ab22ed3d2d614469a403e5a", func := "arbor/arborlaw11.CodePaths", spec := "codePaths", named := ["arbor/value.types", "arbor/code.operations"], apart := false, laid := [("arbor/value.types", laid_arbor_value_types), ("arbor/code.operations", laid_arbor_code_operations)] }
def CodePathsSaid : Prop := codePathsRow.holds Tryd.pinned (OpenSpec.ofChange codePathsSpec)

/-- ITS FALSE NEIGHBOUR: 'it returns false'. Refute it at one input. -/
def codePathsWrong : ChangeSpec := { name := "codePaths", fn := fun _ => fun
  | [d1, d2, d3] => { results := [.lit (.bool false)], args := [d1, d2, d3] }
  | _ => none }
def CodePathsWrongFalsely : Prop := codePathsRow.holds Tryd.pinned (OpenSpec.ofChange codePathsWrong)

/- THE SECOND FORM. 'bulk': how many values and letters a reading holds, each counted each time it is reached (what is shared counts as often as it is met; a slice's spare places count too). A statement '..UptoSaid' is the law's where the arguments, and the package variables that the reading takes, are together of bulk at most 1048576: NARROWER than '..Said'. Prove '..Said' where nothing that the law and all that it calls make is longer than what came in: it says more and counts as full. Else prove '..UptoSaid'. A law counts once. -/
mutual
def uptoBulk {H : Type} : DataW H → Nat
  | .lit (.string bytes) => bytes.length + 1
  | .lit _ => 1
  | .nil => 1
  | .ptr d => uptoBulk d + 1
  | .slice elems spare => uptoBulkAll elems + uptoBulkAll spare + 1
  | .agg parts => uptoBulkAll parts + 1
  | .iface _ d => uptoBulk d + 1
  | .map entries => uptoBulkEntries entries + 1
  | .held _ => 1
def uptoBulkAll {H : Type} : List (DataW H) → Nat
  | [] => 0
  | d :: r => uptoBulk d + uptoBulkAll r
def uptoBulkEntries {H : Type} : List (Lit × DataW H) → Nat
  | [] => 0
  | x :: r => uptoBulkEntry x + uptoBulkEntries r
def uptoBulkEntry {H : Type} : Lit × DataW H → Nat
  | (.string bytes, d) => bytes.length + uptoBulk d + 1
  | (_, d) => uptoBulk d + 1
 end
def uptoSmall : (H : Type) → List (DataW H) → Bool := fun _ ds => decide (uptoBulkAll ds ≤ 1048576)
def OpenSpec.upto (s : _root_.Go.ChangeSpec) : _root_.Go.OpenSpec := { _root_.Go.OpenSpec.ofChange s with cond := some uptoSmall }

/-- 'arborlaw11.CodeEncodes', WHERE WHAT IT READS IS OF BULK AT MOST 1048576: true; the input reads as it did. -/
def codeEncodesUptoRow : OpenClaim := { program := "ytafniangljmjeaadoor", sum := "3df2558a5eeca955c899d0c6a16061ba2ddd67931ab22ed3d2d614469a403e5a", func := "arbor/arborlaw11.CodeEncodes", spec := "codeEncodes", named := ["arbor/code.operations", "arbor/value.types"], apart := false, laid := [("arbor/value.types", laid_arbor_value_types), ("arbor/code.operations", laid_arbor_code_operations)], narrowed := true }
def CodeEncodesUptoSaid : Prop := codeEncodesUptoRow.holds Tryd.pinned (OpenSpec.upto codeEncodesSpec)

/-- 'arborlaw11.CodeParts', WHERE WHAT IT READS IS OF BULK AT MOST 1048576: true; the input reads as it did. -/
def codePartsUptoRow : OpenClaim := { program := "ytafniangljmjeaadoor", sum := "3df2558a5eeca955c899d0c6a16061ba2ddd67931ab22ed3d2d614469a403e5a", func := "arbor/arborlaw11.CodeParts", spec := "codeParts", named := ["arbor/code.operations", "arbor/value.types"], apart := false, laid := [("arbor/value.types", laid_arbor_value_types), ("arbor/code.operations", laid_arbor_code_operations)], narrowed := true }
def CodePartsUptoSaid : Prop := codePartsUptoRow.holds Tryd.pinned (OpenSpec.upto codePartsSpec)

/-- 'arborlaw11.CodeDecodes', WHERE WHAT IT READS IS OF BULK AT MOST 1048576: true; the input reads as it did. -/
def codeDecodesUptoRow : OpenClaim := { program := "ytafniangljmjeaadoor", sum := "3df2558a5eeca955c899d0c6a16061ba2ddd67931ab22ed3d2d614469a403e5a", func := "arbor/arborlaw11.CodeDecodes", spec := "codeDecodes", unfollowed := true, recurses := true, named := ["arbor/code.operations", "arbor/value.types"], apart := false, laid := [("arbor/value.types", laid_arbor_value_types), ("arbor/code.operations", laid_arbor_code_operations)], narrowed := true }
def CodeDecodesUptoSaid : Prop := codeDecodesUptoRow.holds Tryd.pinned (OpenSpec.upto codeDecodesSpec)

/-- 'arborlaw11.CodeRounds', WHERE WHAT IT READS IS OF BULK AT MOST 1048576: true; the input reads as it did. -/
def codeRoundsUptoRow : OpenClaim := { program := "ytafniangljmjeaadoor", sum := "3df2558a5eeca955c899d0c6a16061ba2ddd67931ab22ed3d2d614469a403e5a", func := "arbor/arborlaw11.CodeRounds", spec := "codeRounds", unfollowed := true, recurses := true, named := ["arbor/code.operations", "arbor/value.types"], apart := false, laid := [("arbor/value.types", laid_arbor_value_types), ("arbor/code.operations", laid_arbor_code_operations)], narrowed := true }
def CodeRoundsUptoSaid : Prop := codeRoundsUptoRow.holds Tryd.pinned (OpenSpec.upto codeRoundsSpec)

/-- 'arborlaw11.CodeVerifies', WHERE WHAT IT READS IS OF BULK AT MOST 1048576: true; the input reads as it did. -/
def codeVerifiesUptoRow : OpenClaim := { program := "ytafniangljmjeaadoor", sum := "3df2558a5eeca955c899d0c6a16061ba2ddd67931ab22ed3d2d614469a403e5a", func := "arbor/arborlaw11.CodeVerifies", spec := "codeVerifies", named := ["arbor/value.types", "arbor/code.operations"], apart := false, laid := [("arbor/value.types", laid_arbor_value_types), ("arbor/code.operations", laid_arbor_code_operations)], narrowed := true }
def CodeVerifiesUptoSaid : Prop := codeVerifiesUptoRow.holds Tryd.pinned (OpenSpec.upto codeVerifiesSpec)

/-- 'arborlaw11.CodePaths', WHERE WHAT IT READS IS OF BULK AT MOST 1048576: true; the input reads as it did. -/
def codePathsUptoRow : OpenClaim := { program := "ytafniangljmjeaadoor", sum := "3df2558a5eeca955c899d0c6a16061ba2ddd67931ab22ed3d2d614469a403e5a", func := "arbor/arborlaw11.CodePaths", spec := "codePaths", named := ["arbor/value.types", "arbor/code.operations"], apart := false, laid := [("arbor/value.types", laid_arbor_value_types), ("arbor/code.operations", laid_arbor_code_operations)], narrowed := true }
def CodePathsUptoSaid : Prop := codePathsUptoRow.holds Tryd.pinned (OpenSpec.upto codePathsSpec)

end Rows
end Go.Proofs.YtafniangljmjeaaDoor
