/-
  NARROWER THAN 'FOR EVERY INPUT', by the rows' own cells (each row's printed sentence says how): TypingRight: loops, laid · TypingTypes: loops, laid · TypingNeverWrong: loops, laid · TypingNeeds: loops, laid · TypingPrograms: loops, laid · TypingJoins: loops, laid.
  DERIVED. THE GIVEN ROWS OF THIS SEAT. 6 by the template 'for every input the law returns true; each argument reads behind the call as it read before'; 0 by the template 'total and deterministic' (their statements: YtnaajeldbgmdjaaDoorTotals.lean).
  GIVEN WITH THE SEED: the statements are not yours to turn. If you find one false, say at which input.
  Laid BY PROGRAM, IN A SANDBOX (cutbox-rows.mjs): the forced cells as the released guide's own fill.sh prints them over the translation 8bdd16267b9b62ce… (all of the seat's roots in one cut). By AI agents, Wed Nov 11 2026. No macro, syntax, notation, axiom, sorry.
-/
import Derived.Test.YtnaajeldbgmdjaaDoorChecked
import GoSem.Claim
import GoSem.ClaimJoined
import GoSem.ClaimMapViews
import Derived.JoinedTies
import Derived.KernelRfl
namespace Go.Proofs.YtnaajeldbgmdjaaDoor
/- THE CELL 'sum', in the pinned program and in every row, IS THE sha256 OF THE DUMP (.gsa) THAT YtnaajeldbgmdjaaDoorProg.lean LOADS. Nothing in Lean hashes anything: it is a label: what it is worth is what the hold of that sum in a sandbox is worth. -/
noncomputable def Tryd.pinned : Pinned := { name := "ytnaajeldbgmdjaadoor", sum := "8bdd16267b9b62cee60074742de0451da265d18d34ca1fc74f732b02f88708ee", checked := Tryd.checked }
namespace Rows
def none {H : Type} : Left H := { results := [], args := [] }

/- WHAT THE LISTED PACKAGE-LEVEL VARIABLES READ AS WHEN THE CALL BEGINS. Each datum BY PROGRAM (the guide's laid-datum.mjs) off the statement by which the dump's own 'gosem.cut.vars' lays the variable. In a bare row this is a premise. The card (YtnaajeldbgmdjaaDoorCards.lean) ties it to the program's text. -/
def laid_arbor_value_types {H : Type} : DataW H := .agg [.agg [.lit (.string []), .lit (.int .i64 0)], .agg [.lit (.string [105, 110, 116]), .lit (.int .i64 10)], .agg [.lit (.string [98, 111, 111, 108]), .lit (.int .i64 1)], .agg [.lit (.string [98, 121, 116, 101, 115]), .lit (.int .i64 21)]]
def laid_arbor_syntax_forms {H : Type} : DataW H := .agg [.agg [.lit (.int .i64 0), .lit (.string []), .lit (.int .i64 0), .lit (.int .i64 0), .lit (.int .i64 0), .lit (.int .i64 0)], .agg [.lit (.int .i64 1), .lit (.string []), .lit (.int .i64 0), .lit (.int .i64 9), .lit (.int .i64 0), .lit (.int .i64 0)], .agg [.lit (.int .i64 1), .lit (.string []), .lit (.int .i64 0), .lit (.int .i64 9), .lit (.int .i64 0), .lit (.int .i64 0)], .agg [.lit (.int .i64 1), .lit (.string []), .lit (.int .i64 0), .lit (.int .i64 9), .lit (.int .i64 0), .lit (.int .i64 0)], .agg [.lit (.int .i64 1), .lit (.string []), .lit (.int .i64 0), .lit (.int .i64 9), .lit (.int .i64 0), .lit (.int .i64 0)], .agg [.lit (.int .i64 1), .lit (.string []), .lit (.int .i64 0), .lit (.int .i64 9), .lit (.int .i64 0), .lit (.int .i64 0)], .agg [.lit (.int .i64 1), .lit (.string []), .lit (.int .i64 0), .lit (.int .i64 9), .lit (.int .i64 0), .lit (.int .i64 0)], .agg [.lit (.int .i64 2), .lit (.string [110, 111, 116]), .lit (.int .i64 1), .lit (.int .i64 3), .lit (.int .i64 0), .lit (.int .i64 3)], .agg [.lit (.int .i64 2), .lit (.string [45]), .lit (.int .i64 1), .lit (.int .i64 8), .lit (.int .i64 0), .lit (.int .i64 8)], .agg [.lit (.int .i64 3), .lit (.string [43]), .lit (.int .i64 2), .lit (.int .i64 6), .lit (.int .i64 6), .lit (.int .i64 7)], .agg [.lit (.int .i64 3), .lit (.string [45]), .lit (.int .i64 2), .lit (.int .i64 6), .lit (.int .i64 6), .lit (.int .i64 7)], .agg [.lit (.int .i64 3), .lit (.string [42]), .lit (.int .i64 2), .lit (.int .i64 7), .lit (.int .i64 7), .lit (.int .i64 8)], .agg [.lit (.int .i64 3), .lit (.string [60]), .lit (.int .i64 2), .lit (.int .i64 4), .lit (.int .i64 5), .lit (.int .i64 5)], .agg [.lit (.int .i64 3), .lit (.string [60, 61]), .lit (.int .i64 2), .lit (.int .i64 4), .lit (.int .i64 5), .lit (.int .i64 5)], .agg [.lit (.int .i64 3), .lit (.string [62]), .lit (.int .i64 2), .lit (.int .i64 4), .lit (.int .i64 5), .lit (.int .i64 5)], .agg [.lit (.int .i64 3), .lit (.string [62, 61]), .lit (.int .i64 2), .lit (.int .i64 4), .lit (.int .i64 5), .lit (.int .i64 5)], .agg [.lit (.int .i64 3), .lit (.string [61, 61]), .lit (.int .i64 2), .lit (.int .i64 4), .lit (.int .i64 5), .lit (.int .i64 5)], .agg [.lit (.int .i64 3), .lit (.string [33, 61]), .lit (.int .i64 2), .lit (.int .i64 4), .lit (.int .i64 5), .lit (.int .i64 5)], .agg [.lit (.int .i64 3), .lit (.string [97, 110, 100]), .lit (.int .i64 2), .lit (.int .i64 2), .lit (.int .i64 2), .lit (.int .i64 3)], .agg [.lit (.int .i64 3), .lit (.string [111, 114]), .lit (.int .i64 2), .lit (.int .i64 1), .lit (.int .i64 1), .lit (.int .i64 2)], .agg [.lit (.int .i64 3), .lit (.string [63, 63]), .lit (.int .i64 2), .lit (.int .i64 5), .lit (.int .i64 6), .lit (.int .i64 5)], .agg [.lit (.int .i64 4), .lit (.string [109, 105, 110]), .lit (.int .i64 2), .lit (.int .i64 9), .lit (.int .i64 0), .lit (.int .i64 0)], .agg [.lit (.int .i64 4), .lit (.string [109, 97, 120]), .lit (.int .i64 2), .lit (.int .i64 9), .lit (.int .i64 0), .lit (.int .i64 0)], .agg [.lit (.int .i64 4), .lit (.string [108, 101, 110]), .lit (.int .i64 1), .lit (.int .i64 9), .lit (.int .i64 0), .lit (.int .i64 0)], .agg [.lit (.int .i64 4), .lit (.string [99, 97, 116]), .lit (.int .i64 2), .lit (.int .i64 9), .lit (.int .i64 0), .lit (.int .i64 0)], .agg [.lit (.int .i64 4), .lit (.string [112, 105, 99, 107]), .lit (.int .i64 3), .lit (.int .i64 9), .lit (.int .i64 0), .lit (.int .i64 0)]]

/-- 'arborlaw9.TypingRight': WHATEVER THE INPUT: true; the input reads as it did. -/
def typingRightSpec : ChangeSpec := { name := "typingRight", fn := fun _ => fun
  | [d1, d2] => { results := [.lit (.bool true)], args := [d1, d2] }
  | _ => none }
def typingRightRow : OpenClaim := { program := "ytnaajeldbgmdjaadoor", sum := "8bdd16267b9b62cee60074742de0451da265d18d34ca1fc74f732b02f88708ee", func := "arbor/arborlaw9.TypingRight", spec := "typingRight", unfollowed := true, recurses := true, named := ["arbor/value.types", "arbor/syntax.forms"], loops := true, apart := false, laid := [("arbor/value.types", laid_arbor_value_types), ("arbor/syntax.forms", laid_arbor_syntax_forms)] }
def TypingRightSaid : Prop := typingRightRow.holds Tryd.pinned (OpenSpec.ofChange typingRightSpec)

/-- ITS FALSE NEIGHBOUR: 'it returns false'. Refute it at one input. -/
def typingRightWrong : ChangeSpec := { name := "typingRight", fn := fun _ => fun
  | [d1, d2] => { results := [.lit (.bool false)], args := [d1, d2] }
  | _ => none }
def TypingRightWrongFalsely : Prop := typingRightRow.holds Tryd.pinned (OpenSpec.ofChange typingRightWrong)

/-- 'arborlaw9.TypingTypes': WHATEVER THE INPUT: true; the input reads as it did. -/
def typingTypesSpec : ChangeSpec := { name := "typingTypes", fn := fun _ => fun
  | [d1, d2] => { results := [.lit (.bool true)], args := [d1, d2] }
  | _ => none }
def typingTypesRow : OpenClaim := { program := "ytnaajeldbgmdjaadoor", sum := "8bdd16267b9b62cee60074742de0451da265d18d34ca1fc74f732b02f88708ee", func := "arbor/arborlaw9.TypingTypes", spec := "typingTypes", unfollowed := true, recurses := true, named := ["arbor/value.types", "arbor/syntax.forms"], loops := true, apart := false, laid := [("arbor/value.types", laid_arbor_value_types), ("arbor/syntax.forms", laid_arbor_syntax_forms)] }
def TypingTypesSaid : Prop := typingTypesRow.holds Tryd.pinned (OpenSpec.ofChange typingTypesSpec)

/-- ITS FALSE NEIGHBOUR: 'it returns false'. Refute it at one input. -/
def typingTypesWrong : ChangeSpec := { name := "typingTypes", fn := fun _ => fun
  | [d1, d2] => { results := [.lit (.bool false)], args := [d1, d2] }
  | _ => none }
def TypingTypesWrongFalsely : Prop := typingTypesRow.holds Tryd.pinned (OpenSpec.ofChange typingTypesWrong)

/-- 'arborlaw9.TypingNeverWrong': WHATEVER THE INPUT: true; the input reads as it did. -/
def typingNeverWrongSpec : ChangeSpec := { name := "typingNeverWrong", fn := fun _ => fun
  | [d1, d2, d3] => { results := [.lit (.bool true)], args := [d1, d2, d3] }
  | _ => none }
def typingNeverWrongRow : OpenClaim := { program := "ytnaajeldbgmdjaadoor", sum := "8bdd16267b9b62cee60074742de0451da265d18d34ca1fc74f732b02f88708ee", func := "arbor/arborlaw9.TypingNeverWrong", spec := "typingNeverWrong", unfollowed := true, recurses := true, named := ["arbor/value.types", "arbor/syntax.forms"], loops := true, apart := false, laid := [("arbor/value.types", laid_arbor_value_types), ("arbor/syntax.forms", laid_arbor_syntax_forms)] }
def TypingNeverWrongSaid : Prop := typingNeverWrongRow.holds Tryd.pinned (OpenSpec.ofChange typingNeverWrongSpec)

/-- ITS FALSE NEIGHBOUR: 'it returns false'. Refute it at one input. -/
def typingNeverWrongWrong : ChangeSpec := { name := "typingNeverWrong", fn := fun _ => fun
  | [d1, d2, d3] => { results := [.lit (.bool false)], args := [d1, d2, d3] }
  | _ => none }
def TypingNeverWrongWrongFalsely : Prop := typingNeverWrongRow.holds Tryd.pinned (OpenSpec.ofChange typingNeverWrongWrong)

/-- 'arborlaw9.TypingNeeds': WHATEVER THE INPUT: true; the input reads as it did. -/
def typingNeedsSpec : ChangeSpec := { name := "typingNeeds", fn := fun _ => fun
  | [d1, d2] => { results := [.lit (.bool true)], args := [d1, d2] }
  | _ => none }
def typingNeedsRow : OpenClaim := { program := "ytnaajeldbgmdjaadoor", sum := "8bdd16267b9b62cee60074742de0451da265d18d34ca1fc74f732b02f88708ee", func := "arbor/arborlaw9.TypingNeeds", spec := "typingNeeds", unfollowed := true, recurses := true, named := ["arbor/value.types", "arbor/syntax.forms"], loops := true, apart := false, laid := [("arbor/value.types", laid_arbor_value_types), ("arbor/syntax.forms", laid_arbor_syntax_forms)] }
def TypingNeedsSaid : Prop := typingNeedsRow.holds Tryd.pinned (OpenSpec.ofChange typingNeedsSpec)

/-- ITS FALSE NEIGHBOUR: 'it returns false'. Refute it at one input. -/
def typingNeedsWrong : ChangeSpec := { name := "typingNeeds", fn := fun _ => fun
  | [d1, d2] => { results := [.lit (.bool false)], args := [d1, d2] }
  | _ => none }
def TypingNeedsWrongFalsely : Prop := typingNeedsRow.holds Tryd.pinned (OpenSpec.ofChange typingNeedsWrong)

/-- 'arborlaw9.TypingPrograms': WHATEVER THE INPUT: true; the input reads as it did. -/
def typingProgramsSpec : ChangeSpec := { name := "typingPrograms", fn := fun _ => fun
  | [d1, d2] => { results := [.lit (.bool true)], args := [d1, d2] }
  | _ => none }
def typingProgramsRow : OpenClaim := { program := "ytnaajeldbgmdjaadoor", sum := "8bdd16267b9b62cee60074742de0451da265d18d34ca1fc74f732b02f88708ee", func := "arbor/arborlaw9.TypingPrograms", spec := "typingPrograms", unfollowed := true, recurses := true, named := ["arbor/value.types", "arbor/syntax.forms"], loops := true, apart := false, laid := [("arbor/value.types", laid_arbor_value_types), ("arbor/syntax.forms", laid_arbor_syntax_forms)] }
def TypingProgramsSaid : Prop := typingProgramsRow.holds Tryd.pinned (OpenSpec.ofChange typingProgramsSpec)

/-- ITS FALSE NEIGHBOUR: 'it returns false'. Refute it at one input. -/
def typingProgramsWrong : ChangeSpec := { name := "typingPrograms", fn := fun _ => fun
  | [d1, d2] => { results := [.lit (.bool false)], args := [d1, d2] }
  | _ => none }
def TypingProgramsWrongFalsely : Prop := typingProgramsRow.holds Tryd.pinned (OpenSpec.ofChange typingProgramsWrong)

/-- 'arborlaw9.TypingJoins': WHATEVER THE INPUT: true; the input reads as it did. -/
def typingJoinsSpec : ChangeSpec := { name := "typingJoins", fn := fun _ => fun
  | [d1, d2, d3] => { results := [.lit (.bool true)], args := [d1, d2, d3] }
  | _ => none }
def typingJoinsRow : OpenClaim := { program := "ytnaajeldbgmdjaadoor", sum := "8bdd16267b9b62cee60074742de0451da265d18d34ca1fc74f732b02f88708ee", func := "arbor/arborlaw9.TypingJoins", spec := "typingJoins", unfollowed := true, recurses := true, named := ["arbor/value.types", "arbor/syntax.forms"], loops := true, apart := false, laid := [("arbor/value.types", laid_arbor_value_types), ("arbor/syntax.forms", laid_arbor_syntax_forms)] }
def TypingJoinsSaid : Prop := typingJoinsRow.holds Tryd.pinned (OpenSpec.ofChange typingJoinsSpec)

/-- ITS FALSE NEIGHBOUR: 'it returns false'. Refute it at one input. -/
def typingJoinsWrong : ChangeSpec := { name := "typingJoins", fn := fun _ => fun
  | [d1, d2, d3] => { results := [.lit (.bool false)], args := [d1, d2, d3] }
  | _ => none }
def TypingJoinsWrongFalsely : Prop := typingJoinsRow.holds Tryd.pinned (OpenSpec.ofChange typingJoinsWrong)

/- THE SECOND FORM. 'bulk': how many values and letters a reading holds, each counted each time it is reached (what is shared counts as often as it is met; a slice's spare places count too). A statement '..UptoSaid' is the law's where the arguments, and the package variables that the reading takes, are together of bulk at most 1048576: NARROWER than '..Said'. Prove '..Said' where nothing that the law and all that it calls make is longer than what came in: it says more and counts as full. Else prove '..UptoSaid'. A law counts once. -/
mutual
def uptoBulk {H : Type} : DataW H → Nat
  | .lit (.string bytes) => bytes.length + 1
  | .lit _ => 1
  | .nil => 1
  | .ptr d => uptoBulk d + 1
  | .slice elems spare => uptoBulkAll elems + uptoBulkAll spare + 1
  | .agg parts => uptoBulkAll parts + 1
  | .iface _ d => uptoBulk d + 1
  | .map entries => uptoBulkEntries entries + 1
  | .held _ => 1
def uptoBulkAll {H : Type} : List (DataW H) → Nat
  | [] => 0
  | d :: r => uptoBulk d + uptoBulkAll r
def uptoBulkEntries {H : Type} : List (Lit × DataW H) → Nat
  | [] => 0
  | x :: r => uptoBulkEntry x + uptoBulkEntries r
def uptoBulkEntry {H : Type} : Lit × DataW H → Nat
  | (.string bytes, d) => bytes.length + uptoBulk d + 1
  | (_, d) => uptoBulk d + 1
 end
def uptoSmall : (H : Type) → List (DataW H) → Bool := fun _ ds => decide (uptoBulkAll ds ≤ 1048576)
def OpenSpec.upto (s : _root_.Go.ChangeSpec) : _root_.Go.OpenSpec := { _root_.Go.OpenSpec.ofChange s with cond := some uptoSmall }

/-- 'arborlaw9.TypingRight', WHERE WHAT IT READS IS OF BULK AT MOST 1048576: true; the input reads as it did. -/
def typingRightUptoRow : OpenClaim := { program := "ytnaajeldbgmdjaadoor", sum := "8bdd16267b9b62cee60074742de0451da265d18d34ca1fc74f732b02f88708ee", func := "arbor/arborlaw9.TypingRight", spec := "typingRight", unfollowed := true, recurses := true, named := ["arbor/value.types", "arbor/syntax.forms"], loops := true, apart := false, laid := [("arbor/value.types", laid_arbor_value_types), ("arbor/syntax.forms", laid_arbor_syntax_forms)], narrowed := true }
def TypingRightUptoSaid : Prop := typingRightUptoRow.holds Tryd.pinned (OpenSpec.upto typingRightSpec)

/-- 'arborlaw9.TypingTypes', WHERE WHAT IT READS IS OF BULK AT MOST 1048576: true; the input reads as it did. -/
def typingTypesUptoRow : OpenClaim := { program := "ytnaajeldbgmdjaadoor", sum := "8bdd16267b9b62cee60074742de0451da265d18d34ca1fc74f732b02f88708ee", func := "arbor/arborlaw9.TypingTypes", spec := "typingTypes", unfollowed := true, recurses := true, named := ["arbor/value.types", "arbor/syntax.forms"], loops := true, apart := false, laid := [("arbor/value.types", laid_arbor_value_types), ("arbor/syntax.forms", laid_arbor_syntax_forms)], narrowed := true }
def TypingTypesUptoSaid : Prop := typingTypesUptoRow.holds Tryd.pinned (OpenSpec.upto typingTypesSpec)

/-- 'arborlaw9.TypingNeverWrong', WHERE WHAT IT READS IS OF BULK AT MOST 1048576: true; the input reads as it did. -/
def typingNeverWrongUptoRow : OpenClaim := { program := "ytnaajeldbgmdjaadoor", sum := "8bdd16267b9b62cee60074742de0451da265d18d34ca1fc74f732b02f88708ee", func := "arbor/arborlaw9.TypingNeverWrong", spec := "typingNeverWrong", unfollowed := true, recurses := true, named := ["arbor/value.types", "arbor/syntax.forms"], loops := true, apart := false, laid := [("arbor/value.types", laid_arbor_value_types), ("arbor/syntax.forms", laid_arbor_syntax_forms)], narrowed := true }
def TypingNeverWrongUptoSaid : Prop := typingNeverWrongUptoRow.holds Tryd.pinned (OpenSpec.upto typingNeverWrongSpec)

/-- 'arborlaw9.TypingNeeds', WHERE WHAT IT READS IS OF BULK AT MOST 1048576: true; the input reads as it did. -/
def typingNeedsUptoRow : OpenClaim := { program := "ytnaajeldbgmdjaadoor", sum := "8bdd16267b9b62cee60074742de0451da265d18d34ca1fc74f732b02f88708ee", func := "arbor/arborlaw9.TypingNeeds", spec := "typingNeeds", unfollowed := true, recurses := true, named := ["arbor/value.types", "arbor/syntax.forms"], loops := true, apart := false, laid := [("arbor/value.types", laid_arbor_value_types), ("arbor/syntax.forms", laid_arbor_syntax_forms)], narrowed := true }
def TypingNeedsUptoSaid : Prop := typingNeedsUptoRow.holds Tryd.pinned (OpenSpec.upto typingNeedsSpec)

/-- 'arborlaw9.TypingPrograms', WHERE WHAT IT READS IS OF BULK AT MOST 1048576: true; the input reads as it did. -/
def typingProgramsUptoRow : OpenClaim := { program := "ytnaajeldbgmdjaadoor", sum := "8bdd16267b9b62cee60074742de0451da265d18d34ca1fc74f732b02f88708ee", func := "arbor/arborlaw9.TypingPrograms", spec := "typingPrograms", unfollowed := true, recurses := true, named := ["arbor/value.types", "arbor/syntax.forms"], loops := true, apart := false, laid := [("arbor/value.types", laid_arbor_value_types), ("arbor/syntax.forms", laid_arbor_syntax_forms)], narrowed := true }
def TypingProgramsUptoSaid : Prop := typingProgramsUptoRow.holds Tryd.pinned (OpenSpec.upto typingProgramsSpec)

/-- 'arborlaw9.TypingJoins', WHERE WHAT IT READS IS OF BULK AT MOST 1048576: true; the input reads as it did. -/
def typingJoinsUptoRow : OpenClaim := { program := "ytnaajeldbgmdjaadoor", sum := "8bdd16267b9b62cee60074742de0451da265d18d34ca1fc74f732b02f88708ee", func := "arbor/arborlaw9.TypingJoins", spec := "typingJoins", unfollowed := true, recurses := true, named := ["arbor/value.types", "arbor/syntax.forms"], loops := true, apart := false, laid := [("arbor/value.types", laid_arbor_value_types), ("arbor/syntax.forms", laid_arbor_syntax_forms)], narrowed := true }
def TypingJoinsUptoSaid : Prop := typingJoinsUptoRow.holds Tryd.pinned (OpenSpec.upto typingJoinsSpec)

end Rows
end Go.Proofs.YtnaajeldbgmdjaaDoor
