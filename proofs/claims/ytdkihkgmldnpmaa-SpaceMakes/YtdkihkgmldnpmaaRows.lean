/-
  No cell of these rows narrows 'for every input' (looked for: loops, veiled, ifaces, maps, wideKeys, modest, calm, conditions, laid).
  DERIVED. THE GIVEN ROWS OF THIS SEAT. 6 by the template 'for every input the law returns true; each argument reads behind the call as it read before'; 0 by the template 'total and deterministic' (their statements: YtdkihkgmldnpmaaTotals.lean).
  GIVEN WITH THE SEED: the statements are not yours to turn. If you find one false, say at which input.
  Laid BY PROGRAM, IN A SANDBOX (cutbox-rows.mjs): the forced cells as the released guide's own fill.sh prints them over the translation f20e9c6fd97b382a… (all of the seat's roots in one cut). By AI agents, Wed Nov 11 2026. No macro, syntax, notation, axiom, sorry.
-/
import Derived.Test.YtdkihkgmldnpmaaChecked
import GoSem.Claim
import GoSem.ClaimJoined
import GoSem.ClaimMapViews
import Derived.JoinedTies
import Derived.KernelRfl
namespace Go.Proofs.Ytdkihkgmldnpmaa
/- THE CELL 'sum', in the pinned program and in every row, IS THE sha256 OF THE DUMP (.gsa) THAT YtdkihkgmldnpmaaProg.lean LOADS. Nothing in Lean hashes anything: it is a label: what it is worth is what the hold of that sum in a sandbox is worth. -/
noncomputable def Try.pinned : Pinned := { name := "ytdkihkgmldnpmaa", sum := "f20e9c6fd97b382a21e67417cb84524534c8e0b34ce7e3122451d1b5752626a4", checked := Try.checked }
namespace Rows
def none {H : Type} : Left H := { results := [], args := [] }

/-- 'arborlaw3.SpaceLoads': WHATEVER THE INPUT: true; the input reads as it did. -/
def spaceLoadsSpec : ChangeSpec := { name := "spaceLoads", fn := fun _ => fun
  | [d1, d2] => { results := [.lit (.bool true)], args := [d1, d2] }
  | _ => none }
def spaceLoadsRow : OpenClaim := { program := "ytdkihkgmldnpmaa", sum := "f20e9c6fd97b382a21e67417cb84524534c8e0b34ce7e3122451d1b5752626a4", func := "arbor/arborlaw3.SpaceLoads", spec := "spaceLoads", apart := false }
def SpaceLoadsSaid : Prop := spaceLoadsRow.holds Try.pinned (OpenSpec.ofChange spaceLoadsSpec)

/-- ITS FALSE NEIGHBOUR: 'it returns false'. Refute it at one input. -/
def spaceLoadsWrong : ChangeSpec := { name := "spaceLoads", fn := fun _ => fun
  | [d1, d2] => { results := [.lit (.bool false)], args := [d1, d2] }
  | _ => none }
def SpaceLoadsWrongFalsely : Prop := spaceLoadsRow.holds Try.pinned (OpenSpec.ofChange spaceLoadsWrong)

/-- 'arborlaw3.SpaceCounts': WHATEVER THE INPUT: true; the input reads as it did. -/
def spaceCountsSpec : ChangeSpec := { name := "spaceCounts", fn := fun _ => fun
  | [d1, d2] => { results := [.lit (.bool true)], args := [d1, d2] }
  | _ => none }
def spaceCountsRow : OpenClaim := { program := "ytdkihkgmldnpmaa", sum := "f20e9c6fd97b382a21e67417cb84524534c8e0b34ce7e3122451d1b5752626a4", func := "arbor/arborlaw3.SpaceCounts", spec := "spaceCounts", apart := false }
def SpaceCountsSaid : Prop := spaceCountsRow.holds Try.pinned (OpenSpec.ofChange spaceCountsSpec)

/-- ITS FALSE NEIGHBOUR: 'it returns false'. Refute it at one input. -/
def spaceCountsWrong : ChangeSpec := { name := "spaceCounts", fn := fun _ => fun
  | [d1, d2] => { results := [.lit (.bool false)], args := [d1, d2] }
  | _ => none }
def SpaceCountsWrongFalsely : Prop := spaceCountsRow.holds Try.pinned (OpenSpec.ofChange spaceCountsWrong)

/-- 'arborlaw3.SpaceHolds': WHATEVER THE INPUT: true; the input reads as it did. -/
def spaceHoldsSpec : ChangeSpec := { name := "spaceHolds", fn := fun _ => fun
  | [d1, d2] => { results := [.lit (.bool true)], args := [d1, d2] }
  | _ => none }
def spaceHoldsRow : OpenClaim := { program := "ytdkihkgmldnpmaa", sum := "f20e9c6fd97b382a21e67417cb84524534c8e0b34ce7e3122451d1b5752626a4", func := "arbor/arborlaw3.SpaceHolds", spec := "spaceHolds", apart := false }
def SpaceHoldsSaid : Prop := spaceHoldsRow.holds Try.pinned (OpenSpec.ofChange spaceHoldsSpec)

/-- ITS FALSE NEIGHBOUR: 'it returns false'. Refute it at one input. -/
def spaceHoldsWrong : ChangeSpec := { name := "spaceHolds", fn := fun _ => fun
  | [d1, d2] => { results := [.lit (.bool false)], args := [d1, d2] }
  | _ => none }
def SpaceHoldsWrongFalsely : Prop := spaceHoldsRow.holds Try.pinned (OpenSpec.ofChange spaceHoldsWrong)

/-- 'arborlaw3.SpaceUndone': WHATEVER THE INPUT: true; the input reads as it did. -/
def spaceUndoneSpec : ChangeSpec := { name := "spaceUndone", fn := fun _ => fun
  | [d1, d2, d3] => { results := [.lit (.bool true)], args := [d1, d2, d3] }
  | _ => none }
def spaceUndoneRow : OpenClaim := { program := "ytdkihkgmldnpmaa", sum := "f20e9c6fd97b382a21e67417cb84524534c8e0b34ce7e3122451d1b5752626a4", func := "arbor/arborlaw3.SpaceUndone", spec := "spaceUndone", apart := false }
def SpaceUndoneSaid : Prop := spaceUndoneRow.holds Try.pinned (OpenSpec.ofChange spaceUndoneSpec)

/-- ITS FALSE NEIGHBOUR: 'it returns false'. Refute it at one input. -/
def spaceUndoneWrong : ChangeSpec := { name := "spaceUndone", fn := fun _ => fun
  | [d1, d2, d3] => { results := [.lit (.bool false)], args := [d1, d2, d3] }
  | _ => none }
def SpaceUndoneWrongFalsely : Prop := spaceUndoneRow.holds Try.pinned (OpenSpec.ofChange spaceUndoneWrong)

/-- 'arborlaw3.SpaceMakes': WHATEVER THE INPUT: true; the input reads as it did. -/
def spaceMakesSpec : ChangeSpec := { name := "spaceMakes", fn := fun _ => fun
  | [d] => { results := [.lit (.bool true)], args := [d] }
  | _ => none }
def spaceMakesRow : OpenClaim := { program := "ytdkihkgmldnpmaa", sum := "f20e9c6fd97b382a21e67417cb84524534c8e0b34ce7e3122451d1b5752626a4", func := "arbor/arborlaw3.SpaceMakes", spec := "spaceMakes", apart := false }
def SpaceMakesSaid : Prop := spaceMakesRow.holds Try.pinned (OpenSpec.ofChange spaceMakesSpec)

/-- ITS FALSE NEIGHBOUR: 'it returns false'. Refute it at one input. -/
def spaceMakesWrong : ChangeSpec := { name := "spaceMakes", fn := fun _ => fun
  | [d] => { results := [.lit (.bool false)], args := [d] }
  | _ => none }
def SpaceMakesWrongFalsely : Prop := spaceMakesRow.holds Try.pinned (OpenSpec.ofChange spaceMakesWrong)

/-- 'arborlaw3.SpaceScripts': WHATEVER THE INPUT: true; the input reads as it did. -/
def spaceScriptsSpec : ChangeSpec := { name := "spaceScripts", fn := fun _ => fun
  | [d] => { results := [.lit (.bool true)], args := [d] }
  | _ => none }
def spaceScriptsRow : OpenClaim := { program := "ytdkihkgmldnpmaa", sum := "f20e9c6fd97b382a21e67417cb84524534c8e0b34ce7e3122451d1b5752626a4", func := "arbor/arborlaw3.SpaceScripts", spec := "spaceScripts", apart := false }
def SpaceScriptsSaid : Prop := spaceScriptsRow.holds Try.pinned (OpenSpec.ofChange spaceScriptsSpec)

/-- ITS FALSE NEIGHBOUR: 'it returns false'. Refute it at one input. -/
def spaceScriptsWrong : ChangeSpec := { name := "spaceScripts", fn := fun _ => fun
  | [d] => { results := [.lit (.bool false)], args := [d] }
  | _ => none }
def SpaceScriptsWrongFalsely : Prop := spaceScriptsRow.holds Try.pinned (OpenSpec.ofChange spaceScriptsWrong)

/- THE SECOND FORM. 'bulk': how many values and letters a reading holds, each counted each time it is reached (what is shared counts as often as it is met; a slice's spare places count too). A statement '..UptoSaid' is the law's where the arguments, and the package variables that the reading takes, are together of bulk at most 1048576: NARROWER than '..Said'. Prove '..Said' where nothing that the law and all that it calls make is longer than what came in: it says more and counts as full. Else prove '..UptoSaid'. A law counts once. -/
mutual
def uptoBulk {H : Type} : DataW H → Nat
  | .lit (.string bytes) => bytes.length + 1
  | .lit _ => 1
  | .nil => 1
  | .ptr d => uptoBulk d + 1
  | .slice elems spare => uptoBulkAll elems + uptoBulkAll spare + 1
  | .agg parts => uptoBulkAll parts + 1
  | .iface _ d => uptoBulk d + 1
  | .map entries => uptoBulkEntries entries + 1
  | .held _ => 1
def uptoBulkAll {H : Type} : List (DataW H) → Nat
  | [] => 0
  | d :: r => uptoBulk d + uptoBulkAll r
def uptoBulkEntries {H : Type} : List (Lit × DataW H) → Nat
  | [] => 0
  | x :: r => uptoBulkEntry x + uptoBulkEntries r
def uptoBulkEntry {H : Type} : Lit × DataW H → Nat
  | (.string bytes, d) => bytes.length + uptoBulk d + 1
  | (_, d) => uptoBulk d + 1
 end
def uptoSmall : (H : Type) → List (DataW H) → Bool := fun _ ds => decide (uptoBulkAll ds ≤ 1048576)
def OpenSpec.upto (s : _root_.Go.ChangeSpec) : _root_.Go.OpenSpec := { _root_.Go.OpenSpec.ofChange s with cond := some uptoSmall }

/-- 'arborlaw3.SpaceLoads', WHERE WHAT IT READS IS OF BULK AT MOST 1048576: true; the input reads as it did. -/
def spaceLoadsUptoRow : OpenClaim := { program := "ytdkihkgmldnpmaa", sum := "f20e9c6fd97b382a21e67417cb84524534c8e0b34ce7e3122451d1b5752626a4", func := "arbor/arborlaw3.SpaceLoads", spec := "spaceLoads", apart := false, narrowed := true }
def SpaceLoadsUptoSaid : Prop := spaceLoadsUptoRow.holds Try.pinned (OpenSpec.upto spaceLoadsSpec)

/-- 'arborlaw3.SpaceCounts', WHERE WHAT IT READS IS OF BULK AT MOST 1048576: true; the input reads as it did. -/
def spaceCountsUptoRow : OpenClaim := { program := "ytdkihkgmldnpmaa", sum := "f20e9c6fd97b382a21e67417cb84524534c8e0b34ce7e3122451d1b5752626a4", func := "arbor/arborlaw3.SpaceCounts", spec := "spaceCounts", apart := false, narrowed := true }
def SpaceCountsUptoSaid : Prop := spaceCountsUptoRow.holds Try.pinned (OpenSpec.upto spaceCountsSpec)

/-- 'arborlaw3.SpaceHolds', WHERE WHAT IT READS IS OF BULK AT MOST 1048576: true; the input reads as it did. -/
def spaceHoldsUptoRow : OpenClaim := { program := "ytdkihkgmldnpmaa", sum := "f20e9c6fd97b382a21e67417cb84524534c8e0b34ce7e3122451d1b5752626a4", func := "arbor/arborlaw3.SpaceHolds", spec := "spaceHolds", apart := false, narrowed := true }
def SpaceHoldsUptoSaid : Prop := spaceHoldsUptoRow.holds Try.pinned (OpenSpec.upto spaceHoldsSpec)

/-- 'arborlaw3.SpaceUndone', WHERE WHAT IT READS IS OF BULK AT MOST 1048576: true; the input reads as it did. -/
def spaceUndoneUptoRow : OpenClaim := { program := "ytdkihkgmldnpmaa", sum := "f20e9c6fd97b382a21e67417cb84524534c8e0b34ce7e3122451d1b5752626a4", func := "arbor/arborlaw3.SpaceUndone", spec := "spaceUndone", apart := false, narrowed := true }
def SpaceUndoneUptoSaid : Prop := spaceUndoneUptoRow.holds Try.pinned (OpenSpec.upto spaceUndoneSpec)

/-- 'arborlaw3.SpaceMakes', WHERE WHAT IT READS IS OF BULK AT MOST 1048576: true; the input reads as it did. -/
def spaceMakesUptoRow : OpenClaim := { program := "ytdkihkgmldnpmaa", sum := "f20e9c6fd97b382a21e67417cb84524534c8e0b34ce7e3122451d1b5752626a4", func := "arbor/arborlaw3.SpaceMakes", spec := "spaceMakes", apart := false, narrowed := true }
def SpaceMakesUptoSaid : Prop := spaceMakesUptoRow.holds Try.pinned (OpenSpec.upto spaceMakesSpec)

/-- 'arborlaw3.SpaceScripts', WHERE WHAT IT READS IS OF BULK AT MOST 1048576: true; the input reads as it did. -/
def spaceScriptsUptoRow : OpenClaim := { program := "ytdkihkgmldnpmaa", sum := "f20e9c6fd97b382a21e67417cb84524534c8e0b34ce7e3122451d1b5752626a4", func := "arbor/arborlaw3.SpaceScripts", spec := "spaceScripts", apart := false, narrowed := true }
def SpaceScriptsUptoSaid : Prop := spaceScriptsUptoRow.holds Try.pinned (OpenSpec.upto spaceScriptsSpec)

end Rows
end Go.Proofs.Ytdkihkgmldnpmaa
