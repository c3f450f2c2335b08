import Derived.Test.YtcfnlnceoalnoaaDoorXa
import Derived.Test.YtcfnlnceoalnoaaDoorFe
import Derived.Test.YtcfnlnceoalnoaaDoorJs
namespace Go.Proofs.YtcfnlnceoalnoaaDoor
open Go.RowKit Go.Maps
/-- A message. -/
structure MsgA where
  kind : Int
  key : Txt
  vals : List ValA
  code : Txt
/-- What CheckKey answers. -/
def keyE (x : Txt) : Int := if x.length < 1 ∨ 16 < x.length then 140 else 0
/-- What a message bears may stand together. -/
def shapeB (m : MsgA) : Bool := (decide (m.kind = 1) && decide (m.code = [])) || (decide (m.kind = 2) && decide (m.vals = []) && decide (m.code = [])) || (decide (m.kind = 3) && decide (m.vals = []))
/-- What is wrong with an upsert's code. -/
def codeE (S : List FieldA) (b : Txt) : Int := if (decC b).2 ≠ 0 then (decC b).2 else (verifyA S (decC b).1).2.2
/-- What Check answers. -/
def checkM (S : List FieldA) (m : MsgA) : Int :=
  if errS S ≠ 0 then errS S else if shapeB m = false then 141 else if keyE m.key ≠ 0 then keyE m.key
  else if m.kind = 1 then errR S m.vals else if m.kind = 3 then codeE S m.code else 0
/-- A message in memory: its cells. -/
def MsgAt (w : World) (k : Int) (key : Txt) (vv cv : Value) (m : MsgA) : Prop := m.kind = k ∧ m.key = key ∧ ValsAt w vv m.vals ∧ BytesAt w cv m.code
theorem errS_two (S : List FieldA) : errS S = 0 ∨ errS S = 60 := by unfold errS; split <;> simp
theorem keyE_two (x : Txt) : keyE x = 0 ∨ keyE x = 140 := by unfold keyE; split <;> simp
set_option maxRecDepth 100000 in
theorem checkKey_v (x : Txt) (hx : x.length ≤ 140737488355328) (w : World) : Calls Tryd.prog 14 #[str x] w fun e w' => e = .returned (.int .i64 (keyE x)) ∧ w' = w := by
  have HE : Hid (keyE x = if x.length < 1 ∨ 16 < x.length then 140 else 0) := rfl
  generalize keyE x = K at *
  go_enter Tryd.func14, Tryd.ntmps14
  go_wp2
  all_goals (go_ret; refine ⟨ret_int ?_, rfl⟩; have h := unhide HE; split at h <;> omega)
set_option maxRecDepth 100000 in
theorem refKey_v (x : Txt) (hx : x.length ≤ 140737488355328) (w : World) : Calls Tryd.prog 18 #[str x] w fun e w' => e = .returned (.int .i64 (keyE x)) ∧ w' = w := by
  have HE : Hid (keyE x = if x.length < 1 ∨ 16 < x.length then 140 else 0) := rfl
  generalize keyE x = K at *
  go_enter Tryd.func18, Tryd.ntmps18
  go_wp2
  all_goals (go_ret; refine ⟨ret_int ?_, rfl⟩; have h := unhide HE; split at h <;> omega)
/-- The table of shapes. -/
def shapesL : List (Int × Bool × Bool) := [(1, true, false), (1, false, false), (2, false, false), (3, false, true), (3, false, false)]
def shapesC : List Value := shapesL.flatMap fun z => [.int .i64 z.1, .bool z.2.1, .bool z.2.2]
structure Shapes (w : World) : Prop where
  lt : 0 < w.heap.size
  cell : ∀ j x, shapesC[j]? = some x → w.cell? ⟨0, j, none⟩ = some x
theorem Shapes.keepF {w w' : World} (h : Shapes w) (hk : Keeps (fun _ => False) w w') : Shapes w' := ⟨Nat.lt_of_lt_of_le h.lt hk.size, fun j x hx => (hk.cell h.lt id).trans (h.cell j x hx)⟩
theorem shape_mem (m : MsgA) : shapeB m = decide ((m.kind, !decide (m.vals = []), !decide (m.code = [])) ∈ shapesL) := by
  unfold shapeB shapesL
  apply Bool.eq_iff_iff.2
  by_cases h1 : m.vals = [] <;> by_cases h2 : m.code = [] <;> simp [h1, h2] <;> omega
end Go.Proofs.YtcfnlnceoalnoaaDoor
