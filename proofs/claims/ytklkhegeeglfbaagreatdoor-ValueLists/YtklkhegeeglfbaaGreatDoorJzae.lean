import Derived.Test.YtklkhegeeglfbaaGreatDoorJzad
namespace Go.Proofs.YtklkhegeeglfbaaGreatDoor
open Go.RowKit Go.Maps

/-- The field that a piece of a schema's text tells. -/
def typeW (t : Txt) : Option Int := if t = [105, 110, 116] then some 1 else if t = [98, 111, 111, 108] then some 2 else if t = [98, 121, 116, 101, 115] then some 3 else none
def colon (p : Txt) : Nat := scan p (fun x => x != 58) 0
def isOpt (t : Txt) : Bool := decide (t.getLast? = some 63)
def sfieldB (p : Txt) : Option FieldA :=
  if colon p = 0 ∨ colon p = p.length then none
  else if (p.take (colon p)).all (fun c => partB (num c)) = false then none
  else
    let t := p.drop (colon p + 1)
    match typeW (if isOpt t then t.dropLast else t) with
    | none => none
    | some ty => some ⟨p.take (colon p), ty, isOpt t⟩
def noField : FieldA := ⟨[], 0, false⟩

theorem typeW_1 {X : Txt} (h : X = [105, 110, 116]) : typeW X = some 1 := by rw [h]; rfl
theorem typeW_2 {X : Txt} (h : X = [98, 111, 111, 108]) : typeW X = some 2 := by rw [h]; rfl
theorem typeW_3 {X : Txt} (h : X = [98, 121, 116, 101, 115]) : typeW X = some 3 := by rw [h]; rfl
theorem typeW_0 {X : Txt} (h1 : ¬ X = [105, 110, 116]) (h2 : ¬ X = [98, 111, 111, 108]) (h3 : ¬ X = [98, 121, 116, 101, 115]) : typeW X = none := by unfold typeW; rw [if_neg h1, if_neg h2, if_neg h3]
theorem ret_fb {D : Option FieldA} {x : FieldA} {b : Bool} (h : D.getD noField = x) (h2 : D.isSome = b) : Ending.returned (.tuple #[.agg #[str x.name, .int .i64 x.type, .bool x.opt], .bool b]) = .returned (.tuple #[.agg #[str (D.getD noField).name, .int .i64 (D.getD noField).type, .bool (D.getD noField).opt], .bool D.isSome]) := by rw [h, h2]

end Go.Proofs.YtklkhegeeglfbaaGreatDoor
namespace Go.Proofs.YtklkhegeeglfbaaGreatDoor
open Go.RowKit Go.Maps

def comma (t : Txt) (a : Nat) : Nat := scan t (fun x => x != 44) a
/-- The fields that a schema's text tells from a place on. -/
def psLoop : Nat → Txt → List FieldA → Nat → Option (List FieldA)
  | 0, _, acc, _ => some acc
  | f + 1, t, acc, a =>
    if t.length < a then some acc
    else match sfieldB ((t.drop a).take (comma t a - a)) with
      | none => none
      | some x => psLoop f t (acc ++ [x]) (comma t a + 1)
def parseSchemaB (t : Txt) : List FieldA × Int := match psLoop (t.length + 1) t [] 0 with
  | none => ([], 63)
  | some l => if schemaB l then (l, 0) else ([], 60)
theorem psLoop_end {f : Nat} {t : Txt} {acc : List FieldA} {a : Nat} (h : t.length < a) : psLoop f t acc a = some acc := by
  cases f with
  | zero => rfl
  | succ f => rw [psLoop, if_pos h]
theorem psLoop_step {f : Nat} {t : Txt} {acc : List FieldA} {a : Nat} (h : a ≤ t.length) : psLoop (f + 1) t acc a = match sfieldB ((t.drop a).take (comma t a - a)) with
      | none => none
      | some x => psLoop f t (acc ++ [x]) (comma t a + 1) := by rw [psLoop, if_neg (by omega)]
theorem fcs_snocZ (l : List FieldA) (x : FieldA) : fcs (l ++ [x]) = fcs l ++ x.cs := by simp [fcs]

end Go.Proofs.YtklkhegeeglfbaaGreatDoor
