import Derived.Test.YtnaajeldbgmdjaaDoorJb
import Derived.Test.YtnaajeldbgmdjaaDoorJa
namespace Go.Proofs.YtnaajeldbgmdjaaDoor
open Go.RowKit Go.Maps

/-- What a field or an expression is: its type, and whether it is optional. -/
structure KA where
  t : Int
  o : Bool
deriving DecidableEq
def fieldOf (S : List FieldA) (nm : Txt) : Option FieldA := S.find? fun f => decide (f.name = nm)
/-- The first of two errors. -/
def orI (a b : Int) : Int := if a = 0 then b else a
def ofI (k : KA) (ts : List Int) : Int := if ts.contains k.t then 0 else 91
def plainI (k : KA) (ts : List Int) : Int := orI (ofI k ts) (if k.o then 92 else 0)
def optI (k : KA) : Int := if k.o then 0 else 92
def takesI : List KA → List Int → Int
  | k :: ks, t :: ts => orI (plainI k [t]) (takesI ks ts)
  | _, _ => 0
def namedK (S : List FieldA) (s : Txt) : KA × Int := match fieldOf S s with
  | some f => (⟨f.type, f.opt⟩, 0)
  | none => (⟨0, false⟩, 90)
def hasK (S : List FieldA) (s : Txt) : KA × Int := (⟨2, false⟩, orI (namedK S s).2 (optI (namedK S s).1))
def takesK (is : Int) (ts : List Int) (ks : List KA) : KA × Int := if takesI ks ts = 0 then (⟨is, false⟩, 0) else (⟨0, false⟩, takesI ks ts)
def kth (ks : List KA) (i : Nat) : KA := ks.getD i ⟨0, false⟩
def comparesK (ts : List Int) (ks : List KA) : KA × Int := (⟨2, false⟩, orI (plainI (kth ks 0) ts) (plainI (kth ks 1) [(kth ks 0).t]))
def orElseK (ks : List KA) : KA × Int := (⟨(kth ks 0).t, false⟩, orI (optI (kth ks 0)) (plainI (kth ks 1) [(kth ks 0).t]))
def pickK (ks : List KA) : KA × Int := (⟨(kth ks 1).t, false⟩, orI (plainI (kth ks 0) [2]) (orI (plainI (kth ks 1) [(kth ks 1).t]) (plainI (kth ks 2) [(kth ks 1).t])))
/-- The rule of an operation. -/
inductive RuleA where
  | takes (is : Int) (ts : List Int)
  | field
  | has
  | compares (ts : List Int)
  | orElse
  | pick
def ruleL : List (Option RuleA) := [none, some (.takes 1 []), some (.takes 2 []), some (.takes 3 []), some .field, some .has, some (.takes 2 []), some (.takes 2 [2]), some (.takes 1 [1]),
  some (.takes 1 [1, 1]), some (.takes 1 [1, 1]), some (.takes 1 [1, 1]), some (.compares [1, 3]), some (.compares [1, 3]), some (.compares [1, 3]), some (.compares [1, 3]), some (.compares [1, 2, 3]), some (.compares [1, 2, 3]),
  some (.takes 2 [2, 2]), some (.takes 2 [2, 2]), some .orElse, some (.takes 1 [1, 1]), some (.takes 1 [1, 1]), some (.takes 1 [3]), some (.takes 3 [3, 3]), some .pick]
def RuleA.fit (S : List FieldA) (r : RuleA) (s : Txt) (ks : List KA) : KA × Int := match r with
  | .takes is ts => takesK is ts ks
  | .field => namedK S s
  | .has => hasK S s
  | .compares ts => comparesK ts ks
  | .orElse => orElseK ks
  | .pick => pickK ks
/-- How many kids a rule asks for. -/
def RuleA.kids : RuleA → Nat
  | .takes _ ts => ts.length
  | .field => 0
  | .has => 0
  | .compares _ => 2
  | .orElse => 2
  | .pick => 3
def ruleP (S : List FieldA) (op : Int) (s : Txt) (ks : List KA) : KA × Int := match (ruleL[op.toNat]?).join with
  | some r => r.fit S s ks
  | none => (⟨0, false⟩, 0)
def kindsP (S : List FieldA) : EL → List KA × Int
  | .nil => ([], 0)
  | .cons op _ s kids rest =>
    if (kindsP S kids).2 ≠ 0 then ([], (kindsP S kids).2)
    else if (ruleP S op s (kindsP S kids).1).2 ≠ 0 then ([], (ruleP S op s (kindsP S kids).1).2)
    else if (kindsP S rest).2 ≠ 0 then ([], (kindsP S rest).2)
    else ((ruleP S op s (kindsP S kids).1).1 :: (kindsP S rest).1, 0)
def kindP (S : List FieldA) (op : Int) (s : Txt) (kids : EL) : KA × Int :=
  if (kindsP S kids).2 ≠ 0 then (⟨0, false⟩, (kindsP S kids).2) else ruleP S op s (kindsP S kids).1
theorem kindsP_cons (S : List FieldA) (op n : Int) (s : Txt) (kids rest : EL) : kindsP S (.cons op n s kids rest) =
    if (kindP S op s kids).2 ≠ 0 then ([], (kindP S op s kids).2) else if (kindsP S rest).2 ≠ 0 then ([], (kindsP S rest).2) else ((kindP S op s kids).1 :: (kindsP S rest).1, 0) := by
  unfold kindP
  simp only [kindsP]
  by_cases h : (kindsP S kids).2 = 0
  · simp [h]
  · simp [h]
/-- The type, whether it is optional, the error. -/
def typeP (S : List FieldA) (op n : Int) (s : Txt) (kids : EL) : Int × Bool × Int :=
  if errS S ≠ 0 then (0, false, errS S) else if checkE (.cons op n s kids .nil) ≠ 0 then (0, false, checkE (.cons op n s kids .nil))
  else if (kindP S op s kids).2 ≠ 0 then (0, false, (kindP S op s kids).2) else ((kindP S op s kids).1.t, (kindP S op s kids).1.o, 0)
theorem kindsP_len (S : List FieldA) : ∀ l : EL, (kindsP S l).2 = 0 → (kindsP S l).1.length = l.len
  | .nil, _ => rfl
  | .cons op n s kids rest, h => by
    have ih := kindsP_len S rest
    rw [kindsP_cons] at h ⊢
    by_cases h1 : (kindP S op s kids).2 = 0
    · by_cases h2 : (kindsP S rest).2 = 0
      · simp [h1, h2, EL.len, ih h2]
      · simp [h1, h2] at h
    · simp [h1] at h
theorem ruleL_kids : ∀ m : Nat, 1 ≤ m → m ≤ 25 → ∃ r, (ruleL[m]?).join = some r ∧ (r.kids : Int) = kidsB m := by
  have h : ∀ m : Fin 26, 1 ≤ m.val → ((ruleL[m.val]?).join).map (fun r => (r.kids : Int)) = some (kidsB m.val) := by decide
  intro m h1 h2
  have := h ⟨m, by omega⟩ h1
  cases hr : (ruleL[m]?).join with
  | none => simp only [hr] at this; cases this
  | some r => simp only [hr] at this; exact ⟨r, rfl, Option.some.inj this⟩
end Go.Proofs.YtnaajeldbgmdjaaDoor
