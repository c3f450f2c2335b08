import Derived.Test.YtjhppnecadnekaaDoorJb
import Derived.Test.YtjhppnecadnekaaDoorJa
namespace Go.Proofs.YtjhppnecadnekaaDoor
open Go.RowKit Go.Maps

/-- What a field or an expression is: its type, and whether it is optional. -/
structure KA where
  t : Int
  o : Bool
deriving DecidableEq
def fieldOf (S : List FieldA) (nm : Txt) : Option FieldA := S.find? fun f => decide (f.name = nm)
/-- The first of two errors. -/
def orI (a b : Int) : Int := if a = 0 then b else a
def ofI (k : KA) (ts : List Int) : Int := if ts.contains k.t then 0 else 91
def plainI (k : KA) (ts : List Int) : Int := orI (ofI k ts) (if k.o then 92 else 0)
def optI (k : KA) : Int := if k.o then 0 else 92
def takesI : List KA → List Int → Int
  | k :: ks, t :: ts => orI (plainI k [t]) (takesI ks ts)
  | _, _ => 0
def namedK (S : List FieldA) (s : Txt) : KA × Int := match fieldOf S s with
  | some f => (⟨f.type, f.opt⟩, 0)
  | none => (⟨0, false⟩, 90)
def hasK (S : List FieldA) (s : Txt) : KA × Int := (⟨2, false⟩, orI (namedK S s).2 (optI (namedK S s).1))
def takesK (is : Int) (ts : List Int) (ks : List KA) : KA × Int := if takesI ks ts = 0 then (⟨is, false⟩, 0) else (⟨0, false⟩, takesI ks ts)
def kth (ks : List KA) (i : Nat) : KA := ks.getD i ⟨0, false⟩
def comparesK (ts : List Int) (ks : List KA) : KA × Int := (⟨2, false⟩, orI (plainI (kth ks 0) ts) (plainI (kth ks 1) [(kth ks 0).t]))
def orElseK (ks : List KA) : KA × Int := (⟨(kth ks 0).t, false⟩, orI (optI (kth ks 0)) (plainI (kth ks 1) [(kth ks 0).t]))
def pickK (ks : List KA) : KA × Int := (⟨(kth ks 1).t, false⟩, orI (plainI (kth ks 0) [2]) (orI (plainI (kth ks 1) [(kth ks 1).t]) (plainI (kth ks 2) [(kth ks 1).t])))
/-- The rule of an operation. -/
inductive RuleA where
  | takes (is : Int) (ts : List Int)
  | field
  | has
  | compares (ts : List Int)
  | orElse
  | pick
def ruleL : List (Option RuleA) := [none, some (.takes 1 []), some (.takes 2 []), some (.takes 3 []), some .field, some .has, some (.takes 2 []), some (.takes 2 [2]), some (.takes 1 [1]),
  some (.takes 1 [1, 1]), some (.takes 1 [1, 1]), some (.takes 1 [1, 1]), some (.compares [1, 3]), some (.compares [1, 3]), some (.compares [1, 3]), some (.compares [1, 3]), some (.compares [1, 2, 3]), some (.compares [1, 2, 3]),
  some (.takes 2 [2, 2]), some (.takes 2 [2, 2]), some .orElse, some (.takes 1 [1, 1]), some (.takes 1 [1, 1]), some (.takes 1 [3]), some (.takes 3 [3, 3]), some .pick]
def RuleA.fit (S : List FieldA) (r : RuleA) (s : Txt) (ks : List KA) : KA × Int := match r with
  | .takes is ts => takesK is ts ks
  | .field => namedK S s
  | .has => hasK S s
  | .compares ts => comparesK ts ks
  | .orElse => orElseK ks
  | .pick => pickK ks
/-- How many kids a rule asks for. -/
def RuleA.kids : RuleA → Nat
  | .takes _ ts => ts.length
  | .field => 0
  | .has => 0
  | .compares _ => 2
  | .orElse => 2
  | .pick => 3
def ruleP (S : List FieldA) (op : Int) (s : Txt) (ks : List KA) : KA × Int := match (ruleL[op.toNat]?).join with
  | some r => r.fit S s ks
  | none => (⟨0, false⟩, 0)
def kindsP (S : List FieldA) : EL → List KA × Int
  | .nil => ([], 0)
  | .cons op _ s kids rest =>
    if (kindsP S kids).2 ≠ 0 then ([], (kindsP S kids).2)
    else if (ruleP S op s (kindsP S kids).1).2 ≠ 0 then ([], (ruleP S op s (kindsP S kids).1).2)
    else if (kindsP S rest).2 ≠ 0 then ([], (kindsP S rest).2)
    else ((ruleP S op s (kindsP S kids).1).1 :: (kindsP S rest).1, 0)
def kindP (S : List FieldA) (op : Int) (s : Txt) (kids : EL) : KA × Int :=
  if (kindsP S kids).2 ≠ 0 then (⟨0, false⟩, (kindsP S kids).2) else ruleP S op s (kindsP S kids).1
theorem kindsP_cons (S : List FieldA) (op n : Int) (s : Txt) (kids rest : EL) : kindsP S (.cons op n s kids rest) =
    if (kindP S op s kids).2 ≠ 0 then ([], (kindP S op s kids).2) else if (kindsP S rest).2 ≠ 0 then ([], (kindsP S rest).2) else ((kindP S op s kids).1 :: (kindsP S rest).1, 0) := by
  unfold kindP
  simp only [kindsP]
  by_cases h : (kindsP S kids).2 = 0
  · simp [h]
  · simp [h]
/-- The type, whether it is optional, the error. -/
def typeP (S : List FieldA) (op n : Int) (s : Txt) (kids : EL) : Int × Bool × Int :=
  if errS S ≠ 0 then (0, false, errS S) else if checkE (.cons op n s kids .nil) ≠ 0 then (0, false, checkE (.cons op n s kids .nil))
  else if (kindP S op s kids).2 ≠ 0 then (0, false, (kindP S op s kids).2) else ((kindP S op s kids).1.t, (kindP S op s kids).1.o, 0)
theorem kindsP_len (S : List FieldA) : ∀ l : EL, (kindsP S l).2 = 0 → (kindsP S l).1.length = l.len
  | .nil, _ => rfl
  | .cons op n s kids rest, h => by
    have ih := kindsP_len S rest
    rw [kindsP_cons] at h ⊢
    by_cases h1 : (kindP S op s kids).2 = 0
    · by_cases h2 : (kindsP S rest).2 = 0
      · simp [h1, h2, EL.len, ih h2]
      · simp [h1, h2] at h
    · simp [h1] at h
theorem ruleL_kids : ∀ m : Nat, 1 ≤ m → m ≤ 25 → ∃ r, (ruleL[m]?).join = some r ∧ (r.kids : Int) = kidsB m := by
  have h : ∀ m : Fin 26, 1 ≤ m.val → ((ruleL[m.val]?).join).map (fun r => (r.kids : Int)) = some (kidsB m.val) := by decide
  intro m h1 h2
  have := h ⟨m, by omega⟩ h1
  cases hr : (ruleL[m]?).join with
  | none => simp only [hr] at this; cases this
  | some r => simp only [hr] at this; exact ⟨r, rfl, Option.some.inj this⟩
end Go.Proofs.YtjhppnecadnekaaDoor
namespace Go.Proofs.YtjhppnecadnekaaDoor
open Go.RowKit Go.Maps

/-- What the reference's rule asks of the kids, and its own type. -/
def wantL (op : Int) : List (Int × Bool) × Int :=
  if op = 7 then ([(2, false)], 2) else if op = 8 then ([(1, false)], 1) else if op = 9 ∨ op = 10 ∨ op = 11 ∨ op = 21 ∨ op = 22 then ([(1, false), (1, false)], 1)
  else if op = 12 ∨ op = 13 ∨ op = 14 ∨ op = 15 then ([(-1, false), (-2, false)], 2) else if op = 16 ∨ op = 17 then ([(0, false), (-2, false)], 2) else if op = 18 ∨ op = 19 then ([(2, false), (2, false)], 2)
  else if op = 20 then ([(0, true), (-2, false)], -2) else if op = 23 then ([(3, false)], 1) else if op = 24 then ([(3, false), (3, false)], 3) else ([(2, false), (0, false), (-3, false)], -3)
def askedB (w t : Int) (ks : List KA) : Bool := if w = 0 then true else if w = -1 then (decide (t = 1) || decide (t = 3)) else if w = -2 then decide (t = (kth ks 0).t) else if w = -3 then decide (t = (kth ks 1).t) else decide (t = w)
def wantsI (ks : List KA) : List KA → List (Int × Bool) → Int
  | k :: r, w :: ws => if askedB w.1 k.t ks = false then 91 else if w.2 ≠ k.o then 92 else wantsI ks r ws
  | _, _ => 0
def tyR (ty : Int) (ks : List KA) : Int := if ty = -2 then (kth ks 0).t else if ty = -3 then (kth ks 1).t else ty
def refRule (op : Int) (ks : List KA) : KA × Int := if wantsI ks ks (wantL op).1 ≠ 0 then (⟨0, false⟩, wantsI ks ks (wantL op).1) else (⟨tyR (wantL op).2 ks, false⟩, 0)
/-- No kind where there is an error. -/
def zeroK (p : KA × Int) : KA × Int := if p.2 ≠ 0 then (⟨0, false⟩, p.2) else p
def okT (t : Int) : Prop := t = 1 ∨ t = 2 ∨ t = 3
theorem okT_fin {t : Int} (h : okT t) : ∃ i : Fin 3, t = (i.val : Int) + 1 := by
  rcases h with h | h | h
  · exact ⟨0, by simp [h]⟩
  · exact ⟨1, by simp [h]⟩
  · exact ⟨2, by simp [h]⟩
def one1 (op : Int) : Prop := ∀ (a : Fin 3) (oa : Bool), refRule op [⟨(a.val : Int) + 1, oa⟩] = zeroK (ruleP [] op [] [⟨(a.val : Int) + 1, oa⟩])
def two2 (op : Int) : Prop := ∀ (a : Fin 3) (oa : Bool) (b : Fin 3) (ob : Bool), refRule op [⟨(a.val : Int) + 1, oa⟩, ⟨(b.val : Int) + 1, ob⟩] = zeroK (ruleP [] op [] [⟨(a.val : Int) + 1, oa⟩, ⟨(b.val : Int) + 1, ob⟩])
def three3 (op : Int) : Prop := ∀ (a : Fin 3) (oa : Bool) (b : Fin 3) (ob : Bool) (c : Fin 3) (oc : Bool), refRule op [⟨(a.val : Int) + 1, oa⟩, ⟨(b.val : Int) + 1, ob⟩, ⟨(c.val : Int) + 1, oc⟩] = zeroK (ruleP [] op [] [⟨(a.val : Int) + 1, oa⟩, ⟨(b.val : Int) + 1, ob⟩, ⟨(c.val : Int) + 1, oc⟩])
instance (op : Int) : Decidable (one1 op) := by unfold one1; infer_instance
instance (op : Int) : Decidable (two2 op) := by unfold two2; infer_instance
instance (op : Int) : Decidable (three3 op) := by unfold three3; infer_instance
set_option maxRecDepth 100000 in
theorem ones : one1 7 ∧ one1 8 ∧ one1 23 := by decide
set_option maxRecDepth 100000 in
theorem twos : ∀ i : Fin 16, i.val ≠ 14 → two2 ((i.val : Int) + 9) := by decide
set_option maxRecDepth 100000 in
theorem threes : three3 25 := by decide
def RuleA.named : RuleA → Bool
  | .field => true
  | .has => true
  | _ => false
theorem rule_nofield (S : List FieldA) (op : Int) (s : Txt) (ks : List KA) (h1 : 7 ≤ op) (h2 : op ≤ 25) : ruleP S op s ks = ruleP [] op [] ks := by
  obtain ⟨m, rfl⟩ := Int.eq_ofNat_of_zero_le (show 0 ≤ op by omega)
  have h : ∀ i : Fin 26, 7 ≤ i.val → ((ruleL[i.val]?).join).map RuleA.named = some false := by decide
  have := h ⟨m, by omega⟩ (by show 7 ≤ m; omega)
  unfold ruleP
  simp only [Int.toNat_natCast]
  cases hr : (ruleL[m]?).join with
  | none => rfl
  | some r =>
    simp only [hr] at this
    cases r with
    | field => cases this
    | has => cases this
    | takes => rfl
    | compares => rfl
    | orElse => rfl
    | pick => rfl
theorem ref_rule (S : List FieldA) (op : Int) (s : Txt) (ks : List KA) (h1 : 7 ≤ op) (h2 : op ≤ 25) (hk : (ks.length : Int) = kidsB op) (hT : ∀ k ∈ ks, okT k.t) : refRule op ks = zeroK (ruleP S op s ks) := by
  rw [rule_nofield S op s ks h1 h2]
  unfold kidsB at hk
  rw [if_neg (by omega)] at hk
  by_cases hA : op = 7 ∨ op = 8 ∨ op = 23
  · rw [if_pos hA] at hk
    match ks, hk with
    | [a], _ =>
      obtain ⟨i, hi⟩ := okT_fin (hT a (by simp))
      obtain ⟨t, o⟩ := a
      subst hi
      rcases hA with rfl | rfl | rfl
      · exact ones.1 i o
      · exact ones.2.1 i o
      · exact ones.2.2 i o
    | [], hk => exact absurd hk (by simp)
    | _ :: _ :: _, hk => exact absurd hk (by simp; omega)
  rw [if_neg hA] at hk
  by_cases hB : op = 25
  · subst hB
    rw [if_neg (by omega), if_pos rfl] at hk
    match ks, hk with
    | [a, b, c], _ =>
      obtain ⟨i, hi⟩ := okT_fin (hT a (by simp))
      obtain ⟨j, hj⟩ := okT_fin (hT b (by simp))
      obtain ⟨k, hk⟩ := okT_fin (hT c (by simp))
      obtain ⟨t, o⟩ := a
      obtain ⟨t', o'⟩ := b
      obtain ⟨t'', o''⟩ := c
      subst hi hj hk
      exact threes i o j o' k o''
    | [], hk => exact absurd hk (by simp)
    | [_], hk => exact absurd hk (by simp)
    | [_, _], hk => exact absurd hk (by simp)
    | _ :: _ :: _ :: _ :: _, hk => exact absurd hk (by simp; omega)
  · rw [if_pos (by omega)] at hk
    match ks, hk with
    | [a, b], _ =>
      obtain ⟨i, hi⟩ := okT_fin (hT a (by simp))
      obtain ⟨j, hj⟩ := okT_fin (hT b (by simp))
      obtain ⟨t, o⟩ := a
      obtain ⟨t', o'⟩ := b
      subst hi hj
      obtain ⟨m, rfl⟩ := Int.eq_ofNat_of_zero_le (show 0 ≤ op by omega)
      have := twos ⟨m - 9, by omega⟩ (by show m - 9 ≠ 14; omega) i o j o'
      rw [show ((m - 9 : Nat) : Int) + 9 = (m : Int) by omega] at this
      exact this
    | [], hk => exact absurd hk (by simp)
    | [_], hk => exact absurd hk (by simp)
    | _ :: _ :: _ :: _, hk => exact absurd hk (by simp; omega)
/-- The kinds of what fits have types. -/
theorem wide_okT {t : Int} (h : 0 ≤ wideB t) : okT t := by
  unfold wideB at h
  unfold okT
  repeat' split at h
  all_goals omega
theorem field_okT {S : List FieldA} (h : schemaB S = true) {s : Txt} {f : FieldA} (hf : fieldOf S s = some f) : okT f.type := by
  have hm := List.mem_of_find?_eq_some hf
  have h3 : S.all fieldOK = true := by
    unfold schemaB at h
    simp only [Bool.and_eq_true] at h
    exact h.1.1.2
  have := List.all_eq_true.1 h3 f hm
  unfold fieldOK at this
  simp only [Bool.and_eq_true, decide_eq_true_eq] at this
  exact wide_okT this.2
end Go.Proofs.YtjhppnecadnekaaDoor
