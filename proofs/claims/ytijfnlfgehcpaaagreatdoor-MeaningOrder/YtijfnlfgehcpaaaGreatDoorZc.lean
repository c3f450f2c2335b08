import Derived.Test.YtijfnlfgehcpaaaGreatDoorZb
import Derived.Test.YtijfnlfgehcpaaaGreatDoorJbe
namespace Go.Proofs.YtijfnlfgehcpaaaGreatDoor
open Go.RowKit Go.Maps

/-- An expression. -/
structure XE where
  op : Int
  n : Int
  s : Txt
  kids : EL
def XE.val (S : List FieldA) (h : Bool) (vals : List ValA) (e : XE) : ValA := nodeV S e.op e.n e.s e.kids h vals
def XE.kind (S : List FieldA) (e : XE) : KA := (kindP S e.op e.s e.kids).1
def XE.ok (S : List FieldA) (e : XE) : Prop := rootB e.op e.n e.s e.kids.len = true ∧ wellE e.kids = true ∧ (kindP S e.op e.s e.kids).2 = 0
def XE.el (e : XE) (r : EL) : EL := .cons e.op e.n e.s e.kids r
def mk1 (k : Int) (a : XE) : XE := ⟨k, 0, [], a.el .nil⟩
def mk2 (k : Int) (a b : XE) : XE := ⟨k, 0, [], a.el (b.el .nil)⟩
def mk3 (k : Int) (a b c : XE) : XE := ⟨k, 0, [], a.el (b.el (c.el .nil))⟩
/-- What Value answers. -/
def XE.ans (S : List FieldA) (h : Bool) (vals : List ValA) (e : XE) : ValA × Int := valueP S e.op e.n e.s e.kids h vals
theorem ans_ok {S : List FieldA} {h : Bool} {vals : List ValA} {e : XE} (h0 : (e.ans S h vals).2 = 0) : schemaB S = true ∧ rowE S h vals = 0 ∧ e.ok S ∧ e.ans S h vals = (e.val S h vals, 0) := by
  unfold XE.ans valueP at h0 ⊢
  by_cases h1 : (typeP S e.op e.n e.s e.kids).2.2 = 0
  · rw [if_neg (by simpa using h1)] at h0 ⊢
    by_cases h2 : rowE S h vals = 0
    · rw [if_neg (by simpa using h2)]
      obtain ⟨hS, hb, hw, hk, _⟩ := typeP_zero h1
      exact ⟨hS, h2, ⟨hb, hw, hk⟩, rfl⟩
    · rw [if_pos h2] at h0
      exact absurd h0 h2
  · rw [if_pos h1] at h0
    exact absurd h0 h1
theorem ok_fit {S : List FieldA} (hS : schemaB S = true) {h : Bool} {vals : List ValA} (hr : rowE S h vals = 0) {e : XE} (he : e.ok S) : FitK (e.kind S) (e.val S h vals) := node_fit hS (rowE_fit hr) he.1 he.2.1 he.2.2
theorem kinds_el {S : List FieldA} {e : XE} {r : EL} (h : (kindsP S (e.el r)).2 = 0) : (kindP S e.op e.s e.kids).2 = 0 ∧ (kindsP S r).2 = 0 ∧ (kindsP S (e.el r)).1 = e.kind S :: (kindsP S r).1 := by
  unfold XE.el at h ⊢
  rw [kindsP_cons] at h ⊢
  by_cases h1 : (kindP S e.op e.s e.kids).2 = 0
  · by_cases h2 : (kindsP S r).2 = 0
    · refine ⟨h1, h2, ?_⟩
      simp [h1, h2, XE.kind]
    · simp [h1, h2] at h
  · simp [h1] at h
theorem well_el {e : XE} {r : EL} (h : wellE (e.el r) = true) : rootB e.op e.n e.s e.kids.len = true ∧ wellE e.kids = true ∧ wellE r = true := by
  unfold XE.el at h
  simp only [wellE, Bool.and_eq_true] at h
  exact h
theorem kind_rule {S : List FieldA} {op : Int} {s : Txt} {kids : EL} (h : (kindP S op s kids).2 = 0) : (kindsP S kids).2 = 0 ∧ kindP S op s kids = ruleP S op s (kindsP S kids).1 := by
  unfold kindP at h ⊢
  by_cases h1 : (kindsP S kids).2 = 0
  · rw [if_neg (by simpa using h1)]
    exact ⟨h1, rfl⟩
  · rw [if_pos h1] at h
    exact absurd h h1
theorem ok2 {S : List FieldA} {k : Int} {a b : XE} (h : (mk2 k a b).ok S) : a.ok S ∧ b.ok S ∧ (ruleP S k [] [a.kind S, b.kind S]).2 = 0 ∧ (mk2 k a b).kind S = (ruleP S k [] [a.kind S, b.kind S]).1 := by
  obtain ⟨_, hw, hk⟩ := h
  obtain ⟨h1, h2⟩ := kind_rule hk
  obtain ⟨a1, a2, a3⟩ := kinds_el h1
  obtain ⟨c1, _, c3⟩ := kinds_el a2
  obtain ⟨b1, b2, b3⟩ := well_el hw
  obtain ⟨d1, d2, _⟩ := well_el b3
  have e : kindP S k [] (a.el (b.el .nil)) = ruleP S k [] [a.kind S, b.kind S] := (show kindP S k [] (a.el (b.el .nil)) = ruleP S k [] (kindsP S (a.el (b.el .nil))).1 from h2).trans (by rw [a3, c3]; rfl)
  exact ⟨⟨b1, b2, a1⟩, ⟨d1, d2, c1⟩, by rw [← e]; exact hk, congrArg Prod.fst e⟩
theorem val1 {S : List FieldA} {h : Bool} {vals : List ValA} {k : Int} {a : XE} (hk : ¬ k ≤ 6) : (mk1 k a).val S h vals = opV k [a.val S h vals] := by
  unfold XE.val mk1 XE.el nodeV
  rw [if_neg hk]
  rfl
theorem val2 {S : List FieldA} {h : Bool} {vals : List ValA} {k : Int} {a b : XE} (hk : ¬ k ≤ 6) : (mk2 k a b).val S h vals = opV k [a.val S h vals, b.val S h vals] := by
  unfold XE.val mk2 XE.el nodeV
  rw [if_neg hk]
  rfl
/-- A value of int is its number. -/
theorem fit_int {k : KA} {v : ValA} (h : FitK k v) (ht : k.t = 1) (ho : k.o = false) : ∃ x, v = numV x := by
  obtain ⟨hg, hk⟩ := h.plain ho
  rw [ht] at hk
  obtain ⟨vk, vn, vs⟩ := v
  simp only at hk
  subst hk
  rcases hg with ⟨_, hs⟩ | ⟨h2, _⟩ | ⟨h2, _⟩
  · simp only at hs
    subst hs
    exact ⟨vn, rfl⟩
  · simp at h2
  · simp at h2
/-- The numbers of an expression are ints of 64 bits. -/
def intE : EL → Prop
  | .nil => True
  | .cons _ n _ k r => I64 n ∧ intE k ∧ intE r
/-- Two expressions have one value, where both may be asked. -/
def Alike (S : List FieldA) (h : Bool) (vals : List ValA) (a b : XE) : Prop := (a.ans S h vals).2 = 0 → (b.ans S h vals).2 = 0 → (a.ans S h vals).1 = (b.ans S h vals).1
theorem alike_of {S : List FieldA} {h : Bool} {vals : List ValA} {a b : XE} (hh : schemaB S = true → rowE S h vals = 0 → a.ok S → b.ok S → a.val S h vals = b.val S h vals) : Alike S h vals a b := fun h1 h2 => by
  obtain ⟨hS, hr, ha, e1⟩ := ans_ok h1
  obtain ⟨_, _, hb, e2⟩ := ans_ok h2
  rw [e1, e2]
  exact hh hS hr ha hb
end Go.Proofs.YtijfnlfgehcpaaaGreatDoor
