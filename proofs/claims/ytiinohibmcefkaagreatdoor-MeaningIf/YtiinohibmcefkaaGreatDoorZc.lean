import Derived.Test.YtiinohibmcefkaaGreatDoorZb
import Derived.Test.YtiinohibmcefkaaGreatDoorJbe
namespace Go.Proofs.YtiinohibmcefkaaGreatDoor
open Go.RowKit Go.Maps

/-- An expression. -/
structure XE where
  op : Int
  n : Int
  s : Txt
  kids : EL
def XE.val (S : List FieldA) (h : Bool) (vals : List ValA) (e : XE) : ValA := nodeV S e.op e.n e.s e.kids h vals
def XE.kind (S : List FieldA) (e : XE) : KA := (kindP S e.op e.s e.kids).1
def XE.ok (S : List FieldA) (e : XE) : Prop := rootB e.op e.n e.s e.kids.len = true ∧ wellE e.kids = true ∧ (kindP S e.op e.s e.kids).2 = 0
def XE.el (e : XE) (r : EL) : EL := .cons e.op e.n e.s e.kids r
def mk1 (k : Int) (a : XE) : XE := ⟨k, 0, [], a.el .nil⟩
/-- What Value answers. -/
def XE.ans (S : List FieldA) (h : Bool) (vals : List ValA) (e : XE) : ValA × Int := valueP S e.op e.n e.s e.kids h vals
theorem ok_fit {S : List FieldA} (hS : schemaB S = true) {h : Bool} {vals : List ValA} (hr : rowE S h vals = 0) {e : XE} (he : e.ok S) : FitK (e.kind S) (e.val S h vals) := node_fit hS (rowE_fit hr) he.1 he.2.1 he.2.2
theorem kinds_el {S : List FieldA} {e : XE} {r : EL} (h : (kindsP S (e.el r)).2 = 0) : (kindP S e.op e.s e.kids).2 = 0 ∧ (kindsP S r).2 = 0 ∧ (kindsP S (e.el r)).1 = e.kind S :: (kindsP S r).1 := by
  unfold XE.el at h ⊢
  rw [kindsP_cons] at h ⊢
  by_cases h1 : (kindP S e.op e.s e.kids).2 = 0
  · by_cases h2 : (kindsP S r).2 = 0
    · refine ⟨h1, h2, ?_⟩
      simp [h1, h2, XE.kind]
    · simp [h1, h2] at h
  · simp [h1] at h
theorem well_el {e : XE} {r : EL} (h : wellE (e.el r) = true) : rootB e.op e.n e.s e.kids.len = true ∧ wellE e.kids = true ∧ wellE r = true := by
  unfold XE.el at h
  simp only [wellE, Bool.and_eq_true] at h
  exact h
theorem kind_rule {S : List FieldA} {op : Int} {s : Txt} {kids : EL} (h : (kindP S op s kids).2 = 0) : (kindsP S kids).2 = 0 ∧ kindP S op s kids = ruleP S op s (kindsP S kids).1 := by
  unfold kindP at h ⊢
  by_cases h1 : (kindsP S kids).2 = 0
  · rw [if_neg (by simpa using h1)]
    exact ⟨h1, rfl⟩
  · rw [if_pos h1] at h
    exact absurd h h1
theorem ok1 {S : List FieldA} {k : Int} {a : XE} (h : (mk1 k a).ok S) : a.ok S ∧ (ruleP S k [] [a.kind S]).2 = 0 ∧ (mk1 k a).kind S = (ruleP S k [] [a.kind S]).1 := by
  obtain ⟨_, hw, hk⟩ := h
  obtain ⟨h1, h2⟩ := kind_rule hk
  obtain ⟨a1, _, a3⟩ := kinds_el h1
  obtain ⟨b1, b2, _⟩ := well_el hw
  have e : kindP S k [] (a.el .nil) = ruleP S k [] [a.kind S] := (show kindP S k [] (a.el .nil) = ruleP S k [] (kindsP S (a.el .nil)).1 from h2).trans (by rw [a3]; rfl)
  exact ⟨⟨b1, b2, a1⟩, by rw [← e]; exact hk, congrArg Prod.fst e⟩
theorem val1 {S : List FieldA} {h : Bool} {vals : List ValA} {k : Int} {a : XE} (hk : ¬ k ≤ 6) : (mk1 k a).val S h vals = opV k [a.val S h vals] := by
  unfold XE.val mk1 XE.el nodeV
  rw [if_neg hk]
  rfl
end Go.Proofs.YtiinohibmcefkaaGreatDoor
