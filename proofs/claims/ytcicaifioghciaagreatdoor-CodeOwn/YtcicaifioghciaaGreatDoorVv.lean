import Derived.Test.YtcicaifioghciaaGreatDoorJzao
namespace Go.Proofs.YtcicaifioghciaaGreatDoor
open Go.RowKit Go.Maps
theorem bringAt_get {ps : List PlA} {a t : Nat} {st : List Int} {P : PlA} (h : ps[t]? = some P) : (bringAt ps a st)[t]? = some (if a = t then bringA P st else P) := by
  unfold bringAt
  by_cases he : a = t
  · subst he
    have hlt := (List.getElem?_eq_some_iff.1 h).1
    rw [List.getElem?_set_self hlt, h, if_pos rfl]
    rfl
  · rw [List.getElem?_set_ne he, h, if_neg he]
/-- The places as they are pulled. -/
def pullA (S : List FieldA) (l : List ValA) : Nat → List ValA → List (Bool × List Int) → Option (List (Bool × List Int)) × Nat × Int
  | k, [], hv => match pullB S l hv k k with
    | none => (none, k, 112)
    | some z => if z.1 = true ∧ z.2 ≠ [] then (none, k, 112) else (some (hv ++ [z]), 0, 0)
  | k, x :: rest, hv => match pullB S l hv k k with
    | none => (none, k, 112)
    | some z => if z.1 = true ∧ behB S x z.2 = none then (none, k, 112) else pullA S l (k + 1) rest (hv ++ [z])
/-- What the brought stacks make of all places at one step. -/
theorem step_push {S : List FieldA} {l : List ValA} {hv : List (Bool × List Int)} {ps : List PlA} {k : Nat} {x : ValA} {st0 st : List Int} (hx : l[k]? = some x) (hlen : hv.length = k) (hb : behB S x st0 = some st) (h6 : (opA x.kind).opd = 6 ↔ (x.kind = 25 ∨ x.kind = 26))
    {t : Nat} (hp : ps[t]? = some (pushB S l hv t k)) :
    (if x.kind ≠ 25 then bringAt (if (opA x.kind).opd = 6 then bringAt ps (k + 1 + x.n.toNat) st else ps) (k + 1) st else (if (opA x.kind).opd = 6 then bringAt ps (k + 1 + x.n.toNat) st else ps))[t]? = some (pushB S l (hv ++ [(true, st0)]) t (k + 1)) := by
  have hbr : bringsB S l (hv ++ [(true, st0)]) k t = if leadsB k x t then some st else none := by
    unfold bringsB
    rw [List.getElem?_append_right (by omega), hlen, Nat.sub_self, hx]
    simp [hb]
  rw [pushB, hbr, push_more S l hv _ t k (by omega)]
  generalize pushB S l hv t k = P at *
  have h1 : (if (opA x.kind).opd = 6 then bringAt ps (k + 1 + x.n.toNat) st else ps)[t]? = some (if (opA x.kind).opd = 6 ∧ k + 1 + x.n.toNat = t then bringA P st else P) := by
    by_cases hj : (opA x.kind).opd = 6
    · rw [if_pos hj, bringAt_get hp]
      by_cases ht : k + 1 + x.n.toNat = t
      · rw [if_pos ht, if_pos ⟨hj, ht⟩]
      · rw [if_neg ht, if_neg (fun q => ht q.2)]
    · rw [if_neg hj, hp, if_neg (fun q => hj q.1)]
  generalize (if (opA x.kind).opd = 6 then bringAt ps (k + 1 + x.n.toNat) st else ps) = ps1 at *
  have hl : leadsB k x t = decide (((opA x.kind).opd = 6 ∧ k + 1 + x.n.toNat = t) ∨ (x.kind ≠ 25 ∧ k + 1 = t)) := by
    unfold leadsB
    rw [Bool.eq_iff_iff, decide_eq_true_iff, Bool.or_eq_true, Bool.and_eq_true, Bool.and_eq_true, decide_eq_true_iff, decide_eq_true_iff, decide_eq_true_iff, decide_eq_true_iff, h6]
  rw [hl]
  by_cases hA : (opA x.kind).opd = 6 ∧ k + 1 + x.n.toNat = t
  · rw [if_pos hA] at h1
    rw [decide_eq_true (Or.inl hA)]
    simp only [if_true]
    by_cases h25 : x.kind = 25
    · rw [if_neg (fun q => q h25)]; exact h1
    · rw [if_pos h25, bringAt_get h1]
      by_cases ht : k + 1 = t
      · rw [if_pos ht, bringA_twice]
      · rw [if_neg ht]
  · rw [if_neg hA] at h1
    by_cases hB : x.kind ≠ 25 ∧ k + 1 = t
    · rw [decide_eq_true (Or.inr hB), if_pos hB.1, bringAt_get h1, if_pos hB.2]
      rfl
    · rw [decide_eq_false (fun q => q.elim hA hB)]
      simp only [Bool.false_eq_true, if_false]
      by_cases h25 : x.kind = 25
      · rw [if_neg (fun q => q h25)]; exact h1
      · rw [if_pos h25, bringAt_get h1, if_neg (fun q => hB ⟨h25, q⟩)]

end Go.Proofs.YtcicaifioghciaaGreatDoor
