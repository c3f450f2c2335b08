import Derived.Test.YtcicaifioghciaaGreatDoorVv
namespace Go.Proofs.YtcicaifioghciaaGreatDoor
open Go.RowKit Go.Maps
theorem pullA_cons {S : List FieldA} {l : List ValA} {k : Nat} {x : ValA} {rest : List ValA} {hv : List (Bool × List Int)} : pullA S l k (x :: rest) hv = match pullB S l hv k k with
    | none => (none, k, 112)
    | some z => if z.1 = true ∧ behB S x z.2 = none then (none, k, 112) else pullA S l (k + 1) rest (hv ++ [z]) := by rw [pullA]; cases pullB S l hv k k <;> rfl
theorem pullA_nil {S : List FieldA} {l : List ValA} {k : Nat} {hv : List (Bool × List Int)} : pullA S l k [] hv = match pullB S l hv k k with
    | none => (none, k, 112)
    | some z => if z.1 = true ∧ z.2 ≠ [] then (none, k, 112) else (some (hv ++ [z]), 0, 0) := by rw [pullA]; cases pullB S l hv k k <;> rfl
def pairP (p : PlA) : Bool × List Int := (p.r, p.st)
theorem prefix_push {S : List FieldA} {l : List ValA} {hv : List (Bool × List Int)} {z : Bool × List Int} {k : Nat} (hlen : hv.length = k) (hi : ∀ j, j < k → hv[j]? = some (pairP (pushB S l hv j j))) (hz : z = pairP (pushB S l hv k k)) : ∀ j, j < k + 1 → (hv ++ [z])[j]? = some (pairP (pushB S l (hv ++ [z]) j j)) := by
  intro j hj
  rw [push_more S l hv z j j (by omega)]
  by_cases h : j < k
  · rw [List.getElem?_append_left (by omega)]; exact hi j h
  · obtain rfl : j = k := by omega
    rw [List.getElem?_append_right (by omega), hlen, Nat.sub_self, hz]
    rfl
/-- The places pushed and the places pulled are the same, and wrong at the same place. -/
theorem run_pull (S : List FieldA) (l : List ValA) (h6 : ∀ i ∈ l, (opA i.kind).opd = 6 ↔ (i.kind = 25 ∨ i.kind = 26)) : ∀ (rest : List ValA) (k : Nat) (hv : List (Bool × List Int)) (ps : List PlA), rest = l.drop k → k ≤ l.length → hv.length = k → ps.length = l.length + 1 → (∀ t, t ≤ l.length → ps[t]? = some (pushB S l hv t k)) → (∀ j, j < k → hv[j]? = some (pairP (pushB S l hv j j))) →
    (runA S k rest ps).2 = (pullA S l k rest hv).2 ∧ (runA S k rest ps).1.map (List.map pairP) = (pullA S l k rest hv).1
  | [], k, hv, ps, hr, hkl, hlen, hps, hP, hi => by
    have hk : k = l.length := by
      have := congrArg List.length hr
      rw [List.length_drop] at this
      simp at this
      omega
    have hpk := hP k (by omega)
    rw [runA, pullA_nil, pull_push, hpk]
    simp only [Option.getD_some]
    have hz := push_zero S l hv k k
    have hfin : ps.map pairP = hv ++ [pairP (pushB S l hv k k)] := by
      apply List.ext_getElem?
      intro t
      rw [List.getElem?_map]
      by_cases ht : t ≤ l.length
      · rw [hP t ht]
        by_cases htk : t < k
        · rw [List.getElem?_append_left (by omega), hi t htk]
          have := push_stays S l hv t (k - t)
          rw [show t + (k - t) = k by omega] at this
          rw [this]
          rfl
        · obtain rfl : t = k := by omega
          rw [List.getElem?_append_right (by omega), hlen, Nat.sub_self]
          rfl
      · rw [List.getElem?_eq_none (by omega), List.getElem?_eq_none (by simp; omega)]
        rfl
    unfold pairP at hfin
    generalize pushB S l hv k k = P at *
    obtain ⟨r, st, u⟩ := P
    cases u with
    | true => simp
    | false =>
      cases r with
      | false =>
        have hz' := hz rfl
        unfold plZ at hz'
        simp only [PlA.mk.injEq] at hz'
        obtain ⟨_, rfl, _⟩ := hz'
        simp only [Bool.false_eq_true, List.length_nil, Nat.lt_irrefl, or_self, if_false, false_and]
        exact ⟨trivial, by rw [Option.map_some]; congr 1⟩
      | true =>
        cases st with
        | nil =>
          simp only [Bool.false_eq_true, List.length_nil, Nat.lt_irrefl, or_self, if_false, ne_eq, not_true, and_false]
          exact ⟨trivial, by rw [Option.map_some]; congr 1⟩
        | cons a b => simp
  | x :: rest, k, hv, ps, hr, hkl, hlen, hps, hP, hi => by
    have hkl' : k < l.length := by
      have := congrArg List.length hr
      rw [List.length_drop] at this
      simp at this
      omega
    have hx : l[k]? = some x ∧ rest = l.drop (k + 1) := by
      rw [List.drop_eq_getElem_cons hkl'] at hr
      simp only [List.cons.injEq] at hr
      exact ⟨by rw [List.getElem?_eq_getElem hkl', hr.1], hr.2⟩
    obtain ⟨hxk, hrest⟩ := hx
    have hpk := hP k (by omega)
    rw [runA, pullA_cons, pull_push]
    cases hrr : (pushB S l hv k k).r with
    | false =>
      have hz := push_zero S l hv k k hrr
      have hs : stepA S k x ps = some ps := by
        unfold stepA
        rw [hpk]
        simp only [Option.getD_some, hrr, if_true]
      rw [hs, hz]
      simp only [plZ, Bool.false_eq_true, if_false, false_and]
      refine run_pull S l h6 rest (k + 1) (hv ++ [(false, [])]) ps hrest hkl' (by simp [hlen]) hps (fun t ht => ?_) (prefix_push hlen hi (by rw [hz]; rfl))
      rw [pushB, push_more S l hv _ t k (by omega)]
      have hb : bringsB S l (hv ++ [(false, [])]) k t = none := by
        unfold bringsB
        rw [List.getElem?_append_right (by omega), hlen, Nat.sub_self, hxk]
        rfl
      rw [hb]
      exact hP t ht
    | true =>
      rw [stepA_on hpk hrr]
      by_cases hu : (pushB S l hv k k).u = true
      · rw [if_pos hu, if_pos hu]
        exact ⟨rfl, rfl⟩
      · rw [if_neg hu, if_neg hu]
        cases hb : behB S x (pushB S l hv k k).st with
        | none =>
          simp only [Option.map_none, hb, and_self, if_true]
        | some st =>
          simp only [Option.map_some, hb, reduceCtorEq, and_false, if_false]
          refine run_pull S l h6 rest (k + 1) (hv ++ [(true, (pushB S l hv k k).st)]) _ hrest hkl' (by simp [hlen]) ?_ (fun t ht => step_push hxk hlen hb (h6 x (List.mem_of_getElem? hxk)) (hP t ht)) (prefix_push hlen hi (by rw [pairP, hrr]))
          split <;> split <;> simp [bringAt_length, hps]

end Go.Proofs.YtcicaifioghciaaGreatDoor
