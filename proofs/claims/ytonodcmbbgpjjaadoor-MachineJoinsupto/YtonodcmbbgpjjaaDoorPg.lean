import Derived.Test.YtonodcmbbgpjjaaDoorPe2
namespace Go.Proofs.YtonodcmbbgpjjaaDoor
open Go.RowKit Go.Maps
theorem runO_parts {S : List FieldA} {l : List ValA} {hh : Bool} {vals : List ValA} (h1 : (verifyA S l).2.2 = 0) (h2 : rowE S hh vals = 0) : runO S l hh vals = ⟨0, (playM S l l.length 0 ⟨[], hh, vals⟩).2.here, (playM S l l.length 0 ⟨[], hh, vals⟩).2.vals, (playM S l l.length 0 ⟨[], hh, vals⟩).1.length, deepD (playM S l l.length 0 ⟨[], hh, vals⟩).1⟩ ∧ traceO S l hh vals = (playM S l l.length 0 ⟨[], hh, vals⟩).1 := by
  constructor
  · unfold runO outO; rw [h1, h2, if_neg (by decide), if_neg (by decide)]
  · unfold traceO outD; rw [h1, h2, if_neg (by decide)]
/-- Two codes, one behind the other. -/
theorem joins_pure {S : List FieldA} {a b : List ValA} {hh : Bool} {vals : List ValA} (h1 : (runO S a hh vals).e = 0) (h2 : (runO S b (runO S a hh vals).here (runO S a hh vals).vals).e = 0) (hV : (verifyA S (a ++ b)).2.2 = 0) :
    runO S (a ++ b) hh vals = ⟨0, (runO S b (runO S a hh vals).here (runO S a hh vals).vals).here, (runO S b (runO S a hh vals).here (runO S a hh vals).vals).vals, (runO S a hh vals).steps + (runO S b (runO S a hh vals).here (runO S a hh vals).vals).steps, max (runO S a hh vals).deep (runO S b (runO S a hh vals).here (runO S a hh vals).vals).deep⟩ ∧
      traceO S (a ++ b) hh vals = traceO S a hh vals ++ shiftD a.length (traceO S b (runO S a hh vals).here (runO S a hh vals).vals) := by
  obtain ⟨va, ra⟩ := runO_ok h1
  obtain ⟨vb, rb⟩ := runO_ok h2
  obtain ⟨ps, _, _, _, _, _, _, _, _, hst, _, hJ⟩ := run_bounds va ra
  obtain ⟨oa, ta⟩ := runO_parts va ra
  obtain ⟨ob, tb⟩ := runO_parts vb rb
  obtain ⟨oc, tc⟩ := runO_parts hV ra
  have hm : (playM S a a.length 0 ⟨[], hh, vals⟩).2 = ⟨[], (runO S a hh vals).here, (runO S a hh vals).vals⟩ := by
    rw [oa]
    generalize playM S a a.length 0 ⟨[], hh, vals⟩ = P at *
    obtain ⟨D, st, hr, vs⟩ := P
    simp only at hst ⊢
    rw [hst]
  have hj := play_join (S := S) (a := a) (b := b) (jump_opd hJ) a.length 0 ⟨[], hh, vals⟩ (Nat.zero_le _) (by omega)
  rw [hm] at hj
  have hl : (a ++ b).length = a.length + b.length := List.length_append
  rw [hl, hj] at oc tc
  rw [oc, tc, ta, tb, ob]
  refine ⟨?_, rfl⟩
  rw [oa]
  simp only [List.length_append, shift_length, deepD_append, deepD_shift]
theorem shift_at {n k : Nat} {A D : List (Nat × List ValA)} {y : Nat × List ValA} (hk : A.length ≤ k) (h : D[k - A.length]? = some y) : (A ++ shiftD n D)[k]? = some (n + y.1, y.2) := by
  rw [List.getElem?_append_right hk]
  unfold shiftD
  rw [List.getElem?_map, h]
  rfl
theorem steps_len {S : List FieldA} {l : List ValA} {hh : Bool} {vals : List ValA} (h : (runO S l hh vals).e = 0) : (runO S l hh vals).steps ≤ 96 := by
  obtain ⟨q1, q2⟩ := runO_ok h
  obtain ⟨_, _, _, h96, _⟩ := run_bounds q1 q2
  rw [(runO_parts q1 q2).1]
  exact Nat.le_trans (playM_len _ _ _) h96
theorem okSteps.small {hv : List (Bool × List Int)} {N : Nat} : ∀ {D : List (Nat × List ValA)} {a : Int}, okSteps hv N a D → ∀ y ∈ D, y.1 < N
  | [], _, _, _, h => by cases h
  | z :: r, a, q, y, h => by
    rcases List.mem_cons.1 h with rfl | h
    · exact q.2.1
    · exact okSteps.small q.2.2.2.2 y h
theorem trace_places {S : List FieldA} {l : List ValA} {hh : Bool} {vals : List ValA} (h : (runO S l hh vals).e = 0) : ∀ y ∈ traceO S l hh vals, y.1 ≤ 96 := by
  obtain ⟨q1, q2⟩ := runO_ok h
  obtain ⟨ps, _, hp, h96, hok, _⟩ := run_bounds q1 q2
  have : traceO S l hh vals = (playM S l l.length 0 ⟨[], hh, vals⟩).1 := by unfold traceO outD; rw [q1, q2, if_neg (by decide)]
  rw [this]
  intro y hy
  have := hok.small y hy
  omega
theorem trace_len {S : List FieldA} {l : List ValA} {hh : Bool} {vals : List ValA} (h : (runO S l hh vals).e = 0) : (traceO S l hh vals).length ≤ 96 := by
  obtain ⟨q1, q2⟩ := runO_ok h
  obtain ⟨_, _, _, h96, _⟩ := run_bounds q1 q2
  have : traceO S l hh vals = (playM S l l.length 0 ⟨[], hh, vals⟩).1 := by unfold traceO outD; rw [q1, q2, if_neg (by decide)]
  rw [this]
  exact Nat.le_trans (playM_len _ _ _) h96
end Go.Proofs.YtonodcmbbgpjjaaDoor
