import Derived.Test.YtijfnlfgehcpaaaGreatDoorXq
namespace Go.Proofs.YtijfnlfgehcpaaaGreatDoor
open Go.RowKit Go.Maps

theorem wellS_both : ∀ {p q : SL}, wellS p = true → wellS q = true → wellS (p.app q) = true
  | .nil, _, _, h => h
  | .cons op f x t e r, q, h, h2 => by
    simp only [SL.app, wellS, Bool.and_eq_true] at h ⊢
    obtain ⟨h1, h3, h4, h5, h6⟩ := h
    exact ⟨h1, h3, h4, h5, wellS_both h6 h2⟩
theorem chain_ok {S : List FieldA} {ls : List SL} {h : Bool} {vals : List ValA} : (chainP S ls h vals).2 = 0 → errS S = 0 ∧ firstE S ls = 0 ∧ rowE S h vals = 0 ∧ chainP S ls h vals = (ls.foldl (fun r l => runS S l r) (h, vals), 0) := by
  unfold chainP
  split
  · intro h0; exact absurd h0 ‹_›
  · split
    · intro h0; exact absurd h0 ‹_›
    · split
      · intro h0; exact absurd h0 ‹_›
      · intro _
        refine ⟨by simpa using ‹¬ errS S ≠ 0›, by simpa using ‹¬ firstE S ls ≠ 0›, by simpa using ‹¬ rowE S h vals ≠ 0›, rfl⟩
theorem chain_of {S : List FieldA} {ls : List SL} {h : Bool} {vals : List ValA} (h1 : errS S = 0) (h2 : firstE S ls = 0) (h3 : rowE S h vals = 0) : chainP S ls h vals = (ls.foldl (fun r l => runS S l r) (h, vals), 0) := by
  unfold chainP
  rw [if_neg (by simpa using h1), if_neg (by simpa using h2), if_neg (by simpa using h3)]
theorem firstE_two {S : List FieldA} {p q : SL} : firstE S [p, q] = 0 ↔ (checkP S p).1 = 0 ∧ (checkP S q).1 = 0 := by
  simp only [firstE]
  by_cases h : (checkP S p).1 = 0
  · by_cases h2 : (checkP S q).1 = 0 <;> simp [h, h2]
  · simp [h]
theorem firstE_one {S : List FieldA} {p : SL} : firstE S [p] = (checkP S p).1 := by
  simp only [firstE]
  split
  · exact (‹(checkP S p).1 = 0›).symm
  · rfl
theorem foldS_fit {S : List FieldA} (hS : schemaB S = true) : ∀ (ls : List SL) (r : Bool × List ValA), (∀ l ∈ ls, (checkP S l).1 = 0) → RowFit S r.1 r.2 → RowFit S (ls.foldl (fun r l => runS S l r) r).1 (ls.foldl (fun r l => runS S l r) r).2
  | [], _, _, hr => hr
  | l :: ls, r, h, hr => by
    obtain ⟨_, hw, ho⟩ := check_ok (h l (by simp))
    exact foldS_fit hS ls _ (fun m hm => h m (by simp [hm])) (run_fit hS l r hw ho hr)
theorem firstE_all {S : List FieldA} : ∀ {ls : List SL}, firstE S ls = 0 → ∀ l ∈ ls, (checkP S l).1 = 0
  | [], _, l, hl => by simp at hl
  | a :: r, h, l, hl => by
    simp only [firstE] at h
    split at h
    · rcases List.mem_cons.1 hl with rfl | hl
      · assumption
      · exact firstE_all h l hl
    · exact absurd h ‹_›
theorem fit_len {S : List FieldA} (hS : schemaB S = true) {h : Bool} {vals : List ValA} (hr : RowFit S h vals) : vals.length ≤ 8 := by
  unfold RowFit at hr
  split at hr
  · rw [hr.1]; exact (schemaB_len hS).2
  · rw [hr]; simp
/-- A row that comes out of Chain is short. -/
theorem chain_len (S : List FieldA) (ls : List SL) (h : Bool) (vals : List ValA) : (chainP S ls h vals).1.2.length ≤ 8 := by
  by_cases h0 : (chainP S ls h vals).2 = 0
  · obtain ⟨h1, h2, h3, h4⟩ := chain_ok h0
    rw [h4]
    rcases errS_eq S with ⟨hs, _⟩ | ⟨_, he⟩
    · exact fit_len hs (foldS_fit hs ls _ (firstE_all h2) (rowE_fit h3))
    · rw [he] at h1; cases h1
  · unfold chainP at h0 ⊢
    split at h0
    · rw [if_pos ‹_›]; simp
    · rw [if_neg ‹_›]
      split at h0
      · rw [if_pos ‹_›]; simp
      · rw [if_neg ‹_›]
        split at h0
        · rw [if_pos ‹_›]; simp
        · exact absurd rfl h0
/-- What MeaningSeq says, of the pure program. -/
theorem seq_pure (S : List FieldA) (p q : SL) (h : Bool) (vals : List ValA) :
    (((chainP S [] h vals).2 ≠ 0 ∨ (chainP S [] h vals).1 = (h, vals)) ∧ (chainP S [p, q] h vals).2 ≠ 0 ∧ (runP S (p.app q) h vals).2 ≠ 0 ∧ ((runP S p h vals).2 ≠ 0 ∨ (runP S q (runP S p h vals).1.1 (runP S p h vals).1.2).2 ≠ 0)) ∨
    ((chainP S [] h vals).2 = 0 ∧ (chainP S [] h vals).1 = (h, vals) ∧ (chainP S [p, q] h vals).2 = 0 ∧ (runP S p h vals).2 = 0 ∧ (runP S q (runP S p h vals).1.1 (runP S p h vals).1.2).2 = 0 ∧ (chainP S [p, q] h vals).1 = (runP S q (runP S p h vals).1.1 (runP S p h vals).1.2).1 ∧
      (((runP S (p.app q) h vals).2 = 82 ∧ (checkP S (p.app q)).1 = 82) ∨ ((runP S (p.app q) h vals).2 = 0 ∧ (runP S (p.app q) h vals).1 = (chainP S [p, q] h vals).1))) := by
  by_cases hB : (chainP S [p, q] h vals).2 = 0
  · refine Or.inr ?_
    obtain ⟨h1, h2, h3, h4⟩ := chain_ok hB
    obtain ⟨c1, c2⟩ := firstE_two.1 h2
    obtain ⟨hS, hw, hok⟩ := check_ok c1
    obtain ⟨_, hw2, hok2⟩ := check_ok c2
    have z := chain_of (ls := []) h1 rfl h3
    have hp : runP S p h vals = (runS S p (h, vals), 0) := chain_of (ls := [p]) h1 (firstE_one.trans c1) h3
    have hfit := run_fit hS p (h, vals) hw hok (rowE_fit h3)
    have hr2 : rowE S (runS S p (h, vals)).1 (runS S p (h, vals)).2 = 0 := by
      have := rowOf_fit hS hfit
      rw [(rowOf_rowE hS _ _).1] at this
      simpa using this
    have hq : runP S q (runS S p (h, vals)).1 (runS S p (h, vals)).2 = (runS S q (runS S p (h, vals)), 0) := chain_of (ls := [q]) h1 (firstE_one.trans c2) hr2
    rw [z, h4, hp]
    refine ⟨rfl, rfl, rfl, rfl, by rw [hq], by rw [hq]; rfl, ?_⟩
    by_cases hc : checkS (p.app q) = 0
    · obtain ⟨_, j2⟩ := joins_pure hS hc
      have c3 := congrArg Prod.fst ((j2 c1).2 c2)
      have hpq : runP S (p.app q) h vals = (runS S (p.app q) (h, vals), 0) := chain_of (ls := [p.app q]) h1 (firstE_one.trans c3) h3
      exact Or.inr ⟨by rw [hpq], by rw [hpq, runS_app]; rfl⟩
    · have e1 := (checkS_zero.1 (checkP_zero c1).2)
      have e2 := (checkS_zero.1 (checkP_zero c2).2)
      have hwell := wellS_both e1.1 e2.1
      have hd : depthS (p.app q) ≤ 12 := by rw [depthS_app]; omega
      have hcs : checkS (p.app q) = 82 := by
        by_cases hcnt : countS (p.app q) ≤ 32
        · exact absurd (checkS_zero.2 ⟨hwell, hcnt, hd⟩) hc
        · unfold checkS
          rw [if_neg (by simp [hwell]), if_pos (by omega)]
      have hcp : (checkP S (p.app q)).1 = 82 := by
        unfold checkP
        rw [if_neg (by simpa using h1), if_pos hc]
        exact hcs
      refine Or.inl ⟨?_, hcp⟩
      rw [chain_bad (by rw [hcp]; decide)]
      exact hcp
  · refine Or.inl ⟨?_, hB, fun hA => ?_, ?_⟩
    · by_cases hz : (chainP S [] h vals).2 = 0
      · obtain ⟨_, _, _, h4⟩ := chain_ok hz
        rw [h4]
        exact Or.inr rfl
      · exact Or.inl hz
    · obtain ⟨h1, h2, h3, _⟩ := chain_ok hA
      rw [firstE_one] at h2
      obtain ⟨hS, hcs⟩ := checkP_zero h2
      obtain ⟨j1, j2⟩ := joins_pure hS hcs
      have c1 : (checkP S p).1 = 0 := Decidable.byContradiction fun hn => hn (by rw [← j1 hn]; exact h2)
      have c2 : (checkP S q).1 = 0 := Decidable.byContradiction fun hn => hn (by rw [← ((j2 c1).1 hn).1]; exact h2)
      exact hB (by rw [chain_of h1 (firstE_two.2 ⟨c1, c2⟩) h3])
    · by_cases hC : (runP S p h vals).2 = 0
      · refine Or.inr fun hD => hB ?_
        obtain ⟨h1, h2, h3, _⟩ := chain_ok hC
        obtain ⟨_, g2, _, _⟩ := chain_ok hD
        rw [firstE_one] at h2 g2
        rw [chain_of h1 (firstE_two.2 ⟨h2, g2⟩) h3]
      · exact Or.inl hC
end Go.Proofs.YtijfnlfgehcpaaaGreatDoor
