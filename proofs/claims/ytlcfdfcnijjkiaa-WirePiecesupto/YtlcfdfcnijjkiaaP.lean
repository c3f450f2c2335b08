import Derived.Test.YtlcfdfcnijjkiaaC
namespace Go.Proofs.Ytlcfdfcnijjkiaa
open Go.RowKit Go.Maps

theorem lenP_app {l m : Txt} (h : 4 ≤ l.length) : lenP (l ++ m) = lenP l := by
  unfold lenP
  rw [byteP_app (by omega), byteP_app (by omega), byteP_app (by omega), byteP_app (by omega)]
/-- A stream's parts, what stands behind the last one, and whether it is broken. -/
def cutP (l : Txt) : List Txt × Txt × Bool :=
  if _ : l.length < 4 then ([], l, false)
  else if _ : lenP l < 14 ∨ 32768 < lenP l then ([], [], true)
  else if _ : l.length < lenP l then ([], l, false)
  else (l.take (lenP l) :: (cutP (l.drop (lenP l))).1, (cutP (l.drop (lenP l))).2)
termination_by l.length
decreasing_by all_goals (simp; omega)
theorem cut_short {l : Txt} (h : l.length < 4) : cutP l = ([], l, false) := by rw [cutP, dif_pos h]
theorem cut_bad {l : Txt} (h : 4 ≤ l.length) (hb : lenP l < 14 ∨ 32768 < lenP l) : cutP l = ([], [], true) := by rw [cutP, dif_neg (by omega), dif_pos hb]
theorem cut_wait {l : Txt} (h : 4 ≤ l.length) (hb : ¬ (lenP l < 14 ∨ 32768 < lenP l)) (hl : l.length < lenP l) : cutP l = ([], l, false) := by rw [cutP, dif_neg (by omega), dif_neg hb, dif_pos hl]
theorem cut_part {l : Txt} (hb : ¬ (lenP l < 14 ∨ 32768 < lenP l)) (hl : lenP l ≤ l.length) : cutP l = (l.take (lenP l) :: (cutP (l.drop (lenP l))).1, (cutP (l.drop (lenP l))).2) := by
  rw [cutP, dif_neg (by omega), dif_neg hb, dif_neg (by omega)]
/-- A beginning of a part that is not yet whole. -/
def Waits (r : Txt) : Prop := r.length < 4 ∨ (4 ≤ r.length ∧ ¬ (lenP r < 14 ∨ 32768 < lenP r) ∧ r.length < lenP r)
theorem Waits.cut {r : Txt} (h : Waits r) : cutP r = ([], r, false) := by
  rcases h with h | ⟨h1, h2, h3⟩
  · exact cut_short h
  · exact cut_wait h1 h2 h3
theorem waits_nil : Waits [] := Or.inl (by simp)
theorem cut_rest : ∀ (n : Nat) (l : Txt), l.length ≤ n → ∀ ps r, cutP l = (ps, r, false) → Waits r
  | 0, l, hn, ps, r, h => by
    rw [cut_short (by omega)] at h
    simp at h
    rw [← h.2]
    exact Or.inl (by omega)
  | n + 1, l, hn, ps, r, h => by
    by_cases h4 : l.length < 4
    · rw [cut_short h4] at h
      simp at h
      rw [← h.2]
      exact Or.inl h4
    by_cases hb : lenP l < 14 ∨ 32768 < lenP l
    · rw [cut_bad (by omega) hb] at h
      simp at h
    by_cases hl : l.length < lenP l
    · rw [cut_wait (by omega) hb hl] at h
      simp at h
      rw [← h.2]
      exact Or.inr ⟨by omega, hb, hl⟩
    rw [cut_part hb (by omega)] at h
    simp only [Prod.mk.injEq] at h
    exact cut_rest n (l.drop (lenP l)) (by rw [List.length_drop]; omega) (cutP (l.drop (lenP l))).1 r (by rw [← h.2])
theorem cut_app : ∀ (n : Nat) (l : Txt), l.length ≤ n → ∀ ps r, cutP l = (ps, r, false) → ∀ m, cutP (l ++ m) = (ps ++ (cutP (r ++ m)).1, (cutP (r ++ m)).2)
  | 0, l, hn, ps, r, h, m => by
    rw [cut_short (by omega)] at h
    simp at h
    obtain ⟨rfl, rfl⟩ := h
    rfl
  | n + 1, l, hn, ps, r, h, m => by
    by_cases h4 : l.length < 4
    · rw [cut_short h4] at h
      simp at h
      obtain ⟨rfl, rfl⟩ := h
      rfl
    by_cases hb : lenP l < 14 ∨ 32768 < lenP l
    · rw [cut_bad (by omega) hb] at h
      simp at h
    by_cases hl : l.length < lenP l
    · rw [cut_wait (by omega) hb hl] at h
      simp at h
      obtain ⟨rfl, rfl⟩ := h
      rfl
    rw [cut_part hb (by omega)] at h
    simp only [Prod.mk.injEq] at h
    have ih := cut_app n (l.drop (lenP l)) (by rw [List.length_drop]; omega) (cutP (l.drop (lenP l))).1 r (by rw [← h.2]) m
    have e : lenP (l ++ m) = lenP l := lenP_app (by omega)
    rw [cut_part (by rw [e]; exact hb) (by rw [e, List.length_append]; omega), e, List.take_append_of_le_length (by omega), List.drop_append_of_le_length (by omega), ih, ← h.1]
    rfl
/-- The parts and what stands behind them are no longer than the stream. -/
theorem cut_len : ∀ (n : Nat) (l : Txt), l.length ≤ n → (cutP l).1.length ≤ l.length ∧ (cutP l).2.1.length ≤ l.length ∧ (∀ p ∈ (cutP l).1, p.length ≤ l.length)
  | 0, l, hn => by rw [cut_short (by omega)]; simp
  | n + 1, l, hn => by
    by_cases h4 : l.length < 4
    · rw [cut_short h4]; simp
    by_cases hb : lenP l < 14 ∨ 32768 < lenP l
    · rw [cut_bad (by omega) hb]; simp
    by_cases hl : l.length < lenP l
    · rw [cut_wait (by omega) hb hl]; simp
    rw [cut_part hb (by omega)]
    obtain ⟨h1, h2, h3⟩ := cut_len n (l.drop (lenP l)) (by rw [List.length_drop]; omega)
    rw [List.length_drop] at h1 h2 h3
    refine ⟨by simp only [List.length_cons]; omega, by show (cutP (l.drop (lenP l))).2.1.length ≤ _; omega, fun p hp => ?_⟩
    rcases List.mem_cons.1 hp with rfl | hp
    · rw [List.length_take]; omega
    · have := h3 p hp
      omega
/-- One step of a feeder: it takes of a piece what the next part lacks. -/
def wantP (r : Txt) : Nat := if r.length < 4 then 4 else lenP r
def takeP (r p : Txt) : Nat := min (wantP r - r.length) p.length
theorem want_lt {r : Txt} (h : Waits r) : r.length < wantP r := by
  unfold wantP
  rcases h with h | ⟨h1, h2, h3⟩
  · rw [if_pos h]; exact h
  · rw [if_neg (by omega)]; exact h3
theorem take_pos {r p : Txt} (h : Waits r) (hp : 0 < p.length) : 0 < takeP r p := by
  have := want_lt h
  unfold takeP
  omega
/-- What is there behind the step: it waits on, or it is broken, or it is a part. -/
theorem step_cases {r p : Txt} (h : Waits r) : 
    (Waits (r ++ p.take (takeP r p)) ∧ ((r ++ p.take (takeP r p)).length < 4 ∨ (4 ≤ (r ++ p.take (takeP r p)).length ∧ ¬ (lenP (r ++ p.take (takeP r p)) < 14 ∨ 32768 < lenP (r ++ p.take (takeP r p))) ∧ (r ++ p.take (takeP r p)).length < lenP (r ++ p.take (takeP r p))))) ∨
    (4 ≤ (r ++ p.take (takeP r p)).length ∧ (lenP (r ++ p.take (takeP r p)) < 14 ∨ 32768 < lenP (r ++ p.take (takeP r p)))) ∨
    (4 ≤ (r ++ p.take (takeP r p)).length ∧ ¬ (lenP (r ++ p.take (takeP r p)) < 14 ∨ 32768 < lenP (r ++ p.take (takeP r p))) ∧ (r ++ p.take (takeP r p)).length = lenP (r ++ p.take (takeP r p))) := by
  have hlen : (r ++ p.take (takeP r p)).length = r.length + takeP r p := by
    rw [List.length_append, List.length_take]
    unfold takeP
    omega
  by_cases h4 : (r ++ p.take (takeP r p)).length < 4
  · exact Or.inl ⟨Or.inl h4, Or.inl h4⟩
  by_cases hb : lenP (r ++ p.take (takeP r p)) < 14 ∨ 32768 < lenP (r ++ p.take (takeP r p))
  · exact Or.inr (Or.inl ⟨by omega, hb⟩)
  have hle : (r ++ p.take (takeP r p)).length ≤ lenP (r ++ p.take (takeP r p)) := by
    rw [hlen]
    rcases h with h | ⟨h1, h2, h3⟩
    · have : takeP r p ≤ 4 - r.length := by unfold takeP wantP; rw [if_pos h]; omega
      omega
    · rw [lenP_app h1]
      have : takeP r p ≤ lenP r - r.length := by unfold takeP wantP; rw [if_neg (by omega)]; omega
      omega
  by_cases hl : (r ++ p.take (takeP r p)).length = lenP (r ++ p.take (takeP r p))
  · exact Or.inr (Or.inr ⟨by omega, hb, hl⟩)
  · have hw : 4 ≤ (r ++ p.take (takeP r p)).length ∧ ¬ (lenP (r ++ p.take (takeP r p)) < 14 ∨ 32768 < lenP (r ++ p.take (takeP r p))) ∧ (r ++ p.take (takeP r p)).length < lenP (r ++ p.take (takeP r p)) := ⟨by omega, hb, by omega⟩
    exact Or.inl ⟨Or.inr hw, Or.inr hw⟩
theorem split_eq (r p : Txt) : r ++ p = (r ++ p.take (takeP r p)) ++ p.drop (takeP r p) := by rw [List.append_assoc, List.take_append_drop]
/-- The three ways a step goes on. -/
theorem cut_breaks {s p : Txt} (h : 4 ≤ s.length) (hb : lenP s < 14 ∨ 32768 < lenP s) : cutP (s ++ p) = ([], [], true) :=
  cut_bad (by rw [List.length_append]; omega) (by rw [lenP_app h]; exact hb)
theorem cut_whole {s p : Txt} (h : 4 ≤ s.length) (hb : ¬ (lenP s < 14 ∨ 32768 < lenP s)) (hl : s.length = lenP s) : cutP (s ++ p) = (s :: (cutP p).1, (cutP p).2) := by
  have e : lenP (s ++ p) = lenP s := lenP_app h
  rw [cut_part (by rw [e]; exact hb) (by rw [e, List.length_append]; omega), e, ← hl, List.take_left, List.drop_left]
end Go.Proofs.Ytlcfdfcnijjkiaa
