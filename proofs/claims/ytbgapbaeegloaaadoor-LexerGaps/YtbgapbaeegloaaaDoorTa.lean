import Derived.Test.YtbgapbaeegloaaaDoorMa
namespace Go.Proofs.YtbgapbaeegloaaaDoor
open Go.RowKit Go.Maps

/-- A rune is told by its own bytes: what stands behind them does not matter. -/
theorem decN_local (n k c0 c1 c2 c3 d1 d2 d3 : Nat) (e1 : 1 < n → 1 < k → d1 = c1) (e2 : 2 < n → 2 < k → d2 = c2) (e3 : 3 < n → 3 < k → d3 = c3)
    (hm : (Lib.decodeN n c0 c1 c2 c3).2 ≤ k) (hb : ¬ ((Lib.decodeN n c0 c1 c2 c3).1 = 65533 ∧ (Lib.decodeN n c0 c1 c2 c3).2 ≠ 3)) : Lib.decodeN k c0 d1 d2 d3 = Lib.decodeN n c0 c1 c2 c3 := by
  unfold Lib.decodeN at hm hb ⊢
  by_cases h0 : c0 < 128
  · rw [if_pos h0, if_pos h0]
  · rw [if_neg h0] at hm hb
    rw [if_neg h0, if_neg h0]
    by_cases h2 : c0 / 32 = 6 ∧ (1 < n ∧ c1 / 64 = 2)
    · rw [if_pos h2] at hm hb ⊢
      by_cases h2' : c0 % 32 * 64 + c1 % 64 ≥ 128
      · rw [if_pos h2'] at hm hb ⊢
        simp only at hm
        rw [e1 h2.2.1 (by omega), if_pos ⟨h2.1, by omega, h2.2.2⟩, if_pos h2']
      · rw [if_neg h2'] at hb
        exact absurd ⟨rfl, by decide⟩ hb
    · rw [if_neg h2] at hm hb ⊢
      by_cases h3 : c0 / 16 = 14 ∧ (1 < n ∧ c1 / 64 = 2) ∧ (2 < n ∧ c2 / 64 = 2)
      · rw [if_pos h3] at hm hb ⊢
        by_cases h3' : c0 % 16 * 4096 + c1 % 64 * 64 + c2 % 64 ≥ 2048 ∧ (c0 % 16 * 4096 + c1 % 64 * 64 + c2 % 64 < 55296 ∨ (57344 ≤ c0 % 16 * 4096 + c1 % 64 * 64 + c2 % 64 ∧ c0 % 16 * 4096 + c1 % 64 * 64 + c2 % 64 ≤ 1114111))
        · rw [if_pos h3'] at hm hb ⊢
          simp only at hm
          rw [e1 h3.2.1.1 (by omega), e2 h3.2.2.1 (by omega), if_neg (by omega), if_pos ⟨h3.1, ⟨by omega, h3.2.1.2⟩, by omega, h3.2.2.2⟩, if_pos h3']
        · rw [if_neg h3'] at hb
          exact absurd ⟨rfl, by decide⟩ hb
      · rw [if_neg h3] at hm hb ⊢
        by_cases h4 : c0 / 8 = 30 ∧ (1 < n ∧ c1 / 64 = 2) ∧ (2 < n ∧ c2 / 64 = 2) ∧ (3 < n ∧ c3 / 64 = 2)
        · rw [if_pos h4] at hm hb ⊢
          by_cases h4' : c0 % 8 * 262144 + c1 % 64 * 4096 + c2 % 64 * 64 + c3 % 64 ≥ 65536 ∧ (c0 % 8 * 262144 + c1 % 64 * 4096 + c2 % 64 * 64 + c3 % 64 < 55296 ∨ (57344 ≤ c0 % 8 * 262144 + c1 % 64 * 4096 + c2 % 64 * 64 + c3 % 64 ∧ c0 % 8 * 262144 + c1 % 64 * 4096 + c2 % 64 * 64 + c3 % 64 ≤ 1114111))
          · rw [if_pos h4'] at hm hb ⊢
            simp only at hm
            rw [e1 h4.2.1.1 (by omega), e2 h4.2.2.1.1 (by omega), e3 h4.2.2.2.1 (by omega), if_neg (by omega), if_neg (by omega), if_pos ⟨h4.1, ⟨by omega, h4.2.1.2⟩, ⟨by omega, h4.2.2.1.2⟩, by omega, h4.2.2.2.2⟩, if_pos h4']
          · rw [if_neg h4'] at hb
            exact absurd ⟨rfl, by decide⟩ hb
        · rw [if_neg h4] at hb
          exact absurd ⟨rfl, by decide⟩ hb
theorem bad_iff (T : Txt) : badB T = false ↔ ¬ ((dec T).1 = 65533 ∧ (dec T).2 ≠ 3) := by
  unfold badB
  by_cases h1 : (dec T).1 = 65533 <;> by_cases h2 : (dec T).2 = 3 <;> simp [h1, h2]
theorem dec_local {A B : Txt} (ha : 0 < A.length) (hb : 0 < B.length) (hm : (dec A).2 ≤ B.length) (hg : badB A = false) (he : ∀ i, i < A.length → i < B.length → A.getD i 0 = B.getD i 0) : dec B = dec A := by
  have h0 := he 0 ha hb
  unfold dec
  rw [← h0]
  refine decN_local _ _ _ _ _ _ _ _ _ (fun p q => ?_) (fun p q => ?_) (fun p q => ?_) hm ((bad_iff A).1 hg)
  · rw [he 1 p q]
  · rw [he 2 p q]
  · rw [he 3 p q]
theorem bad_same {A B : Txt} (h : dec B = dec A) : badB B = badB A := by unfold badB; rw [h]
theorem dec_take {T : Txt} {k : Nat} (hk : (dec T).2 ≤ k) (hT : 0 < T.length) (hg : badB T = false) : dec (T.take k) = dec T := by
  have h1 := dec_pos T
  have h2 := dec_fit T hT
  refine dec_local hT (by rw [List.length_take]; omega) (by rw [List.length_take]; omega) hg (fun i h3 h4 => ?_)
  rw [List.length_take] at h4
  rw [List.getD_eq_getElem?_getD, List.getD_eq_getElem?_getD, List.getElem?_take_of_lt (by omega)]
theorem dec_append {A B : Txt} (hA : 0 < A.length) (hg : badB A = false) : dec (A ++ B) = dec A := by
  have h2 := dec_fit A hA
  refine dec_local hA (by rw [List.length_append]; omega) (by rw [List.length_append]; omega) hg (fun i h3 h4 => ?_)
  rw [List.getD_eq_getElem?_getD, List.getD_eq_getElem?_getD, List.getElem?_append_left h3]
/-- Whole runes. -/
inductive Val : Txt → Prop
  | nil : Val []
  | step {T : Txt} (h : 0 < T.length) (hb : badB T = false) (hv : Val (T.drop (dec T).2)) : Val T
theorem Val.inv {T : Txt} (h : Val T) (h0 : 0 < T.length) : badB T = false ∧ Val (T.drop (dec T).2) := by
  cases h with
  | nil => simp at h0
  | step a b c => exact ⟨b, c⟩
theorem val_runes (t : Txt) : ∀ (f a : Nat), a ≤ t.length → t.length + 1 ≤ a + f → (runesL t f a = t.length → Val (t.drop a)) ∧ (Val (t.drop a) → runesL t f a = t.length) ∧ (runesL t f a < t.length → a ≤ runesL t f a ∧ badB (t.drop (runesL t f a)) = true ∧ Val ((t.drop a).take (runesL t f a - a))) ∧ runesL t f a ≤ t.length := by
  intro f
  induction f with
  | zero => intro a h1 h2; omega
  | succ f ih =>
    intro a h1 h2
    rw [runesL]
    by_cases hlt : a < t.length
    · rw [if_pos hlt]
      have hl : 0 < (t.drop a).length := by rw [List.length_drop]; omega
      cases hb : badB (t.drop a) with
      | true =>
        simp only [if_true]
        refine ⟨fun h => by omega, fun h => ?_, fun _ => ⟨Nat.le_refl _, hb, by rw [Nat.sub_self, List.take_zero]; exact .nil⟩, by omega⟩
        have := (h.inv hl).1
        rw [hb] at this
        cases this
      | false =>
        simp only [Bool.false_eq_true, if_false]
        have hp := dec_pos (t.drop a)
        have hf := dec_fit (t.drop a) hl
        rw [List.length_drop] at hf
        obtain ⟨i1, i2, i3, i4⟩ := ih (a + (dec (t.drop a)).2) (by omega) (by omega)
        have ed : (t.drop a).drop (dec (t.drop a)).2 = t.drop (a + (dec (t.drop a)).2) := by rw [List.drop_drop]
        refine ⟨fun h => .step hl hb (by rw [ed]; exact i1 h), fun h => ?_, fun h => ?_, i4⟩
        · exact i2 (by rw [← ed]; exact (h.inv hl).2)
        · obtain ⟨j1, j2, j3⟩ := i3 h
          refine ⟨by omega, j2, ?_⟩
          have e2 : dec ((t.drop a).take (runesL t f (a + (dec (t.drop a)).2) - a)) = dec (t.drop a) := dec_take (by omega) hl hb
          refine .step (by rw [List.length_take, List.length_drop]; omega) (by rw [bad_same e2]; exact hb) ?_
          rw [e2, List.drop_take, ed]
          rw [show runesL t f (a + (dec (t.drop a)).2) - a - (dec (t.drop a)).2 = runesL t f (a + (dec (t.drop a)).2) - (a + (dec (t.drop a)).2) by omega]
          exact j3
    · rw [if_neg hlt]
      obtain rfl : a = t.length := by omega
      refine ⟨fun _ => by rw [List.drop_length]; exact .nil, fun _ => rfl, fun h => by omega, Nat.le_refl _⟩
theorem val_iff (t : Txt) : runesB t = t.length ↔ Val t := by
  obtain ⟨h1, h2, _, _⟩ := val_runes t (t.length + 1) 0 (by omega) (by omega)
  exact ⟨fun h => by simpa using h1 h, fun h => h2 (by simpa using h)⟩
theorem runes_le (t : Txt) : runesB t ≤ t.length := (val_runes t (t.length + 1) 0 (by omega) (by omega)).2.2.2
theorem runes_bad (t : Txt) (h : runesB t < t.length) : badB (t.drop (runesB t)) = true ∧ Val (t.take (runesB t)) := by
  obtain ⟨_, _, h3, _⟩ := val_runes t (t.length + 1) 0 (by omega) (by omega)
  obtain ⟨_, j2, j3⟩ := h3 h
  exact ⟨j2, by unfold runesB; simpa using j3⟩
theorem runes_zero (T : Txt) (h : 0 < T.length) (hb : badB T = true) : runesB T = 0 := by
  unfold runesB
  rw [runesL, if_pos h, List.drop_zero, hb]
  rfl
theorem Val.append {A B : Txt} (h : Val A) (k : Val B) : Val (A ++ B) := by
  induction h with
  | nil => exact k
  | step h0 hg hv ih =>
    rename_i T
    have e := dec_append (B := B) h0 hg
    refine .step (by rw [List.length_append]; omega) (by rw [bad_same e]; exact hg) ?_
    rw [e, List.drop_append_of_le_length (dec_fit T h0)]
    exact ih
theorem dec_ascii (T : Txt) (h : (T.getD 0 0).toNat < 128) : dec T = ((T.getD 0 0).toNat, 1) := by
  unfold dec Lib.decodeN
  rw [if_pos h]
theorem val_ascii : ∀ T : Txt, (∀ c ∈ T, c.toNat < 128) → Val T
  | [], _ => .nil
  | c :: r, h => by
    have hc := h c (List.mem_cons_self ..)
    have e : dec (c :: r) = (c.toNat, 1) := dec_ascii _ hc
    refine .step (by simp) ?_ ?_
    · rw [bad_iff, e]; simp only; omega
    · rw [e]; exact val_ascii r (fun x hx => h x (List.mem_cons_of_mem _ hx))
theorem decN_high (n c0 c1 c2 c3 : Nat) : (1 < (Lib.decodeN n c0 c1 c2 c3).2 → 128 ≤ c0 ∧ 128 ≤ c1) ∧ (2 < (Lib.decodeN n c0 c1 c2 c3).2 → 128 ≤ c2) ∧ (3 < (Lib.decodeN n c0 c1 c2 c3).2 → 128 ≤ c3) ∧ (Lib.decodeN n c0 c1 c2 c3).2 ≤ 4 := by
  unfold Lib.decodeN
  repeat' split
  all_goals (simp only; omega)
/-- An ascii byte among whole runes is one by itself. -/
theorem Val.cut {T : Txt} (h : Val T) : ∀ (p : Nat) (c : UInt8), T[p]? = some c → c.toNat < 128 → Val (T.take p) ∧ Val (T.drop p) ∧ Val (T.take (p + 1)) ∧ Val (T.drop (p + 1)) := by
  induction h with
  | nil => intro p c hc; simp at hc
  | step h0 hg hv ih =>
    rename_i T
    intro p c hc hc8
    have hw := dec_fit T h0
    have hp := dec_pos T
    have hpl : p < T.length := (List.getElem?_eq_some_iff.1 hc).1
    by_cases hlt : p < (dec T).2
    · have hgd : T.getD p 0 = c := by rw [List.getD_eq_getElem?_getD, hc]; rfl
      obtain ⟨k1, k2, k3, k4⟩ := decN_high T.length (T.getD 0 0).toNat (T.getD 1 0).toNat (T.getD 2 0).toNat (T.getD 3 0).toNat
      have kk1 : 1 < (dec T).2 → 128 ≤ (T.getD 0 0).toNat ∧ 128 ≤ (T.getD 1 0).toNat := k1
      have kk2 : 2 < (dec T).2 → 128 ≤ (T.getD 2 0).toNat := k2
      have kk3 : 3 < (dec T).2 → 128 ≤ (T.getD 3 0).toNat := k3
      have kk4 : (dec T).2 ≤ 4 := k4
      have hp0 : p = 0 ∧ (dec T).2 = 1 := by
        by_cases h1 : (dec T).2 = 1
        · exact ⟨by omega, h1⟩
        · exfalso
          have q : p = 0 ∨ p = 1 ∨ p = 2 ∨ p = 3 := by omega
          rcases q with rfl | rfl | rfl | rfl
          · have := (kk1 (by omega)).1; rw [hgd] at this; omega
          · have := (kk1 (by omega)).2; rw [hgd] at this; omega
          · have := kk2 (by omega); rw [hgd] at this; omega
          · have := kk3 (by omega); rw [hgd] at this; omega
      obtain ⟨rfl, hd⟩ := hp0
      refine ⟨by rw [List.take_zero]; exact .nil, by rw [List.drop_zero]; exact .step h0 hg hv, ?_, by rw [← hd]; simpa using hv⟩
      refine val_ascii _ (fun x hx => ?_)
      have : T.take (0 + 1) = [c] := by
        cases T with
        | nil => simp at hc
        | cons a r => simp at hc; simp [hc]
      rw [this] at hx
      simp at hx
      rw [hx]; exact hc8
    · have hc2 : (T.drop (dec T).2)[p - (dec T).2]? = some c := by rw [List.getElem?_drop, show (dec T).2 + (p - (dec T).2) = p by omega]; exact hc
      obtain ⟨i1, i2, i3, i4⟩ := ih (p - (dec T).2) c hc2 hc8
      have tk : ∀ k, (dec T).2 ≤ k → k ≤ T.length → Val ((T.drop (dec T).2).take (k - (dec T).2)) → Val (T.take k) := fun k hk hk2 hv' => by
        have e := dec_take hk h0 hg
        refine .step (by rw [List.length_take]; omega) (by rw [bad_same e]; exact hg) ?_
        rw [e, List.drop_take]
        exact hv'
      refine ⟨tk p (by omega) (by omega) i1, ?_, tk (p + 1) (by omega) (by omega) (by rw [show p + 1 - (dec T).2 = p - (dec T).2 + 1 by omega]; exact i3), ?_⟩
      · rw [List.drop_drop, show (dec T).2 + (p - (dec T).2) = p by omega] at i2; exact i2
      · rw [List.drop_drop, show (dec T).2 + (p - (dec T).2 + 1) = p + 1 by omega] at i4; exact i4
end Go.Proofs.YtbgapbaeegloaaaDoor
