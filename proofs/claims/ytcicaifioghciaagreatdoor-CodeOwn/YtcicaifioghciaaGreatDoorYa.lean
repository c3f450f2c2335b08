import Derived.Test.YtcicaifioghciaaGreatDoorXa
import Derived.Test.YtcicaifioghciaaGreatDoorJzaj
namespace Go.Proofs.YtcicaifioghciaaGreatDoor
open Go.RowKit Go.Maps
theorem brings_more {S : List FieldA} {l : List ValA} {hv : List (Bool × List Int)} {z : Bool × List Int} {i t : Nat} (h : i < hv.length) : bringsB S l (hv ++ [z]) i t = bringsB S l hv i t := by
  unfold bringsB
  rw [List.getElem?_append_left h]
theorem pull_more (S : List FieldA) (l : List ValA) (hv : List (Bool × List Int)) (z : Bool × List Int) (t : Nat) : ∀ k, k ≤ hv.length → pullB S l (hv ++ [z]) t k = pullB S l hv t k
  | 0, _ => rfl
  | k + 1, h => by rw [pullB, pullB, brings_more (by omega), pull_more S l hv z t k (by omega)]
/-- What was brought to a place is what stands there. -/
theorem pull_brought {S : List FieldA} {l : List ValA} {hv : List (Bool × List Int)} {t : Nat} : ∀ {k : Nat} {z : Bool × List Int}, pullB S l hv t k = some z → ∀ i st, i < k → bringsB S l hv i t = some st → z = (true, st)
  | 0, _, _, _, _, hi, _ => absurd hi (Nat.not_lt_zero _)
  | k + 1, z, h, i, st, hi, hb => by
    rw [pullB] at h
    cases hp : pullB S l hv t k with
    | none => rw [hp] at h; cases h
    | some y =>
      obtain ⟨r, s0⟩ := y
      rw [hp] at h
      by_cases hik : i = k
      · subst hik
        rw [hb] at h
        simp only at h
        split at h
        · cases h
        · cases h; rfl
      · have ih := pull_brought hp i st (by omega) hb
        cases ih
        cases hbk : bringsB S l hv k t with
        | none => rw [hbk] at h; cases h; rfl
        | some st2 =>
          rw [hbk] at h
          simp only [true_and] at h
          by_cases he : st = st2
          · subst he; simp at h; exact h.symm
          · rw [if_pos he] at h; cases h
/-- The places of a code that passes. -/
structure HvOK (S : List FieldA) (l : List ValA) (hv : List (Bool × List Int)) : Prop where
  len : hv.length = l.length + 1
  small : ∀ (k : Nat) (z : Bool × List Int), hv[k]? = some z → z.2.length ≤ 16 ∧ ∀ k ∈ z.2, isK k
  beh : ∀ (k : Nat) (st : List Int), k < l.length → hv[k]? = some (true, st) → ∃ x st', l[k]? = some x ∧ behB S x st = some st'
  pull : ∀ (j : Nat) (z : Bool × List Int), hv[j]? = some z → pullB S l hv j j = some z
  last : ∀ st, hv[l.length]? = some (true, st) → st = []
theorem brings_small {S : List FieldA} {l : List ValA} {hv : List (Bool × List Int)} {i t : Nat} {st : List Int} (hS : ∀ f ∈ S, isK f.type) (hF : ∀ i ∈ l, formB i = 0 ∧ rightF S i = true) (hg : ∀ (k : Nat) (z : Bool × List Int), hv[k]? = some z → z.2.length ≤ 16 ∧ ∀ k ∈ z.2, isK k) (h : bringsB S l hv i t = some st) : st.length ≤ 16 ∧ ∀ k ∈ st, isK k := by
  unfold bringsB at h
  split at h
  · rename_i s0 x h1 h2
    split at h
    · obtain ⟨hf, hr⟩ := hF x (List.mem_of_getElem? h2)
      exact ⟨behB_le h, behB_isK hS hf hr (hg i _ h1).2 h⟩
    · cases h
  · cases h
theorem pull_small {S : List FieldA} {l : List ValA} {hv : List (Bool × List Int)} {t : Nat} (hS : ∀ f ∈ S, isK f.type) (hF : ∀ i ∈ l, formB i = 0 ∧ rightF S i = true) (hg : ∀ (k : Nat) (z : Bool × List Int), hv[k]? = some z → z.2.length ≤ 16 ∧ ∀ k ∈ z.2, isK k) : ∀ {k : Nat} {z : Bool × List Int}, pullB S l hv t k = some z → z.2.length ≤ 16 ∧ ∀ k ∈ z.2, isK k
  | 0, z, h => by rw [pullB] at h; cases h; exact ⟨Nat.zero_le _, fun _ q => by cases q⟩
  | k + 1, z, h => by
    rw [pullB] at h
    cases hp : pullB S l hv t k with
    | none => rw [hp] at h; cases h
    | some y =>
      obtain ⟨r, s0⟩ := y
      rw [hp] at h
      cases hbk : bringsB S l hv k t with
      | none => rw [hbk] at h; cases h; exact pull_small hS hF hg hp
      | some st2 =>
        rw [hbk] at h
        simp only at h
        split at h
        · cases h
        · cases h; exact brings_small hS hF hg hbk
theorem snoc_all {α : Type} {P : Nat → α → Prop} {hv : List α} {z : α} (h : ∀ k y, hv[k]? = some y → P k y) (hz : P hv.length z) : ∀ k y, (hv ++ [z])[k]? = some y → P k y := by
  intro k y hy
  by_cases hk : k < hv.length
  · rw [List.getElem?_append_left hk] at hy; exact h k y hy
  · rw [List.getElem?_append_right (by omega)] at hy
    cases hj : k - hv.length with
    | zero =>
      rw [hj] at hy
      simp at hy
      subst hy
      rwa [show k = hv.length by omega]
    | succ j => rw [hj] at hy; simp at hy
theorem pullA_ok {S : List FieldA} {l : List ValA} (hS : ∀ f ∈ S, isK f.type) (hF : ∀ i ∈ l, formB i = 0 ∧ rightF S i = true) : ∀ (rest : List ValA) (k : Nat) (hv hv' : List (Bool × List Int)), rest = l.drop k → k ≤ l.length → hv.length = k →
    (∀ (k : Nat) (z : Bool × List Int), hv[k]? = some z → z.2.length ≤ 16 ∧ ∀ k ∈ z.2, isK k) → (∀ (k : Nat) (st : List Int), hv[k]? = some (true, st) → ∃ x st', l[k]? = some x ∧ behB S x st = some st') → (∀ (j : Nat) (z : Bool × List Int), hv[j]? = some z → pullB S l hv j j = some z) →
    pullA S l k rest hv = (some hv', 0, 0) → HvOK S l hv'
  | [], k, hv, hv', hr, hkl, hlen, hsm, hbe, hpl, h => by
    have hk : k = l.length := by
      have := congrArg List.length hr
      rw [List.length_drop] at this
      simp at this
      omega
    rw [pullA_nil] at h
    cases hp : pullB S l hv k k with
    | none => rw [hp] at h; cases h
    | some z =>
      rw [hp] at h
      simp only at h
      split at h
      · cases h
      · rename_i hz
        cases h
        have hz2 := pull_small hS hF hsm hp
        refine ⟨by simp; omega, snoc_all hsm hz2, ?_, ?_, ?_⟩
        · intro j st hj hy
          rw [List.getElem?_append_left (by omega)] at hy
          exact hbe j st hy
        · refine snoc_all (P := fun j y => pullB S l (hv ++ [z]) j j = some y) (fun j y hy => ?_) ?_
          · have := (List.getElem?_eq_some_iff.1 hy).1
            rw [pull_more S l hv z j j (by omega)]; exact hpl j y hy
          · rw [pull_more S l hv z _ _ (Nat.le_refl _), hlen]; exact hp
        · intro st hst
          rw [← hk, List.getElem?_append_right (by omega), hlen, Nat.sub_self] at hst
          simp at hst
          subst hst
          by_cases hs : st = []
          · exact hs
          · exact absurd ⟨rfl, hs⟩ hz
  | x :: rest, k, hv, hv', hr, hkl, hlen, hsm, hbe, hpl, h => by
    have hkl' : k < l.length := by
      have := congrArg List.length hr
      rw [List.length_drop] at this
      simp at this
      omega
    have hx : l[k]? = some x ∧ rest = l.drop (k + 1) := by
      rw [List.drop_eq_getElem_cons hkl'] at hr
      simp only [List.cons.injEq] at hr
      exact ⟨by rw [List.getElem?_eq_getElem hkl', hr.1], hr.2⟩
    obtain ⟨hxk, hrest⟩ := hx
    rw [pullA_cons] at h
    cases hp : pullB S l hv k k with
    | none => rw [hp] at h; cases h
    | some z =>
      rw [hp] at h
      simp only at h
      split at h
      · cases h
      · rename_i hz
        have hz2 := pull_small hS hF hsm hp
        refine pullA_ok hS hF rest (k + 1) (hv ++ [z]) hv' hrest hkl' (by simp [hlen]) (snoc_all hsm hz2) ?_ ?_ h
        · intro j st hy
          refine snoc_all (P := fun j y => ∀ st, y = (true, st) → ∃ x st', l[j]? = some x ∧ behB S x st = some st') (fun j y hy st e => hbe j st (e ▸ hy)) (fun st e => ?_) j _ hy st rfl
          subst e
          rw [hlen]
          cases hb : behB S x st with
          | none => exact absurd ⟨rfl, hb⟩ hz
          | some st' => exact ⟨x, st', hxk, hb⟩
        · refine snoc_all (P := fun j y => pullB S l (hv ++ [z]) j j = some y) (fun j y hy => ?_) ?_
          · have := (List.getElem?_eq_some_iff.1 hy).1
            rw [pull_more S l hv z j j (by omega)]; exact hpl j y hy
          · rw [pull_more S l hv z _ _ (Nat.le_refl _), hlen]; exact hp
theorem pullA_first {S : List FieldA} {l : List ValA} {hv : List (Bool × List Int)} (h : HvOK S l hv) : hv[0]? = some (true, []) := by
  have h0 : 0 < hv.length := by rw [h.len]; omega
  have := h.pull 0 _ (List.getElem?_eq_getElem h0)
  rw [pullB] at this
  rw [List.getElem?_eq_getElem h0, ← this]
  rfl
/-- Where an instruction leads, the stack is the one behind it. -/
theorem HvOK.next {S : List FieldA} {l : List ValA} {hv : List (Bool × List Int)} (h : HvOK S l hv) {k t : Nat} {x : ValA} {st st' : List Int} (hk : hv[k]? = some (true, st)) (hx : l[k]? = some x) (hb : behB S x st = some st') (hl : leadsB k x t = true) (ht : t ≤ l.length) : hv[t]? = some (true, st') := by
  have hkt : k < t := by
    unfold leadsB at hl
    simp at hl
    omega
  have h0 : t < hv.length := by rw [h.len]; omega
  have hz := List.getElem?_eq_getElem h0
  have hp := h.pull t _ hz
  have hbr : bringsB S l hv k t = some st' := by
    unfold bringsB
    rw [hk, hx]
    simp [hl, hb]
  rw [hz, pull_brought hp k st' hkt hbr]
theorem deepH_le {hv : List (Bool × List Int)} {k : Nat} {z : Bool × List Int} (h : hv[k]? = some z) : z.2.length ≤ deepH hv := by
  have key : ∀ (l : List (Bool × List Int)) (d : Nat), d ≤ l.foldl (fun d z => max d z.2.length) d ∧ ∀ z ∈ l, z.2.length ≤ l.foldl (fun d z => max d z.2.length) d := by
    intro l
    induction l with
    | nil => intro d; exact ⟨Nat.le_refl _, fun z hz => by cases hz⟩
    | cons a r ih =>
      intro d
      have := ih (max d a.2.length)
      refine ⟨Nat.le_trans (Nat.le_max_left _ _) this.1, fun z hz => ?_⟩
      rcases List.mem_cons.1 hz with rfl | hz
      · exact Nat.le_trans (Nat.le_max_right _ _) this.1
      · exact this.2 z hz
  exact (key hv 0).2 z (List.mem_of_getElem? h)

end Go.Proofs.YtcicaifioghciaaGreatDoor
