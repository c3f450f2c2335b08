import Derived.Test.YtafniangljmjeaaDoorNu
namespace Go.Proofs.YtafniangljmjeaaDoor
open Go.RowKit Go.Maps

theorem headN_8 {l : List FieldA} {r : List ValA} (hl : l.length ≤ 8) (hr : r.length = l.length) : headN (bitsOf (l.zip r)) < 256 := by
  have h1 := headN_lt (bitsOf (l.zip r))
  have h2 : (bitsOf (l.zip r)).length ≤ 8 := by rw [bitsOf_length l r hr]; exact Nat.le_trans (opts_le l) hl
  have := pow2_le h2
  omega
theorem decP_of_enc {l : List FieldA} {r : List ValA} (hs : schemaB l = true) (he : errR l r = 0) (hI : InR r) : (encB l r).length ≥ headB l ∧ decP l (head0 l (encB l r)) ((encB l r).drop (headB l)) = some (r, 0, []) := by
  obtain ⟨_, hr, hf⟩ := errR_zero he
  have hl := (schemaB_len hs).2
  have hd := decP_enc l r 0 [] hr hf hI
  rw [Nat.mul_zero, Nat.add_zero, List.append_nil] at hd
  rcases headT_cases l r hr hl with ⟨hH, hT⟩ | ⟨hH, hT⟩
  · have hb0 : bitsOf (l.zip r) = [] := by
      unfold headT at hT
      split at hT
      · cases hT
      · rename_i h; exact List.eq_nil_of_length_eq_zero (by omega)
    have e : encB l r = r.flatMap enc1 := by unfold encB; rw [hT]; rfl
    have h0 : head0 l (encB l r) = headN (bitsOf (l.zip r)) := by unfold head0; rw [hH, hb0]; rfl
    rw [h0, hH, e]
    exact ⟨by omega, hd⟩
  · have e : encB l r = UInt8.ofNat (headN (bitsOf (l.zip r))) :: r.flatMap enc1 := by unfold encB; rw [hT]; rfl
    have h0 : head0 l (encB l r) = headN (bitsOf (l.zip r)) := by
      unfold head0
      rw [hH, e]
      simp only [Nat.zero_lt_one, if_true]
      exact ofNat_lt (headN_8 hl hr)
    rw [h0, hH, e]
    exact ⟨by simp, hd⟩
theorem decodeP_enc {l : List FieldA} {r : List ValA} (hs : schemaB l = true) (he : errR l r = 0) (hI : InR r) : decodeP l (encB l r) = some r := by
  obtain ⟨h1, h2⟩ := decP_of_enc hs he hI
  unfold decodeP
  rw [if_neg (by omega), h2]
  simp
theorem decodeP_some {l : List FieldA} {t : Txt} {r : List ValA} (h : decodeP l t = some r) : headB l ≤ t.length ∧ decP l (head0 l t) (t.drop (headB l)) = some (r, 0, []) := by
  unfold decodeP at h
  split at h
  · cases h
  · rename_i hl
    cases hd : decP l (head0 l t) (t.drop (headB l)) with
    | none => rw [hd] at h; cases h
    | some q =>
      rw [hd] at h
      simp only [Option.bind_some] at h
      split at h
      · rename_i hq
        simp only [Option.some.injEq] at h
        obtain ⟨q1, q2, q3⟩ := q
        simp only at hq h
        refine ⟨by omega, ?_⟩
        rw [hq.1, hq.2, h]
      · cases h
theorem errR_of {l : List FieldA} {r : List ValA} (hs : schemaB l = true) (hr : r.length = l.length) (hf : fitAll l r = true) : errR l r = 0 := by
  unfold errR recB
  rw [hs, if_pos rfl, decide_eq_true hr, hf]
  rfl
theorem decodeP_sound {l : List FieldA} {t : Txt} {r : List ValA} (hs : schemaB l = true) (h : decodeP l t = some r) : errR l r = 0 ∧ InR r ∧ encB l r = t := by
  obtain ⟨hH, hd⟩ := decodeP_some h
  obtain ⟨h1, h2, h3, h4, h5⟩ := decP_sound l _ _ r 0 [] (schemaB_ok hs) hd
  rw [Nat.mul_zero, Nat.add_zero] at h5
  rw [List.append_nil] at h4
  refine ⟨errR_of hs h1 h2, h3, ?_⟩
  unfold encB
  rcases headT_cases l r h1 (schemaB_len hs).2 with ⟨hh, hT⟩ | ⟨hh, hT⟩
  · rw [hT, ← h4, hh]
    rfl
  · rw [hT, ← h5]
    rw [hh] at hH h4
    cases t with
    | nil => simp at hH
    | cons c t' =>
      have : head0 l (c :: t') = c.toNat := by unfold head0; rw [hh]; rfl
      rw [this, ofNat_toNat, ← h4]
      rfl
theorem head0_app {l : List FieldA} {t x : Txt} (h : headB l ≤ t.length) : head0 l (t ++ x) = head0 l t := by
  unfold head0
  split
  · rename_i hp
    cases t with
    | nil => simp at h; omega
    | cons c t => rfl
  · rfl
theorem decodeP_more {l : List FieldA} {r : List ValA} (hs : schemaB l = true) (he : errR l r = 0) (hI : InR r) (x : UInt8) : decodeP l (encB l r ++ [x]) = none := by
  obtain ⟨h1, h2⟩ := decP_of_enc hs he hI
  have h3 := decP_app _ _ _ _ _ _ [x] h2
  unfold decodeP
  rw [if_neg (by rw [List.length_append]; omega), head0_app h1, List.drop_append_of_le_length h1, h3]
  simp
theorem decodeP_less {l : List FieldA} {r : List ValA} (hs : schemaB l = true) (he : errR l r = 0) (hI : InR r) {n : Nat} (hn : n < (encB l r).length) : decodeP l ((encB l r).take n) = none := by
  obtain ⟨h1, h2⟩ := decP_of_enc hs he hI
  cases hd : decodeP l ((encB l r).take n) with
  | none => rfl
  | some r' =>
    exfalso
    obtain ⟨hH, hd'⟩ := decodeP_some hd
    have h3 := decP_app _ _ _ _ _ _ ((encB l r).drop n) hd'
    have e1 : head0 l ((encB l r).take n) = head0 l (encB l r) := by
      have := head0_app (l := l) (t := (encB l r).take n) (x := (encB l r).drop n) hH
      rw [List.take_append_drop] at this
      exact this.symm
    rw [e1, ← List.drop_append_of_le_length hH, List.take_append_drop, h2] at h3
    simp only [Option.some.injEq, Prod.mk.injEq, List.nil_append] at h3
    have := congrArg List.length h3.2.2
    simp at this
    omega

/-- Schemas as Shaped makes them. -/
structure ShapeOK (L : List FieldA) (W : Int) : Prop where
  len : L.length ≤ 8
  fld : ∀ (j : Nat) (f : FieldA), L[j]? = some f → f.name = [102, UInt8.ofNat (97 + j)] ∧ (f.type = 1 ∨ f.type = 2 ∨ f.type = 3)
  wid : W = 1 + wides L
  le : W ≤ 64
end Go.Proofs.YtafniangljmjeaaDoor
