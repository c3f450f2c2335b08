import Derived.Test.YtabjomgikljdhaaDoorNt
namespace Go.Proofs.YtabjomgikljdhaaDoor
open Go.RowKit Go.Maps

theorem bitsOf_cons (f : FieldA) (x : ValA) (z : List (FieldA × ValA)) : bitsOf ((f, x) :: z) = if f.opt then decide (x.kind ≠ 0) :: bitsOf z else bitsOf z := by
  unfold bitsOf
  cases h : f.opt <;> simp [h]
theorem fits_absent {f : FieldA} {x : ValA} (h : fitsB f x = true) (hk : x.kind = 0) : f.opt = true ∧ x = ⟨0, 0, []⟩ := by
  obtain ⟨k, n, s⟩ := x
  simp only at hk
  subst hk
  simp [fitsB] at h
  simp [h]

theorem decP_enc : ∀ (l : List FieldA) (r : List ValA) (m : Nat) (e : Txt), r.length = l.length → fitAll l r = true → InR r → decP l (headN (bitsOf (l.zip r)) + 2 ^ (bitsOf (l.zip r)).length * m) (r.flatMap enc1 ++ e) = some (r, m, e)
  | [], r, m, e, hl, _, _ => by
    have : r = [] := List.eq_nil_of_length_eq_zero (by simpa using hl)
    subst this
    simp [bitsOf, headN, decP]
  | f :: l, [], m, e, hl, _, _ => by simp at hl
  | f :: l, x :: r, m, e, hl, hf, hI => by
    have hfx : fitsB f x = true := by
      unfold fitAll at hf
      simp only [List.zip_cons_cons, List.all_cons, Bool.and_eq_true] at hf
      exact hf.1
    have hfr : fitAll l r = true := by
      unfold fitAll at hf ⊢
      simp only [List.zip_cons_cons, List.all_cons, Bool.and_eq_true] at hf
      exact hf.2
    have hIx := hI x (List.mem_cons_self ..)
    have hIr : InR r := fun y hy => hI y (List.mem_cons_of_mem _ hy)
    have ih := fun m e => decP_enc l r m e (by simpa using hl) hfr hIr
    simp only [List.zip_cons_cons, bitsOf_cons, List.flatMap_cons, List.append_assoc]
    by_cases hk : x.kind = 0
    · obtain ⟨ho, rfl⟩ := fits_absent hfx hk
      rw [if_pos ho, enc1_none rfl, List.nil_append]
      simp only [headN, List.length_cons]
      have e1 : (if decide ((⟨0, 0, []⟩ : ValA).kind ≠ 0) = true then 1 else 0) + 2 * headN (bitsOf (l.zip r)) + 2 ^ ((bitsOf (l.zip r)).length + 1) * m = 2 * (headN (bitsOf (l.zip r)) + 2 ^ (bitsOf (l.zip r)).length * m) := by
        rw [Nat.pow_succ, Nat.mul_add, Nat.mul_comm (2 ^ _) 2, Nat.mul_assoc]
        simp
      rw [e1, decP, if_pos ⟨ho, by omega⟩, show 2 * (headN (bitsOf (l.zip r)) + 2 ^ (bitsOf (l.zip r)).length * m) / 2 = headN (bitsOf (l.zip r)) + 2 ^ (bitsOf (l.zip r)).length * m by omega, ih m e]
      rfl
    · have htk := fun e => takeP_enc hfx hk hIx e
      cases ho : f.opt with
      | true =>
        rw [if_pos rfl]
        simp only [headN, List.length_cons]
        have e1 : (if decide (x.kind ≠ 0) = true then 1 else 0) + 2 * headN (bitsOf (l.zip r)) + 2 ^ ((bitsOf (l.zip r)).length + 1) * m = 2 * (headN (bitsOf (l.zip r)) + 2 ^ (bitsOf (l.zip r)).length * m) + 1 := by
          rw [Nat.pow_succ, Nat.mul_add, Nat.mul_comm (2 ^ _) 2, Nat.mul_assoc, if_pos (by simp [hk])]
          omega
        rw [e1, decP, if_neg (by omega), htk]
        simp only [Option.bind_some, ho, if_true]
        rw [show (2 * (headN (bitsOf (l.zip r)) + 2 ^ (bitsOf (l.zip r)).length * m) + 1) / 2 = headN (bitsOf (l.zip r)) + 2 ^ (bitsOf (l.zip r)).length * m by omega, ih m e]
        rfl
      | false =>
        rw [if_neg (by simp), decP, if_neg (by simp [ho]), htk]
        simp only [Option.bind_some, ho]
        have := ih m e
        simp only [Bool.false_eq_true, if_false]
        rw [this]
        rfl

theorem decP_sound : ∀ (l : List FieldA) (m : Nat) (t : Txt) (r : List ValA) (m' : Nat) (e : Txt), l.all fieldOK = true → decP l m t = some (r, m', e) → r.length = l.length ∧ fitAll l r = true ∧ InR r ∧ t = r.flatMap enc1 ++ e ∧ m = headN (bitsOf (l.zip r)) + 2 ^ (bitsOf (l.zip r)).length * m'
  | [], m, t, r, m', e, _, h => by
    simp only [decP, Option.some.injEq, Prod.mk.injEq] at h
    obtain ⟨rfl, rfl, rfl⟩ := h
    simp [fitAll, InR, bitsOf, headN]
  | f :: l, m, t, r, m', e, hok, h => by
    simp only [List.all_cons, Bool.and_eq_true] at hok
    rw [decP] at h
    split at h
    · rename_i ho
      cases hd : decP l (m / 2) t with
      | none => rw [hd] at h; cases h
      | some q =>
        rw [hd] at h
        simp only [Option.map_some, Option.some.injEq, Prod.mk.injEq] at h
        obtain ⟨rfl, h2⟩ := h
        obtain ⟨h1, h3, h4, h5, h6⟩ := decP_sound l (m / 2) t q.1 m' e hok.2 (by rw [hd, ← h2])
        refine ⟨by simp [h1], ?_, ?_, ?_, ?_⟩
        · unfold fitAll at *
          simp only [List.zip_cons_cons, List.all_cons, Bool.and_eq_true]
          exact ⟨by simp [fitsB, ho.1], h3⟩
        · intro y hy
          simp only [List.mem_cons] at hy
          rcases hy with rfl | hy
          · simp
          · exact h4 y hy
        · simp only [List.flatMap_cons]
          rw [enc1_none rfl]
          exact h5
        · simp only [List.zip_cons_cons, bitsOf_cons]
          rw [if_pos ho.1]
          simp only [headN, List.length_cons, Nat.pow_succ]
          rw [Nat.mul_comm (2 ^ _) 2, Nat.mul_assoc]
          simp
          omega
    · rename_i ho
      cases htk : takeP f.type t with
      | none => rw [htk] at h; cases h
      | some p =>
        rw [htk] at h
        simp only [Option.bind_some] at h
        cases hd : decP l (if f.opt then m / 2 else m) p.2 with
        | none => rw [hd] at h; cases h
        | some q =>
          rw [hd] at h
          simp only [Option.map_some, Option.some.injEq, Prod.mk.injEq] at h
          obtain ⟨rfl, h2⟩ := h
          obtain ⟨h1, h3, h4, h5, h6⟩ := decP_sound l _ p.2 q.1 m' e hok.2 (by rw [hd, ← h2])
          obtain ⟨g1, g2, g3, g4⟩ := takeP_sound (type_of hok.1) (show takeP f.type t = some (p.1, p.2) from htk)
          have hk0 : p.1.kind ≠ 0 := by rw [g1]; have := type_of hok.1; omega
          refine ⟨by simp [h1], ?_, ?_, ?_, ?_⟩
          · unfold fitAll at *
            simp only [List.zip_cons_cons, List.all_cons, Bool.and_eq_true]
            exact ⟨g2, h3⟩
          · intro y hy
            simp only [List.mem_cons] at hy
            rcases hy with rfl | hy
            · exact g3
            · exact h4 y hy
          · simp only [List.flatMap_cons, List.append_assoc]
            rw [← h5]
            exact g4
          · simp only [List.zip_cons_cons, bitsOf_cons]
            cases hfo : f.opt with
            | true =>
              rw [hfo] at h6
              rw [if_pos rfl]
              simp only [headN, List.length_cons, Nat.pow_succ]
              rw [Nat.mul_comm (2 ^ _) 2, Nat.mul_assoc, if_pos (by simp [hk0])]
              simp only [if_true] at h6
              have hm1 : m % 2 = 1 := by
                rcases Nat.mod_two_eq_zero_or_one m with h | h
                · exact absurd ⟨hfo, by omega⟩ ho
                · exact h
              omega
            | false =>
              rw [hfo] at h6
              rw [if_neg (by simp)]
              simpa using h6

theorem decP_app : ∀ (l : List FieldA) (m : Nat) (t : Txt) (r : List ValA) (m' : Nat) (e x : Txt), decP l m t = some (r, m', e) → decP l m (t ++ x) = some (r, m', e ++ x)
  | [], m, t, r, m', e, x, h => by
    simp only [decP, Option.some.injEq, Prod.mk.injEq] at h ⊢
    exact ⟨h.1, h.2.1, by rw [h.2.2]⟩
  | f :: l, m, t, r, m', e, x, h => by
    rw [decP] at h ⊢
    split at h
    · rename_i ho
      rw [if_pos ho]
      cases hd : decP l (m / 2) t with
      | none => rw [hd] at h; cases h
      | some q =>
        rw [hd] at h
        simp only [Option.map_some, Option.some.injEq, Prod.mk.injEq] at h
        rw [decP_app l (m / 2) t q.1 m' e x (by rw [hd, ← h.2])]
        simp [h.1]
    · rename_i ho
      rw [if_neg ho]
      cases htk : takeP f.type t with
      | none => rw [htk] at h; cases h
      | some p =>
        rw [htk] at h
        rw [takeP_app (show takeP f.type t = some (p.1, p.2) from htk) x]
        simp only [Option.bind_some] at h ⊢
        cases hd : decP l (if f.opt then m / 2 else m) p.2 with
        | none => rw [hd] at h; cases h
        | some q =>
          rw [hd] at h
          simp only [Option.map_some, Option.some.injEq, Prod.mk.injEq] at h
          rw [decP_app l _ p.2 q.1 m' e x (by rw [hd, ← h.2])]
          simp [h.1]

end Go.Proofs.YtabjomgikljdhaaDoor
