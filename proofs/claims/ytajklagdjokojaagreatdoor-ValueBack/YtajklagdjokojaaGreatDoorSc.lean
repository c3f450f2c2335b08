import Derived.Test.YtajklagdjokojaaGreatDoorJx
namespace Go.Proofs.YtajklagdjokojaaGreatDoor
open Go.RowKit Go.Maps

theorem make_self {l : List FieldA} {r : List ValA} (he : errR l r = 0) : makeB l r = (r, 0) := by
  obtain ⟨hs, hl, hf⟩ := errR_zero he
  rw [makeB_eq hs (by omega), if_pos hf]
  unfold madeR
  rw [hl, List.drop_length]
  simp [zeros]

/- A schema's text gives it back. -/
theorem part_chars {x : Txt} (h : nameB x = true) : x ≠ [] ∧ x.all (fun c => partB (num c)) = true := by
  unfold nameB at h
  simp only [Bool.and_eq_true, decide_eq_true_eq] at h
  exact ⟨h.1.1.1.1, h.1.2⟩
theorem part_not {c : UInt8} (h : partB (num c) = true) : c ≠ 44 ∧ c ≠ 58 ∧ c ≠ 61 ∧ c ≠ 125 := by
  refine ⟨?_, ?_, ?_, ?_⟩ <;> (rintro rfl; simp [partB, num] at h)
theorem runB_app {x r : Txt} (h : x.all (fun c => partB (num c)) = true) (hr : ∃ s, r = 58 :: s) : runB (x ++ r) = x.length := by
  obtain ⟨s, rfl⟩ := hr
  refine scan_eq (k := x.length) (c := 58) ?_ ?_ (by decide)
  · rw [List.take_left]; exact h
  · rw [List.getElem?_append_right (Nat.le_refl _), Nat.sub_self]; rfl
theorem sfield_print {g : FieldA} (h : fieldOK g = true) : sfieldB (pfield g) = some g := by
  rw [← sfield_eq]
  have hn : nameB g.name = true := by unfold fieldOK at h; simp only [Bool.and_eq_true] at h; exact h.1
  obtain ⟨h0, ha⟩ := part_chars hn
  have hp : pfield g = g.name ++ 58 :: (wordB g.type ++ (if g.opt then [63] else [])) := by unfold pfield; simp
  have hr : runB (pfield g) = g.name.length := by rw [hp]; exact runB_app ha ⟨_, rfl⟩
  have hl : 0 < g.name.length := List.length_pos_iff.2 h0
  have h58 : (pfield g)[g.name.length]? = some 58 := by rw [hp, List.getElem?_append_right (Nat.le_refl _), Nat.sub_self]; rfl
  have hd : (pfield g).drop (g.name.length + 1) = wordB g.type ++ (if g.opt then [63] else []) := by rw [hp, ← List.drop_drop, List.drop_left]; rfl
  have ht : (pfield g).take g.name.length = g.name := by rw [hp, List.take_left]
  unfold sfieldP
  rw [hr, if_neg (by simp only [h58]; simp; omega), hd, ht]
  obtain ⟨nm, ty, op⟩ := g
  rcases type_of h with e | e | e
  all_goals
    simp only at e
    subst e
    cases op <;> rfl
theorem pfield_comma {g : FieldA} (h : fieldOK g = true) : ∀ x ∈ pfield g, (x != 44) = true := by
  have hn : nameB g.name = true := by unfold fieldOK at h; simp only [Bool.and_eq_true] at h; exact h.1
  obtain ⟨h0, ha⟩ := part_chars hn
  intro x hx
  unfold pfield at hx
  simp only [List.mem_append] at hx
  rcases hx with ((hx | hx) | hx) | hx
  · have := (part_not (List.all_eq_true.1 ha x hx)).1
    simpa using this
  · simp only [List.mem_singleton] at hx; subst hx; rfl
  · rcases type_of h with e | e | e <;> (rw [e] at hx; simp [wordB] at hx; rcases hx with rfl | rfl | rfl | rfl | rfl <;> rfl)
  · split at hx
    · simp only [List.mem_singleton] at hx; subst hx; rfl
    · cases hx
theorem psLoop_print : ∀ (L : List FieldA) (f : Nat) (t : Txt) (acc : List FieldA) (a : Nat), L ≠ [] → L.all fieldOK = true → L.length ≤ f → a ≤ t.length → t.drop a = joinB (L.map pfield) → psLoop f t acc a = some (acc ++ L)
  | [], _, _, _, _, h, _, _, _, _ => absurd rfl h
  | g :: M, 0, t, acc, a, _, _, hf, _, _ => by simp at hf
  | g :: M, f + 1, t, acc, a, _, hok, hf, ha, hd => by
    simp only [List.all_cons, Bool.and_eq_true] at hok
    have hlen := congrArg List.length hd
    rw [List.length_drop] at hlen
    rw [psLoop_step ha]
    have hcm : comma t a = a + ((t.drop a).takeWhile (fun x => x != 44)).length := rfl
    cases M with
    | nil =>
      have hd' : t.drop a = pfield g := by rw [hd]; simp [joinB]
      rw [hd', tw_full (pfield_comma hok.1)] at hcm
      have hl : (pfield g).length = t.length - a := by rw [← hd', List.length_drop]
      rw [hd', hcm, Nat.add_sub_cancel_left, List.take_length, sfield_print hok.1]
      show psLoop f t (acc ++ [g]) (a + (pfield g).length + 1) = _
      rw [psLoop_end (by omega)]
    | cons h N =>
      have hd' : t.drop a = pfield g ++ 44 :: joinB ((h :: N).map pfield) := by rw [hd]; simp [joinB]
      have htw : (t.drop a).takeWhile (fun x => x != 44) = pfield g := by
        rw [hd', tw_app (pfield_comma hok.1)]
        simp
      rw [htw] at hcm
      rw [hcm, Nat.add_sub_cancel_left, show (t.drop a).take (pfield g).length = pfield g by rw [hd', List.take_left], sfield_print hok.1]
      show psLoop f t (acc ++ [g]) (a + (pfield g).length + 1) = _
      have hl : (pfield g).length + 1 ≤ t.length - a := by rw [← List.length_drop, hd', List.length_append, List.length_cons]; omega
      rw [psLoop_print (h :: N) f t (acc ++ [g]) (a + (pfield g).length + 1) (by simp) (by simpa using hok.2) (by simp at hf ⊢; omega) (by omega) (by rw [Nat.add_assoc, ← List.drop_drop, hd', ← List.drop_drop, List.drop_left]; rfl)]
      simp
theorem pfield_len (g : FieldA) : 1 ≤ (pfield g).length := by unfold pfield; simp; omega
theorem joinB_len : ∀ L : List FieldA, L.length ≤ (joinB (L.map pfield)).length
  | [] => by simp [joinB]
  | g :: M => by
    have h1 := pfield_len g
    have h2 : ∀ M : List FieldA, M.length ≤ ((M.map pfield).flatMap (fun x => 44 :: x)).length := by
      intro M
      induction M with
      | nil => simp
      | cons x r ih => simp only [List.map_cons, List.flatMap_cons, List.length_append, List.length_cons]; omega
    have := h2 M
    simp only [List.map_cons, joinB, List.length_append, List.length_cons]
    omega
theorem schema_back {l : List FieldA} (hs : schemaB l = true) : parseSchemaB (printSchemaB l) = (l, 0) := by
  have e : printSchemaB l = joinB (l.map pfield) := by unfold printSchemaB; rw [if_pos hs, psF_eq]
  have h1 := (schemaB_len hs).1
  unfold parseSchemaB
  rw [e, psLoop_print l _ _ [] 0 (by rintro rfl; simp at h1) (schemaB_ok hs) (by have := joinB_len l; omega) (by omega) (by rw [List.drop_zero])]
  simp [hs]
end Go.Proofs.YtajklagdjokojaaGreatDoor
