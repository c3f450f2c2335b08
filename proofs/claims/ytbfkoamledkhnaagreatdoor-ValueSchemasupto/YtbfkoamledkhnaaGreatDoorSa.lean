import Derived.Test.YtbfkoamledkhnaaGreatDoorJj
import Derived.Test.YtbfkoamledkhnaaGreatDoorJq
namespace Go.Proofs.YtbfkoamledkhnaaGreatDoor
open Go.RowKit Go.Maps

theorem takeG_readG : ∀ (T : Txt) (k U u : Nat) (s : Txt), k ≤ 9 → U < 128 ^ k → takeG k T U = some (u, s) → ∃ j, readG (10 - k) T U k = some (u, k + j) ∧ s = T.drop j
  | [], k, U, u, s, _, _, h => by simp [takeG] at h
  | c :: r, k, U, u, s, hk, hU, h => by
    rw [takeG] at h
    split at h
    · cases h
    · rename_i h9
      have h9' : k = 9 → c.toNat ≤ 1 := fun e => by
        rcases Nat.lt_or_ge 1 c.toNat with h1 | h1
        · exact absurd ⟨e, h1⟩ h9
        · exact h1
      obtain ⟨g1, g2⟩ := group_lt U k c hU hk h9'
      rw [show 10 - k = (9 - k) + 1 by omega, readG]
      split at h
      · rename_i hc
        split at h
        · cases h
        · simp only [Option.some.injEq, Prod.mk.injEq] at h
          rw [if_pos hc, Nat.mod_eq_of_lt g2]
          exact ⟨1, by rw [h.1], by rw [← h.2]; rfl⟩
      · rename_i hc
        rw [if_neg hc, Nat.mod_eq_of_lt g2]
        have hk8 : k ≤ 8 := by
          rcases Nat.lt_or_ge k 9 with h1 | h1
          · omega
          · have := h9' (by omega); omega
        obtain ⟨j, e1, e2⟩ := takeG_readG r (k + 1) _ u s (by omega) g1 h
        rw [show 9 - k = 10 - (k + 1) by omega, e1]
        exact ⟨j + 1, by rw [show k + 1 + j = k + (j + 1) by omega], by rw [e2]; rfl⟩
theorem take_read {f : FieldA} {t : Txt} {a : Nat} {x : ValA} {s : Txt} (h : takeP f.type (t.drop a) = some (x, s)) : 0 ≤ (readB f t a).2 ∧ (readB f t a).1 = x ∧ s = t.drop (readB f t a).2.toNat := by
  unfold takeP at h
  unfold readB
  by_cases h1 : f.type = 1
  · rw [if_pos h1] at h ⊢
    unfold takeIntP at h
    cases hg : takeG 0 (t.drop a) 0 with
    | none => rw [hg] at h; cases h
    | some p =>
      obtain ⟨u, e⟩ := p
      rw [hg] at h
      simp only [Option.map_some, Option.some.injEq, Prod.mk.injEq] at h
      obtain ⟨j, e1, e2⟩ := takeG_readG _ 0 0 u e (by omega) (by simp) hg
      unfold readIntB
      rw [show 10 - 0 = 10 from rfl, Nat.zero_add] at e1
      rw [e1]
      refine ⟨by show (0 : Int) ≤ ((a + j : Nat) : Int); omega, h.1, ?_⟩
      rw [← h.2, e2, List.drop_drop]
      rfl
  · rw [if_neg h1] at h ⊢
    cases hc : t[a]? with
    | none =>
      rw [List.drop_eq_nil_of_le (get_ge hc)] at h
      split at h <;> cases h
    | some c =>
      rw [drop_at hc] at h
      simp only
      by_cases h2 : f.type = 2
      · rw [if_pos h2] at h ⊢
        replace h : (if 1 < c.toNat then none else some ((⟨2, num c, []⟩ : ValA), t.drop (a + 1))) = some (x, s) := h
        split at h
        · cases h
        · simp only [Option.some.injEq, Prod.mk.injEq] at h
          exact ⟨by show (0 : Int) ≤ ((a + 1 : Nat) : Int); omega, h.1, by rw [← h.2]; rfl⟩
      · rw [if_neg h2] at h ⊢
        replace h : (if 20 < c.toNat then none else if (t.drop (a + 1)).length < c.toNat then none else some ((⟨3, 0, (t.drop (a + 1)).take c.toNat⟩ : ValA), (t.drop (a + 1)).drop c.toNat)) = some (x, s) := h
        split at h
        · cases h
        · split at h
          · cases h
          · rename_i h3
            simp only [Option.some.injEq, Prod.mk.injEq] at h
            rw [List.length_drop] at h3
            have := get_lt hc
            rw [if_neg (by omega)]
            refine ⟨by show (0 : Int) ≤ ((a + 1 + c.toNat : Nat) : Int); omega, h.1, ?_⟩
            rw [← h.2, List.drop_drop]
            rfl
theorem decP_loop (t : Txt) : ∀ (l : List FieldA) (m a : Nat) (r : List ValA) (m' : Nat) (e : Txt), decP l m (t.drop a) = some (r, m', e) → decLoop l t m a = some r
  | [], m, a, r, m', e, h => by
    simp only [decP, Option.some.injEq, Prod.mk.injEq] at h
    rw [decLoop, h.1]
  | f :: l, m, a, r, m', e, h => by
    rw [decP] at h
    rw [decLoop]
    by_cases h1 : f.opt = true ∧ m % 2 ≠ 1
    · rw [if_pos h1] at h ⊢
      cases hd : decP l (m / 2) (t.drop a) with
      | none => rw [hd] at h; cases h
      | some q =>
        obtain ⟨q1, q2, q3⟩ := q
        rw [hd] at h
        simp only [Option.map_some, Option.some.injEq, Prod.mk.injEq] at h
        rw [decP_loop t l _ _ _ _ _ hd, ← h.1]
        rfl
    · rw [if_neg h1] at h ⊢
      cases ht : takeP f.type (t.drop a) with
      | none => rw [ht] at h; cases h
      | some p =>
        obtain ⟨x, s⟩ := p
        rw [ht] at h
        obtain ⟨g1, g2, g3⟩ := take_read ht
        rw [if_neg (by omega), g2]
        simp only [Option.bind_some] at h
        rw [g3] at h
        cases hd : decP l (if f.opt = true then m / 2 else m) (t.drop (readB f t a).2.toNat) with
        | none => rw [hd] at h; cases h
        | some q =>
          obtain ⟨q1, q2, q3⟩ := q
          rw [hd] at h
          simp only [Option.map_some, Option.some.injEq, Prod.mk.injEq] at h
          rw [decP_loop t l _ _ _ _ _ hd, ← h.1]
          rfl
theorem decLoop_in (t : Txt) : ∀ (l : List FieldA) (m a : Nat) (r : List ValA), a ≤ t.length → decLoop l t m a = some r → InR r
  | [], m, a, r, _, h => by
    simp only [decLoop, Option.some.injEq] at h
    subst h
    intro x hx; cases hx
  | f :: l, m, a, r, ha, h => by
    rw [decLoop] at h
    split at h
    · cases hd : decLoop l t (m / 2) a with
      | none => rw [hd] at h; cases h
      | some q =>
        rw [hd] at h
        simp only [Option.map_some, Option.some.injEq] at h
        subst h
        intro x hx
        rcases List.mem_cons.1 hx with rfl | hx
        · simp
        · exact decLoop_in t l _ _ _ ha hd x hx
    · split at h
      · cases h
      · rename_i h2
        have hf := readB_facts f t a ha
        cases hd : decLoop l t (if f.opt = true then m / 2 else m) (readB f t a).2.toNat with
        | none => rw [hd] at h; cases h
        | some q =>
          rw [hd] at h
          simp only [Option.map_some, Option.some.injEq] at h
          subst h
          intro x hx
          rcases List.mem_cons.1 hx with rfl | hx
          · exact hf.2
          · exact decLoop_in t l _ _ _ (by omega) hd x hx
theorem enc1_wide {f : FieldA} {x : ValA} (hok : fieldOK f = true) (h : fitsB f x = true) (hx : -9223372036854775808 ≤ x.n ∧ x.n ≤ 9223372036854775807) : ((enc1 x).length : Int) ≤ wideB f.type := by
  by_cases hk : x.kind = 0
  · have : (enc1 x).length = 0 := by unfold enc1; simp [hk]
    rcases type_of hok with e | e | e <;> rw [e] <;> simp [wideB] <;> omega
  · have hty := fits_type h hk
    have hl := enc1_length h hx
    rcases type_of hok with e | e | e
    · have h1 : enc1 x = groups (tn x.n) := by unfold enc1; simp [hty.trans e]
      have h2 := groups_length 9 (tn x.n) (by have := tn_le x.n hx.1 hx.2; omega)
      rw [h1, e]
      simp [wideB]
      omega
    · have h1 : (enc1 x).length = 1 := by unfold enc1; simp [hty.trans e]
      rw [h1, e]
      simp [wideB]
    · rw [e]
      simp [wideB]
      omega
theorem flat_wide : ∀ (l : List FieldA) (r : List ValA), l.all fieldOK = true → fitAll l r = true → r.length = l.length → InR r → ((r.flatMap enc1).length : Int) ≤ wides l
  | [], [], _, _, _, _ => by simp [wides]
  | [], x :: r, _, _, hl, _ => by simp at hl
  | f :: l, [], _, _, hl, _ => by simp at hl
  | f :: l, x :: r, hok, hf, hl, hI => by
    simp only [List.all_cons, Bool.and_eq_true] at hok
    unfold fitAll at hf
    simp only [List.zip_cons_cons, List.all_cons, Bool.and_eq_true] at hf
    have h1 := enc1_wide hok.1 hf.1 (hI x (by simp))
    have h2 := flat_wide l r hok.2 hf.2 (by simpa using hl) (fun y hy => hI y (List.mem_cons_of_mem _ hy))
    simp only [List.flatMap_cons, List.length_append, wides, List.map_cons, List.sum_cons]
    unfold wides at h2
    omega
theorem bitsOf_opts : ∀ (l : List FieldA) (r : List ValA), r.length = l.length → (bitsOf (l.zip r)).length = opts l
  | [], [], _ => rfl
  | [], x :: r, hl => by simp at hl
  | f :: l, [], hl => by simp at hl
  | f :: l, x :: r, hl => by
    have h := bitsOf_opts l r (by simpa using hl)
    rw [List.zip_cons_cons, bitsOf_cons]
    unfold opts at h ⊢
    cases ho : f.opt <;> simp [ho, h]
theorem enc_64 {l : List FieldA} {r : List ValA} (he : errR l r = 0) (hI : InR r) : (encB l r).length ≤ 64 := by
  obtain ⟨hs, hl, hf⟩ := errR_zero he
  have h1 := flat_wide l r (schemaB_ok hs) hf hl hI
  have h2 : widthB l ≤ 64 := by
    unfold schemaB at hs
    simp only [Bool.and_eq_true, decide_eq_true_eq] at hs
    exact hs.2
  unfold widthB headB at h2
  unfold encB
  rw [List.length_append]
  have h3 : (headT (l.zip r)).length ≤ (opts l + 7) / 8 := by
    unfold headT
    rw [bitsOf_opts l r hl]
    split
    · simp; omega
    · simp
  omega
theorem decode_eq (l : List FieldA) (t : Txt) : decodeV l t = decodeB l t := by
  unfold decodeV decodeB
  cases hs : schemaB l with
  | false => simp
  | true =>
    rw [if_neg (by simp), if_neg (by simp)]
    cases hd : decodeP l t with
    | some r =>
      obtain ⟨he, hI, hen⟩ := decodeP_sound hs hd
      obtain ⟨h1, h2⟩ := decodeP_some hd
      have h3 := enc_64 he hI
      rw [hen] at h3
      rw [if_neg (by omega), decP_loop t l _ _ _ _ _ h2]
      simp only
      rw [if_pos ⟨he, hen⟩]
    | none =>
      by_cases h1 : t.length < headB l ∨ 64 < t.length
      · rw [if_pos h1]
      · rw [if_neg h1]
        cases hl : decLoop l t (head0 l t) (headB l) with
        | none => rfl
        | some r =>
          simp only
          by_cases h2 : errR l r = 0 ∧ encB l r = t
          · have hI := decLoop_in t l _ _ _ (by omega) hl
            have := decodeP_enc hs h2.1 hI
            rw [h2.2, hd] at this
            cases this
          · rw [if_neg h2]
theorem print_items (z : List (FieldA × ValA)) : printTo z = joinB (items z) ∧ (printTo z = [] ↔ items z = []) := by
  have h : ∀ n (z : List (FieldA × ValA)), z.length = n → printTo z = joinB (items z) ∧ (printTo z = [] ↔ items z = []) := by
    intro n
    induction n with
    | zero => intro z hz; obtain rfl : z = [] := List.eq_nil_of_length_eq_zero hz; exact ⟨rfl, by simp [printTo, items]⟩
    | succ n ih =>
      intro z hz
      have hne : z ≠ [] := by rintro rfl; simp at hz
      obtain ⟨h1, h2⟩ := ih z.dropLast (by rw [List.length_dropLast, hz]; rfl)
      rw [← List.dropLast_concat_getLast hne, printTo_snoc, items_snoc]
      unfold printStep
      by_cases hk : (z.getLast hne).2.kind = 0
      · rw [if_pos hk, if_pos hk, List.append_nil]
        exact ⟨h1, h2⟩
      · rw [if_neg hk, if_neg hk, joinB_snoc]
        refine ⟨?_, by simp⟩
        by_cases he : printTo z.dropLast = []
        · rw [if_pos he, if_neg (by rw [h2.1 he]; simp), ← h1]
          simp
        · have : items z.dropLast ≠ [] := fun e => he (h2.2 e)
          rw [if_neg he, if_pos (List.length_pos_iff.2 this), ← h1]
          simp
  exact h _ z rfl
theorem print_eq (l : List FieldA) (r : List ValA) : printP l r = printB l r := by
  unfold printP printB
  rw [(print_items _).1]
end Go.Proofs.YtbfkoamledkhnaaGreatDoor
