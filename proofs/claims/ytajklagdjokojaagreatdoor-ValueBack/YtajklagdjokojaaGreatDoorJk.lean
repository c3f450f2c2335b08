import Derived.Test.YtajklagdjokojaaGreatDoorJj
namespace Go.Proofs.YtajklagdjokojaaGreatDoor
open Go.RowKit Go.Maps

theorem bitsOf_cons (f : FieldA) (x : ValA) (z : List (FieldA × ValA)) : bitsOf ((f, x) :: z) = if f.opt then decide (x.kind ≠ 0) :: bitsOf z else bitsOf z := by
  unfold bitsOf
  cases h : f.opt <;> simp [h]
theorem fits_absent {f : FieldA} {x : ValA} (h : fitsB f x = true) (hk : x.kind = 0) : f.opt = true ∧ x = ⟨0, 0, []⟩ := by
  obtain ⟨k, n, s⟩ := x
  simp only at hk
  subst hk
  simp [fitsB] at h
  simp [h]

theorem decP_enc : ∀ (l : List FieldA) (r : List ValA) (m : Nat) (e : Txt), r.length = l.length → fitAll l r = true → InR r → decP l (headN (bitsOf (l.zip r)) + 2 ^ (bitsOf (l.zip r)).length * m) (r.flatMap enc1 ++ e) = some (r, m, e)
  | [], r, m, e, hl, _, _ => by
    have : r = [] := List.eq_nil_of_length_eq_zero (by simpa using hl)
    subst this
    simp [bitsOf, headN, decP]
  | f :: l, [], m, e, hl, _, _ => by simp at hl
  | f :: l, x :: r, m, e, hl, hf, hI => by
    have hfx : fitsB f x = true := by
      unfold fitAll at hf
      simp only [List.zip_cons_cons, List.all_cons, Bool.and_eq_true] at hf
      exact hf.1
    have hfr : fitAll l r = true := by
      unfold fitAll at hf ⊢
      simp only [List.zip_cons_cons, List.all_cons, Bool.and_eq_true] at hf
      exact hf.2
    have hIx := hI x (List.mem_cons_self ..)
    have hIr : InR r := fun y hy => hI y (List.mem_cons_of_mem _ hy)
    have ih := fun m e => decP_enc l r m e (by simpa using hl) hfr hIr
    simp only [List.zip_cons_cons, bitsOf_cons, List.flatMap_cons, List.append_assoc]
    by_cases hk : x.kind = 0
    · obtain ⟨ho, rfl⟩ := fits_absent hfx hk
      rw [if_pos ho, enc1_none rfl, List.nil_append]
      simp only [headN, List.length_cons]
      have e1 : (if decide ((⟨0, 0, []⟩ : ValA).kind ≠ 0) = true then 1 else 0) + 2 * headN (bitsOf (l.zip r)) + 2 ^ ((bitsOf (l.zip r)).length + 1) * m = 2 * (headN (bitsOf (l.zip r)) + 2 ^ (bitsOf (l.zip r)).length * m) := by
        rw [Nat.pow_succ, Nat.mul_add, Nat.mul_comm (2 ^ _) 2, Nat.mul_assoc]
        simp
      rw [e1, decP, if_pos ⟨ho, by omega⟩, show 2 * (headN (bitsOf (l.zip r)) + 2 ^ (bitsOf (l.zip r)).length * m) / 2 = headN (bitsOf (l.zip r)) + 2 ^ (bitsOf (l.zip r)).length * m by omega, ih m e]
      rfl
    · have htk := fun e => takeP_enc hfx hk hIx e
      cases ho : f.opt with
      | true =>
        rw [if_pos rfl]
        simp only [headN, List.length_cons]
        have e1 : (if decide (x.kind ≠ 0) = true then 1 else 0) + 2 * headN (bitsOf (l.zip r)) + 2 ^ ((bitsOf (l.zip r)).length + 1) * m = 2 * (headN (bitsOf (l.zip r)) + 2 ^ (bitsOf (l.zip r)).length * m) + 1 := by
          rw [Nat.pow_succ, Nat.mul_add, Nat.mul_comm (2 ^ _) 2, Nat.mul_assoc, if_pos (by simp [hk])]
          omega
        rw [e1, decP, if_neg (by omega), htk]
        simp only [Option.bind_some, ho, if_true]
        rw [show (2 * (headN (bitsOf (l.zip r)) + 2 ^ (bitsOf (l.zip r)).length * m) + 1) / 2 = headN (bitsOf (l.zip r)) + 2 ^ (bitsOf (l.zip r)).length * m by omega, ih m e]
        rfl
      | false =>
        rw [if_neg (by simp), decP, if_neg (by simp [ho]), htk]
        simp only [Option.bind_some, ho]
        have := ih m e
        simp only [Bool.false_eq_true, if_false]
        rw [this]
        rfl

theorem decP_sound : ∀ (l : List FieldA) (m : Nat) (t : Txt) (r : List ValA) (m' : Nat) (e : Txt), l.all fieldOK = true → decP l m t = some (r, m', e) → r.length = l.length ∧ fitAll l r = true ∧ InR r ∧ t = r.flatMap enc1 ++ e ∧ m = headN (bitsOf (l.zip r)) + 2 ^ (bitsOf (l.zip r)).length * m'
  | [], m, t, r, m', e, _, h => by
    simp only [decP, Option.some.injEq, Prod.mk.injEq] at h
    obtain ⟨rfl, rfl, rfl⟩ := h
    simp [fitAll, InR, bitsOf, headN]
  | f :: l, m, t, r, m', e, hok, h => by
    simp only [List.all_cons, Bool.and_eq_true] at hok
    rw [decP] at h
    split at h
    · rename_i ho
      cases hd : decP l (m / 2) t with
      | none => rw [hd] at h; cases h
      | some q =>
        rw [hd] at h
        simp only [Option.map_some, Option.some.injEq, Prod.mk.injEq] at h
        obtain ⟨rfl, h2⟩ := h
        obtain ⟨h1, h3, h4, h5, h6⟩ := decP_sound l (m / 2) t q.1 m' e hok.2 (by rw [hd, ← h2])
        refine ⟨by simp [h1], ?_, ?_, ?_, ?_⟩
        · unfold fitAll at *
          simp only [List.zip_cons_cons, List.all_cons, Bool.and_eq_true]
          exact ⟨by simp [fitsB, ho.1], h3⟩
        · intro y hy
          simp only [List.mem_cons] at hy
          rcases hy with rfl | hy
          · simp
          · exact h4 y hy
        · simp only [List.flatMap_cons]
          rw [enc1_none rfl]
          exact h5
        · simp only [List.zip_cons_cons, bitsOf_cons]
          rw [if_pos ho.1]
          simp only [headN, List.length_cons, Nat.pow_succ]
          rw [Nat.mul_comm (2 ^ _) 2, Nat.mul_assoc]
          simp
          omega
    · rename_i ho
      cases htk : takeP f.type t with
      | none => rw [htk] at h; cases h
      | some p =>
        rw [htk] at h
        simp only [Option.bind_some] at h
        cases hd : decP l (if f.opt then m / 2 else m) p.2 with
        | none => rw [hd] at h; cases h
        | some q =>
          rw [hd] at h
          simp only [Option.map_some, Option.some.injEq, Prod.mk.injEq] at h
          obtain ⟨rfl, h2⟩ := h
          obtain ⟨h1, h3, h4, h5, h6⟩ := decP_sound l _ p.2 q.1 m' e hok.2 (by rw [hd, ← h2])
          obtain ⟨g1, g2, g3, g4⟩ := takeP_sound (type_of hok.1) (show takeP f.type t = some (p.1, p.2) from htk)
          have hk0 : p.1.kind ≠ 0 := by rw [g1]; have := type_of hok.1; omega
          refine ⟨by simp [h1], ?_, ?_, ?_, ?_⟩
          · unfold fitAll at *
            simp only [List.zip_cons_cons, List.all_cons, Bool.and_eq_true]
            exact ⟨g2, h3⟩
          · intro y hy
            simp only [List.mem_cons] at hy
            rcases hy with rfl | hy
            · exact g3
            · exact h4 y hy
          · simp only [List.flatMap_cons, List.append_assoc]
            rw [← h5]
            exact g4
          · simp only [List.zip_cons_cons, bitsOf_cons]
            cases hfo : f.opt with
            | true =>
              rw [hfo] at h6
              rw [if_pos rfl]
              simp only [headN, List.length_cons, Nat.pow_succ]
              rw [Nat.mul_comm (2 ^ _) 2, Nat.mul_assoc, if_pos (by simp [hk0])]
              simp only [if_true] at h6
              have hm1 : m % 2 = 1 := by
                rcases Nat.mod_two_eq_zero_or_one m with h | h
                · exact absurd ⟨hfo, by omega⟩ ho
                · exact h
              omega
            | false =>
              rw [hfo] at h6
              rw [if_neg (by simp)]
              simpa using h6

theorem decP_app : ∀ (l : List FieldA) (m : Nat) (t : Txt) (r : List ValA) (m' : Nat) (e x : Txt), decP l m t = some (r, m', e) → decP l m (t ++ x) = some (r, m', e ++ x)
  | [], m, t, r, m', e, x, h => by
    simp only [decP, Option.some.injEq, Prod.mk.injEq] at h ⊢
    exact ⟨h.1, h.2.1, by rw [h.2.2]⟩
  | f :: l, m, t, r, m', e, x, h => by
    rw [decP] at h ⊢
    split at h
    · rename_i ho
      rw [if_pos ho]
      cases hd : decP l (m / 2) t with
      | none => rw [hd] at h; cases h
      | some q =>
        rw [hd] at h
        simp only [Option.map_some, Option.some.injEq, Prod.mk.injEq] at h
        rw [decP_app l (m / 2) t q.1 m' e x (by rw [hd, ← h.2])]
        simp [h.1]
    · rename_i ho
      rw [if_neg ho]
      cases htk : takeP f.type t with
      | none => rw [htk] at h; cases h
      | some p =>
        rw [htk] at h
        rw [takeP_app (show takeP f.type t = some (p.1, p.2) from htk) x]
        simp only [Option.bind_some] at h ⊢
        cases hd : decP l (if f.opt then m / 2 else m) p.2 with
        | none => rw [hd] at h; cases h
        | some q =>
          rw [hd] at h
          simp only [Option.map_some, Option.some.injEq, Prod.mk.injEq] at h
          rw [decP_app l _ p.2 q.1 m' e x (by rw [hd, ← h.2])]
          simp [h.1]

end Go.Proofs.YtajklagdjokojaaGreatDoor
namespace Go.Proofs.YtajklagdjokojaaGreatDoor
open Go.RowKit Go.Maps

theorem mod6 (n : Int) : (if n.tmod 6 < 0 then n.tmod 6 + 6 else n.tmod 6) = n % 6 := by
  rw [Int.tmod_eq_emod]
  split <;> split <;> simp at * <;> omega

set_option maxRecDepth 100000 in
theorem mod_v (n : Int) (w : World) : Calls Tryz.prog 18 #[.int .i64 n, .int .i64 6] w fun e w' => e = .returned (.int .i64 (n % 6)) ∧ w' = w := by
  have HM := hide (mod6 n)
  have hb : -6 < n.tmod 6 ∧ n.tmod 6 < 6 := by
    rw [Int.tmod_eq_emod]
    split <;> simp at * <;> omega
  go_enter Tryz.func18, Tryz.ntmps18
  go_wp2
  all_goals (rename_i h; go_ret; refine ⟨ret_int ?_, rfl⟩; have := unhide HM; split at this <;> omega)

def fittedB (f : FieldA) (x : ValA) : ValA :=
  if f.opt = true ∧ x.kind = 0 then ⟨0, 0, []⟩ else if f.type = 1 then ⟨1, x.n, []⟩ else if f.type = 2 then ⟨2, x.n % 2, []⟩ else ⟨3, 0, x.s.take 20⟩

set_option maxRecDepth 100000 in
set_option maxHeartbeats 2000000 in
theorem fitted_v (f : FieldA) (x : ValA) (w : World) : Calls Tryz.prog 37 #[f.v, x.v] w fun e w' => e = .returned (fittedB f x).v ∧ Keeps (fun _ => False) w w' := by
  obtain ⟨nm, t, o⟩ := f
  obtain ⟨k, n, s⟩ := x
  unfold FieldA.v ValA.v
  simp only at *
  have hk : Keeps (fun _ => False) w w := Keeps.refl _ _
  by_cases h : o = true ∧ k = 0
  · obtain ⟨rfl, rfl⟩ := h
    have HE : Hid (fittedB ⟨nm, t, true⟩ ⟨0, n, s⟩ = ⟨0, 0, []⟩) := rfl
    go_enter Tryz.func37, Tryz.ntmps37
    go_wp2
    refine bodyPost_ret (v := ValA.v ⟨0, 0, []⟩) (by simp [results, go_sem, ValA.v]) rfl ?_
    rw [unhide HE]
    exact ⟨rfl, ((hk.alloc _).alloc _).alloc _⟩
  · have hg : (o && (k == 0)) = false := by
      apply Bool.eq_false_iff.2
      simp only [ne_eq, Bool.and_eq_true, beq_iff_eq]
      exact h
    have hcase : o = false ∨ (o = true ∧ (k == 0) = false) := by
      cases o with
      | false => exact Or.inl rfl
      | true => exact Or.inr ⟨rfl, by simpa using hg⟩
    by_cases h1' : t = 1
    · subst h1'
      have HE : Hid (fittedB ⟨nm, 1, o⟩ ⟨k, n, s⟩ = ⟨1, n, []⟩) := by show _ = _; unfold fittedB; rw [if_neg h, if_pos rfl]
      rw [unhide HE]
      clear h hg
      rcases hcase with rfl | ⟨rfl, hk0⟩
      all_goals
        go_enter Tryz.func37, Tryz.ntmps37
        go_wp2
        refine bodyPost_ret (v := ValA.v ⟨1, n, []⟩) (by simp [results, go_sem, ValA.v]) rfl ?_
        exact ⟨rfl, ((hk.alloc _).alloc _).alloc _⟩
    by_cases h2' : t = 2
    · subst h2'
      have HE : Hid (fittedB ⟨nm, 2, o⟩ ⟨k, n, s⟩ = ⟨2, n % 2, []⟩) := by show _ = _; unfold fittedB; rw [if_neg h, if_neg h1', if_pos rfl]
      rw [unhide HE]
      clear h hg
      have e2 : wrap64 ((IntKind.u64.wrap n).tmod 2) = n % 2 := by
        rw [IntKind.wrap_u64, Int.tmod_eq_emod_of_nonneg (by omega)]
        unfold wrap64
        omega
      rcases hcase with rfl | ⟨rfl, hk0⟩
      all_goals
        go_enter Tryz.func37, Tryz.ntmps37
        go_wp2
        refine bodyPost_ret (v := ValA.v ⟨2, n % 2, []⟩) (by simp [results, go_sem, ValA.v, e2]) rfl ?_
        exact ⟨rfl, ((hk.alloc _).alloc _).alloc _⟩
    · have HE : Hid (fittedB ⟨nm, t, o⟩ ⟨k, n, s⟩ = ⟨3, 0, s.take 20⟩) := by show _ = _; unfold fittedB; rw [if_neg h, if_neg h1', if_neg h2']
      rw [unhide HE]
      have h1b : (t == 1) = false := beq_eq_false_iff_ne.2 h1'
      have h2b : (t == 2) = false := beq_eq_false_iff_ne.2 h2'
      clear h hg h1' h2'
      by_cases hs : (20 : Int) < (s.length : Int)
      · have HX : Hid ((ByteArray.mk s.toArray).extract 0 20 = ⟨(s.take 20).toArray⟩) := by show _ = _; rw [ext_str]; rfl
        rcases hcase with rfl | ⟨rfl, hk0⟩
        all_goals
          go_enter Tryz.func37, Tryz.ntmps37
          go_wp2
          rw [unhide HX]
          refine bodyPost_ret (v := ValA.v ⟨3, 0, s.take 20⟩) (by simp [results, go_sem, ValA.v]) rfl ?_
          exact ⟨rfl, ((hk.alloc _).alloc _).alloc _⟩
      · have HX : Hid (s.take 20 = s) := List.take_of_length_le (by omega)
        rw [unhide HX]
        rcases hcase with rfl | ⟨rfl, hk0⟩
        all_goals
          go_enter Tryz.func37, Tryz.ntmps37
          go_wp2
          refine bodyPost_ret (v := ValA.v ⟨3, 0, s⟩) (by simp [results, go_sem, ValA.v]) rfl ?_
          exact ⟨rfl, ((hk.alloc _).alloc _).alloc _⟩

end Go.Proofs.YtajklagdjokojaaGreatDoor
