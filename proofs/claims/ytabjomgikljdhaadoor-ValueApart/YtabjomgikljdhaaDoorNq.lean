import Derived.Test.YtabjomgikljdhaaDoorNp
namespace Go.Proofs.YtabjomgikljdhaaDoor
open Go.RowKit Go.Maps

theorem mod6 (n : Int) : (if n.tmod 6 < 0 then n.tmod 6 + 6 else n.tmod 6) = n % 6 := by
  rw [Int.tmod_eq_emod]
  split <;> split <;> simp at * <;> omega

set_option maxRecDepth 100000 in
theorem mod_v (n : Int) (w : World) : Calls Tryd.prog 16 #[.int .i64 n, .int .i64 6] w fun e w' => e = .returned (.int .i64 (n % 6)) ∧ w' = w := by
  have HM := hide (mod6 n)
  have hb : -6 < n.tmod 6 ∧ n.tmod 6 < 6 := by
    rw [Int.tmod_eq_emod]
    split <;> simp at * <;> omega
  go_enter Tryd.func16, Tryd.ntmps16
  go_wp2
  all_goals (rename_i h; go_ret; refine ⟨ret_int ?_, rfl⟩; have := unhide HM; split at this <;> omega)

def fittedB (f : FieldA) (x : ValA) : ValA :=
  if f.opt = true ∧ x.kind = 0 then ⟨0, 0, []⟩ else if f.type = 1 then ⟨1, x.n, []⟩ else if f.type = 2 then ⟨2, x.n % 2, []⟩ else ⟨3, 0, x.s.take 20⟩

set_option maxRecDepth 100000 in
set_option maxHeartbeats 2000000 in
theorem fitted_v (f : FieldA) (x : ValA) (w : World) : Calls Tryd.prog 23 #[f.v, x.v] w fun e w' => e = .returned (fittedB f x).v ∧ Keeps (fun _ => False) w w' := by
  obtain ⟨nm, t, o⟩ := f
  obtain ⟨k, n, s⟩ := x
  unfold FieldA.v ValA.v
  simp only at *
  have hk : Keeps (fun _ => False) w w := Keeps.refl _ _
  by_cases h : o = true ∧ k = 0
  · obtain ⟨rfl, rfl⟩ := h
    have HE : Hid (fittedB ⟨nm, t, true⟩ ⟨0, n, s⟩ = ⟨0, 0, []⟩) := rfl
    go_enter Tryd.func23, Tryd.ntmps23
    go_wp2
    refine bodyPost_ret (v := ValA.v ⟨0, 0, []⟩) (by simp [results, go_sem, ValA.v]) rfl ?_
    rw [unhide HE]
    exact ⟨rfl, ((hk.alloc _).alloc _).alloc _⟩
  · have hg : (o && (k == 0)) = false := by
      apply Bool.eq_false_iff.2
      simp only [ne_eq, Bool.and_eq_true, beq_iff_eq]
      exact h
    have hcase : o = false ∨ (o = true ∧ (k == 0) = false) := by
      cases o with
      | false => exact Or.inl rfl
      | true => exact Or.inr ⟨rfl, by simpa using hg⟩
    by_cases h1' : t = 1
    · subst h1'
      have HE : Hid (fittedB ⟨nm, 1, o⟩ ⟨k, n, s⟩ = ⟨1, n, []⟩) := by show _ = _; unfold fittedB; rw [if_neg h, if_pos rfl]
      rw [unhide HE]
      clear h hg
      rcases hcase with rfl | ⟨rfl, hk0⟩
      all_goals
        go_enter Tryd.func23, Tryd.ntmps23
        go_wp2
        refine bodyPost_ret (v := ValA.v ⟨1, n, []⟩) (by simp [results, go_sem, ValA.v]) rfl ?_
        exact ⟨rfl, ((hk.alloc _).alloc _).alloc _⟩
    by_cases h2' : t = 2
    · subst h2'
      have HE : Hid (fittedB ⟨nm, 2, o⟩ ⟨k, n, s⟩ = ⟨2, n % 2, []⟩) := by show _ = _; unfold fittedB; rw [if_neg h, if_neg h1', if_pos rfl]
      rw [unhide HE]
      clear h hg
      have e2 : wrap64 ((IntKind.u64.wrap n).tmod 2) = n % 2 := by
        rw [IntKind.wrap_u64, Int.tmod_eq_emod_of_nonneg (by omega)]
        unfold wrap64
        omega
      rcases hcase with rfl | ⟨rfl, hk0⟩
      all_goals
        go_enter Tryd.func23, Tryd.ntmps23
        go_wp2
        refine bodyPost_ret (v := ValA.v ⟨2, n % 2, []⟩) (by simp [results, go_sem, ValA.v, e2]) rfl ?_
        exact ⟨rfl, ((hk.alloc _).alloc _).alloc _⟩
    · have HE : Hid (fittedB ⟨nm, t, o⟩ ⟨k, n, s⟩ = ⟨3, 0, s.take 20⟩) := by show _ = _; unfold fittedB; rw [if_neg h, if_neg h1', if_neg h2']
      rw [unhide HE]
      have h1b : (t == 1) = false := beq_eq_false_iff_ne.2 h1'
      have h2b : (t == 2) = false := beq_eq_false_iff_ne.2 h2'
      clear h hg h1' h2'
      by_cases hs : (20 : Int) < (s.length : Int)
      · have HX : Hid ((ByteArray.mk s.toArray).extract 0 20 = ⟨(s.take 20).toArray⟩) := by show _ = _; rw [ext_str]; rfl
        rcases hcase with rfl | ⟨rfl, hk0⟩
        all_goals
          go_enter Tryd.func23, Tryd.ntmps23
          go_wp2
          rw [unhide HX]
          refine bodyPost_ret (v := ValA.v ⟨3, 0, s.take 20⟩) (by simp [results, go_sem, ValA.v]) rfl ?_
          exact ⟨rfl, ((hk.alloc _).alloc _).alloc _⟩
      · have HX : Hid (s.take 20 = s) := List.take_of_length_le (by omega)
        rw [unhide HX]
        rcases hcase with rfl | ⟨rfl, hk0⟩
        all_goals
          go_enter Tryd.func23, Tryd.ntmps23
          go_wp2
          refine bodyPost_ret (v := ValA.v ⟨3, 0, s⟩) (by simp [results, go_sem, ValA.v]) rfl ?_
          exact ⟨rfl, ((hk.alloc _).alloc _).alloc _⟩

end Go.Proofs.YtabjomgikljdhaaDoor
