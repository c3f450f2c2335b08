import Derived.Test.YtlnkleicnkfkpaaDoorEm
namespace Go.Proofs.YtlnkleicnkfkpaaDoor
open Go.RowKit Go.Maps

def letB (c : Int) : Bool := decide (97 ≤ c) && decide (c ≤ 122) || decide (65 ≤ c) && decide (c ≤ 90) || decide (c = 95)
/-- May this byte stand at this place of a name? -/
def okc (k : Nat) (n : Int) : Bool := letB n || (decide (k ≠ 0) && digitB n)
def okB : Nat → Txt → Bool
  | _, [] => true
  | k, c :: r => okc k (num c) && okB (k + 1) r
theorem okB_all : ∀ (r : Txt) (k : Nat), okB (k + 1) r = r.all (fun c => partB (num c))
  | [], _ => rfl
  | c :: r, k => by
    rw [okB, okB_all r (k + 1), List.all_cons]
    congr 1
    apply Bool.eq_iff_iff.2
    simp [okc, letB, digitB, partB]
    omega
theorem nameB_ok (x : Txt) (h1 : 1 ≤ x.length) (h8 : x.length ≤ 8) (hk : x ∉ kws) : nameB x = okB 0 x := by
  cases x with
  | nil => simp at h1
  | cons c r =>
    rw [nameB_form (c :: r) c rfl h8, okB, okB_all, List.all_cons, decide_eq_false hk, Bool.not_false, Bool.and_true, ← Bool.and_assoc]
    congr 1
    apply Bool.eq_iff_iff.2
    simp [okc, letB, digitB, partB]
    omega
theorem nameB_no (x : Txt) (h : x.length < 1 ∨ 8 < x.length ∨ x ∈ kws) : nameB x = false := by
  unfold nameB
  rcases h with h | h | h
  · cases x with
    | nil => rfl
    | cons c r => simp at h
  · have : decide (x.length ≤ 8) = false := by simp; omega
    rw [this]
    simp
  · rw [decide_eq_true h]
    simp

set_option maxRecDepth 100000 in
set_option maxHeartbeats 1600000 in
theorem isName_v (x : Txt) (w : World) : Calls Tryd.prog 56 #[str x] w fun e w' => e = .returned (.bool (nameB x)) ∧ w' = w := by
  by_cases h1 : x.length < 1
  · rw [nameB_no x (Or.inl h1)]
    have g1 : (x.length : Int) < 1 := by omega
    go_enter Tryd.func56, Tryd.ntmps56
    go_wp2_with fail
    go_ret
    exact ⟨rfl, rfl⟩
  by_cases h8 : 8 < x.length
  · rw [nameB_no x (Or.inr (Or.inl h8))]
    have g1 : ¬ (x.length : Int) < 1 := by omega
    have g8 : (8 : Int) < (x.length : Int) := by omega
    go_enter Tryd.func56, Tryd.ntmps56
    go_wp2_with fail
    go_ret
    exact ⟨rfl, rfl⟩
  have HQ := hide (refKeyword_v x (by omega))
  have g1 : ¬ (x.length : Int) < 1 := by omega
  have g8 : ¬ (8 : Int) < (x.length : Int) := by omega
  by_cases hk : x ∈ kws
  · rw [nameB_no x (Or.inr (Or.inr hk))]
    rw [decide_eq_true hk] at HQ
    go_enter Tryd.func56, Tryd.ntmps56
    go_wp2_with (go_at_call 69; refine (unhide HQ _).mono ?_; rintro e w' ⟨rfl, rfl⟩)
    go_ret
    exact ⟨rfl, rfl⟩
  rw [nameB_ok x (by omega) (by omega) hk]
  rw [decide_eq_false hk] at HQ
  go_enter Tryd.func56, Tryd.ntmps56
  go_wp2_with (go_at_call 69; refine (unhide HQ _).mono ?_; rintro e w' ⟨rfl, rfl⟩)
  go_loopw [3] (fun i wr => ∃ k : Nat, k ≤ x.length ∧ i = .int .i64 k ∧ okB k (x.drop k) = okB 0 x ∧ wr = w') (fun i _ => x.length - (intOf i).toNat)
  case atStart => exact ⟨0, Nat.zero_le _, rfl, rfl, rfl⟩
  case round =>
    obtain ⟨k, hkl, rfl, hok, rfl⟩ := hrel
    have HOK := hide hok
    clear hok
    cases hc : x[k]? with
    | none =>
      have := get_ge hc
      have i1 : ¬ (k : Int) < (x.length : Int) := by omega
      have HZ : Hid (okB 0 x = true) := by
        have h := unhide HOK
        rw [List.drop_eq_nil_of_le this] at h
        exact h.symm
      go_wp2_with fail
      go_ret
      exact ⟨ret_bool (unhide HZ).symm, rfl⟩
    | some c =>
      have hlt := get_lt hc
      have hs := str_at hc
      have i1 : (k : Int) < (x.length : Int) := by omega
      have i0 : (0 : Int) ≤ (k : Int) := by omega
      have HO : Hid ((okc k (num c) && okB (k + 1) (x.drop (k + 1))) = okB 0 x) := by
        have h := unhide HOK
        rw [drop_at hc, okB] at h
        exact h
      obtain ⟨n, hn⟩ : ∃ n, n = num c := ⟨_, rfl⟩
      clear HOK
      go_wp2_with fail
      all_goals first
        | (go_ret; refine ⟨ret_bool ?_, rfl⟩; rw [← unhide HO]; (suffices h : okc k (num c) = false by rw [h]; rfl); clear HO HQ hs hc; apply Bool.eq_false_iff.2; have hn2 : n = (c.toNat : Int) := hn; rw [← hn]; simp only [okc, letB, digitB, Bool.or_eq_true, Bool.and_eq_true, decide_eq_true_eq, ne_eq]; omega)
        | (go_ret; refine ⟨ret_bool ?_, rfl⟩; rw [← unhide HO]; (suffices h : okc k (num c) = false by rw [h]; rfl); clear HO HQ hs hc; apply Bool.eq_false_iff.2; have h57 : ¬ (c.toNat : Int) ≤ 57 := (by rcases (by assumption : (!((c.toNat : Int) == 95)) = true ∧ (((k : Int) == 0) = true ∨ (!decide ((c.toNat : Int) ≤ 57)) = true)) with ⟨_, h | h⟩ <;> simp at h <;> omega); have hn2 : n = (c.toNat : Int) := hn; rw [← hn]; simp only [okc, letB, digitB, Bool.or_eq_true, Bool.and_eq_true, decide_eq_true_eq, ne_eq]; omega)
        | (go_roundw
           case rel =>
             refine ⟨k + 1, by omega, by go_num, ?_, trivial⟩
             rw [← unhide HO]
             (suffices h : okc k (num c) = true by rw [h]; rfl)
             clear HO HQ hs hc
             first
               | (have hn2 : n = (c.toNat : Int) := hn; rw [← hn]; simp only [okc, letB, digitB, Bool.or_eq_true, Bool.and_eq_true, decide_eq_true_eq, ne_eq]; omega)
               | (exfalso; simp at *; omega)
               | (simp at *; have hn2 : n = (c.toNat : Int) := hn; rw [← hn]; simp only [okc, letB, digitB, Bool.or_eq_true, Bool.and_eq_true, decide_eq_true_eq, ne_eq]; omega)
           case measure => (simp [intOf]; omega))
end Go.Proofs.YtlnkleicnkfkpaaDoor
