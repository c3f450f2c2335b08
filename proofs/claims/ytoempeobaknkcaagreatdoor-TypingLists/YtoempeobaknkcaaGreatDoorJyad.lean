import Derived.Test.YtoempeobaknkcaaGreatDoorJyab
namespace Go.Proofs.YtoempeobaknkcaaGreatDoor
open Go.RowKit Go.Maps

def letB (c : Int) : Bool := decide (97 ≤ c) && decide (c ≤ 122) || decide (65 ≤ c) && decide (c ≤ 90) || decide (c = 95)
/-- May this byte stand at this place of a name? -/
def okc (k : Nat) (n : Int) : Bool := letB n || (decide (k ≠ 0) && digitB n)
def okB : Nat → Txt → Bool
  | _, [] => true
  | k, c :: r => okc k (num c) && okB (k + 1) r
theorem okB_all : ∀ (r : Txt) (k : Nat), okB (k + 1) r = r.all (fun c => partB (num c))
  | [], _ => rfl
  | c :: r, k => by
    rw [okB, okB_all r (k + 1), List.all_cons]
    congr 1
    apply Bool.eq_iff_iff.2
    simp [okc, letB, digitB, partB]
    omega
theorem nameB_ok (x : Txt) (h1 : 1 ≤ x.length) (h8 : x.length ≤ 8) (hk : x ∉ kws) : nameB x = okB 0 x := by
  cases x with
  | nil => simp at h1
  | cons c r =>
    rw [nameB_form (c :: r) c rfl h8, okB, okB_all, List.all_cons, decide_eq_false hk, Bool.not_false, Bool.and_true, ← Bool.and_assoc]
    congr 1
    apply Bool.eq_iff_iff.2
    simp [okc, letB, digitB, partB]
    omega
theorem nameB_no (x : Txt) (h : x.length < 1 ∨ 8 < x.length ∨ x ∈ kws) : nameB x = false := by
  unfold nameB
  rcases h with h | h | h
  · cases x with
    | nil => rfl
    | cons c r => simp at h
  · have : decide (x.length ≤ 8) = false := by simp; omega
    rw [this]
    simp
  · rw [decide_eq_true h]
    simp

set_option maxRecDepth 100000 in
set_option maxHeartbeats 1600000 in
theorem isName_v (x : Txt) (w : World) : Calls Tryz.prog 102 #[str x] w fun e w' => e = .returned (.bool (nameB x)) ∧ w' = w := by
  by_cases h1 : x.length < 1
  · rw [nameB_no x (Or.inl h1)]
    have g1 : (x.length : Int) < 1 := by omega
    go_enter Tryz.func102, Tryz.ntmps102
    go_wp2_with fail
    go_ret
    exact ⟨rfl, rfl⟩
  by_cases h8 : 8 < x.length
  · rw [nameB_no x (Or.inr (Or.inl h8))]
    have g1 : ¬ (x.length : Int) < 1 := by omega
    have g8 : (8 : Int) < (x.length : Int) := by omega
    go_enter Tryz.func102, Tryz.ntmps102
    go_wp2_with fail
    go_ret
    exact ⟨rfl, rfl⟩
  have HQ := hide (refKeyword_v x (by omega))
  have g1 : ¬ (x.length : Int) < 1 := by omega
  have g8 : ¬ (8 : Int) < (x.length : Int) := by omega
  by_cases hk : x ∈ kws
  · rw [nameB_no x (Or.inr (Or.inr hk))]
    rw [decide_eq_true hk] at HQ
    go_enter Tryz.func102, Tryz.ntmps102
    go_wp2_with (go_at_call 105; refine (unhide HQ _).mono ?_; rintro e w' ⟨rfl, rfl⟩)
    go_ret
    exact ⟨rfl, rfl⟩
  rw [nameB_ok x (by omega) (by omega) hk]
  rw [decide_eq_false hk] at HQ
  go_enter Tryz.func102, Tryz.ntmps102
  go_wp2_with (go_at_call 105; refine (unhide HQ _).mono ?_; rintro e w' ⟨rfl, rfl⟩)
  go_loopw [3] (fun i wr => ∃ k : Nat, k ≤ x.length ∧ i = .int .i64 k ∧ okB k (x.drop k) = okB 0 x ∧ wr = w') (fun i _ => x.length - (intOf i).toNat)
  case atStart => exact ⟨0, Nat.zero_le _, rfl, rfl, rfl⟩
  case round =>
    obtain ⟨k, hkl, rfl, hok, rfl⟩ := hrel
    have HOK := hide hok
    clear hok
    cases hc : x[k]? with
    | none =>
      have := get_ge hc
      have i1 : ¬ (k : Int) < (x.length : Int) := by omega
      have HZ : Hid (okB 0 x = true) := by
        have h := unhide HOK
        rw [List.drop_eq_nil_of_le this] at h
        exact h.symm
      go_wp2_with fail
      go_ret
      exact ⟨ret_bool (unhide HZ).symm, rfl⟩
    | some c =>
      have hlt := get_lt hc
      have hs := str_at hc
      have i1 : (k : Int) < (x.length : Int) := by omega
      have i0 : (0 : Int) ≤ (k : Int) := by omega
      have HO : Hid ((okc k (num c) && okB (k + 1) (x.drop (k + 1))) = okB 0 x) := by
        have h := unhide HOK
        rw [drop_at hc, okB] at h
        exact h
      obtain ⟨n, hn⟩ : ∃ n, n = num c := ⟨_, rfl⟩
      clear HOK
      go_wp2_with fail
      all_goals first
        | (go_ret; refine ⟨ret_bool ?_, rfl⟩; rw [← unhide HO]; (suffices h : okc k (num c) = false by rw [h]; rfl); clear HO HQ hs hc; apply Bool.eq_false_iff.2; have hn2 : n = (c.toNat : Int) := hn; rw [← hn]; simp only [okc, letB, digitB, Bool.or_eq_true, Bool.and_eq_true, decide_eq_true_eq, ne_eq]; omega)
        | (go_ret; refine ⟨ret_bool ?_, rfl⟩; rw [← unhide HO]; (suffices h : okc k (num c) = false by rw [h]; rfl); clear HO HQ hs hc; apply Bool.eq_false_iff.2; have h57 : ¬ (c.toNat : Int) ≤ 57 := (by rcases (by assumption : (!((c.toNat : Int) == 95)) = true ∧ (((k : Int) == 0) = true ∨ (!decide ((c.toNat : Int) ≤ 57)) = true)) with ⟨_, h | h⟩ <;> simp at h <;> omega); have hn2 : n = (c.toNat : Int) := hn; rw [← hn]; simp only [okc, letB, digitB, Bool.or_eq_true, Bool.and_eq_true, decide_eq_true_eq, ne_eq]; omega)
        | (go_roundw
           case rel =>
             refine ⟨k + 1, by omega, by go_num, ?_, trivial⟩
             rw [← unhide HO]
             (suffices h : okc k (num c) = true by rw [h]; rfl)
             clear HO HQ hs hc
             first
               | (have hn2 : n = (c.toNat : Int) := hn; rw [← hn]; simp only [okc, letB, digitB, Bool.or_eq_true, Bool.and_eq_true, decide_eq_true_eq, ne_eq]; omega)
               | (exfalso; simp at *; omega)
               | (simp at *; have hn2 : n = (c.toNat : Int) := hn; rw [← hn]; simp only [okc, letB, digitB, Bool.or_eq_true, Bool.and_eq_true, decide_eq_true_eq, ne_eq]; omega)
           case measure => (simp [intOf]; omega))
end Go.Proofs.YtoempeobaknkcaaGreatDoor
namespace Go.Proofs.YtoempeobaknkcaaGreatDoor
open Go.RowKit Go.Maps

set_option maxRecDepth 100000 in
set_option maxHeartbeats 800000 in
theorem kids_v (op : Int) (w : World) : Calls Tryz.prog 106 #[.int .i64 op] w fun e w' => e = .returned (.int .i64 (kidsB op)) ∧ w' = w := by
  go_enter Tryz.func106, Tryz.ntmps106
  go_wp2_with fail
  all_goals (go_ret; refine ⟨ret_int ?_, rfl⟩; unfold kidsB; (repeat' split) <;> first | rfl | (exfalso; simp_all; done) | (exfalso; simp_all; omega) | (exfalso; omega))

set_option maxRecDepth 100000 in
set_option maxHeartbeats 1600000 in
theorem leaf_v (op n : Int) (s : Txt) (kv : Value) (w : World) (hkv : ∃ ao k cap, kv = .slice ao k cap) :
    Calls Tryz.prog 107 #[exV op n s kv] w fun e w' => e = .returned (.bool (leafB op n s)) ∧ Keeps (fun _ => False) w w' := by
  obtain ⟨ao, k, cap, rfl⟩ := hkv
  obtain ⟨HX, hxb, hxc⟩ := boxedT w #[.int .i64 op, .int .i64 n, str s, .slice ao k cap] 57
  have c0 := hxc 0 (.int .i64 op) rfl
  have c1 := hxc 1 (.int .i64 n) rfl
  have c2 := hxc 2 (str s) rfl
  have HN := hide (isName_v s)
  clear hxc
  unfold leafB
  by_cases h1 : op = 1
  · subst h1
    rw [if_pos rfl]
    go_enter Tryz.func107, Tryz.ntmps107
    go_wp2_with fail
    all_goals (go_ret; refine ⟨ret_bool ?_, (Keeps.refl _ w).alloc _⟩; clear HX c0 c1 c2 HN hxb; cases s <;> simp)
  rw [if_neg h1]
  by_cases h2 : op = 2
  · subst h2
    rw [if_pos rfl]
    go_enter Tryz.func107, Tryz.ntmps107
    go_wp2_with fail
    all_goals (go_ret; refine ⟨ret_bool ?_, (Keeps.refl _ w).alloc _⟩; clear HX c0 c1 c2 HN hxb; first | (cases s <;> simp_all; done) | (cases s <;> simp_all <;> (apply Bool.eq_iff_iff.2; simp; omega)))
  rw [if_neg h2]
  by_cases h3 : op = 3
  · subst h3
    rw [if_pos rfl]
    go_enter Tryz.func107, Tryz.ntmps107
    go_wp2_with fail
    all_goals (go_ret; refine ⟨ret_bool ?_, (Keeps.refl _ w).alloc _⟩; clear HX c0 c1 c2 HN hxb; first | (simp_all; done) | (simp_all; omega))
  rw [if_neg h3]
  by_cases h4 : op = 4
  · subst h4
    rw [if_pos (by omega)]
    go_enter Tryz.func107, Tryz.ntmps107
    go_wp2_with (go_at_call 102; refine (unhide HN _).mono ?_; rintro e w1 ⟨rfl, rfl⟩)
    all_goals (go_ret; refine ⟨ret_bool ?_, (Keeps.refl _ w).alloc _⟩; clear HX c0 c1 c2 HN hxb; simp_all)
  by_cases h5 : op = 5
  · subst h5
    rw [if_pos (by omega)]
    go_enter Tryz.func107, Tryz.ntmps107
    go_wp2_with (go_at_call 102; refine (unhide HN _).mono ?_; rintro e w1 ⟨rfl, rfl⟩)
    all_goals (go_ret; refine ⟨ret_bool ?_, (Keeps.refl _ w).alloc _⟩; clear HX c0 c1 c2 HN hxb; simp_all)
  rw [if_neg (by omega)]
  have d1 : (op == 1) = false := by simpa using h1
  have d2 : (op == 2) = false := by simpa using h2
  have d3 : (op == 3) = false := by simpa using h3
  have d4 : (op == 4) = false := by simpa using h4
  have d5 : (op == 5) = false := by simpa using h5
  clear h1 h2 h3 h4 h5
  go_enter Tryz.func107, Tryz.ntmps107
  go_wp2_with (go_at_call 102; refine (unhide HN _).mono ?_; rintro e w1 ⟨rfl, rfl⟩)
  all_goals (go_ret; refine ⟨ret_bool ?_, (Keeps.refl _ w).alloc _⟩; clear HX c0 c1 c2 HN hxb; cases s <;> simp_all)
end Go.Proofs.YtoempeobaknkcaaGreatDoor
namespace Go.Proofs.YtoempeobaknkcaaGreatDoor
open Go.RowKit Go.Maps

set_option maxRecDepth 100000 in
set_option maxHeartbeats 1600000 in
theorem wellExpr_v (Z : Zone) (N : Nat) : ∀ (kids : EL), kids.size < N → kids.size ≤ 4294967294 → ∀ (op n : Int) (s : Txt) (w : World) (up : Nat) (v : Value), SlE Z w up v kids →
    Calls Tryz.prog 103 #[exV op n s v] w fun e w' => e = .returned (.bool (rootB op n s kids.len && wellE kids)) ∧ Keeps (fun _ => False) w w' := by
  induction N with
  | zero => intro l h; omega
  | succ N ih =>
    intro l hsz hlen' op n s w up v hS
    have hlen : l.len ≤ 4294967294 := by have := EL.len_le l; omega
    obtain ⟨ao, cap, b, off, rfl, hcap, ha, hx⟩ := hS.open
    obtain ⟨HB, hxb, hxc⟩ := boxedT w #[.int .i64 op, .int .i64 n, str s, .slice ao l.len cap] 57
    have c0 := hxc 0 (.int .i64 op) rfl
    have c1 := hxc 1 (.int .i64 n) rfl
    have c2 := hxc 2 (str s) rfl
    have c3 := hxc 3 (.slice ao l.len cap) rfl
    have IH := hide ih
    have HX := hide hx
    have HA := hide ha
    have HLF := hide (leaf_v op n s (.slice ao l.len cap) (w.alloc (.cells #[.int .i64 op, .int .i64 n, str s, .slice ao l.len cap] 57)) ⟨_, _, _, rfl⟩)
    have HKI := hide (kids_v op (w.alloc (.cells #[.int .i64 op, .int .i64 n, str s, .slice ao l.len cap] 57)))
    clear hS ih hx ha hxc
    unfold rootB
    by_cases hk0 : 0 ≤ kidsB op
    · rw [decide_eq_true hk0, Bool.true_and]
      by_cases hkk : (l.len : Int) = kidsB op
      · rw [decide_eq_true hkk, Bool.true_and]
        generalize kidsB op = K at *
        subst hkk
        cases hlf : leafB op n s with
        | false =>
          rw [hlf] at HLF
          rw [Bool.false_and]
          go_enter Tryz.func103, Tryz.ntmps103
          go_wp2_with (first
            | (go_at_call 106; refine (unhide HKI).mono ?_; rintro e w1 ⟨rfl, rfl⟩)
            | (go_at_call 107; refine (unhide HLF).mono ?_; rintro e w2 ⟨rfl, hk2⟩))
          go_ret
          exact ⟨rfl, (unhide HB).trans hk2⟩
        | true =>
          rw [hlf] at HLF
          rw [Bool.true_and]
          go_enter Tryz.func103, Tryz.ntmps103
          go_wp2_with (first
            | (go_at_call 106; refine (unhide HKI).mono ?_; rintro e w1 ⟨rfl, rfl⟩)
            | (go_at_call 107; refine (unhide HLF).mono ?_; rintro e w2 ⟨rfl, hk2⟩; have HK2 := hide hk2; clear hk2))
          go_loopw [4] (fun i wr => ∃ (rest : EL) (k : Nat), i = .int .i64 k ∧ k + rest.len = l.len ∧ rest.size ≤ l.size ∧ wellE rest = wellE l ∧ Keeps (fun _ => False) (w.alloc (.cells #[.int .i64 op, .int .i64 n, str s, .slice ao l.len cap] 57)) wr ∧ ExIn Z wr rest b (off + k * 4)) (fun i _ => l.len - (intOf i).toNat)
          case atStart => exact ⟨l, 0, rfl, by omega, Nat.le_refl _, rfl, unhide HK2, by simpa using (unhide HX).keepF ((unhide HB).trans (unhide HK2))⟩
          case round =>
            obtain ⟨rest, k, rfl, hkl, hrs, hwe, hkeep, hr⟩ := hrel
            have q3 := (hkeep.cell (o := 3) hxb id).trans c3
            have HK := hide hkeep
            clear HK2 hkeep
            cases rest with
            | nil =>
              simp only [EL.len, EL.size, wellE] at hkl hrs hwe
              have HWE := hide hwe
              clear hr hwe
              have i1 : ¬ (k : Int) < (l.len : Int) := by omega
              go_wp2_with fail
              go_ret
              exact ⟨ret_bool (by first | exact unhide HWE | exact (unhide HWE).symm), (unhide HB).trans (unhide HK)⟩
            | cons op' n' s' kids rest =>
              obtain ⟨h1, h2, h3, h4, h5, ⟨kao, kcap, h6, h7, h8⟩, h9⟩ := hr
              simp only [EL.len, EL.size, wellE] at hkl hrs hwe
              obtain ⟨rfl, hp⟩ := (unhide HA) (by omega)
              have HKID : Hid (SlE Z wr b (.slice kao kids.len kcap) kids) := ⟨kao, kcap, rfl, h7, h8⟩
              have HR := hide h9
              have HWE := hide hwe
              have i1 : (k : Int) < (l.len : Int) := by omega
              have i0 : (0 : Int) ≤ (k : Int) := by omega
              have HKD := hide (unhide IH kids (by omega) (by omega) op' n' s' wr b (.slice kao kids.len kcap) (unhide HKID))
              clear h2 h8 h9 hwe
              rw [← Bool.and_assoc] at HWE
              cases hv : (rootB op' n' s' kids.len && wellE kids) with
              | false =>
                rw [hv] at HKD HWE
                go_wp2_with (go_at_call 103; refine (unhide HKD).mono ?_; rintro e w1 ⟨rfl, hk1⟩)
                go_ret
                exact ⟨ret_bool (by have := unhide HWE; simpa using this), ((unhide HB).trans (unhide HK)).trans hk1⟩
              | true =>
                rw [hv] at HKD HWE
                go_wp2_with (go_at_call 103; refine (unhide HKD).mono ?_; rintro e w1 ⟨rfl, hk1⟩; have HK1 := hide hk1; clear hk1)
                go_roundw
                case rel =>
                  refine ⟨rest, k + 1, by go_num, by omega, by omega, by have := unhide HWE; simpa using this, (unhide HK).trans (unhide HK1), ?_⟩
                  rw [show off + (k + 1) * 4 = off + k * 4 + 4 by omega]
                  exact (unhide HR).keepF (unhide HK1)
                case measure => simp [intOf]; omega
      · rw [decide_eq_false hkk, Bool.false_and, Bool.false_and]
        generalize kidsB op = K at *
        have d1 : ((l.len : Int) != K) = true := by simpa using hkk
        have d0 : ¬ K < 0 := by omega
        clear hkk
        go_enter Tryz.func103, Tryz.ntmps103
        go_wp2_with (go_at_call 106; refine (unhide HKI).mono ?_; rintro e w1 ⟨rfl, rfl⟩)
        all_goals (go_ret; exact ⟨rfl, unhide HB⟩)
    · rw [decide_eq_false hk0, Bool.false_and, Bool.false_and]
      generalize kidsB op = K at *
      have d0 : K < 0 := by omega
      go_enter Tryz.func103, Tryz.ntmps103
      go_wp2_with (go_at_call 106; refine (unhide HKI).mono ?_; rintro e w1 ⟨rfl, rfl⟩)
      all_goals (go_ret; exact ⟨rfl, unhide HB⟩)
end Go.Proofs.YtoempeobaknkcaaGreatDoor
