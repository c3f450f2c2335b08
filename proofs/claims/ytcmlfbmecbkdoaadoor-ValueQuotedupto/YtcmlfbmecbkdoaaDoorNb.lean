import Derived.Test.YtcmlfbmecbkdoaaDoorNa
import Derived.Test.YtcmlfbmecbkdoaaDoorJ
namespace Go.Proofs.YtcmlfbmecbkdoaaDoor
open Go.RowKit Go.Maps

/-- How many bytes at the head of a text may stand in a name. -/
def runB (x : Txt) : Nat := scan x (fun c => partB (num c)) 0

set_option maxRecDepth 100000 in
theorem run_v (x : Txt) (hx : x.length ≤ 1099511627776) (w : World) : Calls Tryd.prog 62 #[str x] w fun e w' => e = .returned (.int .i64 (runB x)) ∧ w' = w := by
  go_enter Tryd.func62, Tryd.ntmps62
  go_wp2
  go_loopw [6] (fun i wr => ∃ k : Nat, k ≤ x.length ∧ i = .int .i64 k ∧ Hid (runB x = scan x (fun c => partB (num c)) k) ∧ wr = w) (fun i _ => x.length - (intOf i).toNat)
  case atStart => exact ⟨0, by omega, rfl, rfl, rfl⟩
  case round =>
    obtain ⟨k, hk, rfl, HS, rfl⟩ := hrel
    cases h : x[k]? with
    | none =>
      have h1 := get_ge h
      obtain rfl : k = x.length := by omega
      have HH := hide h
      clear h
      go_wp2
      go_ret
      exact ⟨ret_int (by rw [unhide HS, scan_none (unhide HH)]), rfl⟩
    | some y =>
      have h1 := get_lt h
      have q := str_at h
      have HH := hide h
      clear h
      have e1 : (y.toNat : Int) = num y := rfl
      go_wp2_with fail
      refine (inRun_any (num y) wr).mono ?_
      rintro e w1 ⟨rfl, rfl⟩
      cases hp : partB (num y) with
      | true =>
        go_wp2
        go_roundw
        case rel => exact ⟨k + 1, by omega, by go_num, (unhide HS).trans (scan_go (unhide HH) hp), trivial⟩
        case measure => simp [intOf]; omega
      | false =>
        go_wp2
        go_ret
        exact ⟨ret_int (by rw [unhide HS, scan_stop (unhide HH) hp]), rfl⟩

theorem takeWhile_all {p : UInt8 → Bool} : ∀ l : Txt, ((l.takeWhile p).length = l.length) = (l.all p = true)
  | [] => by simp
  | c :: r => by
    cases h : p c
    · simp [h]
    · have := takeWhile_all (p := p) r
      simp only [List.takeWhile_cons, h, List.length_cons, List.all_cons, Bool.true_and, if_true]
      rw [← this]
      simp
theorem runB_full (x : Txt) : ((runB x : Int) == (x.length : Int)) = x.all (fun c => partB (num c)) := by
  have h := takeWhile_all (p := fun c => partB (num c)) x
  unfold runB scan
  rw [List.drop_zero, Nat.zero_add]
  apply Bool.eq_iff_iff.2
  rw [beq_iff_eq, ← h]
  omega

theorem nameB_form (x : Txt) (c : UInt8) (h : x[0]? = some c) (h8 : x.length ≤ 8) : nameB x = (!digitB (num c) && (x.all (fun c => partB (num c)) && !decide (x ∈ kws))) := by
  unfold nameB digitB
  have : x ≠ [] := by rintro rfl; simp at h
  rw [h, decide_eq_true h8, decide_eq_true this]
  simp [Bool.and_assoc]

set_option maxRecDepth 100000 in
set_option maxHeartbeats 1000000 in
theorem name_v (x : Txt) (w : World) : Calls Tryd.prog 47 #[str x] w fun e w' => e = .returned (.bool (nameB x)) ∧ w' = w := by
  cases h : x[0]? with
  | none =>
    obtain rfl : x = [] := List.eq_nil_of_length_eq_zero (by have := get_ge h; omega)
    go_enter Tryd.func47, Tryd.ntmps47
    go_wp2
    go_ret
    exact ⟨rfl, rfl⟩
  | some c =>
    have h1 := get_lt h
    have q := str_at h
    have e1 : (c.toNat : Int) = num c := rfl
    by_cases hl : (8 : Int) < (x.length : Int)
    · have HN : Hid (nameB x = false) := by show _ = _; unfold nameB; rw [show decide (x.length ≤ 8) = false from decide_eq_false (by omega)]; simp
      clear h
      go_enter Tryd.func47, Tryd.ntmps47
      go_wp2
      go_ret
      exact ⟨ret_bool (unhide HN).symm, rfl⟩
    have hl2 : (x.length : Int) ≤ 8 := by omega
    have HN := hide (nameB_form x c h (by omega))
    have HR := hide (run_v x (by omega) w)
    have HK := hide (keyword_v x w)
    have HD := hide (digit_any (num c) w)
    have HF := hide (runB_full x)
    generalize nameB x = N at *
    generalize digitB (num c) = D at *
    generalize x.all (fun c => partB (num c)) = P at *
    generalize decide (x ∈ kws) = K at *
    clear h hl
    go_enter Tryd.func47, Tryd.ntmps47
    go_wp2_with fail
    refine (unhide HD).mono ?_
    rintro e w' ⟨rfl, rfl⟩
    cases D with
    | true =>
      go_wp2_with fail
      go_ret
      exact ⟨ret_bool (unhide HN).symm, rfl⟩
    | false =>
      go_wp2_with fail
      refine (unhide HR).mono ?_
      rintro e w' ⟨rfl, rfl⟩
      have hf := unhide HF
      cases P with
      | false =>
        go_wp2_with fail
        go_ret
        exact ⟨ret_bool (unhide HN).symm, rfl⟩
      | true =>
        go_wp2_with fail
        refine (unhide HK).mono ?_
        rintro e w' ⟨rfl, rfl⟩
        go_wp2_with fail
        go_ret
        exact ⟨ret_bool (by rw [unhide HN]; cases K <;> rfl), rfl⟩

theorem typeB (t : Int) : (t == 1 || t == 2 || t == 3) = decide (0 ≤ wideB t) := by
  unfold wideB
  apply Bool.eq_iff_iff.2
  simp only [Bool.or_eq_true, beq_iff_eq, decide_eq_true_eq]
  repeat' split
  all_goals omega

set_option maxRecDepth 100000 in
theorem isType_v (t : Int) (w : World) : Calls Tryd.prog 48 #[.int .i64 t] w fun e w' => e = .returned (.bool (decide (0 ≤ wideB t))) ∧ w' = w := by
  go_enter Tryd.func48, Tryd.ntmps48
  go_wp2
  all_goals (go_ret; refine ⟨ret_bool ?_, rfl⟩; rw [← typeB]; try simp_all)

end Go.Proofs.YtcmlfbmecbkdoaaDoor
