import Derived.Test.YtbgapbaeegloaaaDoorLe
namespace Go.Proofs.YtbgapbaeegloaaaDoor
open Go.RowKit Go.Maps

set_option maxRecDepth 100000 in
set_option maxHeartbeats 2000000 in
theorem rrun_v (x : Txt) (hx : x.length ≤ 1099511627776) (w : World) : Calls Tryd.prog 43 #[str x, .int .i64 0] w fun e w' => e = .returned (str (x.take (runB x))) ∧ w' = w := by
  obtain ⟨D, HD⟩ : ∃ D, Hid (runB x = D) := ⟨_, rfl⟩
  rw [unhide HD]
  go_enter Tryd.func43, Tryd.ntmps43
  go_wp2_with fail
  go_loopw [5] (fun i wr => ∃ k : Nat, k ≤ x.length ∧ i = .int .i64 k ∧ Hid (D = scan x (fun c => partB (num c)) k) ∧ wr = w) (fun i _ => x.length - (intOf i).toNat)
  case atStart => exact ⟨0, Nat.zero_le _, rfl, (unhide HD).symm, rfl⟩
  case round =>
    obtain ⟨k, hk, rfl, HK, rfl⟩ := hrel
    have hsl : (ByteArray.mk x.toArray).extract 0 k = ⟨(x.take k).toArray⟩ := by rw [ext_str]; simp
    cases hy : x[k]? with
    | none =>
      have h1 := get_ge hy
      obtain rfl : k = x.length := by omega
      have HE : Hid (D = x.length) := by show _ = _; rw [unhide HK, scan_none hy]
      clear hy h1
      go_wp2_with fail
      go_ret
      exact ⟨by rw [unhide HE, List.take_length]; rfl, rfl⟩
    | some c =>
      have h1 := get_lt hy
      have q := str_at hy
      have e1 : (c.toNat : Int) = num c := rfl
      have HY := hide hy
      have hk1 : (k : Int) < (x.length : Int) := by omega
      clear hy
      have HL := hide (rletter_v (num c))
      have HG := hide (rdigit_v (num c))
      have HP := hide (part_split (num c))
      cases hl : letterB (num c) with
      | true =>
        have HT : Hid (D = scan x (fun c => partB (num c)) (k + 1)) := by show _ = _; rw [unhide HK]; exact scan_go (unhide HY) (by rw [unhide HP, hl]; rfl)
        rw [hl] at HL
        clear hl HP
        go_wp2_with (first | (go_at_call 55; refine (unhide HL _).mono ?_; rintro e w1 ⟨rfl, rfl⟩) | (go_at_call 42; refine (unhide HG _).mono ?_; rintro e w1 ⟨rfl, rfl⟩))
        go_roundw
        case rel => exact ⟨k + 1, by omega, by go_num, unhide HT, trivial⟩
        case measure => simp [intOf]; omega
      | false =>
        rw [hl] at HL
        cases hd : digitB (num c) with
        | true =>
          have HT : Hid (D = scan x (fun c => partB (num c)) (k + 1)) := by show _ = _; rw [unhide HK]; exact scan_go (unhide HY) (by rw [unhide HP, hl, hd]; rfl)
          rw [hd] at HG
          clear hl hd HP
          go_wp2_with (first | (go_at_call 55; refine (unhide HL _).mono ?_; rintro e w1 ⟨rfl, rfl⟩) | (go_at_call 42; refine (unhide HG _).mono ?_; rintro e w1 ⟨rfl, rfl⟩))
          go_roundw
          case rel => exact ⟨k + 1, by omega, by go_num, unhide HT, trivial⟩
          case measure => simp [intOf]; omega
        | false =>
          have HE : Hid (D = k) := by show _ = _; rw [unhide HK]; exact scan_stop (unhide HY) (by rw [unhide HP, hl, hd]; rfl)
          rw [hd] at HG
          clear hl hd HP
          go_wp2_with (first | (go_at_call 55; refine (unhide HL _).mono ?_; rintro e w1 ⟨rfl, rfl⟩) | (go_at_call 42; refine (unhide HG _).mono ?_; rintro e w1 ⟨rfl, rfl⟩))
          go_ret
          exact ⟨by rw [unhide HE]; rfl, rfl⟩

theorem run_self (x : Txt) : (x.take (runB x) == x) = x.all (fun c => partB (num c)) := by
  have h := runB_full x
  have hle : runB x ≤ x.length := scan_le x _ 0 (Nat.zero_le _)
  rw [← h]
  apply Bool.eq_iff_iff.2
  simp only [beq_iff_eq]
  constructor
  · intro e
    have := congrArg List.length e
    rw [List.length_take] at this
    omega
  · intro e
    exact List.take_of_length_le (by omega)

set_option maxRecDepth 100000 in
set_option maxHeartbeats 2000000 in
theorem rname_v (x : Txt) (w : World) : Calls Tryd.prog 29 #[str x] w fun e w' => e = .returned (.bool (nameB x)) ∧ w' = w := by
  cases x with
  | nil =>
    go_enter Tryd.func29, Tryd.ntmps29
    go_wp2
    go_ret
    exact ⟨rfl, rfl⟩
  | cons c r =>
    have hq := str_at (t := c :: r) (k := 0) (c := c) rfl
    have hne : ((c :: r : Txt) == []) = false := rfl
    have HF := fun h => hide (nameB_form (c :: r) c rfl h)
    have HS := hide (run_self (c :: r))
    generalize hx : (c :: r : Txt) = x at *
    have HX := hide hx
    clear hx
    by_cases h8 : x.length ≤ 8
    · have H := HF h8
      have hR := hide (rrun_v x (by omega) w)
      have hK := hide (refKeyword_v x (by omega) w)
      have HG := hide (rdigit_v (num c))
      have e1 : (c.toNat : Int) = num c := rfl
      have h8' : ¬ (8 : Int) < (x.length : Int) := by omega
      have h0 : (0 : Int) < (x.length : Int) := by rw [← unhide HX]; simp
      clear HF
      generalize nameB x = N at *
      generalize digitB (num c) = G at *
      generalize decide (x ∈ kws) = K at *
      generalize x.all (fun c => partB (num c)) = A at *
      generalize x.take (runB x) = T at *
      cases G with
      | true =>
        go_enter Tryd.func29, Tryd.ntmps29
        go_wp2_with (go_at_call 42; refine (unhide HG _).mono ?_; rintro e w1 ⟨rfl, rfl⟩)
        go_ret
        exact ⟨ret_bool (by rw [unhide H]; rfl), rfl⟩
      | false =>
        go_enter Tryd.func29, Tryd.ntmps29
        go_wp2_with (go_at_call 42; refine (unhide HG _).mono ?_; rintro e w1 ⟨rfl, rfl⟩)
        refine (unhide hK).mono ?_
        rintro e w1 ⟨rfl, rfl⟩
        cases hA : (T == x) with
        | true =>
          have HA : Hid (A = true) := by show _ = _; rw [← unhide HS, hA]
          go_wp2_with (go_at_call 43; refine (unhide hR).mono ?_; rintro e w1 ⟨rfl, rfl⟩)
          go_ret
          exact ⟨ret_bool (by rw [unhide H, unhide HA]; cases K <;> rfl), rfl⟩
        | false =>
          have HA : Hid (A = false) := by show _ = _; rw [← unhide HS, hA]
          go_wp2_with (go_at_call 43; refine (unhide hR).mono ?_; rintro e w1 ⟨rfl, rfl⟩)
          go_ret
          exact ⟨ret_bool (by rw [unhide H, unhide HA]; cases K <;> rfl), rfl⟩
    · have h8' : (8 : Int) < (x.length : Int) := by omega
      have HN : Hid (nameB x = false) := by show _ = _; unfold nameB; rw [decide_eq_false h8]; simp
      generalize nameB x = N at *
      clear HF HS
      go_enter Tryd.func29, Tryd.ntmps29
      go_wp2
      go_ret
      exact ⟨ret_bool (unhide HN).symm, rfl⟩
end Go.Proofs.YtbgapbaeegloaaaDoor
