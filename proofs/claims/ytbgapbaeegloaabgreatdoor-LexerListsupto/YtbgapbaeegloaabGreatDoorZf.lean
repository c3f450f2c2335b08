import Derived.Test.YtbgapbaeegloaabGreatDoorZe
namespace Go.Proofs.YtbgapbaeegloaabGreatDoor
open Go.RowKit Go.Maps

set_option maxRecDepth 100000 in
set_option maxHeartbeats 2000000 in
theorem digits16_v (d : Txt) (hl : d.length ≤ 256) (w : World) :
    Calls Tryz.prog 31 #[str d, .int .i64 16] w fun e w' => VoA e (digR 16 d false 0) ∧ Keeps (fun _ => False) w w' := by
  obtain ⟨R, HR⟩ : ∃ R, Hid (digR 16 d false 0 = R) := ⟨_, rfl⟩
  rw [unhide HR]
  go_enter Tryz.func31, Tryz.ntmps31
  go_wp2_with fail
  go_loopw [6, 7, 8] (fun n l i wr => ∃ (k N : Nat) (last : Bool), k ≤ d.length ∧ N ≤ 9223372036854775808 ∧ i = .int .i64 k ∧ n = .int .u64 N ∧ l = .bool last ∧ Hid (R = digR 16 (d.drop k) last N) ∧ Keeps (fun _ => False) w wr) (fun _ _ i _ => d.length - (intOf i).toNat)
  case atStart => exact ⟨0, 0, false, by omega, by omega, rfl, rfl, rfl, (unhide HR).symm, Keeps.refl _ _⟩
  case round =>
    obtain ⟨k, N, last, hk, hN, rfl, rfl, rfl, HD, hkp⟩ := hrel
    have HK := hide hkp
    clear hkp
    cases hx : d[k]? with
    | none =>
      have h1 := get_ge hx
      obtain rfl : k = d.length := by omega
      rw [List.drop_length] at HD
      clear hx h1
      cases last with
      | false =>
        have HF : Hid (R = none) := unhide HD
        go_wp2_with fail
        go_ret2
        exact ⟨by rw [unhide HF]; exact ⟨_, rfl⟩, unhide HK⟩
      | true =>
        have HF : Hid (R = some N) := unhide HD
        go_wp2_with fail
        go_ret2
        exact ⟨by rw [unhide HF]; rfl, unhide HK⟩
    | some c =>
      have h2 := get_lt hx
      have q := str_at hx
      have ecn : (c.toNat : Int) = num c := rfl
      have hk1 : (k : Int) < (d.length : Int) := by omega
      rw [drop_at hx] at HD
      have hcr := num_range c
      by_cases h95 : c = 95
      · have hc : num c = 95 := by rw [h95]; rfl
        rw [digR, if_pos h95] at HD
        rw [hc] at ecn
        clear hx h95 hcr
        cases last with
        | false =>
          have HF : Hid (R = none) := unhide HD
          go_wp2_with fail
          go_ret2
          exact ⟨by rw [unhide HF]; exact ⟨_, rfl⟩, unhide HK⟩
        | true =>
          have HF : Hid (R = digR 16 (d.drop (k + 1)) false N) := unhide HD
          go_wp2_with fail
          go_roundw
          case rel => exact ⟨k + 1, N, false, by omega, hN, by go_num, rfl, rfl, unhide HF, unhide HK⟩
          case measure => simp [intOf]; omega
      · have hc95 : (num c == 95) = false := by
          have : num c ≠ 95 := fun e => h95 (num_inj (a := c) (b := 95) e)
          simpa using this
        rw [digR_cons _ _ _ _ _ h95] at HD
        have HQ := hide (worth_v (num c) hcr.1 hcr.2 wr)
        have hhr := hexB_range (num c)
        obtain ⟨H, HH⟩ : ∃ H, Hid (hexB (num c) = H) := ⟨_, rfl⟩
        rw [unhide HH] at HD HQ hhr
        have hh0 := hhr.1
        have hh1 := hhr.2
        clear hx h95 hcr hhr HH
        by_cases hbad : H < 0 ∨ 16 ≤ H
        · have HF : Hid (R = none) := by show _ = _; rw [unhide HD, if_pos hbad]
          have HBB := hide hbad
          clear hbad HD
          go_wp2_with fail
          refine (unhide HQ).mono ?_
          rintro e w2 ⟨rfl, rfl⟩
          clear HQ
          go_wp2_with fail
          all_goals
            first
            | (go_ret2; exact ⟨by rw [unhide HF]; exact ⟨_, rfl⟩, unhide HK⟩)
            | (exfalso; have := unhide HBB; omega)
        · have hb1 : 0 ≤ H := by omega
          have hb2 : ¬ (H < 0) := by omega
          have hb3 : ¬ (16 ≤ H) := by omega
          rw [if_neg hbad, show (16 : Int).toNat = 16 from rfl] at HD
          obtain ⟨M, hM⟩ : ∃ M : Nat, M = N * 16 + H.toNat := ⟨_, rfl⟩
          rw [← hM] at HD
          have HM : Hid ((M : Int) = (N : Int) * 16 + H) := by show _ = _; omega
          clear hM hbad
          by_cases hov : 9223372036854775808 < M
          · have HF : Hid (R = none) := by show _ = _; rw [unhide HD, if_pos hov]
            have HOV := hide hov
            clear hov HD
            go_wp2_with fail
            refine (unhide HQ).mono ?_
            rintro e w2 ⟨rfl, rfl⟩
            clear HQ
            go_wp2_with fail
            all_goals
              first
              | (go_ret2; exact ⟨by rw [unhide HF]; exact ⟨_, rfl⟩, unhide HK⟩)
              | (exfalso; have := unhide HOV; have := unhide HM; omega)
          · have HF : Hid (R = digR 16 (d.drop (k + 1)) true M) := by show _ = _; rw [unhide HD, if_neg hov]
            have HOV := hide hov
            clear hov HD
            go_wp2_with fail
            refine (unhide HQ).mono ?_
            rintro e w2 ⟨rfl, rfl⟩
            clear HQ
            go_wp2_with fail
            all_goals first | (exfalso; have := unhide HOV; have := unhide HM; omega) | skip
            go_roundw
            case rel => exact ⟨k + 1, M, true, by omega, by have := unhide HOV; omega, by go_num, by rw [unhide HM], rfl, unhide HF, unhide HK⟩
            case measure => simp [intOf]; omega

set_option maxRecDepth 100000 in
set_option maxHeartbeats 2000000 in
theorem digits10_v (d : Txt) (hl : d.length ≤ 256) (w : World) :
    Calls Tryz.prog 31 #[str d, .int .i64 10] w fun e w' => VoA e (digR 10 d false 0) ∧ Keeps (fun _ => False) w w' := by
  obtain ⟨R, HR⟩ : ∃ R, Hid (digR 10 d false 0 = R) := ⟨_, rfl⟩
  rw [unhide HR]
  go_enter Tryz.func31, Tryz.ntmps31
  go_wp2_with fail
  go_loopw [6, 7, 8] (fun n l i wr => ∃ (k N : Nat) (last : Bool), k ≤ d.length ∧ N ≤ 9223372036854775808 ∧ i = .int .i64 k ∧ n = .int .u64 N ∧ l = .bool last ∧ Hid (R = digR 10 (d.drop k) last N) ∧ Keeps (fun _ => False) w wr) (fun _ _ i _ => d.length - (intOf i).toNat)
  case atStart => exact ⟨0, 0, false, by omega, by omega, rfl, rfl, rfl, (unhide HR).symm, Keeps.refl _ _⟩
  case round =>
    obtain ⟨k, N, last, hk, hN, rfl, rfl, rfl, HD, hkp⟩ := hrel
    have HK := hide hkp
    clear hkp
    cases hx : d[k]? with
    | none =>
      have h1 := get_ge hx
      obtain rfl : k = d.length := by omega
      rw [List.drop_length] at HD
      clear hx h1
      cases last with
      | false =>
        have HF : Hid (R = none) := unhide HD
        go_wp2_with fail
        go_ret2
        exact ⟨by rw [unhide HF]; exact ⟨_, rfl⟩, unhide HK⟩
      | true =>
        have HF : Hid (R = some N) := unhide HD
        go_wp2_with fail
        go_ret2
        exact ⟨by rw [unhide HF]; rfl, unhide HK⟩
    | some c =>
      have h2 := get_lt hx
      have q := str_at hx
      have ecn : (c.toNat : Int) = num c := rfl
      have hk1 : (k : Int) < (d.length : Int) := by omega
      rw [drop_at hx] at HD
      have hcr := num_range c
      by_cases h95 : c = 95
      · have hc : num c = 95 := by rw [h95]; rfl
        rw [digR, if_pos h95] at HD
        rw [hc] at ecn
        clear hx h95 hcr
        cases last with
        | false =>
          have HF : Hid (R = none) := unhide HD
          go_wp2_with fail
          go_ret2
          exact ⟨by rw [unhide HF]; exact ⟨_, rfl⟩, unhide HK⟩
        | true =>
          have HF : Hid (R = digR 10 (d.drop (k + 1)) false N) := unhide HD
          go_wp2_with fail
          go_roundw
          case rel => exact ⟨k + 1, N, false, by omega, hN, by go_num, rfl, rfl, unhide HF, unhide HK⟩
          case measure => simp [intOf]; omega
      · have hc95 : (num c == 95) = false := by
          have : num c ≠ 95 := fun e => h95 (num_inj (a := c) (b := 95) e)
          simpa using this
        rw [digR_cons _ _ _ _ _ h95] at HD
        have HQ := hide (worth_v (num c) hcr.1 hcr.2 wr)
        have hhr := hexB_range (num c)
        obtain ⟨H, HH⟩ : ∃ H, Hid (hexB (num c) = H) := ⟨_, rfl⟩
        rw [unhide HH] at HD HQ hhr
        have hh0 := hhr.1
        have hh1 := hhr.2
        clear hx h95 hcr hhr HH
        by_cases hbad : H < 0 ∨ 10 ≤ H
        · have HF : Hid (R = none) := by show _ = _; rw [unhide HD, if_pos hbad]
          have HBB := hide hbad
          clear hbad HD
          go_wp2_with fail
          refine (unhide HQ).mono ?_
          rintro e w2 ⟨rfl, rfl⟩
          clear HQ
          go_wp2_with fail
          all_goals
            first
            | (go_ret2; exact ⟨by rw [unhide HF]; exact ⟨_, rfl⟩, unhide HK⟩)
            | (exfalso; have := unhide HBB; omega)
        · have hb1 : 0 ≤ H := by omega
          have hb2 : ¬ (H < 0) := by omega
          have hb3 : ¬ (10 ≤ H) := by omega
          rw [if_neg hbad, show (10 : Int).toNat = 10 from rfl] at HD
          obtain ⟨M, hM⟩ : ∃ M : Nat, M = N * 10 + H.toNat := ⟨_, rfl⟩
          rw [← hM] at HD
          have HM : Hid ((M : Int) = (N : Int) * 10 + H) := by show _ = _; omega
          clear hM hbad
          by_cases hov : 9223372036854775808 < M
          · have HF : Hid (R = none) := by show _ = _; rw [unhide HD, if_pos hov]
            have HOV := hide hov
            clear hov HD
            go_wp2_with fail
            refine (unhide HQ).mono ?_
            rintro e w2 ⟨rfl, rfl⟩
            clear HQ
            go_wp2_with fail
            all_goals
              first
              | (go_ret2; exact ⟨by rw [unhide HF]; exact ⟨_, rfl⟩, unhide HK⟩)
              | (exfalso; have := unhide HOV; have := unhide HM; omega)
          · have HF : Hid (R = digR 10 (d.drop (k + 1)) true M) := by show _ = _; rw [unhide HD, if_neg hov]
            have HOV := hide hov
            clear hov HD
            go_wp2_with fail
            refine (unhide HQ).mono ?_
            rintro e w2 ⟨rfl, rfl⟩
            clear HQ
            go_wp2_with fail
            all_goals first | (exfalso; have := unhide HOV; have := unhide HM; omega) | skip
            go_roundw
            case rel => exact ⟨k + 1, M, true, by omega, by have := unhide HOV; omega, by go_num, by rw [unhide HM], rfl, unhide HF, unhide HK⟩
            case measure => simp [intOf]; omega
end Go.Proofs.YtbgapbaeegloaabGreatDoor
