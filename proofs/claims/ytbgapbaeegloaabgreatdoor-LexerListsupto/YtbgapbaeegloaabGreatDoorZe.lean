import Derived.Test.YtbgapbaeegloaabGreatDoorMk
import Derived.Test.YtbgapbaeegloaabGreatDoorJd
namespace Go.Proofs.YtbgapbaeegloaabGreatDoor
open Go.RowKit Go.Maps

set_option maxRecDepth 100000 in
set_option maxHeartbeats 2000000 in
theorem rruni_v (x : Txt) (hx : x.length ≤ 1099511627776) (s : Nat) (hs : s ≤ x.length) (w : World) : Calls Tryz.prog 17 #[str x, .int .i64 s] w fun e w' => e = .returned (str ((x.drop s).take (runB (x.drop s)))) ∧ w' = w := by
  obtain ⟨D, HD⟩ : ∃ D, Hid (scan x (fun c => partB (num c)) s = D) := ⟨_, rfl⟩
  have HRB : Hid (runB (x.drop s) = D - s) := by
    show _ = _
    rw [← unhide HD]
    unfold runB scan
    rw [List.drop_zero]
    omega
  rw [unhide HRB]
  clear HRB
  go_enter Tryz.func17, Tryz.ntmps17
  go_wp2_with fail
  go_loopw [5] (fun i wr => ∃ k : Nat, s ≤ k ∧ k ≤ x.length ∧ i = .int .i64 k ∧ Hid (D = scan x (fun c => partB (num c)) k) ∧ wr = w) (fun i _ => x.length - (intOf i).toNat)
  case atStart => exact ⟨s, Nat.le_refl _, hs, rfl, (unhide HD).symm, rfl⟩
  case round =>
    obtain ⟨k, hsk, hk, rfl, HK, rfl⟩ := hrel
    have hsl : (ByteArray.mk x.toArray).extract s k = ⟨((x.drop s).take (k - s)).toArray⟩ := by rw [ext_str]
    cases hy : x[k]? with
    | none =>
      have h1 := get_ge hy
      obtain rfl : k = x.length := by omega
      have HE : Hid (D = x.length) := by show _ = _; rw [unhide HK, scan_none hy]
      clear hy h1
      go_wp2_with fail
      go_ret
      exact ⟨by rw [unhide HE]; rfl, rfl⟩
    | some c =>
      have h1 := get_lt hy
      have q := str_at hy
      have e1 : (c.toNat : Int) = num c := rfl
      have HY := hide hy
      have hk1 : (k : Int) < (x.length : Int) := by omega
      clear hy
      have HL := hide (rletter_v (num c))
      have HG := hide (rdigit_v (num c))
      have HP := hide (part_split (num c))
      cases hl : letterB (num c) with
      | true =>
        have HT : Hid (D = scan x (fun c => partB (num c)) (k + 1)) := by show _ = _; rw [unhide HK]; exact scan_go (unhide HY) (by rw [unhide HP, hl]; rfl)
        rw [hl] at HL
        clear hl HP
        go_wp2_with (first | (go_at_call 16; refine (unhide HL _).mono ?_; rintro e w1 ⟨rfl, rfl⟩) | (go_at_call 19; refine (unhide HG _).mono ?_; rintro e w1 ⟨rfl, rfl⟩))
        go_roundw
        case rel => exact ⟨k + 1, by omega, by omega, by go_num, unhide HT, trivial⟩
        case measure => simp [intOf]; omega
      | false =>
        rw [hl] at HL
        cases hd : digitB (num c) with
        | true =>
          have HT : Hid (D = scan x (fun c => partB (num c)) (k + 1)) := by show _ = _; rw [unhide HK]; exact scan_go (unhide HY) (by rw [unhide HP, hl, hd]; rfl)
          rw [hd] at HG
          clear hl hd HP
          go_wp2_with (first | (go_at_call 16; refine (unhide HL _).mono ?_; rintro e w1 ⟨rfl, rfl⟩) | (go_at_call 19; refine (unhide HG _).mono ?_; rintro e w1 ⟨rfl, rfl⟩))
          go_roundw
          case rel => exact ⟨k + 1, by omega, by omega, by go_num, unhide HT, trivial⟩
          case measure => simp [intOf]; omega
        | false =>
          have HE : Hid (D = k) := by show _ = _; rw [unhide HK]; exact scan_stop (unhide HY) (by rw [unhide HP, hl, hd]; rfl)
          rw [hd] at HG
          clear hl hd HP
          go_wp2_with (first | (go_at_call 16; refine (unhide HL _).mono ?_; rintro e w1 ⟨rfl, rfl⟩) | (go_at_call 19; refine (unhide HG _).mono ?_; rintro e w1 ⟨rfl, rfl⟩))
          go_ret
          exact ⟨by rw [unhide HE]; rfl, rfl⟩

set_option maxRecDepth 100000 in
theorem worth_v (c : Int) (h0 : 0 ≤ c) (h1 : c ≤ 255) (w : World) : Calls Tryz.prog 42 #[.int .u8 c] w fun e w' => e = .returned (.int .i64 (hexB c)) ∧ w' = w := by
  have HD := hide (rdigit_v c w)
  by_cases hd : 48 ≤ c ∧ c ≤ 57
  · have HF : Hid (hexB c = c - 48) := by show _ = _; unfold hexB; rw [if_pos hd]
    have e : digitB c = true := by unfold digitB; simp; exact hd
    rw [e] at HD
    have a1 := hd.1
    have a2 := hd.2
    clear hd e
    go_enter Tryz.func42, Tryz.ntmps42
    go_wp2_with fail
    refine (unhide HD).mono ?_
    rintro e w1 ⟨rfl, rfl⟩
    go_wp2_with fail
    go_ret
    exact ⟨by rw [unhide HF]; exact ret_int (by go_num), rfl⟩
  · have e : digitB c = false := by unfold digitB; simp; omega
    rw [e] at HD
    have HF : Hid (hexB c = if 97 ≤ c ∧ c ≤ 102 then c - 87 else if 65 ≤ c ∧ c ≤ 70 then c - 55 else -1) := by show _ = _; unfold hexB; rw [if_neg hd]
    clear hd e
    go_enter Tryz.func42, Tryz.ntmps42
    go_wp2_with fail
    refine (unhide HD).mono ?_
    rintro e w1 ⟨rfl, rfl⟩
    go_wp2_with fail
    all_goals
      go_ret
      refine ⟨?_, rfl⟩
      rw [unhide HF]
      refine ret_int ?_
      first
      | (rw [if_pos (by omega)]; go_num)
      | (rw [if_neg (by omega), if_pos (by omega)]; go_num)
      | (rw [if_neg (by omega), if_neg (by omega)])

theorem digR_cons (b : Int) (c : UInt8) (r : Txt) (l : Bool) (n : Nat) (hc : c ≠ 95) : digR b (c :: r) l n = if hexB (num c) < 0 ∨ b ≤ hexB (num c) then none else if 9223372036854775808 < n * b.toNat + (hexB (num c)).toNat then none else digR b r true (n * b.toNat + (hexB (num c)).toNat) := by
  rw [digR, if_neg hc]
end Go.Proofs.YtbgapbaeegloaabGreatDoor
