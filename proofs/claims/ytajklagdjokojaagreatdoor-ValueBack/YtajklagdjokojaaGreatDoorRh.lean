import Derived.Test.YtajklagdjokojaaGreatDoorJn
import Derived.Test.YtajklagdjokojaaGreatDoorJp
namespace Go.Proofs.YtajklagdjokojaaGreatDoor
open Go.RowKit Go.Maps

def lowI (c : UInt8) : Int := bits .or .u8 (num c) 32
theorem low_cases : ∀ n : Fin 256, ¬ (48 ≤ num (UInt8.ofNat n.val) ∧ num (UInt8.ofNat n.val) ≤ 57) →
    (97 ≤ lowI (UInt8.ofNat n.val) ∧ lowI (UInt8.ofNat n.val) ≤ 102 ∧ hexB (num (UInt8.ofNat n.val)) = lowI (UInt8.ofNat n.val) - 87) ∨ (102 < lowI (UInt8.ofNat n.val) ∧ lowI (UInt8.ofNat n.val) ≤ 122 ∧ hexB (num (UInt8.ofNat n.val)) = -1) ∨
    (0 ≤ lowI (UInt8.ofNat n.val) ∧ lowI (UInt8.ofNat n.val) < 97 ∧ hexB (num (UInt8.ofNat n.val)) = -1) ∨ (122 < lowI (UInt8.ofNat n.val) ∧ lowI (UInt8.ofNat n.val) ≤ 255 ∧ hexB (num (UInt8.ofNat n.val)) = -1) := by decide +kernel
theorem low_of (c : UInt8) (h : ¬ (48 ≤ num c ∧ num c ≤ 57)) : (97 ≤ lowI c ∧ lowI c ≤ 102 ∧ hexB (num c) = lowI c - 87) ∨ (102 < lowI c ∧ lowI c ≤ 122 ∧ hexB (num c) = -1) ∨ (0 ≤ lowI c ∧ lowI c < 97 ∧ hexB (num c) = -1) ∨ (122 < lowI c ∧ lowI c ≤ 255 ∧ hexB (num c) = -1) := by
  have := low_cases ⟨c.toNat, c.toNat_lt⟩
  simp only [UInt8.ofNat_toNat] at this
  exact this h
/-- What is read of two digits behind k of them. -/
def hexU (y z : UInt8) (k : Nat) : Int := if k = 0 then 0 else if k = 1 then hexB (num y) else 16 * hexB (num y) + hexB (num z)
def hexR (y z : UInt8) : Value := if 0 ≤ hexB (num y) ∧ 0 ≤ hexB (num z) then .tuple #[.int .u64 (16 * hexB (num y) + hexB (num z)), .nilIface] else .tuple #[.int .u64 0, .iface 200 (.int .i64 2)]

set_option maxRecDepth 100000 in
set_option maxHeartbeats 2000000 in
theorem parseUint2_v (y z : UInt8) (w : World) :
    Calls Tryz.prog 185 #[str [y, z], .int .i64 16, .int .i64 8] w fun e w' => e = .returned (hexR y z) ∧ Keeps (fun _ => False) w w' := by
  have hne : (str [y, z] = .string ⟨#[]⟩) = False := by simp [str]
  have hcv : (convert 9 29 (str [y, z])).run Tryz.prog w = _ := Lib.run_convert_string_bytes (P := Tryz.prog) w 9 29 5 ⟨#[y, z]⟩ Tryz.underlying9 Tryz.underlying29 Tryz.underlying5
  have HK : Hid (Keeps (fun _ => False) w (Lib.bytesWorld w 5 ⟨#[y, z]⟩)) := ⟨rfl, rfl, rfl, by rw [Lib.bytesWorld_size]; omega, fun k hk _ => Lib.bytesWorld_at_old w 5 _ k hk⟩
  have HC : Hid (∀ k, k < 2 → ∃ x : UInt8, (Lib.bytesWorld w 5 ⟨#[y, z]⟩).cell? ⟨w.heap.size, k, none⟩ = some (.int .u8 (num x)) ∧ (hexB (num x) = -1 → hexR y z = .tuple #[.int .u64 0, .iface 200 (.int .i64 2)]) ∧ hexU y z (k + 1) = 16 * hexU y z k + hexB (num x) ∧ (k = 0 → x = y) ∧ (k = 1 → x = z)) := by
    intro k hk
    rcases (by omega : k = 0 ∨ k = 1) with rfl | rfl
    · exact ⟨y, Lib.bytesWorld_cell w 5 _ 0 (by show 0 < 2; omega), fun h => by unfold hexR; rw [if_neg (by omega)], by simp [hexU], fun _ => rfl, fun h => by omega⟩
    · exact ⟨z, Lib.bytesWorld_cell w 5 _ 1 (by show 1 < 2; omega), fun h => by unfold hexR; rw [if_neg (by omega)], by simp [hexU], fun h => by omega, fun _ => rfl⟩
  have HEND : Hid (0 ≤ hexB (num y) → 0 ≤ hexB (num z) → hexR y z = .tuple #[.int .u64 (hexU y z 2), .nilIface]) := fun h1 h2 => by unfold hexR; rw [if_pos ⟨h1, h2⟩]; rfl
  have hr1 := hexB_range (num y)
  have hr2 := hexB_range (num z)
  have HR1 := hide hr1
  have HR2 := hide hr2
  clear hr1 hr2
  have hsz : ByteArray.size ⟨#[y, z]⟩ = 2 := rfl
  rw [hsz] at hcv
  generalize Lib.bytesWorld w 5 ⟨#[y, z]⟩ = w1 at *
  generalize grownCap w 2 0 5 = cap at *
  clear hsz
  go_enter Tryz.func185, Tryz.ntmps185
  go_wp2_with fail
  clear hcv hne
  obtain ⟨cut, hcut⟩ : ∃ c : Int, c = 1152921504606846976 := ⟨_, rfl⟩
  have h16 : 16 ≤ cut := by omega
  rw [← hcut]
  clear hcut
  go_loopw [12, 13, 101] (fun u n i wr => ∃ (k : Nat) (V : Int), k ≤ 2 ∧ i = .int .i64 k ∧ u = .bool false ∧ n = .int .u64 V ∧ Hid (V = hexU y z k) ∧ 0 ≤ V ∧ V ≤ 255 ∧ (k < 2 → V ≤ 15) ∧ Hid (0 < k → 0 ≤ hexB (num y)) ∧ Hid (1 < k → 0 ≤ hexB (num z)) ∧ wr = w1) (fun _ _ i _ => 2 - (intOf i).toNat)
  case atStart => exact ⟨0, 0, by omega, rfl, rfl, rfl, rfl, by omega, by omega, fun _ => by omega, fun h => by omega, fun h => by omega, rfl⟩
  case round =>
    obtain ⟨k, V, hk, rfl, rfl, rfl, HV, hv0, hv1, hv2, HY, HZ, rfl⟩ := hrel
    by_cases h2 : k < 2
    · obtain ⟨x, hc, hbad, hgo, hxy, hxz⟩ := (unhide HC) k h2
      have HXY := hide hxy
      have HXZ := hide hxz
      clear hxy hxz
      have hv15 := hv2 h2
      have HBAD := hide hbad
      have HGO := hide hgo
      have hxr := num_range x
      obtain ⟨C, HCC⟩ : ∃ C, Hid (num x = C) := ⟨_, rfl⟩
      rw [unhide HCC] at hc hxr
      have hx0 := hxr.1
      have hx1 := hxr.2
      clear hbad hgo hv2 hxr hv1
      by_cases hd : 48 ≤ C ∧ C ≤ 57
      · have hd1 := hd.1
        have hd2 := hd.2
        have HH : Hid (hexB (num x) = C - 48) := by show _ = _; rw [unhide HCC]; unfold hexB; rw [if_pos hd]
        clear hd
        go_wp2_with fail
        go_roundw
        case rel =>
          refine ⟨k + 1, V * 16 + (C - 48), by omega, by go_num, rfl, by go_num, ?_, by omega, by omega, fun h => ?_, fun _ => ?_, fun h => ?_, trivial⟩
          · show _ = _; rw [unhide HGO, ← unhide HV, unhide HH]; omega
          · obtain rfl : k = 0 := by omega
            have : V = 0 := unhide HV
            omega
          · by_cases h0 : k = 0
            · rw [← (unhide HXY) h0, unhide HH]; omega
            · exact (unhide HY) (by omega)
          · rw [← (unhide HXZ) (by omega), unhide HH]; omega
        case measure => simp [intOf]; omega
      by_cases h95 : C = 95
      · subst h95
        have HQ := hide (Tryz.internal_strconv_lower 95 wr)
        rw [show bits .or .u8 95 32 = 127 by decide +kernel] at HQ
        have HF := hide ((unhide HBAD) (by rw [unhide HCC]; decide))
        clear hd
        go_wp2_with (go_at_call 197; refine (unhide HQ).mono ?_; rintro e w' ⟨rfl, rfl⟩)
        all_goals
          go_ret2
          exact ⟨by rw [unhide HF]; rfl, unhide HK⟩
      · have e95 : (C == 95) = false := by simpa using h95
        have HQ := hide (Tryz.internal_strconv_lower (num x) wr)
        have hlow := low_of x (by rw [unhide HCC]; exact hd)
        rw [show bits .or .u8 (num x) 32 = lowI x from rfl, unhide HCC] at HQ
        obtain ⟨L, HL⟩ : ∃ L, Hid (lowI x = L) := ⟨_, rfl⟩
        rw [unhide HL] at HQ hlow
        have hnd : C < 48 ∨ 57 < C := by omega
        clear hd h95
        rcases hlow with ⟨l1, l2, l3⟩ | ⟨l1, l2, l3⟩ | ⟨l1, l2, l3⟩ | ⟨l1, l2, l3⟩
        · have HH : Hid (hexB (num x) = L - 87) := l3
          clear l3
          go_wp2_with (go_at_call 197; refine (unhide HQ).mono ?_; rintro e w' ⟨rfl, rfl⟩)
          all_goals
            go_roundw
            case rel =>
              refine ⟨k + 1, V * 16 + (L - 87), by omega, by go_num, rfl, by go_num, ?_, by omega, by omega, fun h => ?_, fun _ => ?_, fun h => ?_, trivial⟩
              · show _ = _; rw [unhide HGO, ← unhide HV, unhide HH]; omega
              · obtain rfl : k = 0 := by omega
                have : V = 0 := unhide HV
                omega
              · by_cases h0 : k = 0
                · rw [← (unhide HXY) h0, unhide HH]; omega
                · exact (unhide HY) (by omega)
              · rw [← (unhide HXZ) (by omega), unhide HH]; omega
            case measure => simp [intOf]; omega
        · have HF := hide ((unhide HBAD) l3)
          clear l3
          go_wp2_with (go_at_call 197; refine (unhide HQ).mono ?_; rintro e w' ⟨rfl, rfl⟩)
          all_goals
            go_ret2
            exact ⟨by rw [unhide HF]; rfl, unhide HK⟩
        · have HF := hide ((unhide HBAD) l3)
          clear l3
          go_wp2_with (go_at_call 197; refine (unhide HQ).mono ?_; rintro e w' ⟨rfl, rfl⟩)
          all_goals
            go_ret2
            exact ⟨by rw [unhide HF]; rfl, unhide HK⟩
        · have HF := hide ((unhide HBAD) l3)
          clear l3
          go_wp2_with (go_at_call 197; refine (unhide HQ).mono ?_; rintro e w' ⟨rfl, rfl⟩)
          all_goals
            go_ret2
            exact ⟨by rw [unhide HF]; rfl, unhide HK⟩
    · obtain rfl : k = 2 := by omega
      have HF := hide ((unhide HEND) ((unhide HY) (by omega)) ((unhide HZ) (by omega)))
      go_wp2_with fail
      go_ret2
      exact ⟨by rw [unhide HF, ← unhide HV]; rfl, unhide HK⟩
end Go.Proofs.YtajklagdjokojaaGreatDoor
