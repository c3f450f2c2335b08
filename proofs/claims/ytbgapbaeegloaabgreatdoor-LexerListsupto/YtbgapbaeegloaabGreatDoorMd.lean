import Derived.Test.YtbgapbaeegloaabGreatDoorMb
import Derived.Test.YtbgapbaeegloaabGreatDoorRh
namespace Go.Proofs.YtbgapbaeegloaabGreatDoor
open Go.RowKit Go.Maps

/-- What the inner ParseUint answers. -/
def PuA (e : Ending) : Option Nat → Prop
  | some u => e = .returned (.tuple #[.int .u64 (u : Int), .nilIface])
  | none => ∃ x n : Int, (n = 1 ∨ n = 2) ∧ e = .returned (.tuple #[.int .u64 x, .iface 84 (.int .i64 n)])
theorem pu_bad {c : UInt8} {r : Txt} {n : Nat} (h : hexB (num c) = -1) : pu 16 (c :: r) n = none := by
  rw [pu, if_pos (by omega)]
theorem pu_over {c : UInt8} {r : Txt} {n : Nat} (h : 1152921504606846976 ≤ n) : pu 16 (c :: r) n = none := by
  rw [pu]
  split
  · rfl
  · rw [if_pos (by rw [show (16 : Int).toNat = 16 from rfl]; omega)]
theorem pu_next {c : UInt8} {r : Txt} {n m : Nat} (h : n < 1152921504606846976) (h1 : 0 ≤ hexB (num c)) (hm : (m : Int) = (n : Int) * 16 + hexB (num c)) : pu 16 (c :: r) n = pu 16 r m := by
  have h2 := (hexB_range (num c)).2
  rw [pu, if_neg (by omega), show (16 : Int).toNat = 16 from rfl, if_neg (by omega)]
  congr 1
  omega

set_option maxRecDepth 100000 in
set_option maxHeartbeats 4000000 in
theorem pu16_v (d : Txt) (h0 : 1 ≤ d.length) (hl : d.length ≤ 256) (hno : ∀ c ∈ d, c ≠ 95) (w : World) :
    Calls Tryz.prog 60 #[str d, .int .i64 16, .int .i64 64] w fun e w' => PuA e (pu 16 d 0) ∧ Keeps (fun _ => False) w w' := by
  have hie : List.isEmpty d = false := by
    cases d with
    | nil => simp at h0
    | cons c r => rfl
  have hcv : (convert 9 51 (str d)).run Tryz.prog w = _ := Lib.run_convert_string_bytes (P := Tryz.prog) w 9 51 5 ⟨d.toArray⟩ Tryz.underlying9 Tryz.underlying51 Tryz.underlying5
  have HK : Hid (Keeps (fun _ => False) w (Lib.bytesWorld w 5 ⟨d.toArray⟩)) := ⟨rfl, rfl, rfl, by rw [Lib.bytesWorld_size]; omega, fun k hk _ => Lib.bytesWorld_at_old w 5 _ k hk⟩
  have HC : Hid (∀ k c, d[k]? = some c → (Lib.bytesWorld w 5 ⟨d.toArray⟩).cell? ⟨w.heap.size, k, none⟩ = some (.int .u8 (num c))) := by
    intro k c hc
    have h1 := get_lt hc
    rw [Lib.bytesWorld_cell w 5 _ k (by show k < d.toArray.size; simpa using h1)]
    show some (Value.int .u8 ((d.getD k 0).toNat : Int)) = _
    rw [List.getD_eq_getElem?_getD, hc]
    rfl
  have hsz : ByteArray.size ⟨d.toArray⟩ = d.length := by simp [ByteArray.size]
  rw [hsz] at hcv
  generalize Lib.bytesWorld w 5 ⟨d.toArray⟩ = w1 at *
  generalize grownCap w d.length 0 5 = cap at *
  obtain ⟨R, HR⟩ : ∃ R, Hid (pu 16 d 0 = R) := ⟨_, rfl⟩
  rw [unhide HR]
  have HNO := hide hno
  clear hsz hno
  go_enter Tryz.func60, Tryz.ntmps60
  go_wp2_with fail
  clear hcv hie
  obtain ⟨cut, HCUT⟩ : ∃ c : Int, Hid (c = 1152921504606846976) := ⟨_, rfl⟩
  obtain ⟨M, HM⟩ : ∃ c : Int, Hid (c = 18446744073709551615) := ⟨_, rfl⟩
  rw [← unhide HCUT, show IntKind.u64.wrap (IntKind.u64.wrap 18446744073709551616 - 1) = 18446744073709551615 by decide +kernel, ← unhide HM]
  go_loopw [12, 13, 101] (fun u n i wr => ∃ (k V : Nat), k ≤ d.length ∧ i = .int .i64 k ∧ u = .bool false ∧ n = .int .u64 V ∧ Hid (R = pu 16 (d.drop k) V) ∧ wr = w1) (fun _ _ i _ => d.length - (intOf i).toNat)
  case atStart => exact ⟨0, 0, by omega, rfl, rfl, rfl, by rw [List.drop_zero]; exact (unhide HR).symm, rfl⟩
  case round =>
    obtain ⟨k, V, hk, rfl, rfl, rfl, HV, rfl⟩ := hrel
    cases hx : d[k]? with
    | none =>
      have h1 := get_ge hx
      obtain rfl : k = d.length := by omega
      have HF : Hid (R = some V) := by show _ = _; rw [unhide HV, List.drop_length]; rfl
      clear hx h1
      go_wp2_with fail
      go_ret2
      exact ⟨by rw [unhide HF]; rfl, unhide HK⟩
    | some x =>
      have h2 := get_lt hx
      have hc := (unhide HC) k x hx
      have hx95 := (unhide HNO) x (List.mem_of_getElem? hx)
      rw [drop_at hx] at HV
      have HBAD : Hid (hexB (num x) = -1 → R = none) := fun h => (unhide HV).trans (pu_bad h)
      have HOV : Hid (1152921504606846976 ≤ V → R = none) := fun h => (unhide HV).trans (pu_over h)
      have HGO : Hid (∀ m : Nat, V < 1152921504606846976 → 0 ≤ hexB (num x) → (m : Int) = (V : Int) * 16 + hexB (num x) → R = pu 16 (d.drop (k + 1)) m) := fun m a b c => (unhide HV).trans (pu_next a b c)
      have hxr := num_range x
      have hlow := low_of x
      have h95 : num x ≠ 95 := fun e => hx95 (num_inj (a := x) (b := 95) e)
      have HQ := hide (Tryz.internal_strconv_lower (num x) wr)
      rw [show bits .or .u8 (num x) 32 = lowI x from rfl] at HQ
      obtain ⟨C, HCC⟩ : ∃ C, Hid (num x = C) := ⟨_, rfl⟩
      rw [unhide HCC] at hc hxr HQ hlow h95 HBAD HGO
      obtain ⟨L, HL⟩ : ∃ L, Hid (lowI x = L) := ⟨_, rfl⟩
      rw [unhide HL] at HQ hlow
      have hx0 := hxr.1
      have hx1 := hxr.2
      have e95 : (C == 95) = false := by simpa using h95
      clear hx hxr hx95 HV h95
      by_cases hov : 1152921504606846976 ≤ V
      · have hov' : cut ≤ (V : Int) := by have := unhide HCUT; omega
        have HF := hide ((unhide HOV) hov)
        clear hov
        by_cases hd : 48 ≤ C ∧ C ≤ 57
        · have hd1 := hd.1
          have hd2 := hd.2
          clear hd hlow
          go_wp2_with fail
          go_ret2
          exact ⟨by rw [unhide HF]; exact ⟨_, _, .inl rfl, rfl⟩, unhide HK⟩
        · have hnd : C < 48 ∨ 57 < C := by omega
          have hlow' := hlow hd
          clear hd hlow
          rcases hlow' with ⟨l1, l2, l3⟩ | ⟨l1, l2, l3⟩ | ⟨l1, l2, l3⟩ | ⟨l1, l2, l3⟩
          all_goals
            clear l3
            go_wp2_with (go_at_call 70; refine (unhide HQ).mono ?_; rintro e w' ⟨rfl, rfl⟩)
            all_goals
              go_ret2
              exact ⟨by rw [unhide HF]; first | exact ⟨_, _, .inl rfl, rfl⟩ | exact ⟨_, _, .inr rfl, rfl⟩, unhide HK⟩
      · have hov' : ¬ cut ≤ (V : Int) := by have := unhide HCUT; omega
        have hVb : (V : Int) ≤ 1152921504606846975 := by omega
        have hV0 : (0 : Int) ≤ (V : Int) := by omega
        by_cases hd : 48 ≤ C ∧ C ≤ 57
        · have hd1 := hd.1
          have hd2 := hd.2
          have hH : hexB C = C - 48 := by unfold hexB; rw [if_pos hd]
          obtain ⟨m, hm⟩ : ∃ m : Nat, (m : Int) = (V : Int) * 16 + (C - 48) := ⟨((V : Int) * 16 + (C - 48)).toNat, by omega⟩
          have HF := hide ((unhide HGO) m (by omega) (by omega) (by rw [hH]; exact hm))
          have HMM := hide hm
          have hMx : ¬ M < (V : Int) * 16 + (C - 48) := by have := unhide HM; omega
          clear hd hlow hH hov hm
          go_wp2_with fail
          go_roundw
          case rel => exact ⟨k + 1, m, by omega, by go_num, rfl, by rw [unhide HMM], unhide HF, trivial⟩
          case measure => simp [intOf]; omega
        · have hnd : C < 48 ∨ 57 < C := by omega
          have hlow' := hlow hd
          clear hd hlow
          rcases hlow' with ⟨l1, l2, l3⟩ | ⟨l1, l2, l3⟩ | ⟨l1, l2, l3⟩ | ⟨l1, l2, l3⟩
          · obtain ⟨m, hm⟩ : ∃ m : Nat, (m : Int) = (V : Int) * 16 + (L - 87) := ⟨((V : Int) * 16 + (L - 87)).toNat, by omega⟩
            have HF := hide ((unhide HGO) m (by omega) (by omega) (by rw [l3]; exact hm))
            have HMM := hide hm
            have hMx : ¬ M < (V : Int) * 16 + (L - 87) := by have := unhide HM; omega
            clear l3 hm hov
            go_wp2_with (go_at_call 70; refine (unhide HQ).mono ?_; rintro e w' ⟨rfl, rfl⟩)
            all_goals
              go_roundw
              case rel => exact ⟨k + 1, m, by omega, by go_num, rfl, by rw [unhide HMM]; go_num, unhide HF, trivial⟩
              case measure => simp [intOf]; omega
          all_goals
            have HF := hide ((unhide HBAD) l3)
            clear l3 hov
            go_wp2_with (go_at_call 70; refine (unhide HQ).mono ?_; rintro e w' ⟨rfl, rfl⟩)
            all_goals
              go_ret2
              exact ⟨by rw [unhide HF]; exact ⟨_, _, .inr rfl, rfl⟩, unhide HK⟩
end Go.Proofs.YtbgapbaeegloaabGreatDoor
