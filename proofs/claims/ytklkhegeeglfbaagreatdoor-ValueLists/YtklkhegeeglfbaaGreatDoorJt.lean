import Derived.Test.YtklkhegeeglfbaaGreatDoorJn
import Derived.Test.YtklkhegeeglfbaaGreatDoorJp
import Derived.Test.YtklkhegeeglfbaaGreatDoorJm
import Derived.Lib.DecodeN
namespace Go.Proofs.YtklkhegeeglfbaaGreatDoor
open Go.RowKit Go.Maps

def lowI (c : UInt8) : Int := bits .or .u8 (num c) 32
theorem low_cases : ∀ n : Fin 256, ¬ (48 ≤ num (UInt8.ofNat n.val) ∧ num (UInt8.ofNat n.val) ≤ 57) →
    (97 ≤ lowI (UInt8.ofNat n.val) ∧ lowI (UInt8.ofNat n.val) ≤ 102 ∧ hexB (num (UInt8.ofNat n.val)) = lowI (UInt8.ofNat n.val) - 87) ∨ (102 < lowI (UInt8.ofNat n.val) ∧ lowI (UInt8.ofNat n.val) ≤ 122 ∧ hexB (num (UInt8.ofNat n.val)) = -1) ∨
    (0 ≤ lowI (UInt8.ofNat n.val) ∧ lowI (UInt8.ofNat n.val) < 97 ∧ hexB (num (UInt8.ofNat n.val)) = -1) ∨ (122 < lowI (UInt8.ofNat n.val) ∧ lowI (UInt8.ofNat n.val) ≤ 255 ∧ hexB (num (UInt8.ofNat n.val)) = -1) := by decide +kernel
theorem low_of (c : UInt8) (h : ¬ (48 ≤ num c ∧ num c ≤ 57)) : (97 ≤ lowI c ∧ lowI c ≤ 102 ∧ hexB (num c) = lowI c - 87) ∨ (102 < lowI c ∧ lowI c ≤ 122 ∧ hexB (num c) = -1) ∨ (0 ≤ lowI c ∧ lowI c < 97 ∧ hexB (num c) = -1) ∨ (122 < lowI c ∧ lowI c ≤ 255 ∧ hexB (num c) = -1) := by
  have := low_cases ⟨c.toNat, c.toNat_lt⟩
  simp only [UInt8.ofNat_toNat] at this
  exact this h
/-- What is read of two digits behind k of them. -/
def hexU (y z : UInt8) (k : Nat) : Int := if k = 0 then 0 else if k = 1 then hexB (num y) else 16 * hexB (num y) + hexB (num z)
def hexR (y z : UInt8) : Value := if 0 ≤ hexB (num y) ∧ 0 ≤ hexB (num z) then .tuple #[.int .u64 (16 * hexB (num y) + hexB (num z)), .nilIface] else .tuple #[.int .u64 0, .iface 174 (.int .i64 2)]

set_option maxRecDepth 100000 in
set_option maxHeartbeats 2000000 in
theorem parseUint2_v (y z : UInt8) (w : World) :
    Calls Tryz.prog 132 #[str [y, z], .int .i64 16, .int .i64 8] w fun e w' => e = .returned (hexR y z) ∧ Keeps (fun _ => False) w w' := by
  have hne : (str [y, z] = .string ⟨#[]⟩) = False := by simp [str]
  have hcv : (convert 9 30 (str [y, z])).run Tryz.prog w = _ := Lib.run_convert_string_bytes (P := Tryz.prog) w 9 30 5 ⟨#[y, z]⟩ Tryz.underlying9 Tryz.underlying30 Tryz.underlying5
  have HK : Hid (Keeps (fun _ => False) w (Lib.bytesWorld w 5 ⟨#[y, z]⟩)) := ⟨rfl, rfl, rfl, by rw [Lib.bytesWorld_size]; omega, fun k hk _ => Lib.bytesWorld_at_old w 5 _ k hk⟩
  have HC : Hid (∀ k, k < 2 → ∃ x : UInt8, (Lib.bytesWorld w 5 ⟨#[y, z]⟩).cell? ⟨w.heap.size, k, none⟩ = some (.int .u8 (num x)) ∧ (hexB (num x) = -1 → hexR y z = .tuple #[.int .u64 0, .iface 174 (.int .i64 2)]) ∧ hexU y z (k + 1) = 16 * hexU y z k + hexB (num x) ∧ (k = 0 → x = y) ∧ (k = 1 → x = z)) := by
    intro k hk
    rcases (by omega : k = 0 ∨ k = 1) with rfl | rfl
    · exact ⟨y, Lib.bytesWorld_cell w 5 _ 0 (by show 0 < 2; omega), fun h => by unfold hexR; rw [if_neg (by omega)], by simp [hexU], fun _ => rfl, fun h => by omega⟩
    · exact ⟨z, Lib.bytesWorld_cell w 5 _ 1 (by show 1 < 2; omega), fun h => by unfold hexR; rw [if_neg (by omega)], by simp [hexU], fun h => by omega, fun _ => rfl⟩
  have HEND : Hid (0 ≤ hexB (num y) → 0 ≤ hexB (num z) → hexR y z = .tuple #[.int .u64 (hexU y z 2), .nilIface]) := fun h1 h2 => by unfold hexR; rw [if_pos ⟨h1, h2⟩]; rfl
  have hr1 := hexB_range (num y)
  have hr2 := hexB_range (num z)
  have HR1 := hide hr1
  have HR2 := hide hr2
  clear hr1 hr2
  have hsz : ByteArray.size ⟨#[y, z]⟩ = 2 := rfl
  rw [hsz] at hcv
  generalize Lib.bytesWorld w 5 ⟨#[y, z]⟩ = w1 at *
  generalize grownCap w 2 0 5 = cap at *
  clear hsz
  go_enter Tryz.func132, Tryz.ntmps132
  go_wp2_with fail
  clear hcv hne
  obtain ⟨cut, hcut⟩ : ∃ c : Int, c = 1152921504606846976 := ⟨_, rfl⟩
  have h16 : 16 ≤ cut := by omega
  rw [← hcut]
  clear hcut
  go_loopw [12, 13, 101] (fun u n i wr => ∃ (k : Nat) (V : Int), k ≤ 2 ∧ i = .int .i64 k ∧ u = .bool false ∧ n = .int .u64 V ∧ Hid (V = hexU y z k) ∧ 0 ≤ V ∧ V ≤ 255 ∧ (k < 2 → V ≤ 15) ∧ Hid (0 < k → 0 ≤ hexB (num y)) ∧ Hid (1 < k → 0 ≤ hexB (num z)) ∧ wr = w1) (fun _ _ i _ => 2 - (intOf i).toNat)
  case atStart => exact ⟨0, 0, by omega, rfl, rfl, rfl, rfl, by omega, by omega, fun _ => by omega, fun h => by omega, fun h => by omega, rfl⟩
  case round =>
    obtain ⟨k, V, hk, rfl, rfl, rfl, HV, hv0, hv1, hv2, HY, HZ, rfl⟩ := hrel
    by_cases h2 : k < 2
    · obtain ⟨x, hc, hbad, hgo, hxy, hxz⟩ := (unhide HC) k h2
      have HXY := hide hxy
      have HXZ := hide hxz
      clear hxy hxz
      have hv15 := hv2 h2
      have HBAD := hide hbad
      have HGO := hide hgo
      have hxr := num_range x
      obtain ⟨C, HCC⟩ : ∃ C, Hid (num x = C) := ⟨_, rfl⟩
      rw [unhide HCC] at hc hxr
      have hx0 := hxr.1
      have hx1 := hxr.2
      clear hbad hgo hv2 hxr hv1
      by_cases hd : 48 ≤ C ∧ C ≤ 57
      · have hd1 := hd.1
        have hd2 := hd.2
        have HH : Hid (hexB (num x) = C - 48) := by show _ = _; rw [unhide HCC]; unfold hexB; rw [if_pos hd]
        clear hd
        go_wp2_with fail
        go_roundw
        case rel =>
          refine ⟨k + 1, V * 16 + (C - 48), by omega, by go_num, rfl, by go_num, ?_, by omega, by omega, fun h => ?_, fun _ => ?_, fun h => ?_, trivial⟩
          · show _ = _; rw [unhide HGO, ← unhide HV, unhide HH]; omega
          · obtain rfl : k = 0 := by omega
            have : V = 0 := unhide HV
            omega
          · by_cases h0 : k = 0
            · rw [← (unhide HXY) h0, unhide HH]; omega
            · exact (unhide HY) (by omega)
          · rw [← (unhide HXZ) (by omega), unhide HH]; omega
        case measure => simp [intOf]; omega
      by_cases h95 : C = 95
      · subst h95
        have HQ := hide (Tryz.internal_strconv_lower 95 wr)
        rw [show bits .or .u8 95 32 = 127 by decide +kernel] at HQ
        have HF := hide ((unhide HBAD) (by rw [unhide HCC]; decide))
        clear hd
        go_wp2_with (go_at_call 142; refine (unhide HQ).mono ?_; rintro e w' ⟨rfl, rfl⟩)
        all_goals
          go_ret2
          exact ⟨by rw [unhide HF]; rfl, unhide HK⟩
      · have e95 : (C == 95) = false := by simpa using h95
        have HQ := hide (Tryz.internal_strconv_lower (num x) wr)
        have hlow := low_of x (by rw [unhide HCC]; exact hd)
        rw [show bits .or .u8 (num x) 32 = lowI x from rfl, unhide HCC] at HQ
        obtain ⟨L, HL⟩ : ∃ L, Hid (lowI x = L) := ⟨_, rfl⟩
        rw [unhide HL] at HQ hlow
        have hnd : C < 48 ∨ 57 < C := by omega
        clear hd h95
        rcases hlow with ⟨l1, l2, l3⟩ | ⟨l1, l2, l3⟩ | ⟨l1, l2, l3⟩ | ⟨l1, l2, l3⟩
        · have HH : Hid (hexB (num x) = L - 87) := l3
          clear l3
          go_wp2_with (go_at_call 142; refine (unhide HQ).mono ?_; rintro e w' ⟨rfl, rfl⟩)
          all_goals
            go_roundw
            case rel =>
              refine ⟨k + 1, V * 16 + (L - 87), by omega, by go_num, rfl, by go_num, ?_, by omega, by omega, fun h => ?_, fun _ => ?_, fun h => ?_, trivial⟩
              · show _ = _; rw [unhide HGO, ← unhide HV, unhide HH]; omega
              · obtain rfl : k = 0 := by omega
                have : V = 0 := unhide HV
                omega
              · by_cases h0 : k = 0
                · rw [← (unhide HXY) h0, unhide HH]; omega
                · exact (unhide HY) (by omega)
              · rw [← (unhide HXZ) (by omega), unhide HH]; omega
            case measure => simp [intOf]; omega
        · have HF := hide ((unhide HBAD) l3)
          clear l3
          go_wp2_with (go_at_call 142; refine (unhide HQ).mono ?_; rintro e w' ⟨rfl, rfl⟩)
          all_goals
            go_ret2
            exact ⟨by rw [unhide HF]; rfl, unhide HK⟩
        · have HF := hide ((unhide HBAD) l3)
          clear l3
          go_wp2_with (go_at_call 142; refine (unhide HQ).mono ?_; rintro e w' ⟨rfl, rfl⟩)
          all_goals
            go_ret2
            exact ⟨by rw [unhide HF]; rfl, unhide HK⟩
        · have HF := hide ((unhide HBAD) l3)
          clear l3
          go_wp2_with (go_at_call 142; refine (unhide HQ).mono ?_; rintro e w' ⟨rfl, rfl⟩)
          all_goals
            go_ret2
            exact ⟨by rw [unhide HF]; rfl, unhide HK⟩
    · obtain rfl : k = 2 := by omega
      have HF := hide ((unhide HEND) ((unhide HY) (by omega)) ((unhide HZ) (by omega)))
      go_wp2_with fail
      go_ret2
      exact ⟨by rw [unhide HF, ← unhide HV]; rfl, unhide HK⟩
end Go.Proofs.YtklkhegeeglfbaaGreatDoor
namespace Go.Proofs.YtklkhegeeglfbaaGreatDoor
open Go.RowKit Go.Maps

theorem more_iff (t : Txt) (k : Nat) : moreB t k = true ↔ k < t.length ∧ (t.getD k 0).toNat / 64 = 2 := by
  unfold moreB
  cases h : t[k]? with
  | none =>
    have := get_ge h
    simp; omega
  | some c =>
    have hl := get_lt h
    have e : t.getD k 0 = c := by rw [List.getD_eq_getElem?_getD, h]; rfl
    rw [e]
    simp only [Bool.and_eq_true, decide_eq_true_eq]
    unfold num
    have := c.toNat_lt
    omega
theorem rune_cases (n c d e f : Nat) (hc : c < 256) (hd : d < 256) (m1 m2 m3 : Bool) (h1 : m1 = true ↔ (1 < n ∧ d / 64 = 2)) (h2 : m2 = true ↔ (2 < n ∧ e / 64 = 2)) (h3 : m3 = true ↔ (3 < n ∧ f / 64 = 2)) :
    runeOf (c : Int) (d : Int) m1 m2 m3 = if 1 < (Lib.decodeN n c d e f).2 then ((Lib.decodeN n c d e f).2 : Int) else 0 := by
  have q1 : m1 = decide (1 < n ∧ d / 64 = 2) := Bool.eq_iff_iff.2 (h1.trans decide_eq_true_iff.symm)
  have q2 : m2 = decide (2 < n ∧ e / 64 = 2) := Bool.eq_iff_iff.2 (h2.trans decide_eq_true_iff.symm)
  have q3 : m3 = decide (3 < n ∧ f / 64 = 2) := Bool.eq_iff_iff.2 (h3.trans decide_eq_true_iff.symm)
  subst q1 q2 q3
  clear h1 h2 h3
  unfold runeOf Lib.decodeN
  simp only [decide_eq_true_eq]
  repeat' split
  all_goals first | rfl | (exfalso; simp only at *; omega) | (simp only at *; omega)
theorem rune_dec (t : Txt) (a : Nat) (ha : a < t.length) : runeB t a = if 1 < (Lib.decodeN (t.length - a) (t.getD a 0).toNat (t.getD (a + 1) 0).toNat (t.getD (a + 2) 0).toNat (t.getD (a + 3) 0).toNat).2 then ((Lib.decodeN (t.length - a) (t.getD a 0).toNat (t.getD (a + 1) 0).toNat (t.getD (a + 2) 0).toNat (t.getD (a + 3) 0).toNat).2 : Int) else 0 := by
  unfold runeB
  rw [if_neg (by omega)]
  unfold nth num
  refine rune_cases _ _ _ _ _ (UInt8.toNat_lt _) (UInt8.toNat_lt _) _ _ _ ?_ ?_ ?_
  · rw [more_iff]; constructor <;> (rintro ⟨p, q⟩; exact ⟨by omega, q⟩)
  · rw [more_iff]; constructor <;> (rintro ⟨p, q⟩; exact ⟨by omega, q⟩)
  · rw [more_iff]; constructor <;> (rintro ⟨p, q⟩; exact ⟨by omega, q⟩)

theorem ba_get (t : Txt) (i : Nat) : (ByteArray.mk t.toArray).get! i = t.getD i 0 := by
  show t.toArray[i]! = _
  rw [List.getElem!_toArray, List.getElem!_eq_getElem?_getD, List.getD_eq_getElem?_getD]
  rfl
theorem decodeGo_size (t : Txt) (h : 0 < t.length) : runeB t 0 = if 1 < (Lib.decodeGo ⟨t.toArray⟩).2 then ((Lib.decodeGo ⟨t.toArray⟩).2 : Int) else 0 := by
  have e : Lib.decodeGo ⟨t.toArray⟩ = Lib.decodeN (t.length - 0) (t.getD 0 0).toNat (t.getD (0 + 1) 0).toNat (t.getD (0 + 2) 0).toNat (t.getD (0 + 3) 0).toNat := by
    unfold Lib.decodeGo
    rw [if_neg (show ¬ (ByteArray.mk t.toArray).size = 0 by show ¬ t.length = 0; omega), Lib.decode_at, ba_get, ba_get, ba_get, ba_get]
    rfl
  rw [e]
  exact rune_dec t 0 h
theorem escB_drop (t : Txt) (a : Nat) : escB (t.drop a) 0 = escB t a := by
  unfold escB
  simp only [List.getElem?_drop, Nat.zero_add]
theorem moreB_drop (t : Txt) (a k : Nat) : moreB (t.drop a) k = moreB t (a + k) := by
  unfold moreB
  rw [List.getElem?_drop]
theorem nth_drop (t : Txt) (a k : Nat) : nth (t.drop a) k = nth t (a + k) := by
  unfold nth
  rw [List.getD_eq_getElem?_getD, List.getElem?_drop, List.getD_eq_getElem?_getD]
theorem runeB_drop (t : Txt) (a : Nat) (ha : a ≤ t.length) : runeB (t.drop a) 0 = runeB t a := by
  unfold runeB
  rw [List.length_drop, nth_drop, nth_drop, moreB_drop, moreB_drop, moreB_drop]
  simp only [Nat.add_zero, Nat.zero_add]
  by_cases h : t.length ≤ a
  · rw [if_pos (by omega), if_pos h]
  · rw [if_neg (by omega), if_neg h]

set_option maxRecDepth 100000 in
theorem parse2_v (y z : UInt8) (w : World) (hE : Env w) :
    Calls Tryz.prog 150 #[str [y, z], .int .i64 16, .int .i64 8] w fun e w' => ((0 ≤ hexB (num y) ∧ 0 ≤ hexB (num z) ∧ e = .returned (.tuple #[.int .u64 (16 * hexB (num y) + hexB (num z)), .nilIface])) ∨ (¬ (0 ≤ hexB (num y) ∧ 0 ≤ hexB (num z)) ∧ ∃ te pv, e = .returned (.tuple #[.int .u64 0, .iface te pv]))) ∧ Keeps (fun _ => False) w w' := by
  have HQ := hide (parseUint2_v y z w)
  by_cases hh : 0 ≤ hexB (num y) ∧ 0 ≤ hexB (num z)
  · unfold hexR at HQ
    rw [if_pos hh] at HQ
    have HH := hide hh
    clear hh hE
    generalize 16 * hexB (num y) + hexB (num z) = V at *
    go_enter Tryz.func150, Tryz.ntmps150
    go_wp2_with fail
    refine (unhide HQ).mono ?_
    rintro e w2 ⟨rfl, hk⟩
    have HK := hide hk
    clear hk
    go_wp2_with fail
    go_ret2
    exact ⟨.inl ⟨(unhide HH).1, (unhide HH).2, rfl⟩, unhide HK⟩
  · unfold hexR at HQ
    rw [if_neg hh] at HQ
    have HH := hide hh
    have HE := hide hE
    clear hh hE
    go_enter Tryz.func150, Tryz.ntmps150
    go_wp2_with fail
    refine (unhide HQ).mono ?_
    rintro e w2 ⟨rfl, hk⟩
    have HK := hide hk
    obtain ⟨ev, hev, hev2⟩ := ((unhide HE).keepF hk).synt
    have HT := hide (Tryz.strconv_toError_syntax ⟨#[80, 97, 114, 115, 101, 85, 105, 110, 116]⟩ ⟨#[y, z]⟩ 16 8 ev w2 (by show 2 ≤ _; omega) hev hev2)
    clear hk hev hev2 HQ
    go_wp2_with fail
    refine (unhide HT).mono ?_
    rintro e w3 ⟨n, rfl, hn, hb, hbel⟩
    have HK3 := hide ((unhide HK).trans (keeps_below hbel))
    clear hn hb hbel
    go_wp2_with fail
    go_ret2
    exact ⟨.inr ⟨unhide HH, _, _, rfl⟩, unhide HK3⟩

set_option maxRecDepth 100000 in
theorem unquoteHex_any (T : Txt) (h1 : ∃ c, T[1]? = some c ∧ num c = 120) (w : World) (hE : Env w) :
    Calls Tryz.prog 146 #[str T] w fun e w' => ∃ P : Txt, e = .returned (.tuple #[str P, .int .i64 (escB T 0).2]) ∧ ((escB T 0).2 ≠ 0 → P = [UInt8.ofNat (escB T 0).1.toNat]) ∧ Keeps (fun _ => False) w w' := by
  obtain ⟨c, hc, hc120⟩ := h1
  by_cases h4 : T.length < 4
  · have HE : Hid (escB T 0 = (0, 0)) := by
      have e3 : T[0 + 3]? = none := List.getElem?_eq_none (by omega)
      show _ = _
      unfold escB
      rw [show T[0 + 1]? = some c from hc, e3]
      simp [hc120]
    have h4' : (T.length : Int) < 4 := by omega
    clear hc hc120
    go_enter Tryz.func146, Tryz.ntmps146
    go_wp2_with fail
    go_ret2
    exact ⟨[], by rw [unhide HE]; rfl, fun h => absurd (by rw [unhide HE]) h, Keeps.refl _ _⟩
  · obtain ⟨y, hy⟩ : ∃ y, T[2]? = some y := ⟨_, List.getElem?_eq_getElem (by omega)⟩
    obtain ⟨z, hz⟩ : ∃ z, T[3]? = some z := ⟨_, List.getElem?_eq_getElem (by omega)⟩
    have HES := hide (escB_in T 0 (c := c) (h := y) (l := z) hc hy hz hc120)
    have hx : (ByteArray.mk T.toArray).extract 2 4 = ⟨[y, z].toArray⟩ := by
      rw [ext_str]
      have e : (T.drop 2).take 2 = [y, z] := by
        rw [drop_at hy, drop_at hz]
        rfl
      rw [show 4 - 2 = 2 from rfl, e]
    have HQ := hide (parse2_v y z w hE)
    have h4' : ¬ (T.length : Int) < 4 := by omega
    have hr1 := hide (hexB_range (num y))
    have hr2 := hide (hexB_range (num z))
    clear hc hc120 hy hz hE h4
    go_enter Tryz.func146, Tryz.ntmps146
    go_wp2_with fail
    refine (unhide HQ).mono ?_
    rintro e w2 ⟨he, hk⟩
    have HK := hide hk
    clear hk HQ
    rcases he with ⟨g1, g2, rfl⟩ | ⟨hno, te, pv, rfl⟩
    · have HE : Hid (escB T 0 = (16 * hexB (num y) + hexB (num z), 4)) := by show _ = _; rw [unhide HES, if_neg (by omega)]
      have q1 := (unhide hr1).2
      have q2 := (unhide hr2).2
      obtain ⟨V, HV⟩ : ∃ V : Nat, Hid (16 * hexB (num y) + hexB (num z) = (V : Int)) := ⟨(16 * hexB (num y) + hexB (num z)).toNat, by show _ = _; omega⟩
      have hV : V < 256 := by have := unhide HV; omega
      rw [unhide HV] at HE
      rw [unhide HV]
      have hcn : num (UInt8.ofNat V) = (V : Int) := num_of V hV
      obtain ⟨HX, hxb, hxc⟩ := boxed w2 #[.int .u8 (V : Int)] 5
      have hcv := conv_bytes (w2.alloc (.cells #[.int .u8 (V : Int)] 5)) w2.heap.size 1 [UInt8.ofNat V] (fun j x hj => by
        match j, hj with
        | 0, hj => simp at hj; subst hj; rw [hcn]; exact hxc 0 _ rfl)
      simp only [List.length_cons, List.length_nil, Nat.zero_add] at hcv
      clear hxc hxb hx g1 g2 q1 q2 HES
      go_wp2_with fail
      go_ret2
      exact ⟨[UInt8.ofNat V], by rw [unhide HE]; rfl, fun _ => by rw [unhide HE]; rfl, (unhide HK).trans (unhide HX)⟩
    · have HE : Hid (escB T 0 = (0, 0)) := by show _ = _; rw [unhide HES, if_pos (by omega)]
      clear hno
      go_wp2_with fail
      go_ret2
      exact ⟨[], by rw [unhide HE]; rfl, fun h => absurd (by rw [unhide HE]) h, unhide HK⟩
end Go.Proofs.YtklkhegeeglfbaaGreatDoor
