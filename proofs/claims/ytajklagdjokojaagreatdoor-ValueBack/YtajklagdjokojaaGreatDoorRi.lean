import Derived.Test.YtajklagdjokojaaGreatDoorRh
import Derived.Test.YtajklagdjokojaaGreatDoorJm
import Derived.Test.YtajklagdjokojaaGreatDoorJp
import Derived.Lib.DecodeN
namespace Go.Proofs.YtajklagdjokojaaGreatDoor
open Go.RowKit Go.Maps

theorem more_iff (t : Txt) (k : Nat) : moreB t k = true ↔ k < t.length ∧ (t.getD k 0).toNat / 64 = 2 := by
  unfold moreB
  cases h : t[k]? with
  | none =>
    have := get_ge h
    simp; omega
  | some c =>
    have hl := get_lt h
    have e : t.getD k 0 = c := by rw [List.getD_eq_getElem?_getD, h]; rfl
    rw [e]
    simp only [Bool.and_eq_true, decide_eq_true_eq]
    unfold num
    have := c.toNat_lt
    omega
theorem rune_cases (n c d e f : Nat) (hc : c < 256) (hd : d < 256) (m1 m2 m3 : Bool) (h1 : m1 = true ↔ (1 < n ∧ d / 64 = 2)) (h2 : m2 = true ↔ (2 < n ∧ e / 64 = 2)) (h3 : m3 = true ↔ (3 < n ∧ f / 64 = 2)) :
    runeOf (c : Int) (d : Int) m1 m2 m3 = if 1 < (Lib.decodeN n c d e f).2 then ((Lib.decodeN n c d e f).2 : Int) else 0 := by
  have q1 : m1 = decide (1 < n ∧ d / 64 = 2) := Bool.eq_iff_iff.2 (h1.trans decide_eq_true_iff.symm)
  have q2 : m2 = decide (2 < n ∧ e / 64 = 2) := Bool.eq_iff_iff.2 (h2.trans decide_eq_true_iff.symm)
  have q3 : m3 = decide (3 < n ∧ f / 64 = 2) := Bool.eq_iff_iff.2 (h3.trans decide_eq_true_iff.symm)
  subst q1 q2 q3
  clear h1 h2 h3
  unfold runeOf Lib.decodeN
  simp only [decide_eq_true_eq]
  repeat' split
  all_goals first | rfl | (exfalso; simp only at *; omega) | (simp only at *; omega)
theorem rune_dec (t : Txt) (a : Nat) (ha : a < t.length) : runeB t a = if 1 < (Lib.decodeN (t.length - a) (t.getD a 0).toNat (t.getD (a + 1) 0).toNat (t.getD (a + 2) 0).toNat (t.getD (a + 3) 0).toNat).2 then ((Lib.decodeN (t.length - a) (t.getD a 0).toNat (t.getD (a + 1) 0).toNat (t.getD (a + 2) 0).toNat (t.getD (a + 3) 0).toNat).2 : Int) else 0 := by
  unfold runeB
  rw [if_neg (by omega)]
  unfold nth num
  refine rune_cases _ _ _ _ _ (UInt8.toNat_lt _) (UInt8.toNat_lt _) _ _ _ ?_ ?_ ?_
  · rw [more_iff]; constructor <;> (rintro ⟨p, q⟩; exact ⟨by omega, q⟩)
  · rw [more_iff]; constructor <;> (rintro ⟨p, q⟩; exact ⟨by omega, q⟩)
  · rw [more_iff]; constructor <;> (rintro ⟨p, q⟩; exact ⟨by omega, q⟩)

theorem ba_get (t : Txt) (i : Nat) : (ByteArray.mk t.toArray).get! i = t.getD i 0 := by
  show t.toArray[i]! = _
  rw [List.getElem!_toArray, List.getElem!_eq_getElem?_getD, List.getD_eq_getElem?_getD]
  rfl
theorem decodeGo_size (t : Txt) (h : 0 < t.length) : runeB t 0 = if 1 < (Lib.decodeGo ⟨t.toArray⟩).2 then ((Lib.decodeGo ⟨t.toArray⟩).2 : Int) else 0 := by
  have e : Lib.decodeGo ⟨t.toArray⟩ = Lib.decodeN (t.length - 0) (t.getD 0 0).toNat (t.getD (0 + 1) 0).toNat (t.getD (0 + 2) 0).toNat (t.getD (0 + 3) 0).toNat := by
    unfold Lib.decodeGo
    rw [if_neg (show ¬ (ByteArray.mk t.toArray).size = 0 by show ¬ t.length = 0; omega), Lib.decode_at, ba_get, ba_get, ba_get, ba_get]
    rfl
  rw [e]
  exact rune_dec t 0 h
theorem escB_drop (t : Txt) (a : Nat) : escB (t.drop a) 0 = escB t a := by
  unfold escB
  simp only [List.getElem?_drop, Nat.zero_add]
theorem moreB_drop (t : Txt) (a k : Nat) : moreB (t.drop a) k = moreB t (a + k) := by
  unfold moreB
  rw [List.getElem?_drop]
theorem nth_drop (t : Txt) (a k : Nat) : nth (t.drop a) k = nth t (a + k) := by
  unfold nth
  rw [List.getD_eq_getElem?_getD, List.getElem?_drop, List.getD_eq_getElem?_getD]
theorem runeB_drop (t : Txt) (a : Nat) (ha : a ≤ t.length) : runeB (t.drop a) 0 = runeB t a := by
  unfold runeB
  rw [List.length_drop, nth_drop, nth_drop, moreB_drop, moreB_drop, moreB_drop]
  simp only [Nat.add_zero, Nat.zero_add]
  by_cases h : t.length ≤ a
  · rw [if_pos (by omega), if_pos h]
  · rw [if_neg (by omega), if_neg h]

set_option maxRecDepth 100000 in
theorem parse2_v (y z : UInt8) (w : World) (hE : Env w) :
    Calls Tryz.prog 201 #[str [y, z], .int .i64 16, .int .i64 8] w fun e w' => ((0 ≤ hexB (num y) ∧ 0 ≤ hexB (num z) ∧ e = .returned (.tuple #[.int .u64 (16 * hexB (num y) + hexB (num z)), .nilIface])) ∨ (¬ (0 ≤ hexB (num y) ∧ 0 ≤ hexB (num z)) ∧ ∃ te pv, e = .returned (.tuple #[.int .u64 0, .iface te pv]))) ∧ Keeps (fun _ => False) w w' := by
  have HQ := hide (parseUint2_v y z w)
  by_cases hh : 0 ≤ hexB (num y) ∧ 0 ≤ hexB (num z)
  · unfold hexR at HQ
    rw [if_pos hh] at HQ
    have HH := hide hh
    clear hh hE
    generalize 16 * hexB (num y) + hexB (num z) = V at *
    go_enter Tryz.func201, Tryz.ntmps201
    go_wp2_with fail
    refine (unhide HQ).mono ?_
    rintro e w2 ⟨rfl, hk⟩
    have HK := hide hk
    clear hk
    go_wp2_with fail
    go_ret2
    exact ⟨.inl ⟨(unhide HH).1, (unhide HH).2, rfl⟩, unhide HK⟩
  · unfold hexR at HQ
    rw [if_neg hh] at HQ
    have HH := hide hh
    have HE := hide hE
    clear hh hE
    go_enter Tryz.func201, Tryz.ntmps201
    go_wp2_with fail
    refine (unhide HQ).mono ?_
    rintro e w2 ⟨rfl, hk⟩
    have HK := hide hk
    obtain ⟨ev, hev, hev2⟩ := ((unhide HE).keepF hk).synt
    have HT := hide (Tryz.strconv_toError_syntax ⟨#[80, 97, 114, 115, 101, 85, 105, 110, 116]⟩ ⟨#[y, z]⟩ 16 8 ev w2 (by show 2 ≤ _; omega) hev hev2)
    clear hk hev hev2 HQ
    go_wp2_with fail
    refine (unhide HT).mono ?_
    rintro e w3 ⟨n, rfl, hn, hb, hbel⟩
    have HK3 := hide ((unhide HK).trans (keeps_below hbel))
    clear hn hb hbel
    go_wp2_with fail
    go_ret2
    exact ⟨.inr ⟨unhide HH, _, _, rfl⟩, unhide HK3⟩

set_option maxRecDepth 100000 in
theorem unquoteHex_any (T : Txt) (h1 : ∃ c, T[1]? = some c ∧ num c = 120) (w : World) (hE : Env w) :
    Calls Tryz.prog 192 #[str T] w fun e w' => ∃ P : Txt, e = .returned (.tuple #[str P, .int .i64 (escB T 0).2]) ∧ ((escB T 0).2 ≠ 0 → P = [UInt8.ofNat (escB T 0).1.toNat]) ∧ Keeps (fun _ => False) w w' := by
  obtain ⟨c, hc, hc120⟩ := h1
  by_cases h4 : T.length < 4
  · have HE : Hid (escB T 0 = (0, 0)) := by
      have e3 : T[0 + 3]? = none := List.getElem?_eq_none (by omega)
      show _ = _
      unfold escB
      rw [show T[0 + 1]? = some c from hc, e3]
      simp [hc120]
    have h4' : (T.length : Int) < 4 := by omega
    clear hc hc120
    go_enter Tryz.func192, Tryz.ntmps192
    go_wp2_with fail
    go_ret2
    exact ⟨[], by rw [unhide HE]; rfl, fun h => absurd (by rw [unhide HE]) h, Keeps.refl _ _⟩
  · obtain ⟨y, hy⟩ : ∃ y, T[2]? = some y := ⟨_, List.getElem?_eq_getElem (by omega)⟩
    obtain ⟨z, hz⟩ : ∃ z, T[3]? = some z := ⟨_, List.getElem?_eq_getElem (by omega)⟩
    have HES := hide (escB_in T 0 (c := c) (h := y) (l := z) hc hy hz hc120)
    have hx : (ByteArray.mk T.toArray).extract 2 4 = ⟨[y, z].toArray⟩ := by
      rw [ext_str]
      have e : (T.drop 2).take 2 = [y, z] := by
        rw [drop_at hy, drop_at hz]
        rfl
      rw [show 4 - 2 = 2 from rfl, e]
    have HQ := hide (parse2_v y z w hE)
    have h4' : ¬ (T.length : Int) < 4 := by omega
    have hr1 := hide (hexB_range (num y))
    have hr2 := hide (hexB_range (num z))
    clear hc hc120 hy hz hE h4
    go_enter Tryz.func192, Tryz.ntmps192
    go_wp2_with fail
    refine (unhide HQ).mono ?_
    rintro e w2 ⟨he, hk⟩
    have HK := hide hk
    clear hk HQ
    rcases he with ⟨g1, g2, rfl⟩ | ⟨hno, te, pv, rfl⟩
    · have HE : Hid (escB T 0 = (16 * hexB (num y) + hexB (num z), 4)) := by show _ = _; rw [unhide HES, if_neg (by omega)]
      have q1 := (unhide hr1).2
      have q2 := (unhide hr2).2
      obtain ⟨V, HV⟩ : ∃ V : Nat, Hid (16 * hexB (num y) + hexB (num z) = (V : Int)) := ⟨(16 * hexB (num y) + hexB (num z)).toNat, by show _ = _; omega⟩
      have hV : V < 256 := by have := unhide HV; omega
      rw [unhide HV] at HE
      rw [unhide HV]
      have hcn : num (UInt8.ofNat V) = (V : Int) := num_of V hV
      obtain ⟨HX, hxb, hxc⟩ := boxed w2 #[.int .u8 (V : Int)] 5
      have hcv := conv_bytes (w2.alloc (.cells #[.int .u8 (V : Int)] 5)) w2.heap.size 1 [UInt8.ofNat V] (fun j x hj => by
        match j, hj with
        | 0, hj => simp at hj; subst hj; rw [hcn]; exact hxc 0 _ rfl)
      simp only [List.length_cons, List.length_nil, Nat.zero_add] at hcv
      clear hxc hxb hx g1 g2 q1 q2 HES
      go_wp2_with fail
      go_ret2
      exact ⟨[UInt8.ofNat V], by rw [unhide HE]; rfl, fun _ => by rw [unhide HE]; rfl, (unhide HK).trans (unhide HX)⟩
    · have HE : Hid (escB T 0 = (0, 0)) := by show _ = _; rw [unhide HES, if_pos (by omega)]
      clear hno
      go_wp2_with fail
      go_ret2
      exact ⟨[], by rw [unhide HE]; rfl, fun h => absurd (by rw [unhide HE]) h, unhide HK⟩
end Go.Proofs.YtajklagdjokojaaGreatDoor
