import Derived.Test.YtbgapbaeegloaabGreatDoorZb
namespace Go.Proofs.YtbgapbaeegloaabGreatDoor
open Go.RowKit Go.Maps

set_option maxRecDepth 100000 in
set_option maxHeartbeats 4000000 in
theorem rune1_v (t : Txt) (a : Nat) (ha : a < t.length) (ht : t.length ≤ 256) (w : World) :
    Calls Tryz.prog 15 #[str t, .int .i64 a] w fun e w' => e = .returned (.int .i64 (wB t a)) ∧ Keeps (fun _ => False) w w' := by
  obtain ⟨c, h⟩ : ∃ c, t[a]? = some c := ⟨_, List.getElem?_eq_getElem ha⟩
  have q := str_at h
  have HR : Hid (wB t a = if num c < 128 then 1 else runeOf (num c) (nth t (a + 1)) (moreB t (a + 1)) (moreB t (a + 2)) (moreB t (a + 3))) := by
    show _ = _
    unfold wB runeB
    rw [if_neg (show ¬ t.length ≤ a by omega), nth_of h]
  obtain ⟨r, HE⟩ : ∃ r, Hid (wB t a = r) := ⟨_, rfl⟩
  rw [unhide HE] at HR ⊢
  obtain ⟨d, HD⟩ : ∃ d, Hid (nth t (a + 1) = d) := ⟨_, rfl⟩
  obtain ⟨m1, H1⟩ : ∃ m, Hid (moreB t (a + 1) = m) := ⟨_, rfl⟩
  obtain ⟨m2, H2⟩ : ∃ m, Hid (moreB t (a + 2) = m) := ⟨_, rfl⟩
  obtain ⟨m3, H3⟩ : ∃ m, Hid (moreB t (a + 3) = m) := ⟨_, rfl⟩
  rw [unhide HD, unhide H1, unhide H2, unhide H3] at HR
  have M1 : ∀ k : Int, k = ((a + 1 : Nat) : Int) → ∀ w, Hid (Calls Tryz.prog 29 #[str t, .int .i64 k] w fun e w' => e = .returned (.bool m1) ∧ w' = w) := fun k hk w => by rw [← unhide H1]; exact more7_at t k (a + 1) hk w
  have M2 : ∀ k : Int, k = ((a + 2 : Nat) : Int) → ∀ w, Hid (Calls Tryz.prog 29 #[str t, .int .i64 k] w fun e w' => e = .returned (.bool m2) ∧ w' = w) := fun k hk w => by rw [← unhide H2]; exact more7_at t k (a + 2) hk w
  have M3 : ∀ k : Int, k = ((a + 3 : Nat) : Int) → ∀ w, Hid (Calls Tryz.prog 29 #[str t, .int .i64 k] w fun e w' => e = .returned (.bool m3) ∧ w' = w) := fun k hk w => by rw [← unhide H3]; exact more7_at t k (a + 3) hk w
  have e1 : (c.toNat : Int) = num c := rfl
  have hc := num_range c
  have hc0 := hc.1
  have hc1 := hc.2
  have HQ : Hid (m1 = true → ∃ y : UInt8, a + 1 < t.length ∧ (∀ hk, (ByteArray.mk t.toArray)[a + 1]'hk = y) ∧ num y = d) := by
    intro hm
    obtain ⟨y, hy⟩ := moreB_some ((unhide H1).trans hm)
    exact ⟨y, get_lt hy, str_at hy, by rw [← unhide HD, nth_of hy]⟩
  clear h HE HD H1 H2 H3 hc
  generalize num c = x at *
  have HM := hide M1
  have HM2 := hide M2
  have HM3 := hide M3
  clear M1 M2 M3
  have cls : x < 128 ∨ (128 ≤ x ∧ x < 194) ∨ (194 ≤ x ∧ x ≤ 223) ∨ (224 ≤ x ∧ x ≤ 239) ∨ (240 ≤ x ∧ x ≤ 244) ∨ 244 < x := by omega
  rcases cls with k1 | ⟨k1, k2⟩ | ⟨k1, k2⟩ | ⟨k1, k2⟩ | ⟨k1, k2⟩ | k1
  · have HF : Hid (r = 1) := by show _ = _; rw [unhide HR, if_pos k1]
    clear HR HQ
    go_enter Tryz.func15, Tryz.ntmps15
    go_wp2
    go_ret
    exact ⟨ret_int (unhide HF).symm, Keeps.refl _ _⟩
  · have HF : Hid (r = 0) := by show _ = _; rw [unhide HR, if_neg (by omega)]; unfold runeOf; rw [if_neg (by omega), if_neg (by omega), if_neg (by omega)]
    clear HR HQ
    go_enter Tryz.func15, Tryz.ntmps15
    go_wp2
    go_ret
    exact ⟨ret_int (unhide HF).symm, Keeps.refl _ _⟩
  · have HF : Hid (r = if m1 then 2 else 0) := by
      show _ = _
      rw [unhide HR, if_neg (by omega)]
      unfold runeOf
      cases m1
      · rw [if_neg (by simp), if_neg (by omega), if_neg (by omega)]; rfl
      · rw [if_pos ⟨k1, k2, rfl⟩]; rfl
    clear HR HQ
    go_enter Tryz.func15, Tryz.ntmps15
    go_wp2_with fail
    refine (unhide ((unhide HM) _ (by go_num) w)).mono ?_
    rintro e w1 ⟨rfl, rfl⟩
    cases m1
    · go_wp2_with fail
      go_ret
      exact ⟨ret_int (unhide HF).symm, Keeps.refl _ _⟩
    · go_wp2_with fail
      go_ret
      exact ⟨ret_int (unhide HF).symm, Keeps.refl _ _⟩
  · have HF : Hid (r = if m1 = true ∧ m2 = true then (if (x = 224 ∧ d < 160) ∨ (x = 237 ∧ 159 < d) then 0 else 3) else 0) := by
      show _ = _
      rw [unhide HR, if_neg (by omega)]
      unfold runeOf
      rw [if_neg (by omega)]
      by_cases hm : m1 = true ∧ m2 = true
      · rw [if_pos ⟨k1, k2, hm.1, hm.2⟩, if_pos hm]
      · rw [if_neg (fun q => hm q.2.2), if_neg (by omega), if_neg hm]
    clear HR
    cases m1
    · have HF2 : Hid (r = 0) := unhide HF
      clear HF HQ
      go_enter Tryz.func15, Tryz.ntmps15
      go_wp2_with (go_at_call 29; (first | refine (unhide ((unhide HM) _ (by go_num) _)).mono ?_ | refine (unhide ((unhide HM2) _ (by go_num) _)).mono ?_ | refine (unhide ((unhide HM3) _ (by go_num) _)).mono ?_); rintro e w1 ⟨rfl, rfl⟩)
      all_goals
        go_ret
        exact ⟨ret_int (unhide HF2).symm, Keeps.refl _ _⟩
    · cases m2
      · have HF2 : Hid (r = 0) := unhide HF
        clear HF HQ
        go_enter Tryz.func15, Tryz.ntmps15
        go_wp2_with (go_at_call 29; (first | refine (unhide ((unhide HM) _ (by go_num) _)).mono ?_ | refine (unhide ((unhide HM2) _ (by go_num) _)).mono ?_ | refine (unhide ((unhide HM3) _ (by go_num) _)).mono ?_); rintro e w1 ⟨rfl, rfl⟩)
        all_goals
          go_ret
          exact ⟨ret_int (unhide HF2).symm, Keeps.refl _ _⟩
      · obtain ⟨y, h2, q2, hyd⟩ := (unhide HQ) rfl
        have e2 : (y.toNat : Int) = d := hyd
        have hy := num_range y
        rw [hyd] at hy
        have hy0 := hy.1
        have hy1 := hy.2
        clear HQ hyd hy
        by_cases hz : (x = 224 ∧ d < 160) ∨ (x = 237 ∧ 159 < d)
        · have HF2 : Hid (r = 0) := by show _ = _; rw [unhide HF, if_pos ⟨rfl, rfl⟩, if_pos hz]
          have HZ := hide hz
          clear hz HF
          go_enter Tryz.func15, Tryz.ntmps15
          go_wp2_with (go_at_call 29; (first | refine (unhide ((unhide HM) _ (by go_num) _)).mono ?_ | refine (unhide ((unhide HM2) _ (by go_num) _)).mono ?_ | refine (unhide ((unhide HM3) _ (by go_num) _)).mono ?_); rintro e w1 ⟨rfl, rfl⟩)
          all_goals
            first
            | (go_ret; exact ⟨ret_int (unhide HF2).symm, Keeps.refl _ _⟩)
            | (exfalso; have := unhide HZ; omega)
        · have HF2 : Hid (r = 3) := by show _ = _; rw [unhide HF, if_pos ⟨rfl, rfl⟩, if_neg hz]
          have HZ := hide hz
          clear hz HF
          go_enter Tryz.func15, Tryz.ntmps15
          go_wp2_with (go_at_call 29; (first | refine (unhide ((unhide HM) _ (by go_num) _)).mono ?_ | refine (unhide ((unhide HM2) _ (by go_num) _)).mono ?_ | refine (unhide ((unhide HM3) _ (by go_num) _)).mono ?_); rintro e w1 ⟨rfl, rfl⟩)
          all_goals
            first
            | (go_ret; exact ⟨ret_int (unhide HF2).symm, Keeps.refl _ _⟩)
            | (exfalso; have := unhide HZ; omega)
  · have HF : Hid (r = if m1 = true ∧ m2 = true ∧ m3 = true then (if (x = 240 ∧ d < 144) ∨ (x = 244 ∧ 143 < d) then 0 else 4) else 0) := by
      show _ = _
      rw [unhide HR, if_neg (by omega)]
      unfold runeOf
      rw [if_neg (by omega), if_neg (by omega)]
      by_cases hm : m1 = true ∧ m2 = true ∧ m3 = true
      · rw [if_pos ⟨k1, k2, hm.1, hm.2.1, hm.2.2⟩, if_pos hm]
      · rw [if_neg (fun q => hm q.2.2), if_neg hm]
    clear HR
    cases m1
    · have HF2 : Hid (r = 0) := unhide HF
      clear HF HQ
      go_enter Tryz.func15, Tryz.ntmps15
      go_wp2_with (go_at_call 29; (first | refine (unhide ((unhide HM) _ (by go_num) _)).mono ?_ | refine (unhide ((unhide HM2) _ (by go_num) _)).mono ?_ | refine (unhide ((unhide HM3) _ (by go_num) _)).mono ?_); rintro e w1 ⟨rfl, rfl⟩)
      all_goals
        go_ret
        exact ⟨ret_int (unhide HF2).symm, Keeps.refl _ _⟩
    · cases m2
      · have HF2 : Hid (r = 0) := unhide HF
        clear HF HQ
        go_enter Tryz.func15, Tryz.ntmps15
        go_wp2_with (go_at_call 29; (first | refine (unhide ((unhide HM) _ (by go_num) _)).mono ?_ | refine (unhide ((unhide HM2) _ (by go_num) _)).mono ?_ | refine (unhide ((unhide HM3) _ (by go_num) _)).mono ?_); rintro e w1 ⟨rfl, rfl⟩)
        all_goals
          go_ret
          exact ⟨ret_int (unhide HF2).symm, Keeps.refl _ _⟩
      · cases m3
        · have HF2 : Hid (r = 0) := unhide HF
          clear HF HQ
          go_enter Tryz.func15, Tryz.ntmps15
          go_wp2_with (go_at_call 29; (first | refine (unhide ((unhide HM) _ (by go_num) _)).mono ?_ | refine (unhide ((unhide HM2) _ (by go_num) _)).mono ?_ | refine (unhide ((unhide HM3) _ (by go_num) _)).mono ?_); rintro e w1 ⟨rfl, rfl⟩)
          all_goals
            go_ret
            exact ⟨ret_int (unhide HF2).symm, Keeps.refl _ _⟩
        · obtain ⟨y, h2, q2, hyd⟩ := (unhide HQ) rfl
          have e2 : (y.toNat : Int) = d := hyd
          have hy := num_range y
          rw [hyd] at hy
          have hy0 := hy.1
          have hy1 := hy.2
          clear HQ hyd hy
          by_cases hz : (x = 240 ∧ d < 144) ∨ (x = 244 ∧ 143 < d)
          · have HF2 : Hid (r = 0) := by show _ = _; rw [unhide HF, if_pos ⟨rfl, rfl, rfl⟩, if_pos hz]
            have HZ := hide hz
            clear hz HF
            go_enter Tryz.func15, Tryz.ntmps15
            go_wp2_with (go_at_call 29; (first | refine (unhide ((unhide HM) _ (by go_num) _)).mono ?_ | refine (unhide ((unhide HM2) _ (by go_num) _)).mono ?_ | refine (unhide ((unhide HM3) _ (by go_num) _)).mono ?_); rintro e w1 ⟨rfl, rfl⟩)
            all_goals
              first
              | (go_ret; exact ⟨ret_int (unhide HF2).symm, Keeps.refl _ _⟩)
              | (exfalso; have := unhide HZ; omega)
          · have HF2 : Hid (r = 4) := by show _ = _; rw [unhide HF, if_pos ⟨rfl, rfl, rfl⟩, if_neg hz]
            have HZ := hide hz
            clear hz HF
            go_enter Tryz.func15, Tryz.ntmps15
            go_wp2_with (go_at_call 29; (first | refine (unhide ((unhide HM) _ (by go_num) _)).mono ?_ | refine (unhide ((unhide HM2) _ (by go_num) _)).mono ?_ | refine (unhide ((unhide HM3) _ (by go_num) _)).mono ?_); rintro e w1 ⟨rfl, rfl⟩)
            all_goals
              first
              | (go_ret; exact ⟨ret_int (unhide HF2).symm, Keeps.refl _ _⟩)
              | (exfalso; have := unhide HZ; omega)
  · have HF : Hid (r = 0) := by show _ = _; rw [unhide HR, if_neg (by omega)]; unfold runeOf; rw [if_neg (by omega), if_neg (by omega), if_neg (by omega)]
    clear HR HQ
    go_enter Tryz.func15, Tryz.ntmps15
    go_wp2
    go_ret
    exact ⟨ret_int (unhide HF).symm, Keeps.refl _ _⟩
end Go.Proofs.YtbgapbaeegloaabGreatDoor
