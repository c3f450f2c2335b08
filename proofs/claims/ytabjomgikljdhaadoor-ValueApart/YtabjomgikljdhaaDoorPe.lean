import Derived.Test.YtabjomgikljdhaaDoorPd
namespace Go.Proofs.YtabjomgikljdhaaDoor
open Go.RowKit Go.Maps

set_option maxRecDepth 100000 in
theorem escape_same (T : Txt) (y : UInt8) (hy : y = 34 ∨ y = 92) (h2 : 2 ≤ T.length) (h1 : T[1]? = some y) (w : World) :
    Calls Tryd.prog 43 #[str T] w fun e w' => e = .returned (.tuple #[str [y], .int .i64 2]) ∧ w' = w := by
  have q := str_at h1
  have hx : (ByteArray.mk T.toArray).extract 1 2 = ⟨[y].toArray⟩ := by
    rw [ext_str]
    have : (T.drop 1).take 1 = [y] := by
      rw [List.take_one]
      simp [h1]
    rw [show 2 - 1 = 1 from rfl, this]
  have h5 : ¬ ((T.length : Int) < 2) := by omega
  rcases hy with rfl | rfl
  all_goals
    go_enter Tryd.func43, Tryd.ntmps43
    go_wp2_with fail
    go_ret2
    exact ⟨rfl, rfl⟩

set_option maxRecDepth 100000 in
theorem escape_hex (T : Txt) (c : UInt8) (a b : Nat) (ha : a < 16) (hb : b < 16) (hc : c.toNat = 16 * a + b) (h4 : 4 ≤ T.length) (h1 : T[1]? = some 120) (hT : (T.drop 2).take 2 = [hexD a, hexD b]) (w : World) :
    Calls Tryd.prog 43 #[str T] w fun e w' => e = .returned (.tuple #[str [c], .int .i64 4]) ∧ Keeps (fun _ => False) w w' := by
  have HQ := hide (unquoteHex_v T c a b ha hb hc h4 hT w)
  have q := str_at h1
  have h5 : ¬ ((T.length : Int) < 2) := by omega
  clear hT hc ha hb h1
  go_enter Tryd.func43, Tryd.ntmps43
  go_wp2_with fail
  refine (unhide HQ).mono ?_
  rintro e w2 ⟨rfl, hk⟩
  have HK := hide hk
  clear hk
  go_wp2_with fail
  go_ret2
  exact ⟨rfl, unhide HK⟩

set_option maxRecDepth 100000 in
theorem piece_v (c : UInt8) (R : Txt) (w : World) :
    Calls Tryd.prog 30 #[str (quote1 c ++ R)] w fun e w' => e = .returned (.tuple #[str [c], .int .i64 (quote1 c).length]) ∧ Keeps (fun _ => False) w w' := by
  by_cases hesc : c = 34 ∨ c = 92
  · have HC : quote1 c = [92, c] := by unfold quote1; rw [if_pos hesc]
    rw [HC]
    obtain ⟨T, hT⟩ : ∃ T, T = [92, c] ++ R := ⟨_, rfl⟩
    have HQ := hide (escape_same T c hesc (by rw [hT]; simp) (by rw [hT]; simp) w)
    have q : ∀ hk, (ByteArray.mk T.toArray)[0]'hk = 92 := str_at (by rw [hT]; simp)
    have hl : T.length = R.length + 2 := by rw [hT]; simp
    rw [← hT]
    clear hT hesc HC
    go_enter Tryd.func30, Tryd.ntmps30
    go_wp2_with fail
    refine (unhide HQ).mono ?_
    rintro e w2 ⟨rfl, rfl⟩
    go_wp2_with fail
    go_ret2
    exact ⟨rfl, Keeps.refl _ _⟩
  · have n34 : num c ≠ 34 := fun e => hesc (.inl (num_inj (a := c) (b := 34) e))
    have n92 : num c ≠ 92 := fun e => hesc (.inr (num_inj (a := c) (b := 92) e))
    have e1 : (c.toNat : Int) = num c := rfl
    by_cases hpl : 32 ≤ num c ∧ num c ≤ 126
    · have HC : quote1 c = [c] := by rw [quote1_num c _ _ rfl rfl, if_neg (by simp [n34, n92]), if_pos hpl]
      rw [HC]
      obtain ⟨T, hT⟩ : ∃ T, T = [c] ++ R := ⟨_, rfl⟩
      have HP := hide (plain_v (num c) w)
      rw [decide_eq_true hpl.1, decide_eq_true hpl.2, Bool.and_true] at HP
      have q : ∀ hk, (ByteArray.mk T.toArray)[0]'hk = c := str_at (by rw [hT]; simp)
      have hl : T.length = R.length + 1 := by rw [hT]; simp
      have hx : (ByteArray.mk T.toArray).extract 0 1 = ⟨[c].toArray⟩ := by rw [ext_str, hT]; simp
      have d92 : (num c == 92) = false := by simpa using n92
      rw [← hT]
      clear hT hesc HC n34 hpl
      go_enter Tryd.func30, Tryd.ntmps30
      go_wp2_with fail
      refine (unhide HP).mono ?_
      rintro e w2 ⟨rfl, rfl⟩
      go_wp2_with fail
      go_ret2
      exact ⟨rfl, Keeps.refl _ _⟩
    · have HC : quote1 c = [92, 120, hexD (c.toNat / 16), hexD (c.toNat % 16)] := by rw [quote1_num c _ _ rfl rfl, if_neg (by simp [n34, n92]), if_neg hpl]
      rw [HC]
      obtain ⟨T, hT⟩ : ∃ T, T = [92, 120, hexD (c.toNat / 16), hexD (c.toNat % 16)] ++ R := ⟨_, rfl⟩
      have hcl := c.toNat_lt
      have HQ := hide (escape_hex T c (c.toNat / 16) (c.toNat % 16) (by omega) (by omega) (by omega) (by rw [hT]; simp) (by rw [hT]; simp) (by rw [hT]; simp) w)
      have q : ∀ hk, (ByteArray.mk T.toArray)[0]'hk = 92 := str_at (by rw [hT]; simp)
      have hl : T.length = R.length + 4 := by rw [hT]; simp
      rw [← hT]
      clear hT hesc HC n34 n92 hpl e1
      go_enter Tryd.func30, Tryd.ntmps30
      go_wp2_with fail
      refine (unhide HQ).mono ?_
      rintro e w2 ⟨rfl, hk⟩
      have HK := hide hk
      clear hk
      go_wp2_with fail
      go_ret2
      exact ⟨rfl, unhide HK⟩
end Go.Proofs.YtabjomgikljdhaaDoor
