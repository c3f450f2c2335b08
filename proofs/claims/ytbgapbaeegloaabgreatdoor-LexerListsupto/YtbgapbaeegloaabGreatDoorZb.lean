import Derived.Test.YtbgapbaeegloaabGreatDoorMa
import Derived.Test.YtbgapbaeegloaabGreatDoorZa
namespace Go.Proofs.YtbgapbaeegloaabGreatDoor
open Go.RowKit Go.Maps

/-- How many bytes the rune at a place takes, 0: none begins there. -/
def wB (t : Txt) (i : Nat) : Int := if nth t i < 128 then 1 else runeB t i
theorem wB_dec (t : Txt) (a : Nat) (ha : a < t.length) : wB t a = if badB (t.drop a) then 0 else ((dec (t.drop a)).2 : Int) := by
  unfold wB
  rw [rune_dec t a ha]
  have e : dec (t.drop a) = Lib.decodeN (t.length - a) (t.getD a 0).toNat (t.getD (a + 1) 0).toNat (t.getD (a + 2) 0).toNat (t.getD (a + 3) 0).toNat := by
    unfold dec
    simp only [List.length_drop, List.getD_eq_getElem?_getD, List.getElem?_drop, Nat.add_zero]
  unfold badB
  rw [e]
  unfold nth num
  have b0 := (t.getD a 0).toNat_lt
  generalize (t.getD a 0).toNat = c0 at *
  generalize (t.getD (a + 1) 0).toNat = c1 at *
  generalize (t.getD (a + 2) 0).toNat = c2 at *
  generalize (t.getD (a + 3) 0).toNat = c3 at *
  generalize t.length - a = n at *
  by_cases h : (c0 : Int) < 128
  · rw [if_pos h]
    have e1 : Lib.decodeN n c0 c1 c2 c3 = (c0, 1) := by unfold Lib.decodeN; rw [if_pos (by omega)]
    rw [e1]
    have : ¬ c0 = 65533 := by omega
    simp [this]
  · rw [if_neg h]
    have q : ((Lib.decodeN n c0 c1 c2 c3).2 = 1 ∧ (Lib.decodeN n c0 c1 c2 c3).1 = 65533) ∨ (1 < (Lib.decodeN n c0 c1 c2 c3).2 ∧ ((Lib.decodeN n c0 c1 c2 c3).1 = 65533 → (Lib.decodeN n c0 c1 c2 c3).2 = 3)) := by
      unfold Lib.decodeN
      rw [if_neg (by omega)]
      repeat' split
      all_goals first | exact .inl ⟨rfl, rfl⟩ | exact .inr ⟨by simp, fun h => absurd h (by intro h; simp only at h; omega)⟩ | exact .inr ⟨by simp, fun _ => rfl⟩
    generalize Lib.decodeN n c0 c1 c2 c3 = D at *
    obtain ⟨r, s⟩ := D
    simp only at q ⊢
    rcases q with ⟨rfl, rfl⟩ | ⟨q1, q2⟩
    · simp
    · rw [if_pos q1]
      by_cases hr : r = 65533
      · rw [q2 hr]; simp
      · simp [hr]

set_option maxRecDepth 100000 in
theorem more7_v (t : Txt) (k : Nat) (w : World) : Calls Tryz.prog 29 #[str t, .int .i64 k] w fun e w' => e = .returned (.bool (moreB t k)) ∧ w' = w := by
  unfold moreB
  cases h : t[k]? with
  | none =>
    have h1 := get_ge h
    go_enter Tryz.func29, Tryz.ntmps29
    go_wp2
    go_ret
    exact ⟨rfl, rfl⟩
  | some c =>
    have h1 := get_lt h
    have q := str_at h
    unfold num at *
    go_enter Tryz.func29, Tryz.ntmps29
    go_wp2
    all_goals
      go_ret
      refine ⟨ret_bool ?_, rfl⟩
      apply Bool.eq_iff_iff.2
      simp_all
      try omega
theorem more7_at (t : Txt) (k : Int) (n : Nat) (h : k = n) (w : World) : Calls Tryz.prog 29 #[str t, .int .i64 k] w fun e w' => e = .returned (.bool (moreB t n)) ∧ w' = w := by
  rw [h]; exact more7_v t n w
end Go.Proofs.YtbgapbaeegloaabGreatDoor
