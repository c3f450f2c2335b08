import Derived.Test.YtbgapbaeegloaabGreatDoorZi
namespace Go.Proofs.YtbgapbaeegloaabGreatDoor
open Go.RowKit Go.Maps

set_option maxRecDepth 100000 in
set_option maxHeartbeats 4000000 in
theorem token7_mark (t : Txt) (i : Nat) (c : UInt8) (hx : t[i]? = some c) (hl : t.length ≤ 256) (hle : letterB (num c) = false) (hdg : digitB (num c) = false) (h34 : c ≠ 34) (w : World) :
    Calls Tryz.prog 12 #[str t, .int .i64 i] w fun e w' => e = .returned (tokV (posP i (firstP c (t.drop i)))) ∧ Keeps (fun _ => False) w w' := by
  have h1 := get_lt hx
  have q := str_at hx
  have ecn : (c.toNat : Int) = num c := rfl
  have hi1 : (i : Int) < (t.length : Int) := by omega
  have hcr := num_range c
  obtain ⟨T, HT⟩ : ∃ T : Txt, Hid (t.drop i = T) := ⟨_, hide rfl⟩
  rw [unhide HT]
  have hT0 : T[0]? = some c := by rw [← unhide HT, List.getElem?_drop, Nat.add_zero]; exact hx
  have hTl : T.length = t.length - i := by rw [← unhide HT, List.length_drop]
  have HRUN := fun w' => hide (rruni_v t (by omega) i (by omega) w')
  rw [unhide HT] at HRUN
  have HLE := fun w' => hide (rletter_v (num c) w')
  have HDI := fun w' => hide (rdigit_v (num c) w')
  obtain ⟨D, HD⟩ : ∃ D, Hid (posP i (firstP c T) = D) := ⟨_, rfl⟩
  rw [unhide HD]
  rw [hle] at HLE
  rw [hdg] at HDI
  have hp : partB (num c) = false := by rw [part_split, hle, hdg]; rfl
  have hsl : (ByteArray.mk t.toArray).extract i t.length = ⟨T.toArray⟩ := by rw [ext_str, unhide HT, List.take_of_length_le (by omega)]
  have hAi : (i : Int) ≤ (t.length : Int) := by omega
  have hc : (num c == 34) = false := by
    have : num c ≠ 34 := fun e => h34 (num_inj (a := c) (b := 34) e)
    simpa using this
  have HDE : Hid (D = posP i (markP T)) := by show _ = _; rw [← unhide HD]; unfold firstP; rw [hp, if_neg h34]; rfl
  have HMK := hide (mark_mkT T (by omega))
  have HQ := hide (mark7_v t i h1 hl (w.alloc (.cells #[.int .i64 0, str [], .int .i64 0, .int .i64 0] 31)))
  rw [unhide HT] at HQ
  rw [unhide HMK] at HDE
  generalize mkT T = m at *
  clear hle hp hdg hT0 hx HT hTl HD h34 HRUN HMK
  by_cases hm : m = []
  · subst hm
    have HF : Hid (D = (zeroT, 0, 72)) := by show _ = _; rw [unhide HDE, if_pos rfl]; rfl
    clear HDE
    go_enter Tryz.func12, Tryz.ntmps12
    go_wp2_with fail
    refine (unhide (HLE _)).mono ?_
    rintro e w1 ⟨rfl, rfl⟩
    go_wp2_with fail
    refine (unhide (HDI _)).mono ?_
    rintro e w1 ⟨rfl, rfl⟩
    go_wp2_with fail
    refine (unhide HQ).mono ?_
    rintro e w4 ⟨rfl, hk4⟩
    clear HQ HLE HDI
    obtain ⟨hb4, hkw⟩ := cell4 (hk4)
    have m0 := cell_of_blk hb4 0
    have m1 := cell_of_blk hb4 1
    have m2 := cell_of_blk hb4 2
    have m3 := cell_of_blk hb4 3
    simp at m0 m1 m2 m3
    have g0 := frozen_of_blk hb4 0
    have g1 := frozen_of_blk hb4 1
    have g2 := frozen_of_blk hb4 2
    have g3 := frozen_of_blk hb4 3
    have HK4 := hide hkw
    clear hk4
    obtain ⟨⟨s0, s1, s2, s3⟩, hks⟩ := set4 hb4 (.int .i64 0) (str []) (.int .i64 0) (.int .i64 0)
    have HKS := hide hks
    clear hks hkw hb4
    go_wp2_with fail
    refine bodyPost_ret (v := tokV (zeroT, 0, 72)) (by simp [results, go_sem, s0, s1, s2, s3, tokV, TokA.v, zeroT]) rfl ?_
    exact ⟨by rw [unhide HF], (unhide HK4).narrow (unhide HKS) (fun q e => by omega)⟩
  · have HF : Hid (D = (⟨5, m, 0, (i : Int)⟩, m.length, 0)) := by show _ = _; rw [unhide HDE, if_neg hm]; rfl
    have hme : (m == ([] : Txt)) = false := by
      cases m with
      | nil => exact absurd rfl hm
      | cons a b => rfl
    clear HDE hm
    go_enter Tryz.func12, Tryz.ntmps12
    go_wp2_with fail
    refine (unhide (HLE _)).mono ?_
    rintro e w1 ⟨rfl, rfl⟩
    go_wp2_with fail
    refine (unhide (HDI _)).mono ?_
    rintro e w1 ⟨rfl, rfl⟩
    go_wp2_with fail
    refine (unhide HQ).mono ?_
    rintro e w4 ⟨rfl, hk4⟩
    clear HQ HLE HDI
    obtain ⟨hb4, hkw⟩ := cell4 (hk4)
    have m0 := cell_of_blk hb4 0
    have m1 := cell_of_blk hb4 1
    have m2 := cell_of_blk hb4 2
    have m3 := cell_of_blk hb4 3
    simp at m0 m1 m2 m3
    have g0 := frozen_of_blk hb4 0
    have g1 := frozen_of_blk hb4 1
    have g2 := frozen_of_blk hb4 2
    have g3 := frozen_of_blk hb4 3
    have HK4 := hide hkw
    clear hk4
    obtain ⟨⟨s0, s1, s2, s3⟩, hks⟩ := set4 hb4 (.int .i64 5) (str m) (.int .i64 0) (.int .i64 (i : Int))
    have HKS := hide hks
    clear hks hkw hb4
    go_wp2_with fail
    refine bodyPost_ret (v := tokV (⟨5, m, 0, (i : Int)⟩, m.length, 0)) (by simp [results, go_sem, s0, s1, s2, s3, tokV, TokA.v]) rfl ?_
    exact ⟨by rw [unhide HF], (unhide HK4).narrow (unhide HKS) (fun q e => by omega)⟩
end Go.Proofs.YtbgapbaeegloaabGreatDoor
