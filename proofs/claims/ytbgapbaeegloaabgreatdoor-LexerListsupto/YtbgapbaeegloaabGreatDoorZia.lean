import Derived.Test.YtbgapbaeegloaabGreatDoorZi
namespace Go.Proofs.YtbgapbaeegloaabGreatDoor
open Go.RowKit Go.Maps

set_option maxRecDepth 100000 in
set_option maxHeartbeats 4000000 in
theorem token7_letter (t : Txt) (i : Nat) (c : UInt8) (hx : t[i]? = some c) (hl : t.length ≤ 256) (hle : letterB (num c) = true) (w : World) :
    Calls Tryz.prog 12 #[str t, .int .i64 i] w fun e w' => T7 e (posP i (firstP c (t.drop i))) ∧ Keeps (fun _ => False) w w' := by
  have h1 := get_lt hx
  have q := str_at hx
  have ecn : (c.toNat : Int) = num c := rfl
  have hi1 : (i : Int) < (t.length : Int) := by omega
  have hcr := num_range c
  obtain ⟨T, HT⟩ : ∃ T : Txt, Hid (t.drop i = T) := ⟨_, hide rfl⟩
  rw [unhide HT]
  have hT0 : T[0]? = some c := by rw [← unhide HT, List.getElem?_drop, Nat.add_zero]; exact hx
  have hTl : T.length = t.length - i := by rw [← unhide HT, List.length_drop]
  have HRUN := fun w' => hide (rruni_v t (by omega) i (by omega) w')
  rw [unhide HT] at HRUN
  have HLE := fun w' => hide (rletter_v (num c) w')
  have HDI := fun w' => hide (rdigit_v (num c) w')
  obtain ⟨D, HD⟩ : ∃ D, Hid (posP i (firstP c T) = D) := ⟨_, rfl⟩
  rw [unhide HD]
  rw [hle] at HLE
  obtain ⟨hp, hdg⟩ := letter_part hle
  obtain ⟨r1, r2⟩ := run_pos hT0 hp
  have hX0 : (T.take (runB T))[0]? = some c := by rw [List.getElem?_take_of_lt (by omega)]; exact hT0
  have hXl : (T.take (runB T)).length ≤ 256 := by rw [List.length_take]; omega
  obtain ⟨ok1, ok2⟩ := w7_word (T.take (runB T)) i c hX0 hdg (take_run_all T)
  have HDE : Hid (D = posP i (wordP (T.take (runB T)))) := by show _ = _; rw [← unhide HD]; unfold firstP; rw [hp, hdg]; rfl
  have HQ := hide (word7_v (T.take (runB T)) hXl i (w.alloc (.cells #[.int .i64 0, str [], .int .i64 0, .int .i64 0] 31)))
  generalize T.take (runB T) = X at *
  generalize w7 X i = L at *
  obtain ⟨⟨k, tx, n, ps⟩, er⟩ := L
  unfold w7V TokA.v at HQ
  simp only at HQ ok1 ok2
  have HOK1 := hide ok1
  have HOK2 := hide ok2
  clear hle hp hdg hX0 hT0 hx ok1 ok2 HT hTl r1 r2 HD
  go_enter Tryz.func12, Tryz.ntmps12
  go_wp2_with fail
  refine (unhide (HLE _)).mono ?_
  rintro e w1 ⟨rfl, rfl⟩
  go_wp2_with fail
  refine (unhide (HRUN _)).mono ?_
  rintro e w1 ⟨rfl, rfl⟩
  go_wp2_with fail
  refine (unhide HQ).mono ?_
  rintro e w4 ⟨rfl, hk9⟩
  have hk4 := hk9.alloc (.cells #[.int .i64 k, str tx, .int .i64 n, .int .i64 ps] 31)
  clear hk9 HQ HLE HRUN
  by_cases her : er = 0
  · have HF : Hid (D = (⟨k, tx, n, ps⟩, X.length, 0)) := by show _ = _; rw [unhide HDE, (unhide HOK1) her]
    subst her
    obtain ⟨hb4, hkw⟩ := cell4 (hk4)
    have m0 := cell_of_blk hb4 0
    have m1 := cell_of_blk hb4 1
    have m2 := cell_of_blk hb4 2
    have m3 := cell_of_blk hb4 3
    simp at m0 m1 m2 m3
    have g0 := frozen_of_blk hb4 0
    have g1 := frozen_of_blk hb4 1
    have g2 := frozen_of_blk hb4 2
    have g3 := frozen_of_blk hb4 3
    have HK4 := hide hkw
    clear hk4
    obtain ⟨⟨s0, s1, s2, s3⟩, hks⟩ := set4 hb4 (.int .i64 k) (str tx) (.int .i64 n) (.int .i64 ps)
    have HKS := hide hks
    clear hks hkw hb4
    go_wp2_with fail
    refine bodyPost_ret (v := tokV (⟨k, tx, n, ps⟩, X.length, 0)) (by simp [results, go_sem, s0, s1, s2, s3, tokV, TokA.v]) rfl ?_
    exact ⟨⟨X.length, by rw [unhide HF], fun _ => by rw [unhide HF]⟩, (unhide HK4).narrow (unhide HKS) (fun q e => by omega)⟩
  · obtain ⟨e1, e2⟩ := (unhide HOK2) her
    have HF : Hid (D = (zeroT, 0, 72)) := by show _ = _; rw [unhide HDE, e2]
    simp only [Prod.mk.injEq, zeroT, TokA.mk.injEq] at e1
    obtain ⟨⟨rfl, rfl, rfl, rfl⟩, rfl⟩ := e1
    clear e2 her
    obtain ⟨hb4, hkw⟩ := cell4 (hk4)
    have m0 := cell_of_blk hb4 0
    have m1 := cell_of_blk hb4 1
    have m2 := cell_of_blk hb4 2
    have m3 := cell_of_blk hb4 3
    simp at m0 m1 m2 m3
    have g0 := frozen_of_blk hb4 0
    have g1 := frozen_of_blk hb4 1
    have g2 := frozen_of_blk hb4 2
    have g3 := frozen_of_blk hb4 3
    have HK4 := hide hkw
    clear hk4
    obtain ⟨⟨s0, s1, s2, s3⟩, hks⟩ := set4 hb4 (.int .i64 0) (str []) (.int .i64 0) (.int .i64 0)
    have HKS := hide hks
    clear hks hkw hb4
    go_wp2_with fail
    refine bodyPost_ret (v := tokV (zeroT, X.length, 72)) (by simp [results, go_sem, s0, s1, s2, s3, tokV, TokA.v, zeroT]) rfl ?_
    exact ⟨⟨X.length, by rw [unhide HF], fun h => by rw [unhide HF] at h; exact absurd h (by decide)⟩, (unhide HK4).narrow (unhide HKS) (fun q e => by omega)⟩
end Go.Proofs.YtbgapbaeegloaabGreatDoor
