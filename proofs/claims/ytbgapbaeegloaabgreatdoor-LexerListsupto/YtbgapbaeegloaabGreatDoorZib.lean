import Derived.Test.YtbgapbaeegloaabGreatDoorZi
namespace Go.Proofs.YtbgapbaeegloaabGreatDoor
open Go.RowKit Go.Maps

set_option maxRecDepth 100000 in
set_option maxHeartbeats 4000000 in
theorem token7_digit (t : Txt) (i : Nat) (c : UInt8) (hx : t[i]? = some c) (hl : t.length ≤ 256) (hle : letterB (num c) = false) (hdg : digitB (num c) = true) (w : World) :
    Calls Tryz.prog 12 #[str t, .int .i64 i] w fun e w' => e = .returned (tokV (posP i (firstP c (t.drop i)))) ∧ Keeps (fun _ => False) w w' := by
  have h1 := get_lt hx
  have q := str_at hx
  have ecn : (c.toNat : Int) = num c := rfl
  have hi1 : (i : Int) < (t.length : Int) := by omega
  have hcr := num_range c
  obtain ⟨T, HT⟩ : ∃ T : Txt, Hid (t.drop i = T) := ⟨_, hide rfl⟩
  rw [unhide HT]
  have hT0 : T[0]? = some c := by rw [← unhide HT, List.getElem?_drop, Nat.add_zero]; exact hx
  have hTl : T.length = t.length - i := by rw [← unhide HT, List.length_drop]
  have HRUN := fun w' => hide (rruni_v t (by omega) i (by omega) w')
  rw [unhide HT] at HRUN
  have HLE := fun w' => hide (rletter_v (num c) w')
  have HDI := fun w' => hide (rdigit_v (num c) w')
  obtain ⟨D, HD⟩ : ∃ D, Hid (posP i (firstP c T) = D) := ⟨_, rfl⟩
  rw [unhide HD]
  rw [hle] at HLE
  rw [hdg] at HDI
  have hp := digit_part hdg
  obtain ⟨r1, r2⟩ := run_pos hT0 hp
  have hX0 : (T.take (runB T))[0]? = some c := by rw [List.getElem?_take_of_lt (by omega)]; exact hT0
  have hXl : (T.take (runB T)).length ≤ 256 := by rw [List.length_take]; omega
  have HDE : Hid (D = posP i (numP (T.take (runB T)))) := by show _ = _; rw [← unhide HD]; unfold firstP; rw [hp, hdg]; rfl
  have HQ := hide (number7_v (T.take (runB T)) c hX0 hXl (w.alloc (.cells #[.int .i64 0, str [], .int .i64 0, .int .i64 0] 31)))
  generalize T.take (runB T) = X at *
  cases hn : numB X with
  | none =>
    rw [hn] at HQ
    have HF : Hid (D = (zeroT, 0, 73)) := by show _ = _; rw [unhide HDE]; unfold numP posP; rw [hn]; rfl
    clear hle hp hdg hX0 hT0 hx HT hTl r1 r2 HD hn HDE
    go_enter Tryz.func12, Tryz.ntmps12
    go_wp2_with fail
    refine (unhide (HLE _)).mono ?_
    rintro e w1 ⟨rfl, rfl⟩
    go_wp2_with fail
    refine (unhide (HDI _)).mono ?_
    rintro e w1 ⟨rfl, rfl⟩
    go_wp2_with fail
    refine (unhide (HRUN _)).mono ?_
    rintro e w1 ⟨rfl, rfl⟩
    go_wp2_with fail
    refine (unhide HQ).mono ?_
    rintro e w4 ⟨⟨nn, rfl⟩, hk4⟩
    clear HQ HLE HRUN HDI
    obtain ⟨hb4, hkw⟩ := cell4 (hk4)
    have m0 := cell_of_blk hb4 0
    have m1 := cell_of_blk hb4 1
    have m2 := cell_of_blk hb4 2
    have m3 := cell_of_blk hb4 3
    simp at m0 m1 m2 m3
    have g0 := frozen_of_blk hb4 0
    have g1 := frozen_of_blk hb4 1
    have g2 := frozen_of_blk hb4 2
    have g3 := frozen_of_blk hb4 3
    have HK4 := hide hkw
    clear hk4
    obtain ⟨⟨s0, s1, s2, s3⟩, hks⟩ := set4 hb4 (.int .i64 0) (str []) (.int .i64 0) (.int .i64 0)
    have HKS := hide hks
    clear hks hkw hb4
    go_wp2_with fail
    refine bodyPost_ret (v := tokV (zeroT, 0, 73)) (by simp [results, go_sem, s0, s1, s2, s3, tokV, TokA.v, zeroT]) rfl ?_
    exact ⟨by rw [unhide HF], (unhide HK4).narrow (unhide HKS) (fun q e => by omega)⟩
  | some v =>
    rw [hn] at HQ
    obtain ⟨N, HN⟩ : ∃ N, Hid (IntKind.i64.wrap (v : Int) = N) := ⟨_, rfl⟩
    have HF : Hid (D = (⟨2, [], N, (i : Int)⟩, X.length, 0)) := by show _ = _; rw [unhide HDE]; unfold numP posP; rw [hn]; simp only; rw [unhide HN]; rfl
    have HQ2 : Hid (Calls Tryz.prog 20 #[str X] (w.alloc (.cells #[.int .i64 0, str [], .int .i64 0, .int .i64 0] 31)) fun e w' => e = .returned (.tuple #[.int .i64 N, .bool true]) ∧ Keeps (fun _ => False) (w.alloc (.cells #[.int .i64 0, str [], .int .i64 0, .int .i64 0] 31)) w') := by
      rw [← unhide HN]
      exact unhide HQ
    clear hle hp hdg hX0 hT0 hx HT hTl r1 r2 HD hn HDE HQ HN
    go_enter Tryz.func12, Tryz.ntmps12
    go_wp2_with fail
    refine (unhide (HLE _)).mono ?_
    rintro e w1 ⟨rfl, rfl⟩
    go_wp2_with fail
    refine (unhide (HDI _)).mono ?_
    rintro e w1 ⟨rfl, rfl⟩
    go_wp2_with fail
    refine (unhide (HRUN _)).mono ?_
    rintro e w1 ⟨rfl, rfl⟩
    go_wp2_with fail
    refine (unhide HQ2).mono ?_
    rintro e w4 ⟨rfl, hk4⟩
    clear HQ2 HLE HRUN HDI
    obtain ⟨hb4, hkw⟩ := cell4 (hk4)
    have m0 := cell_of_blk hb4 0
    have m1 := cell_of_blk hb4 1
    have m2 := cell_of_blk hb4 2
    have m3 := cell_of_blk hb4 3
    simp at m0 m1 m2 m3
    have g0 := frozen_of_blk hb4 0
    have g1 := frozen_of_blk hb4 1
    have g2 := frozen_of_blk hb4 2
    have g3 := frozen_of_blk hb4 3
    have HK4 := hide hkw
    clear hk4
    obtain ⟨⟨s0, s1, s2, s3⟩, hks⟩ := set4 hb4 (.int .i64 2) (str []) (.int .i64 N) (.int .i64 (i : Int))
    have HKS := hide hks
    clear hks hkw hb4
    go_wp2_with fail
    refine bodyPost_ret (v := tokV (⟨2, [], N, (i : Int)⟩, X.length, 0)) (by simp [results, go_sem, s0, s1, s2, s3, tokV, TokA.v]) rfl ?_
    exact ⟨by rw [unhide HF], (unhide HK4).narrow (unhide HKS) (fun q e => by omega)⟩
end Go.Proofs.YtbgapbaeegloaabGreatDoor
