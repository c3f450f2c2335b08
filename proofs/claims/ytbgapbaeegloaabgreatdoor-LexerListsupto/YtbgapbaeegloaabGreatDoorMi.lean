import Derived.Test.YtbgapbaeegloaabGreatDoorMh
namespace Go.Proofs.YtbgapbaeegloaabGreatDoor
open Go.RowKit Go.Maps

/-- The longest mark of this size or less. -/
def stepM (T : Txt) : Nat → TokA × Nat × Int
  | 0 => (zeroT, 0, 72)
  | k + 1 => if T.take (k + 1) ∈ marks then (⟨5, T.take (k + 1), 0, 0⟩, k + 1, 0) else stepM T k
theorem markP_step (T : Txt) (h : 1 ≤ T.length) : markP T = stepM T (min 2 T.length) := by
  unfold markP
  by_cases h2 : 2 ≤ T.length
  · rw [Nat.min_eq_left h2, stepM, stepM, stepM]
    by_cases hm : T.take 2 ∈ marks
    · rw [if_pos ⟨h2, hm⟩, if_pos hm]
    · rw [if_neg (fun q => hm q.2), if_neg hm]
  · rw [show min 2 T.length = 1 by omega, stepM, stepM, if_neg (fun q => h2 q.1)]

set_option maxRecDepth 100000 in
set_option maxHeartbeats 1000000 in
theorem mark_v (T : Txt) (h1 : 1 ≤ T.length) (hl : T.length ≤ 256) (w : World) :
    Calls Tryz.prog 26 #[str T] w fun e w' => e = .returned (tokV (markP T)) ∧ Keeps (fun _ => False) w w' := by
  obtain ⟨D, HD⟩ : ∃ D, Hid (markP T = D) := ⟨_, rfl⟩
  rw [unhide HD]
  have HST := hide ((unhide HD).symm.trans (markP_step T h1))
  obtain ⟨m, HM⟩ : ∃ m : Nat, Hid (min 2 T.length = m) := ⟨_, rfl⟩
  rw [unhide HM] at HST
  have hm2 : m ≤ 2 := by rw [← unhide HM]; omega
  have hmT : m ≤ T.length := by rw [← unhide HM]; omega
  have HM0 : Hid (min 2 (T.length : Int) = (m : Int)) := by
    have := unhide HM
    show _ = _
    omega
  clear HD
  go_enter Tryz.func26, Tryz.ntmps26
  go_wp2_with fail
  go_loopw [5] (fun sz wr => ∃ k : Nat, k ≤ 2 ∧ k ≤ T.length ∧ sz = .int .i64 k ∧ Hid (D = stepM T k) ∧ Keeps (fun _ => False) (w.alloc (.cells #[.int .i64 0, str [], .int .i64 0, .int .i64 0] 31)) wr) (fun sz _ => (intOf sz).toNat)
  case atStart => exact ⟨m, hm2, hmT, by rw [unhide HM0], unhide HST, Keeps.refl _ _⟩
  case round =>
    clear HST HM0 HM hm2 hmT
    obtain ⟨k, hk2, hkT, rfl, HS, hk0⟩ := hrel
    cases k with
    | zero =>
      have HE : Hid (D = (zeroT, 0, 72)) := unhide HS
      have hk4 := hk0
      clear hk0 HS
      obtain ⟨hb4, hkw⟩ := cell4 (hk4)
      have m0 := cell_of_blk hb4 0
      have m1 := cell_of_blk hb4 1
      have m2 := cell_of_blk hb4 2
      have m3 := cell_of_blk hb4 3
      simp at m0 m1 m2 m3
      have g0 := frozen_of_blk hb4 0
      have g1 := frozen_of_blk hb4 1
      have g2 := frozen_of_blk hb4 2
      have g3 := frozen_of_blk hb4 3
      have HK4 := hide hkw
      clear hk4
      obtain ⟨⟨s0, s1, s2, s3⟩, hks⟩ := set4 hb4 (.int .i64 0) (str []) (.int .i64 0) (.int .i64 0)
      have HKS := hide hks
      clear hks hkw hb4
      go_wp2_with fail
      refine bodyPost_ret (v := tokV (zeroT, 0, 72)) (by simp [results, go_sem, s0, s1, s2, s3, tokV, TokA.v, zeroT]) rfl ?_
      exact ⟨by rw [unhide HE], (unhide HK4).narrow (unhide HKS) (fun q e => by omega)⟩
    | succ j =>
      have hx : (ByteArray.mk T.toArray).extract 0 (j + 1) = ⟨(T.take (j + 1)).toArray⟩ := by rw [ext_str, List.drop_zero, Nat.sub_zero]
      have HLJ : Hid ((T.take (j + 1)).length = j + 1) := by show _ = _; rw [List.length_take]; omega
      have HQ := hide (isMark_v (T.take (j + 1)) wr)
      have HSP := fun w' => hide (spelt_v 5 (T.take (j + 1)) (by rw [unhide HLJ]; omega) w')
      unfold tokV TokA.v at HSP
      simp only [unhide HLJ] at HSP
      rw [stepM] at HS
      have hjT : (j : Int) + 1 ≤ (T.length : Int) := by omega
      have hjp : (0 : Int) < (j : Int) + 1 := by omega
      by_cases hm : T.take (j + 1) ∈ marks
      · rw [decide_eq_true hm] at HQ
        have HE : Hid (D = (⟨5, T.take (j + 1), 0, 0⟩, j + 1, 0)) := by show _ = _; rw [unhide HS, if_pos hm]
        generalize T.take (j + 1) = A at *
        have HK0 := hide hk0
        clear hm HS HLJ hk0
        go_wp2_with fail
        refine (unhide HQ).mono ?_
        rintro e w1 ⟨rfl, rfl⟩
        go_wp2_with fail
        refine (unhide (HSP _)).mono ?_
        rintro e w4 ⟨rfl, hk9⟩
        have hk4 := (unhide HK0).trans hk9
        clear hk9 HQ HSP
        obtain ⟨hb4, hkw⟩ := cell4 (hk4)
        have m0 := cell_of_blk hb4 0
        have m1 := cell_of_blk hb4 1
        have m2 := cell_of_blk hb4 2
        have m3 := cell_of_blk hb4 3
        simp at m0 m1 m2 m3
        have g0 := frozen_of_blk hb4 0
        have g1 := frozen_of_blk hb4 1
        have g2 := frozen_of_blk hb4 2
        have g3 := frozen_of_blk hb4 3
        have HK4 := hide hkw
        clear hk4
        obtain ⟨⟨s0, s1, s2, s3⟩, hks⟩ := set4 hb4 (.int .i64 5) (str A) (.int .i64 0) (.int .i64 0)
        have HKS := hide hks
        clear hks hkw hb4
        go_wp2_with fail
        refine bodyPost_ret (v := tokV (⟨5, A, 0, 0⟩, j + 1, 0)) (by simp [results, go_sem, s0, s1, s2, s3, tokV, TokA.v]) rfl ?_
        exact ⟨by rw [unhide HE], (unhide HK4).narrow (unhide HKS) (fun q e => by omega)⟩
      · rw [decide_eq_false hm] at HQ
        have HE : Hid (D = stepM T j) := by show _ = _; rw [unhide HS, if_neg hm]
        generalize T.take (j + 1) = A at *
        have HK0 := hide hk0
        clear hm HS HLJ hk0 HSP
        go_wp2_with fail
        refine (unhide HQ).mono ?_
        rintro e w1 ⟨rfl, rfl⟩
        go_wp2_with fail
        go_roundw
        case rel => exact ⟨j, by omega, by omega, by go_num, unhide HE, unhide HK0⟩
        case measure => simp [intOf]

theorem run_zero {T : Txt} {c : UInt8} (h0 : T[0]? = some c) (hp : partB (num c) = false) : runB T = 0 := by
  unfold runB
  exact scan_stop h0 hp
theorem run_pos {T : Txt} {c : UInt8} (h0 : T[0]? = some c) (hp : partB (num c) = true) : 1 ≤ runB T ∧ runB T ≤ T.length := by
  unfold runB
  have h := scan_go (p := fun c => partB (num c)) h0 hp
  have h2 := scan_ge T (fun c => partB (num c)) 1
  have h3 := scan_le T (fun c => partB (num c)) 0 (by omega)
  rw [h] at h3 ⊢
  exact ⟨h2, h3⟩

set_option maxRecDepth 100000 in
set_option maxHeartbeats 1000000 in
theorem first_v (T : Txt) (c : UInt8) (h0 : T[0]? = some c) (hl : T.length ≤ 256) (w : World) (hE : Env w) :
    Calls Tryz.prog 14 #[str T] w fun e w' => e = .returned (tokV (firstP c T)) ∧ Keeps (fun _ => False) w w' := by
  have h1 := get_lt h0
  have hEa : Env (w.alloc (.cells #[.int .i64 0, str [], .int .i64 0, .int .i64 0] 31)) := hE.keepF ((Keeps.refl _ _).alloc _)
  have HR := fun w' => hide (run_v T (by omega) w')
  obtain ⟨D, HD⟩ : ∃ D, Hid (firstP c T = D) := ⟨_, rfl⟩
  rw [unhide HD]
  have q := str_at h0
  have ecn : (c.toNat : Int) = num c := rfl
  cases hp : partB (num c) with
  | false =>
    have hrz := run_zero h0 hp
    rw [hrz] at HR
    have hx : (ByteArray.mk T.toArray).extract 0 0 = ⟨([] : Txt).toArray⟩ := by rw [ext_str]; rfl
    by_cases h34 : c = 34
    · have HDE : Hid (D = litP T) := by show _ = _; rw [← unhide HD]; unfold firstP; rw [hp, if_pos h34]; rfl
      have HQ := hide (literal_v T hl _ hEa)
      have hc : num c = 34 := by rw [h34]; rfl
      rw [hc] at ecn
      generalize litP T = L at *
      obtain ⟨⟨k, tx, n, ps⟩, tk, er⟩ := L
      unfold tokV TokA.v at HQ
      simp only at HQ
      clear hp h34 hEa hE h0 hrz
      go_enter Tryz.func14, Tryz.ntmps14
      go_wp2_with fail
      refine (unhide (HR _)).mono ?_
      rintro e w1 ⟨rfl, rfl⟩
      go_wp2_with fail
      refine (unhide HQ).mono ?_
      rintro e w4 ⟨rfl, hk4⟩
      clear HQ HR
      obtain ⟨hb4, hkw⟩ := cell4 (hk4)
      have m0 := cell_of_blk hb4 0
      have m1 := cell_of_blk hb4 1
      have m2 := cell_of_blk hb4 2
      have m3 := cell_of_blk hb4 3
      simp at m0 m1 m2 m3
      have g0 := frozen_of_blk hb4 0
      have g1 := frozen_of_blk hb4 1
      have g2 := frozen_of_blk hb4 2
      have g3 := frozen_of_blk hb4 3
      have HK4 := hide hkw
      clear hk4
      obtain ⟨⟨s0, s1, s2, s3⟩, hks⟩ := set4 hb4 (.int .i64 k) (str tx) (.int .i64 n) (.int .i64 ps)
      have HKS := hide hks
      clear hks hkw hb4
      go_wp2_with fail
      refine bodyPost_ret (v := tokV (⟨k, tx, n, ps⟩, tk, er)) (by simp [results, go_sem, s0, s1, s2, s3, tokV, TokA.v]) rfl ?_
      exact ⟨by rw [unhide HDE], (unhide HK4).narrow (unhide HKS) (fun q e => by omega)⟩
    · have HDE : Hid (D = markP T) := by show _ = _; rw [← unhide HD]; unfold firstP; rw [hp, if_neg h34]; rfl
      have HQ := hide (mark_v T h1 hl (w.alloc (.cells #[.int .i64 0, str [], .int .i64 0, .int .i64 0] 31)))
      have hc : (num c == 34) = false := by
        have : num c ≠ 34 := fun e => h34 (num_inj (a := c) (b := 34) e)
        simpa using this
      generalize markP T = L at *
      obtain ⟨⟨k, tx, n, ps⟩, tk, er⟩ := L
      unfold tokV TokA.v at HQ
      simp only at HQ
      clear hp h34 hEa hE h0 hrz
      go_enter Tryz.func14, Tryz.ntmps14
      go_wp2_with fail
      refine (unhide (HR _)).mono ?_
      rintro e w1 ⟨rfl, rfl⟩
      go_wp2_with fail
      refine (unhide HQ).mono ?_
      rintro e w4 ⟨rfl, hk4⟩
      clear HQ HR
      obtain ⟨hb4, hkw⟩ := cell4 (hk4)
      have m0 := cell_of_blk hb4 0
      have m1 := cell_of_blk hb4 1
      have m2 := cell_of_blk hb4 2
      have m3 := cell_of_blk hb4 3
      simp at m0 m1 m2 m3
      have g0 := frozen_of_blk hb4 0
      have g1 := frozen_of_blk hb4 1
      have g2 := frozen_of_blk hb4 2
      have g3 := frozen_of_blk hb4 3
      have HK4 := hide hkw
      clear hk4
      obtain ⟨⟨s0, s1, s2, s3⟩, hks⟩ := set4 hb4 (.int .i64 k) (str tx) (.int .i64 n) (.int .i64 ps)
      have HKS := hide hks
      clear hks hkw hb4
      go_wp2_with fail
      refine bodyPost_ret (v := tokV (⟨k, tx, n, ps⟩, tk, er)) (by simp [results, go_sem, s0, s1, s2, s3, tokV, TokA.v]) rfl ?_
      exact ⟨by rw [unhide HDE], (unhide HK4).narrow (unhide HKS) (fun q e => by omega)⟩
  | true =>
    obtain ⟨hr1, hr2⟩ := run_pos h0 hp
    obtain ⟨r, HRR⟩ : ∃ r, Hid (runB T = r) := ⟨_, rfl⟩
    rw [unhide HRR] at HR hr1 hr2
    have hx : (ByteArray.mk T.toArray).extract 0 r = ⟨(T.take r).toArray⟩ := by rw [ext_str, List.drop_zero, Nat.sub_zero]
    have hA0 : (T.take r)[0]? = some c := by rw [List.getElem?_take_of_lt (by omega)]; exact h0
    have hAl : (T.take r).length ≤ 256 := by rw [List.length_take]; omega
    have hAe : ((T.take r) == ([] : Txt)) = false := by
      cases hT : T.take r with
      | nil => rw [hT] at hA0; simp at hA0
      | cons a b => rfl
    have qA := str_at hA0
    have hA1 := get_lt hA0
    have hrT : (r : Int) ≤ (T.length : Int) := by omega
    cases hd : digitB (num c) with
    | true =>
      have HDE : Hid (D = numP (T.take r)) := by show _ = _; rw [← unhide HD, ← unhide HRR]; unfold firstP; rw [hp, hd]; rfl
      have HQ := hide (number_v (T.take r) c hA0 hAl _ hEa)
      have hd1 : 48 ≤ num c ∧ num c ≤ 57 := by
        unfold digitB at hd
        simpa using hd
      have hda := hd1.1
      have hdb := hd1.2
      generalize T.take r = A at *
      generalize numP A = L at *
      obtain ⟨⟨k, tx, n, ps⟩, tk, er⟩ := L
      unfold tokV TokA.v at HQ
      simp only at HQ
      clear hp hd hd1 hEa hE h0 hA0 HRR
      go_enter Tryz.func14, Tryz.ntmps14
      go_wp2_with fail
      refine (unhide (HR _)).mono ?_
      rintro e w1 ⟨rfl, rfl⟩
      go_wp2_with fail
      refine (unhide HQ).mono ?_
      rintro e w4 ⟨rfl, hk4⟩
      clear HQ HR
      obtain ⟨hb4, hkw⟩ := cell4 (hk4)
      have m0 := cell_of_blk hb4 0
      have m1 := cell_of_blk hb4 1
      have m2 := cell_of_blk hb4 2
      have m3 := cell_of_blk hb4 3
      simp at m0 m1 m2 m3
      have g0 := frozen_of_blk hb4 0
      have g1 := frozen_of_blk hb4 1
      have g2 := frozen_of_blk hb4 2
      have g3 := frozen_of_blk hb4 3
      have HK4 := hide hkw
      clear hk4
      obtain ⟨⟨s0, s1, s2, s3⟩, hks⟩ := set4 hb4 (.int .i64 k) (str tx) (.int .i64 n) (.int .i64 ps)
      have HKS := hide hks
      clear hks hkw hb4
      go_wp2_with fail
      refine bodyPost_ret (v := tokV (⟨k, tx, n, ps⟩, tk, er)) (by simp [results, go_sem, s0, s1, s2, s3, tokV, TokA.v]) rfl ?_
      exact ⟨by rw [unhide HDE], (unhide HK4).narrow (unhide HKS) (fun q e => by omega)⟩
    | false =>
      have HDE : Hid (D = wordP (T.take r)) := by show _ = _; rw [← unhide HD, ← unhide HRR]; unfold firstP; rw [hp, hd]; rfl
      have HQ := hide (word_v (T.take r) hAl (w.alloc (.cells #[.int .i64 0, str [], .int .i64 0, .int .i64 0] 31)))
      have hd1 : num c < 48 ∨ 57 < num c := by
        unfold digitB at hd
        simp at hd
        omega
      generalize T.take r = A at *
      generalize wordP A = L at *
      obtain ⟨⟨k, tx, n, ps⟩, tk, er⟩ := L
      unfold tokV TokA.v at HQ
      simp only at HQ
      clear hp hd hEa hE h0 hA0 HRR
      rcases hd1 with hd1 | hd1
      · go_enter Tryz.func14, Tryz.ntmps14
        go_wp2_with fail
        refine (unhide (HR _)).mono ?_
        rintro e w1 ⟨rfl, rfl⟩
        go_wp2_with fail
        refine (unhide HQ).mono ?_
        rintro e w4 ⟨rfl, hk4⟩
        clear HQ HR
        obtain ⟨hb4, hkw⟩ := cell4 (hk4)
        have m0 := cell_of_blk hb4 0
        have m1 := cell_of_blk hb4 1
        have m2 := cell_of_blk hb4 2
        have m3 := cell_of_blk hb4 3
        simp at m0 m1 m2 m3
        have g0 := frozen_of_blk hb4 0
        have g1 := frozen_of_blk hb4 1
        have g2 := frozen_of_blk hb4 2
        have g3 := frozen_of_blk hb4 3
        have HK4 := hide hkw
        clear hk4
        obtain ⟨⟨s0, s1, s2, s3⟩, hks⟩ := set4 hb4 (.int .i64 k) (str tx) (.int .i64 n) (.int .i64 ps)
        have HKS := hide hks
        clear hks hkw hb4
        go_wp2_with fail
        refine bodyPost_ret (v := tokV (⟨k, tx, n, ps⟩, tk, er)) (by simp [results, go_sem, s0, s1, s2, s3, tokV, TokA.v]) rfl ?_
        exact ⟨by rw [unhide HDE], (unhide HK4).narrow (unhide HKS) (fun q e => by omega)⟩
      · have hd2 : 48 ≤ num c := by omega
        go_enter Tryz.func14, Tryz.ntmps14
        go_wp2_with fail
        refine (unhide (HR _)).mono ?_
        rintro e w1 ⟨rfl, rfl⟩
        go_wp2_with fail
        refine (unhide HQ).mono ?_
        rintro e w4 ⟨rfl, hk4⟩
        clear HQ HR
        obtain ⟨hb4, hkw⟩ := cell4 (hk4)
        have m0 := cell_of_blk hb4 0
        have m1 := cell_of_blk hb4 1
        have m2 := cell_of_blk hb4 2
        have m3 := cell_of_blk hb4 3
        simp at m0 m1 m2 m3
        have g0 := frozen_of_blk hb4 0
        have g1 := frozen_of_blk hb4 1
        have g2 := frozen_of_blk hb4 2
        have g3 := frozen_of_blk hb4 3
        have HK4 := hide hkw
        clear hk4
        obtain ⟨⟨s0, s1, s2, s3⟩, hks⟩ := set4 hb4 (.int .i64 k) (str tx) (.int .i64 n) (.int .i64 ps)
        have HKS := hide hks
        clear hks hkw hb4
        go_wp2_with fail
        refine bodyPost_ret (v := tokV (⟨k, tx, n, ps⟩, tk, er)) (by simp [results, go_sem, s0, s1, s2, s3, tokV, TokA.v]) rfl ?_
        exact ⟨by rw [unhide HDE], (unhide HK4).narrow (unhide HKS) (fun q e => by omega)⟩
end Go.Proofs.YtbgapbaeegloaabGreatDoor
