import Derived.Test.YtbgapbaeegloaabGreatDoorMg
import Derived.Test.YtbgapbaeegloaabGreatDoorMf
namespace Go.Proofs.YtbgapbaeegloaabGreatDoor
open Go.RowKit Go.Maps


theorem wrap64_i64 (x : Int) : wrap64 x = IntKind.i64.wrap x := by rw [IntKind.wrap_i64]; unfold wrap64; rfl
set_option maxRecDepth 100000 in
theorem word_v (x : Txt) (hl : x.length ≤ 256) (w : World) :
    Calls Tryz.prog 28 #[str x] w fun e w' => e = .returned (tokV (wordP x)) ∧ Keeps (fun _ => False) w w' := by
  have HQ4 := fun w' => hide (spelt_v 4 x hl w')
  have HQ1 := fun w' => hide (spelt_v 1 x hl w')
  unfold tokV TokA.v at HQ4 HQ1
  simp only at HQ4 HQ1
  have HKW := fun w' => hide (keyword_v x w')
  have HNM := fun w' => hide (name_v x w')
  by_cases hk : x ∈ kws
  · rw [decide_eq_true hk] at HKW
    have HD : Hid (wordP x = (⟨4, x, 0, 0⟩, x.length, 0)) := by show _ = _; unfold wordP; rw [if_pos hk]
    rw [unhide HD]
    clear hk
    go_enter Tryz.func28, Tryz.ntmps28
    go_wp2_with fail
    refine (unhide (HKW _)).mono ?_
    rintro e w1 ⟨rfl, rfl⟩
    go_wp2_with fail
    refine (unhide (HQ4 _)).mono ?_
    rintro e w4 ⟨rfl, hk4⟩
    obtain ⟨hb4, hkw⟩ := cell4 (hk4)
    have m0 := cell_of_blk hb4 0
    have m1 := cell_of_blk hb4 1
    have m2 := cell_of_blk hb4 2
    have m3 := cell_of_blk hb4 3
    simp at m0 m1 m2 m3
    have g0 := frozen_of_blk hb4 0
    have g1 := frozen_of_blk hb4 1
    have g2 := frozen_of_blk hb4 2
    have g3 := frozen_of_blk hb4 3
    have HK4 := hide hkw
    clear hk4
    obtain ⟨⟨s0, s1, s2, s3⟩, hks⟩ := set4 hb4 (.int .i64 4) (str x) (.int .i64 0) (.int .i64 0)
    have HKS := hide hks
    clear hks hkw hb4
    go_wp2_with fail
    refine bodyPost_ret (v := tokV (⟨4, x, 0, 0⟩, x.length, 0)) (by simp [results, go_sem, s0, s1, s2, s3, tokV, TokA.v]) rfl ?_
    exact ⟨rfl, (unhide HK4).narrow (unhide HKS) (fun q e => by omega)⟩
  · rw [decide_eq_false hk] at HKW
    cases hn : nameB x with
    | true =>
      rw [hn] at HNM
      have HD : Hid (wordP x = (⟨1, x, 0, 0⟩, x.length, 0)) := by show _ = _; unfold wordP; rw [if_neg hk, if_pos hn]
      rw [unhide HD]
      clear hk hn
      go_enter Tryz.func28, Tryz.ntmps28
      go_wp2_with fail
      refine (unhide (HKW _)).mono ?_
      rintro e w1 ⟨rfl, rfl⟩
      go_wp2_with fail
      refine (unhide (HNM _)).mono ?_
      rintro e w2 ⟨rfl, rfl⟩
      go_wp2_with fail
      refine (unhide (HQ1 _)).mono ?_
      rintro e w4 ⟨rfl, hk4⟩
      obtain ⟨hb4, hkw⟩ := cell4 (hk4)
      have m0 := cell_of_blk hb4 0
      have m1 := cell_of_blk hb4 1
      have m2 := cell_of_blk hb4 2
      have m3 := cell_of_blk hb4 3
      simp at m0 m1 m2 m3
      have g0 := frozen_of_blk hb4 0
      have g1 := frozen_of_blk hb4 1
      have g2 := frozen_of_blk hb4 2
      have g3 := frozen_of_blk hb4 3
      have HK4 := hide hkw
      clear hk4
      obtain ⟨⟨s0, s1, s2, s3⟩, hks⟩ := set4 hb4 (.int .i64 1) (str x) (.int .i64 0) (.int .i64 0)
      have HKS := hide hks
      clear hks hkw hb4
      go_wp2_with fail
      refine bodyPost_ret (v := tokV (⟨1, x, 0, 0⟩, x.length, 0)) (by simp [results, go_sem, s0, s1, s2, s3, tokV, TokA.v]) rfl ?_
      exact ⟨rfl, (unhide HK4).narrow (unhide HKS) (fun q e => by omega)⟩
    | false =>
      rw [hn] at HNM
      have HD : Hid (wordP x = (zeroT, 0, 72)) := by show _ = _; unfold wordP; rw [if_neg hk, hn]; rfl
      rw [unhide HD]
      clear hk hn
      go_enter Tryz.func28, Tryz.ntmps28
      go_wp2_with fail
      refine (unhide (HKW _)).mono ?_
      rintro e w1 ⟨rfl, rfl⟩
      go_wp2_with fail
      refine (unhide (HNM _)).mono ?_
      rintro e w2 ⟨rfl, hw2⟩
      have hk4 : Keeps (fun _ => False) (w.alloc (.cells #[.int .i64 0, str [], .int .i64 0, .int .i64 0] 31)) w2 := by rw [hw2]; exact Keeps.refl _ _
      clear hw2
      obtain ⟨hb4, hkw⟩ := cell4 (hk4)
      have m0 := cell_of_blk hb4 0
      have m1 := cell_of_blk hb4 1
      have m2 := cell_of_blk hb4 2
      have m3 := cell_of_blk hb4 3
      simp at m0 m1 m2 m3
      have g0 := frozen_of_blk hb4 0
      have g1 := frozen_of_blk hb4 1
      have g2 := frozen_of_blk hb4 2
      have g3 := frozen_of_blk hb4 3
      have HK4 := hide hkw
      clear hk4
      obtain ⟨⟨s0, s1, s2, s3⟩, hks⟩ := set4 hb4 (.int .i64 0) (str []) (.int .i64 0) (.int .i64 0)
      have HKS := hide hks
      clear hks hkw hb4
      go_wp2_with fail
      refine bodyPost_ret (v := tokV (zeroT, 0, 72)) (by simp [results, go_sem, s0, s1, s2, s3, tokV, TokA.v, zeroT]) rfl ?_
      exact ⟨rfl, (unhide HK4).narrow (unhide HKS) (fun q e => by omega)⟩

set_option maxRecDepth 100000 in
theorem number_v (x : Txt) (c : UInt8) (hx0 : x[0]? = some c) (hl : x.length ≤ 256) (w : World) (hE : Env w) :
    Calls Tryz.prog 27 #[str x] w fun e w' => e = .returned (tokV (numP x)) ∧ Keeps (fun _ => False) w w' := by
  have HQ := hide (valueOf_v x c hx0 hl (w.alloc (.cells #[.int .i64 0, str [], .int .i64 0, .int .i64 0] 31)) (hE.keepF ((Keeps.refl _ _).alloc _)))
  cases hn : numB x with
  | none =>
    rw [hn] at HQ
    have HD : Hid (numP x = (zeroT, 0, 73)) := by show _ = _; unfold numP; rw [hn]
    rw [unhide HD]
    clear hn hx0 hE
    go_enter Tryz.func27, Tryz.ntmps27
    go_wp2_with fail
    refine (unhide HQ).mono ?_
    rintro e w4 ⟨⟨n, rfl⟩, hk4⟩
    clear HQ
    obtain ⟨hb4, hkw⟩ := cell4 (hk4)
    have m0 := cell_of_blk hb4 0
    have m1 := cell_of_blk hb4 1
    have m2 := cell_of_blk hb4 2
    have m3 := cell_of_blk hb4 3
    simp at m0 m1 m2 m3
    have g0 := frozen_of_blk hb4 0
    have g1 := frozen_of_blk hb4 1
    have g2 := frozen_of_blk hb4 2
    have g3 := frozen_of_blk hb4 3
    have HK4 := hide hkw
    clear hk4
    obtain ⟨⟨s0, s1, s2, s3⟩, hks⟩ := set4 hb4 (.int .i64 0) (str []) (.int .i64 0) (.int .i64 0)
    have HKS := hide hks
    clear hks hkw hb4
    go_wp2_with fail
    refine bodyPost_ret (v := tokV (zeroT, 0, 73)) (by simp [results, go_sem, s0, s1, s2, s3, tokV, TokA.v, zeroT]) rfl ?_
    exact ⟨rfl, (unhide HK4).narrow (unhide HKS) (fun q e => by omega)⟩
  | some v =>
    rw [hn] at HQ
    have HD : Hid (numP x = (⟨2, [], IntKind.i64.wrap v, 0⟩, x.length, 0)) := by show _ = _; unfold numP; rw [hn]
    rw [unhide HD]
    obtain ⟨N, HN⟩ : ∃ N, Hid (IntKind.i64.wrap (v : Int) = N) := ⟨_, rfl⟩
    rw [unhide HN]
    clear hn hx0 hE HD
    go_enter Tryz.func27, Tryz.ntmps27
    go_wp2_with fail
    refine (unhide HQ).mono ?_
    rintro e w4 ⟨he, hk4⟩
    obtain rfl := he
    clear HQ
    obtain ⟨hb4, hkw⟩ := cell4 (hk4)
    have m0 := cell_of_blk hb4 0
    have m1 := cell_of_blk hb4 1
    have m2 := cell_of_blk hb4 2
    have m3 := cell_of_blk hb4 3
    simp at m0 m1 m2 m3
    have g0 := frozen_of_blk hb4 0
    have g1 := frozen_of_blk hb4 1
    have g2 := frozen_of_blk hb4 2
    have g3 := frozen_of_blk hb4 3
    have HK4 := hide hkw
    clear hk4
    obtain ⟨⟨s0, s1, s2, s3⟩, hks⟩ := set4 hb4 (.int .i64 2) (str []) (.int .i64 N) (.int .i64 0)
    have HKS := hide hks
    clear hks hkw hb4
    go_wp2_with fail
    rw [wrap64_i64, unhide HN]
    refine bodyPost_ret (v := tokV (⟨2, [], N, 0⟩, x.length, 0)) (by simp [results, go_sem, s0, s1, s2, s3, tokV, TokA.v]) rfl ?_
    exact ⟨rfl, (unhide HK4).narrow (unhide HKS) (fun q e => by omega)⟩

theorem unqLoop_n {f : Nat} : ∀ {t b : Txt} {a : Nat} {r : Txt × Nat}, unqLoop f t b a = some r → r.2 ≤ t.length := by
  induction f with
  | zero => intro t b a r h; simp [unqLoop] at h
  | succ f ih =>
    intro t b a r h
    rw [unqLoop] at h
    split at h
    · cases hx : t[a]? with
      | none => rw [hx] at h; simp at h
      | some c =>
        rw [hx] at h
        simp only at h
        split at h
        · have := get_lt hx
          simp at h
          rw [← h]
          simp only
          omega
        · split at h
          · simp at h
          · exact ih h
    · simp at h
theorem unquoteB_n (t : Txt) : (unquoteB t).2.1 ≤ t.length ∧ (unquoteB t).2.2 = 0 ∨ (unquoteB t).2.1 = 0 ∧ (unquoteB t).2.2 = 63 := by
  unfold unquoteB
  split
  · cases h : unqLoop t.length t [] 1 with
    | none => exact .inr ⟨rfl, rfl⟩
    | some r => exact .inl ⟨unqLoop_n h, rfl⟩
  · exact .inr ⟨rfl, rfl⟩

set_option maxRecDepth 100000 in
theorem literal_v (T : Txt) (hl : T.length ≤ 256) (w : World) (hE : Env w) :
    Calls Tryz.prog 25 #[str T] w fun e w' => e = .returned (tokV (litP T)) ∧ Keeps (fun _ => False) w w' := by
  have HQ := hide (val_unquote T (w.alloc (.cells #[.int .i64 0, str [], .int .i64 0, .int .i64 0] 31)) (hE.keepF ((Keeps.refl _ _).alloc _)) (by omega))
  unfold unqV at HQ
  have hun := unquoteB_n T
  unfold litP
  generalize unquoteB T = q at *
  obtain ⟨qs, qn, qe⟩ := q
  simp only at HQ hun ⊢
  clear hE
  rcases hun with ⟨hn, rfl⟩ | ⟨rfl, rfl⟩
  · rw [if_pos rfl]
    go_enter Tryz.func25, Tryz.ntmps25
    go_wp2_with fail
    refine (unhide HQ).mono ?_
    rintro e w4 ⟨rfl, hk4⟩
    clear HQ
    obtain ⟨hb4, hkw⟩ := cell4 (hk4)
    have m0 := cell_of_blk hb4 0
    have m1 := cell_of_blk hb4 1
    have m2 := cell_of_blk hb4 2
    have m3 := cell_of_blk hb4 3
    simp at m0 m1 m2 m3
    have g0 := frozen_of_blk hb4 0
    have g1 := frozen_of_blk hb4 1
    have g2 := frozen_of_blk hb4 2
    have g3 := frozen_of_blk hb4 3
    have HK4 := hide hkw
    clear hk4
    obtain ⟨⟨s0, s1, s2, s3⟩, hks⟩ := set4 hb4 (.int .i64 3) (str qs) (.int .i64 0) (.int .i64 0)
    have HKS := hide hks
    clear hks hkw hb4
    go_wp2_with fail
    refine bodyPost_ret (v := tokV (⟨3, qs, 0, 0⟩, qn, 0)) (by simp [results, go_sem, s0, s1, s2, s3, tokV, TokA.v]) rfl ?_
    exact ⟨rfl, (unhide HK4).narrow (unhide HKS) (fun q e => by omega)⟩
  · rw [if_neg (by decide)]
    go_enter Tryz.func25, Tryz.ntmps25
    go_wp2_with fail
    refine (unhide HQ).mono ?_
    rintro e w4 ⟨rfl, hk4⟩
    clear HQ
    obtain ⟨hb4, hkw⟩ := cell4 (hk4)
    have m0 := cell_of_blk hb4 0
    have m1 := cell_of_blk hb4 1
    have m2 := cell_of_blk hb4 2
    have m3 := cell_of_blk hb4 3
    simp at m0 m1 m2 m3
    have g0 := frozen_of_blk hb4 0
    have g1 := frozen_of_blk hb4 1
    have g2 := frozen_of_blk hb4 2
    have g3 := frozen_of_blk hb4 3
    have HK4 := hide hkw
    clear hk4
    obtain ⟨⟨s0, s1, s2, s3⟩, hks⟩ := set4 hb4 (.int .i64 0) (str []) (.int .i64 0) (.int .i64 0)
    have HKS := hide hks
    clear hks hkw hb4
    go_wp2_with fail
    refine bodyPost_ret (v := tokV (zeroT, 0, 74)) (by simp [results, go_sem, s0, s1, s2, s3, tokV, TokA.v, zeroT]) rfl ?_
    exact ⟨rfl, (unhide HK4).narrow (unhide HKS) (fun q e => by omega)⟩
end Go.Proofs.YtbgapbaeegloaabGreatDoor
