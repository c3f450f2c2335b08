import Derived.Test.YtbgapbaeegloaabGreatDoorZg
import Derived.Test.YtbgapbaeegloaabGreatDoorZgm
namespace Go.Proofs.YtbgapbaeegloaabGreatDoor
open Go.RowKit Go.Maps

/-- A token's answer with its place. -/
def posP (a : Nat) (D : TokA × Nat × Int) : TokA × Nat × Int := if D.2.2 = 0 then ({ D.1 with pos := (a : Int) }, D.2.1, 0) else (zeroT, 0, D.2.2)
/-- What the reference's word answers. -/
def w7 (x : Txt) (a : Nat) : TokA × Int := if x ∈ kws then (⟨4, x, 0, (a : Int)⟩, 0) else if 8 < x.length then (zeroT, 72) else (⟨1, x, 0, (a : Int)⟩, 0)
def w7V (D : TokA × Int) : Value := .tuple #[D.1.v, .int .i64 D.2]

set_option maxRecDepth 100000 in
set_option maxHeartbeats 1000000 in
theorem word7_v (x : Txt) (hl : x.length ≤ 256) (a : Nat) (w : World) :
    Calls Tryz.prog 18 #[str x, .int .i64 a] w fun e w' => e = .returned (w7V (w7 x a)) ∧ Keeps (fun _ => False) w w' := by
  have HKW := fun w' => hide (refKeyword_v x (by omega) w')
  by_cases hk : x ∈ kws
  · rw [decide_eq_true hk] at HKW
    have HD : Hid (w7 x a = (⟨4, x, 0, (a : Int)⟩, 0)) := by show _ = _; unfold w7; rw [if_pos hk]
    rw [unhide HD]
    clear hk
    go_enter Tryz.func18, Tryz.ntmps18
    go_wp2_with fail
    refine (unhide (HKW _)).mono ?_
    rintro e w4 ⟨rfl, hw2⟩
    have hk4 : Keeps (fun _ => False) (w.alloc (.cells #[.int .i64 0, str [], .int .i64 0, .int .i64 0] 31)) w4 := by rw [hw2]; exact Keeps.refl _ _
    clear hw2
    obtain ⟨hb4, hkw⟩ := cell4 (hk4)
    have m0 := cell_of_blk hb4 0
    have m1 := cell_of_blk hb4 1
    have m2 := cell_of_blk hb4 2
    have m3 := cell_of_blk hb4 3
    simp at m0 m1 m2 m3
    have g0 := frozen_of_blk hb4 0
    have g1 := frozen_of_blk hb4 1
    have g2 := frozen_of_blk hb4 2
    have g3 := frozen_of_blk hb4 3
    have HK4 := hide hkw
    clear hk4
    obtain ⟨⟨s0, s1, s2, s3⟩, hks⟩ := set4 hb4 (.int .i64 4) (str x) (.int .i64 0) (.int .i64 (a : Int))
    have HKS := hide hks
    clear hks hkw hb4
    go_wp2_with fail
    refine bodyPost_ret (v := w7V (⟨4, x, 0, (a : Int)⟩, 0)) (by simp [results, go_sem, s0, s1, s2, s3, w7V, TokA.v]) rfl ?_
    exact ⟨rfl, (unhide HK4).narrow (unhide HKS) (fun q e => by omega)⟩
  · rw [decide_eq_false hk] at HKW
    by_cases h8 : 8 < x.length
    · have HD : Hid (w7 x a = (zeroT, 72)) := by show _ = _; unfold w7; rw [if_neg hk, if_pos h8]
      rw [unhide HD]
      have h8' : (8 : Int) < (x.length : Int) := by omega
      clear hk h8
      go_enter Tryz.func18, Tryz.ntmps18
      go_wp2_with fail
      refine (unhide (HKW _)).mono ?_
      rintro e w4 ⟨rfl, hw2⟩
      have hk4 : Keeps (fun _ => False) (w.alloc (.cells #[.int .i64 0, str [], .int .i64 0, .int .i64 0] 31)) w4 := by rw [hw2]; exact Keeps.refl _ _
      clear hw2
      obtain ⟨hb4, hkw⟩ := cell4 (hk4)
      have m0 := cell_of_blk hb4 0
      have m1 := cell_of_blk hb4 1
      have m2 := cell_of_blk hb4 2
      have m3 := cell_of_blk hb4 3
      simp at m0 m1 m2 m3
      have g0 := frozen_of_blk hb4 0
      have g1 := frozen_of_blk hb4 1
      have g2 := frozen_of_blk hb4 2
      have g3 := frozen_of_blk hb4 3
      have HK4 := hide hkw
      clear hk4
      obtain ⟨⟨s0, s1, s2, s3⟩, hks⟩ := set4 hb4 (.int .i64 0) (str []) (.int .i64 0) (.int .i64 0)
      have HKS := hide hks
      clear hks hkw hb4
      go_wp2_with fail
      refine bodyPost_ret (v := w7V (zeroT, 72)) (by simp [results, go_sem, s0, s1, s2, s3, w7V, TokA.v, zeroT]) rfl ?_
      exact ⟨rfl, (unhide HK4).narrow (unhide HKS) (fun q e => by omega)⟩
    · have HD : Hid (w7 x a = (⟨1, x, 0, (a : Int)⟩, 0)) := by show _ = _; unfold w7; rw [if_neg hk, if_neg h8]
      rw [unhide HD]
      have h8' : ¬ (8 : Int) < (x.length : Int) := by omega
      clear hk h8
      go_enter Tryz.func18, Tryz.ntmps18
      go_wp2_with fail
      refine (unhide (HKW _)).mono ?_
      rintro e w4 ⟨rfl, hw2⟩
      have hk4 : Keeps (fun _ => False) (w.alloc (.cells #[.int .i64 0, str [], .int .i64 0, .int .i64 0] 31)) w4 := by rw [hw2]; exact Keeps.refl _ _
      clear hw2
      obtain ⟨hb4, hkw⟩ := cell4 (hk4)
      have m0 := cell_of_blk hb4 0
      have m1 := cell_of_blk hb4 1
      have m2 := cell_of_blk hb4 2
      have m3 := cell_of_blk hb4 3
      simp at m0 m1 m2 m3
      have g0 := frozen_of_blk hb4 0
      have g1 := frozen_of_blk hb4 1
      have g2 := frozen_of_blk hb4 2
      have g3 := frozen_of_blk hb4 3
      have HK4 := hide hkw
      clear hk4
      obtain ⟨⟨s0, s1, s2, s3⟩, hks⟩ := set4 hb4 (.int .i64 1) (str x) (.int .i64 0) (.int .i64 (a : Int))
      have HKS := hide hks
      clear hks hkw hb4
      go_wp2_with fail
      refine bodyPost_ret (v := w7V (⟨1, x, 0, (a : Int)⟩, 0)) (by simp [results, go_sem, s0, s1, s2, s3, w7V, TokA.v]) rfl ?_
      exact ⟨rfl, (unhide HK4).narrow (unhide HKS) (fun q e => by omega)⟩

theorem name_run (x : Txt) (c : UInt8) (h0 : x[0]? = some c) (hd : digitB (num c) = false) (hp : x.all (fun c => partB (num c)) = true) (hk : x ∉ kws) : nameB x = decide (x.length ≤ 8) := by
  by_cases h8 : x.length ≤ 8
  · rw [nameB_form x c h0 h8, hd, hp, decide_eq_false hk, decide_eq_true h8]
    rfl
  · unfold nameB
    rw [decide_eq_false h8]
    simp
theorem take_run_all (T : Txt) : (T.take (runB T)).all (fun c => partB (num c)) = true := by
  unfold runB scan
  rw [List.drop_zero, Nat.zero_add]
  induction T with
  | nil => rfl
  | cons c r ih =>
    cases hc : partB (num c) with
    | false => simp [hc]
    | true => simp only [List.takeWhile_cons, hc, if_true, List.length_cons, List.take_succ_cons, List.all_cons, Bool.true_and]; exact ih
theorem w7_word (x : Txt) (a : Nat) (c : UInt8) (h0 : x[0]? = some c) (hd : digitB (num c) = false) (hp : x.all (fun c => partB (num c)) = true) :
    ((w7 x a).2 = 0 → posP a (wordP x) = ((w7 x a).1, x.length, 0)) ∧ ((w7 x a).2 ≠ 0 → (w7 x a) = (zeroT, 72) ∧ posP a (wordP x) = (zeroT, 0, 72)) := by
  unfold w7 wordP posP
  by_cases hk : x ∈ kws
  · rw [if_pos hk, if_pos hk]
    exact ⟨fun _ => rfl, fun h => absurd rfl h⟩
  · rw [if_neg hk, if_neg hk, name_run x c h0 hd hp hk]
    by_cases h8 : 8 < x.length
    · rw [if_pos h8, decide_eq_false (by omega)]
      exact ⟨fun h => by simp at h, fun _ => ⟨rfl, rfl⟩⟩
    · rw [if_neg h8, decide_eq_true (by omega)]
      exact ⟨fun _ => rfl, fun h => absurd rfl h⟩
end Go.Proofs.YtbgapbaeegloaabGreatDoor
