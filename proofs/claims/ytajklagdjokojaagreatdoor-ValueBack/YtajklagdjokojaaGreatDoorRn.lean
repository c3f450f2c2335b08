import Derived.Test.YtajklagdjokojaaGreatDoorRm
import Derived.RegionTactic
namespace Go.Proofs.YtajklagdjokojaaGreatDoor
open Go.RowKit Go.Maps

set_option maxRecDepth 100000 in
set_option maxHeartbeats 2000000 in
theorem parseBytes_v (t : Txt) (w : World) (hE : Env w) (ht : t.length ≤ 1099511627776) :
    Calls Tryz.prog 104 #[str t] w fun e w' => TakenP e (pvP 3 t) ∧ Keeps (fun _ => False) w w' := by
  have HKB : Hid (Keeps (fun _ => False) w (w.alloc (.cells #[.int .i64 0, .int .i64 0, str []] 50))) := (Keeps.refl _ _).alloc _
  have HQ := hide (val_unquote t (w.alloc (.cells #[.int .i64 0, .int .i64 0, str []] 50)) (hE.keepF (unhide HKB)) ht)
  have HPV : Hid (pvP 3 t = if (unquoteB t).2.2 ≠ 0 then none else some (⟨3, 0, (unquoteB t).1⟩, t.drop (unquoteB t).2.1)) := by show _ = _; unfold pvP; rw [if_neg (by omega), if_neg (by omega)]
  have hn := unquoteB_n t
  unfold unqV at HQ
  generalize unquoteB t = D at *
  obtain ⟨B, n, k⟩ := D
  simp only at HPV hn HQ
  clear hE
  rcases hn with ⟨h1, rfl⟩ | ⟨rfl, rfl⟩
  · have HP : Hid (pvP 3 t = some (⟨3, 0, B⟩, t.drop n)) := by show _ = _; rw [unhide HPV, if_neg (by simp)]
    obtain ⟨R, HR⟩ : ∃ R : Txt, Hid (t.drop n = R) := ⟨_, hide rfl⟩
    have hx : (ByteArray.mk t.toArray).extract n t.length = ⟨R.toArray⟩ := by rw [ext_str, unhide HR, List.take_of_length_le (by rw [← unhide HR]; simp)]
    rw [unhide HR] at HP
    have h1' : (n : Int) ≤ (t.length : Int) := by omega
    have h0' : (0 : Int) ≤ (n : Int) := by omega
    clear HPV
    go_enter Tryz.func104, Tryz.ntmps104
    go_wp2_with fail
    refine (unhide HQ).mono ?_
    rintro e w4 ⟨rfl, hk4⟩
    have HK4 := hide hk4
    have hb4 := cell69 hk4
    have hs := set3 hb4 (.int .i64 3) (.int .i64 0) (str B)
    have f0 := frozen_of_blk hb4 0
    have f1 := frozen_of_blk hb4 1
    have f2 := frozen_of_blk hb4 2
    have q0 : w4.cell? ⟨w.heap.size, 0, none⟩ = some (.int .i64 0) := by rw [cell_of_blk hb4]; rfl
    have q1 : w4.cell? ⟨w.heap.size, 1, none⟩ = some (.int .i64 0) := by rw [cell_of_blk hb4]; rfl
    have q2 : w4.cell? ⟨w.heap.size, 2, none⟩ = some (str []) := by rw [cell_of_blk hb4]; rfl
    obtain ⟨⟨c0, c1, c2⟩, hks⟩ := hs
    have HK5 := hide (((unhide HKB).trans (unhide HK4)).narrow (F := fun q => q = w.heap.size) hks (fun q e => by omega))
    have hlt4 := lt_of_block hb4
    clear hb4 hks hk4 HQ
    go_wp2_with fail
    go_region
    go_wp2_with fail
    refine bodyPost_ret (v := .tuple #[.agg #[.int .i64 3, .int .i64 0, str B], str R, .bool true]) (by simp [results, go_sem, c0, c1, c2]) rfl ?_
    exact ⟨TakenP.yes (x := ⟨3, 0, B⟩) (unhide HP), (unhide HK5).drew⟩
  · have HP : Hid (pvP 3 t = none) := by show _ = _; rw [unhide HPV, if_pos (by simp)]
    clear HPV
    go_enter Tryz.func104, Tryz.ntmps104
    go_wp2_with fail
    refine (unhide HQ).mono ?_
    rintro e w4 ⟨rfl, hk4⟩
    have HK4 := hide hk4
    have hb4 := cell69 hk4
    have hs := set3 hb4 (.int .i64 0) (.int .i64 0) (str [])
    have f0 := frozen_of_blk hb4 0
    have f1 := frozen_of_blk hb4 1
    have f2 := frozen_of_blk hb4 2
    have q0 : w4.cell? ⟨w.heap.size, 0, none⟩ = some (.int .i64 0) := by rw [cell_of_blk hb4]; rfl
    have q1 : w4.cell? ⟨w.heap.size, 1, none⟩ = some (.int .i64 0) := by rw [cell_of_blk hb4]; rfl
    have q2 : w4.cell? ⟨w.heap.size, 2, none⟩ = some (str []) := by rw [cell_of_blk hb4]; rfl
    obtain ⟨⟨c0, c1, c2⟩, hks⟩ := hs
    have HK5 := hide (((unhide HKB).trans (unhide HK4)).narrow (F := fun q => q = w.heap.size) hks (fun q e => by omega))
    have hlt4 := lt_of_block hb4
    clear hb4 hks hk4 HQ
    go_wp2_with fail
    refine bodyPost_ret (v := .tuple #[.agg #[.int .i64 0, .int .i64 0, str []], str [], .bool false]) (by simp [results, go_sem, c0, c1, c2]) rfl ?_
    exact ⟨TakenP.no (x := ⟨0, 0, []⟩) (r := []) (unhide HP), unhide HK5⟩

set_option maxRecDepth 100000 in
set_option maxHeartbeats 2000000 in
theorem parseValue_v (ty : Int) (hty : ty = 1 ∨ ty = 2 ∨ ty = 3) (t : Txt) (w : World) (hE : Env w) (ht : t.length ≤ 1099511627776) :
    Calls Tryz.prog 79 #[.int .i64 ty, str t] w fun e w' => TakenP e (pvP ty t) ∧ Keeps (fun _ => False) w w' := by
  have HKB : Hid (Keeps (fun _ => False) w (w.alloc (.cells #[.int .i64 0, .int .i64 0, str []] 50))) := (Keeps.refl _ _).alloc _
  have HEN := hE.keepF (unhide HKB)
  have HQ : Hid (Calls Tryz.prog (if ty = 1 then 102 else if ty = 2 then 103 else 104) #[str t] (w.alloc (.cells #[.int .i64 0, .int .i64 0, str []] 50)) fun e w' => TakenP e (pvP ty t) ∧ Keeps (fun _ => False) (w.alloc (.cells #[.int .i64 0, .int .i64 0, str []] 50)) w') := by
    rcases hty with rfl | rfl | rfl
    · exact parseInt_v t _ HEN ht
    · exact parseBool_v t _
    · exact parseBytes_v t _ HEN ht
  generalize pvP ty t = O at *
  clear hE HEN
  rcases hty with rfl | rfl | rfl
  all_goals
    simp only [if_true, if_false, show ¬ (2 : Int) = 1 by omega, show ¬ (3 : Int) = 1 by omega, show ¬ (3 : Int) = 2 by omega] at HQ
    go_enter Tryz.func79, Tryz.ntmps79
    go_wp2_with fail
    refine (unhide HQ).mono ?_
    rintro e w4 ⟨⟨x, r, ok, rfl, hok, hxr⟩, hk4⟩
    have HOK := hide hok
    have HXR := hide hxr
    have HK4 := hide hk4
    have hb4 := cell69 hk4
    have hs := set3 hb4 (.int .i64 x.kind) (.int .i64 x.n) (str x.s)
    have f0 := frozen_of_blk hb4 0
    have f1 := frozen_of_blk hb4 1
    have f2 := frozen_of_blk hb4 2
    have q0 : w4.cell? ⟨w.heap.size, 0, none⟩ = some (.int .i64 0) := by rw [cell_of_blk hb4]; rfl
    have q1 : w4.cell? ⟨w.heap.size, 1, none⟩ = some (.int .i64 0) := by rw [cell_of_blk hb4]; rfl
    have q2 : w4.cell? ⟨w.heap.size, 2, none⟩ = some (str []) := by rw [cell_of_blk hb4]; rfl
    obtain ⟨⟨c0, c1, c2⟩, hks⟩ := hs
    have HK5 := hide (((unhide HKB).trans (unhide HK4)).narrow (F := fun q => q = w.heap.size) hks (fun q e => by omega))
    have hlt4 := lt_of_block hb4
    clear hb4 hks hk4 HQ hok hxr
    go_wp2_with fail
    refine bodyPost_ret (v := .tuple #[.agg #[.int .i64 x.kind, .int .i64 x.n, str x.s], str r, .bool ok]) (by simp [results, go_sem, c0, c1, c2]) rfl ?_
    exact ⟨⟨x, r, ok, rfl, unhide HOK, unhide HXR⟩, unhide HK5⟩
end Go.Proofs.YtajklagdjokojaaGreatDoor
