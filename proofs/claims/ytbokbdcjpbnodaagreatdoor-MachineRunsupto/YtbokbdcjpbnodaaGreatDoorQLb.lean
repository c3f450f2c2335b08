import Derived.Test.YtbokbdcjpbnodaaGreatDoorQLa
import Derived.Test.YtbokbdcjpbnodaaGreatDoorQJt
namespace Go.Proofs.YtbokbdcjpbnodaaGreatDoor
open Go.RowKit Go.Maps
set_option maxRecDepth 100000
set_option maxHeartbeats 2000000
theorem joins10_v (a b : ValA) (w : World) : Calls Tryz.prog 102 #[.int .i64 10, a.v, b.v] w fun e w' => e = .returned (.tuple #[(twoV 10 a b).v, .bool true]) ∧ Keeps (fun _ => False) w w' := by
 have HKA := hide (((kAlloc w (.cells #[.int .i64 a.kind, .int .i64 a.n, str a.s] 74)).alloc (.cells #[.int .i64 b.kind, .int .i64 b.n, str b.s] 74)).alloc (.cells #[.int .i64 0, .int .i64 0, .string ⟨#[]⟩] 74))
 have hX := heap_alloc_new ((w.alloc (.cells #[.int .i64 a.kind, .int .i64 a.n, str a.s] 74)).alloc (.cells #[.int .i64 b.kind, .int .i64 b.n, str b.s] 74)) (.cells #[.int .i64 0, .int .i64 0, .string ⟨#[]⟩] 74)
 rw [show ((w.alloc (.cells #[.int .i64 a.kind, .int .i64 a.n, str a.s] 74)).alloc (.cells #[.int .i64 b.kind, .int .i64 b.n, str b.s] 74)).heap.size = w.heap.size + 1 + 1 by simp] at hX
 have HX := hide hX
 clear hX
 rw [show twoV 10 a b = numV (wrap64 (a.n + b.n)) from rfl]
 rw [show a.v = .agg #[.int .i64 a.kind, .int .i64 a.n, str a.s] from rfl, show b.v = .agg #[.int .i64 b.kind, .int .i64 b.n, str b.s] from rfl] at *
 go_enter Tryz.func102, Tryz.ntmps102
 go_wp2_with fail
 refine (numR_v _ _).mono ?_
 rintro e w1 ⟨rfl, hk1⟩
 generalize hx : numV (wrap64 (a.n + b.n)) = x at *
 have HXE := hide hx
 clear hx
 obtain ⟨z0, z1, z2, y0, y1, y2, s0, s1, s2⟩ := res_facts (uh HX) hk1 x
 have HK := hide (((uh HKA).trans hk1).fresh (by omega) (keeps_set3 w1 (w.heap.size + 1 + 1) (.int .i64 x.kind) (.int .i64 x.n) (str x.s)))
 unfold ValA.v
 clear hk1
 go_wp2_with fail
 refine bodyPost_ret (v := .tuple #[.agg #[.int .i64 x.kind, .int .i64 x.n, str x.s], .bool true]) (by simp [results, go_sem, s0, s1, s2]) rfl ?_
 exact ⟨by rw [uh HXE]; rfl, uh HK⟩
theorem joins11_v (a b : ValA) (w : World) : Calls Tryz.prog 102 #[.int .i64 11, a.v, b.v] w fun e w' => e = .returned (.tuple #[(twoV 11 a b).v, .bool true]) ∧ Keeps (fun _ => False) w w' := by
 have HKA := hide (((kAlloc w (.cells #[.int .i64 a.kind, .int .i64 a.n, str a.s] 74)).alloc (.cells #[.int .i64 b.kind, .int .i64 b.n, str b.s] 74)).alloc (.cells #[.int .i64 0, .int .i64 0, .string ⟨#[]⟩] 74))
 have hX := heap_alloc_new ((w.alloc (.cells #[.int .i64 a.kind, .int .i64 a.n, str a.s] 74)).alloc (.cells #[.int .i64 b.kind, .int .i64 b.n, str b.s] 74)) (.cells #[.int .i64 0, .int .i64 0, .string ⟨#[]⟩] 74)
 rw [show ((w.alloc (.cells #[.int .i64 a.kind, .int .i64 a.n, str a.s] 74)).alloc (.cells #[.int .i64 b.kind, .int .i64 b.n, str b.s] 74)).heap.size = w.heap.size + 1 + 1 by simp] at hX
 have HX := hide hX
 clear hX
 rw [show twoV 11 a b = numV (wrap64 (a.n - b.n)) from rfl]
 rw [show a.v = .agg #[.int .i64 a.kind, .int .i64 a.n, str a.s] from rfl, show b.v = .agg #[.int .i64 b.kind, .int .i64 b.n, str b.s] from rfl] at *
 go_enter Tryz.func102, Tryz.ntmps102
 go_wp2_with fail
 refine (numR_v _ _).mono ?_
 rintro e w1 ⟨rfl, hk1⟩
 generalize hx : numV (wrap64 (a.n - b.n)) = x at *
 have HXE := hide hx
 clear hx
 obtain ⟨z0, z1, z2, y0, y1, y2, s0, s1, s2⟩ := res_facts (uh HX) hk1 x
 have HK := hide (((uh HKA).trans hk1).fresh (by omega) (keeps_set3 w1 (w.heap.size + 1 + 1) (.int .i64 x.kind) (.int .i64 x.n) (str x.s)))
 unfold ValA.v
 clear hk1
 go_wp2_with fail
 refine bodyPost_ret (v := .tuple #[.agg #[.int .i64 x.kind, .int .i64 x.n, str x.s], .bool true]) (by simp [results, go_sem, s0, s1, s2]) rfl ?_
 exact ⟨by rw [uh HXE]; rfl, uh HK⟩
theorem joins12_v (a b : ValA) (w : World) : Calls Tryz.prog 102 #[.int .i64 12, a.v, b.v] w fun e w' => e = .returned (.tuple #[(twoV 12 a b).v, .bool true]) ∧ Keeps (fun _ => False) w w' := by
 have HKA := hide (((kAlloc w (.cells #[.int .i64 a.kind, .int .i64 a.n, str a.s] 74)).alloc (.cells #[.int .i64 b.kind, .int .i64 b.n, str b.s] 74)).alloc (.cells #[.int .i64 0, .int .i64 0, .string ⟨#[]⟩] 74))
 have hX := heap_alloc_new ((w.alloc (.cells #[.int .i64 a.kind, .int .i64 a.n, str a.s] 74)).alloc (.cells #[.int .i64 b.kind, .int .i64 b.n, str b.s] 74)) (.cells #[.int .i64 0, .int .i64 0, .string ⟨#[]⟩] 74)
 rw [show ((w.alloc (.cells #[.int .i64 a.kind, .int .i64 a.n, str a.s] 74)).alloc (.cells #[.int .i64 b.kind, .int .i64 b.n, str b.s] 74)).heap.size = w.heap.size + 1 + 1 by simp] at hX
 have HX := hide hX
 clear hX
 rw [show twoV 12 a b = numV (wrap64 (a.n * b.n)) from rfl]
 rw [show a.v = .agg #[.int .i64 a.kind, .int .i64 a.n, str a.s] from rfl, show b.v = .agg #[.int .i64 b.kind, .int .i64 b.n, str b.s] from rfl] at *
 go_enter Tryz.func102, Tryz.ntmps102
 go_wp2_with fail
 refine (numR_v _ _).mono ?_
 rintro e w1 ⟨rfl, hk1⟩
 generalize hx : numV (wrap64 (a.n * b.n)) = x at *
 have HXE := hide hx
 clear hx
 obtain ⟨z0, z1, z2, y0, y1, y2, s0, s1, s2⟩ := res_facts (uh HX) hk1 x
 have HK := hide (((uh HKA).trans hk1).fresh (by omega) (keeps_set3 w1 (w.heap.size + 1 + 1) (.int .i64 x.kind) (.int .i64 x.n) (str x.s)))
 unfold ValA.v
 clear hk1
 go_wp2_with fail
 refine bodyPost_ret (v := .tuple #[.agg #[.int .i64 x.kind, .int .i64 x.n, str x.s], .bool true]) (by simp [results, go_sem, s0, s1, s2]) rfl ?_
 exact ⟨by rw [uh HXE]; rfl, uh HK⟩
theorem joins13_v (a b : ValA) (w : World) : Calls Tryz.prog 102 #[.int .i64 13, a.v, b.v] w fun e w' => e = .returned (.tuple #[(twoV 13 a b).v, .bool true]) ∧ Keeps (fun _ => False) w w' := by
 have HKA := hide (((kAlloc w (.cells #[.int .i64 a.kind, .int .i64 a.n, str a.s] 74)).alloc (.cells #[.int .i64 b.kind, .int .i64 b.n, str b.s] 74)).alloc (.cells #[.int .i64 0, .int .i64 0, .string ⟨#[]⟩] 74))
 have hX := heap_alloc_new ((w.alloc (.cells #[.int .i64 a.kind, .int .i64 a.n, str a.s] 74)).alloc (.cells #[.int .i64 b.kind, .int .i64 b.n, str b.s] 74)) (.cells #[.int .i64 0, .int .i64 0, .string ⟨#[]⟩] 74)
 rw [show ((w.alloc (.cells #[.int .i64 a.kind, .int .i64 a.n, str a.s] 74)).alloc (.cells #[.int .i64 b.kind, .int .i64 b.n, str b.s] 74)).heap.size = w.heap.size + 1 + 1 by simp] at hX
 have HX := hide hX
 clear hX
 rw [show twoV 13 a b = numV (min a.n b.n) from rfl]
 rw [show a.v = .agg #[.int .i64 a.kind, .int .i64 a.n, str a.s] from rfl, show b.v = .agg #[.int .i64 b.kind, .int .i64 b.n, str b.s] from rfl] at *
 go_enter Tryz.func102, Tryz.ntmps102
 go_wp2_with fail
 all_goals
  refine (numR_v _ _).mono ?_
  first
   | rw [show numV a.n = numV (min a.n b.n) from congrArg numV (by omega)]
   | rw [show numV b.n = numV (min a.n b.n) from congrArg numV (by omega)]
  rintro e w1 ⟨rfl, hk1⟩
  generalize hx : numV (min a.n b.n) = x at *
  have HXE := hide hx
  clear hx
  obtain ⟨z0, z1, z2, y0, y1, y2, s0, s1, s2⟩ := res_facts (uh HX) hk1 x
  have HK := hide (((uh HKA).trans hk1).fresh (by omega) (keeps_set3 w1 (w.heap.size + 1 + 1) (.int .i64 x.kind) (.int .i64 x.n) (str x.s)))
  unfold ValA.v
  clear hk1
  go_wp2_with fail
  refine bodyPost_ret (v := .tuple #[.agg #[.int .i64 x.kind, .int .i64 x.n, str x.s], .bool true]) (by simp [results, go_sem, s0, s1, s2]) rfl ?_
  exact ⟨by rw [uh HXE]; rfl, uh HK⟩
theorem joins14_v (a b : ValA) (w : World) : Calls Tryz.prog 102 #[.int .i64 14, a.v, b.v] w fun e w' => e = .returned (.tuple #[(twoV 14 a b).v, .bool true]) ∧ Keeps (fun _ => False) w w' := by
 have HKA := hide (((kAlloc w (.cells #[.int .i64 a.kind, .int .i64 a.n, str a.s] 74)).alloc (.cells #[.int .i64 b.kind, .int .i64 b.n, str b.s] 74)).alloc (.cells #[.int .i64 0, .int .i64 0, .string ⟨#[]⟩] 74))
 have hX := heap_alloc_new ((w.alloc (.cells #[.int .i64 a.kind, .int .i64 a.n, str a.s] 74)).alloc (.cells #[.int .i64 b.kind, .int .i64 b.n, str b.s] 74)) (.cells #[.int .i64 0, .int .i64 0, .string ⟨#[]⟩] 74)
 rw [show ((w.alloc (.cells #[.int .i64 a.kind, .int .i64 a.n, str a.s] 74)).alloc (.cells #[.int .i64 b.kind, .int .i64 b.n, str b.s] 74)).heap.size = w.heap.size + 1 + 1 by simp] at hX
 have HX := hide hX
 clear hX
 rw [show twoV 14 a b = numV (max a.n b.n) from rfl]
 rw [show a.v = .agg #[.int .i64 a.kind, .int .i64 a.n, str a.s] from rfl, show b.v = .agg #[.int .i64 b.kind, .int .i64 b.n, str b.s] from rfl] at *
 go_enter Tryz.func102, Tryz.ntmps102
 go_wp2_with fail
 all_goals
  refine (numR_v _ _).mono ?_
  first
   | rw [show numV a.n = numV (max a.n b.n) from congrArg numV (by omega)]
   | rw [show numV b.n = numV (max a.n b.n) from congrArg numV (by omega)]
  rintro e w1 ⟨rfl, hk1⟩
  generalize hx : numV (max a.n b.n) = x at *
  have HXE := hide hx
  clear hx
  obtain ⟨z0, z1, z2, y0, y1, y2, s0, s1, s2⟩ := res_facts (uh HX) hk1 x
  have HK := hide (((uh HKA).trans hk1).fresh (by omega) (keeps_set3 w1 (w.heap.size + 1 + 1) (.int .i64 x.kind) (.int .i64 x.n) (str x.s)))
  unfold ValA.v
  clear hk1
  go_wp2_with fail
  refine bodyPost_ret (v := .tuple #[.agg #[.int .i64 x.kind, .int .i64 x.n, str x.s], .bool true]) (by simp [results, go_sem, s0, s1, s2]) rfl ?_
  exact ⟨by rw [uh HXE]; rfl, uh HK⟩
theorem joins15_v (a b : ValA) (w : World) (ha : goodV a) (hb : goodV b) (hk : a.kind = b.kind) : Calls Tryz.prog 102 #[.int .i64 15, a.v, b.v] w fun e w' => e = .returned (.tuple #[(twoV 15 a b).v, .bool true]) ∧ Keeps (fun _ => False) w w' := by
 have HKA := hide (((kAlloc w (.cells #[.int .i64 a.kind, .int .i64 a.n, str a.s] 74)).alloc (.cells #[.int .i64 b.kind, .int .i64 b.n, str b.s] 74)).alloc (.cells #[.int .i64 0, .int .i64 0, .string ⟨#[]⟩] 74))
 have hX := heap_alloc_new ((w.alloc (.cells #[.int .i64 a.kind, .int .i64 a.n, str a.s] 74)).alloc (.cells #[.int .i64 b.kind, .int .i64 b.n, str b.s] 74)) (.cells #[.int .i64 0, .int .i64 0, .string ⟨#[]⟩] 74)
 rw [show ((w.alloc (.cells #[.int .i64 a.kind, .int .i64 a.n, str a.s] 74)).alloc (.cells #[.int .i64 b.kind, .int .i64 b.n, str b.s] 74)).heap.size = w.heap.size + 1 + 1 by simp] at hX
 have HX := hide hX
 clear hX
 rw [show twoV 15 a b = truV (decide (ordV a b < 0)) from rfl]
 rw [← ((good_less ha hb hk).1 : lessR a b = decide (ordV a b < 0))]
 have HO := hide (fun (W : World) => lessB_v a b W (good_len ha))
 generalize lessR a b = R at *
 rw [show a.v = .agg #[.int .i64 a.kind, .int .i64 a.n, str a.s] from rfl, show b.v = .agg #[.int .i64 b.kind, .int .i64 b.n, str b.s] from rfl] at *
 clear ha hb hk
 go_enter Tryz.func102, Tryz.ntmps102
 go_wp2_with fail
 refine ((uh HO) _).mono ?_
 rintro e w0 ⟨rfl, hk0⟩
 replace HX := hide ((hk0.block _ (lt_of_block (uh HX)) id).trans (uh HX))
 replace HKA := hide ((uh HKA).trans hk0)
 clear HO hk0
 go_wp2_with fail
 refine (truR_v _ _).mono ?_
 rintro e w1 ⟨rfl, hk1⟩
 generalize hx : truV R = x at *
 have HXE := hide hx
 clear hx
 obtain ⟨z0, z1, z2, y0, y1, y2, s0, s1, s2⟩ := res_facts (uh HX) hk1 x
 have HK := hide (((uh HKA).trans hk1).fresh (by omega) (keeps_set3 w1 (w.heap.size + 1 + 1) (.int .i64 x.kind) (.int .i64 x.n) (str x.s)))
 unfold ValA.v
 clear hk1
 go_wp2_with fail
 refine bodyPost_ret (v := .tuple #[.agg #[.int .i64 x.kind, .int .i64 x.n, str x.s], .bool true]) (by simp [results, go_sem, s0, s1, s2]) rfl ?_
 exact ⟨by rw [uh HXE]; rfl, uh HK⟩
theorem joins16_v (a b : ValA) (w : World) (ha : goodV a) (hb : goodV b) (hk : a.kind = b.kind) : Calls Tryz.prog 102 #[.int .i64 16, a.v, b.v] w fun e w' => e = .returned (.tuple #[(twoV 16 a b).v, .bool true]) ∧ Keeps (fun _ => False) w w' := by
 have HKA := hide (((kAlloc w (.cells #[.int .i64 a.kind, .int .i64 a.n, str a.s] 74)).alloc (.cells #[.int .i64 b.kind, .int .i64 b.n, str b.s] 74)).alloc (.cells #[.int .i64 0, .int .i64 0, .string ⟨#[]⟩] 74))
 have hX := heap_alloc_new ((w.alloc (.cells #[.int .i64 a.kind, .int .i64 a.n, str a.s] 74)).alloc (.cells #[.int .i64 b.kind, .int .i64 b.n, str b.s] 74)) (.cells #[.int .i64 0, .int .i64 0, .string ⟨#[]⟩] 74)
 rw [show ((w.alloc (.cells #[.int .i64 a.kind, .int .i64 a.n, str a.s] 74)).alloc (.cells #[.int .i64 b.kind, .int .i64 b.n, str b.s] 74)).heap.size = w.heap.size + 1 + 1 by simp] at hX
 have HX := hide hX
 clear hX
 rw [show twoV 16 a b = truV (decide (ordV a b ≤ 0)) from rfl]
 rw [← ((good_less ha hb hk).2 : (!lessR b a) = decide (ordV a b ≤ 0))]
 have HO := hide (fun (W : World) => lessB_v b a W (good_len hb))
 generalize lessR b a = R at *
 rw [show a.v = .agg #[.int .i64 a.kind, .int .i64 a.n, str a.s] from rfl, show b.v = .agg #[.int .i64 b.kind, .int .i64 b.n, str b.s] from rfl] at *
 clear ha hb hk
 go_enter Tryz.func102, Tryz.ntmps102
 go_wp2_with fail
 refine ((uh HO) _).mono ?_
 rintro e w0 ⟨rfl, hk0⟩
 replace HX := hide ((hk0.block _ (lt_of_block (uh HX)) id).trans (uh HX))
 replace HKA := hide ((uh HKA).trans hk0)
 clear HO hk0
 go_wp2_with fail
 refine (truR_v _ _).mono ?_
 rintro e w1 ⟨rfl, hk1⟩
 generalize hx : truV (!R) = x at *
 have HXE := hide hx
 clear hx
 obtain ⟨z0, z1, z2, y0, y1, y2, s0, s1, s2⟩ := res_facts (uh HX) hk1 x
 have HK := hide (((uh HKA).trans hk1).fresh (by omega) (keeps_set3 w1 (w.heap.size + 1 + 1) (.int .i64 x.kind) (.int .i64 x.n) (str x.s)))
 unfold ValA.v
 clear hk1
 go_wp2_with fail
 refine bodyPost_ret (v := .tuple #[.agg #[.int .i64 x.kind, .int .i64 x.n, str x.s], .bool true]) (by simp [results, go_sem, s0, s1, s2]) rfl ?_
 exact ⟨by rw [uh HXE]; rfl, uh HK⟩
theorem joins17_v (a b : ValA) (w : World) : Calls Tryz.prog 102 #[.int .i64 17, a.v, b.v] w fun e w' => e = .returned (.tuple #[(twoV 17 a b).v, .bool true]) ∧ Keeps (fun _ => False) w w' := by
 have HKA := hide (((kAlloc w (.cells #[.int .i64 a.kind, .int .i64 a.n, str a.s] 74)).alloc (.cells #[.int .i64 b.kind, .int .i64 b.n, str b.s] 74)).alloc (.cells #[.int .i64 0, .int .i64 0, .string ⟨#[]⟩] 74))
 have hX := heap_alloc_new ((w.alloc (.cells #[.int .i64 a.kind, .int .i64 a.n, str a.s] 74)).alloc (.cells #[.int .i64 b.kind, .int .i64 b.n, str b.s] 74)) (.cells #[.int .i64 0, .int .i64 0, .string ⟨#[]⟩] 74)
 rw [show ((w.alloc (.cells #[.int .i64 a.kind, .int .i64 a.n, str a.s] 74)).alloc (.cells #[.int .i64 b.kind, .int .i64 b.n, str b.s] 74)).heap.size = w.heap.size + 1 + 1 by simp] at hX
 have HX := hide hX
 clear hX
 rw [show twoV 17 a b = truV (decide (a = b)) from rfl]
 have HO := hide (fun (W : World) => eqValue_any a b W)
 generalize decide (a = b) = R at *
 rw [show a.v = .agg #[.int .i64 a.kind, .int .i64 a.n, str a.s] from rfl, show b.v = .agg #[.int .i64 b.kind, .int .i64 b.n, str b.s] from rfl] at *
 go_enter Tryz.func102, Tryz.ntmps102
 go_wp2_with fail
 refine ((uh HO) _).mono ?_
 rintro e w0 ⟨rfl, hk0⟩
 replace HX := hide ((hk0.block _ (lt_of_block (uh HX)) id).trans (uh HX))
 replace HKA := hide ((uh HKA).trans hk0)
 clear HO hk0
 go_wp2_with fail
 refine (truR_v _ _).mono ?_
 rintro e w1 ⟨rfl, hk1⟩
 generalize hx : truV R = x at *
 have HXE := hide hx
 clear hx
 obtain ⟨z0, z1, z2, y0, y1, y2, s0, s1, s2⟩ := res_facts (uh HX) hk1 x
 have HK := hide (((uh HKA).trans hk1).fresh (by omega) (keeps_set3 w1 (w.heap.size + 1 + 1) (.int .i64 x.kind) (.int .i64 x.n) (str x.s)))
 unfold ValA.v
 clear hk1
 go_wp2_with fail
 refine bodyPost_ret (v := .tuple #[.agg #[.int .i64 x.kind, .int .i64 x.n, str x.s], .bool true]) (by simp [results, go_sem, s0, s1, s2]) rfl ?_
 exact ⟨by rw [uh HXE]; rfl, uh HK⟩
theorem joins19_v (a b : ValA) (w : World) (ha : a.s.length ≤ 20) (hb : b.s.length ≤ 20) : Calls Tryz.prog 102 #[.int .i64 19, a.v, b.v] w fun e w' => e = .returned (.tuple #[(twoV 19 a b).v, .bool true]) ∧ Keeps (fun _ => False) w w' := by
 have HKA := hide (((kAlloc w (.cells #[.int .i64 a.kind, .int .i64 a.n, str a.s] 74)).alloc (.cells #[.int .i64 b.kind, .int .i64 b.n, str b.s] 74)).alloc (.cells #[.int .i64 0, .int .i64 0, .string ⟨#[]⟩] 74))
 have hX := heap_alloc_new ((w.alloc (.cells #[.int .i64 a.kind, .int .i64 a.n, str a.s] 74)).alloc (.cells #[.int .i64 b.kind, .int .i64 b.n, str b.s] 74)) (.cells #[.int .i64 0, .int .i64 0, .string ⟨#[]⟩] 74)
 rw [show ((w.alloc (.cells #[.int .i64 a.kind, .int .i64 a.n, str a.s] 74)).alloc (.cells #[.int .i64 b.kind, .int .i64 b.n, str b.s] 74)).heap.size = w.heap.size + 1 + 1 by simp] at hX
 have HX := hide hX
 clear hX
 rw [show twoV 19 a b = bytV (catT a.s b.s) from rfl]
 have HC := hide (fun (W : World) => catR_v a.s b.s W ha hb)
 generalize catT a.s b.s = C at *
 obtain ⟨s0, s1, s2⟩ : True ∧ True ∧ True := ⟨trivial, trivial, trivial⟩
 rw [show a.v = .agg #[.int .i64 a.kind, .int .i64 a.n, str a.s] from rfl, show b.v = .agg #[.int .i64 b.kind, .int .i64 b.n, str b.s] from rfl] at *
 go_enter Tryz.func102, Tryz.ntmps102
 go_wp2_with fail
 refine ((uh HC) _).mono ?_
 clear HC
 rintro e w1 ⟨rfl, hk1⟩
 obtain ⟨z0, z1, z2, y0, y1, y2, s0, s1, s2⟩ := res_facts (uh HX) hk1 (bytV C)
 have HK := hide (((uh HKA).trans hk1).fresh (by omega) (keeps_set3 w1 (w.heap.size + 1 + 1) (.int .i64 3) (.int .i64 0) (str C)))
 simp only [bytV] at s0 s1 s2
 clear hk1
 go_wp2_with fail
 refine bodyPost_ret (v := .tuple #[.agg #[.int .i64 3, .int .i64 0, str C], .bool true]) (by simp [results, go_sem, s0, s1, s2]) rfl ?_
 exact ⟨rfl, uh HK⟩
theorem joins_no (o : Int) (a b : ValA) (w : World) (h10 : (o == 10) = false) (h11 : (o == 11) = false) (h12 : (o == 12) = false) (h13 : (o == 13) = false) (h14 : (o == 14) = false) (h15 : (o == 15) = false) (h16 : (o == 16) = false) (h17 : (o == 17) = false) (h19 : (o == 19) = false) : Calls Tryz.prog 102 #[.int .i64 o, a.v, b.v] w fun e w' => e = .returned (.tuple #[zV.v, .bool false]) ∧ Keeps (fun _ => False) w w' := by
 obtain ⟨W, hW, hkW, g0, g1, g2⟩ := boxes3 w #[.int .i64 a.kind, .int .i64 a.n, str a.s] #[.int .i64 b.kind, .int .i64 b.n, str b.s] #[.int .i64 0, .int .i64 0, .string ⟨#[]⟩] 74 74 74
 obtain ⟨z0, z1, z2, y0, y1, y2, s0, s1, s2⟩ := res_facts g2 (Keeps.refl _ W) zV
 have HK := hide (hkW.fresh (by omega) (keeps_set3 W (w.heap.size + 1 + 1) (.int .i64 0) (.int .i64 0) (str [])))
 simp only [zV] at s0 s1 s2
 rw [show a.v = .agg #[.int .i64 a.kind, .int .i64 a.n, str a.s] from rfl, show b.v = .agg #[.int .i64 b.kind, .int .i64 b.n, str b.s] from rfl] at *
 clear g0 g1 g2 hkW
 go_enter Tryz.func102, Tryz.ntmps102
 go_wp2_with fail
 refine bodyPost_ret (v := .tuple #[.agg #[.int .i64 0, .int .i64 0, .string ⟨#[]⟩], .bool false]) (by simp [results, go_sem, s0, s1, s2]) rfl ?_
 exact ⟨rfl, uh HK⟩
end Go.Proofs.YtbokbdcjpbnodaaGreatDoor
namespace Go.Proofs.YtbokbdcjpbnodaaGreatDoor
open Go.RowKit Go.Maps
set_option maxRecDepth 100000
set_option maxHeartbeats 2000000
theorem pushes1_v (S : List FieldA) (sv u : Value) (x : ValA) (m : MS) (w : World) (hS : FldsAt w sv S) (hr : ValsAt w u m.vals) (ho : x.kind = 1) :
  Calls Tryz.prog 99 #[.agg #[sv], x.v, .agg #[.bool m.here, u]] w fun e w' => e = .returned (.tuple #[(toldV S x m).v, .bool true]) ∧ Keeps (fun _ => False) w w' := by
 obtain ⟨o, n, s⟩ := x
 simp only at *
 subst ho
 rw [show toldV S ⟨1, n, s⟩ m = numV n from rfl]
 rw [show (⟨1, n, s⟩ : ValA).v = .agg #[.int .i64 1, .int .i64 n, str s] from rfl]
 obtain ⟨so, sc, rfl⟩ := RowAt.form hS
 obtain ⟨uo, uc, rfl⟩ := RowAt.form hr
 obtain ⟨W, hW, hkW, g0, g1, g2, g3⟩ := boxes4 w #[.slice so S.length sc] #[.int .i64 1, .int .i64 n, str s] #[.bool m.here, .slice uo m.vals.length uc] #[.int .i64 0, .int .i64 0, .string ⟨#[]⟩] 24 106 28 74
 have HKA := hide hkW
 have HX := hide g3
 have HS := hide (hS.keepF hkW)
 have HR := hide (hr.keepF hkW)
 have p0 := cl1 g0
 obtain ⟨q0, q1, q2⟩ := cl3 g1
 obtain ⟨r0, r1⟩ := cl2 g2
 have hsz : w.heap.size + 1 + 1 + 1 < W.heap.size := lt_of_block g3
 have G0 := hide g0
 have G1 := hide g1
 have G2 := hide g2
 clear hkW g0 g1 g2 g3 hS hr
 go_enter Tryz.func99, Tryz.ntmps99
 go_wp2_with fail
 refine (numR_v _ _).mono ?_
 rintro e w1 ⟨rfl, hk1⟩
 generalize hx : numV n = y at *
 have HXE := hide hx
 clear hx
 obtain ⟨z0, z1, z2, y0, y1, y2, s0, s1, s2⟩ := res_facts (uh HX) hk1 y
 have HK := hide (((uh HKA).trans hk1).fresh (by omega) (keeps_set3 w1 (w.heap.size + 1 + 1 + 1) (.int .i64 y.kind) (.int .i64 y.n) (str y.s)))
 unfold ValA.v
 clear hk1
 go_wp2_with fail
 refine bodyPost_ret (v := .tuple #[.agg #[.int .i64 y.kind, .int .i64 y.n, str y.s], .bool true]) (by simp [results, go_sem, s0, s1, s2]) rfl ?_
 exact ⟨by rw [uh HXE]; rfl, uh HK⟩
theorem pushes2_v (S : List FieldA) (sv u : Value) (x : ValA) (m : MS) (w : World) (hS : FldsAt w sv S) (hr : ValsAt w u m.vals) (ho : x.kind = 2) :
  Calls Tryz.prog 99 #[.agg #[sv], x.v, .agg #[.bool m.here, u]] w fun e w' => e = .returned (.tuple #[(toldV S x m).v, .bool true]) ∧ Keeps (fun _ => False) w w' := by
 obtain ⟨o, n, s⟩ := x
 simp only at *
 subst ho
 rw [show toldV S ⟨2, n, s⟩ m = truV true from rfl]
 rw [show (⟨2, n, s⟩ : ValA).v = .agg #[.int .i64 2, .int .i64 n, str s] from rfl]
 obtain ⟨so, sc, rfl⟩ := RowAt.form hS
 obtain ⟨uo, uc, rfl⟩ := RowAt.form hr
 obtain ⟨W, hW, hkW, g0, g1, g2, g3⟩ := boxes4 w #[.slice so S.length sc] #[.int .i64 2, .int .i64 n, str s] #[.bool m.here, .slice uo m.vals.length uc] #[.int .i64 0, .int .i64 0, .string ⟨#[]⟩] 24 106 28 74
 have HKA := hide hkW
 have HX := hide g3
 have HS := hide (hS.keepF hkW)
 have HR := hide (hr.keepF hkW)
 have p0 := cl1 g0
 obtain ⟨q0, q1, q2⟩ := cl3 g1
 obtain ⟨r0, r1⟩ := cl2 g2
 have hsz : w.heap.size + 1 + 1 + 1 < W.heap.size := lt_of_block g3
 have G0 := hide g0
 have G1 := hide g1
 have G2 := hide g2
 clear hkW g0 g1 g2 g3 hS hr
 go_enter Tryz.func99, Tryz.ntmps99
 go_wp2_with fail
 refine (truR_v true _).mono ?_
 rintro e w1 ⟨rfl, hk1⟩
 generalize hx : truV true = y at *
 have HXE := hide hx
 clear hx
 obtain ⟨z0, z1, z2, y0, y1, y2, s0, s1, s2⟩ := res_facts (uh HX) hk1 y
 have HK := hide (((uh HKA).trans hk1).fresh (by omega) (keeps_set3 w1 (w.heap.size + 1 + 1 + 1) (.int .i64 y.kind) (.int .i64 y.n) (str y.s)))
 unfold ValA.v
 clear hk1
 go_wp2_with fail
 refine bodyPost_ret (v := .tuple #[.agg #[.int .i64 y.kind, .int .i64 y.n, str y.s], .bool true]) (by simp [results, go_sem, s0, s1, s2]) rfl ?_
 exact ⟨by rw [uh HXE]; rfl, uh HK⟩
theorem pushes3_v (S : List FieldA) (sv u : Value) (x : ValA) (m : MS) (w : World) (hS : FldsAt w sv S) (hr : ValsAt w u m.vals) (ho : x.kind = 3) :
  Calls Tryz.prog 99 #[.agg #[sv], x.v, .agg #[.bool m.here, u]] w fun e w' => e = .returned (.tuple #[(toldV S x m).v, .bool true]) ∧ Keeps (fun _ => False) w w' := by
 obtain ⟨o, n, s⟩ := x
 simp only at *
 subst ho
 rw [show toldV S ⟨3, n, s⟩ m = truV false from rfl]
 rw [show (⟨3, n, s⟩ : ValA).v = .agg #[.int .i64 3, .int .i64 n, str s] from rfl]
 obtain ⟨so, sc, rfl⟩ := RowAt.form hS
 obtain ⟨uo, uc, rfl⟩ := RowAt.form hr
 obtain ⟨W, hW, hkW, g0, g1, g2, g3⟩ := boxes4 w #[.slice so S.length sc] #[.int .i64 3, .int .i64 n, str s] #[.bool m.here, .slice uo m.vals.length uc] #[.int .i64 0, .int .i64 0, .string ⟨#[]⟩] 24 106 28 74
 have HKA := hide hkW
 have HX := hide g3
 have HS := hide (hS.keepF hkW)
 have HR := hide (hr.keepF hkW)
 have p0 := cl1 g0
 obtain ⟨q0, q1, q2⟩ := cl3 g1
 obtain ⟨r0, r1⟩ := cl2 g2
 have hsz : w.heap.size + 1 + 1 + 1 < W.heap.size := lt_of_block g3
 have G0 := hide g0
 have G1 := hide g1
 have G2 := hide g2
 clear hkW g0 g1 g2 g3 hS hr
 go_enter Tryz.func99, Tryz.ntmps99
 go_wp2_with fail
 refine (truR_v false _).mono ?_
 rintro e w1 ⟨rfl, hk1⟩
 generalize hx : truV false = y at *
 have HXE := hide hx
 clear hx
 obtain ⟨z0, z1, z2, y0, y1, y2, s0, s1, s2⟩ := res_facts (uh HX) hk1 y
 have HK := hide (((uh HKA).trans hk1).fresh (by omega) (keeps_set3 w1 (w.heap.size + 1 + 1 + 1) (.int .i64 y.kind) (.int .i64 y.n) (str y.s)))
 unfold ValA.v
 clear hk1
 go_wp2_with fail
 refine bodyPost_ret (v := .tuple #[.agg #[.int .i64 y.kind, .int .i64 y.n, str y.s], .bool true]) (by simp [results, go_sem, s0, s1, s2]) rfl ?_
 exact ⟨by rw [uh HXE]; rfl, uh HK⟩
theorem pushes4_v (S : List FieldA) (sv u : Value) (x : ValA) (m : MS) (w : World) (hS : FldsAt w sv S) (hr : ValsAt w u m.vals) (ho : x.kind = 4) :
  Calls Tryz.prog 99 #[.agg #[sv], x.v, .agg #[.bool m.here, u]] w fun e w' => e = .returned (.tuple #[(toldV S x m).v, .bool true]) ∧ Keeps (fun _ => False) w w' := by
 obtain ⟨o, n, s⟩ := x
 simp only at *
 subst ho
 rw [show toldV S ⟨4, n, s⟩ m = bytV s from rfl]
 rw [show (⟨4, n, s⟩ : ValA).v = .agg #[.int .i64 4, .int .i64 n, str s] from rfl]
 obtain ⟨so, sc, rfl⟩ := RowAt.form hS
 obtain ⟨uo, uc, rfl⟩ := RowAt.form hr
 obtain ⟨W, hW, hkW, g0, g1, g2, g3⟩ := boxes4 w #[.slice so S.length sc] #[.int .i64 4, .int .i64 n, str s] #[.bool m.here, .slice uo m.vals.length uc] #[.int .i64 0, .int .i64 0, .string ⟨#[]⟩] 24 106 28 74
 have HKA := hide hkW
 have HX := hide g3
 have HS := hide (hS.keepF hkW)
 have HR := hide (hr.keepF hkW)
 have p0 := cl1 g0
 obtain ⟨q0, q1, q2⟩ := cl3 g1
 obtain ⟨r0, r1⟩ := cl2 g2
 have hsz : w.heap.size + 1 + 1 + 1 < W.heap.size := lt_of_block g3
 have G0 := hide g0
 have G1 := hide g1
 have G2 := hide g2
 clear hkW g0 g1 g2 g3 hS hr
 obtain ⟨z0, z1, z2, y0, y1, y2, s0, s1, s2⟩ := res_facts (uh HX) (Keeps.refl _ W) (bytV s)
 have HK := hide ((uh HKA).fresh (by omega) (keeps_set3 W (w.heap.size + 1 + 1 + 1) (.int .i64 3) (.int .i64 0) (str s)))
 simp only [bytV] at s0 s1 s2
 go_enter Tryz.func99, Tryz.ntmps99
 go_wp2_with fail
 refine bodyPost_ret (v := .tuple #[.agg #[.int .i64 3, .int .i64 0, str s], .bool true]) (by simp [results, go_sem, s0, s1, s2]) rfl ?_
 exact ⟨rfl, uh HK⟩
theorem pushes7_v (S : List FieldA) (sv u : Value) (x : ValA) (m : MS) (w : World) (hS : FldsAt w sv S) (hr : ValsAt w u m.vals) (ho : x.kind = 7) :
  Calls Tryz.prog 99 #[.agg #[sv], x.v, .agg #[.bool m.here, u]] w fun e w' => e = .returned (.tuple #[(toldV S x m).v, .bool true]) ∧ Keeps (fun _ => False) w w' := by
 obtain ⟨o, n, s⟩ := x
 simp only at *
 subst ho
 rw [show toldV S ⟨7, n, s⟩ m = truV m.here from rfl]
 rw [show (⟨7, n, s⟩ : ValA).v = .agg #[.int .i64 7, .int .i64 n, str s] from rfl]
 obtain ⟨so, sc, rfl⟩ := RowAt.form hS
 obtain ⟨uo, uc, rfl⟩ := RowAt.form hr
 obtain ⟨W, hW, hkW, g0, g1, g2, g3⟩ := boxes4 w #[.slice so S.length sc] #[.int .i64 7, .int .i64 n, str s] #[.bool m.here, .slice uo m.vals.length uc] #[.int .i64 0, .int .i64 0, .string ⟨#[]⟩] 24 106 28 74
 have HKA := hide hkW
 have HX := hide g3
 have HS := hide (hS.keepF hkW)
 have HR := hide (hr.keepF hkW)
 have p0 := cl1 g0
 obtain ⟨q0, q1, q2⟩ := cl3 g1
 obtain ⟨r0, r1⟩ := cl2 g2
 have hsz : w.heap.size + 1 + 1 + 1 < W.heap.size := lt_of_block g3
 have G0 := hide g0
 have G1 := hide g1
 have G2 := hide g2
 clear hkW g0 g1 g2 g3 hS hr
 go_enter Tryz.func99, Tryz.ntmps99
 go_wp2_with fail
 refine (truR_v m.here _).mono ?_
 rintro e w1 ⟨rfl, hk1⟩
 generalize hx : truV m.here = y at *
 have HXE := hide hx
 clear hx
 obtain ⟨z0, z1, z2, y0, y1, y2, s0, s1, s2⟩ := res_facts (uh HX) hk1 y
 have HK := hide (((uh HKA).trans hk1).fresh (by omega) (keeps_set3 w1 (w.heap.size + 1 + 1 + 1) (.int .i64 y.kind) (.int .i64 y.n) (str y.s)))
 unfold ValA.v
 clear hk1
 go_wp2_with fail
 refine bodyPost_ret (v := .tuple #[.agg #[.int .i64 y.kind, .int .i64 y.n, str y.s], .bool true]) (by simp [results, go_sem, s0, s1, s2]) rfl ?_
 exact ⟨by rw [uh HXE]; rfl, uh HK⟩
end Go.Proofs.YtbokbdcjpbnodaaGreatDoor
namespace Go.Proofs.YtbokbdcjpbnodaaGreatDoor
open Go.RowKit Go.Maps
set_option maxRecDepth 100000
set_option maxHeartbeats 2000000
theorem pushes6_v (S : List FieldA) (sv u : Value) (x : ValA) (m : MS) (w : World) (hS : FldsAt w sv S) (hr : ValsAt w u m.vals) (ho : x.kind = 6) (h0 : 0 ≤ x.n) (hns : x.n.toNat < S.length) (hnv : m.here = true → x.n.toNat < m.vals.length) :
  Calls Tryz.prog 99 #[.agg #[sv], x.v, .agg #[.bool m.here, u]] w fun e w' => e = .returned (.tuple #[(toldV S x m).v, .bool true]) ∧ Keeps (fun _ => False) w w' := by
 obtain ⟨o, n, s⟩ := x
 simp only at *
 subst ho
 obtain ⟨k, hkn⟩ : ∃ k : Nat, n.toNat = k := ⟨_, rfl⟩
 have hn : n = (k : Int) := by omega
 subst hn
 rw [Int.toNat_natCast] at hns hnv
 rw [show toldV S ⟨6, (k : Int), s⟩ m = truV (hasB m k) from rfl]
 rw [show (⟨6, (k : Int), s⟩ : ValA).v = .agg #[.int .i64 6, .int .i64 (k : Int), str s] from rfl]
 obtain ⟨so, sc, rfl⟩ := RowAt.form hS
 obtain ⟨uo, uc, rfl⟩ := RowAt.form hr
 obtain ⟨W, hW, hkW, g0, g1, g2, g3⟩ := boxes4 w #[.slice so S.length sc] #[.int .i64 6, .int .i64 (k : Int), str s] #[.bool m.here, .slice uo m.vals.length uc] #[.int .i64 0, .int .i64 0, .string ⟨#[]⟩] 24 106 28 74
 have HKA := hide hkW
 have HX := hide g3
 have HS := hide (hS.keepF hkW)
 have HR := hide (hr.keepF hkW)
 have p0 := cl1 g0
 obtain ⟨q0, q1, q2⟩ := cl3 g1
 obtain ⟨r0, r1⟩ := cl2 g2
 have hsz : w.heap.size + 1 + 1 + 1 < W.heap.size := lt_of_block g3
 have G0 := hide g0
 have G1 := hide g1
 have G2 := hide g2
 clear hkW g0 g1 g2 g3 hS hr
 have HL := hide (loadR_v m (.slice uo m.vals.length uc) k W (uh HR) hnv)
 obtain ⟨lv, hlv⟩ : ∃ lv, (if hasB m k then (m.vals[k]?).getD zV else zV) = lv := ⟨_, rfl⟩
 rw [hlv] at HL
 generalize hasB m k = R at *
 clear hnv hkn hlv
 go_enter Tryz.func99, Tryz.ntmps99
 go_wp2_with fail
 refine (uh HL).mono ?_
 rintro e w0 ⟨rfl, hk0⟩
 have HX0 := hide (blk_keep (blk_keep (uh HX) hk0) (kAlloc w0 (.cells #[.int .i64 lv.kind, .int .i64 lv.n, str lv.s] 74)))
 have HK0 := hide (((uh HKA).trans hk0).alloc (.cells #[.int .i64 lv.kind, .int .i64 lv.n, str lv.s] 74))
 clear HL hk0 HX HKA
 have HX := HX0
 have HKA := HK0
 unfold ValA.v
 go_wp2_with fail
 refine (truR_v R _).mono ?_
 rintro e w1 ⟨rfl, hk1⟩
 generalize hx : truV R = y at *
 have HXE := hide hx
 clear hx
 obtain ⟨z0, z1, z2, y0, y1, y2, s0, s1, s2⟩ := res_facts (uh HX) hk1 y
 have HK := hide (((uh HKA).trans hk1).fresh (by omega) (keeps_set3 w1 (w.heap.size + 1 + 1 + 1) (.int .i64 y.kind) (.int .i64 y.n) (str y.s)))
 unfold ValA.v
 clear hk1
 go_wp2_with fail
 refine bodyPost_ret (v := .tuple #[.agg #[.int .i64 y.kind, .int .i64 y.n, str y.s], .bool true]) (by simp [results, go_sem, s0, s1, s2]) rfl ?_
 exact ⟨by rw [uh HXE]; rfl, uh HK⟩
theorem pushes5_v (S : List FieldA) (sv u : Value) (x : ValA) (m : MS) (w : World) (hS : FldsAt w sv S) (hr : ValsAt w u m.vals) (ho : x.kind = 5) (h0 : 0 ≤ x.n) (hns : x.n.toNat < S.length) (hnv : m.here = true → x.n.toNat < m.vals.length) :
  Calls Tryz.prog 99 #[.agg #[sv], x.v, .agg #[.bool m.here, u]] w fun e w' => e = .returned (.tuple #[(toldV S x m).v, .bool true]) ∧ Keeps (fun _ => False) w w' := by
 obtain ⟨o, n, s⟩ := x
 simp only at *
 subst ho
 obtain ⟨k, hkn⟩ : ∃ k : Nat, n.toNat = k := ⟨_, rfl⟩
 have hn : n = (k : Int) := by omega
 subst hn
 rw [Int.toNat_natCast] at hns hnv
 rw [show toldV S ⟨5, (k : Int), s⟩ m = loadV S m k from rfl]
 rw [show (⟨5, (k : Int), s⟩ : ValA).v = .agg #[.int .i64 5, .int .i64 (k : Int), str s] from rfl]
 obtain ⟨so, sc, rfl⟩ := RowAt.form hS
 obtain ⟨uo, uc, rfl⟩ := RowAt.form hr
 obtain ⟨W, hW, hkW, g0, g1, g2, g3⟩ := boxes4 w #[.slice so S.length sc] #[.int .i64 5, .int .i64 (k : Int), str s] #[.bool m.here, .slice uo m.vals.length uc] #[.int .i64 0, .int .i64 0, .string ⟨#[]⟩] 24 106 28 74
 have HKA := hide hkW
 have HX := hide g3
 have HS := hide (hS.keepF hkW)
 have HR := hide (hr.keepF hkW)
 have p0 := cl1 g0
 obtain ⟨q0, q1, q2⟩ := cl3 g1
 obtain ⟨r0, r1⟩ := cl2 g2
 have hsz : w.heap.size + 1 + 1 + 1 < W.heap.size := lt_of_block g3
 have G0 := hide g0
 have G1 := hide g1
 have G2 := hide g2
 clear hkW g0 g1 g2 g3 hS hr
 have HL := hide (loadR_v m (.slice uo m.vals.length uc) k W (uh HR) hnv)
 obtain ⟨f, hf⟩ : ∃ f, S[k]? = some f := ⟨_, List.getElem?_eq_getElem hns⟩
 have HV : Hid (loadV S m k = if hasB m k then (m.vals[k]?).getD zV else ⟨f.type, 0, []⟩) := by show _ = _; unfold loadV; rw [hf]; rfl
 obtain ⟨sb, sof, sc', e, hbl, hc⟩ := (uh HS).cells (by omega)
 simp only [Value.slice.injEq] at e
 obtain ⟨rfl, -, rfl⟩ := e
 have HC := hide (hc k f hf).2.1
 have i0 : (0 : Int) ≤ (k : Int) := by omega
 have i1 : (k : Int) < (S.length : Int) := by omega
 generalize loadV S m k = T at *
 cases hb : hasB m k with
 | false =>
  rw [hb] at HL HV
  simp only [Bool.false_eq_true, if_false] at HL HV
  rw [show zV.v = .agg #[.int .i64 0, .int .i64 0, .string ⟨#[]⟩] from rfl] at HL
  clear hnv hkn hc hf hb
  go_enter Tryz.func99, Tryz.ntmps99
  go_wp2_with fail
  refine (uh HL).mono ?_
  rintro e w1 ⟨rfl, hk1⟩
  have G0' := blk_keep (uh G0) hk1
  have G1' := blk_keep (uh G1) hk1
  have HX1 := hide (blk_keep (uh HX) hk1)
  have pp0 := cl1 G0'
  obtain ⟨qq0, qq1, qq2⟩ := cl3 G1'
  have hsz1 : w.heap.size + 1 + 1 + 1 < w1.heap.size := lt_of_block (uh HX1)
  have l0 : w.heap.size < w1.heap.size := by omega
  have l1 : w.heap.size + 1 < w1.heap.size := by omega
  have lb : sb < w1.heap.size := Nat.lt_of_lt_of_le hbl hk1.size
  have HK1 := hide ((uh HKA).trans hk1)
  have cf := (hk1.cell hbl id).trans (uh HC)
  obtain ⟨z0, z1, z2, y0, y1, y2, s0, s1, s2⟩ := res_facts (uh HX1) (Keeps.refl _ w1) ⟨f.type, 0, []⟩
  have s0' := ((kAlloc (((w1.setCell ⟨w.heap.size + 1 + 1 + 1, 0, none⟩ (.int .i64 f.type)).setCell ⟨w.heap.size + 1 + 1 + 1, 1, none⟩ (.int .i64 0)).setCell ⟨w.heap.size + 1 + 1 + 1, 2, none⟩ (str [])) (.cells #[.int .i64 0, .int .i64 0, .string ⟨#[]⟩] 74)).cell (o := 0) (by simpa using hsz1) id).trans s0
  have s1' := ((kAlloc (((w1.setCell ⟨w.heap.size + 1 + 1 + 1, 0, none⟩ (.int .i64 f.type)).setCell ⟨w.heap.size + 1 + 1 + 1, 1, none⟩ (.int .i64 0)).setCell ⟨w.heap.size + 1 + 1 + 1, 2, none⟩ (str [])) (.cells #[.int .i64 0, .int .i64 0, .string ⟨#[]⟩] 74)).cell (o := 1) (by simpa using hsz1) id).trans s1
  have s2' := ((kAlloc (((w1.setCell ⟨w.heap.size + 1 + 1 + 1, 0, none⟩ (.int .i64 f.type)).setCell ⟨w.heap.size + 1 + 1 + 1, 1, none⟩ (.int .i64 0)).setCell ⟨w.heap.size + 1 + 1 + 1, 2, none⟩ (str [])) (.cells #[.int .i64 0, .int .i64 0, .string ⟨#[]⟩] 74)).cell (o := 2) (by simpa using hsz1) id).trans s2
  have HK := hide (((uh HK1).fresh (by omega) (keeps_set3 w1 (w.heap.size + 1 + 1 + 1) (.int .i64 f.type) (.int .i64 0) (str []))).alloc (.cells #[.int .i64 0, .int .i64 0, .string ⟨#[]⟩] 74))
  clear HL hk1
  go_wp2_with fail
  refine bodyPost_ret (v := .tuple #[.agg #[.int .i64 f.type, .int .i64 0, .string ⟨#[]⟩], .bool true]) (by simp [results, go_sem, s0', s1', s2']) rfl ?_
  exact ⟨by rw [uh HV]; rfl, uh HK⟩
 | true =>
  rw [hb] at HL HV
  simp only [if_true] at HL HV
  obtain ⟨lv, hlv⟩ : ∃ lv, (m.vals[k]?).getD zV = lv := ⟨_, rfl⟩
  rw [hlv] at HL HV
  rw [show lv.v = .agg #[.int .i64 lv.kind, .int .i64 lv.n, str lv.s] from rfl] at HL
  clear hnv hkn hc hf hb hlv
  go_enter Tryz.func99, Tryz.ntmps99
  go_wp2_with fail
  refine (uh HL).mono ?_
  rintro e w1 ⟨rfl, hk1⟩
  have G0' := blk_keep (uh G0) hk1
  have G1' := blk_keep (uh G1) hk1
  have HX1 := hide (blk_keep (uh HX) hk1)
  have pp0 := cl1 G0'
  obtain ⟨qq0, qq1, qq2⟩ := cl3 G1'
  have hsz1 : w.heap.size + 1 + 1 + 1 < w1.heap.size := lt_of_block (uh HX1)
  have l0 : w.heap.size < w1.heap.size := by omega
  have l1 : w.heap.size + 1 < w1.heap.size := by omega
  have lb : sb < w1.heap.size := Nat.lt_of_lt_of_le hbl hk1.size
  have HK1 := hide ((uh HKA).trans hk1)
  obtain ⟨z0, z1, z2, y0, y1, y2, s0, s1, s2⟩ := res_facts (uh HX1) (Keeps.refl _ w1) lv
  have s0' := ((kAlloc (((w1.setCell ⟨w.heap.size + 1 + 1 + 1, 0, none⟩ (.int .i64 lv.kind)).setCell ⟨w.heap.size + 1 + 1 + 1, 1, none⟩ (.int .i64 lv.n)).setCell ⟨w.heap.size + 1 + 1 + 1, 2, none⟩ (str lv.s)) (.cells #[.int .i64 lv.kind, .int .i64 lv.n, str lv.s] 74)).cell (o := 0) (by simpa using hsz1) id).trans s0
  have s1' := ((kAlloc (((w1.setCell ⟨w.heap.size + 1 + 1 + 1, 0, none⟩ (.int .i64 lv.kind)).setCell ⟨w.heap.size + 1 + 1 + 1, 1, none⟩ (.int .i64 lv.n)).setCell ⟨w.heap.size + 1 + 1 + 1, 2, none⟩ (str lv.s)) (.cells #[.int .i64 lv.kind, .int .i64 lv.n, str lv.s] 74)).cell (o := 1) (by simpa using hsz1) id).trans s1
  have s2' := ((kAlloc (((w1.setCell ⟨w.heap.size + 1 + 1 + 1, 0, none⟩ (.int .i64 lv.kind)).setCell ⟨w.heap.size + 1 + 1 + 1, 1, none⟩ (.int .i64 lv.n)).setCell ⟨w.heap.size + 1 + 1 + 1, 2, none⟩ (str lv.s)) (.cells #[.int .i64 lv.kind, .int .i64 lv.n, str lv.s] 74)).cell (o := 2) (by simpa using hsz1) id).trans s2
  have HK := hide (((uh HK1).fresh (by omega) (keeps_set3 w1 (w.heap.size + 1 + 1 + 1) (.int .i64 lv.kind) (.int .i64 lv.n) (str lv.s))).alloc (.cells #[.int .i64 lv.kind, .int .i64 lv.n, str lv.s] 74))
  clear HL hk1
  have hN := heap_alloc_new w1 (.cells #[.int .i64 lv.kind, .int .i64 lv.n, str lv.s] 74)
  go_wp2_with fail
  refine bodyPost_ret (v := .tuple #[.agg #[.int .i64 lv.kind, .int .i64 lv.n, str lv.s], .bool true]) (by simp [results, go_sem, s0', s1', s2']) rfl ?_
  exact ⟨by rw [uh HV]; rfl, uh HK⟩
theorem pushesN_v (S : List FieldA) (sv u : Value) (x : ValA) (m : MS) (w : World) (hS : FldsAt w sv S) (hr : ValsAt w u m.vals) (h1 : (x.kind == 1) = false) (h2 : (x.kind == 2) = false) (h3 : (x.kind == 3) = false) (h4 : (x.kind == 4) = false) (h5 : (x.kind == 5) = false) (h6 : (x.kind == 6) = false) (h7 : (x.kind == 7) = false) :
  Calls Tryz.prog 99 #[.agg #[sv], x.v, .agg #[.bool m.here, u]] w fun e w' => e = .returned (.tuple #[zV.v, .bool false]) ∧ Keeps (fun _ => False) w w' := by
 rw [show x.v = .agg #[.int .i64 x.kind, .int .i64 x.n, str x.s] from rfl]
 obtain ⟨so, sc, rfl⟩ := RowAt.form hS
 obtain ⟨uo, uc, rfl⟩ := RowAt.form hr
 obtain ⟨W, hW, hkW, g0, g1, g2, g3⟩ := boxes4 w #[.slice so S.length sc] #[.int .i64 x.kind, .int .i64 x.n, str x.s] #[.bool m.here, .slice uo m.vals.length uc] #[.int .i64 0, .int .i64 0, .string ⟨#[]⟩] 24 106 28 74
 have HKA := hide hkW
 have HX := hide g3
 have HS := hide (hS.keepF hkW)
 have HR := hide (hr.keepF hkW)
 have p0 := cl1 g0
 obtain ⟨q0, q1, q2⟩ := cl3 g1
 obtain ⟨r0, r1⟩ := cl2 g2
 have hsz : w.heap.size + 1 + 1 + 1 < W.heap.size := lt_of_block g3
 have G0 := hide g0
 have G1 := hide g1
 have G2 := hide g2
 clear hkW g0 g1 g2 g3 hS hr
 obtain ⟨z0, z1, z2, y0, y1, y2, s0, s1, s2⟩ := res_facts (uh HX) (Keeps.refl _ W) zV
 have HK := hide ((uh HKA).fresh (by omega) (keeps_set3 W (w.heap.size + 1 + 1 + 1) (.int .i64 0) (.int .i64 0) (str [])))
 simp only [zV] at s0 s1 s2
 go_enter Tryz.func99, Tryz.ntmps99
 go_wp2_with fail
 refine bodyPost_ret (v := .tuple #[.agg #[.int .i64 0, .int .i64 0, .string ⟨#[]⟩], .bool false]) (by simp [results, go_sem, s0, s1, s2]) rfl ?_
 exact ⟨rfl, uh HK⟩
end Go.Proofs.YtbokbdcjpbnodaaGreatDoor
