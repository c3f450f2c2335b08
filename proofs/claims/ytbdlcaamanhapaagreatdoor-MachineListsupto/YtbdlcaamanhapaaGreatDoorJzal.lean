import Derived.Test.YtbdlcaamanhapaaGreatDoorJzak
import Derived.Test.YtbdlcaamanhapaaGreatDoorJzah
import Derived.Test.YtbdlcaamanhapaaGreatDoorJzae
import Derived.Test.YtbdlcaamanhapaaGreatDoorJzab
namespace Go.Proofs.YtbdlcaamanhapaaGreatDoor
open Go.RowKit Go.Maps
set_option maxRecDepth 100000
set_option maxHeartbeats 2000000
theorem rF {W w1 : World} {r : Nat} (HX : W.heap[r]? = some (.cells #[.int .i64 0, .int .i64 0, .string ⟨#[]⟩] 51 (0, 0))) (hk : Wp (fun _ => False) W w1) (x : ValA) :
  w1.frozen? ⟨r, 0, none⟩ = false ∧ w1.frozen? ⟨r, 1, none⟩ = false ∧ w1.frozen? ⟨r, 2, none⟩ = false ∧ w1.cell? ⟨r, 0, none⟩ = some (.int .i64 0) ∧ w1.cell? ⟨r, 1, none⟩ = some (.int .i64 0) ∧ w1.cell? ⟨r, 2, none⟩ = some (.string ⟨#[]⟩) ∧
  (((w1.setCell ⟨r, 0, none⟩ (.int .i64 x.kind)).setCell ⟨r, 1, none⟩ (.int .i64 x.n)).setCell ⟨r, 2, none⟩ (str x.s)).cell? ⟨r, 0, none⟩ = some (.int .i64 x.kind) ∧ (((w1.setCell ⟨r, 0, none⟩ (.int .i64 x.kind)).setCell ⟨r, 1, none⟩ (.int .i64 x.n)).setCell ⟨r, 2, none⟩ (str x.s)).cell? ⟨r, 1, none⟩ = some (.int .i64 x.n) ∧ (((w1.setCell ⟨r, 0, none⟩ (.int .i64 x.kind)).setCell ⟨r, 1, none⟩ (.int .i64 x.n)).setCell ⟨r, 2, none⟩ (str x.s)).cell? ⟨r, 2, none⟩ = some (str x.s) := by
 have hX3 := (hk.block _ (zE HX) id).trans HX
 obtain ⟨s0, s1, s2⟩ := set3 hX3 (.int .i64 x.kind) (.int .i64 x.n) (str x.s)
 exact ⟨zF hX3 0, zF hX3 1, zF hX3 2, (zC hX3 _).trans rfl, (zC hX3 _).trans rfl, (zC hX3 _).trans rfl, s0, s1, s2⟩
theorem ofOne_v (o : Int) (a : ValA) (w : World) (ho : o = 8 ∨ o = 9 ∨ o = 18) : Calls Tryz.prog 49 #[.int .i64 o, a.v] w fun e w' => e = .returned (oneV o a).v ∧ Wp (fun _ => False) w w' := by
 have HKA := zB ((kA w (.cells #[.int .i64 a.kind, .int .i64 a.n, str a.s] 51)).alloc (.cells #[.int .i64 0, .int .i64 0, .string ⟨#[]⟩] 51))
 have hX := heap_alloc_new (w.alloc (.cells #[.int .i64 a.kind, .int .i64 a.n, str a.s] 51)) (.cells #[.int .i64 0, .int .i64 0, .string ⟨#[]⟩] 51)
 rw [show (w.alloc (.cells #[.int .i64 a.kind, .int .i64 a.n, str a.s] 51)).heap.size = w.heap.size + 1 by simp] at hX
 have HX := zB hX
 clear hX
 have HI := zB (fun (W : World) => isTrue_v a W)
 rw [show a.v = .agg #[.int .i64 a.kind, .int .i64 a.n, str a.s] from rfl] at *
 rcases ho with rfl | rfl | rfl
 ·rw [show oneV 8 a = truV (!decide (a.n = 1)) from rfl]
  have HT := zB (fun (W : World) => truth_v (!decide (a.n = 1)) W)
  go_enter Tryz.func49, Tryz.ntmps49
  go_wp2_with fail
  refine ((zA HI) _).mono ?_
  rintro e w0 ⟨rfl, hk0⟩
  replace HX := zB ((hk0.block _ (zE (zA HX)) id).trans (zA HX))
  replace HKA := zB ((zA HKA).trans hk0)
  clear hk0
  go_wp2_with fail
  refine ((zA HT) _).mono ?_
  clear HT HI
  rintro e w1 ⟨rfl, hk1⟩
  generalize hx : truV (!decide (a.n = 1)) = x at *
  have HXE := zB hx
  clear hx
  obtain ⟨z0, z1, z2, y0, y1, y2, s0, s1, s2⟩ := rF (zA HX) hk1 x
  have HK := zB (((zA HKA).trans hk1).fresh (by omega) (zK w1 (w.heap.size + 1) (.int .i64 x.kind) (.int .i64 x.n) (str x.s)))
  unfold ValA.v
  clear hk1
  go_wp2_with fail
  refine bodyPost_ret (v := .agg #[.int .i64 x.kind, .int .i64 x.n, str x.s]) (by simp [results, go_sem, s0, s1, s2]) rfl ?_
  exact ⟨by rw [zA HXE]; rfl, zA HK⟩
 ·rw [show oneV 9 a = numV (wrap64 (-a.n)) from rfl]
  go_enter Tryz.func49, Tryz.ntmps49
  go_wp2_with fail
  refine (number_v (wrap64 (-a.n)) _).mono ?_
  clear HI
  rintro e w1 ⟨rfl, hk1⟩
  generalize hx : numV (wrap64 (-a.n)) = x at *
  have HXE := zB hx
  clear hx
  obtain ⟨z0, z1, z2, y0, y1, y2, s0, s1, s2⟩ := rF (zA HX) hk1 x
  have HK := zB (((zA HKA).trans hk1).fresh (by omega) (zK w1 (w.heap.size + 1) (.int .i64 x.kind) (.int .i64 x.n) (str x.s)))
  unfold ValA.v
  clear hk1
  go_wp2_with fail
  refine bodyPost_ret (v := .agg #[.int .i64 x.kind, .int .i64 x.n, str x.s]) (by simp [results, go_sem, s0, s1, s2]) rfl ?_
  exact ⟨by rw [zA HXE]; rfl, zA HK⟩
 ·rw [show oneV 18 a = numV a.s.length from rfl]
  go_enter Tryz.func49, Tryz.ntmps49
  go_wp2_with fail
  refine (number_v a.s.length _).mono ?_
  clear HI
  rintro e w1 ⟨rfl, hk1⟩
  generalize hx : numV a.s.length = x at *
  have HXE := zB hx
  clear hx
  obtain ⟨z0, z1, z2, y0, y1, y2, s0, s1, s2⟩ := rF (zA HX) hk1 x
  have HK := zB (((zA HKA).trans hk1).fresh (by omega) (zK w1 (w.heap.size + 1) (.int .i64 x.kind) (.int .i64 x.n) (str x.s)))
  unfold ValA.v
  clear hk1
  go_wp2_with fail
  refine bodyPost_ret (v := .agg #[.int .i64 x.kind, .int .i64 x.n, str x.s]) (by simp [results, go_sem, s0, s1, s2]) rfl ?_
  exact ⟨by rw [zA HXE]; rfl, zA HK⟩
theorem ofTwo10_v (a b : ValA) (w : World) (ha : a.s.length ≤ 20) (hb : b.s.length ≤ 20) : Calls Tryz.prog 50 #[.int .i64 10, a.v, b.v] w fun e w' => e = .returned (twoV 10 a b).v ∧ Wp (fun _ => False) w w' := by
 have HKA := zB (((kA w (.cells #[.int .i64 a.kind, .int .i64 a.n, str a.s] 51)).alloc (.cells #[.int .i64 b.kind, .int .i64 b.n, str b.s] 51)).alloc (.cells #[.int .i64 0, .int .i64 0, .string ⟨#[]⟩] 51))
 have hX := heap_alloc_new ((w.alloc (.cells #[.int .i64 a.kind, .int .i64 a.n, str a.s] 51)).alloc (.cells #[.int .i64 b.kind, .int .i64 b.n, str b.s] 51)) (.cells #[.int .i64 0, .int .i64 0, .string ⟨#[]⟩] 51)
 rw [show ((w.alloc (.cells #[.int .i64 a.kind, .int .i64 a.n, str a.s] 51)).alloc (.cells #[.int .i64 b.kind, .int .i64 b.n, str b.s] 51)).heap.size = w.heap.size + 1 + 1 by simp] at hX
 have HX := zB hX
 clear hX
 have HO := zB (fun (W : World) => order_v a b W)
 have HC := zB (fun (W : World) => cat_v a b W ha hb)
 rw [show twoV 10 a b = numV (wrap64 (a.n + b.n)) from rfl]
 rw [show a.v = .agg #[.int .i64 a.kind, .int .i64 a.n, str a.s] from rfl, show b.v = .agg #[.int .i64 b.kind, .int .i64 b.n, str b.s] from rfl] at *
 clear HO HC
 go_enter Tryz.func50, Tryz.ntmps50
 go_wp2_with fail
 refine (number_v _ _).mono ?_
 rintro e w1 ⟨rfl, hk1⟩
 generalize hx : numV (wrap64 (a.n + b.n)) = x at *
 have HXE := zB hx
 clear hx
 obtain ⟨z0, z1, z2, y0, y1, y2, s0, s1, s2⟩ := rF (zA HX) hk1 x
 have HK := zB (((zA HKA).trans hk1).fresh (by omega) (zK w1 (w.heap.size + 1 + 1) (.int .i64 x.kind) (.int .i64 x.n) (str x.s)))
 unfold ValA.v
 clear hk1
 go_wp2_with fail
 refine bodyPost_ret (v := .agg #[.int .i64 x.kind, .int .i64 x.n, str x.s]) (by simp [results, go_sem, s0, s1, s2]) rfl ?_
 exact ⟨by rw [zA HXE]; rfl, zA HK⟩
theorem ofTwo11_v (a b : ValA) (w : World) (ha : a.s.length ≤ 20) (hb : b.s.length ≤ 20) : Calls Tryz.prog 50 #[.int .i64 11, a.v, b.v] w fun e w' => e = .returned (twoV 11 a b).v ∧ Wp (fun _ => False) w w' := by
 have HKA := zB (((kA w (.cells #[.int .i64 a.kind, .int .i64 a.n, str a.s] 51)).alloc (.cells #[.int .i64 b.kind, .int .i64 b.n, str b.s] 51)).alloc (.cells #[.int .i64 0, .int .i64 0, .string ⟨#[]⟩] 51))
 have hX := heap_alloc_new ((w.alloc (.cells #[.int .i64 a.kind, .int .i64 a.n, str a.s] 51)).alloc (.cells #[.int .i64 b.kind, .int .i64 b.n, str b.s] 51)) (.cells #[.int .i64 0, .int .i64 0, .string ⟨#[]⟩] 51)
 rw [show ((w.alloc (.cells #[.int .i64 a.kind, .int .i64 a.n, str a.s] 51)).alloc (.cells #[.int .i64 b.kind, .int .i64 b.n, str b.s] 51)).heap.size = w.heap.size + 1 + 1 by simp] at hX
 have HX := zB hX
 clear hX
 have HO := zB (fun (W : World) => order_v a b W)
 have HC := zB (fun (W : World) => cat_v a b W ha hb)
 rw [show twoV 11 a b = numV (wrap64 (a.n - b.n)) from rfl]
 rw [show a.v = .agg #[.int .i64 a.kind, .int .i64 a.n, str a.s] from rfl, show b.v = .agg #[.int .i64 b.kind, .int .i64 b.n, str b.s] from rfl] at *
 clear HO HC
 go_enter Tryz.func50, Tryz.ntmps50
 go_wp2_with fail
 refine (number_v _ _).mono ?_
 rintro e w1 ⟨rfl, hk1⟩
 generalize hx : numV (wrap64 (a.n - b.n)) = x at *
 have HXE := zB hx
 clear hx
 obtain ⟨z0, z1, z2, y0, y1, y2, s0, s1, s2⟩ := rF (zA HX) hk1 x
 have HK := zB (((zA HKA).trans hk1).fresh (by omega) (zK w1 (w.heap.size + 1 + 1) (.int .i64 x.kind) (.int .i64 x.n) (str x.s)))
 unfold ValA.v
 clear hk1
 go_wp2_with fail
 refine bodyPost_ret (v := .agg #[.int .i64 x.kind, .int .i64 x.n, str x.s]) (by simp [results, go_sem, s0, s1, s2]) rfl ?_
 exact ⟨by rw [zA HXE]; rfl, zA HK⟩
theorem ofTwo12_v (a b : ValA) (w : World) (ha : a.s.length ≤ 20) (hb : b.s.length ≤ 20) : Calls Tryz.prog 50 #[.int .i64 12, a.v, b.v] w fun e w' => e = .returned (twoV 12 a b).v ∧ Wp (fun _ => False) w w' := by
 have HKA := zB (((kA w (.cells #[.int .i64 a.kind, .int .i64 a.n, str a.s] 51)).alloc (.cells #[.int .i64 b.kind, .int .i64 b.n, str b.s] 51)).alloc (.cells #[.int .i64 0, .int .i64 0, .string ⟨#[]⟩] 51))
 have hX := heap_alloc_new ((w.alloc (.cells #[.int .i64 a.kind, .int .i64 a.n, str a.s] 51)).alloc (.cells #[.int .i64 b.kind, .int .i64 b.n, str b.s] 51)) (.cells #[.int .i64 0, .int .i64 0, .string ⟨#[]⟩] 51)
 rw [show ((w.alloc (.cells #[.int .i64 a.kind, .int .i64 a.n, str a.s] 51)).alloc (.cells #[.int .i64 b.kind, .int .i64 b.n, str b.s] 51)).heap.size = w.heap.size + 1 + 1 by simp] at hX
 have HX := zB hX
 clear hX
 have HO := zB (fun (W : World) => order_v a b W)
 have HC := zB (fun (W : World) => cat_v a b W ha hb)
 rw [show twoV 12 a b = numV (wrap64 (a.n * b.n)) from rfl]
 rw [show a.v = .agg #[.int .i64 a.kind, .int .i64 a.n, str a.s] from rfl, show b.v = .agg #[.int .i64 b.kind, .int .i64 b.n, str b.s] from rfl] at *
 clear HO HC
 go_enter Tryz.func50, Tryz.ntmps50
 go_wp2_with fail
 refine (number_v _ _).mono ?_
 rintro e w1 ⟨rfl, hk1⟩
 generalize hx : numV (wrap64 (a.n * b.n)) = x at *
 have HXE := zB hx
 clear hx
 obtain ⟨z0, z1, z2, y0, y1, y2, s0, s1, s2⟩ := rF (zA HX) hk1 x
 have HK := zB (((zA HKA).trans hk1).fresh (by omega) (zK w1 (w.heap.size + 1 + 1) (.int .i64 x.kind) (.int .i64 x.n) (str x.s)))
 unfold ValA.v
 clear hk1
 go_wp2_with fail
 refine bodyPost_ret (v := .agg #[.int .i64 x.kind, .int .i64 x.n, str x.s]) (by simp [results, go_sem, s0, s1, s2]) rfl ?_
 exact ⟨by rw [zA HXE]; rfl, zA HK⟩
theorem ofTwo13_v (a b : ValA) (w : World) (ha : a.s.length ≤ 20) (hb : b.s.length ≤ 20) : Calls Tryz.prog 50 #[.int .i64 13, a.v, b.v] w fun e w' => e = .returned (twoV 13 a b).v ∧ Wp (fun _ => False) w w' := by
 have HKA := zB (((kA w (.cells #[.int .i64 a.kind, .int .i64 a.n, str a.s] 51)).alloc (.cells #[.int .i64 b.kind, .int .i64 b.n, str b.s] 51)).alloc (.cells #[.int .i64 0, .int .i64 0, .string ⟨#[]⟩] 51))
 have hX := heap_alloc_new ((w.alloc (.cells #[.int .i64 a.kind, .int .i64 a.n, str a.s] 51)).alloc (.cells #[.int .i64 b.kind, .int .i64 b.n, str b.s] 51)) (.cells #[.int .i64 0, .int .i64 0, .string ⟨#[]⟩] 51)
 rw [show ((w.alloc (.cells #[.int .i64 a.kind, .int .i64 a.n, str a.s] 51)).alloc (.cells #[.int .i64 b.kind, .int .i64 b.n, str b.s] 51)).heap.size = w.heap.size + 1 + 1 by simp] at hX
 have HX := zB hX
 clear hX
 have HO := zB (fun (W : World) => order_v a b W)
 have HC := zB (fun (W : World) => cat_v a b W ha hb)
 rw [show twoV 13 a b = numV (min a.n b.n) from rfl]
 rw [show a.v = .agg #[.int .i64 a.kind, .int .i64 a.n, str a.s] from rfl, show b.v = .agg #[.int .i64 b.kind, .int .i64 b.n, str b.s] from rfl] at *
 clear HO HC
 go_enter Tryz.func50, Tryz.ntmps50
 go_wp2_with fail
 all_goals
  refine (number_v _ _).mono ?_
  first
   | rw [show numV a.n = numV (min a.n b.n) from congrArg numV (by omega)]
   | rw [show numV b.n = numV (min a.n b.n) from congrArg numV (by omega)]
  rintro e w1 ⟨rfl, hk1⟩
  generalize hx : numV (min a.n b.n) = x at *
  have HXE := zB hx
  clear hx
  obtain ⟨z0, z1, z2, y0, y1, y2, s0, s1, s2⟩ := rF (zA HX) hk1 x
  have HK := zB (((zA HKA).trans hk1).fresh (by omega) (zK w1 (w.heap.size + 1 + 1) (.int .i64 x.kind) (.int .i64 x.n) (str x.s)))
  unfold ValA.v
  clear hk1
  go_wp2_with fail
  refine bodyPost_ret (v := .agg #[.int .i64 x.kind, .int .i64 x.n, str x.s]) (by simp [results, go_sem, s0, s1, s2]) rfl ?_
  exact ⟨by rw [zA HXE]; rfl, zA HK⟩
theorem ofTwo14_v (a b : ValA) (w : World) (ha : a.s.length ≤ 20) (hb : b.s.length ≤ 20) : Calls Tryz.prog 50 #[.int .i64 14, a.v, b.v] w fun e w' => e = .returned (twoV 14 a b).v ∧ Wp (fun _ => False) w w' := by
 have HKA := zB (((kA w (.cells #[.int .i64 a.kind, .int .i64 a.n, str a.s] 51)).alloc (.cells #[.int .i64 b.kind, .int .i64 b.n, str b.s] 51)).alloc (.cells #[.int .i64 0, .int .i64 0, .string ⟨#[]⟩] 51))
 have hX := heap_alloc_new ((w.alloc (.cells #[.int .i64 a.kind, .int .i64 a.n, str a.s] 51)).alloc (.cells #[.int .i64 b.kind, .int .i64 b.n, str b.s] 51)) (.cells #[.int .i64 0, .int .i64 0, .string ⟨#[]⟩] 51)
 rw [show ((w.alloc (.cells #[.int .i64 a.kind, .int .i64 a.n, str a.s] 51)).alloc (.cells #[.int .i64 b.kind, .int .i64 b.n, str b.s] 51)).heap.size = w.heap.size + 1 + 1 by simp] at hX
 have HX := zB hX
 clear hX
 have HO := zB (fun (W : World) => order_v a b W)
 have HC := zB (fun (W : World) => cat_v a b W ha hb)
 rw [show twoV 14 a b = numV (max a.n b.n) from rfl]
 rw [show a.v = .agg #[.int .i64 a.kind, .int .i64 a.n, str a.s] from rfl, show b.v = .agg #[.int .i64 b.kind, .int .i64 b.n, str b.s] from rfl] at *
 clear HO HC
 go_enter Tryz.func50, Tryz.ntmps50
 go_wp2_with fail
 all_goals
  refine (number_v _ _).mono ?_
  first
   | rw [show numV a.n = numV (max a.n b.n) from congrArg numV (by omega)]
   | rw [show numV b.n = numV (max a.n b.n) from congrArg numV (by omega)]
  rintro e w1 ⟨rfl, hk1⟩
  generalize hx : numV (max a.n b.n) = x at *
  have HXE := zB hx
  clear hx
  obtain ⟨z0, z1, z2, y0, y1, y2, s0, s1, s2⟩ := rF (zA HX) hk1 x
  have HK := zB (((zA HKA).trans hk1).fresh (by omega) (zK w1 (w.heap.size + 1 + 1) (.int .i64 x.kind) (.int .i64 x.n) (str x.s)))
  unfold ValA.v
  clear hk1
  go_wp2_with fail
  refine bodyPost_ret (v := .agg #[.int .i64 x.kind, .int .i64 x.n, str x.s]) (by simp [results, go_sem, s0, s1, s2]) rfl ?_
  exact ⟨by rw [zA HXE]; rfl, zA HK⟩
theorem ofTwo15_v (a b : ValA) (w : World) (ha : a.s.length ≤ 20) (hb : b.s.length ≤ 20) : Calls Tryz.prog 50 #[.int .i64 15, a.v, b.v] w fun e w' => e = .returned (twoV 15 a b).v ∧ Wp (fun _ => False) w w' := by
 have HKA := zB (((kA w (.cells #[.int .i64 a.kind, .int .i64 a.n, str a.s] 51)).alloc (.cells #[.int .i64 b.kind, .int .i64 b.n, str b.s] 51)).alloc (.cells #[.int .i64 0, .int .i64 0, .string ⟨#[]⟩] 51))
 have hX := heap_alloc_new ((w.alloc (.cells #[.int .i64 a.kind, .int .i64 a.n, str a.s] 51)).alloc (.cells #[.int .i64 b.kind, .int .i64 b.n, str b.s] 51)) (.cells #[.int .i64 0, .int .i64 0, .string ⟨#[]⟩] 51)
 rw [show ((w.alloc (.cells #[.int .i64 a.kind, .int .i64 a.n, str a.s] 51)).alloc (.cells #[.int .i64 b.kind, .int .i64 b.n, str b.s] 51)).heap.size = w.heap.size + 1 + 1 by simp] at hX
 have HX := zB hX
 clear hX
 have HO := zB (fun (W : World) => order_v a b W)
 have HC := zB (fun (W : World) => cat_v a b W ha hb)
 rw [show twoV 15 a b = truV (decide (ordV a b < 0)) from rfl]
 rw [show a.v = .agg #[.int .i64 a.kind, .int .i64 a.n, str a.s] from rfl, show b.v = .agg #[.int .i64 b.kind, .int .i64 b.n, str b.s] from rfl] at *
 go_enter Tryz.func50, Tryz.ntmps50
 go_wp2_with fail
 refine ((zA HO) _).mono ?_
 rintro e w0 ⟨rfl, hk0⟩
 replace HX := zB ((hk0.block _ (zE (zA HX)) id).trans (zA HX))
 replace HKA := zB ((zA HKA).trans hk0)
 clear HO HC hk0
 go_wp2_with fail
 refine (truth_v _ _).mono ?_
 rintro e w1 ⟨rfl, hk1⟩
 generalize hx : truV (decide (ordV a b < 0)) = x at *
 have HXE := zB hx
 clear hx
 obtain ⟨z0, z1, z2, y0, y1, y2, s0, s1, s2⟩ := rF (zA HX) hk1 x
 have HK := zB (((zA HKA).trans hk1).fresh (by omega) (zK w1 (w.heap.size + 1 + 1) (.int .i64 x.kind) (.int .i64 x.n) (str x.s)))
 unfold ValA.v
 clear hk1
 go_wp2_with fail
 refine bodyPost_ret (v := .agg #[.int .i64 x.kind, .int .i64 x.n, str x.s]) (by simp [results, go_sem, s0, s1, s2]) rfl ?_
 exact ⟨by rw [zA HXE]; rfl, zA HK⟩
theorem ofTwo16_v (a b : ValA) (w : World) (ha : a.s.length ≤ 20) (hb : b.s.length ≤ 20) : Calls Tryz.prog 50 #[.int .i64 16, a.v, b.v] w fun e w' => e = .returned (twoV 16 a b).v ∧ Wp (fun _ => False) w w' := by
 have HKA := zB (((kA w (.cells #[.int .i64 a.kind, .int .i64 a.n, str a.s] 51)).alloc (.cells #[.int .i64 b.kind, .int .i64 b.n, str b.s] 51)).alloc (.cells #[.int .i64 0, .int .i64 0, .string ⟨#[]⟩] 51))
 have hX := heap_alloc_new ((w.alloc (.cells #[.int .i64 a.kind, .int .i64 a.n, str a.s] 51)).alloc (.cells #[.int .i64 b.kind, .int .i64 b.n, str b.s] 51)) (.cells #[.int .i64 0, .int .i64 0, .string ⟨#[]⟩] 51)
 rw [show ((w.alloc (.cells #[.int .i64 a.kind, .int .i64 a.n, str a.s] 51)).alloc (.cells #[.int .i64 b.kind, .int .i64 b.n, str b.s] 51)).heap.size = w.heap.size + 1 + 1 by simp] at hX
 have HX := zB hX
 clear hX
 have HO := zB (fun (W : World) => order_v a b W)
 have HC := zB (fun (W : World) => cat_v a b W ha hb)
 rw [show twoV 16 a b = truV (decide (ordV a b ≤ 0)) from rfl]
 rw [show a.v = .agg #[.int .i64 a.kind, .int .i64 a.n, str a.s] from rfl, show b.v = .agg #[.int .i64 b.kind, .int .i64 b.n, str b.s] from rfl] at *
 go_enter Tryz.func50, Tryz.ntmps50
 go_wp2_with fail
 refine ((zA HO) _).mono ?_
 rintro e w0 ⟨rfl, hk0⟩
 replace HX := zB ((hk0.block _ (zE (zA HX)) id).trans (zA HX))
 replace HKA := zB ((zA HKA).trans hk0)
 clear HO HC hk0
 go_wp2_with fail
 refine (truth_v _ _).mono ?_
 rintro e w1 ⟨rfl, hk1⟩
 generalize hx : truV (decide (ordV a b ≤ 0)) = x at *
 have HXE := zB hx
 clear hx
 obtain ⟨z0, z1, z2, y0, y1, y2, s0, s1, s2⟩ := rF (zA HX) hk1 x
 have HK := zB (((zA HKA).trans hk1).fresh (by omega) (zK w1 (w.heap.size + 1 + 1) (.int .i64 x.kind) (.int .i64 x.n) (str x.s)))
 unfold ValA.v
 clear hk1
 go_wp2_with fail
 refine bodyPost_ret (v := .agg #[.int .i64 x.kind, .int .i64 x.n, str x.s]) (by simp [results, go_sem, s0, s1, s2]) rfl ?_
 exact ⟨by rw [zA HXE]; rfl, zA HK⟩
theorem ofTwo17_v (a b : ValA) (w : World) (ha : a.s.length ≤ 20) (hb : b.s.length ≤ 20) : Calls Tryz.prog 50 #[.int .i64 17, a.v, b.v] w fun e w' => e = .returned (twoV 17 a b).v ∧ Wp (fun _ => False) w w' := by
 have HKA := zB (((kA w (.cells #[.int .i64 a.kind, .int .i64 a.n, str a.s] 51)).alloc (.cells #[.int .i64 b.kind, .int .i64 b.n, str b.s] 51)).alloc (.cells #[.int .i64 0, .int .i64 0, .string ⟨#[]⟩] 51))
 have hX := heap_alloc_new ((w.alloc (.cells #[.int .i64 a.kind, .int .i64 a.n, str a.s] 51)).alloc (.cells #[.int .i64 b.kind, .int .i64 b.n, str b.s] 51)) (.cells #[.int .i64 0, .int .i64 0, .string ⟨#[]⟩] 51)
 rw [show ((w.alloc (.cells #[.int .i64 a.kind, .int .i64 a.n, str a.s] 51)).alloc (.cells #[.int .i64 b.kind, .int .i64 b.n, str b.s] 51)).heap.size = w.heap.size + 1 + 1 by simp] at hX
 have HX := zB hX
 clear hX
 have HO := zB (fun (W : World) => order_v a b W)
 have HC := zB (fun (W : World) => cat_v a b W ha hb)
 rw [show twoV 17 a b = truV (decide (a = b)) from rfl]
 rw [show a.v = .agg #[.int .i64 a.kind, .int .i64 a.n, str a.s] from rfl, show b.v = .agg #[.int .i64 b.kind, .int .i64 b.n, str b.s] from rfl] at *
 clear HO HC
 obtain ⟨ak, an, ax⟩ := a
 obtain ⟨bk, bn, bx⟩ := b
 simp only at *
 by_cases h1 : ak = bk
 ·subst h1
  by_cases h2 : an = bn
  ·subst h2
   by_cases h3 : ax = bx
   ·subst h3
    rw [show decide ((⟨ak, an, ax⟩ : ValA) = (⟨ak, an, ax⟩ : ValA)) = true from decide_eq_true rfl]
    go_enter Tryz.func50, Tryz.ntmps50
    go_wp2_with fail
    refine (truth_v true _).mono ?_
    rintro e w1 ⟨rfl, hk1⟩
    generalize hx : truV true = x at *
    have HXE := zB hx
    clear hx
    obtain ⟨z0, z1, z2, y0, y1, y2, s0, s1, s2⟩ := rF (zA HX) hk1 x
    have HK := zB (((zA HKA).trans hk1).fresh (by omega) (zK w1 (w.heap.size + 1 + 1) (.int .i64 x.kind) (.int .i64 x.n) (str x.s)))
    unfold ValA.v
    clear hk1
    go_wp2_with fail
    refine bodyPost_ret (v := .agg #[.int .i64 x.kind, .int .i64 x.n, str x.s]) (by simp [results, go_sem, s0, s1, s2]) rfl ?_
    exact ⟨by rw [zA HXE]; rfl, zA HK⟩
   ·
    rw [show decide ((⟨ak, an, ax⟩ : ValA) = (⟨ak, an, bx⟩ : ValA)) = false from decide_eq_false (fun h => by simp only [ValA.mk.injEq] at h; simp_all)]
    go_enter Tryz.func50, Tryz.ntmps50
    go_wp2_with fail
    refine (truth_v false _).mono ?_
    rintro e w1 ⟨rfl, hk1⟩
    generalize hx : truV false = x at *
    have HXE := zB hx
    clear hx
    obtain ⟨z0, z1, z2, y0, y1, y2, s0, s1, s2⟩ := rF (zA HX) hk1 x
    have HK := zB (((zA HKA).trans hk1).fresh (by omega) (zK w1 (w.heap.size + 1 + 1) (.int .i64 x.kind) (.int .i64 x.n) (str x.s)))
    unfold ValA.v
    clear hk1
    go_wp2_with fail
    refine bodyPost_ret (v := .agg #[.int .i64 x.kind, .int .i64 x.n, str x.s]) (by simp [results, go_sem, s0, s1, s2]) rfl ?_
    exact ⟨by rw [zA HXE]; rfl, zA HK⟩
  ·
   rw [show decide ((⟨ak, an, ax⟩ : ValA) = (⟨ak, bn, bx⟩ : ValA)) = false from decide_eq_false (fun h => by simp only [ValA.mk.injEq] at h; simp_all)]
   go_enter Tryz.func50, Tryz.ntmps50
   go_wp2_with fail
   refine (truth_v false _).mono ?_
   rintro e w1 ⟨rfl, hk1⟩
   generalize hx : truV false = x at *
   have HXE := zB hx
   clear hx
   obtain ⟨z0, z1, z2, y0, y1, y2, s0, s1, s2⟩ := rF (zA HX) hk1 x
   have HK := zB (((zA HKA).trans hk1).fresh (by omega) (zK w1 (w.heap.size + 1 + 1) (.int .i64 x.kind) (.int .i64 x.n) (str x.s)))
   unfold ValA.v
   clear hk1
   go_wp2_with fail
   refine bodyPost_ret (v := .agg #[.int .i64 x.kind, .int .i64 x.n, str x.s]) (by simp [results, go_sem, s0, s1, s2]) rfl ?_
   exact ⟨by rw [zA HXE]; rfl, zA HK⟩
 ·
  rw [show decide ((⟨ak, an, ax⟩ : ValA) = (⟨bk, bn, bx⟩ : ValA)) = false from decide_eq_false (fun h => by simp only [ValA.mk.injEq] at h; simp_all)]
  go_enter Tryz.func50, Tryz.ntmps50
  go_wp2_with fail
  refine (truth_v false _).mono ?_
  rintro e w1 ⟨rfl, hk1⟩
  generalize hx : truV false = x at *
  have HXE := zB hx
  clear hx
  obtain ⟨z0, z1, z2, y0, y1, y2, s0, s1, s2⟩ := rF (zA HX) hk1 x
  have HK := zB (((zA HKA).trans hk1).fresh (by omega) (zK w1 (w.heap.size + 1 + 1) (.int .i64 x.kind) (.int .i64 x.n) (str x.s)))
  unfold ValA.v
  clear hk1
  go_wp2_with fail
  refine bodyPost_ret (v := .agg #[.int .i64 x.kind, .int .i64 x.n, str x.s]) (by simp [results, go_sem, s0, s1, s2]) rfl ?_
  exact ⟨by rw [zA HXE]; rfl, zA HK⟩
theorem ofTwo19_v (a b : ValA) (w : World) (ha : a.s.length ≤ 20) (hb : b.s.length ≤ 20) : Calls Tryz.prog 50 #[.int .i64 19, a.v, b.v] w fun e w' => e = .returned (twoV 19 a b).v ∧ Wp (fun _ => False) w w' := by
 have HKA := zB (((kA w (.cells #[.int .i64 a.kind, .int .i64 a.n, str a.s] 51)).alloc (.cells #[.int .i64 b.kind, .int .i64 b.n, str b.s] 51)).alloc (.cells #[.int .i64 0, .int .i64 0, .string ⟨#[]⟩] 51))
 have hX := heap_alloc_new ((w.alloc (.cells #[.int .i64 a.kind, .int .i64 a.n, str a.s] 51)).alloc (.cells #[.int .i64 b.kind, .int .i64 b.n, str b.s] 51)) (.cells #[.int .i64 0, .int .i64 0, .string ⟨#[]⟩] 51)
 rw [show ((w.alloc (.cells #[.int .i64 a.kind, .int .i64 a.n, str a.s] 51)).alloc (.cells #[.int .i64 b.kind, .int .i64 b.n, str b.s] 51)).heap.size = w.heap.size + 1 + 1 by simp] at hX
 have HX := zB hX
 clear hX
 have HO := zB (fun (W : World) => order_v a b W)
 have HC := zB (fun (W : World) => cat_v a b W ha hb)
 rw [show twoV 19 a b = bytV (catT a.s b.s) from rfl]
 rw [show a.v = .agg #[.int .i64 a.kind, .int .i64 a.n, str a.s] from rfl, show b.v = .agg #[.int .i64 b.kind, .int .i64 b.n, str b.s] from rfl] at *
 go_enter Tryz.func50, Tryz.ntmps50
 go_wp2_with fail
 refine ((zA HC) _).mono ?_
 clear HO HC
 rintro e w1 ⟨rfl, hk1⟩
 generalize hx : bytV (catT a.s b.s) = x at *
 have HXE := zB hx
 clear hx
 obtain ⟨z0, z1, z2, y0, y1, y2, s0, s1, s2⟩ := rF (zA HX) hk1 x
 have HK := zB (((zA HKA).trans hk1).fresh (by omega) (zK w1 (w.heap.size + 1 + 1) (.int .i64 x.kind) (.int .i64 x.n) (str x.s)))
 unfold ValA.v
 clear hk1
 go_wp2_with fail
 refine bodyPost_ret (v := .agg #[.int .i64 x.kind, .int .i64 x.n, str x.s]) (by simp [results, go_sem, s0, s1, s2]) rfl ?_
 exact ⟨by rw [zA HXE]; rfl, zA HK⟩
theorem vcs_one (G : List ValA) : ∀ u ∈ vcs G, u.oneCell' = true := by
 intro u hu
 unfold vcs at hu
 obtain ⟨x, _, hx⟩ := List.mem_flatMap.1 hu
 simp only [ValA.cs, List.mem_cons, List.not_mem_nil, or_false] at hx
 rcases hx with rfl | rfl | rfl <;> rfl
theorem run_appendV_none (w : World) (ty : TypeId) (ao : Option Addr) (n c xc : Nat) (hnc : n ≤ c) : (Builtin.append_ #[25, 25] ty #[.slice ao n c, .slice none 0 xc]).run Tryz.prog w = .ok (.slice ao n c) w := by
 obtain ⟨i0, hi, hz0, hz1, hz2⟩ := info_parts Tryz.info51
 cases ao <;> simp [Builtin.append_, Builtin.lenOf, Builtin.firstCells, storeCells, go_sem, sizeOf, typeInfo, hi, hnc]
theorem run_appendV_any (w : World) (ty : TypeId) (base : Nat) (v : Value) (n : Nat) (xs : List Value) (hown : w.ownsRow base 51 3 v n xs) (u : Value) (G : List ValA) (hu : Wr w u G) (h63 : n + G.length ≤ maxLen) (hbytes : n + G.length ≤ 4398046511104) (hbase : base ≤ w.heap.size) :
  ∃ v' w', (Builtin.append_ #[25, 25] ty #[v, u]).run Tryz.prog w = .ok v' w' ∧ w'.ownsRow base 51 3 v' (n + G.length) (xs ++ vcs G) ∧ w.grownBy w' v.ownBlock := by
 obtain ⟨i0, hi, hz0, hz1, hz2⟩ := info_parts Tryz.info51
 obtain ⟨uo, uc, rfl⟩ := Ws.form hu
 cases uo with
 | none =>
  have h0 : G.length = 0 := by
   rcases Nat.eq_zero_or_pos G.length with h | h
   ·exact h
   ·obtain ⟨b, off, cap, e, _⟩ := Ws.cells hu h
    simp at e
  have hG : G = [] := List.eq_nil_of_length_eq_zero h0
  subst hG
  obtain ⟨ao, c, rfl⟩ := (zG hown).form
  have hnc := (zG hown).room _ _ _ rfl
  exact ⟨_, w, run_appendV_none w ty ao n c uc hnc, by simpa [vcs] using hown, grownBy_refl _ _⟩
 | some ad =>
  obtain ⟨v', w', hr, h2, h3, _⟩ := run_append_own_at (P := Tryz.prog) w base 25 ty 51 i0 _ 3 32 Tryz.underlying25 hi hz0 hz1 hz2 rfl (by omega) v n xs hown ad G.length uc (vcs G) (vcs_length G) (fun j x hx => by
   have h0 : 0 < G.length := by
    have := (List.getElem?_eq_some_iff.1 hx).1
    rw [vcs_length] at this
    omega
   obtain ⟨b, off, cap, e, _, hc⟩ := Ws.cells hu h0
   simp at e
   obtain ⟨rfl, rfl⟩ := e
   have := hc j x hx
   rw [show (⟨b, off, none⟩ : Addr).add j = ⟨b, off + j, none⟩ by simp only [Addr.add_lit]]
   exact this) (vcs_one G) h63 (by omega) hbase
  exact ⟨v', w', hr, h2, h3⟩
theorem vcs_setk {R Z : List ValA} {t : Int} : (vcs (R ++ zeroVal :: Z)).toArray.setIfInBounds (R.length * 3) (.int .i64 t) = (vcs (R ++ ⟨t, 0, []⟩ :: Z)).toArray := by
 have hv : ∀ y : ValA, vcs (R ++ y :: Z) = vcs R ++ (y.cs ++ vcs Z) := fun y => by simp [vcs]
 have hl := vcs_length R
 rw [hv, hv, ← hl]
 apply Array.ext'
 simp [ValA.cs, zeroVal]
def zeroTo (l : List Wq) (k : Nat) : List ValA := zeros (l.take k) ++ List.replicate (l.length - k) zeroVal
theorem zeroTo_zero (l : List Wq) : zeroTo l 0 = List.replicate l.length zeroVal := by simp [zeroTo, zeros]
theorem zeroTo_full (l : List Wq) : zeroTo l l.length = zeros l := by simp [zeroTo]
theorem zeroTo_at {l : List Wq} {k : Nat} {f : Wq} (h : l[k]? = some f) : zeroTo l k = zeros (l.take k) ++ zeroVal :: List.replicate (l.length - (k + 1)) zeroVal ∧ zeroTo l (k + 1) = zeros (l.take k) ++ zeroV f :: List.replicate (l.length - (k + 1)) zeroVal := by
 have hl := get_lt h
 unfold zeroTo
 constructor
 ·rw [show l.length - k = (l.length - (k + 1)) + 1 by omega, List.replicate_succ]
 ·rw [take_snoc _ _ _ h, zeros_snoc, List.append_assoc]
  rfl
theorem zeros_take_len {l : List Wq} {k : Nat} (h : k ≤ l.length) : (zeros (l.take k)).length = k := by rw [zeros_length, List.length_take, Nat.min_eq_left h]
theorem zero_v (l : List Wq) (v : Value) (w : World) (h : Wt w v l) (hl8 : l.length ≤ 8) :
  Calls Tryz.prog 118 #[.agg #[v]] w fun e w' => ∃ g, e = .returned (.slice (some ⟨g, 0, none⟩) l.length l.length) ∧ w.heap.size ≤ g ∧ w'.heap[g]? = some (.cells (vcs (zeros l)).toArray 51 (0, 0)) ∧ Wp (fun _ => False) w w' := by
 obtain ⟨ao, cap, rfl⟩ := Ws.form h
 obtain ⟨HB, hb, hbc⟩ := boxed w #[.slice ao l.length cap] 24
 have hp := hbc 0 (.slice ao l.length cap) rfl
 have HF := zB (h.keepF (zA HB))
 clear hbc h
 have hmk := run_mkv l.length (by omega) (w.alloc (.cells #[.slice ao l.length cap] 24))
 have HG := zB (heap_alloc_new (w.alloc (.cells #[.slice ao l.length cap] 24)) (.cells (vcs (List.replicate l.length zeroVal)).toArray 51))
 have HA : Hid (Wp (fun q => w.heap.size + 1 ≤ q) (w.alloc (.cells #[.slice ao l.length cap] 24)) ((w.alloc (.cells #[.slice ao l.length cap] 24)).alloc (.cells (vcs (List.replicate l.length zeroVal)).toArray 51))) := (Wp.refl _ _).alloc _
 have hS3 : (w.alloc (.cells #[.slice ao l.length cap] 24)).heap.size = w.heap.size + 1 := by simp
 have hS4 : w.heap.size + 1 < ((w.alloc (.cells #[.slice ao l.length cap] 24)).alloc (.cells (vcs (List.replicate l.length zeroVal)).toArray 51)).heap.size := by simp
 have hp4 := ((zA HA).cell (o := 0) hb (by omega)).trans hp
 rw [hS3] at hmk HG
 have HS3 := zB hS3
 clear hS3
 go_enter Tryz.func118, Tryz.ntmps118
 go_wp2_with fail
 generalize (w.alloc (.cells #[.slice ao l.length cap] 24)).alloc (.cells (vcs (List.replicate l.length zeroVal)).toArray 51) = w4 at *
 generalize w.alloc (.cells #[.slice ao l.length cap] 24) = w3 at *
 clear hmk
 go_loopw [13] (fun i wr => ∃ (k : Nat), k ≤ l.length ∧ i = .int .i64 k ∧ Hid (wr.heap[w.heap.size + 1]? = some (.cells (vcs (zeroTo l k)).toArray 51 (0, 0))) ∧ Wp (fun q => w.heap.size + 1 ≤ q) w4 wr) (fun i _ => l.length - (intOf i).toNat)
 case atStart => exact ⟨0, Nat.zero_le _, rfl, by show _ = _; rw [zeroTo_zero]; exact zA HG, Wp.refl _ _⟩
 case round =>
  obtain ⟨k, hk, rfl, HBk, hkp⟩ := hrel
  have HK := zB ((zA HA).trans hkp)
  have HKP := zB hkp
  have hS5 : w.heap.size + 1 < wr.heap.size := Nat.lt_of_lt_of_le hS4 hkp.size
  clear hkp
  by_cases hlt : k < l.length
  ·obtain ⟨f, hf⟩ : ∃ f, l[k]? = some f := ⟨_, List.getElem?_eq_getElem hlt⟩
   obtain ⟨b5, off5, c5, e5, hbl, hc⟩ := (zA HF).cells (by omega)
   have hbl2 : ¬ w.heap.size + 1 ≤ b5 := by have := zA HS3; omega
   simp at e5
   obtain ⟨rfl, rfl⟩ := e5
   have c0 := ((zA HK).cell hbl hbl2).trans (hc k f hf).1
   have c1 := ((zA HK).cell hbl hbl2).trans (hc k f hf).2.1
   have c2 := ((zA HK).cell hbl hbl2).trans (hc k f hf).2.2
   have HZ := zB (zeroTo_at hf)
   have HKN := zB ((zA HKP).alloc (.cells #[str f.name, .int .i64 f.type, .bool f.opt] 58))
   have HBN : (wr.alloc (.cells #[str f.name, .int .i64 f.type, .bool f.opt] 58)).heap[w.heap.size + 1]? = some (.cells (vcs (zeros (l.take k) ++ zeroVal :: List.replicate (l.length - (k + 1)) zeroVal)).toArray 51 (0, 0)) := by
    rw [← (zA HZ).1]
    exact (Below.heap_alloc _ _ _ hS5).trans (zA HBk)
   have HRL := zB (zeros_take_len hk)
   obtain ⟨d0, d1, d2, g0, g1, g2⟩ := cells3 HBN (zA HRL)
   have HN := zB HBN
   have i5 : (k : Int) < (l.length : Int) := by omega
   have s0 : w.heap.size + 1 < (wr.alloc (.cells #[str f.name, .int .i64 f.type, .bool f.opt] 58)).heap.size := zE HBN
   clear hc hf HBN
   cases hfo : f.opt with
   | true =>
    rw [hfo] at c2 HKN HN d0 d1 d2 g0 g1 g2 s0
    have HE : Hid (zeroV f = zeroVal) := by show _ = _; unfold zeroV; rw [if_pos hfo]; rfl
    go_wp2_with fail
    go_roundw
    case rel => exact ⟨k + 1, by omega, by go_num, by show _ = _; rw [(zA HZ).2, zA HE]; exact zA HN, zA HKN⟩
    case measure => simp [intOf]; omega
   | false =>
    rw [hfo] at c2 HKN HN d0 d1 d2 g0 g1 g2 s0
    have HE : Hid (zeroV f = ⟨f.type, 0, []⟩) := by show _ = _; unfold zeroV; rw [if_neg (by simp [hfo])]
    go_wp2_with fail
    go_roundw
    case rel =>
     refine ⟨k + 1, by omega, by go_num, ?_, ((zA HKP).then (keeps_set _ _ _ _) (fun i _ e => by omega)).alloc _⟩
     show _ = _
     rw [(zA HZ).2, zA HE, ← vcs_setk, zA HRL, Below.heap_alloc _ _ _ (by simpa using hS5), ← (zA HZ).1]
     exact zH (zA HBk) _
    case measure => simp [intOf]; omega
  ·obtain rfl : k = l.length := by omega
   go_wp2_with fail
   go_ret
   refine ⟨_, rfl, by omega, ?_, (zA HB).narrow (F := fun q => w.heap.size + 1 ≤ q) (zA HK) (fun q hq => by omega)⟩
   have := zA HBk
   rw [zeroTo_full] at this
   exact this
theorem val_zero (l : List Wq) (v : Value) (w : World) (hT : Types w) (h : Wt w v l) :
  Calls Tryz.prog 78 #[.agg #[v]] w fun e w' => ∃ v', e = .returned v' ∧ w'.ownsRow w.heap.size 51 3 v' (zeroB l).length (vcs (zeroB l)) ∧ Wp (fun _ => False) w w' := by
 obtain ⟨ao, cap, rfl⟩ := Ws.form h
 obtain ⟨HB, hb, hbc⟩ := boxed w #[.slice ao l.length cap] 24
 have hp := hbc 0 (.slice ao l.length cap) rfl
 have HF := zB (h.keepF (zA HB))
 have HS := zB (checkSchema_v l _ _ (hT.keepF (zA HB)) (zA HF))
 clear hbc h hT
 go_enter Tryz.func78, Tryz.ntmps78
 go_wp2_with fail
 refine (zA HS).mono ?_
 rintro e w2 ⟨rfl, hk2⟩
 have hp2 := (hk2.cell (o := 0) hb id).trans hp
 have HF2 := zB ((zA HF).keepF hk2)
 have HB2 := zB ((zA HB).trans hk2)
 clear HS HF HB hk2 hp
 rcases errS_eq l with ⟨hs, he⟩ | ⟨hs, he⟩
 ·rw [he]
  have HZ : Hid (zeroB l = zeros l) := by show _ = _; simp [zeroB, hs]
  have HQ := zB (zero_v l _ _ (zA HF2) (schemaB_len hs).2)
  have hl8 := (schemaB_len hs).2
  clear hs he
  go_wp2_with fail
  refine (zA HQ).mono ?_
  rintro e w4 ⟨g, rfl, hg, hblk, hk4⟩
  have HG := zB hg
  have HBL := zB hblk
  have HK4 := zB hk4
  clear hg hblk hk4 HQ
  go_wp2_with fail
  go_ret
  refine ⟨_, rfl, ?_, (zA HB2).trans (zA HK4)⟩
  rw [zA HZ]
  exact owns_vals (Nat.le_trans (zA HB2).size (zA HG)) (by omega) (zeros_length l) (zA HBL)
 ·rw [he]
  have HZ : Hid (zeroB l = []) := by show _ = _; simp [zeroB, hs]
  clear hs he
  go_wp2_with fail
  go_ret
  refine ⟨_, rfl, ?_, zA HB2⟩
  rw [zA HZ]
  exact World.ownsRow_nil _ w.heap.size 51 3
structure MR (w0 w : World) (b : Nat) (sv rv : Value) (m : MS) : Prop where
 run : RunAt w b sv rv m
 kept : Wp (fun _ => False) w0 w
 new : w0.heap.size ≤ b
 own : m.here = true → w.ownsRow w0.heap.size 51 3 rv m.vals.length (vcs m.vals)
 abs : m.here = false → m.vals = [] ∧ w.ownsRow w0.heap.size 51 3 rv 0 []
 rty : ∀ q, rv.ownBlock = some q → w0.heap.size ≤ q ∧ ∃ cur, w.heap[q]? = some (.cells cur 51 (0, 0))
theorem MR.rlt {w0 w : World} {b : Nat} {sv rv : Value} {m : MS} (h : MR w0 w b sv rv m) (q : Nat) (e : rv.ownBlock = some q) : w0.heap.size ≤ q ∧ q < w.heap.size := by
 obtain ⟨h1, cur, h2⟩ := h.rty q e
 exact ⟨h1, zE h2⟩
theorem valsAt_nil {w w' : World} {v : Value} (h : Wr w v []) : Wr w' v [] := by
 obtain ⟨ao, c, rfl⟩ := Ws.form h
 have hr := Ws.room h
 exact ⟨⟨_, _, rfl⟩, fun h0 => by simp at h0, hr⟩
theorem MR.vals {w0 w : World} {b : Nat} {sv rv : Value} {m : MS} (h : MR w0 w b sv rv m) : Wr w rv m.vals := by
 cases hh : m.here with
 | true => exact zG (h.own hh)
 | false => obtain ⟨h1, h2⟩ := h.abs hh; rw [h1]; exact zG h2
theorem MR.ownR {w0 w : World} {b : Nat} {sv rv : Value} {m : MS} (h : MR w0 w b sv rv m) : w.ownsRow w0.heap.size 51 3 rv m.vals.length (vcs m.vals) := by
 cases hh : m.here with
 | true => exact h.own hh
 | false => obtain ⟨h1, h2⟩ := h.abs hh; rw [h1]; exact h2
theorem MR.keep {F : Nat → Prop} {w0 w w' : World} {b : Nat} {sv rv : Value} {m : MS} (h : MR w0 w b sv rv m) (hk : Wp F w w') (hF : ¬ F b) (hR : ∀ q, rv.ownBlock = some q → ¬ F q) (hN : ∀ q, q < w0.heap.size → ¬ F q) : MR w0 w' b sv rv m := by
 refine ⟨h.run.keep hk hF, h.kept.then hk (fun i hi e => hN i hi e), h.new, fun hh => zI (h.own hh) hk hR, fun hh => ⟨(h.abs hh).1, zI (h.abs hh).2 hk hR⟩, fun q e => ?_⟩
 obtain ⟨h1, cur, h2⟩ := h.rty q e
 exact ⟨h1, cur, (hk.block q (zE h2) (hR q e)).trans h2⟩
theorem MR.keepF {w0 w w' : World} {b : Nat} {sv rv : Value} {m : MS} (h : MR w0 w b sv rv m) (hk : Wp (fun _ => False) w w') : MR w0 w' b sv rv m := h.keep hk id (fun _ _ => id) (fun _ _ => id)
theorem MR.stack {w0 w w' : World} {b : Nat} {sv rv : Value} {m : MS} {st : List ValA} (h : MR w0 w b sv rv m) (hr : RunAt w' b sv rv ⟨st, m.here, m.vals⟩) (hk : Wp (fun q => q = b) w w') : MR w0 w' b sv rv ⟨st, m.here, m.vals⟩ := by
 obtain ⟨cur, hB, _⟩ := h.run.blk
 refine ⟨hr, h.kept.then hk (fun i hi e => by have := h.new; omega), h.new, fun hh => zI (h.own hh) hk (fun q e hq => ownsRow_ne (h.own hh) hB (by decide) (by rw [e, hq])), fun hh => ⟨(h.abs hh).1, zI (h.abs hh).2 hk (fun q e hq => ownsRow_ne (h.abs hh).2 hB (by decide) (by rw [e, hq]))⟩, fun q e => ?_⟩
 obtain ⟨h1, cur2, h2⟩ := h.rty q e
 have hne : ¬ q = b := fun q' => by subst q'; rw [hB] at h2; simp at h2
 exact ⟨h1, cur2, (hk.block q (zE h2) hne).trans h2⟩
theorem has_v {w0 w : World} {b : Nat} {sv rv : Value} {m : MS} (h : MR w0 w b sv rv m) (n : Nat) (hn : m.here = true → n < m.vals.length) :
  Calls Tryz.prog 80 #[.pointer (some ⟨b, 0, none⟩), .int .i64 (n : Int)] w fun e w' => e = .returned (.bool (hasB m n)) ∧ Wp (fun _ => False) w w' := by
 have hb := h.run.lt
 have c1 := h.run.c1
 have c2 := h.run.c2
 have HV := zB h.vals
 have HB : Hid (hasB m n = (m.here && !decide (((m.vals[n]?).getD zV).kind = 0))) := rfl
 generalize hasB m n = R at *
 cases hh : m.here with
 | false =>
  rw [hh] at c1 HB
  have HE : Hid (R = false) := by show _ = _; rw [zA HB]; rfl
  clear h HV HB hn
  go_enter Tryz.func80, Tryz.ntmps80
  go_wp2_with fail
  go_ret
  exact ⟨ret_bool (zA HE).symm, Wp.refl _ _⟩
 | true =>
  rw [hh] at c1 HB
  have hlt := hn hh
  obtain ⟨x, hx⟩ : ∃ x, m.vals[n]? = some x := ⟨_, List.getElem?_eq_getElem hlt⟩
  obtain ⟨rb, off, rc, e, hbl, hc⟩ := (zA HV).cells (by omega)
  subst e
  have d0 := (hc n x hx).1
  have HE : Hid (R = !decide (x.kind = 0)) := by show _ = _; rw [zA HB, hx]; rfl
  have i0 : (0 : Int) ≤ (n : Int) := by omega
  have i1 : (n : Int) < (m.vals.length : Int) := by omega
  clear h HV HB hn hc hx
  go_enter Tryz.func80, Tryz.ntmps80
  go_wp2_with fail
  go_ret
  exact ⟨ret_bool ((zA HE).symm ▸ rfl), Wp.refl _ _⟩
theorem load_v {w0 w : World} {b : Nat} {sv rv : Value} {m : MS} (S : List Wq) (h : MR w0 w b sv rv m) (hS : Wt w0 sv S) (n : Nat) (hn : m.here = true → n < m.vals.length) (hns : n < S.length) :
  Calls Tryz.prog 77 #[.pointer (some ⟨b, 0, none⟩), .int .i64 (n : Int)] w fun e w' => e = .returned (loadV S m n).v ∧ Wp (fun _ => False) w w' := by
 have HKA := zB (kA w (.cells #[.int .i64 0, .int .i64 0, .string ⟨#[]⟩] 51))
 have h1 := h.keepF (zA HKA)
 have HX := zB (heap_alloc_new w (.cells #[.int .i64 0, .int .i64 0, .string ⟨#[]⟩] 51))
 have HH := zB (has_v h1 n hn)
 have HL : Hid (loadV S m n = if hasB m n then (m.vals[n]?).getD zV else ⟨((S[n]?).map Wq.type).getD 0, 0, []⟩) := rfl
 have HM := zB h1
 obtain ⟨f, hf⟩ : ∃ f, S[n]? = some f := ⟨_, List.getElem?_eq_getElem hns⟩
 obtain ⟨sb, so, sc, e, hbl, hc⟩ := hS.cells (by omega)
 subst e
 have HC := zB (hc n f hf).2.1
 have HHB : Hid (hasB m n = true → m.here = true) := fun q => by unfold hasB at q; simp at q; exact q.1
 have i0 : (0 : Int) ≤ (n : Int) := by omega
 have i1 : (n : Int) < (S.length : Int) := by omega
 generalize loadV S m n = R at *
 clear hc h1
 go_enter Tryz.func77, Tryz.ntmps77
 go_wp2_with fail
 refine (zA HH).mono ?_
 rintro e w1 ⟨rfl, hk1⟩
 have HM1 := zB ((zA HM).keepF hk1)
 have c0 := (zA HM1).run.c0
 have c2 := (zA HM1).run.c2
 have cf := ((zA HM1).kept.cell (o := so + n * 3 + 1) hbl id).trans (zA HC)
 have hb1 := (zA HM1).run.lt
 cases hb : hasB m n with
 | false =>
  have HR : Hid (R = ⟨f.type, 0, []⟩) := by show _ = _; rw [zA HL, hb, hf]; rfl
  obtain ⟨z0, z1, z2, y0, y1, y2, s0, s1, s2⟩ := rF (zA HX) hk1 ⟨f.type, 0, []⟩
  have HK := zB (((zA HKA).trans hk1).fresh (Nat.le_refl _) (zK w1 w.heap.size (.int .i64 f.type) (.int .i64 0) (str [])))
  clear hk1 HH HL HHB hn
  go_wp2_with fail
  refine bodyPost_ret (v := .agg #[.int .i64 f.type, .int .i64 0, .string ⟨#[]⟩]) (by simp [results, go_sem, s0, s1, s2]) rfl ?_
  exact ⟨by rw [zA HR]; rfl, zA HK⟩
 | true =>
  have hh := (zA HHB) hb
  have hlt := hn hh
  obtain ⟨x, hx⟩ : ∃ x, m.vals[n]? = some x := ⟨_, List.getElem?_eq_getElem hlt⟩
  obtain ⟨rb, off, rc, e, hrl, hc⟩ := (zA HM1).vals.cells (by omega)
  subst e
  have d0 := (hc n x hx).1
  have d1 := (hc n x hx).2.1
  have d2 := (hc n x hx).2.2
  have HR : Hid (R = x) := by show _ = _; rw [zA HL, hb, hx]; rfl
  have i2 : (n : Int) < (m.vals.length : Int) := by omega
  obtain ⟨z0, z1, z2, y0, y1, y2, s0, s1, s2⟩ := rF (zA HX) hk1 x
  have HK := zB (((zA HKA).trans hk1).fresh (Nat.le_refl _) (zK w1 w.heap.size (.int .i64 x.kind) (.int .i64 x.n) (str x.s)))
  clear hk1 HH HL HHB hn hc
  go_wp2_with fail
  refine bodyPost_ret (v := .agg #[.int .i64 x.kind, .int .i64 x.n, str x.s]) (by simp [results, go_sem, s0, s1, s2]) rfl ?_
  exact ⟨by rw [zA HR]; rfl, zA HK⟩
end Go.Proofs.YtbdlcaamanhapaaGreatDoor
