import Derived.Test.YtbdlcaamanhapaaGreatDoorJzau
import Derived.Test.YtbdlcaamanhapaaGreatDoorJzas
import Derived.Test.YtbdlcaamanhapaaGreatDoorJzat
namespace Go.Proofs.YtbdlcaamanhapaaGreatDoor
open Go.RowKit Go.Maps
set_option maxRecDepth 100000
set_option maxHeartbeats 2000000
theorem below_v (a b : Txt) (w : World) (hla : a.length ≤ 1024) : Calls Tryz.prog 126 #[str a, str b] w fun e w' => e = .returned (.bool (Op.bytesLess a b)) ∧ Wp (fun _ => False) w w' := by
 have H0 : Hid (Op.bytesLess (a.drop 0) (b.drop 0) = Op.bytesLess a b) := rfl
 generalize Op.bytesLess a b = R at *
 go_enter Tryz.func126, Tryz.ntmps126
 go_wp2_with fail
 go_loopw [5] (fun i wr => ∃ k : Nat, k ≤ a.length ∧ k ≤ b.length ∧ i = .int .i64 k ∧ Hid (Op.bytesLess (a.drop k) (b.drop k) = R) ∧ Wp (fun _ => False) w wr) (fun i _ => a.length - (intOf i).toNat)
 case atStart => exact ⟨0, Nat.zero_le _, Nat.zero_le _, rfl, H0, Wp.refl _ _⟩
 case round =>
  obtain ⟨k, hk, hk2, rfl, HS, hkeep⟩ := hrel
  have HK := zB hkeep
  clear hkeep
  by_cases h1 : k < a.length
  ·by_cases h2 : k < b.length
   ·obtain ⟨x, hx⟩ : ∃ x, a[k]? = some x := ⟨_, List.getElem?_eq_getElem h1⟩
    obtain ⟨y, hy⟩ : ∃ y, b[k]? = some y := ⟨_, List.getElem?_eq_getElem h2⟩
    have i1 : (k : Int) < (a.length : Int) := by omega
    have i2 : (k : Int) < (b.length : Int) := by omega
    have i0 : (0 : Int) ≤ (k : Int) := by omega
    have a1 := str_at hx
    have b1 := str_at hy
    have HE := zB (less_step hx hy)
    clear hx hy
    by_cases hxy : x = y
    ·subst hxy
     have HN : Hid (Op.bytesLess (a.drop (k + 1)) (b.drop (k + 1)) = R) := by
      show _ = _
      rw [← zA HS, zA HE]
      simp
     clear HS HE
     go_wp2_with fail
     go_region
     go_wp2_with fail
     go_roundw
     case rel => exact ⟨k + 1, by omega, by omega, by go_num, HN, (zA HK).drew⟩
     case measure => simp [intOf]; omega
    ·have HR : Hid (R = decide (x < y)) := by
      show _ = _
      rw [← zA HS, zA HE]
      simp [hxy]
     have hne0 : ¬ (x.toNat : Int) = (y.toNat : Int) := fun q => hxy (UInt8.toNat_inj.1 (by omega))
     have hne1 : ((x.toNat : Int) != (y.toNat : Int)) = true := by rw [bne_iff_ne]; exact hne0
     have hne2 : ((x.toNat : Int) == (y.toNat : Int)) = false := by simpa using hne0
     clear HS HE
     go_wp2_with fail
     go_region
     go_wp2_with fail
     go_region
     go_wp2_with fail
     go_ret
     refine ⟨ret_bool ?_, (zA HK).drew.drew⟩
     rw [zA HR]
     apply Bool.eq_iff_iff.2
     simp only [decide_eq_true_eq, UInt8.lt_iff_toNat_lt]
   ·have i1 : (k : Int) < (a.length : Int) := by omega
    have i2 : ¬ (k : Int) < (b.length : Int) := by omega
    have HE : Hid (R = decide (a.length < b.length)) := by show _ = _; rw [← zA HS]; exact less_end (Or.inr (by omega)) ⟨hk, hk2⟩
    clear HS
    go_wp2_with fail
    go_ret
    exact ⟨ret_bool (zA HE).symm, zA HK⟩
  ·have i1 : ¬ (k : Int) < (a.length : Int) := by omega
   have HE : Hid (R = decide (a.length < b.length)) := by show _ = _; rw [← zA HS]; exact less_end (Or.inl (by omega)) ⟨hk, hk2⟩
   clear HS
   go_wp2_with fail
   go_ret
   exact ⟨ret_bool (zA HE).symm, zA HK⟩
theorem lessB_v (a b : ValA) (w : World) (ha : a.s.length ≤ 20) : Calls Tryz.prog 94 #[a.v, b.v] w fun e w' => e = .returned (.bool (lessR a b)) ∧ Wp (fun _ => False) w w' := by
 have HKA := zB ((kA w (.cells #[.int .i64 a.kind, .int .i64 a.n, str a.s] 51)).alloc (.cells #[.int .i64 b.kind, .int .i64 b.n, str b.s] 51))
 have HB := zB (fun (W : World) => below_v a.s b.s W (by omega))
 have HE : Hid (lessR a b = if a.kind = 3 then Op.bytesLess a.s b.s else decide (a.n < b.n)) := rfl
 generalize lessR a b = R at *
 generalize Op.bytesLess a.s b.s = Q at *
 obtain ⟨k, n, s⟩ := a
 obtain ⟨k', n', s'⟩ := b
 unfold ValA.v
 simp only at *
 by_cases h3 : k = 3
 ·rw [if_pos h3] at HE
  subst h3
  go_enter Tryz.func94, Tryz.ntmps94
  go_wp2_with fail
  refine ((zA HB) _).mono ?_
  rintro e w0 ⟨rfl, hk0⟩
  go_wp2_with fail
  go_ret
  exact ⟨ret_bool (zA HE).symm, (zA HKA).trans hk0⟩
 ·rw [if_neg h3] at HE
  have h3' : (k == 3) = false := by simpa using h3
  clear HB
  go_enter Tryz.func94, Tryz.ntmps94
  go_wp2_with fail
  go_ret
  exact ⟨ret_bool (zA HE).symm, zA HKA⟩
theorem catR_v (ax bx : Txt) (w : World) (ha : ax.length ≤ 20) (hb : bx.length ≤ 20) : Calls Tryz.prog 95 #[str ax, str bx] w fun e w' => e = .returned (str (catT ax bx)) ∧ Wp (fun _ => False) w w' := by
 have HC : Hid (catT ax bx = (ax ++ bx).take 20) := rfl
 generalize catT ax bx = C at *
 have i0 : ¬ 9223372036854775807 < ax.length + bx.length := by omega
 have ext : ∀ k : Nat, ((⟨ax.toArray⟩ : ByteArray) ++ ⟨bx.toArray⟩).extract 0 k = ⟨((ax ++ bx).take k).toArray⟩ := fun k => by
  apply ByteArray.ext
  rw [ByteArray.data_extract]
  show (ax ++ bx).toArray.extract 0 k = _
  simp
 have HE1 : Hid (((⟨ax.toArray⟩ : ByteArray) ++ ⟨bx.toArray⟩).extract 0 20 = ⟨C.toArray⟩) := by show _ = _; rw [ext, ← zA HC]
 have HE2 : Hid ((ax.length : Int) + (bx.length : Int) ≤ 20 → ((⟨ax.toArray⟩ : ByteArray) ++ ⟨bx.toArray⟩) = ⟨C.toArray⟩) := fun h => by
  rw [zA HC, List.take_of_length_le (by simp; omega)]
  apply ByteArray.ext
  simp
 clear ext
 go_enter Tryz.func95, Tryz.ntmps95
 go_wp2_with fail
 all_goals
  go_ret
  refine ⟨?_, Wp.refl _ _⟩
  first
   | (rw [zA HE1]; rfl)
   | (rw [(zA HE2) (by omega)]; rfl)
theorem joins10_v (a b : ValA) (w : World) : Calls Tryz.prog 62 #[.int .i64 10, a.v, b.v] w fun e w' => e = .returned (.tuple #[(twoV 10 a b).v, .bool true]) ∧ Wp (fun _ => False) w w' := by
 have HKA := zB (((kA w (.cells #[.int .i64 a.kind, .int .i64 a.n, str a.s] 51)).alloc (.cells #[.int .i64 b.kind, .int .i64 b.n, str b.s] 51)).alloc (.cells #[.int .i64 0, .int .i64 0, .string ⟨#[]⟩] 51))
 have hX := heap_alloc_new ((w.alloc (.cells #[.int .i64 a.kind, .int .i64 a.n, str a.s] 51)).alloc (.cells #[.int .i64 b.kind, .int .i64 b.n, str b.s] 51)) (.cells #[.int .i64 0, .int .i64 0, .string ⟨#[]⟩] 51)
 rw [show ((w.alloc (.cells #[.int .i64 a.kind, .int .i64 a.n, str a.s] 51)).alloc (.cells #[.int .i64 b.kind, .int .i64 b.n, str b.s] 51)).heap.size = w.heap.size + 1 + 1 by simp] at hX
 have HX := zB hX
 clear hX
 rw [show twoV 10 a b = numV (wrap64 (a.n + b.n)) from rfl]
 rw [show a.v = .agg #[.int .i64 a.kind, .int .i64 a.n, str a.s] from rfl, show b.v = .agg #[.int .i64 b.kind, .int .i64 b.n, str b.s] from rfl] at *
 go_enter Tryz.func62, Tryz.ntmps62
 go_wp2_with fail
 refine (numR_v _ _).mono ?_
 rintro e w1 ⟨rfl, hk1⟩
 generalize hx : numV (wrap64 (a.n + b.n)) = x at *
 have HXE := zB hx
 clear hx
 obtain ⟨z0, z1, z2, y0, y1, y2, s0, s1, s2⟩ := rF (zA HX) hk1 x
 have HK := zB (((zA HKA).trans hk1).fresh (by omega) (zK w1 (w.heap.size + 1 + 1) (.int .i64 x.kind) (.int .i64 x.n) (str x.s)))
 unfold ValA.v
 clear hk1
 go_wp2_with fail
 refine bodyPost_ret (v := .tuple #[.agg #[.int .i64 x.kind, .int .i64 x.n, str x.s], .bool true]) (by simp [results, go_sem, s0, s1, s2]) rfl ?_
 exact ⟨by rw [zA HXE]; rfl, zA HK⟩
theorem joins11_v (a b : ValA) (w : World) : Calls Tryz.prog 62 #[.int .i64 11, a.v, b.v] w fun e w' => e = .returned (.tuple #[(twoV 11 a b).v, .bool true]) ∧ Wp (fun _ => False) w w' := by
 have HKA := zB (((kA w (.cells #[.int .i64 a.kind, .int .i64 a.n, str a.s] 51)).alloc (.cells #[.int .i64 b.kind, .int .i64 b.n, str b.s] 51)).alloc (.cells #[.int .i64 0, .int .i64 0, .string ⟨#[]⟩] 51))
 have hX := heap_alloc_new ((w.alloc (.cells #[.int .i64 a.kind, .int .i64 a.n, str a.s] 51)).alloc (.cells #[.int .i64 b.kind, .int .i64 b.n, str b.s] 51)) (.cells #[.int .i64 0, .int .i64 0, .string ⟨#[]⟩] 51)
 rw [show ((w.alloc (.cells #[.int .i64 a.kind, .int .i64 a.n, str a.s] 51)).alloc (.cells #[.int .i64 b.kind, .int .i64 b.n, str b.s] 51)).heap.size = w.heap.size + 1 + 1 by simp] at hX
 have HX := zB hX
 clear hX
 rw [show twoV 11 a b = numV (wrap64 (a.n - b.n)) from rfl]
 rw [show a.v = .agg #[.int .i64 a.kind, .int .i64 a.n, str a.s] from rfl, show b.v = .agg #[.int .i64 b.kind, .int .i64 b.n, str b.s] from rfl] at *
 go_enter Tryz.func62, Tryz.ntmps62
 go_wp2_with fail
 refine (numR_v _ _).mono ?_
 rintro e w1 ⟨rfl, hk1⟩
 generalize hx : numV (wrap64 (a.n - b.n)) = x at *
 have HXE := zB hx
 clear hx
 obtain ⟨z0, z1, z2, y0, y1, y2, s0, s1, s2⟩ := rF (zA HX) hk1 x
 have HK := zB (((zA HKA).trans hk1).fresh (by omega) (zK w1 (w.heap.size + 1 + 1) (.int .i64 x.kind) (.int .i64 x.n) (str x.s)))
 unfold ValA.v
 clear hk1
 go_wp2_with fail
 refine bodyPost_ret (v := .tuple #[.agg #[.int .i64 x.kind, .int .i64 x.n, str x.s], .bool true]) (by simp [results, go_sem, s0, s1, s2]) rfl ?_
 exact ⟨by rw [zA HXE]; rfl, zA HK⟩
theorem joins12_v (a b : ValA) (w : World) : Calls Tryz.prog 62 #[.int .i64 12, a.v, b.v] w fun e w' => e = .returned (.tuple #[(twoV 12 a b).v, .bool true]) ∧ Wp (fun _ => False) w w' := by
 have HKA := zB (((kA w (.cells #[.int .i64 a.kind, .int .i64 a.n, str a.s] 51)).alloc (.cells #[.int .i64 b.kind, .int .i64 b.n, str b.s] 51)).alloc (.cells #[.int .i64 0, .int .i64 0, .string ⟨#[]⟩] 51))
 have hX := heap_alloc_new ((w.alloc (.cells #[.int .i64 a.kind, .int .i64 a.n, str a.s] 51)).alloc (.cells #[.int .i64 b.kind, .int .i64 b.n, str b.s] 51)) (.cells #[.int .i64 0, .int .i64 0, .string ⟨#[]⟩] 51)
 rw [show ((w.alloc (.cells #[.int .i64 a.kind, .int .i64 a.n, str a.s] 51)).alloc (.cells #[.int .i64 b.kind, .int .i64 b.n, str b.s] 51)).heap.size = w.heap.size + 1 + 1 by simp] at hX
 have HX := zB hX
 clear hX
 rw [show twoV 12 a b = numV (wrap64 (a.n * b.n)) from rfl]
 rw [show a.v = .agg #[.int .i64 a.kind, .int .i64 a.n, str a.s] from rfl, show b.v = .agg #[.int .i64 b.kind, .int .i64 b.n, str b.s] from rfl] at *
 go_enter Tryz.func62, Tryz.ntmps62
 go_wp2_with fail
 refine (numR_v _ _).mono ?_
 rintro e w1 ⟨rfl, hk1⟩
 generalize hx : numV (wrap64 (a.n * b.n)) = x at *
 have HXE := zB hx
 clear hx
 obtain ⟨z0, z1, z2, y0, y1, y2, s0, s1, s2⟩ := rF (zA HX) hk1 x
 have HK := zB (((zA HKA).trans hk1).fresh (by omega) (zK w1 (w.heap.size + 1 + 1) (.int .i64 x.kind) (.int .i64 x.n) (str x.s)))
 unfold ValA.v
 clear hk1
 go_wp2_with fail
 refine bodyPost_ret (v := .tuple #[.agg #[.int .i64 x.kind, .int .i64 x.n, str x.s], .bool true]) (by simp [results, go_sem, s0, s1, s2]) rfl ?_
 exact ⟨by rw [zA HXE]; rfl, zA HK⟩
theorem joins13_v (a b : ValA) (w : World) : Calls Tryz.prog 62 #[.int .i64 13, a.v, b.v] w fun e w' => e = .returned (.tuple #[(twoV 13 a b).v, .bool true]) ∧ Wp (fun _ => False) w w' := by
 have HKA := zB (((kA w (.cells #[.int .i64 a.kind, .int .i64 a.n, str a.s] 51)).alloc (.cells #[.int .i64 b.kind, .int .i64 b.n, str b.s] 51)).alloc (.cells #[.int .i64 0, .int .i64 0, .string ⟨#[]⟩] 51))
 have hX := heap_alloc_new ((w.alloc (.cells #[.int .i64 a.kind, .int .i64 a.n, str a.s] 51)).alloc (.cells #[.int .i64 b.kind, .int .i64 b.n, str b.s] 51)) (.cells #[.int .i64 0, .int .i64 0, .string ⟨#[]⟩] 51)
 rw [show ((w.alloc (.cells #[.int .i64 a.kind, .int .i64 a.n, str a.s] 51)).alloc (.cells #[.int .i64 b.kind, .int .i64 b.n, str b.s] 51)).heap.size = w.heap.size + 1 + 1 by simp] at hX
 have HX := zB hX
 clear hX
 rw [show twoV 13 a b = numV (min a.n b.n) from rfl]
 rw [show a.v = .agg #[.int .i64 a.kind, .int .i64 a.n, str a.s] from rfl, show b.v = .agg #[.int .i64 b.kind, .int .i64 b.n, str b.s] from rfl] at *
 go_enter Tryz.func62, Tryz.ntmps62
 go_wp2_with fail
 all_goals
  refine (numR_v _ _).mono ?_
  first
   | rw [show numV a.n = numV (min a.n b.n) from congrArg numV (by omega)]
   | rw [show numV b.n = numV (min a.n b.n) from congrArg numV (by omega)]
  rintro e w1 ⟨rfl, hk1⟩
  generalize hx : numV (min a.n b.n) = x at *
  have HXE := zB hx
  clear hx
  obtain ⟨z0, z1, z2, y0, y1, y2, s0, s1, s2⟩ := rF (zA HX) hk1 x
  have HK := zB (((zA HKA).trans hk1).fresh (by omega) (zK w1 (w.heap.size + 1 + 1) (.int .i64 x.kind) (.int .i64 x.n) (str x.s)))
  unfold ValA.v
  clear hk1
  go_wp2_with fail
  refine bodyPost_ret (v := .tuple #[.agg #[.int .i64 x.kind, .int .i64 x.n, str x.s], .bool true]) (by simp [results, go_sem, s0, s1, s2]) rfl ?_
  exact ⟨by rw [zA HXE]; rfl, zA HK⟩
theorem joins14_v (a b : ValA) (w : World) : Calls Tryz.prog 62 #[.int .i64 14, a.v, b.v] w fun e w' => e = .returned (.tuple #[(twoV 14 a b).v, .bool true]) ∧ Wp (fun _ => False) w w' := by
 have HKA := zB (((kA w (.cells #[.int .i64 a.kind, .int .i64 a.n, str a.s] 51)).alloc (.cells #[.int .i64 b.kind, .int .i64 b.n, str b.s] 51)).alloc (.cells #[.int .i64 0, .int .i64 0, .string ⟨#[]⟩] 51))
 have hX := heap_alloc_new ((w.alloc (.cells #[.int .i64 a.kind, .int .i64 a.n, str a.s] 51)).alloc (.cells #[.int .i64 b.kind, .int .i64 b.n, str b.s] 51)) (.cells #[.int .i64 0, .int .i64 0, .string ⟨#[]⟩] 51)
 rw [show ((w.alloc (.cells #[.int .i64 a.kind, .int .i64 a.n, str a.s] 51)).alloc (.cells #[.int .i64 b.kind, .int .i64 b.n, str b.s] 51)).heap.size = w.heap.size + 1 + 1 by simp] at hX
 have HX := zB hX
 clear hX
 rw [show twoV 14 a b = numV (max a.n b.n) from rfl]
 rw [show a.v = .agg #[.int .i64 a.kind, .int .i64 a.n, str a.s] from rfl, show b.v = .agg #[.int .i64 b.kind, .int .i64 b.n, str b.s] from rfl] at *
 go_enter Tryz.func62, Tryz.ntmps62
 go_wp2_with fail
 all_goals
  refine (numR_v _ _).mono ?_
  first
   | rw [show numV a.n = numV (max a.n b.n) from congrArg numV (by omega)]
   | rw [show numV b.n = numV (max a.n b.n) from congrArg numV (by omega)]
  rintro e w1 ⟨rfl, hk1⟩
  generalize hx : numV (max a.n b.n) = x at *
  have HXE := zB hx
  clear hx
  obtain ⟨z0, z1, z2, y0, y1, y2, s0, s1, s2⟩ := rF (zA HX) hk1 x
  have HK := zB (((zA HKA).trans hk1).fresh (by omega) (zK w1 (w.heap.size + 1 + 1) (.int .i64 x.kind) (.int .i64 x.n) (str x.s)))
  unfold ValA.v
  clear hk1
  go_wp2_with fail
  refine bodyPost_ret (v := .tuple #[.agg #[.int .i64 x.kind, .int .i64 x.n, str x.s], .bool true]) (by simp [results, go_sem, s0, s1, s2]) rfl ?_
  exact ⟨by rw [zA HXE]; rfl, zA HK⟩
theorem joins15_v (a b : ValA) (w : World) (ha : goodV a) (hb : goodV b) (hk : a.kind = b.kind) : Calls Tryz.prog 62 #[.int .i64 15, a.v, b.v] w fun e w' => e = .returned (.tuple #[(twoV 15 a b).v, .bool true]) ∧ Wp (fun _ => False) w w' := by
 have HKA := zB (((kA w (.cells #[.int .i64 a.kind, .int .i64 a.n, str a.s] 51)).alloc (.cells #[.int .i64 b.kind, .int .i64 b.n, str b.s] 51)).alloc (.cells #[.int .i64 0, .int .i64 0, .string ⟨#[]⟩] 51))
 have hX := heap_alloc_new ((w.alloc (.cells #[.int .i64 a.kind, .int .i64 a.n, str a.s] 51)).alloc (.cells #[.int .i64 b.kind, .int .i64 b.n, str b.s] 51)) (.cells #[.int .i64 0, .int .i64 0, .string ⟨#[]⟩] 51)
 rw [show ((w.alloc (.cells #[.int .i64 a.kind, .int .i64 a.n, str a.s] 51)).alloc (.cells #[.int .i64 b.kind, .int .i64 b.n, str b.s] 51)).heap.size = w.heap.size + 1 + 1 by simp] at hX
 have HX := zB hX
 clear hX
 rw [show twoV 15 a b = truV (decide (ordV a b < 0)) from rfl]
 rw [← ((good_less ha hb hk).1 : lessR a b = decide (ordV a b < 0))]
 have HO := zB (fun (W : World) => lessB_v a b W (good_len ha))
 generalize lessR a b = R at *
 rw [show a.v = .agg #[.int .i64 a.kind, .int .i64 a.n, str a.s] from rfl, show b.v = .agg #[.int .i64 b.kind, .int .i64 b.n, str b.s] from rfl] at *
 clear ha hb hk
 go_enter Tryz.func62, Tryz.ntmps62
 go_wp2_with fail
 refine ((zA HO) _).mono ?_
 rintro e w0 ⟨rfl, hk0⟩
 replace HX := zB ((hk0.block _ (zE (zA HX)) id).trans (zA HX))
 replace HKA := zB ((zA HKA).trans hk0)
 clear HO hk0
 go_wp2_with fail
 refine (truR_v _ _).mono ?_
 rintro e w1 ⟨rfl, hk1⟩
 generalize hx : truV R = x at *
 have HXE := zB hx
 clear hx
 obtain ⟨z0, z1, z2, y0, y1, y2, s0, s1, s2⟩ := rF (zA HX) hk1 x
 have HK := zB (((zA HKA).trans hk1).fresh (by omega) (zK w1 (w.heap.size + 1 + 1) (.int .i64 x.kind) (.int .i64 x.n) (str x.s)))
 unfold ValA.v
 clear hk1
 go_wp2_with fail
 refine bodyPost_ret (v := .tuple #[.agg #[.int .i64 x.kind, .int .i64 x.n, str x.s], .bool true]) (by simp [results, go_sem, s0, s1, s2]) rfl ?_
 exact ⟨by rw [zA HXE]; rfl, zA HK⟩
theorem joins16_v (a b : ValA) (w : World) (ha : goodV a) (hb : goodV b) (hk : a.kind = b.kind) : Calls Tryz.prog 62 #[.int .i64 16, a.v, b.v] w fun e w' => e = .returned (.tuple #[(twoV 16 a b).v, .bool true]) ∧ Wp (fun _ => False) w w' := by
 have HKA := zB (((kA w (.cells #[.int .i64 a.kind, .int .i64 a.n, str a.s] 51)).alloc (.cells #[.int .i64 b.kind, .int .i64 b.n, str b.s] 51)).alloc (.cells #[.int .i64 0, .int .i64 0, .string ⟨#[]⟩] 51))
 have hX := heap_alloc_new ((w.alloc (.cells #[.int .i64 a.kind, .int .i64 a.n, str a.s] 51)).alloc (.cells #[.int .i64 b.kind, .int .i64 b.n, str b.s] 51)) (.cells #[.int .i64 0, .int .i64 0, .string ⟨#[]⟩] 51)
 rw [show ((w.alloc (.cells #[.int .i64 a.kind, .int .i64 a.n, str a.s] 51)).alloc (.cells #[.int .i64 b.kind, .int .i64 b.n, str b.s] 51)).heap.size = w.heap.size + 1 + 1 by simp] at hX
 have HX := zB hX
 clear hX
 rw [show twoV 16 a b = truV (decide (ordV a b ≤ 0)) from rfl]
 rw [← ((good_less ha hb hk).2 : (!lessR b a) = decide (ordV a b ≤ 0))]
 have HO := zB (fun (W : World) => lessB_v b a W (good_len hb))
 generalize lessR b a = R at *
 rw [show a.v = .agg #[.int .i64 a.kind, .int .i64 a.n, str a.s] from rfl, show b.v = .agg #[.int .i64 b.kind, .int .i64 b.n, str b.s] from rfl] at *
 clear ha hb hk
 go_enter Tryz.func62, Tryz.ntmps62
 go_wp2_with fail
 refine ((zA HO) _).mono ?_
 rintro e w0 ⟨rfl, hk0⟩
 replace HX := zB ((hk0.block _ (zE (zA HX)) id).trans (zA HX))
 replace HKA := zB ((zA HKA).trans hk0)
 clear HO hk0
 go_wp2_with fail
 refine (truR_v _ _).mono ?_
 rintro e w1 ⟨rfl, hk1⟩
 generalize hx : truV (!R) = x at *
 have HXE := zB hx
 clear hx
 obtain ⟨z0, z1, z2, y0, y1, y2, s0, s1, s2⟩ := rF (zA HX) hk1 x
 have HK := zB (((zA HKA).trans hk1).fresh (by omega) (zK w1 (w.heap.size + 1 + 1) (.int .i64 x.kind) (.int .i64 x.n) (str x.s)))
 unfold ValA.v
 clear hk1
 go_wp2_with fail
 refine bodyPost_ret (v := .tuple #[.agg #[.int .i64 x.kind, .int .i64 x.n, str x.s], .bool true]) (by simp [results, go_sem, s0, s1, s2]) rfl ?_
 exact ⟨by rw [zA HXE]; rfl, zA HK⟩
theorem joins17_v (a b : ValA) (w : World) : Calls Tryz.prog 62 #[.int .i64 17, a.v, b.v] w fun e w' => e = .returned (.tuple #[(twoV 17 a b).v, .bool true]) ∧ Wp (fun _ => False) w w' := by
 have HKA := zB (((kA w (.cells #[.int .i64 a.kind, .int .i64 a.n, str a.s] 51)).alloc (.cells #[.int .i64 b.kind, .int .i64 b.n, str b.s] 51)).alloc (.cells #[.int .i64 0, .int .i64 0, .string ⟨#[]⟩] 51))
 have hX := heap_alloc_new ((w.alloc (.cells #[.int .i64 a.kind, .int .i64 a.n, str a.s] 51)).alloc (.cells #[.int .i64 b.kind, .int .i64 b.n, str b.s] 51)) (.cells #[.int .i64 0, .int .i64 0, .string ⟨#[]⟩] 51)
 rw [show ((w.alloc (.cells #[.int .i64 a.kind, .int .i64 a.n, str a.s] 51)).alloc (.cells #[.int .i64 b.kind, .int .i64 b.n, str b.s] 51)).heap.size = w.heap.size + 1 + 1 by simp] at hX
 have HX := zB hX
 clear hX
 rw [show twoV 17 a b = truV (decide (a = b)) from rfl]
 have HO := zB (fun (W : World) => eqValue_any a b W)
 generalize decide (a = b) = R at *
 rw [show a.v = .agg #[.int .i64 a.kind, .int .i64 a.n, str a.s] from rfl, show b.v = .agg #[.int .i64 b.kind, .int .i64 b.n, str b.s] from rfl] at *
 go_enter Tryz.func62, Tryz.ntmps62
 go_wp2_with fail
 refine ((zA HO) _).mono ?_
 rintro e w0 ⟨rfl, hk0⟩
 replace HX := zB ((hk0.block _ (zE (zA HX)) id).trans (zA HX))
 replace HKA := zB ((zA HKA).trans hk0)
 clear HO hk0
 go_wp2_with fail
 refine (truR_v _ _).mono ?_
 rintro e w1 ⟨rfl, hk1⟩
 generalize hx : truV R = x at *
 have HXE := zB hx
 clear hx
 obtain ⟨z0, z1, z2, y0, y1, y2, s0, s1, s2⟩ := rF (zA HX) hk1 x
 have HK := zB (((zA HKA).trans hk1).fresh (by omega) (zK w1 (w.heap.size + 1 + 1) (.int .i64 x.kind) (.int .i64 x.n) (str x.s)))
 unfold ValA.v
 clear hk1
 go_wp2_with fail
 refine bodyPost_ret (v := .tuple #[.agg #[.int .i64 x.kind, .int .i64 x.n, str x.s], .bool true]) (by simp [results, go_sem, s0, s1, s2]) rfl ?_
 exact ⟨by rw [zA HXE]; rfl, zA HK⟩
theorem joins19_v (a b : ValA) (w : World) (ha : a.s.length ≤ 20) (hb : b.s.length ≤ 20) : Calls Tryz.prog 62 #[.int .i64 19, a.v, b.v] w fun e w' => e = .returned (.tuple #[(twoV 19 a b).v, .bool true]) ∧ Wp (fun _ => False) w w' := by
 have HKA := zB (((kA w (.cells #[.int .i64 a.kind, .int .i64 a.n, str a.s] 51)).alloc (.cells #[.int .i64 b.kind, .int .i64 b.n, str b.s] 51)).alloc (.cells #[.int .i64 0, .int .i64 0, .string ⟨#[]⟩] 51))
 have hX := heap_alloc_new ((w.alloc (.cells #[.int .i64 a.kind, .int .i64 a.n, str a.s] 51)).alloc (.cells #[.int .i64 b.kind, .int .i64 b.n, str b.s] 51)) (.cells #[.int .i64 0, .int .i64 0, .string ⟨#[]⟩] 51)
 rw [show ((w.alloc (.cells #[.int .i64 a.kind, .int .i64 a.n, str a.s] 51)).alloc (.cells #[.int .i64 b.kind, .int .i64 b.n, str b.s] 51)).heap.size = w.heap.size + 1 + 1 by simp] at hX
 have HX := zB hX
 clear hX
 rw [show twoV 19 a b = bytV (catT a.s b.s) from rfl]
 have HC := zB (fun (W : World) => catR_v a.s b.s W ha hb)
 generalize catT a.s b.s = C at *
 obtain ⟨s0, s1, s2⟩ : True ∧ True ∧ True := ⟨trivial, trivial, trivial⟩
 rw [show a.v = .agg #[.int .i64 a.kind, .int .i64 a.n, str a.s] from rfl, show b.v = .agg #[.int .i64 b.kind, .int .i64 b.n, str b.s] from rfl] at *
 go_enter Tryz.func62, Tryz.ntmps62
 go_wp2_with fail
 refine ((zA HC) _).mono ?_
 clear HC
 rintro e w1 ⟨rfl, hk1⟩
 obtain ⟨z0, z1, z2, y0, y1, y2, s0, s1, s2⟩ := rF (zA HX) hk1 (bytV C)
 have HK := zB (((zA HKA).trans hk1).fresh (by omega) (zK w1 (w.heap.size + 1 + 1) (.int .i64 3) (.int .i64 0) (str C)))
 simp only [bytV] at s0 s1 s2
 clear hk1
 go_wp2_with fail
 refine bodyPost_ret (v := .tuple #[.agg #[.int .i64 3, .int .i64 0, str C], .bool true]) (by simp [results, go_sem, s0, s1, s2]) rfl ?_
 exact ⟨rfl, zA HK⟩
theorem joins_no (o : Int) (a b : ValA) (w : World) (h10 : (o == 10) = false) (h11 : (o == 11) = false) (h12 : (o == 12) = false) (h13 : (o == 13) = false) (h14 : (o == 14) = false) (h15 : (o == 15) = false) (h16 : (o == 16) = false) (h17 : (o == 17) = false) (h19 : (o == 19) = false) : Calls Tryz.prog 62 #[.int .i64 o, a.v, b.v] w fun e w' => e = .returned (.tuple #[zV.v, .bool false]) ∧ Wp (fun _ => False) w w' := by
 obtain ⟨W, hW, hkW, g0, g1, g2⟩ := boxes3 w #[.int .i64 a.kind, .int .i64 a.n, str a.s] #[.int .i64 b.kind, .int .i64 b.n, str b.s] #[.int .i64 0, .int .i64 0, .string ⟨#[]⟩] 51 51 51
 obtain ⟨z0, z1, z2, y0, y1, y2, s0, s1, s2⟩ := rF g2 (Wp.refl _ W) zV
 have HK := zB (hkW.fresh (by omega) (zK W (w.heap.size + 1 + 1) (.int .i64 0) (.int .i64 0) (str [])))
 simp only [zV] at s0 s1 s2
 rw [show a.v = .agg #[.int .i64 a.kind, .int .i64 a.n, str a.s] from rfl, show b.v = .agg #[.int .i64 b.kind, .int .i64 b.n, str b.s] from rfl] at *
 clear g0 g1 g2 hkW
 go_enter Tryz.func62, Tryz.ntmps62
 go_wp2_with fail
 refine bodyPost_ret (v := .tuple #[.agg #[.int .i64 0, .int .i64 0, .string ⟨#[]⟩], .bool false]) (by simp [results, go_sem, s0, s1, s2]) rfl ?_
 exact ⟨rfl, zA HK⟩
theorem turns_yes (o : Int) (a : ValA) (w : World) (ho : o = 8 ∨ o = 9 ∨ o = 18) (hb : o = 8 → a.n = 0 ∨ a.n = 1) : Calls Tryz.prog 61 #[.int .i64 o, a.v] w fun e w' => e = .returned (.tuple #[(oneV o a).v, .bool true]) ∧ Wp (fun _ => False) w w' := by
 have HKA := zB ((kA w (.cells #[.int .i64 a.kind, .int .i64 a.n, str a.s] 51)).alloc (.cells #[.int .i64 0, .int .i64 0, .string ⟨#[]⟩] 51))
 have hX := heap_alloc_new (w.alloc (.cells #[.int .i64 a.kind, .int .i64 a.n, str a.s] 51)) (.cells #[.int .i64 0, .int .i64 0, .string ⟨#[]⟩] 51)
 rw [show (w.alloc (.cells #[.int .i64 a.kind, .int .i64 a.n, str a.s] 51)).heap.size = w.heap.size + 1 by simp] at hX
 have HX := zB hX
 clear hX
 rcases ho with rfl | rfl | rfl
 ·have HE : Hid (oneV 8 a = truV (decide (a.n = 0))) := by
   show _ = _
   rw [show oneV 8 a = truV (!decide (a.n = 1)) from rfl]
   rcases hb rfl with h | h <;> rw [h] <;> rfl
  rw [zA HE]
  have HT := zB (fun (W : World) => truR_v (decide (a.n = 0)) W)
  rw [show a.v = .agg #[.int .i64 a.kind, .int .i64 a.n, str a.s] from rfl] at *
  clear hb HE
  go_enter Tryz.func61, Tryz.ntmps61
  go_wp2_with fail
  refine ((zA HT) _).mono ?_
  clear HT
  rintro e w1 ⟨rfl, hk1⟩
  generalize hx : truV (decide (a.n = 0)) = x at *
  have HXE := zB hx
  clear hx
  obtain ⟨z0, z1, z2, y0, y1, y2, s0, s1, s2⟩ := rF (zA HX) hk1 x
  have HK := zB (((zA HKA).trans hk1).fresh (by omega) (zK w1 (w.heap.size + 1) (.int .i64 x.kind) (.int .i64 x.n) (str x.s)))
  unfold ValA.v
  clear hk1
  go_wp2_with fail
  refine bodyPost_ret (v := .tuple #[.agg #[.int .i64 x.kind, .int .i64 x.n, str x.s], .bool true]) (by simp [results, go_sem, s0, s1, s2]) rfl ?_
  exact ⟨by rw [zA HXE]; rfl, zA HK⟩
 ·rw [show oneV 9 a = numV (wrap64 (-a.n)) from rfl]
  rw [show a.v = .agg #[.int .i64 a.kind, .int .i64 a.n, str a.s] from rfl] at *
  clear hb
  go_enter Tryz.func61, Tryz.ntmps61
  go_wp2_with fail
  refine (numR_v (wrap64 (-a.n)) _).mono ?_
  rintro e w1 ⟨rfl, hk1⟩
  generalize hx : numV (wrap64 (-a.n)) = x at *
  have HXE := zB hx
  clear hx
  obtain ⟨z0, z1, z2, y0, y1, y2, s0, s1, s2⟩ := rF (zA HX) hk1 x
  have HK := zB (((zA HKA).trans hk1).fresh (by omega) (zK w1 (w.heap.size + 1) (.int .i64 x.kind) (.int .i64 x.n) (str x.s)))
  unfold ValA.v
  clear hk1
  go_wp2_with fail
  refine bodyPost_ret (v := .tuple #[.agg #[.int .i64 x.kind, .int .i64 x.n, str x.s], .bool true]) (by simp [results, go_sem, s0, s1, s2]) rfl ?_
  exact ⟨by rw [zA HXE]; rfl, zA HK⟩
 ·rw [show oneV 18 a = numV a.s.length from rfl]
  rw [show a.v = .agg #[.int .i64 a.kind, .int .i64 a.n, str a.s] from rfl] at *
  clear hb
  go_enter Tryz.func61, Tryz.ntmps61
  go_wp2_with fail
  refine (numR_v (a.s.length : Int) _).mono ?_
  rintro e w1 ⟨rfl, hk1⟩
  generalize hx : numV (a.s.length : Int) = x at *
  have HXE := zB hx
  clear hx
  obtain ⟨z0, z1, z2, y0, y1, y2, s0, s1, s2⟩ := rF (zA HX) hk1 x
  have HK := zB (((zA HKA).trans hk1).fresh (by omega) (zK w1 (w.heap.size + 1) (.int .i64 x.kind) (.int .i64 x.n) (str x.s)))
  unfold ValA.v
  clear hk1
  go_wp2_with fail
  refine bodyPost_ret (v := .tuple #[.agg #[.int .i64 x.kind, .int .i64 x.n, str x.s], .bool true]) (by simp [results, go_sem, s0, s1, s2]) rfl ?_
  exact ⟨by rw [zA HXE]; rfl, zA HK⟩
theorem turns_no (o : Int) (a : ValA) (w : World) (h1 : (o == 8) = false) (h2 : (o == 9) = false) (h3 : (o == 18) = false) : Calls Tryz.prog 61 #[.int .i64 o, a.v] w fun e w' => e = .returned (.tuple #[zV.v, .bool false]) ∧ Wp (fun _ => False) w w' := by
 obtain ⟨W, hW, hkW, g0, g1⟩ := boxes2 w #[.int .i64 a.kind, .int .i64 a.n, str a.s] #[.int .i64 0, .int .i64 0, .string ⟨#[]⟩] 51 51
 obtain ⟨z0, z1, z2, y0, y1, y2, s0, s1, s2⟩ := rF g1 (Wp.refl _ W) zV
 have HK := zB (hkW.fresh (by omega) (zK W (w.heap.size + 1) (.int .i64 0) (.int .i64 0) (str [])))
 simp only [zV] at s0 s1 s2
 rw [show a.v = .agg #[.int .i64 a.kind, .int .i64 a.n, str a.s] from rfl] at *
 clear g0 g1 hkW
 go_enter Tryz.func61, Tryz.ntmps61
 go_wp2_with fail
 refine bodyPost_ret (v := .tuple #[.agg #[.int .i64 0, .int .i64 0, .string ⟨#[]⟩], .bool false]) (by simp [results, go_sem, s0, s1, s2]) rfl ?_
 exact ⟨rfl, zA HK⟩
theorem pushes1_v (S : List Wq) (sv u : Value) (x : ValA) (m : MS) (w : World) (hS : Wt w sv S) (hr : Wr w u m.vals) (ho : x.kind = 1) :
  Calls Tryz.prog 59 #[.agg #[sv], x.v, .agg #[.bool m.here, u]] w fun e w' => e = .returned (.tuple #[(toldV S x m).v, .bool true]) ∧ Wp (fun _ => False) w w' := by
 obtain ⟨o, n, s⟩ := x
 simp only at *
 subst ho
 rw [show toldV S ⟨1, n, s⟩ m = numV n from rfl]
 rw [show (⟨1, n, s⟩ : ValA).v = .agg #[.int .i64 1, .int .i64 n, str s] from rfl]
 obtain ⟨so, sc, rfl⟩ := Ws.form hS
 obtain ⟨uo, uc, rfl⟩ := Ws.form hr
 obtain ⟨W, hW, hkW, g0, g1, g2, g3⟩ := boxes4 w #[.slice so S.length sc] #[.int .i64 1, .int .i64 n, str s] #[.bool m.here, .slice uo m.vals.length uc] #[.int .i64 0, .int .i64 0, .string ⟨#[]⟩] 24 60 27 51
 have HKA := zB hkW
 have HX := zB g3
 have HS := zB (hS.keepF hkW)
 have HR := zB (hr.keepF hkW)
 have p0 := cl1 g0
 obtain ⟨q0, q1, q2⟩ := cl3 g1
 obtain ⟨r0, r1⟩ := cl2 g2
 have hsz : w.heap.size + 1 + 1 + 1 < W.heap.size := zE g3
 have G0 := zB g0
 have G1 := zB g1
 have G2 := zB g2
 clear hkW g0 g1 g2 g3 hS hr
 go_enter Tryz.func59, Tryz.ntmps59
 go_wp2_with fail
 refine (numR_v _ _).mono ?_
 rintro e w1 ⟨rfl, hk1⟩
 generalize hx : numV n = y at *
 have HXE := zB hx
 clear hx
 obtain ⟨z0, z1, z2, y0, y1, y2, s0, s1, s2⟩ := rF (zA HX) hk1 y
 have HK := zB (((zA HKA).trans hk1).fresh (by omega) (zK w1 (w.heap.size + 1 + 1 + 1) (.int .i64 y.kind) (.int .i64 y.n) (str y.s)))
 unfold ValA.v
 clear hk1
 go_wp2_with fail
 refine bodyPost_ret (v := .tuple #[.agg #[.int .i64 y.kind, .int .i64 y.n, str y.s], .bool true]) (by simp [results, go_sem, s0, s1, s2]) rfl ?_
 exact ⟨by rw [zA HXE]; rfl, zA HK⟩
theorem pushes2_v (S : List Wq) (sv u : Value) (x : ValA) (m : MS) (w : World) (hS : Wt w sv S) (hr : Wr w u m.vals) (ho : x.kind = 2) :
  Calls Tryz.prog 59 #[.agg #[sv], x.v, .agg #[.bool m.here, u]] w fun e w' => e = .returned (.tuple #[(toldV S x m).v, .bool true]) ∧ Wp (fun _ => False) w w' := by
 obtain ⟨o, n, s⟩ := x
 simp only at *
 subst ho
 rw [show toldV S ⟨2, n, s⟩ m = truV true from rfl]
 rw [show (⟨2, n, s⟩ : ValA).v = .agg #[.int .i64 2, .int .i64 n, str s] from rfl]
 obtain ⟨so, sc, rfl⟩ := Ws.form hS
 obtain ⟨uo, uc, rfl⟩ := Ws.form hr
 obtain ⟨W, hW, hkW, g0, g1, g2, g3⟩ := boxes4 w #[.slice so S.length sc] #[.int .i64 2, .int .i64 n, str s] #[.bool m.here, .slice uo m.vals.length uc] #[.int .i64 0, .int .i64 0, .string ⟨#[]⟩] 24 60 27 51
 have HKA := zB hkW
 have HX := zB g3
 have HS := zB (hS.keepF hkW)
 have HR := zB (hr.keepF hkW)
 have p0 := cl1 g0
 obtain ⟨q0, q1, q2⟩ := cl3 g1
 obtain ⟨r0, r1⟩ := cl2 g2
 have hsz : w.heap.size + 1 + 1 + 1 < W.heap.size := zE g3
 have G0 := zB g0
 have G1 := zB g1
 have G2 := zB g2
 clear hkW g0 g1 g2 g3 hS hr
 go_enter Tryz.func59, Tryz.ntmps59
 go_wp2_with fail
 refine (truR_v true _).mono ?_
 rintro e w1 ⟨rfl, hk1⟩
 generalize hx : truV true = y at *
 have HXE := zB hx
 clear hx
 obtain ⟨z0, z1, z2, y0, y1, y2, s0, s1, s2⟩ := rF (zA HX) hk1 y
 have HK := zB (((zA HKA).trans hk1).fresh (by omega) (zK w1 (w.heap.size + 1 + 1 + 1) (.int .i64 y.kind) (.int .i64 y.n) (str y.s)))
 unfold ValA.v
 clear hk1
 go_wp2_with fail
 refine bodyPost_ret (v := .tuple #[.agg #[.int .i64 y.kind, .int .i64 y.n, str y.s], .bool true]) (by simp [results, go_sem, s0, s1, s2]) rfl ?_
 exact ⟨by rw [zA HXE]; rfl, zA HK⟩
theorem pushes3_v (S : List Wq) (sv u : Value) (x : ValA) (m : MS) (w : World) (hS : Wt w sv S) (hr : Wr w u m.vals) (ho : x.kind = 3) :
  Calls Tryz.prog 59 #[.agg #[sv], x.v, .agg #[.bool m.here, u]] w fun e w' => e = .returned (.tuple #[(toldV S x m).v, .bool true]) ∧ Wp (fun _ => False) w w' := by
 obtain ⟨o, n, s⟩ := x
 simp only at *
 subst ho
 rw [show toldV S ⟨3, n, s⟩ m = truV false from rfl]
 rw [show (⟨3, n, s⟩ : ValA).v = .agg #[.int .i64 3, .int .i64 n, str s] from rfl]
 obtain ⟨so, sc, rfl⟩ := Ws.form hS
 obtain ⟨uo, uc, rfl⟩ := Ws.form hr
 obtain ⟨W, hW, hkW, g0, g1, g2, g3⟩ := boxes4 w #[.slice so S.length sc] #[.int .i64 3, .int .i64 n, str s] #[.bool m.here, .slice uo m.vals.length uc] #[.int .i64 0, .int .i64 0, .string ⟨#[]⟩] 24 60 27 51
 have HKA := zB hkW
 have HX := zB g3
 have HS := zB (hS.keepF hkW)
 have HR := zB (hr.keepF hkW)
 have p0 := cl1 g0
 obtain ⟨q0, q1, q2⟩ := cl3 g1
 obtain ⟨r0, r1⟩ := cl2 g2
 have hsz : w.heap.size + 1 + 1 + 1 < W.heap.size := zE g3
 have G0 := zB g0
 have G1 := zB g1
 have G2 := zB g2
 clear hkW g0 g1 g2 g3 hS hr
 go_enter Tryz.func59, Tryz.ntmps59
 go_wp2_with fail
 refine (truR_v false _).mono ?_
 rintro e w1 ⟨rfl, hk1⟩
 generalize hx : truV false = y at *
 have HXE := zB hx
 clear hx
 obtain ⟨z0, z1, z2, y0, y1, y2, s0, s1, s2⟩ := rF (zA HX) hk1 y
 have HK := zB (((zA HKA).trans hk1).fresh (by omega) (zK w1 (w.heap.size + 1 + 1 + 1) (.int .i64 y.kind) (.int .i64 y.n) (str y.s)))
 unfold ValA.v
 clear hk1
 go_wp2_with fail
 refine bodyPost_ret (v := .tuple #[.agg #[.int .i64 y.kind, .int .i64 y.n, str y.s], .bool true]) (by simp [results, go_sem, s0, s1, s2]) rfl ?_
 exact ⟨by rw [zA HXE]; rfl, zA HK⟩
theorem pushes4_v (S : List Wq) (sv u : Value) (x : ValA) (m : MS) (w : World) (hS : Wt w sv S) (hr : Wr w u m.vals) (ho : x.kind = 4) :
  Calls Tryz.prog 59 #[.agg #[sv], x.v, .agg #[.bool m.here, u]] w fun e w' => e = .returned (.tuple #[(toldV S x m).v, .bool true]) ∧ Wp (fun _ => False) w w' := by
 obtain ⟨o, n, s⟩ := x
 simp only at *
 subst ho
 rw [show toldV S ⟨4, n, s⟩ m = bytV s from rfl]
 rw [show (⟨4, n, s⟩ : ValA).v = .agg #[.int .i64 4, .int .i64 n, str s] from rfl]
 obtain ⟨so, sc, rfl⟩ := Ws.form hS
 obtain ⟨uo, uc, rfl⟩ := Ws.form hr
 obtain ⟨W, hW, hkW, g0, g1, g2, g3⟩ := boxes4 w #[.slice so S.length sc] #[.int .i64 4, .int .i64 n, str s] #[.bool m.here, .slice uo m.vals.length uc] #[.int .i64 0, .int .i64 0, .string ⟨#[]⟩] 24 60 27 51
 have HKA := zB hkW
 have HX := zB g3
 have HS := zB (hS.keepF hkW)
 have HR := zB (hr.keepF hkW)
 have p0 := cl1 g0
 obtain ⟨q0, q1, q2⟩ := cl3 g1
 obtain ⟨r0, r1⟩ := cl2 g2
 have hsz : w.heap.size + 1 + 1 + 1 < W.heap.size := zE g3
 have G0 := zB g0
 have G1 := zB g1
 have G2 := zB g2
 clear hkW g0 g1 g2 g3 hS hr
 obtain ⟨z0, z1, z2, y0, y1, y2, s0, s1, s2⟩ := rF (zA HX) (Wp.refl _ W) (bytV s)
 have HK := zB ((zA HKA).fresh (by omega) (zK W (w.heap.size + 1 + 1 + 1) (.int .i64 3) (.int .i64 0) (str s)))
 simp only [bytV] at s0 s1 s2
 go_enter Tryz.func59, Tryz.ntmps59
 go_wp2_with fail
 refine bodyPost_ret (v := .tuple #[.agg #[.int .i64 3, .int .i64 0, str s], .bool true]) (by simp [results, go_sem, s0, s1, s2]) rfl ?_
 exact ⟨rfl, zA HK⟩
theorem pushes7_v (S : List Wq) (sv u : Value) (x : ValA) (m : MS) (w : World) (hS : Wt w sv S) (hr : Wr w u m.vals) (ho : x.kind = 7) :
  Calls Tryz.prog 59 #[.agg #[sv], x.v, .agg #[.bool m.here, u]] w fun e w' => e = .returned (.tuple #[(toldV S x m).v, .bool true]) ∧ Wp (fun _ => False) w w' := by
 obtain ⟨o, n, s⟩ := x
 simp only at *
 subst ho
 rw [show toldV S ⟨7, n, s⟩ m = truV m.here from rfl]
 rw [show (⟨7, n, s⟩ : ValA).v = .agg #[.int .i64 7, .int .i64 n, str s] from rfl]
 obtain ⟨so, sc, rfl⟩ := Ws.form hS
 obtain ⟨uo, uc, rfl⟩ := Ws.form hr
 obtain ⟨W, hW, hkW, g0, g1, g2, g3⟩ := boxes4 w #[.slice so S.length sc] #[.int .i64 7, .int .i64 n, str s] #[.bool m.here, .slice uo m.vals.length uc] #[.int .i64 0, .int .i64 0, .string ⟨#[]⟩] 24 60 27 51
 have HKA := zB hkW
 have HX := zB g3
 have HS := zB (hS.keepF hkW)
 have HR := zB (hr.keepF hkW)
 have p0 := cl1 g0
 obtain ⟨q0, q1, q2⟩ := cl3 g1
 obtain ⟨r0, r1⟩ := cl2 g2
 have hsz : w.heap.size + 1 + 1 + 1 < W.heap.size := zE g3
 have G0 := zB g0
 have G1 := zB g1
 have G2 := zB g2
 clear hkW g0 g1 g2 g3 hS hr
 go_enter Tryz.func59, Tryz.ntmps59
 go_wp2_with fail
 refine (truR_v m.here _).mono ?_
 rintro e w1 ⟨rfl, hk1⟩
 generalize hx : truV m.here = y at *
 have HXE := zB hx
 clear hx
 obtain ⟨z0, z1, z2, y0, y1, y2, s0, s1, s2⟩ := rF (zA HX) hk1 y
 have HK := zB (((zA HKA).trans hk1).fresh (by omega) (zK w1 (w.heap.size + 1 + 1 + 1) (.int .i64 y.kind) (.int .i64 y.n) (str y.s)))
 unfold ValA.v
 clear hk1
 go_wp2_with fail
 refine bodyPost_ret (v := .tuple #[.agg #[.int .i64 y.kind, .int .i64 y.n, str y.s], .bool true]) (by simp [results, go_sem, s0, s1, s2]) rfl ?_
 exact ⟨by rw [zA HXE]; rfl, zA HK⟩
end Go.Proofs.YtbdlcaamanhapaaGreatDoor
