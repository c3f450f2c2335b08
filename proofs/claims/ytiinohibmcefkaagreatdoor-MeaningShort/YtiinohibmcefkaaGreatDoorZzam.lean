import Derived.Test.YtiinohibmcefkaaGreatDoorZzai
import Derived.Test.YtiinohibmcefkaaGreatDoorZzal
namespace Go.Proofs.YtiinohibmcefkaaGreatDoor
open Go.RowKit Go.Maps

set_option maxRecDepth 100000 in
set_option maxHeartbeats 1000000 in
theorem orElse1_v (S : List FieldA) (F : Nat → Prop) (w : World) (fv gv : Value) (f f2 : Bool → List ValA → ValA) (ab bb : Nat) (hA : Wth S F w fv f) (hB : Wth S F w gv f2) (ha : w.cell? ⟨ab, 0, none⟩ = some fv) (hb : w.cell? ⟨bb, 0, none⟩ = some gv) (la : ab < w.heap.size) (lb : bb < w.heap.size) (na : ¬ F ab) (nb : ¬ F bb) :
    Wth S F w (.func (.func 194) #[] #[.pointer (some ⟨ab, 0, none⟩), .pointer (some ⟨bb, 0, none⟩)]) (fun h vals => if (f h vals).kind = 0 then f2 h vals else f h vals) := by
  obtain ⟨k, cap, rfl, ek, hl, hA⟩ := hA
  obtain ⟨k2, cap2, rfl, ek2, hl2, hB⟩ := hB
  refine ⟨194, _, rfl, enters_of Tryz.func194 (by kernel_rfl) rfl, fun h vals hr => ite_short (fun _ => hl2 h vals hr) (fun _ => hl h vals hr), fun W h u vals hk hv hr => ?_⟩
  obtain ⟨uo, uc, rfl⟩ := RowAt.form hv
  obtain ⟨X, hX, P⟩ := pro_of W h uo vals.length uc
  have SB : ∀ w' : World, Keeps (fun q => q = W.heap.size + 1) X w' → w'.cell? ⟨ab, 0, none⟩ = some (.func (.func k) #[] cap) ∧ w'.cell? ⟨bb, 0, none⟩ = some (.func (.func k2) #[] cap2) ∧ w'.cell? ⟨W.heap.size, 0, none⟩ = some (.bool h) ∧ w'.cell? ⟨W.heap.size, 1, none⟩ = some (.slice uo vals.length uc) := fun w' hq =>
    ⟨P.old hk la na ha hq, P.old hk lb nb hb hq, (P.cells hq).1, (P.cells hq).2⟩
  have HSB := hide SB
  have s0 := SB X (Keeps.refl _ _)
  have HC1 := fun W' (hq : Keeps (fun _ => False) X W') => hide (hA W' h (.slice uo vals.length uc) vals ((hk.trans P.kept.any).trans hq.any) (hv.keepF (P.kept.trans hq)) hr)
  have HC2 := fun W' (hq : Keeps (fun _ => False) X W') => hide (hB W' h (.slice uo vals.length uc) vals ((hk.trans P.kept.any).trans hq.any) (hv.keepF (P.kept.trans hq)) hr)
  have HP := hide P
  show Calls _ _ _ _ (fun e W' => e = .returned (if (f h vals).kind = 0 then f2 h vals else f h vals).v ∧ _)
  clear hA hB hl hl2 SB ha hb hv P
  generalize f h vals = A at *
  generalize f2 h vals = B at *
  have HI := fun W' => hide (isPresent_v A W')
  obtain ⟨Ak, An, Ax⟩ := A
  obtain ⟨Bk, Bn, Bx⟩ := B
  unfold Enters at ek ek2
  by_cases hcn : Ak = 0
  · rw [if_pos hcn]
    have HD : ∀ W', Hid (Calls Tryz.prog 143 #[ValA.v ⟨Ak, An, Ax⟩] W' fun e w' => e = .returned (.bool false) ∧ Keeps (fun _ => False) W' w') := fun W' => by show Calls _ _ _ _ _; have := unhide (HI W'); simpa [hcn] using this
    clear HI hcn
    simp only [ValA.v] at HC1 HC2 HD ⊢
    go_enter Tryz.func194, Tryz.ntmps194
    go_wp2_with fail
    refine (unhide (HC1 _ (Keeps.refl _ _))).mono ?_
    rintro e w1 ⟨rfl, hk1⟩
    obtain ⟨HB, hxb, hxc⟩ := boxed w1 #[.int .i64 Ak, .int .i64 An, str Ax] 41
    have b0 := hxc 0 (.int .i64 Ak) rfl
    have b1 := hxc 1 (.int .i64 An) rfl
    have b2 := hxc 2 (str Ax) rfl
    clear hxc
    go_wp2_with fail
    refine (unhide (HD _)).mono ?_
    rintro e w2 ⟨rfl, hk2⟩
    have HK2 := hide (hk1.trans ((unhide HB).trans hk2))
    have s1 := unhide HSB _ (unhide HK2).any
    have d0 := (hk2.cell (o := 0) hxb id).trans b0
    have d1 := (hk2.cell (o := 1) hxb id).trans b1
    have d2 := (hk2.cell (o := 2) hxb id).trans b2
    clear b0 b1 b2 hk1 hk2
    go_wp2_with fail
    refine (unhide (HC2 _ (unhide HK2))).mono ?_
    rintro e w3 ⟨rfl, hk3⟩
    have HKA := hide ((unhide HK2).trans hk3)
    have hz := (unhide HP).out (unhide HKA)
    have m0 := cell_of_blk hz 0
    have m1 := cell_of_blk hz 1
    have m2 := cell_of_blk hz 2
    simp at m0 m1 m2
    have g0 := frozen_of_blk hz 0
    have g1 := frozen_of_blk hz 1
    have g2 := frozen_of_blk hz 2
    obtain ⟨o0, o1, o2⟩ := set3v hz (.int .i64 Bk) (.int .i64 Bn) (str Bx)
    clear hz
    go_wp2_with fail
    refine bodyPost_ret (v := .agg #[.int .i64 Bk, .int .i64 Bn, str Bx]) (by simp [results, go_sem, o0, o1, o2]) rfl ?_
    exact ⟨rfl, (unhide HP).done (unhide HKA) _ _ _⟩
  · rw [if_neg hcn]
    have HD : ∀ W', Hid (Calls Tryz.prog 143 #[ValA.v ⟨Ak, An, Ax⟩] W' fun e w' => e = .returned (.bool true) ∧ Keeps (fun _ => False) W' w') := fun W' => by show Calls _ _ _ _ _; have := unhide (HI W'); simpa [hcn] using this
    clear HI hcn
    simp only [ValA.v] at HC1 HC2 HD ⊢
    go_enter Tryz.func194, Tryz.ntmps194
    go_wp2_with fail
    refine (unhide (HC1 _ (Keeps.refl _ _))).mono ?_
    rintro e w1 ⟨rfl, hk1⟩
    obtain ⟨HB, hxb, hxc⟩ := boxed w1 #[.int .i64 Ak, .int .i64 An, str Ax] 41
    have b0 := hxc 0 (.int .i64 Ak) rfl
    have b1 := hxc 1 (.int .i64 An) rfl
    have b2 := hxc 2 (str Ax) rfl
    clear hxc
    go_wp2_with fail
    refine (unhide (HD _)).mono ?_
    rintro e w2 ⟨rfl, hk2⟩
    have HK2 := hide (hk1.trans ((unhide HB).trans hk2))
    have s1 := unhide HSB _ (unhide HK2).any
    have d0 := (hk2.cell (o := 0) hxb id).trans b0
    have d1 := (hk2.cell (o := 1) hxb id).trans b1
    have d2 := (hk2.cell (o := 2) hxb id).trans b2
    clear b0 b1 b2 hk1 hk2
    have HKA := hide (unhide HK2)
    have hz := (unhide HP).out (unhide HKA)
    have m0 := cell_of_blk hz 0
    have m1 := cell_of_blk hz 1
    have m2 := cell_of_blk hz 2
    simp at m0 m1 m2
    have g0 := frozen_of_blk hz 0
    have g1 := frozen_of_blk hz 1
    have g2 := frozen_of_blk hz 2
    obtain ⟨o0, o1, o2⟩ := set3v hz (.int .i64 Ak) (.int .i64 An) (str Ax)
    clear hz
    go_wp2_with fail
    refine bodyPost_ret (v := .agg #[.int .i64 Ak, .int .i64 An, str Ax]) (by simp [results, go_sem, o0, o1, o2]) rfl ?_
    exact ⟨rfl, (unhide HP).done (unhide HKA) _ _ _⟩
end Go.Proofs.YtiinohibmcefkaaGreatDoor
namespace Go.Proofs.YtiinohibmcefkaaGreatDoor
open Go.RowKit Go.Maps

theorem list1 {α : Type} : ∀ {l : List α}, l.length = 1 → ∃ a, l = [a]
  | [a], _ => ⟨a, rfl⟩
theorem list2x {α : Type} : ∀ {l : List α}, l.length = 2 → ∃ a b, l = [a, b]
  | [a, b], _ => ⟨a, b, rfl⟩
theorem list3x {α : Type} : ∀ {l : List α}, l.length = 3 → ∃ a b c, l = [a, b, c]
  | [a, b, c], _ => ⟨a, b, c, rfl⟩
set_option maxRecDepth 100000 in
theorem one1_v (S : List FieldA) (F : Nat → Prop) (w : World) (tv : Value) (g : ValA → ValA) (tb : Nat) (hT : OneF tv g) (ht : w.cell? ⟨tb, 0, none⟩ = some tv) (lt : tb < w.heap.size) (nt : ¬ F tb) :
    OpF S F w (.func (.func 187) #[] #[.pointer (some ⟨tb, 0, none⟩)]) 1 (fun ks => g (kV ks 0)) := by
  refine ⟨187, _, rfl, enters_of Tryz.func187 (by kernel_rfl) rfl, fun W G kv fs hk hGF hG hl hw => ?_⟩
  obtain ⟨f, rfl⟩ := list1 hl
  obtain ⟨b, rfl, hb, hc⟩ := hw
  obtain ⟨fv, c0, hf⟩ := hc 0 f rfl
  obtain ⟨HB, hxb, hxc⟩ := boxed W #[fv] 88
  have lt1 := Nat.lt_of_lt_of_le lt hk.size
  have HW := hide (one11_v S G _ tv fv g f tb W.heap.size hT (hf.keepF (unhide HB)) (((unhide HB).cell lt1 id).trans ((hk.cell lt nt).trans ht)) (hxc 0 _ rfl) (Nat.lt_of_lt_of_le lt1 (unhide HB).size) hxb (fun h => nt (hGF _ h lt)) (fun h => by have := hG _ h; omega))
  clear hc hxc hGF hk ht hT
  obtain ⟨k, cap, rfl, _⟩ := hf
  simp only [List.length_singleton]
  show Calls _ _ _ _ (fun e W' => ∃ fv, e = .returned fv ∧ Wth S G W' fv (fun h vals => g (f h vals)) ∧ _)
  go_enter Tryz.func187, Tryz.ntmps187
  go_wp2_with fail
  go_ret
  exact ⟨_, rfl, unhide HW, unhide HB⟩
set_option maxRecDepth 100000 in
theorem one_v (S : List FieldA) (F : Nat → Prop) (w : World) (hF : ∀ q, F q → q < w.heap.size) (tv : Value) (g : ValA → ValA) (hT : OneF tv g) :
    Calls Tryz.prog 117 #[tv] w fun e w' => ∃ ov, e = .returned ov ∧ OpF S F w' ov 1 (fun ks => g (kV ks 0)) ∧ Keeps (fun _ => False) w w' := by
  obtain ⟨HB, hxb, hxc⟩ := boxed w #[tv] 165
  have HW := hide (one1_v S F _ tv g w.heap.size hT (hxc 0 _ rfl) hxb (fun h => by have := hF _ h; omega))
  clear hxc
  obtain ⟨k, rfl, _⟩ := hT
  go_enter Tryz.func117, Tryz.ntmps117
  go_wp2_with fail
  go_ret
  exact ⟨_, rfl, unhide HW, unhide HB⟩
end Go.Proofs.YtiinohibmcefkaaGreatDoor
namespace Go.Proofs.YtiinohibmcefkaaGreatDoor
open Go.RowKit Go.Maps

theorem boxes2 (W : World) (x y : Value) (t : TypeId) : Keeps (fun _ => False) W ((W.alloc (.cells #[x] t)).alloc (.cells #[y] t)) ∧ ((W.alloc (.cells #[x] t)).alloc (.cells #[y] t)).heap.size = W.heap.size + 2 ∧ ((W.alloc (.cells #[x] t)).alloc (.cells #[y] t)).cell? ⟨W.heap.size, 0, none⟩ = some x ∧ ((W.alloc (.cells #[x] t)).alloc (.cells #[y] t)).cell? ⟨W.heap.size + 1, 0, none⟩ = some y :=
  ⟨((Keeps.refl _ _).alloc _).alloc _, by simp, by simp, by simp⟩
theorem boxes3 (W : World) (x y z : Value) (t : TypeId) : Keeps (fun _ => False) W (((W.alloc (.cells #[x] t)).alloc (.cells #[y] t)).alloc (.cells #[z] t)) ∧ (((W.alloc (.cells #[x] t)).alloc (.cells #[y] t)).alloc (.cells #[z] t)).heap.size = W.heap.size + 3 ∧ (((W.alloc (.cells #[x] t)).alloc (.cells #[y] t)).alloc (.cells #[z] t)).cell? ⟨W.heap.size, 0, none⟩ = some x ∧ (((W.alloc (.cells #[x] t)).alloc (.cells #[y] t)).alloc (.cells #[z] t)).cell? ⟨W.heap.size + 1, 0, none⟩ = some y ∧ (((W.alloc (.cells #[x] t)).alloc (.cells #[y] t)).alloc (.cells #[z] t)).cell? ⟨W.heap.size + 1 + 1, 0, none⟩ = some z := by
  obtain ⟨k, s, a, b⟩ := boxes2 W x y t
  have h := boxed ((W.alloc (.cells #[x] t)).alloc (.cells #[y] t)) #[z] t
  have hk := unhide h.1
  refine ⟨k.trans hk, by simp, (hk.cell (by omega) id).trans a, (hk.cell (by omega) id).trans b, ?_⟩
  have := h.2.2 0 z rfl
  rwa [s] at this
set_option maxRecDepth 100000 in
set_option maxHeartbeats 1000000 in
theorem two1_v (S : List FieldA) (F : Nat → Prop) (w : World) (tv : Value) (g : ValA → ValA → ValA) (tb : Nat) (hT : TwoF tv g) (ht : w.cell? ⟨tb, 0, none⟩ = some tv) (lt : tb < w.heap.size) (nt : ¬ F tb) :
    OpF S F w (.func (.func 189) #[] #[.pointer (some ⟨tb, 0, none⟩)]) 2 (fun ks => g (kV ks 0) (kV ks 1)) := by
  refine ⟨189, _, rfl, enters_of Tryz.func189 (by kernel_rfl) rfl, fun W G kv fs hk hGF hG hl hw => ?_⟩
  obtain ⟨f, f2, rfl⟩ := list2x hl
  obtain ⟨b, rfl, hb, hc⟩ := hw
  obtain ⟨fv, c0, hf0⟩ := hc 0 f rfl
  obtain ⟨gv, c1, hf1⟩ := hc 1 f2 rfl
  obtain ⟨K0, Z0, B0_0, B0_1⟩ := boxes2 W fv gv 88
  have HW0 := hide (two11_v S G _ tv fv gv g f f2 tb W.heap.size (W.heap.size + 1) hT (hf0.keepF K0) (hf1.keepF K0) ((K0.cell (Nat.lt_of_lt_of_le lt hk.size) id).trans ((hk.cell lt nt).trans ht)) B0_0 B0_1 (Nat.lt_of_lt_of_le (Nat.lt_of_lt_of_le lt hk.size) K0.size) (by rw [Z0]; omega) (by rw [Z0]; omega) (fun h => nt (hGF _ h lt)) (fun h => by have := hG _ h; omega) (fun h => by have := hG _ h; omega))
  have HK0 := hide K0
  clear K0 Z0 B0_0 B0_1
  obtain ⟨K1, Z1, B1_0, B1_1⟩ := boxes2 W gv fv 88
  have HW1 := hide (two11_v S G _ tv fv gv g f f2 tb (W.heap.size + 1) W.heap.size hT (hf0.keepF K1) (hf1.keepF K1) ((K1.cell (Nat.lt_of_lt_of_le lt hk.size) id).trans ((hk.cell lt nt).trans ht)) B1_1 B1_0 (Nat.lt_of_lt_of_le (Nat.lt_of_lt_of_le lt hk.size) K1.size) (by rw [Z1]; omega) (by rw [Z1]; omega) (fun h => nt (hGF _ h lt)) (fun h => by have := hG _ h; omega) (fun h => by have := hG _ h; omega))
  have HK1 := hide K1
  clear K1 Z1 B1_0 B1_1
  clear hc hGF hk ht hT
  obtain ⟨k0, cap0, rfl, _⟩ := hf0
  obtain ⟨k1, cap1, rfl, _⟩ := hf1
  simp only [List.length_cons, List.length_nil]
  show Calls _ _ _ _ (fun e W' => ∃ fv, e = .returned fv ∧ Wth S G W' fv (fun h vals => g (f h vals) (f2 h vals)) ∧ _)
  go_enter Tryz.func189, Tryz.ntmps189
  go_wp2_with fail
  go_region
  all_goals go_wp2_with fail
  all_goals go_ret
  all_goals first | exact ⟨_, rfl, (unhide HW0).keepF (Keeps.refl _ _).drew, (unhide HK0).drew⟩ | exact ⟨_, rfl, (unhide HW1).keepF (Keeps.refl _ _).drew, (unhide HK1).drew⟩
set_option maxRecDepth 100000 in
set_option maxHeartbeats 1000000 in
theorem orElse_v (S : List FieldA) (F : Nat → Prop) (w : World) :
    OpF S F w (.func (.func 134) #[] #[]) 2 (fun ks => if (kV ks 0).kind = 0 then kV ks 1 else kV ks 0) := by
  refine ⟨134, _, rfl, enters_of Tryz.func134 (by kernel_rfl) rfl, fun W G kv fs hk hGF hG hl hw => ?_⟩
  obtain ⟨f, f2, rfl⟩ := list2x hl
  obtain ⟨b, rfl, hb, hc⟩ := hw
  obtain ⟨fv, c0, hf0⟩ := hc 0 f rfl
  obtain ⟨gv, c1, hf1⟩ := hc 1 f2 rfl
  obtain ⟨K0, Z0, B0_0, B0_1⟩ := boxes2 W fv gv 88
  have HW0 := hide (orElse1_v S G _ fv gv f f2 W.heap.size (W.heap.size + 1) (hf0.keepF K0) (hf1.keepF K0) B0_0 B0_1 (by rw [Z0]; omega) (by rw [Z0]; omega) (fun h => by have := hG _ h; omega) (fun h => by have := hG _ h; omega))
  have HK0 := hide K0
  clear K0 Z0 B0_0 B0_1
  obtain ⟨K1, Z1, B1_0, B1_1⟩ := boxes2 W gv fv 88
  have HW1 := hide (orElse1_v S G _ fv gv f f2 (W.heap.size + 1) W.heap.size (hf0.keepF K1) (hf1.keepF K1) B1_1 B1_0 (by rw [Z1]; omega) (by rw [Z1]; omega) (fun h => by have := hG _ h; omega) (fun h => by have := hG _ h; omega))
  have HK1 := hide K1
  clear K1 Z1 B1_0 B1_1
  clear hc hGF hk
  obtain ⟨k0, cap0, rfl, _⟩ := hf0
  obtain ⟨k1, cap1, rfl, _⟩ := hf1
  simp only [List.length_cons, List.length_nil]
  show Calls _ _ _ _ (fun e W' => ∃ fv, e = .returned fv ∧ Wth S G W' fv (fun h vals => if (f h vals).kind = 0 then f2 h vals else f h vals) ∧ _)
  go_enter Tryz.func134, Tryz.ntmps134
  go_wp2_with fail
  go_region
  all_goals go_wp2_with fail
  all_goals go_ret
  all_goals first | exact ⟨_, rfl, (unhide HW0).keepF (Keeps.refl _ _).drew, (unhide HK0).drew⟩ | exact ⟨_, rfl, (unhide HW1).keepF (Keeps.refl _ _).drew, (unhide HK1).drew⟩
set_option maxRecDepth 100000 in
theorem two_v (S : List FieldA) (F : Nat → Prop) (w : World) (hF : ∀ q, F q → q < w.heap.size) (tv : Value) (g : ValA → ValA → ValA) (hT : TwoF tv g) :
    Calls Tryz.prog 120 #[tv] w fun e w' => ∃ ov, e = .returned ov ∧ OpF S F w' ov 2 (fun ks => g (kV ks 0) (kV ks 1)) ∧ Keeps (fun _ => False) w w' := by
  obtain ⟨HB, hxb, hxc⟩ := boxed w #[tv] 197
  have HW := hide (two1_v S F _ tv g w.heap.size hT (hxc 0 _ rfl) hxb (fun h => by have := hF _ h; omega))
  clear hxc
  obtain ⟨k, rfl, _⟩ := hT
  go_enter Tryz.func120, Tryz.ntmps120
  go_wp2_with fail
  go_ret
  exact ⟨_, rfl, unhide HW, unhide HB⟩
end Go.Proofs.YtiinohibmcefkaaGreatDoor
namespace Go.Proofs.YtiinohibmcefkaaGreatDoor
open Go.RowKit Go.Maps

set_option maxRecDepth 100000 in
set_option maxHeartbeats 1000000 in
theorem pick_v (S : List FieldA) (F : Nat → Prop) (w : World) :
    OpF S F w (.func (.func 139) #[] #[]) 3 (fun ks => if (kV ks 0).n = 1 then kV ks 1 else kV ks 2) := by
  refine ⟨139, _, rfl, enters_of Tryz.func139 (by kernel_rfl) rfl, fun W G kv fs hk hGF hG hl hw => ?_⟩
  obtain ⟨f, f2, f3, rfl⟩ := list3x hl
  obtain ⟨b, rfl, hb, hc⟩ := hw
  obtain ⟨fv, c0, hf0⟩ := hc 0 f rfl
  obtain ⟨gv, c1, hf1⟩ := hc 1 f2 rfl
  obtain ⟨hv, c2, hf2⟩ := hc 2 f3 rfl
  obtain ⟨K0, Z0, B0_0, B0_1, B0_2⟩ := boxes3 W fv gv hv 88
  have HW0 := hide (pick1_v S G _ fv gv hv f f2 f3 W.heap.size (W.heap.size + 1) (W.heap.size + 1 + 1) (hf0.keepF K0) (hf1.keepF K0) (hf2.keepF K0) B0_0 B0_1 B0_2 (by rw [Z0]; omega) (by rw [Z0]; omega) (by rw [Z0]; omega) (fun h => by have := hG _ h; omega) (fun h => by have := hG _ h; omega) (fun h => by have := hG _ h; omega))
  have HK0 := hide K0
  clear K0 Z0 B0_0 B0_1 B0_2
  obtain ⟨K1, Z1, B1_0, B1_1, B1_2⟩ := boxes3 W fv hv gv 88
  have HW1 := hide (pick1_v S G _ fv gv hv f f2 f3 W.heap.size (W.heap.size + 1 + 1) (W.heap.size + 1) (hf0.keepF K1) (hf1.keepF K1) (hf2.keepF K1) B1_0 B1_2 B1_1 (by rw [Z1]; omega) (by rw [Z1]; omega) (by rw [Z1]; omega) (fun h => by have := hG _ h; omega) (fun h => by have := hG _ h; omega) (fun h => by have := hG _ h; omega))
  have HK1 := hide K1
  clear K1 Z1 B1_0 B1_1 B1_2
  obtain ⟨K2, Z2, B2_0, B2_1, B2_2⟩ := boxes3 W gv fv hv 88
  have HW2 := hide (pick1_v S G _ fv gv hv f f2 f3 (W.heap.size + 1) W.heap.size (W.heap.size + 1 + 1) (hf0.keepF K2) (hf1.keepF K2) (hf2.keepF K2) B2_1 B2_0 B2_2 (by rw [Z2]; omega) (by rw [Z2]; omega) (by rw [Z2]; omega) (fun h => by have := hG _ h; omega) (fun h => by have := hG _ h; omega) (fun h => by have := hG _ h; omega))
  have HK2 := hide K2
  clear K2 Z2 B2_0 B2_1 B2_2
  obtain ⟨K3, Z3, B3_0, B3_1, B3_2⟩ := boxes3 W gv hv fv 88
  have HW3 := hide (pick1_v S G _ fv gv hv f f2 f3 (W.heap.size + 1 + 1) W.heap.size (W.heap.size + 1) (hf0.keepF K3) (hf1.keepF K3) (hf2.keepF K3) B3_2 B3_0 B3_1 (by rw [Z3]; omega) (by rw [Z3]; omega) (by rw [Z3]; omega) (fun h => by have := hG _ h; omega) (fun h => by have := hG _ h; omega) (fun h => by have := hG _ h; omega))
  have HK3 := hide K3
  clear K3 Z3 B3_0 B3_1 B3_2
  obtain ⟨K4, Z4, B4_0, B4_1, B4_2⟩ := boxes3 W hv fv gv 88
  have HW4 := hide (pick1_v S G _ fv gv hv f f2 f3 (W.heap.size + 1) (W.heap.size + 1 + 1) W.heap.size (hf0.keepF K4) (hf1.keepF K4) (hf2.keepF K4) B4_1 B4_2 B4_0 (by rw [Z4]; omega) (by rw [Z4]; omega) (by rw [Z4]; omega) (fun h => by have := hG _ h; omega) (fun h => by have := hG _ h; omega) (fun h => by have := hG _ h; omega))
  have HK4 := hide K4
  clear K4 Z4 B4_0 B4_1 B4_2
  obtain ⟨K5, Z5, B5_0, B5_1, B5_2⟩ := boxes3 W hv gv fv 88
  have HW5 := hide (pick1_v S G _ fv gv hv f f2 f3 (W.heap.size + 1 + 1) (W.heap.size + 1) W.heap.size (hf0.keepF K5) (hf1.keepF K5) (hf2.keepF K5) B5_2 B5_1 B5_0 (by rw [Z5]; omega) (by rw [Z5]; omega) (by rw [Z5]; omega) (fun h => by have := hG _ h; omega) (fun h => by have := hG _ h; omega) (fun h => by have := hG _ h; omega))
  have HK5 := hide K5
  clear K5 Z5 B5_0 B5_1 B5_2
  clear hc hGF hk
  obtain ⟨k0, cap0, rfl, _⟩ := hf0
  obtain ⟨k1, cap1, rfl, _⟩ := hf1
  obtain ⟨k2, cap2, rfl, _⟩ := hf2
  simp only [List.length_cons, List.length_nil]
  show Calls _ _ _ _ (fun e W' => ∃ fv, e = .returned fv ∧ Wth S G W' fv (fun h vals => if (f h vals).n = 1 then f2 h vals else f3 h vals) ∧ _)
  go_enter Tryz.func139, Tryz.ntmps139
  go_wp2_with fail
  have SB : ∀ w' : World, Keeps (fun q => W.heap.size ≤ q) W w' → w'.cell? ⟨b, 0, none⟩ = some (.func (.func k0) #[] cap0) ∧ w'.cell? ⟨b, 1, none⟩ = some (.func (.func k1) #[] cap1) ∧ w'.cell? ⟨b, 2, none⟩ = some (.func (.func k2) #[] cap2) := fun w' hq => ⟨(hq.cell hb (by omega)).trans c0, (hq.cell hb (by omega)).trans c1, (hq.cell hb (by omega)).trans c2⟩
  have HSB := hide SB
  have s0 := SB W (Keeps.refl _ _)
  clear SB c0 c1 c2
  go_region_held3 (fun w' => w'.cell? ⟨b, 0, none⟩ = some (.func (.func k0) #[] cap0) ∧ w'.cell? ⟨b, 1, none⟩ = some (.func (.func k1) #[] cap1) ∧ w'.cell? ⟨b, 2, none⟩ = some (.func (.func k2) #[] cap2))
    (first | with_reducible exact s0 | (refine unhide HSB _ ?_; repeat' first | exact Keeps.refl _ _ | refine Keeps.drew ?_ | refine Keeps.alloc ?_ _ | refine Keeps.setCell ?_ (fun _ => by first | omega | (simp <;> omega)) _)) (fail)
  all_goals go_wp2_with fail
  all_goals go_ret
  all_goals first | exact ⟨_, rfl, (unhide HW0).keepF (Keeps.refl _ _).drew, (unhide HK0).drew⟩ | exact ⟨_, rfl, (unhide HW1).keepF (Keeps.refl _ _).drew, (unhide HK1).drew⟩ | exact ⟨_, rfl, (unhide HW2).keepF (Keeps.refl _ _).drew, (unhide HK2).drew⟩ | exact ⟨_, rfl, (unhide HW3).keepF (Keeps.refl _ _).drew, (unhide HK3).drew⟩ | exact ⟨_, rfl, (unhide HW4).keepF (Keeps.refl _ _).drew, (unhide HK4).drew⟩ | exact ⟨_, rfl, (unhide HW5).keepF (Keeps.refl _ _).drew, (unhide HK5).drew⟩
end Go.Proofs.YtiinohibmcefkaaGreatDoor
