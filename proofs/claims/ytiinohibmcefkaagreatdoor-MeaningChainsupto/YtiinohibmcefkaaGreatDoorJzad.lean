import Derived.Test.YtiinohibmcefkaaGreatDoorJal
import Derived.Laws.EntriesVeiled
import Derived.Test.YtiinohibmcefkaaGreatDoorJzaj
import Derived.Test.YtiinohibmcefkaaGreatDoorJaf
namespace Go.Proofs.YtiinohibmcefkaaGreatDoor
open Go.RowKit Go.Maps
set_option maxRecDepth 100000
theorem number_w (n : Int) (w : World) : Calls Tryz.prog 77 #[.int .i64 n] w fun e w' => e = .returned (.agg #[.int .i64 1, .int .i64 n, .string ⟨#[]⟩]) ∧ Keeps (fun _ => False) w w' := number_v n w
theorem truth_w (b : Bool) (q : Int) (hq : q = if b then 1 else 0) (w : World) : Calls Tryz.prog 78 #[.bool b] w fun e w' => e = .returned (.agg #[.int .i64 2, .int .i64 q, .string ⟨#[]⟩]) ∧ Keeps (fun _ => False) w w' := by
 subst hq
 exact truth_v b w
theorem number_q (n q : Int) (h : n = q) (w : World) : Calls Tryz.prog 77 #[.int .i64 n] w fun e w' => e = .returned (.agg #[.int .i64 1, .int .i64 q, .string ⟨#[]⟩]) ∧ Keeps (fun _ => False) w w' := by
 subst h
 exact number_v n w
structure Pro1 (W X : World) (ak an : Int) (ax : Txt) : Prop where
 kept : Keeps (fun _ => False) W X
 a : X.heap[W.heap.size]? = some (.cells #[.int .i64 ak, .int .i64 an, str ax] 41 (0, 0))
 res : X.heap[W.heap.size + 1]? = some (.cells #[.int .i64 0, .int .i64 0, .string ⟨#[]⟩] 41 (0, 0))
theorem pro1_of (W : World) (ak an : Int) (ax : Txt) : ∃ X, (W.alloc (.cells #[.int .i64 ak, .int .i64 an, str ax] 41)).alloc (.cells #[.int .i64 0, .int .i64 0, .string ⟨#[]⟩] 41) = X ∧ Pro1 W X ak an ax := by
 refine ⟨_, rfl, ((Keeps.refl _ W).alloc _).alloc _, (((Keeps.refl (fun _ => False) _).alloc _).block _ (by simp) id).trans (heap_alloc_new W _), ?_⟩
 have := heap_alloc_new (W.alloc (.cells #[.int .i64 ak, .int .i64 an, str ax] 41)) (.cells #[.int .i64 0, .int .i64 0, .string ⟨#[]⟩] 41)
 rwa [show (W.alloc (.cells #[.int .i64 ak, .int .i64 an, str ax] 41)).heap.size = W.heap.size + 1 by simp] at this
structure Pro2 (W X : World) (ak an : Int) (ax : Txt) (bk bn : Int) (bx : Txt) : Prop where
 kept : Keeps (fun _ => False) W X
 a : X.heap[W.heap.size]? = some (.cells #[.int .i64 ak, .int .i64 an, str ax] 41 (0, 0))
 b : X.heap[W.heap.size + 1]? = some (.cells #[.int .i64 bk, .int .i64 bn, str bx] 41 (0, 0))
 res : X.heap[W.heap.size + 1 + 1]? = some (.cells #[.int .i64 0, .int .i64 0, .string ⟨#[]⟩] 41 (0, 0))
theorem pro2_of (W : World) (ak an : Int) (ax : Txt) (bk bn : Int) (bx : Txt) : ∃ X, ((W.alloc (.cells #[.int .i64 ak, .int .i64 an, str ax] 41)).alloc (.cells #[.int .i64 bk, .int .i64 bn, str bx] 41)).alloc (.cells #[.int .i64 0, .int .i64 0, .string ⟨#[]⟩] 41) = X ∧ Pro2 W X ak an ax bk bn bx := by
 have e1 : (W.alloc (.cells #[.int .i64 ak, .int .i64 an, str ax] 41)).heap.size = W.heap.size + 1 := by simp
 have e2 : ((W.alloc (.cells #[.int .i64 ak, .int .i64 an, str ax] 41)).alloc (.cells #[.int .i64 bk, .int .i64 bn, str bx] 41)).heap.size = W.heap.size + 1 + 1 := by simp
 have k1 : Keeps (fun _ => False) (W.alloc (.cells #[.int .i64 ak, .int .i64 an, str ax] 41)) ((W.alloc (.cells #[.int .i64 ak, .int .i64 an, str ax] 41)).alloc (.cells #[.int .i64 bk, .int .i64 bn, str bx] 41)) := (Keeps.refl _ _).alloc _
 have k2 := (Keeps.refl (fun _ => False) ((W.alloc (.cells #[.int .i64 ak, .int .i64 an, str ax] 41)).alloc (.cells #[.int .i64 bk, .int .i64 bn, str bx] 41))).alloc (.cells #[.int .i64 0, .int .i64 0, .string ⟨#[]⟩] 41)
 refine ⟨_, rfl, (((Keeps.refl _ W).alloc _).alloc _).alloc _, ((k1.trans k2).block _ (by omega) id).trans (heap_alloc_new W _), (k2.block _ (by omega) id).trans ?_, ?_⟩
 ·have := heap_alloc_new (W.alloc (.cells #[.int .i64 ak, .int .i64 an, str ax] 41)) (.cells #[.int .i64 bk, .int .i64 bn, str bx] 41)
  rwa [e1] at this
 ·have := heap_alloc_new ((W.alloc (.cells #[.int .i64 ak, .int .i64 an, str ax] 41)).alloc (.cells #[.int .i64 bk, .int .i64 bn, str bx] 41)) (.cells #[.int .i64 0, .int .i64 0, .string ⟨#[]⟩] 41)
  rwa [e2] at this
theorem f87_v : OneF (.func (.func 118) #[] #[]) (fun a => truV (decide (a.n = 0))) := by
 refine ⟨118, rfl, enters_of Tryz.func118 (by kernel_rfl) rfl, fun a _ => tru_short _, fun W a ha => ?_⟩
 obtain ⟨ak, an, ax⟩ := a
 obtain ⟨q, hq⟩ : ∃ q : Int, q = if decide (an = 0) then 1 else 0 := ⟨_, rfl⟩
 have HQ := hide hq
 obtain ⟨X, hX, P⟩ := pro1_of W ak an ax
 have hR : ((truV (decide (an = 0))) : ValA).v = .agg #[.int .i64 2, .int .i64 q, .string ⟨#[]⟩] := by subst hq; rfl
 show Calls _ _ _ _ (fun e W' => e = .returned ((truV (decide (an = 0))) : ValA).v ∧ _)
 rw [hR]
 simp only [ValA.v]
 clear hR hq
 have a0 : X.cell? ⟨W.heap.size, 0, none⟩ = some (.int .i64 ak) := (cB P.a 0).trans rfl
 have a1 : X.cell? ⟨W.heap.size, 1, none⟩ = some (.int .i64 an) := (cB P.a 1).trans rfl
 have a2 : X.cell? ⟨W.heap.size, 2, none⟩ = some (str ax) := (cB P.a 2).trans rfl
 have HP := hide P
 have HKA := hide (Keeps.refl (fun _ => False) X)
 clear P
 go_enter Tryz.func118, Tryz.ntmps118
 go_wp2_with fail
 refine (truth_w _ q (uh HQ) _).mono ?_
 rintro e w1 ⟨rfl, hk1⟩
 have HK1 := hide ((uh HKA).trans hk1)
 have hz := ((uh HK1).block _ (lt_of_block (uh HP).res) id).trans (uh HP).res
 have m0 := cB hz 0
 have m1 := cB hz 1
 have m2 := cB hz 2
 simp at m0 m1 m2
 have g0 := fB hz 0
 have g1 := fB hz 1
 have g2 := fB hz 2
 obtain ⟨o0, o1, o2⟩ := set3v hz (.int .i64 2) (.int .i64 q) (.string ⟨#[]⟩)
 have HD := hide (((uh HP).kept.trans (uh HK1)).narrow (keeps_set3 _ (W.heap.size + 1) (.int .i64 2) (.int .i64 q) (.string ⟨#[]⟩)) (fun q e => by omega))
 clear hz
 clear hk1
 go_wp2_with fail
 refine bodyPost_ret (v := .agg #[.int .i64 2, .int .i64 q, .string ⟨#[]⟩]) (by simp [results, go_sem, o0, o1, o2]) rfl ?_
 exact ⟨rfl, uh HD⟩
theorem f88_v : OneF (.func (.func 119) #[] #[]) (fun a => numV (wrap64 (-a.n))) := by
 refine ⟨119, rfl, enters_of Tryz.func119 (by kernel_rfl) rfl, fun a _ => num_short _, fun W a ha => ?_⟩
 obtain ⟨ak, an, ax⟩ := a
 obtain ⟨X, hX, P⟩ := pro1_of W ak an ax
 have hR : ((numV (wrap64 (-an))) : ValA).v = .agg #[.int .i64 1, .int .i64 (wrap64 (-an)), .string ⟨#[]⟩] := rfl
 show Calls _ _ _ _ (fun e W' => e = .returned ((numV (wrap64 (-an))) : ValA).v ∧ _)
 rw [hR]
 simp only [ValA.v]
 clear hR
 have a0 : X.cell? ⟨W.heap.size, 0, none⟩ = some (.int .i64 ak) := (cB P.a 0).trans rfl
 have a1 : X.cell? ⟨W.heap.size, 1, none⟩ = some (.int .i64 an) := (cB P.a 1).trans rfl
 have a2 : X.cell? ⟨W.heap.size, 2, none⟩ = some (str ax) := (cB P.a 2).trans rfl
 have HP := hide P
 have HKA := hide (Keeps.refl (fun _ => False) X)
 clear P
 go_enter Tryz.func119, Tryz.ntmps119
 go_wp2_with fail
 refine (number_w _ _).mono ?_
 rintro e w1 ⟨rfl, hk1⟩
 have HK1 := hide ((uh HKA).trans hk1)
 have hz := ((uh HK1).block _ (lt_of_block (uh HP).res) id).trans (uh HP).res
 have m0 := cB hz 0
 have m1 := cB hz 1
 have m2 := cB hz 2
 simp at m0 m1 m2
 have g0 := fB hz 0
 have g1 := fB hz 1
 have g2 := fB hz 2
 obtain ⟨o0, o1, o2⟩ := set3v hz (.int .i64 1) (.int .i64 (wrap64 (-an))) (.string ⟨#[]⟩)
 have HD := hide (((uh HP).kept.trans (uh HK1)).narrow (keeps_set3 _ (W.heap.size + 1) (.int .i64 1) (.int .i64 (wrap64 (-an))) (.string ⟨#[]⟩)) (fun q e => by omega))
 clear hz
 clear hk1
 go_wp2_with fail
 refine bodyPost_ret (v := .agg #[.int .i64 1, .int .i64 (wrap64 (-an)), .string ⟨#[]⟩]) (by simp [results, go_sem, o0, o1, o2]) rfl ?_
 exact ⟨rfl, uh HD⟩
theorem f90_v : TwoF (.func (.func 121) #[] #[]) (fun a b => numV (wrap64 (a.n + b.n))) := by
 refine ⟨121, rfl, enters_of Tryz.func121 (by kernel_rfl) rfl, fun a b _ _ => num_short _, fun W a b ha hb => ?_⟩
 obtain ⟨ak, an, ax⟩ := a
 obtain ⟨bk, bn, bx⟩ := b
 obtain ⟨X, hX, P⟩ := pro2_of W ak an ax bk bn bx
 have hR : ((numV (wrap64 (an + bn))) : ValA).v = .agg #[.int .i64 1, .int .i64 (wrap64 (an + bn)), .string ⟨#[]⟩] := rfl
 show Calls _ _ _ _ (fun e W' => e = .returned ((numV (wrap64 (an + bn))) : ValA).v ∧ _)
 rw [hR]
 simp only [ValA.v]
 clear hR
 have a0 : X.cell? ⟨W.heap.size, 0, none⟩ = some (.int .i64 ak) := (cB P.a 0).trans rfl
 have a1 : X.cell? ⟨W.heap.size, 1, none⟩ = some (.int .i64 an) := (cB P.a 1).trans rfl
 have a2 : X.cell? ⟨W.heap.size, 2, none⟩ = some (str ax) := (cB P.a 2).trans rfl
 have b0 : X.cell? ⟨W.heap.size + 1, 0, none⟩ = some (.int .i64 bk) := (cB P.b 0).trans rfl
 have b1 : X.cell? ⟨W.heap.size + 1, 1, none⟩ = some (.int .i64 bn) := (cB P.b 1).trans rfl
 have b2 : X.cell? ⟨W.heap.size + 1, 2, none⟩ = some (str bx) := (cB P.b 2).trans rfl
 have HP := hide P
 have HKA := hide (Keeps.refl (fun _ => False) X)
 clear P
 go_enter Tryz.func121, Tryz.ntmps121
 go_wp2_with fail
 refine (number_w _ _).mono ?_
 rintro e w1 ⟨rfl, hk1⟩
 have HK1 := hide ((uh HKA).trans hk1)
 have hz := ((uh HK1).block _ (lt_of_block (uh HP).res) id).trans (uh HP).res
 have m0 := cB hz 0
 have m1 := cB hz 1
 have m2 := cB hz 2
 simp at m0 m1 m2
 have g0 := fB hz 0
 have g1 := fB hz 1
 have g2 := fB hz 2
 obtain ⟨o0, o1, o2⟩ := set3v hz (.int .i64 1) (.int .i64 (wrap64 (an + bn))) (.string ⟨#[]⟩)
 have HD := hide (((uh HP).kept.trans (uh HK1)).narrow (keeps_set3 _ (W.heap.size + 1 + 1) (.int .i64 1) (.int .i64 (wrap64 (an + bn))) (.string ⟨#[]⟩)) (fun q e => by omega))
 clear hz
 clear hk1
 go_wp2_with fail
 refine bodyPost_ret (v := .agg #[.int .i64 1, .int .i64 (wrap64 (an + bn)), .string ⟨#[]⟩]) (by simp [results, go_sem, o0, o1, o2]) rfl ?_
 exact ⟨rfl, uh HD⟩
theorem f91_v : TwoF (.func (.func 122) #[] #[]) (fun a b => numV (wrap64 (a.n - b.n))) := by
 refine ⟨122, rfl, enters_of Tryz.func122 (by kernel_rfl) rfl, fun a b _ _ => num_short _, fun W a b ha hb => ?_⟩
 obtain ⟨ak, an, ax⟩ := a
 obtain ⟨bk, bn, bx⟩ := b
 obtain ⟨X, hX, P⟩ := pro2_of W ak an ax bk bn bx
 have hR : ((numV (wrap64 (an - bn))) : ValA).v = .agg #[.int .i64 1, .int .i64 (wrap64 (an - bn)), .string ⟨#[]⟩] := rfl
 show Calls _ _ _ _ (fun e W' => e = .returned ((numV (wrap64 (an - bn))) : ValA).v ∧ _)
 rw [hR]
 simp only [ValA.v]
 clear hR
 have a0 : X.cell? ⟨W.heap.size, 0, none⟩ = some (.int .i64 ak) := (cB P.a 0).trans rfl
 have a1 : X.cell? ⟨W.heap.size, 1, none⟩ = some (.int .i64 an) := (cB P.a 1).trans rfl
 have a2 : X.cell? ⟨W.heap.size, 2, none⟩ = some (str ax) := (cB P.a 2).trans rfl
 have b0 : X.cell? ⟨W.heap.size + 1, 0, none⟩ = some (.int .i64 bk) := (cB P.b 0).trans rfl
 have b1 : X.cell? ⟨W.heap.size + 1, 1, none⟩ = some (.int .i64 bn) := (cB P.b 1).trans rfl
 have b2 : X.cell? ⟨W.heap.size + 1, 2, none⟩ = some (str bx) := (cB P.b 2).trans rfl
 have HP := hide P
 have HKA := hide (Keeps.refl (fun _ => False) X)
 clear P
 go_enter Tryz.func122, Tryz.ntmps122
 go_wp2_with fail
 refine (number_w _ _).mono ?_
 rintro e w1 ⟨rfl, hk1⟩
 have HK1 := hide ((uh HKA).trans hk1)
 have hz := ((uh HK1).block _ (lt_of_block (uh HP).res) id).trans (uh HP).res
 have m0 := cB hz 0
 have m1 := cB hz 1
 have m2 := cB hz 2
 simp at m0 m1 m2
 have g0 := fB hz 0
 have g1 := fB hz 1
 have g2 := fB hz 2
 obtain ⟨o0, o1, o2⟩ := set3v hz (.int .i64 1) (.int .i64 (wrap64 (an - bn))) (.string ⟨#[]⟩)
 have HD := hide (((uh HP).kept.trans (uh HK1)).narrow (keeps_set3 _ (W.heap.size + 1 + 1) (.int .i64 1) (.int .i64 (wrap64 (an - bn))) (.string ⟨#[]⟩)) (fun q e => by omega))
 clear hz
 clear hk1
 go_wp2_with fail
 refine bodyPost_ret (v := .agg #[.int .i64 1, .int .i64 (wrap64 (an - bn)), .string ⟨#[]⟩]) (by simp [results, go_sem, o0, o1, o2]) rfl ?_
 exact ⟨rfl, uh HD⟩
theorem f92_v : TwoF (.func (.func 123) #[] #[]) (fun a b => numV (wrap64 (a.n * b.n))) := by
 refine ⟨123, rfl, enters_of Tryz.func123 (by kernel_rfl) rfl, fun a b _ _ => num_short _, fun W a b ha hb => ?_⟩
 obtain ⟨ak, an, ax⟩ := a
 obtain ⟨bk, bn, bx⟩ := b
 obtain ⟨X, hX, P⟩ := pro2_of W ak an ax bk bn bx
 have hR : ((numV (wrap64 (an * bn))) : ValA).v = .agg #[.int .i64 1, .int .i64 (wrap64 (an * bn)), .string ⟨#[]⟩] := rfl
 show Calls _ _ _ _ (fun e W' => e = .returned ((numV (wrap64 (an * bn))) : ValA).v ∧ _)
 rw [hR]
 simp only [ValA.v]
 clear hR
 have a0 : X.cell? ⟨W.heap.size, 0, none⟩ = some (.int .i64 ak) := (cB P.a 0).trans rfl
 have a1 : X.cell? ⟨W.heap.size, 1, none⟩ = some (.int .i64 an) := (cB P.a 1).trans rfl
 have a2 : X.cell? ⟨W.heap.size, 2, none⟩ = some (str ax) := (cB P.a 2).trans rfl
 have b0 : X.cell? ⟨W.heap.size + 1, 0, none⟩ = some (.int .i64 bk) := (cB P.b 0).trans rfl
 have b1 : X.cell? ⟨W.heap.size + 1, 1, none⟩ = some (.int .i64 bn) := (cB P.b 1).trans rfl
 have b2 : X.cell? ⟨W.heap.size + 1, 2, none⟩ = some (str bx) := (cB P.b 2).trans rfl
 have HP := hide P
 have HKA := hide (Keeps.refl (fun _ => False) X)
 clear P
 go_enter Tryz.func123, Tryz.ntmps123
 go_wp2_with fail
 refine (number_w _ _).mono ?_
 rintro e w1 ⟨rfl, hk1⟩
 have HK1 := hide ((uh HKA).trans hk1)
 have hz := ((uh HK1).block _ (lt_of_block (uh HP).res) id).trans (uh HP).res
 have m0 := cB hz 0
 have m1 := cB hz 1
 have m2 := cB hz 2
 simp at m0 m1 m2
 have g0 := fB hz 0
 have g1 := fB hz 1
 have g2 := fB hz 2
 obtain ⟨o0, o1, o2⟩ := set3v hz (.int .i64 1) (.int .i64 (wrap64 (an * bn))) (.string ⟨#[]⟩)
 have HD := hide (((uh HP).kept.trans (uh HK1)).narrow (keeps_set3 _ (W.heap.size + 1 + 1) (.int .i64 1) (.int .i64 (wrap64 (an * bn))) (.string ⟨#[]⟩)) (fun q e => by omega))
 clear hz
 clear hk1
 go_wp2_with fail
 refine bodyPost_ret (v := .agg #[.int .i64 1, .int .i64 (wrap64 (an * bn)), .string ⟨#[]⟩]) (by simp [results, go_sem, o0, o1, o2]) rfl ?_
 exact ⟨rfl, uh HD⟩
theorem f104_v : TwoF (.func (.func 135) #[] #[]) (fun a b => numV (min a.n b.n)) := by
 refine ⟨135, rfl, enters_of Tryz.func135 (by kernel_rfl) rfl, fun a b _ _ => num_short _, fun W a b ha hb => ?_⟩
 obtain ⟨ak, an, ax⟩ := a
 obtain ⟨bk, bn, bx⟩ := b
 obtain ⟨q, hq⟩ : ∃ q : Int, q = min an bn := ⟨_, rfl⟩
 have HQ := hide hq
 obtain ⟨X, hX, P⟩ := pro2_of W ak an ax bk bn bx
 have hR : ((numV (min an bn)) : ValA).v = .agg #[.int .i64 1, .int .i64 (q), .string ⟨#[]⟩] := by subst hq; rfl
 show Calls _ _ _ _ (fun e W' => e = .returned ((numV (min an bn)) : ValA).v ∧ _)
 rw [hR]
 simp only [ValA.v]
 clear hR hq
 have a0 : X.cell? ⟨W.heap.size, 0, none⟩ = some (.int .i64 ak) := (cB P.a 0).trans rfl
 have a1 : X.cell? ⟨W.heap.size, 1, none⟩ = some (.int .i64 an) := (cB P.a 1).trans rfl
 have a2 : X.cell? ⟨W.heap.size, 2, none⟩ = some (str ax) := (cB P.a 2).trans rfl
 have b0 : X.cell? ⟨W.heap.size + 1, 0, none⟩ = some (.int .i64 bk) := (cB P.b 0).trans rfl
 have b1 : X.cell? ⟨W.heap.size + 1, 1, none⟩ = some (.int .i64 bn) := (cB P.b 1).trans rfl
 have b2 : X.cell? ⟨W.heap.size + 1, 2, none⟩ = some (str bx) := (cB P.b 2).trans rfl
 have HP := hide P
 have HKA := hide (Keeps.refl (fun _ => False) X)
 clear P
 go_enter Tryz.func135, Tryz.ntmps135
 go_wp2_with fail
 all_goals
  refine (number_q _ q (by have := uh HQ; omega) _).mono ?_
  rintro e w1 ⟨rfl, hk1⟩
  have HK1 := hide ((uh HKA).trans hk1)
  have hz := ((uh HK1).block _ (lt_of_block (uh HP).res) id).trans (uh HP).res
  have m0 := cB hz 0
  have m1 := cB hz 1
  have m2 := cB hz 2
  simp at m0 m1 m2
  have g0 := fB hz 0
  have g1 := fB hz 1
  have g2 := fB hz 2
  obtain ⟨o0, o1, o2⟩ := set3v hz (.int .i64 1) (.int .i64 (q)) (.string ⟨#[]⟩)
  have HD := hide (((uh HP).kept.trans (uh HK1)).narrow (keeps_set3 _ (W.heap.size + 1 + 1) (.int .i64 1) (.int .i64 (q)) (.string ⟨#[]⟩)) (fun q e => by omega))
  clear hz
  clear hk1
  go_wp2_with fail
  refine bodyPost_ret (v := .agg #[.int .i64 1, .int .i64 (q), .string ⟨#[]⟩]) (by simp [results, go_sem, o0, o1, o2]) rfl ?_
  exact ⟨rfl, uh HD⟩
theorem f105_v : TwoF (.func (.func 136) #[] #[]) (fun a b => numV (max a.n b.n)) := by
 refine ⟨136, rfl, enters_of Tryz.func136 (by kernel_rfl) rfl, fun a b _ _ => num_short _, fun W a b ha hb => ?_⟩
 obtain ⟨ak, an, ax⟩ := a
 obtain ⟨bk, bn, bx⟩ := b
 obtain ⟨q, hq⟩ : ∃ q : Int, q = max an bn := ⟨_, rfl⟩
 have HQ := hide hq
 obtain ⟨X, hX, P⟩ := pro2_of W ak an ax bk bn bx
 have hR : ((numV (max an bn)) : ValA).v = .agg #[.int .i64 1, .int .i64 (q), .string ⟨#[]⟩] := by subst hq; rfl
 show Calls _ _ _ _ (fun e W' => e = .returned ((numV (max an bn)) : ValA).v ∧ _)
 rw [hR]
 simp only [ValA.v]
 clear hR hq
 have a0 : X.cell? ⟨W.heap.size, 0, none⟩ = some (.int .i64 ak) := (cB P.a 0).trans rfl
 have a1 : X.cell? ⟨W.heap.size, 1, none⟩ = some (.int .i64 an) := (cB P.a 1).trans rfl
 have a2 : X.cell? ⟨W.heap.size, 2, none⟩ = some (str ax) := (cB P.a 2).trans rfl
 have b0 : X.cell? ⟨W.heap.size + 1, 0, none⟩ = some (.int .i64 bk) := (cB P.b 0).trans rfl
 have b1 : X.cell? ⟨W.heap.size + 1, 1, none⟩ = some (.int .i64 bn) := (cB P.b 1).trans rfl
 have b2 : X.cell? ⟨W.heap.size + 1, 2, none⟩ = some (str bx) := (cB P.b 2).trans rfl
 have HP := hide P
 have HKA := hide (Keeps.refl (fun _ => False) X)
 clear P
 go_enter Tryz.func136, Tryz.ntmps136
 go_wp2_with fail
 all_goals
  refine (number_q _ q (by have := uh HQ; omega) _).mono ?_
  rintro e w1 ⟨rfl, hk1⟩
  have HK1 := hide ((uh HKA).trans hk1)
  have hz := ((uh HK1).block _ (lt_of_block (uh HP).res) id).trans (uh HP).res
  have m0 := cB hz 0
  have m1 := cB hz 1
  have m2 := cB hz 2
  simp at m0 m1 m2
  have g0 := fB hz 0
  have g1 := fB hz 1
  have g2 := fB hz 2
  obtain ⟨o0, o1, o2⟩ := set3v hz (.int .i64 1) (.int .i64 (q)) (.string ⟨#[]⟩)
  have HD := hide (((uh HP).kept.trans (uh HK1)).narrow (keeps_set3 _ (W.heap.size + 1 + 1) (.int .i64 1) (.int .i64 (q)) (.string ⟨#[]⟩)) (fun q e => by omega))
  clear hz
  clear hk1
  go_wp2_with fail
  refine bodyPost_ret (v := .agg #[.int .i64 1, .int .i64 (q), .string ⟨#[]⟩]) (by simp [results, go_sem, o0, o1, o2]) rfl ?_
  exact ⟨rfl, uh HD⟩
theorem f106_v : OneF (.func (.func 137) #[] #[]) (fun a => numV (a.s.length : Int)) := by
 refine ⟨137, rfl, enters_of Tryz.func137 (by kernel_rfl) rfl, fun a _ => num_short _, fun W a ha => ?_⟩
 obtain ⟨ak, an, ax⟩ := a
 obtain ⟨X, hX, P⟩ := pro1_of W ak an ax
 have hR : ((numV (ax.length : Int)) : ValA).v = .agg #[.int .i64 1, .int .i64 ((ax.length : Int)), .string ⟨#[]⟩] := rfl
 show Calls _ _ _ _ (fun e W' => e = .returned ((numV (ax.length : Int)) : ValA).v ∧ _)
 rw [hR]
 simp only [ValA.v]
 clear hR
 have a0 : X.cell? ⟨W.heap.size, 0, none⟩ = some (.int .i64 ak) := (cB P.a 0).trans rfl
 have a1 : X.cell? ⟨W.heap.size, 1, none⟩ = some (.int .i64 an) := (cB P.a 1).trans rfl
 have a2 : X.cell? ⟨W.heap.size, 2, none⟩ = some (str ax) := (cB P.a 2).trans rfl
 have HP := hide P
 have HKA := hide (Keeps.refl (fun _ => False) X)
 clear P
 go_enter Tryz.func137, Tryz.ntmps137
 go_wp2_with fail
 refine (number_w _ _).mono ?_
 rintro e w1 ⟨rfl, hk1⟩
 have HK1 := hide ((uh HKA).trans hk1)
 have hz := ((uh HK1).block _ (lt_of_block (uh HP).res) id).trans (uh HP).res
 have m0 := cB hz 0
 have m1 := cB hz 1
 have m2 := cB hz 2
 simp at m0 m1 m2
 have g0 := fB hz 0
 have g1 := fB hz 1
 have g2 := fB hz 2
 obtain ⟨o0, o1, o2⟩ := set3v hz (.int .i64 1) (.int .i64 ((ax.length : Int))) (.string ⟨#[]⟩)
 have HD := hide (((uh HP).kept.trans (uh HK1)).narrow (keeps_set3 _ (W.heap.size + 1) (.int .i64 1) (.int .i64 ((ax.length : Int))) (.string ⟨#[]⟩)) (fun q e => by omega))
 clear hz
 clear hk1
 go_wp2_with fail
 refine bodyPost_ret (v := .agg #[.int .i64 1, .int .i64 ((ax.length : Int)), .string ⟨#[]⟩]) (by simp [results, go_sem, o0, o1, o2]) rfl ?_
 exact ⟨rfl, uh HD⟩
end Go.Proofs.YtiinohibmcefkaaGreatDoor
namespace Go.Proofs.YtiinohibmcefkaaGreatDoor
open Go.RowKit Go.Maps
set_option maxRecDepth 100000
set_option maxHeartbeats 1000000
abbrev refV (p : KA × Int) : Value := .agg #[.int .i64 p.1.t, .bool p.1.o, .int .i64 p.2]
theorem refField_v (S : List FieldA) (sv : Value) (nm : Txt) (w : World) (h : FldsAt w sv S) (hl : S.length ≤ 8) :
  Calls Tryz.prog 93 #[.agg #[sv], str nm] w fun e w' => (∃ i : Int, e = .returned (.int .i64 i) ∧ ((fieldOf S nm = none ∧ i = -1) ∨ ∃ (k : Nat) (f : FieldA), S[k]? = some f ∧ fieldOf S nm = some f ∧ i = k)) ∧ Keeps (fun _ => False) w w' := by
 obtain ⟨ao, cap, rfl⟩ := RowAt.form h
 obtain ⟨HB, hxb, hxc⟩ := boxed w #[.slice ao S.length cap] 24
 have c0 := hxc 0 (.slice ao S.length cap) rfl
 have HF := hide (h.keepF (uh HB))
 clear h hxc
 go_enter Tryz.func93, Tryz.ntmps93
 go_wp2_with fail
 go_loopw [5] (fun i wr => ∃ k : Nat, k ≤ S.length ∧ i = .int .i64 k ∧ Hid (fieldOf S nm = fieldOf (S.drop k) nm) ∧ wr = w.alloc (.cells #[.slice ao S.length cap] 24)) (fun i _ => S.length - (intOf i).toNat)
 case atStart => exact ⟨0, Nat.zero_le _, rfl, by simp [Hid], rfl⟩
 case round =>
  obtain ⟨k, hk, rfl, HS, rfl⟩ := hrel
  cases h : S[k]? with
  | none =>
   have h1 := get_ge h
   obtain rfl : k = S.length := by omega
   clear h h1
   rw [List.drop_length] at HS
   have i1 : ¬ (S.length : Int) < (S.length : Int) := by omega
   go_wp2_with fail
   go_ret
   exact ⟨⟨_, rfl, Or.inl ⟨uh HS, rfl⟩⟩, uh HB⟩
  | some f =>
   have h1 := get_lt h
   obtain ⟨b, off, c, e, hbl, hc⟩ := (uh HF).cells (by omega)
   simp at e
   obtain ⟨rfl, rfl⟩ := e
   have q0 := (hc k f h).1
   have HO : Hid (fieldOf (S.drop k) nm = if f.name = nm then some f else fieldOf (S.drop (k + 1)) nm) := by
    obtain ⟨hk', hx⟩ := List.getElem?_eq_some_iff.1 h
    show _ = _
    rw [List.drop_eq_getElem_cons hk', hx]
    unfold fieldOf
    rw [List.find?_cons]
    by_cases hn : f.name = nm
    ·simp [hn]
    ·simp [hn]
   have HH := hide h
   clear h hc
   have i1 : (k : Int) < (S.length : Int) := by omega
   have i0 : (0 : Int) ≤ (k : Int) := by omega
   go_wp2
   case roundEnd =>
    rename_i hne
    have hne' : ¬ f.name = nm := by simpa using hne
    go_roundw
    case rel => exact ⟨k + 1, by omega, by go_num, (uh HS).trans ((uh HO).trans (if_neg hne')), by trivial⟩
    case measure => simp [intOf]; omega
   rename_i hne
   have hne' : f.name = nm := by simpa using hne
   go_ret
   exact ⟨⟨_, rfl, Or.inr ⟨k, f, uh HH, (uh HS).trans ((uh HO).trans (if_pos hne')), rfl⟩⟩, uh HB⟩
end Go.Proofs.YtiinohibmcefkaaGreatDoor
namespace Go.Proofs.YtiinohibmcefkaaGreatDoor
open Go.RowKit Go.Maps
set_option maxRecDepth 100000
set_option maxHeartbeats 2000000
theorem refField_none (S : List FieldA) (sv : Value) (nm : Txt) (w : World) (h : FldsAt w sv S) (hl : S.length ≤ 8) (hfo : fieldOf S nm = none) :
  Calls Tryz.prog 93 #[.agg #[sv], str nm] w fun e w' => e = .returned (.int .i64 (-1)) ∧ Keeps (fun _ => False) w w' :=
 (refField_v S sv nm w h hl).mono fun e w2 ⟨⟨i, he, hi⟩, hk⟩ => by
   rcases hi with ⟨_, rfl⟩ | ⟨_, _, _, h2, _⟩
   ·exact ⟨he, hk⟩
   ·rw [hfo] at h2; cases h2
theorem refField_some (S : List FieldA) (sv : Value) (nm : Txt) (w : World) (h : FldsAt w sv S) (hl : S.length ≤ 8) (f : FieldA) (hfo : fieldOf S nm = some f) :
  Calls Tryz.prog 93 #[.agg #[sv], str nm] w fun e w' => (∃ k : Nat, S[k]? = some f ∧ e = .returned (.int .i64 (k : Int))) ∧ Keeps (fun _ => False) w w' :=
 (refField_v S sv nm w h hl).mono fun e w2 ⟨⟨i, he, hi⟩, hk⟩ => by
   rcases hi with ⟨h2, _⟩ | ⟨k, g, h1, h2, rfl⟩
   ·rw [hfo] at h2; cases h2
   ·rw [hfo] at h2
    obtain rfl := Option.some.inj h2
    exact ⟨⟨k, h1, he⟩, hk⟩
def refNamed (S : List FieldA) (op : Int) (s : Txt) : KA × Int := zeroK (if op = 4 then namedK S s else hasK S s)
theorem refF_v (S : List FieldA) (sv : Value) (op n : Int) (s : Txt) (ao : Option Addr) (xn xc : Nat) (w : World) (h : FldsAt w sv S) (hl : S.length ≤ 8) :
  Calls Tryz.prog 149 #[.agg #[sv], exV op n s (.slice ao xn xc)] w fun e w' => e = .returned (refV (refNamed S op s)) ∧ Keeps (fun _ => False) w w' := by
 obtain ⟨so, sc, rfl⟩ := RowAt.form h
 have HK0 : Hid (Keeps (fun _ => False) w (((w.alloc (.cells #[.slice so S.length sc] 24)).alloc (.cells #[.int .i64 op, .int .i64 n, str s, .slice ao xn xc] 27)).alloc (.cells #[.int .i64 0, .bool false, .int .i64 0] 134))) := (((Keeps.refl _ w).alloc _).alloc _).alloc _
 have e1 : (w.alloc (.cells #[.slice so S.length sc] 24)).heap.size = w.heap.size + 1 := by simp
 have e2 : ((w.alloc (.cells #[.slice so S.length sc] 24)).alloc (.cells #[.int .i64 op, .int .i64 n, str s, .slice ao xn xc] 27)).heap.size = w.heap.size + 2 := by simp
 have hb0 : (((w.alloc (.cells #[.slice so S.length sc] 24)).alloc (.cells #[.int .i64 op, .int .i64 n, str s, .slice ao xn xc] 27)).alloc (.cells #[.int .i64 0, .bool false, .int .i64 0] 134)).heap[w.heap.size]? = some (.cells #[.slice so S.length sc] 24 (0, 0)) := ((((Keeps.refl (fun _ => False) _).alloc _).alloc _).block _ (by rw [e1]; omega) id).trans (heap_alloc_new w _)
 have hb1 : (((w.alloc (.cells #[.slice so S.length sc] 24)).alloc (.cells #[.int .i64 op, .int .i64 n, str s, .slice ao xn xc] 27)).alloc (.cells #[.int .i64 0, .bool false, .int .i64 0] 134)).heap[w.heap.size + 1]? = some (.cells #[.int .i64 op, .int .i64 n, str s, .slice ao xn xc] 27 (0, 0)) := by
  have := heap_alloc_new (w.alloc (.cells #[.slice so S.length sc] 24)) (.cells #[.int .i64 op, .int .i64 n, str s, .slice ao xn xc] 27)
  rw [e1] at this
  exact (((Keeps.refl (fun _ => False) _).alloc _).block _ (by rw [e2]; omega) id).trans this
 have hb2 : (((w.alloc (.cells #[.slice so S.length sc] 24)).alloc (.cells #[.int .i64 op, .int .i64 n, str s, .slice ao xn xc] 27)).alloc (.cells #[.int .i64 0, .bool false, .int .i64 0] 134)).heap[w.heap.size + 2]? = some (.cells #[.int .i64 0, .bool false, .int .i64 0] 134 (0, 0)) := by
  have := heap_alloc_new ((w.alloc (.cells #[.slice so S.length sc] 24)).alloc (.cells #[.int .i64 op, .int .i64 n, str s, .slice ao xn xc] 27)) (.cells #[.int .i64 0, .bool false, .int .i64 0] 134)
  rw [e2] at this
  exact this
 have HC := fun w' (hk : Keeps (fun _ => False) w w') => hide (refField_v S (.slice so S.length sc) s w' (h.keepF hk) hl)
 have HF := hide h
 have B0 := hide hb0
 have B1 := hide hb1
 have B2 := hide hb2
 clear h hb0 hb1 hb2 e1 e2
 have done : ∀ (w1 w2 : World) (x : Array Value), Keeps (fun _ => False) w w1 → w1.heap[w.heap.size + 2]? = some (.cells x 134 (0, 0)) → x.size = 3 → ∀ (p q r : Value), let w3 := ((w1.setCell ⟨w.heap.size + 2, 0, none⟩ p).setCell ⟨w.heap.size + 2, 1, none⟩ q).setCell ⟨w.heap.size + 2, 2, none⟩ r
   w3.cell? ⟨w.heap.size + 2, 0, none⟩ = some p ∧ w3.cell? ⟨w.heap.size + 2, 1, none⟩ = some q ∧ w3.cell? ⟨w.heap.size + 2, 2, none⟩ = some r ∧ Keeps (fun _ => False) w w3 := by
  intro w1 _ x hk hx hs p q r w3
  have hb := heap_setCell_at (o := 2) (heap_setCell_at (o := 1) (heap_setCell_at (o := 0) hx p) q) r
  have hks : Keeps (fun t => t = w.heap.size + 2) w1 w3 := ((keeps_set _ _ _ _).trans (keeps_set _ _ _ _)).trans (keeps_set _ _ _ _)
  refine ⟨?_, ?_, ?_, hk.narrow hks (fun t e => by omega)⟩
  all_goals (rw [cB hb]; simp [hs])
 have HD := hide done
 clear done
 cases hfo : fieldOf S s with
 | none =>
  have HR : Hid (refNamed S op s = (⟨0, false⟩, 90)) := by
   show _ = _
   unfold refNamed hasK namedK
   rw [hfo]
   split <;> rfl
  have HC1 := fun w' (hk : Keeps (fun _ => False) w w') => hide (refField_none S (.slice so S.length sc) s w' ((uh HF).keepF hk) hl hfo)
  clear HC hfo
  go_enter Tryz.func149, Tryz.ntmps149
  go_wp2_with (go_at_call 93; refine (uh (HC1 _ (uh HK0))).mono ?_; rintro e w1 ⟨rfl, hk1⟩; have k0 := (hk1.block _ (lt_of_block (uh B0)) id).trans (uh B0); have k1 := (hk1.block _ (lt_of_block (uh B1)) id).trans (uh B1); have k2 := (hk1.block _ (lt_of_block (uh B2)) id).trans (uh B2); have p0 := cB k0 0; have p1 := cB k1 0; have m0 := cB k2 0; have m1 := cB k2 1; have m2 := cB k2 2; simp at p0 p1 m0 m1 m2; have g0 := fB k2 0; have g1 := fB k2 1; have g2 := fB k2 2; have HK1 := hide ((uh HK0).trans hk1); have K2 := hide k2; clear hk1 k0 k1 k2)
  obtain ⟨s0, s1, s2, hkf⟩ := uh HD _ w1 _ (uh HK1) (uh K2) rfl (.int .i64 0) (.bool false) (.int .i64 90)
  refine bodyPost_ret (v := refV (⟨0, false⟩, 90)) (by simp [results, go_sem, s0, s1, s2]) rfl ?_
  exact ⟨by rw [uh HR], hkf⟩
 | some f =>
  obtain ⟨fname, ftype, fopt⟩ := f
  have hpos : 0 < S.length := List.length_pos_of_mem (List.mem_of_find?_eq_some hfo)
  obtain ⟨b, off, c, e, hbl, hc⟩ := (uh HF).cells hpos
  simp at e
  obtain ⟨rfl, rfl⟩ := e
  have HCC := hide hc
  clear hc
  have HC1 := fun w' (hk : Keeps (fun _ => False) w w') => hide (refField_some S _ s w' ((uh HF).keepF hk) hl ⟨fname, ftype, fopt⟩ hfo)
  clear HC
  by_cases h4 : op = 4
  ·have HR : Hid (refNamed S op s = (⟨ftype, fopt⟩, 0)) := by
    show _ = _
    unfold refNamed namedK
    rw [if_pos h4, hfo]
    rfl
   subst h4
   clear hfo
   go_enter Tryz.func149, Tryz.ntmps149
   go_wp2_with (go_at_call 93; refine (uh (HC1 _ (uh HK0))).mono ?_; rintro e w1 ⟨⟨k, hkf, rfl⟩, hk1⟩; have hkl := (List.getElem?_eq_some_iff.1 hkf).1; have i1 : (k : Int) < (S.length : Int) := (by omega); have i0 : (0 : Int) ≤ (k : Int) := (by omega); have i2 : ¬ (k : Int) < 0 := (by omega); have hkw := (uh HK0).trans hk1; have f0 := (hkw.cell hbl id).trans (uh HCC k _ hkf).1; have f1 := (hkw.cell hbl id).trans (uh HCC k _ hkf).2.1; have f2 := (hkw.cell hbl id).trans (uh HCC k _ hkf).2.2; have k0 := (hk1.block _ (lt_of_block (uh B0)) id).trans (uh B0); have p0 : World.cell? _ _ = some (Value.slice (some ⟨b, off, none⟩) S.length sc) := cB k0 0; have ka := hk1.trans ((Keeps.refl (fun _ => False) w1).alloc (.cells #[str fname, .int .i64 ftype, .bool fopt] 47)); have k2 := (ka.block _ (lt_of_block (uh B2)) id).trans (uh B2); have k1 := (ka.block _ (lt_of_block (uh B1)) id).trans (uh B1); have p1 : World.cell? _ _ = some (Value.int .i64 4) := cB k1 0; have m0 : World.cell? _ _ = some (Value.int .i64 0) := cB k2 0; have m1 : World.cell? _ _ = some (Value.bool false) := cB k2 1; have m2 : World.cell? _ _ = some (Value.int .i64 0) := cB k2 2; have g0 := fB k2 0; have g1 := fB k2 1; have g2 := fB k2 2; have HK1 := hide ((uh HK0).trans ka); have K2 := hide k2; clear hk1 k0 k1 k2 ka hkf hkw)
   obtain ⟨s0, s1, s2, hkf⟩ := uh HD _ w1 _ (uh HK1) (uh K2) rfl (.int .i64 ftype) (.bool fopt) (.int .i64 0)
   refine bodyPost_ret (v := refV (⟨ftype, fopt⟩, 0)) (by simp [results, go_sem, s0, s1, s2]) rfl ?_
   exact ⟨by rw [uh HR], hkf⟩
  ·have d4 : (op == 4) = false := by simpa using h4
   cases fopt with
   | false =>
    have HR : Hid (refNamed S op s = (⟨0, false⟩, 92)) := by
     show _ = _
     unfold refNamed hasK namedK
     rw [if_neg h4, hfo]
     simp [zeroK, orI, optI]
    clear hfo h4
    go_enter Tryz.func149, Tryz.ntmps149
    go_wp2_with (go_at_call 93; refine (uh (HC1 _ (uh HK0))).mono ?_; rintro e w1 ⟨⟨k, hkf, rfl⟩, hk1⟩; have hkl := (List.getElem?_eq_some_iff.1 hkf).1; have i1 : (k : Int) < (S.length : Int) := (by omega); have i0 : (0 : Int) ≤ (k : Int) := (by omega); have i2 : ¬ (k : Int) < 0 := (by omega); have hkw := (uh HK0).trans hk1; have f0 := (hkw.cell hbl id).trans (uh HCC k _ hkf).1; have f1 := (hkw.cell hbl id).trans (uh HCC k _ hkf).2.1; have f2 := (hkw.cell hbl id).trans (uh HCC k _ hkf).2.2; have k0 := (hk1.block _ (lt_of_block (uh B0)) id).trans (uh B0); have p0 : World.cell? _ _ = some (Value.slice (some ⟨b, off, none⟩) S.length sc) := cB k0 0; have ka := hk1.trans ((Keeps.refl (fun _ => False) w1).alloc (.cells #[str fname, .int .i64 ftype, .bool false] 47)); have k2 := (ka.block _ (lt_of_block (uh B2)) id).trans (uh B2); have k1 := (ka.block _ (lt_of_block (uh B1)) id).trans (uh B1); have p1 : World.cell? _ _ = some (Value.int .i64 op) := cB k1 0; have m0 : World.cell? _ _ = some (Value.int .i64 0) := cB k2 0; have m1 : World.cell? _ _ = some (Value.bool false) := cB k2 1; have m2 : World.cell? _ _ = some (Value.int .i64 0) := cB k2 2; have g0 := fB k2 0; have g1 := fB k2 1; have g2 := fB k2 2; have HK1 := hide ((uh HK0).trans ka); have K2 := hide k2; clear hk1 k0 k1 k2 ka hkf hkw)
    obtain ⟨s0, s1, s2, hkf⟩ := uh HD _ w1 _ (uh HK1) (uh K2) rfl (.int .i64 0) (.bool false) (.int .i64 92)
    refine bodyPost_ret (v := refV (⟨0, false⟩, 92)) (by simp [results, go_sem, s0, s1, s2]) rfl ?_
    exact ⟨by rw [uh HR], hkf⟩
   | true =>
    have HR : Hid (refNamed S op s = (⟨2, false⟩, 0)) := by
     show _ = _
     unfold refNamed hasK namedK
     rw [if_neg h4, hfo]
     simp [zeroK, orI, optI]
    clear hfo h4
    go_enter Tryz.func149, Tryz.ntmps149
    go_wp2_with (go_at_call 93; refine (uh (HC1 _ (uh HK0))).mono ?_; rintro e w1 ⟨⟨k, hkf, rfl⟩, hk1⟩; have hkl := (List.getElem?_eq_some_iff.1 hkf).1; have i1 : (k : Int) < (S.length : Int) := (by omega); have i0 : (0 : Int) ≤ (k : Int) := (by omega); have i2 : ¬ (k : Int) < 0 := (by omega); have hkw := (uh HK0).trans hk1; have f0 := (hkw.cell hbl id).trans (uh HCC k _ hkf).1; have f1 := (hkw.cell hbl id).trans (uh HCC k _ hkf).2.1; have f2 := (hkw.cell hbl id).trans (uh HCC k _ hkf).2.2; have k0 := (hk1.block _ (lt_of_block (uh B0)) id).trans (uh B0); have p0 : World.cell? _ _ = some (Value.slice (some ⟨b, off, none⟩) S.length sc) := cB k0 0; have ka := hk1.trans ((Keeps.refl (fun _ => False) w1).alloc (.cells #[str fname, .int .i64 ftype, .bool true] 47)); have k2 := (ka.block _ (lt_of_block (uh B2)) id).trans (uh B2); have k1 := (ka.block _ (lt_of_block (uh B1)) id).trans (uh B1); have p1 : World.cell? _ _ = some (Value.int .i64 op) := cB k1 0; have m0 : World.cell? _ _ = some (Value.int .i64 0) := cB k2 0; have m1 : World.cell? _ _ = some (Value.bool false) := cB k2 1; have m2 : World.cell? _ _ = some (Value.int .i64 0) := cB k2 2; have g0 := fB k2 0; have g1 := fB k2 1; have g2 := fB k2 2; have HK1 := hide ((uh HK0).trans ka); have K2 := hide k2; clear hk1 k0 k1 k2 ka hkf hkw)
    obtain ⟨s0, s1, s2, hkf⟩ := uh HD _ w1 _ (uh HK1) (uh K2) rfl (.int .i64 2) (.bool false) (.int .i64 0)
    refine bodyPost_ret (v := refV (⟨2, false⟩, 0)) (by simp [results, go_sem, s0, s1, s2]) rfl ?_
    exact ⟨by rw [uh HR], hkf⟩
end Go.Proofs.YtiinohibmcefkaaGreatDoor
