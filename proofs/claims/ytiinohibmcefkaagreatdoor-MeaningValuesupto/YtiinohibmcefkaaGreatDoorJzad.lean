import Derived.Test.YtiinohibmcefkaaGreatDoorJal
import Derived.Laws.EntriesVeiled
import Derived.Test.YtiinohibmcefkaaGreatDoorJan
import Derived.Test.YtiinohibmcefkaaGreatDoorJaz
import Derived.Test.YtiinohibmcefkaaGreatDoorKm
import Derived.Test.YtiinohibmcefkaaGreatDoorJad
import Derived.Test.YtiinohibmcefkaaGreatDoorJzab
import Derived.Test.YtiinohibmcefkaaGreatDoorJaf
namespace Go.Proofs.YtiinohibmcefkaaGreatDoor
open Go.RowKit Go.Maps

theorem number_w (n : Int) (w : World) : Calls Tryz.prog 77 #[.int .i64 n] w fun e w' => e = .returned (.agg #[.int .i64 1, .int .i64 n, .string ⟨#[]⟩]) ∧ Keeps (fun _ => False) w w' := number_v n w
theorem truth_w (b : Bool) (q : Int) (hq : q = if b then 1 else 0) (w : World) : Calls Tryz.prog 78 #[.bool b] w fun e w' => e = .returned (.agg #[.int .i64 2, .int .i64 q, .string ⟨#[]⟩]) ∧ Keeps (fun _ => False) w w' := by
  subst hq
  exact truth_v b w
theorem number_q (n q : Int) (h : n = q) (w : World) : Calls Tryz.prog 77 #[.int .i64 n] w fun e w' => e = .returned (.agg #[.int .i64 1, .int .i64 q, .string ⟨#[]⟩]) ∧ Keeps (fun _ => False) w w' := by
  subst h
  exact number_v n w
/-- The world as a function of one value finds it. -/
structure Pro1 (W X : World) (ak an : Int) (ax : Txt) : Prop where
  kept : Keeps (fun _ => False) W X
  a : X.heap[W.heap.size]? = some (.cells #[.int .i64 ak, .int .i64 an, str ax] 41 (0, 0))
  res : X.heap[W.heap.size + 1]? = some (.cells #[.int .i64 0, .int .i64 0, .string ⟨#[]⟩] 41 (0, 0))
theorem pro1_of (W : World) (ak an : Int) (ax : Txt) : ∃ X, (W.alloc (.cells #[.int .i64 ak, .int .i64 an, str ax] 41)).alloc (.cells #[.int .i64 0, .int .i64 0, .string ⟨#[]⟩] 41) = X ∧ Pro1 W X ak an ax := by
  refine ⟨_, rfl, ((Keeps.refl _ W).alloc _).alloc _, (((Keeps.refl (fun _ => False) _).alloc _).block _ (by simp) id).trans (heap_alloc_new W _), ?_⟩
  have := heap_alloc_new (W.alloc (.cells #[.int .i64 ak, .int .i64 an, str ax] 41)) (.cells #[.int .i64 0, .int .i64 0, .string ⟨#[]⟩] 41)
  rwa [show (W.alloc (.cells #[.int .i64 ak, .int .i64 an, str ax] 41)).heap.size = W.heap.size + 1 by simp] at this
/-- The world as a function of two values finds it. -/
structure Pro2 (W X : World) (ak an : Int) (ax : Txt) (bk bn : Int) (bx : Txt) : Prop where
  kept : Keeps (fun _ => False) W X
  a : X.heap[W.heap.size]? = some (.cells #[.int .i64 ak, .int .i64 an, str ax] 41 (0, 0))
  b : X.heap[W.heap.size + 1]? = some (.cells #[.int .i64 bk, .int .i64 bn, str bx] 41 (0, 0))
  res : X.heap[W.heap.size + 1 + 1]? = some (.cells #[.int .i64 0, .int .i64 0, .string ⟨#[]⟩] 41 (0, 0))
theorem pro2_of (W : World) (ak an : Int) (ax : Txt) (bk bn : Int) (bx : Txt) : ∃ X, ((W.alloc (.cells #[.int .i64 ak, .int .i64 an, str ax] 41)).alloc (.cells #[.int .i64 bk, .int .i64 bn, str bx] 41)).alloc (.cells #[.int .i64 0, .int .i64 0, .string ⟨#[]⟩] 41) = X ∧ Pro2 W X ak an ax bk bn bx := by
  have e1 : (W.alloc (.cells #[.int .i64 ak, .int .i64 an, str ax] 41)).heap.size = W.heap.size + 1 := by simp
  have e2 : ((W.alloc (.cells #[.int .i64 ak, .int .i64 an, str ax] 41)).alloc (.cells #[.int .i64 bk, .int .i64 bn, str bx] 41)).heap.size = W.heap.size + 1 + 1 := by simp
  have k1 : Keeps (fun _ => False) (W.alloc (.cells #[.int .i64 ak, .int .i64 an, str ax] 41)) ((W.alloc (.cells #[.int .i64 ak, .int .i64 an, str ax] 41)).alloc (.cells #[.int .i64 bk, .int .i64 bn, str bx] 41)) := (Keeps.refl _ _).alloc _
  have k2 := (Keeps.refl (fun _ => False) ((W.alloc (.cells #[.int .i64 ak, .int .i64 an, str ax] 41)).alloc (.cells #[.int .i64 bk, .int .i64 bn, str bx] 41))).alloc (.cells #[.int .i64 0, .int .i64 0, .string ⟨#[]⟩] 41)
  refine ⟨_, rfl, (((Keeps.refl _ W).alloc _).alloc _).alloc _, ((k1.trans k2).block _ (by omega) id).trans (heap_alloc_new W _), (k2.block _ (by omega) id).trans ?_, ?_⟩
  · have := heap_alloc_new (W.alloc (.cells #[.int .i64 ak, .int .i64 an, str ax] 41)) (.cells #[.int .i64 bk, .int .i64 bn, str bx] 41)
    rwa [e1] at this
  · have := heap_alloc_new ((W.alloc (.cells #[.int .i64 ak, .int .i64 an, str ax] 41)).alloc (.cells #[.int .i64 bk, .int .i64 bn, str bx] 41)) (.cells #[.int .i64 0, .int .i64 0, .string ⟨#[]⟩] 41)
    rwa [e2] at this
set_option maxRecDepth 100000 in
theorem f87_v : OneF (.func (.func 118) #[] #[]) (fun a => truV (decide (a.n = 0))) := by
  refine ⟨118, rfl, enters_of Tryz.func118 (by kernel_rfl) rfl, fun a _ => tru_short _, fun W a ha => ?_⟩
  obtain ⟨ak, an, ax⟩ := a
  obtain ⟨q, hq⟩ : ∃ q : Int, q = if decide (an = 0) then 1 else 0 := ⟨_, rfl⟩
  have HQ := hide hq
  obtain ⟨X, hX, P⟩ := pro1_of W ak an ax
  have hR : ((truV (decide (an = 0))) : ValA).v = .agg #[.int .i64 2, .int .i64 q, .string ⟨#[]⟩] := by subst hq; rfl
  show Calls _ _ _ _ (fun e W' => e = .returned ((truV (decide (an = 0))) : ValA).v ∧ _)
  rw [hR]
  simp only [ValA.v]
  clear hR hq
  have a0 : X.cell? ⟨W.heap.size, 0, none⟩ = some (.int .i64 ak) := (cell_of_blk P.a 0).trans rfl
  have a1 : X.cell? ⟨W.heap.size, 1, none⟩ = some (.int .i64 an) := (cell_of_blk P.a 1).trans rfl
  have a2 : X.cell? ⟨W.heap.size, 2, none⟩ = some (str ax) := (cell_of_blk P.a 2).trans rfl
  have HP := hide P
  have HKA := hide (Keeps.refl (fun _ => False) X)
  clear P
  go_enter Tryz.func118, Tryz.ntmps118
  go_wp2_with fail
  refine (truth_w _ q (unhide HQ) _).mono ?_
  rintro e w1 ⟨rfl, hk1⟩
  have HK1 := hide ((unhide HKA).trans hk1)
  have hz := ((unhide HK1).block _ (lt_of_block (unhide HP).res) id).trans (unhide HP).res
  have m0 := cell_of_blk hz 0
  have m1 := cell_of_blk hz 1
  have m2 := cell_of_blk hz 2
  simp at m0 m1 m2
  have g0 := frozen_of_blk hz 0
  have g1 := frozen_of_blk hz 1
  have g2 := frozen_of_blk hz 2
  obtain ⟨o0, o1, o2⟩ := set3v hz (.int .i64 2) (.int .i64 q) (.string ⟨#[]⟩)
  have HD := hide (((unhide HP).kept.trans (unhide HK1)).narrow (keeps_set3 _ (W.heap.size + 1) (.int .i64 2) (.int .i64 q) (.string ⟨#[]⟩)) (fun q e => by omega))
  clear hz
  clear hk1
  go_wp2_with fail
  refine bodyPost_ret (v := .agg #[.int .i64 2, .int .i64 q, .string ⟨#[]⟩]) (by simp [results, go_sem, o0, o1, o2]) rfl ?_
  exact ⟨rfl, unhide HD⟩
set_option maxRecDepth 100000 in
theorem f88_v : OneF (.func (.func 119) #[] #[]) (fun a => numV (wrap64 (-a.n))) := by
  refine ⟨119, rfl, enters_of Tryz.func119 (by kernel_rfl) rfl, fun a _ => num_short _, fun W a ha => ?_⟩
  obtain ⟨ak, an, ax⟩ := a
  obtain ⟨X, hX, P⟩ := pro1_of W ak an ax
  have hR : ((numV (wrap64 (-an))) : ValA).v = .agg #[.int .i64 1, .int .i64 (wrap64 (-an)), .string ⟨#[]⟩] := rfl
  show Calls _ _ _ _ (fun e W' => e = .returned ((numV (wrap64 (-an))) : ValA).v ∧ _)
  rw [hR]
  simp only [ValA.v]
  clear hR
  have a0 : X.cell? ⟨W.heap.size, 0, none⟩ = some (.int .i64 ak) := (cell_of_blk P.a 0).trans rfl
  have a1 : X.cell? ⟨W.heap.size, 1, none⟩ = some (.int .i64 an) := (cell_of_blk P.a 1).trans rfl
  have a2 : X.cell? ⟨W.heap.size, 2, none⟩ = some (str ax) := (cell_of_blk P.a 2).trans rfl
  have HP := hide P
  have HKA := hide (Keeps.refl (fun _ => False) X)
  clear P
  go_enter Tryz.func119, Tryz.ntmps119
  go_wp2_with fail
  refine (number_w _ _).mono ?_
  rintro e w1 ⟨rfl, hk1⟩
  have HK1 := hide ((unhide HKA).trans hk1)
  have hz := ((unhide HK1).block _ (lt_of_block (unhide HP).res) id).trans (unhide HP).res
  have m0 := cell_of_blk hz 0
  have m1 := cell_of_blk hz 1
  have m2 := cell_of_blk hz 2
  simp at m0 m1 m2
  have g0 := frozen_of_blk hz 0
  have g1 := frozen_of_blk hz 1
  have g2 := frozen_of_blk hz 2
  obtain ⟨o0, o1, o2⟩ := set3v hz (.int .i64 1) (.int .i64 (wrap64 (-an))) (.string ⟨#[]⟩)
  have HD := hide (((unhide HP).kept.trans (unhide HK1)).narrow (keeps_set3 _ (W.heap.size + 1) (.int .i64 1) (.int .i64 (wrap64 (-an))) (.string ⟨#[]⟩)) (fun q e => by omega))
  clear hz
  clear hk1
  go_wp2_with fail
  refine bodyPost_ret (v := .agg #[.int .i64 1, .int .i64 (wrap64 (-an)), .string ⟨#[]⟩]) (by simp [results, go_sem, o0, o1, o2]) rfl ?_
  exact ⟨rfl, unhide HD⟩
set_option maxRecDepth 100000 in
theorem f90_v : TwoF (.func (.func 121) #[] #[]) (fun a b => numV (wrap64 (a.n + b.n))) := by
  refine ⟨121, rfl, enters_of Tryz.func121 (by kernel_rfl) rfl, fun a b _ _ => num_short _, fun W a b ha hb => ?_⟩
  obtain ⟨ak, an, ax⟩ := a
  obtain ⟨bk, bn, bx⟩ := b
  obtain ⟨X, hX, P⟩ := pro2_of W ak an ax bk bn bx
  have hR : ((numV (wrap64 (an + bn))) : ValA).v = .agg #[.int .i64 1, .int .i64 (wrap64 (an + bn)), .string ⟨#[]⟩] := rfl
  show Calls _ _ _ _ (fun e W' => e = .returned ((numV (wrap64 (an + bn))) : ValA).v ∧ _)
  rw [hR]
  simp only [ValA.v]
  clear hR
  have a0 : X.cell? ⟨W.heap.size, 0, none⟩ = some (.int .i64 ak) := (cell_of_blk P.a 0).trans rfl
  have a1 : X.cell? ⟨W.heap.size, 1, none⟩ = some (.int .i64 an) := (cell_of_blk P.a 1).trans rfl
  have a2 : X.cell? ⟨W.heap.size, 2, none⟩ = some (str ax) := (cell_of_blk P.a 2).trans rfl
  have b0 : X.cell? ⟨W.heap.size + 1, 0, none⟩ = some (.int .i64 bk) := (cell_of_blk P.b 0).trans rfl
  have b1 : X.cell? ⟨W.heap.size + 1, 1, none⟩ = some (.int .i64 bn) := (cell_of_blk P.b 1).trans rfl
  have b2 : X.cell? ⟨W.heap.size + 1, 2, none⟩ = some (str bx) := (cell_of_blk P.b 2).trans rfl
  have HP := hide P
  have HKA := hide (Keeps.refl (fun _ => False) X)
  clear P
  go_enter Tryz.func121, Tryz.ntmps121
  go_wp2_with fail
  refine (number_w _ _).mono ?_
  rintro e w1 ⟨rfl, hk1⟩
  have HK1 := hide ((unhide HKA).trans hk1)
  have hz := ((unhide HK1).block _ (lt_of_block (unhide HP).res) id).trans (unhide HP).res
  have m0 := cell_of_blk hz 0
  have m1 := cell_of_blk hz 1
  have m2 := cell_of_blk hz 2
  simp at m0 m1 m2
  have g0 := frozen_of_blk hz 0
  have g1 := frozen_of_blk hz 1
  have g2 := frozen_of_blk hz 2
  obtain ⟨o0, o1, o2⟩ := set3v hz (.int .i64 1) (.int .i64 (wrap64 (an + bn))) (.string ⟨#[]⟩)
  have HD := hide (((unhide HP).kept.trans (unhide HK1)).narrow (keeps_set3 _ (W.heap.size + 1 + 1) (.int .i64 1) (.int .i64 (wrap64 (an + bn))) (.string ⟨#[]⟩)) (fun q e => by omega))
  clear hz
  clear hk1
  go_wp2_with fail
  refine bodyPost_ret (v := .agg #[.int .i64 1, .int .i64 (wrap64 (an + bn)), .string ⟨#[]⟩]) (by simp [results, go_sem, o0, o1, o2]) rfl ?_
  exact ⟨rfl, unhide HD⟩
set_option maxRecDepth 100000 in
theorem f91_v : TwoF (.func (.func 122) #[] #[]) (fun a b => numV (wrap64 (a.n - b.n))) := by
  refine ⟨122, rfl, enters_of Tryz.func122 (by kernel_rfl) rfl, fun a b _ _ => num_short _, fun W a b ha hb => ?_⟩
  obtain ⟨ak, an, ax⟩ := a
  obtain ⟨bk, bn, bx⟩ := b
  obtain ⟨X, hX, P⟩ := pro2_of W ak an ax bk bn bx
  have hR : ((numV (wrap64 (an - bn))) : ValA).v = .agg #[.int .i64 1, .int .i64 (wrap64 (an - bn)), .string ⟨#[]⟩] := rfl
  show Calls _ _ _ _ (fun e W' => e = .returned ((numV (wrap64 (an - bn))) : ValA).v ∧ _)
  rw [hR]
  simp only [ValA.v]
  clear hR
  have a0 : X.cell? ⟨W.heap.size, 0, none⟩ = some (.int .i64 ak) := (cell_of_blk P.a 0).trans rfl
  have a1 : X.cell? ⟨W.heap.size, 1, none⟩ = some (.int .i64 an) := (cell_of_blk P.a 1).trans rfl
  have a2 : X.cell? ⟨W.heap.size, 2, none⟩ = some (str ax) := (cell_of_blk P.a 2).trans rfl
  have b0 : X.cell? ⟨W.heap.size + 1, 0, none⟩ = some (.int .i64 bk) := (cell_of_blk P.b 0).trans rfl
  have b1 : X.cell? ⟨W.heap.size + 1, 1, none⟩ = some (.int .i64 bn) := (cell_of_blk P.b 1).trans rfl
  have b2 : X.cell? ⟨W.heap.size + 1, 2, none⟩ = some (str bx) := (cell_of_blk P.b 2).trans rfl
  have HP := hide P
  have HKA := hide (Keeps.refl (fun _ => False) X)
  clear P
  go_enter Tryz.func122, Tryz.ntmps122
  go_wp2_with fail
  refine (number_w _ _).mono ?_
  rintro e w1 ⟨rfl, hk1⟩
  have HK1 := hide ((unhide HKA).trans hk1)
  have hz := ((unhide HK1).block _ (lt_of_block (unhide HP).res) id).trans (unhide HP).res
  have m0 := cell_of_blk hz 0
  have m1 := cell_of_blk hz 1
  have m2 := cell_of_blk hz 2
  simp at m0 m1 m2
  have g0 := frozen_of_blk hz 0
  have g1 := frozen_of_blk hz 1
  have g2 := frozen_of_blk hz 2
  obtain ⟨o0, o1, o2⟩ := set3v hz (.int .i64 1) (.int .i64 (wrap64 (an - bn))) (.string ⟨#[]⟩)
  have HD := hide (((unhide HP).kept.trans (unhide HK1)).narrow (keeps_set3 _ (W.heap.size + 1 + 1) (.int .i64 1) (.int .i64 (wrap64 (an - bn))) (.string ⟨#[]⟩)) (fun q e => by omega))
  clear hz
  clear hk1
  go_wp2_with fail
  refine bodyPost_ret (v := .agg #[.int .i64 1, .int .i64 (wrap64 (an - bn)), .string ⟨#[]⟩]) (by simp [results, go_sem, o0, o1, o2]) rfl ?_
  exact ⟨rfl, unhide HD⟩
set_option maxRecDepth 100000 in
theorem f92_v : TwoF (.func (.func 123) #[] #[]) (fun a b => numV (wrap64 (a.n * b.n))) := by
  refine ⟨123, rfl, enters_of Tryz.func123 (by kernel_rfl) rfl, fun a b _ _ => num_short _, fun W a b ha hb => ?_⟩
  obtain ⟨ak, an, ax⟩ := a
  obtain ⟨bk, bn, bx⟩ := b
  obtain ⟨X, hX, P⟩ := pro2_of W ak an ax bk bn bx
  have hR : ((numV (wrap64 (an * bn))) : ValA).v = .agg #[.int .i64 1, .int .i64 (wrap64 (an * bn)), .string ⟨#[]⟩] := rfl
  show Calls _ _ _ _ (fun e W' => e = .returned ((numV (wrap64 (an * bn))) : ValA).v ∧ _)
  rw [hR]
  simp only [ValA.v]
  clear hR
  have a0 : X.cell? ⟨W.heap.size, 0, none⟩ = some (.int .i64 ak) := (cell_of_blk P.a 0).trans rfl
  have a1 : X.cell? ⟨W.heap.size, 1, none⟩ = some (.int .i64 an) := (cell_of_blk P.a 1).trans rfl
  have a2 : X.cell? ⟨W.heap.size, 2, none⟩ = some (str ax) := (cell_of_blk P.a 2).trans rfl
  have b0 : X.cell? ⟨W.heap.size + 1, 0, none⟩ = some (.int .i64 bk) := (cell_of_blk P.b 0).trans rfl
  have b1 : X.cell? ⟨W.heap.size + 1, 1, none⟩ = some (.int .i64 bn) := (cell_of_blk P.b 1).trans rfl
  have b2 : X.cell? ⟨W.heap.size + 1, 2, none⟩ = some (str bx) := (cell_of_blk P.b 2).trans rfl
  have HP := hide P
  have HKA := hide (Keeps.refl (fun _ => False) X)
  clear P
  go_enter Tryz.func123, Tryz.ntmps123
  go_wp2_with fail
  refine (number_w _ _).mono ?_
  rintro e w1 ⟨rfl, hk1⟩
  have HK1 := hide ((unhide HKA).trans hk1)
  have hz := ((unhide HK1).block _ (lt_of_block (unhide HP).res) id).trans (unhide HP).res
  have m0 := cell_of_blk hz 0
  have m1 := cell_of_blk hz 1
  have m2 := cell_of_blk hz 2
  simp at m0 m1 m2
  have g0 := frozen_of_blk hz 0
  have g1 := frozen_of_blk hz 1
  have g2 := frozen_of_blk hz 2
  obtain ⟨o0, o1, o2⟩ := set3v hz (.int .i64 1) (.int .i64 (wrap64 (an * bn))) (.string ⟨#[]⟩)
  have HD := hide (((unhide HP).kept.trans (unhide HK1)).narrow (keeps_set3 _ (W.heap.size + 1 + 1) (.int .i64 1) (.int .i64 (wrap64 (an * bn))) (.string ⟨#[]⟩)) (fun q e => by omega))
  clear hz
  clear hk1
  go_wp2_with fail
  refine bodyPost_ret (v := .agg #[.int .i64 1, .int .i64 (wrap64 (an * bn)), .string ⟨#[]⟩]) (by simp [results, go_sem, o0, o1, o2]) rfl ?_
  exact ⟨rfl, unhide HD⟩
set_option maxRecDepth 100000 in
theorem f104_v : TwoF (.func (.func 135) #[] #[]) (fun a b => numV (min a.n b.n)) := by
  refine ⟨135, rfl, enters_of Tryz.func135 (by kernel_rfl) rfl, fun a b _ _ => num_short _, fun W a b ha hb => ?_⟩
  obtain ⟨ak, an, ax⟩ := a
  obtain ⟨bk, bn, bx⟩ := b
  obtain ⟨q, hq⟩ : ∃ q : Int, q = min an bn := ⟨_, rfl⟩
  have HQ := hide hq
  obtain ⟨X, hX, P⟩ := pro2_of W ak an ax bk bn bx
  have hR : ((numV (min an bn)) : ValA).v = .agg #[.int .i64 1, .int .i64 (q), .string ⟨#[]⟩] := by subst hq; rfl
  show Calls _ _ _ _ (fun e W' => e = .returned ((numV (min an bn)) : ValA).v ∧ _)
  rw [hR]
  simp only [ValA.v]
  clear hR hq
  have a0 : X.cell? ⟨W.heap.size, 0, none⟩ = some (.int .i64 ak) := (cell_of_blk P.a 0).trans rfl
  have a1 : X.cell? ⟨W.heap.size, 1, none⟩ = some (.int .i64 an) := (cell_of_blk P.a 1).trans rfl
  have a2 : X.cell? ⟨W.heap.size, 2, none⟩ = some (str ax) := (cell_of_blk P.a 2).trans rfl
  have b0 : X.cell? ⟨W.heap.size + 1, 0, none⟩ = some (.int .i64 bk) := (cell_of_blk P.b 0).trans rfl
  have b1 : X.cell? ⟨W.heap.size + 1, 1, none⟩ = some (.int .i64 bn) := (cell_of_blk P.b 1).trans rfl
  have b2 : X.cell? ⟨W.heap.size + 1, 2, none⟩ = some (str bx) := (cell_of_blk P.b 2).trans rfl
  have HP := hide P
  have HKA := hide (Keeps.refl (fun _ => False) X)
  clear P
  go_enter Tryz.func135, Tryz.ntmps135
  go_wp2_with fail
  all_goals
    refine (number_q _ q (by have := unhide HQ; omega) _).mono ?_
    rintro e w1 ⟨rfl, hk1⟩
    have HK1 := hide ((unhide HKA).trans hk1)
    have hz := ((unhide HK1).block _ (lt_of_block (unhide HP).res) id).trans (unhide HP).res
    have m0 := cell_of_blk hz 0
    have m1 := cell_of_blk hz 1
    have m2 := cell_of_blk hz 2
    simp at m0 m1 m2
    have g0 := frozen_of_blk hz 0
    have g1 := frozen_of_blk hz 1
    have g2 := frozen_of_blk hz 2
    obtain ⟨o0, o1, o2⟩ := set3v hz (.int .i64 1) (.int .i64 (q)) (.string ⟨#[]⟩)
    have HD := hide (((unhide HP).kept.trans (unhide HK1)).narrow (keeps_set3 _ (W.heap.size + 1 + 1) (.int .i64 1) (.int .i64 (q)) (.string ⟨#[]⟩)) (fun q e => by omega))
    clear hz
    clear hk1
    go_wp2_with fail
    refine bodyPost_ret (v := .agg #[.int .i64 1, .int .i64 (q), .string ⟨#[]⟩]) (by simp [results, go_sem, o0, o1, o2]) rfl ?_
    exact ⟨rfl, unhide HD⟩
set_option maxRecDepth 100000 in
theorem f105_v : TwoF (.func (.func 136) #[] #[]) (fun a b => numV (max a.n b.n)) := by
  refine ⟨136, rfl, enters_of Tryz.func136 (by kernel_rfl) rfl, fun a b _ _ => num_short _, fun W a b ha hb => ?_⟩
  obtain ⟨ak, an, ax⟩ := a
  obtain ⟨bk, bn, bx⟩ := b
  obtain ⟨q, hq⟩ : ∃ q : Int, q = max an bn := ⟨_, rfl⟩
  have HQ := hide hq
  obtain ⟨X, hX, P⟩ := pro2_of W ak an ax bk bn bx
  have hR : ((numV (max an bn)) : ValA).v = .agg #[.int .i64 1, .int .i64 (q), .string ⟨#[]⟩] := by subst hq; rfl
  show Calls _ _ _ _ (fun e W' => e = .returned ((numV (max an bn)) : ValA).v ∧ _)
  rw [hR]
  simp only [ValA.v]
  clear hR hq
  have a0 : X.cell? ⟨W.heap.size, 0, none⟩ = some (.int .i64 ak) := (cell_of_blk P.a 0).trans rfl
  have a1 : X.cell? ⟨W.heap.size, 1, none⟩ = some (.int .i64 an) := (cell_of_blk P.a 1).trans rfl
  have a2 : X.cell? ⟨W.heap.size, 2, none⟩ = some (str ax) := (cell_of_blk P.a 2).trans rfl
  have b0 : X.cell? ⟨W.heap.size + 1, 0, none⟩ = some (.int .i64 bk) := (cell_of_blk P.b 0).trans rfl
  have b1 : X.cell? ⟨W.heap.size + 1, 1, none⟩ = some (.int .i64 bn) := (cell_of_blk P.b 1).trans rfl
  have b2 : X.cell? ⟨W.heap.size + 1, 2, none⟩ = some (str bx) := (cell_of_blk P.b 2).trans rfl
  have HP := hide P
  have HKA := hide (Keeps.refl (fun _ => False) X)
  clear P
  go_enter Tryz.func136, Tryz.ntmps136
  go_wp2_with fail
  all_goals
    refine (number_q _ q (by have := unhide HQ; omega) _).mono ?_
    rintro e w1 ⟨rfl, hk1⟩
    have HK1 := hide ((unhide HKA).trans hk1)
    have hz := ((unhide HK1).block _ (lt_of_block (unhide HP).res) id).trans (unhide HP).res
    have m0 := cell_of_blk hz 0
    have m1 := cell_of_blk hz 1
    have m2 := cell_of_blk hz 2
    simp at m0 m1 m2
    have g0 := frozen_of_blk hz 0
    have g1 := frozen_of_blk hz 1
    have g2 := frozen_of_blk hz 2
    obtain ⟨o0, o1, o2⟩ := set3v hz (.int .i64 1) (.int .i64 (q)) (.string ⟨#[]⟩)
    have HD := hide (((unhide HP).kept.trans (unhide HK1)).narrow (keeps_set3 _ (W.heap.size + 1 + 1) (.int .i64 1) (.int .i64 (q)) (.string ⟨#[]⟩)) (fun q e => by omega))
    clear hz
    clear hk1
    go_wp2_with fail
    refine bodyPost_ret (v := .agg #[.int .i64 1, .int .i64 (q), .string ⟨#[]⟩]) (by simp [results, go_sem, o0, o1, o2]) rfl ?_
    exact ⟨rfl, unhide HD⟩
set_option maxRecDepth 100000 in
theorem f106_v : OneF (.func (.func 137) #[] #[]) (fun a => numV (a.s.length : Int)) := by
  refine ⟨137, rfl, enters_of Tryz.func137 (by kernel_rfl) rfl, fun a _ => num_short _, fun W a ha => ?_⟩
  obtain ⟨ak, an, ax⟩ := a
  obtain ⟨X, hX, P⟩ := pro1_of W ak an ax
  have hR : ((numV (ax.length : Int)) : ValA).v = .agg #[.int .i64 1, .int .i64 ((ax.length : Int)), .string ⟨#[]⟩] := rfl
  show Calls _ _ _ _ (fun e W' => e = .returned ((numV (ax.length : Int)) : ValA).v ∧ _)
  rw [hR]
  simp only [ValA.v]
  clear hR
  have a0 : X.cell? ⟨W.heap.size, 0, none⟩ = some (.int .i64 ak) := (cell_of_blk P.a 0).trans rfl
  have a1 : X.cell? ⟨W.heap.size, 1, none⟩ = some (.int .i64 an) := (cell_of_blk P.a 1).trans rfl
  have a2 : X.cell? ⟨W.heap.size, 2, none⟩ = some (str ax) := (cell_of_blk P.a 2).trans rfl
  have HP := hide P
  have HKA := hide (Keeps.refl (fun _ => False) X)
  clear P
  go_enter Tryz.func137, Tryz.ntmps137
  go_wp2_with fail
  refine (number_w _ _).mono ?_
  rintro e w1 ⟨rfl, hk1⟩
  have HK1 := hide ((unhide HKA).trans hk1)
  have hz := ((unhide HK1).block _ (lt_of_block (unhide HP).res) id).trans (unhide HP).res
  have m0 := cell_of_blk hz 0
  have m1 := cell_of_blk hz 1
  have m2 := cell_of_blk hz 2
  simp at m0 m1 m2
  have g0 := frozen_of_blk hz 0
  have g1 := frozen_of_blk hz 1
  have g2 := frozen_of_blk hz 2
  obtain ⟨o0, o1, o2⟩ := set3v hz (.int .i64 1) (.int .i64 ((ax.length : Int))) (.string ⟨#[]⟩)
  have HD := hide (((unhide HP).kept.trans (unhide HK1)).narrow (keeps_set3 _ (W.heap.size + 1) (.int .i64 1) (.int .i64 ((ax.length : Int))) (.string ⟨#[]⟩)) (fun q e => by omega))
  clear hz
  clear hk1
  go_wp2_with fail
  refine bodyPost_ret (v := .agg #[.int .i64 1, .int .i64 ((ax.length : Int)), .string ⟨#[]⟩]) (by simp [results, go_sem, o0, o1, o2]) rfl ?_
  exact ⟨rfl, unhide HD⟩
end Go.Proofs.YtiinohibmcefkaaGreatDoor
namespace Go.Proofs.YtiinohibmcefkaaGreatDoor
open Go.RowKit Go.Maps

theorem zero_at {X w1 : World} {c0 c1 : Value} {t : TypeId} (H : Nat) (hH : X.heap.size = H) (hk : Keeps (fun _ => False) (X.alloc (.cells #[c0, c1] t)) w1) : w1.heap[H]? = some (.cells #[c0, c1] t (0, 0)) := by
  subst hH
  rw [hk.block _ (by simp) id]
  exact heap_alloc_new X _
theorem zero_atD {X w1 : World} {c0 c1 : Value} {t : TypeId} (H : Nat) (hH : X.heap.size = H) (hk : Keeps (fun _ => False) (X.alloc (.cells #[c0, c1] t)).drew w1) : w1.heap[H]? = some (.cells #[c0, c1] t (0, 0)) := zero_at H hH ((Keeps.refl _ _).drew.trans hk)

set_option maxRecDepth 100000 in
set_option maxHeartbeats 8000000 in
theorem type_fit (Z : Zone) (S : List FieldA) (op n : Int) (s : Txt) (kids : EL) (hsz : kids.size + 1 ≤ 4294967294) (sv xv : Value) (w : World) (up : Nat) (hT : Types w) (hF : Forms w) (hf : FldsAt w sv S) (hx : SlE Z w up xv kids) (hS : schemaB S = true) (hE : checkE (.cons op n s kids .nil) = 0)
    (T E : Int) (O : Bool) (hP : kindP S op s kids = (⟨T, O⟩, E)) :
    Calls Tryz.prog 40 #[.agg #[sv], exV op n s xv] w fun e w' => e = .returned (if E = 0 then .tuple #[.int .i64 T, .bool O, .int .i64 0] else .tuple #[.int .i64 0, .bool false, .int .i64 E]) ∧ Keeps (fun _ => False) w w' := by
  have hwl : wellE (.cons op n s kids .nil) = true := by
    unfold checkE at hE
    split at hE
    · cases hE
    · rename_i h; simpa using h
  simp only [wellE, Bool.and_true, Bool.and_eq_true] at hwl
  obtain ⟨ao, cap, rfl, hc⟩ := hx.head
  obtain ⟨so, sc, rfl⟩ := RowAt.form hf
  have hnd : (S.map FieldA.name).Nodup := by
    unfold schemaB at hS
    simp only [Bool.and_eq_true, decide_eq_true_eq] at hS
    exact hS.1.2
  have HK0 : Hid (Keeps (fun _ => False) w ((w.alloc (.cells #[.slice so S.length sc] 24)).alloc (.cells #[.int .i64 op, .int .i64 n, str s, .slice ao kids.len cap] 27))) := ((Keeps.refl _ w).alloc _).alloc _
  have e1 : (w.alloc (.cells #[.slice so S.length sc] 24)).heap.size = w.heap.size + 1 := by simp
  have e2 : ((w.alloc (.cells #[.slice so S.length sc] 24)).alloc (.cells #[.int .i64 op, .int .i64 n, str s, .slice ao kids.len cap] 27)).heap.size = w.heap.size + 2 := by simp
  have hb0 : ((w.alloc (.cells #[.slice so S.length sc] 24)).alloc (.cells #[.int .i64 op, .int .i64 n, str s, .slice ao kids.len cap] 27)).heap[w.heap.size]? = some (.cells #[.slice so S.length sc] 24 (0, 0)) := (((Keeps.refl (fun _ => False) _).alloc _).block _ (by rw [e1]; omega) id).trans (heap_alloc_new w _)
  have hb1 : ((w.alloc (.cells #[.slice so S.length sc] 24)).alloc (.cells #[.int .i64 op, .int .i64 n, str s, .slice ao kids.len cap] 27)).heap[w.heap.size + 1]? = some (.cells #[.int .i64 op, .int .i64 n, str s, .slice ao kids.len cap] 27 (0, 0)) := by
    have := heap_alloc_new (w.alloc (.cells #[.slice so S.length sc] 24)) (.cells #[.int .i64 op, .int .i64 n, str s, .slice ao kids.len cap] 27)
    rw [e1] at this
    exact this
  have SB : ∀ w' : World, Keeps (fun _ => False) ((w.alloc (.cells #[.slice so S.length sc] 24)).alloc (.cells #[.int .i64 op, .int .i64 n, str s, .slice ao kids.len cap] 27)) w' → w'.cell? ⟨w.heap.size, 0, none⟩ = some (.slice so S.length sc) ∧ w'.cell? ⟨w.heap.size + 1, 0, none⟩ = some (.int .i64 op) ∧ w'.cell? ⟨w.heap.size + 1, 1, none⟩ = some (.int .i64 n) ∧ w'.cell? ⟨w.heap.size + 1, 2, none⟩ = some (str s) ∧ w'.cell? ⟨w.heap.size + 1, 3, none⟩ = some (.slice ao kids.len cap) := fun w' hk => by
    have k0 := (hk.block _ (lt_of_block hb0) id).trans hb0
    have k1 := (hk.block _ (lt_of_block hb1) id).trans hb1
    exact ⟨by rw [cell_of_blk k0]; rfl, by rw [cell_of_blk k1]; rfl, by rw [cell_of_blk k1]; rfl, by rw [cell_of_blk k1]; rfl, by rw [cell_of_blk k1]; rfl⟩
  have y := SB _ (Keeps.refl _ _)
  have HSB := hide SB
  have HCS := fun w' (hk : Keeps (fun _ => False) w w') => hide (checkSchema_v S (.slice so S.length sc) w' (hT.keepF hk) (hf.keepF hk))
  have HCE := fun w' (hk : Keeps (fun _ => False) w w') => hide (checkExpr_v Z op n s kids hsz w' up (.slice ao kids.len cap) (hF.keepF hk) (hx.keepF hk))
  rw [hE] at HCE
  rw [errS_good hS] at HCS
  have HFA := hide hf
  have HSX := hide hx
  have HW1 := hide hwl.1
  have HW2 := hide hwl.2
  have HEX := fun (w' : World) (j mb nn tab : Nat) (hJ : JudgeAt w' j mb nn tab S) (hs : SlE Z w' up (.slice ao kids.len cap) kids) => hide (exprJ_v Z j mb nn tab S hnd (kids.size + 1) kids (by omega) (by omega) op n s w' up (.slice ao kids.len cap) hJ hs hwl.1 hwl.2)
  rw [hP] at HEX
  clear hT hF hf hx hwl SB hb0 hb1 hE hP e1 e2
  by_cases hE0 : E = 0
  · subst hE0
    rw [if_pos rfl]
    go_enter Tryz.func40, Tryz.ntmps40
    go_wp2_with (first
      | (go_at_call 65; refine (unhide (HCS _ (unhide HK0))).mono ?_; rintro e w1 ⟨rfl, hk1⟩; have HKa := hide ((unhide HK0).trans hk1); have HKb := hide hk1; have y1 := unhide HSB _ hk1; clear hk1)
      | (go_at_call 70; refine (unhide (HCE _ (unhide HKa))).mono ?_; rintro e w2 ⟨rfl, hk1⟩; have HKa := hide ((unhide HKa).trans hk1); have HKb := hide ((unhide HKb).trans hk1); have y2 := unhide HSB _ (unhide HKb); clear hk1))
    have hs2 : w.heap.size + 2 ≤ w2.heap.size := by have := (unhide HKb).size; simp at this; omega
    have hbs : ((w.alloc (.cells #[.slice so S.length sc] 24)).alloc (.cells #[.int .i64 op, .int .i64 n, str s, .slice ao kids.len cap] 27)).heap.size = w.heap.size + 2 := by simp
    have HBS := hide hbs
    have FD := (unhide HFA).keepF (unhide HKa).drew
    have FDA := (unhide HFA).keepF ((unhide HKa).alloc (.cells #[.int .i64 0, .bool false] 113)).drew
    clear hbs y y1 y2
    go_region_held3 (fun w' => w'.cell? ⟨w.heap.size, 0, none⟩ = some (.slice so S.length sc) ∧ w'.cell? ⟨w.heap.size + 1, 0, none⟩ = some (.int .i64 op) ∧ w'.cell? ⟨w.heap.size + 1, 1, none⟩ = some (.int .i64 n) ∧ w'.cell? ⟨w.heap.size + 1, 2, none⟩ = some (str s) ∧ w'.cell? ⟨w.heap.size + 1, 3, none⟩ = some (.slice ao kids.len cap))
      (first | with_reducible exact unhide HSB _ (unhide HKe) | with_reducible exact unhide HSB _ (unhide HKd) | with_reducible exact unhide HSB _ ((unhide HKd).alloc _) | with_reducible exact unhide HSB _ (unhide HKc) | with_reducible exact unhide HSB _ ((unhide HKc).alloc _) | with_reducible exact unhide HSB _ (unhide HKb).drew | with_reducible exact unhide HSB _ ((unhide HKb).alloc _).drew)
      ((first
      | (go_at_call 71; refine (newJudge_v S (.slice so S.length sc) _ (by first | with_reducible exact FD | with_reducible exact FDA) hS).mono ?_; rintro e w3 ⟨j, mb, nn, tab, rfl, hJ, _, hk1⟩; have HJ := hide hJ; clear hJ; first
          | (have HKx : Hid (Keeps (fun _ => False) w2 w3) := (by with_reducible exact hide ((Keeps.refl _ w2).drew.trans hk1)); have HKc := hide ((unhide HKb).trans (unhide HKx)); have HSc := hide ((unhide HSX).keepF ((unhide HKa).trans (unhide HKx))); clear hk1)
          | (have HKx : Hid (Keeps (fun _ => False) w2 w3) := hide (((Keeps.refl _ w2).alloc _).drew.trans hk1); have HZ := hide (zero_atD w2.heap.size rfl hk1); have HKc := hide ((unhide HKb).trans (unhide HKx)); have HSc := hide ((unhide HSX).keepF ((unhide HKa).trans (unhide HKx))); clear hk1))
      | (go_at_call 72; first
          | (with_reducible refine (unhide (HEX w3 j mb nn tab (unhide HJ) (unhide HSc))).mono ?_; rintro e w4 ⟨rfl, hk1⟩; have HKd := hide ((unhide HKc).trans hk1); have HKaa := hide (((unhide HKa).trans (unhide HKx)).trans hk1); first
            | (have hz := (hk1.block _ (lt_of_block (unhide HZ)) id).trans (unhide HZ); have m0 := cell_of_blk hz 0; have m1 := cell_of_blk hz 1; simp at m0 m1; have g0 := frozen_of_blk hz 0; have g1 := frozen_of_blk hz 1; have hst := set2 hz (.int .i64 T) (.bool O); have HKe := hide ((unhide HKd).narrow hst.2 (fun q e => by rw [unhide HBS]; omega)); have HKf := hide ((unhide HKaa).narrow hst.2 (fun q e => by omega)); have s0 := hst.1.1; have s1 := hst.1.2.1; clear hst hz hk1)
            | (have HKf := hide ((unhide HKaa).alloc (.cells #[.int .i64 T, .bool O] 113)); clear hk1))
          | (refine (unhide (HEX (w3.alloc (.cells #[.int .i64 0, .bool false] 113)) j mb nn tab ((unhide HJ).keepF ((Keeps.refl _ w3).alloc _)) ((unhide HSc).keepF ((Keeps.refl _ w3).alloc _)))).mono ?_; rintro e w4 ⟨rfl, hk1⟩; have hz := zero_at w3.heap.size rfl hk1; have HKd := hide ((unhide HKc).trans (((Keeps.refl _ w3).alloc _).trans hk1)); have HKaa := hide (((unhide HKa).trans (unhide HKx)).trans (((Keeps.refl _ w3).alloc _).trans hk1)); have m0 := cell_of_blk hz 0; have m1 := cell_of_blk hz 1; simp at m0 m1; have g0 := frozen_of_blk hz 0; have g1 := frozen_of_blk hz 1; have hst := set2 hz (.int .i64 T) (.bool O); have hsx := (unhide HKx).size; have HKe := hide ((unhide HKd).narrow hst.2 (fun q e => by rw [unhide HBS]; omega)); have HKf := hide ((unhide HKaa).narrow hst.2 (fun q e => by omega)); have s0 := hst.1.1; have s1 := hst.1.2.1; clear hst hz hk1))))
    all_goals go_wp2_with fail
    all_goals go_region
    all_goals go_wp2_with fail
    all_goals (refine bodyPost_ret (v := .tuple #[.int .i64 T, .bool O, .int .i64 0]) (by simp [results, go_sem]) rfl ?_; exact ⟨rfl, (unhide HKf).drew⟩)
  · rw [if_neg hE0]
    have n0 : (E != 0) = true := by simpa using hE0
    clear hE0
    go_enter Tryz.func40, Tryz.ntmps40
    go_wp2_with (first
      | (go_at_call 65; refine (unhide (HCS _ (unhide HK0))).mono ?_; rintro e w1 ⟨rfl, hk1⟩; have HKa := hide ((unhide HK0).trans hk1); have HKb := hide hk1; have y1 := unhide HSB _ hk1; clear hk1)
      | (go_at_call 70; refine (unhide (HCE _ (unhide HKa))).mono ?_; rintro e w2 ⟨rfl, hk1⟩; have HKa := hide ((unhide HKa).trans hk1); have HKb := hide ((unhide HKb).trans hk1); have y2 := unhide HSB _ (unhide HKb); clear hk1))
    have hs2 : w.heap.size + 2 ≤ w2.heap.size := by have := (unhide HKb).size; simp at this; omega
    have hbs : ((w.alloc (.cells #[.slice so S.length sc] 24)).alloc (.cells #[.int .i64 op, .int .i64 n, str s, .slice ao kids.len cap] 27)).heap.size = w.heap.size + 2 := by simp
    have HBS := hide hbs
    have FD := (unhide HFA).keepF (unhide HKa).drew
    have FDA := (unhide HFA).keepF ((unhide HKa).alloc (.cells #[.int .i64 0, .bool false] 113)).drew
    clear hbs y y1 y2
    go_region_held3 (fun w' => w'.cell? ⟨w.heap.size, 0, none⟩ = some (.slice so S.length sc) ∧ w'.cell? ⟨w.heap.size + 1, 0, none⟩ = some (.int .i64 op) ∧ w'.cell? ⟨w.heap.size + 1, 1, none⟩ = some (.int .i64 n) ∧ w'.cell? ⟨w.heap.size + 1, 2, none⟩ = some (str s) ∧ w'.cell? ⟨w.heap.size + 1, 3, none⟩ = some (.slice ao kids.len cap))
      (first | with_reducible exact unhide HSB _ (unhide HKe) | with_reducible exact unhide HSB _ (unhide HKd) | with_reducible exact unhide HSB _ ((unhide HKd).alloc _) | with_reducible exact unhide HSB _ (unhide HKc) | with_reducible exact unhide HSB _ ((unhide HKc).alloc _) | with_reducible exact unhide HSB _ (unhide HKb).drew | with_reducible exact unhide HSB _ ((unhide HKb).alloc _).drew)
      ((first
      | (go_at_call 71; refine (newJudge_v S (.slice so S.length sc) _ (by first | with_reducible exact FD | with_reducible exact FDA) hS).mono ?_; rintro e w3 ⟨j, mb, nn, tab, rfl, hJ, _, hk1⟩; have HJ := hide hJ; clear hJ; first
          | (have HKx : Hid (Keeps (fun _ => False) w2 w3) := (by with_reducible exact hide ((Keeps.refl _ w2).drew.trans hk1)); have HKc := hide ((unhide HKb).trans (unhide HKx)); have HSc := hide ((unhide HSX).keepF ((unhide HKa).trans (unhide HKx))); clear hk1)
          | (have HKx : Hid (Keeps (fun _ => False) w2 w3) := hide (((Keeps.refl _ w2).alloc _).drew.trans hk1); have HZ := hide (zero_atD w2.heap.size rfl hk1); have HKc := hide ((unhide HKb).trans (unhide HKx)); have HSc := hide ((unhide HSX).keepF ((unhide HKa).trans (unhide HKx))); clear hk1))
      | (go_at_call 72; first
          | (with_reducible refine (unhide (HEX w3 j mb nn tab (unhide HJ) (unhide HSc))).mono ?_; rintro e w4 ⟨rfl, hk1⟩; have HKd := hide ((unhide HKc).trans hk1); have HKaa := hide (((unhide HKa).trans (unhide HKx)).trans hk1); first
            | (have hz := (hk1.block _ (lt_of_block (unhide HZ)) id).trans (unhide HZ); have m0 := cell_of_blk hz 0; have m1 := cell_of_blk hz 1; simp at m0 m1; have g0 := frozen_of_blk hz 0; have g1 := frozen_of_blk hz 1; have hst := set2 hz (.int .i64 T) (.bool O); have HKe := hide ((unhide HKd).narrow hst.2 (fun q e => by rw [unhide HBS]; omega)); have HKf := hide ((unhide HKaa).narrow hst.2 (fun q e => by omega)); have s0 := hst.1.1; have s1 := hst.1.2.1; clear hst hz hk1)
            | (have HKf := hide ((unhide HKaa).alloc (.cells #[.int .i64 T, .bool O] 113)); clear hk1))
          | (refine (unhide (HEX (w3.alloc (.cells #[.int .i64 0, .bool false] 113)) j mb nn tab ((unhide HJ).keepF ((Keeps.refl _ w3).alloc _)) ((unhide HSc).keepF ((Keeps.refl _ w3).alloc _)))).mono ?_; rintro e w4 ⟨rfl, hk1⟩; have hz := zero_at w3.heap.size rfl hk1; have HKd := hide ((unhide HKc).trans (((Keeps.refl _ w3).alloc _).trans hk1)); have HKaa := hide (((unhide HKa).trans (unhide HKx)).trans (((Keeps.refl _ w3).alloc _).trans hk1)); have m0 := cell_of_blk hz 0; have m1 := cell_of_blk hz 1; simp at m0 m1; have g0 := frozen_of_blk hz 0; have g1 := frozen_of_blk hz 1; have hst := set2 hz (.int .i64 T) (.bool O); have hsx := (unhide HKx).size; have HKe := hide ((unhide HKd).narrow hst.2 (fun q e => by rw [unhide HBS]; omega)); have HKf := hide ((unhide HKaa).narrow hst.2 (fun q e => by omega)); have s0 := hst.1.1; have s1 := hst.1.2.1; clear hst hz hk1))))
    all_goals go_wp2_with fail
    all_goals (refine bodyPost_ret (v := .tuple #[.int .i64 0, .bool false, .int .i64 E]) (by simp [results, go_sem]) rfl ?_; exact ⟨rfl, unhide HKf⟩)

set_option maxRecDepth 100000 in
set_option maxHeartbeats 2000000 in
theorem type_bad (Z : Zone) (S : List FieldA) (op n : Int) (s : Txt) (kids : EL) (hsz : kids.size + 1 ≤ 4294967294) (sv xv : Value) (w : World) (up : Nat) (hT : Types w) (hF : Forms w) (hf : FldsAt w sv S) (hx : SlE Z w up xv kids) (E : Int) (hE : E ≠ 0)
    (h : schemaB S = false ∧ E = 60 ∨ schemaB S = true ∧ checkE (.cons op n s kids .nil) = E) :
    Calls Tryz.prog 40 #[.agg #[sv], exV op n s xv] w fun e w' => e = .returned (.tuple #[.int .i64 0, .bool false, .int .i64 E]) ∧ Keeps (fun _ => False) w w' := by
  obtain ⟨ao, cap, rfl, hc⟩ := hx.head
  obtain ⟨so, sc, rfl⟩ := RowAt.form hf
  have HK0 : Hid (Keeps (fun _ => False) w ((w.alloc (.cells #[.slice so S.length sc] 24)).alloc (.cells #[.int .i64 op, .int .i64 n, str s, .slice ao kids.len cap] 27))) := ((Keeps.refl _ w).alloc _).alloc _
  have e1 : (w.alloc (.cells #[.slice so S.length sc] 24)).heap.size = w.heap.size + 1 := by simp
  have hb0 : ((w.alloc (.cells #[.slice so S.length sc] 24)).alloc (.cells #[.int .i64 op, .int .i64 n, str s, .slice ao kids.len cap] 27)).heap[w.heap.size]? = some (.cells #[.slice so S.length sc] 24 (0, 0)) := (((Keeps.refl (fun _ => False) _).alloc _).block _ (by rw [e1]; omega) id).trans (heap_alloc_new w _)
  have hb1 : ((w.alloc (.cells #[.slice so S.length sc] 24)).alloc (.cells #[.int .i64 op, .int .i64 n, str s, .slice ao kids.len cap] 27)).heap[w.heap.size + 1]? = some (.cells #[.int .i64 op, .int .i64 n, str s, .slice ao kids.len cap] 27 (0, 0)) := by
    have := heap_alloc_new (w.alloc (.cells #[.slice so S.length sc] 24)) (.cells #[.int .i64 op, .int .i64 n, str s, .slice ao kids.len cap] 27)
    rw [e1] at this
    exact this
  have SB : ∀ w' : World, Keeps (fun _ => False) ((w.alloc (.cells #[.slice so S.length sc] 24)).alloc (.cells #[.int .i64 op, .int .i64 n, str s, .slice ao kids.len cap] 27)) w' → w'.cell? ⟨w.heap.size, 0, none⟩ = some (.slice so S.length sc) ∧ w'.cell? ⟨w.heap.size + 1, 0, none⟩ = some (.int .i64 op) ∧ w'.cell? ⟨w.heap.size + 1, 1, none⟩ = some (.int .i64 n) ∧ w'.cell? ⟨w.heap.size + 1, 2, none⟩ = some (str s) ∧ w'.cell? ⟨w.heap.size + 1, 3, none⟩ = some (.slice ao kids.len cap) := fun w' hk => by
    have k0 := (hk.block _ (lt_of_block hb0) id).trans hb0
    have k1 := (hk.block _ (lt_of_block hb1) id).trans hb1
    exact ⟨by rw [cell_of_blk k0]; rfl, by rw [cell_of_blk k1]; rfl, by rw [cell_of_blk k1]; rfl, by rw [cell_of_blk k1]; rfl, by rw [cell_of_blk k1]; rfl⟩
  have y := SB _ (Keeps.refl _ _)
  have HSB := hide SB
  have HCS := fun w' (hk : Keeps (fun _ => False) w w') => hide (checkSchema_v S (.slice so S.length sc) w' (hT.keepF hk) (hf.keepF hk))
  have HCE := fun w' (hk : Keeps (fun _ => False) w w') => hide (checkExpr_v Z op n s kids hsz w' up (.slice ao kids.len cap) (hF.keepF hk) (hx.keepF hk))
  clear hT hF hf hx SB hb0 hb1 e1
  rcases h with ⟨h1, rfl⟩ | ⟨h1, h2⟩
  · rw [errS_bad h1] at HCS
    clear h1 HCE
    go_enter Tryz.func40, Tryz.ntmps40
    go_wp2_with (go_at_call 65; refine (unhide (HCS _ (unhide HK0))).mono ?_; rintro e w1 ⟨rfl, hk1⟩; have HKa := hide ((unhide HK0).trans hk1); clear hk1)
    refine bodyPost_ret (v := .tuple #[.int .i64 0, .bool false, .int .i64 60]) (by simp [results, go_sem]) rfl ?_
    exact ⟨rfl, unhide HKa⟩
  · rw [errS_good h1] at HCS
    rw [h2] at HCE
    have n0 : (E != 0) = true := by simpa using hE
    clear h1 h2 hE
    go_enter Tryz.func40, Tryz.ntmps40
    go_wp2_with (first
      | (go_at_call 65; refine (unhide (HCS _ (unhide HK0))).mono ?_; rintro e w1 ⟨rfl, hk1⟩; have HKa := hide ((unhide HK0).trans hk1); have y1 := unhide HSB _ hk1; clear hk1)
      | (go_at_call 70; refine (unhide (HCE _ (unhide HKa))).mono ?_; rintro e w2 ⟨rfl, hk1⟩; have HKa := hide ((unhide HKa).trans hk1); clear hk1))
    refine bodyPost_ret (v := .tuple #[.int .i64 0, .bool false, .int .i64 E]) (by simp [results, go_sem]) rfl ?_
    exact ⟨rfl, unhide HKa⟩
/-- What Type answers, as a value. -/
abbrev typV (p : Int × Bool × Int) : Value := .tuple #[.int .i64 p.1, .bool p.2.1, .int .i64 p.2.2]
theorem type_v (Z : Zone) (S : List FieldA) (op n : Int) (s : Txt) (kids : EL) (hsz : kids.size + 1 ≤ 4294967294) (sv xv : Value) (w : World) (up : Nat) (hT : Types w) (hF : Forms w) (hf : FldsAt w sv S) (hx : SlE Z w up xv kids) :
    Calls Tryz.prog 40 #[.agg #[sv], exV op n s xv] w fun e w' => e = .returned (typV (typeP S op n s kids)) ∧ Keeps (fun _ => False) w w' := by
  unfold typeP
  cases hS : schemaB S with
  | false =>
    rw [errS_bad hS]
    exact type_bad Z S op n s kids hsz sv xv w up hT hF hf hx 60 (by decide) (Or.inl ⟨hS, rfl⟩)
  | true =>
    rw [errS_good hS]
    by_cases hE : checkE (.cons op n s kids .nil) = 0
    · have h := type_fit Z S op n s kids hsz sv xv w up hT hF hf hx hS hE (kindP S op s kids).1.t (kindP S op s kids).2 (kindP S op s kids).1.o rfl
      by_cases h0 : (kindP S op s kids).2 = 0
      · simpa [hE, h0] using h
      · simpa [hE, h0] using h
    · simpa [hE] using type_bad Z S op n s kids hsz sv xv w up hT hF hf hx _ hE (Or.inr ⟨hS, rfl⟩)
end Go.Proofs.YtiinohibmcefkaaGreatDoor
namespace Go.Proofs.YtiinohibmcefkaaGreatDoor
open Go.RowKit Go.Maps

/-- A kind of the reference, as a value. -/
abbrev refV (p : KA × Int) : Value := .agg #[.int .i64 p.1.t, .bool p.1.o, .int .i64 p.2]

set_option maxRecDepth 100000 in
set_option maxHeartbeats 1000000 in
theorem refField_v (S : List FieldA) (sv : Value) (nm : Txt) (w : World) (h : FldsAt w sv S) (hl : S.length ≤ 8) :
    Calls Tryz.prog 93 #[.agg #[sv], str nm] w fun e w' => (∃ i : Int, e = .returned (.int .i64 i) ∧ ((fieldOf S nm = none ∧ i = -1) ∨ ∃ (k : Nat) (f : FieldA), S[k]? = some f ∧ fieldOf S nm = some f ∧ i = k)) ∧ Keeps (fun _ => False) w w' := by
  obtain ⟨ao, cap, rfl⟩ := RowAt.form h
  obtain ⟨HB, hxb, hxc⟩ := boxed w #[.slice ao S.length cap] 24
  have c0 := hxc 0 (.slice ao S.length cap) rfl
  have HF := hide (h.keepF (unhide HB))
  clear h hxc
  go_enter Tryz.func93, Tryz.ntmps93
  go_wp2_with fail
  go_loopw [5] (fun i wr => ∃ k : Nat, k ≤ S.length ∧ i = .int .i64 k ∧ Hid (fieldOf S nm = fieldOf (S.drop k) nm) ∧ wr = w.alloc (.cells #[.slice ao S.length cap] 24)) (fun i _ => S.length - (intOf i).toNat)
  case atStart => exact ⟨0, Nat.zero_le _, rfl, by simp [Hid], rfl⟩
  case round =>
    obtain ⟨k, hk, rfl, HS, rfl⟩ := hrel
    cases h : S[k]? with
    | none =>
      have h1 := get_ge h
      obtain rfl : k = S.length := by omega
      clear h h1
      rw [List.drop_length] at HS
      have i1 : ¬ (S.length : Int) < (S.length : Int) := by omega
      go_wp2_with fail
      go_ret
      exact ⟨⟨_, rfl, Or.inl ⟨unhide HS, rfl⟩⟩, unhide HB⟩
    | some f =>
      have h1 := get_lt h
      obtain ⟨b, off, c, e, hbl, hc⟩ := (unhide HF).cells (by omega)
      simp at e
      obtain ⟨rfl, rfl⟩ := e
      have q0 := (hc k f h).1
      have HO : Hid (fieldOf (S.drop k) nm = if f.name = nm then some f else fieldOf (S.drop (k + 1)) nm) := by
        obtain ⟨hk', hx⟩ := List.getElem?_eq_some_iff.1 h
        show _ = _
        rw [List.drop_eq_getElem_cons hk', hx]
        unfold fieldOf
        rw [List.find?_cons]
        by_cases hn : f.name = nm
        · simp [hn]
        · simp [hn]
      have HH := hide h
      clear h hc
      have i1 : (k : Int) < (S.length : Int) := by omega
      have i0 : (0 : Int) ≤ (k : Int) := by omega
      go_wp2
      case roundEnd =>
        rename_i hne
        have hne' : ¬ f.name = nm := by simpa using hne
        go_roundw
        case rel => exact ⟨k + 1, by omega, by go_num, (unhide HS).trans ((unhide HO).trans (if_neg hne')), by trivial⟩
        case measure => simp [intOf]; omega
      rename_i hne
      have hne' : f.name = nm := by simpa using hne
      go_ret
      exact ⟨⟨_, rfl, Or.inr ⟨k, f, unhide HH, (unhide HS).trans ((unhide HO).trans (if_pos hne')), rfl⟩⟩, unhide HB⟩
end Go.Proofs.YtiinohibmcefkaaGreatDoor
namespace Go.Proofs.YtiinohibmcefkaaGreatDoor
open Go.RowKit Go.Maps

theorem refField_none (S : List FieldA) (sv : Value) (nm : Txt) (w : World) (h : FldsAt w sv S) (hl : S.length ≤ 8) (hfo : fieldOf S nm = none) :
    Calls Tryz.prog 93 #[.agg #[sv], str nm] w fun e w' => e = .returned (.int .i64 (-1)) ∧ Keeps (fun _ => False) w w' :=
  (refField_v S sv nm w h hl).mono fun e w2 ⟨⟨i, he, hi⟩, hk⟩ => by
    rcases hi with ⟨_, rfl⟩ | ⟨_, _, _, h2, _⟩
    · exact ⟨he, hk⟩
    · rw [hfo] at h2; cases h2
theorem refField_some (S : List FieldA) (sv : Value) (nm : Txt) (w : World) (h : FldsAt w sv S) (hl : S.length ≤ 8) (f : FieldA) (hfo : fieldOf S nm = some f) :
    Calls Tryz.prog 93 #[.agg #[sv], str nm] w fun e w' => (∃ k : Nat, S[k]? = some f ∧ e = .returned (.int .i64 (k : Int))) ∧ Keeps (fun _ => False) w w' :=
  (refField_v S sv nm w h hl).mono fun e w2 ⟨⟨i, he, hi⟩, hk⟩ => by
    rcases hi with ⟨h2, _⟩ | ⟨k, g, h1, h2, rfl⟩
    · rw [hfo] at h2; cases h2
    · rw [hfo] at h2
      obtain rfl := Option.some.inj h2
      exact ⟨⟨k, h1, he⟩, hk⟩
/-- What the reference says of a field, or of has. -/
def refNamed (S : List FieldA) (op : Int) (s : Txt) : KA × Int := zeroK (if op = 4 then namedK S s else hasK S s)
set_option maxRecDepth 100000 in
set_option maxHeartbeats 2000000 in
theorem refF_v (S : List FieldA) (sv : Value) (op n : Int) (s : Txt) (ao : Option Addr) (xn xc : Nat) (w : World) (h : FldsAt w sv S) (hl : S.length ≤ 8) :
    Calls Tryz.prog 149 #[.agg #[sv], exV op n s (.slice ao xn xc)] w fun e w' => e = .returned (refV (refNamed S op s)) ∧ Keeps (fun _ => False) w w' := by
  obtain ⟨so, sc, rfl⟩ := RowAt.form h
  have HK0 : Hid (Keeps (fun _ => False) w (((w.alloc (.cells #[.slice so S.length sc] 24)).alloc (.cells #[.int .i64 op, .int .i64 n, str s, .slice ao xn xc] 27)).alloc (.cells #[.int .i64 0, .bool false, .int .i64 0] 134))) := (((Keeps.refl _ w).alloc _).alloc _).alloc _
  have e1 : (w.alloc (.cells #[.slice so S.length sc] 24)).heap.size = w.heap.size + 1 := by simp
  have e2 : ((w.alloc (.cells #[.slice so S.length sc] 24)).alloc (.cells #[.int .i64 op, .int .i64 n, str s, .slice ao xn xc] 27)).heap.size = w.heap.size + 2 := by simp
  have hb0 : (((w.alloc (.cells #[.slice so S.length sc] 24)).alloc (.cells #[.int .i64 op, .int .i64 n, str s, .slice ao xn xc] 27)).alloc (.cells #[.int .i64 0, .bool false, .int .i64 0] 134)).heap[w.heap.size]? = some (.cells #[.slice so S.length sc] 24 (0, 0)) := ((((Keeps.refl (fun _ => False) _).alloc _).alloc _).block _ (by rw [e1]; omega) id).trans (heap_alloc_new w _)
  have hb1 : (((w.alloc (.cells #[.slice so S.length sc] 24)).alloc (.cells #[.int .i64 op, .int .i64 n, str s, .slice ao xn xc] 27)).alloc (.cells #[.int .i64 0, .bool false, .int .i64 0] 134)).heap[w.heap.size + 1]? = some (.cells #[.int .i64 op, .int .i64 n, str s, .slice ao xn xc] 27 (0, 0)) := by
    have := heap_alloc_new (w.alloc (.cells #[.slice so S.length sc] 24)) (.cells #[.int .i64 op, .int .i64 n, str s, .slice ao xn xc] 27)
    rw [e1] at this
    exact (((Keeps.refl (fun _ => False) _).alloc _).block _ (by rw [e2]; omega) id).trans this
  have hb2 : (((w.alloc (.cells #[.slice so S.length sc] 24)).alloc (.cells #[.int .i64 op, .int .i64 n, str s, .slice ao xn xc] 27)).alloc (.cells #[.int .i64 0, .bool false, .int .i64 0] 134)).heap[w.heap.size + 2]? = some (.cells #[.int .i64 0, .bool false, .int .i64 0] 134 (0, 0)) := by
    have := heap_alloc_new ((w.alloc (.cells #[.slice so S.length sc] 24)).alloc (.cells #[.int .i64 op, .int .i64 n, str s, .slice ao xn xc] 27)) (.cells #[.int .i64 0, .bool false, .int .i64 0] 134)
    rw [e2] at this
    exact this
  have HC := fun w' (hk : Keeps (fun _ => False) w w') => hide (refField_v S (.slice so S.length sc) s w' (h.keepF hk) hl)
  have HF := hide h
  have B0 := hide hb0
  have B1 := hide hb1
  have B2 := hide hb2
  clear h hb0 hb1 hb2 e1 e2
  have done : ∀ (w1 w2 : World) (x : Array Value), Keeps (fun _ => False) w w1 → w1.heap[w.heap.size + 2]? = some (.cells x 134 (0, 0)) → x.size = 3 → ∀ (p q r : Value), let w3 := ((w1.setCell ⟨w.heap.size + 2, 0, none⟩ p).setCell ⟨w.heap.size + 2, 1, none⟩ q).setCell ⟨w.heap.size + 2, 2, none⟩ r
      w3.cell? ⟨w.heap.size + 2, 0, none⟩ = some p ∧ w3.cell? ⟨w.heap.size + 2, 1, none⟩ = some q ∧ w3.cell? ⟨w.heap.size + 2, 2, none⟩ = some r ∧ Keeps (fun _ => False) w w3 := by
    intro w1 _ x hk hx hs p q r w3
    have hb := heap_setCell_at (o := 2) (heap_setCell_at (o := 1) (heap_setCell_at (o := 0) hx p) q) r
    have hks : Keeps (fun t => t = w.heap.size + 2) w1 w3 := ((keeps_set _ _ _ _).trans (keeps_set _ _ _ _)).trans (keeps_set _ _ _ _)
    refine ⟨?_, ?_, ?_, hk.narrow hks (fun t e => by omega)⟩
    all_goals (rw [cell_of_blk hb]; simp [hs])
  have HD := hide done
  clear done
  cases hfo : fieldOf S s with
  | none =>
    have HR : Hid (refNamed S op s = (⟨0, false⟩, 90)) := by
      show _ = _
      unfold refNamed hasK namedK
      rw [hfo]
      split <;> rfl
    have HC1 := fun w' (hk : Keeps (fun _ => False) w w') => hide (refField_none S (.slice so S.length sc) s w' ((unhide HF).keepF hk) hl hfo)
    clear HC hfo
    go_enter Tryz.func149, Tryz.ntmps149
    go_wp2_with (go_at_call 93; refine (unhide (HC1 _ (unhide HK0))).mono ?_; rintro e w1 ⟨rfl, hk1⟩; have k0 := (hk1.block _ (lt_of_block (unhide B0)) id).trans (unhide B0); have k1 := (hk1.block _ (lt_of_block (unhide B1)) id).trans (unhide B1); have k2 := (hk1.block _ (lt_of_block (unhide B2)) id).trans (unhide B2); have p0 := cell_of_blk k0 0; have p1 := cell_of_blk k1 0; have m0 := cell_of_blk k2 0; have m1 := cell_of_blk k2 1; have m2 := cell_of_blk k2 2; simp at p0 p1 m0 m1 m2; have g0 := frozen_of_blk k2 0; have g1 := frozen_of_blk k2 1; have g2 := frozen_of_blk k2 2; have HK1 := hide ((unhide HK0).trans hk1); have K2 := hide k2; clear hk1 k0 k1 k2)
    obtain ⟨s0, s1, s2, hkf⟩ := unhide HD _ w1 _ (unhide HK1) (unhide K2) rfl (.int .i64 0) (.bool false) (.int .i64 90)
    refine bodyPost_ret (v := refV (⟨0, false⟩, 90)) (by simp [results, go_sem, s0, s1, s2]) rfl ?_
    exact ⟨by rw [unhide HR], hkf⟩
  | some f =>
    obtain ⟨fname, ftype, fopt⟩ := f
    have hpos : 0 < S.length := List.length_pos_of_mem (List.mem_of_find?_eq_some hfo)
    obtain ⟨b, off, c, e, hbl, hc⟩ := (unhide HF).cells hpos
    simp at e
    obtain ⟨rfl, rfl⟩ := e
    have HCC := hide hc
    clear hc
    have HC1 := fun w' (hk : Keeps (fun _ => False) w w') => hide (refField_some S _ s w' ((unhide HF).keepF hk) hl ⟨fname, ftype, fopt⟩ hfo)
    clear HC
    by_cases h4 : op = 4
    · have HR : Hid (refNamed S op s = (⟨ftype, fopt⟩, 0)) := by
        show _ = _
        unfold refNamed namedK
        rw [if_pos h4, hfo]
        rfl
      subst h4
      clear hfo
      go_enter Tryz.func149, Tryz.ntmps149
      go_wp2_with (go_at_call 93; refine (unhide (HC1 _ (unhide HK0))).mono ?_; rintro e w1 ⟨⟨k, hkf, rfl⟩, hk1⟩; have hkl := (List.getElem?_eq_some_iff.1 hkf).1; have i1 : (k : Int) < (S.length : Int) := (by omega); have i0 : (0 : Int) ≤ (k : Int) := (by omega); have i2 : ¬ (k : Int) < 0 := (by omega); have hkw := (unhide HK0).trans hk1; have f0 := (hkw.cell hbl id).trans (unhide HCC k _ hkf).1; have f1 := (hkw.cell hbl id).trans (unhide HCC k _ hkf).2.1; have f2 := (hkw.cell hbl id).trans (unhide HCC k _ hkf).2.2; have k0 := (hk1.block _ (lt_of_block (unhide B0)) id).trans (unhide B0); have p0 : World.cell? _ _ = some (Value.slice (some ⟨b, off, none⟩) S.length sc) := cell_of_blk k0 0; have ka := hk1.trans ((Keeps.refl (fun _ => False) w1).alloc (.cells #[str fname, .int .i64 ftype, .bool fopt] 47)); have k2 := (ka.block _ (lt_of_block (unhide B2)) id).trans (unhide B2); have k1 := (ka.block _ (lt_of_block (unhide B1)) id).trans (unhide B1); have p1 : World.cell? _ _ = some (Value.int .i64 4) := cell_of_blk k1 0; have m0 : World.cell? _ _ = some (Value.int .i64 0) := cell_of_blk k2 0; have m1 : World.cell? _ _ = some (Value.bool false) := cell_of_blk k2 1; have m2 : World.cell? _ _ = some (Value.int .i64 0) := cell_of_blk k2 2; have g0 := frozen_of_blk k2 0; have g1 := frozen_of_blk k2 1; have g2 := frozen_of_blk k2 2; have HK1 := hide ((unhide HK0).trans ka); have K2 := hide k2; clear hk1 k0 k1 k2 ka hkf hkw)
      obtain ⟨s0, s1, s2, hkf⟩ := unhide HD _ w1 _ (unhide HK1) (unhide K2) rfl (.int .i64 ftype) (.bool fopt) (.int .i64 0)
      refine bodyPost_ret (v := refV (⟨ftype, fopt⟩, 0)) (by simp [results, go_sem, s0, s1, s2]) rfl ?_
      exact ⟨by rw [unhide HR], hkf⟩
    · have d4 : (op == 4) = false := by simpa using h4
      cases fopt with
      | false =>
        have HR : Hid (refNamed S op s = (⟨0, false⟩, 92)) := by
          show _ = _
          unfold refNamed hasK namedK
          rw [if_neg h4, hfo]
          simp [zeroK, orI, optI]
        clear hfo h4
        go_enter Tryz.func149, Tryz.ntmps149
        go_wp2_with (go_at_call 93; refine (unhide (HC1 _ (unhide HK0))).mono ?_; rintro e w1 ⟨⟨k, hkf, rfl⟩, hk1⟩; have hkl := (List.getElem?_eq_some_iff.1 hkf).1; have i1 : (k : Int) < (S.length : Int) := (by omega); have i0 : (0 : Int) ≤ (k : Int) := (by omega); have i2 : ¬ (k : Int) < 0 := (by omega); have hkw := (unhide HK0).trans hk1; have f0 := (hkw.cell hbl id).trans (unhide HCC k _ hkf).1; have f1 := (hkw.cell hbl id).trans (unhide HCC k _ hkf).2.1; have f2 := (hkw.cell hbl id).trans (unhide HCC k _ hkf).2.2; have k0 := (hk1.block _ (lt_of_block (unhide B0)) id).trans (unhide B0); have p0 : World.cell? _ _ = some (Value.slice (some ⟨b, off, none⟩) S.length sc) := cell_of_blk k0 0; have ka := hk1.trans ((Keeps.refl (fun _ => False) w1).alloc (.cells #[str fname, .int .i64 ftype, .bool false] 47)); have k2 := (ka.block _ (lt_of_block (unhide B2)) id).trans (unhide B2); have k1 := (ka.block _ (lt_of_block (unhide B1)) id).trans (unhide B1); have p1 : World.cell? _ _ = some (Value.int .i64 op) := cell_of_blk k1 0; have m0 : World.cell? _ _ = some (Value.int .i64 0) := cell_of_blk k2 0; have m1 : World.cell? _ _ = some (Value.bool false) := cell_of_blk k2 1; have m2 : World.cell? _ _ = some (Value.int .i64 0) := cell_of_blk k2 2; have g0 := frozen_of_blk k2 0; have g1 := frozen_of_blk k2 1; have g2 := frozen_of_blk k2 2; have HK1 := hide ((unhide HK0).trans ka); have K2 := hide k2; clear hk1 k0 k1 k2 ka hkf hkw)
        obtain ⟨s0, s1, s2, hkf⟩ := unhide HD _ w1 _ (unhide HK1) (unhide K2) rfl (.int .i64 0) (.bool false) (.int .i64 92)
        refine bodyPost_ret (v := refV (⟨0, false⟩, 92)) (by simp [results, go_sem, s0, s1, s2]) rfl ?_
        exact ⟨by rw [unhide HR], hkf⟩
      | true =>
        have HR : Hid (refNamed S op s = (⟨2, false⟩, 0)) := by
          show _ = _
          unfold refNamed hasK namedK
          rw [if_neg h4, hfo]
          simp [zeroK, orI, optI]
        clear hfo h4
        go_enter Tryz.func149, Tryz.ntmps149
        go_wp2_with (go_at_call 93; refine (unhide (HC1 _ (unhide HK0))).mono ?_; rintro e w1 ⟨⟨k, hkf, rfl⟩, hk1⟩; have hkl := (List.getElem?_eq_some_iff.1 hkf).1; have i1 : (k : Int) < (S.length : Int) := (by omega); have i0 : (0 : Int) ≤ (k : Int) := (by omega); have i2 : ¬ (k : Int) < 0 := (by omega); have hkw := (unhide HK0).trans hk1; have f0 := (hkw.cell hbl id).trans (unhide HCC k _ hkf).1; have f1 := (hkw.cell hbl id).trans (unhide HCC k _ hkf).2.1; have f2 := (hkw.cell hbl id).trans (unhide HCC k _ hkf).2.2; have k0 := (hk1.block _ (lt_of_block (unhide B0)) id).trans (unhide B0); have p0 : World.cell? _ _ = some (Value.slice (some ⟨b, off, none⟩) S.length sc) := cell_of_blk k0 0; have ka := hk1.trans ((Keeps.refl (fun _ => False) w1).alloc (.cells #[str fname, .int .i64 ftype, .bool true] 47)); have k2 := (ka.block _ (lt_of_block (unhide B2)) id).trans (unhide B2); have k1 := (ka.block _ (lt_of_block (unhide B1)) id).trans (unhide B1); have p1 : World.cell? _ _ = some (Value.int .i64 op) := cell_of_blk k1 0; have m0 : World.cell? _ _ = some (Value.int .i64 0) := cell_of_blk k2 0; have m1 : World.cell? _ _ = some (Value.bool false) := cell_of_blk k2 1; have m2 : World.cell? _ _ = some (Value.int .i64 0) := cell_of_blk k2 2; have g0 := frozen_of_blk k2 0; have g1 := frozen_of_blk k2 1; have g2 := frozen_of_blk k2 2; have HK1 := hide ((unhide HK0).trans ka); have K2 := hide k2; clear hk1 k0 k1 k2 ka hkf hkw)
        obtain ⟨s0, s1, s2, hkf⟩ := unhide HD _ w1 _ (unhide HK1) (unhide K2) rfl (.int .i64 2) (.bool false) (.int .i64 0)
        refine bodyPost_ret (v := refV (⟨2, false⟩, 0)) (by simp [results, go_sem, s0, s1, s2]) rfl ?_
        exact ⟨by rw [unhide HR], hkf⟩
end Go.Proofs.YtiinohibmcefkaaGreatDoor
