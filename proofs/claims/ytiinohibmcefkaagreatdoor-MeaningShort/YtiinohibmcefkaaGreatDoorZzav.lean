import Derived.Test.YtiinohibmcefkaaGreatDoorZzai
import Derived.Laws.EntriesVeiled
namespace Go.Proofs.YtiinohibmcefkaaGreatDoor
open Go.RowKit Go.Maps

theorem number_w (n : Int) (w : World) : Calls Tryz.prog 77 #[.int .i64 n] w fun e w' => e = .returned (.agg #[.int .i64 1, .int .i64 n, .string ⟨#[]⟩]) ∧ Keeps (fun _ => False) w w' := number_v n w
theorem truth_w (b : Bool) (q : Int) (hq : q = if b then 1 else 0) (w : World) : Calls Tryz.prog 78 #[.bool b] w fun e w' => e = .returned (.agg #[.int .i64 2, .int .i64 q, .string ⟨#[]⟩]) ∧ Keeps (fun _ => False) w w' := by
  subst hq
  exact truth_v b w
theorem number_q (n q : Int) (h : n = q) (w : World) : Calls Tryz.prog 77 #[.int .i64 n] w fun e w' => e = .returned (.agg #[.int .i64 1, .int .i64 q, .string ⟨#[]⟩]) ∧ Keeps (fun _ => False) w w' := by
  subst h
  exact number_v n w
/-- The world as a function of one value finds it. -/
structure Pro1 (W X : World) (ak an : Int) (ax : Txt) : Prop where
  kept : Keeps (fun _ => False) W X
  a : X.heap[W.heap.size]? = some (.cells #[.int .i64 ak, .int .i64 an, str ax] 41 (0, 0))
  res : X.heap[W.heap.size + 1]? = some (.cells #[.int .i64 0, .int .i64 0, .string ⟨#[]⟩] 41 (0, 0))
theorem pro1_of (W : World) (ak an : Int) (ax : Txt) : ∃ X, (W.alloc (.cells #[.int .i64 ak, .int .i64 an, str ax] 41)).alloc (.cells #[.int .i64 0, .int .i64 0, .string ⟨#[]⟩] 41) = X ∧ Pro1 W X ak an ax := by
  refine ⟨_, rfl, ((Keeps.refl _ W).alloc _).alloc _, (((Keeps.refl (fun _ => False) _).alloc _).block _ (by simp) id).trans (heap_alloc_new W _), ?_⟩
  have := heap_alloc_new (W.alloc (.cells #[.int .i64 ak, .int .i64 an, str ax] 41)) (.cells #[.int .i64 0, .int .i64 0, .string ⟨#[]⟩] 41)
  rwa [show (W.alloc (.cells #[.int .i64 ak, .int .i64 an, str ax] 41)).heap.size = W.heap.size + 1 by simp] at this
/-- The world as a function of two values finds it. -/
structure Pro2 (W X : World) (ak an : Int) (ax : Txt) (bk bn : Int) (bx : Txt) : Prop where
  kept : Keeps (fun _ => False) W X
  a : X.heap[W.heap.size]? = some (.cells #[.int .i64 ak, .int .i64 an, str ax] 41 (0, 0))
  b : X.heap[W.heap.size + 1]? = some (.cells #[.int .i64 bk, .int .i64 bn, str bx] 41 (0, 0))
  res : X.heap[W.heap.size + 1 + 1]? = some (.cells #[.int .i64 0, .int .i64 0, .string ⟨#[]⟩] 41 (0, 0))
theorem pro2_of (W : World) (ak an : Int) (ax : Txt) (bk bn : Int) (bx : Txt) : ∃ X, ((W.alloc (.cells #[.int .i64 ak, .int .i64 an, str ax] 41)).alloc (.cells #[.int .i64 bk, .int .i64 bn, str bx] 41)).alloc (.cells #[.int .i64 0, .int .i64 0, .string ⟨#[]⟩] 41) = X ∧ Pro2 W X ak an ax bk bn bx := by
  have e1 : (W.alloc (.cells #[.int .i64 ak, .int .i64 an, str ax] 41)).heap.size = W.heap.size + 1 := by simp
  have e2 : ((W.alloc (.cells #[.int .i64 ak, .int .i64 an, str ax] 41)).alloc (.cells #[.int .i64 bk, .int .i64 bn, str bx] 41)).heap.size = W.heap.size + 1 + 1 := by simp
  have k1 : Keeps (fun _ => False) (W.alloc (.cells #[.int .i64 ak, .int .i64 an, str ax] 41)) ((W.alloc (.cells #[.int .i64 ak, .int .i64 an, str ax] 41)).alloc (.cells #[.int .i64 bk, .int .i64 bn, str bx] 41)) := (Keeps.refl _ _).alloc _
  have k2 := (Keeps.refl (fun _ => False) ((W.alloc (.cells #[.int .i64 ak, .int .i64 an, str ax] 41)).alloc (.cells #[.int .i64 bk, .int .i64 bn, str bx] 41))).alloc (.cells #[.int .i64 0, .int .i64 0, .string ⟨#[]⟩] 41)
  refine ⟨_, rfl, (((Keeps.refl _ W).alloc _).alloc _).alloc _, ((k1.trans k2).block _ (by omega) id).trans (heap_alloc_new W _), (k2.block _ (by omega) id).trans ?_, ?_⟩
  · have := heap_alloc_new (W.alloc (.cells #[.int .i64 ak, .int .i64 an, str ax] 41)) (.cells #[.int .i64 bk, .int .i64 bn, str bx] 41)
    rwa [e1] at this
  · have := heap_alloc_new ((W.alloc (.cells #[.int .i64 ak, .int .i64 an, str ax] 41)).alloc (.cells #[.int .i64 bk, .int .i64 bn, str bx] 41)) (.cells #[.int .i64 0, .int .i64 0, .string ⟨#[]⟩] 41)
    rwa [e2] at this
set_option maxRecDepth 100000 in
theorem f87_v : OneF (.func (.func 118) #[] #[]) (fun a => truV (decide (a.n = 0))) := by
  refine ⟨118, rfl, enters_of Tryz.func118 (by kernel_rfl) rfl, fun a _ => tru_short _, fun W a ha => ?_⟩
  obtain ⟨ak, an, ax⟩ := a
  obtain ⟨q, hq⟩ : ∃ q : Int, q = if decide (an = 0) then 1 else 0 := ⟨_, rfl⟩
  have HQ := hide hq
  obtain ⟨X, hX, P⟩ := pro1_of W ak an ax
  have hR : ((truV (decide (an = 0))) : ValA).v = .agg #[.int .i64 2, .int .i64 q, .string ⟨#[]⟩] := by subst hq; rfl
  show Calls _ _ _ _ (fun e W' => e = .returned ((truV (decide (an = 0))) : ValA).v ∧ _)
  rw [hR]
  simp only [ValA.v]
  clear hR hq
  have a0 : X.cell? ⟨W.heap.size, 0, none⟩ = some (.int .i64 ak) := (cell_of_blk P.a 0).trans rfl
  have a1 : X.cell? ⟨W.heap.size, 1, none⟩ = some (.int .i64 an) := (cell_of_blk P.a 1).trans rfl
  have a2 : X.cell? ⟨W.heap.size, 2, none⟩ = some (str ax) := (cell_of_blk P.a 2).trans rfl
  have HP := hide P
  have HKA := hide (Keeps.refl (fun _ => False) X)
  clear P
  go_enter Tryz.func118, Tryz.ntmps118
  go_wp2_with fail
  refine (truth_w _ q (unhide HQ) _).mono ?_
  rintro e w1 ⟨rfl, hk1⟩
  have HK1 := hide ((unhide HKA).trans hk1)
  have hz := ((unhide HK1).block _ (lt_of_block (unhide HP).res) id).trans (unhide HP).res
  have m0 := cell_of_blk hz 0
  have m1 := cell_of_blk hz 1
  have m2 := cell_of_blk hz 2
  simp at m0 m1 m2
  have g0 := frozen_of_blk hz 0
  have g1 := frozen_of_blk hz 1
  have g2 := frozen_of_blk hz 2
  obtain ⟨o0, o1, o2⟩ := set3v hz (.int .i64 2) (.int .i64 q) (.string ⟨#[]⟩)
  have HD := hide (((unhide HP).kept.trans (unhide HK1)).narrow (keeps_set3 _ (W.heap.size + 1) (.int .i64 2) (.int .i64 q) (.string ⟨#[]⟩)) (fun q e => by omega))
  clear hz
  clear hk1
  go_wp2_with fail
  refine bodyPost_ret (v := .agg #[.int .i64 2, .int .i64 q, .string ⟨#[]⟩]) (by simp [results, go_sem, o0, o1, o2]) rfl ?_
  exact ⟨rfl, unhide HD⟩
set_option maxRecDepth 100000 in
theorem f88_v : OneF (.func (.func 119) #[] #[]) (fun a => numV (wrap64 (-a.n))) := by
  refine ⟨119, rfl, enters_of Tryz.func119 (by kernel_rfl) rfl, fun a _ => num_short _, fun W a ha => ?_⟩
  obtain ⟨ak, an, ax⟩ := a
  obtain ⟨X, hX, P⟩ := pro1_of W ak an ax
  have hR : ((numV (wrap64 (-an))) : ValA).v = .agg #[.int .i64 1, .int .i64 (wrap64 (-an)), .string ⟨#[]⟩] := rfl
  show Calls _ _ _ _ (fun e W' => e = .returned ((numV (wrap64 (-an))) : ValA).v ∧ _)
  rw [hR]
  simp only [ValA.v]
  clear hR
  have a0 : X.cell? ⟨W.heap.size, 0, none⟩ = some (.int .i64 ak) := (cell_of_blk P.a 0).trans rfl
  have a1 : X.cell? ⟨W.heap.size, 1, none⟩ = some (.int .i64 an) := (cell_of_blk P.a 1).trans rfl
  have a2 : X.cell? ⟨W.heap.size, 2, none⟩ = some (str ax) := (cell_of_blk P.a 2).trans rfl
  have HP := hide P
  have HKA := hide (Keeps.refl (fun _ => False) X)
  clear P
  go_enter Tryz.func119, Tryz.ntmps119
  go_wp2_with fail
  refine (number_w _ _).mono ?_
  rintro e w1 ⟨rfl, hk1⟩
  have HK1 := hide ((unhide HKA).trans hk1)
  have hz := ((unhide HK1).block _ (lt_of_block (unhide HP).res) id).trans (unhide HP).res
  have m0 := cell_of_blk hz 0
  have m1 := cell_of_blk hz 1
  have m2 := cell_of_blk hz 2
  simp at m0 m1 m2
  have g0 := frozen_of_blk hz 0
  have g1 := frozen_of_blk hz 1
  have g2 := frozen_of_blk hz 2
  obtain ⟨o0, o1, o2⟩ := set3v hz (.int .i64 1) (.int .i64 (wrap64 (-an))) (.string ⟨#[]⟩)
  have HD := hide (((unhide HP).kept.trans (unhide HK1)).narrow (keeps_set3 _ (W.heap.size + 1) (.int .i64 1) (.int .i64 (wrap64 (-an))) (.string ⟨#[]⟩)) (fun q e => by omega))
  clear hz
  clear hk1
  go_wp2_with fail
  refine bodyPost_ret (v := .agg #[.int .i64 1, .int .i64 (wrap64 (-an)), .string ⟨#[]⟩]) (by simp [results, go_sem, o0, o1, o2]) rfl ?_
  exact ⟨rfl, unhide HD⟩
set_option maxRecDepth 100000 in
theorem f90_v : TwoF (.func (.func 121) #[] #[]) (fun a b => numV (wrap64 (a.n + b.n))) := by
  refine ⟨121, rfl, enters_of Tryz.func121 (by kernel_rfl) rfl, fun a b _ _ => num_short _, fun W a b ha hb => ?_⟩
  obtain ⟨ak, an, ax⟩ := a
  obtain ⟨bk, bn, bx⟩ := b
  obtain ⟨X, hX, P⟩ := pro2_of W ak an ax bk bn bx
  have hR : ((numV (wrap64 (an + bn))) : ValA).v = .agg #[.int .i64 1, .int .i64 (wrap64 (an + bn)), .string ⟨#[]⟩] := rfl
  show Calls _ _ _ _ (fun e W' => e = .returned ((numV (wrap64 (an + bn))) : ValA).v ∧ _)
  rw [hR]
  simp only [ValA.v]
  clear hR
  have a0 : X.cell? ⟨W.heap.size, 0, none⟩ = some (.int .i64 ak) := (cell_of_blk P.a 0).trans rfl
  have a1 : X.cell? ⟨W.heap.size, 1, none⟩ = some (.int .i64 an) := (cell_of_blk P.a 1).trans rfl
  have a2 : X.cell? ⟨W.heap.size, 2, none⟩ = some (str ax) := (cell_of_blk P.a 2).trans rfl
  have b0 : X.cell? ⟨W.heap.size + 1, 0, none⟩ = some (.int .i64 bk) := (cell_of_blk P.b 0).trans rfl
  have b1 : X.cell? ⟨W.heap.size + 1, 1, none⟩ = some (.int .i64 bn) := (cell_of_blk P.b 1).trans rfl
  have b2 : X.cell? ⟨W.heap.size + 1, 2, none⟩ = some (str bx) := (cell_of_blk P.b 2).trans rfl
  have HP := hide P
  have HKA := hide (Keeps.refl (fun _ => False) X)
  clear P
  go_enter Tryz.func121, Tryz.ntmps121
  go_wp2_with fail
  refine (number_w _ _).mono ?_
  rintro e w1 ⟨rfl, hk1⟩
  have HK1 := hide ((unhide HKA).trans hk1)
  have hz := ((unhide HK1).block _ (lt_of_block (unhide HP).res) id).trans (unhide HP).res
  have m0 := cell_of_blk hz 0
  have m1 := cell_of_blk hz 1
  have m2 := cell_of_blk hz 2
  simp at m0 m1 m2
  have g0 := frozen_of_blk hz 0
  have g1 := frozen_of_blk hz 1
  have g2 := frozen_of_blk hz 2
  obtain ⟨o0, o1, o2⟩ := set3v hz (.int .i64 1) (.int .i64 (wrap64 (an + bn))) (.string ⟨#[]⟩)
  have HD := hide (((unhide HP).kept.trans (unhide HK1)).narrow (keeps_set3 _ (W.heap.size + 1 + 1) (.int .i64 1) (.int .i64 (wrap64 (an + bn))) (.string ⟨#[]⟩)) (fun q e => by omega))
  clear hz
  clear hk1
  go_wp2_with fail
  refine bodyPost_ret (v := .agg #[.int .i64 1, .int .i64 (wrap64 (an + bn)), .string ⟨#[]⟩]) (by simp [results, go_sem, o0, o1, o2]) rfl ?_
  exact ⟨rfl, unhide HD⟩
set_option maxRecDepth 100000 in
theorem f91_v : TwoF (.func (.func 122) #[] #[]) (fun a b => numV (wrap64 (a.n - b.n))) := by
  refine ⟨122, rfl, enters_of Tryz.func122 (by kernel_rfl) rfl, fun a b _ _ => num_short _, fun W a b ha hb => ?_⟩
  obtain ⟨ak, an, ax⟩ := a
  obtain ⟨bk, bn, bx⟩ := b
  obtain ⟨X, hX, P⟩ := pro2_of W ak an ax bk bn bx
  have hR : ((numV (wrap64 (an - bn))) : ValA).v = .agg #[.int .i64 1, .int .i64 (wrap64 (an - bn)), .string ⟨#[]⟩] := rfl
  show Calls _ _ _ _ (fun e W' => e = .returned ((numV (wrap64 (an - bn))) : ValA).v ∧ _)
  rw [hR]
  simp only [ValA.v]
  clear hR
  have a0 : X.cell? ⟨W.heap.size, 0, none⟩ = some (.int .i64 ak) := (cell_of_blk P.a 0).trans rfl
  have a1 : X.cell? ⟨W.heap.size, 1, none⟩ = some (.int .i64 an) := (cell_of_blk P.a 1).trans rfl
  have a2 : X.cell? ⟨W.heap.size, 2, none⟩ = some (str ax) := (cell_of_blk P.a 2).trans rfl
  have b0 : X.cell? ⟨W.heap.size + 1, 0, none⟩ = some (.int .i64 bk) := (cell_of_blk P.b 0).trans rfl
  have b1 : X.cell? ⟨W.heap.size + 1, 1, none⟩ = some (.int .i64 bn) := (cell_of_blk P.b 1).trans rfl
  have b2 : X.cell? ⟨W.heap.size + 1, 2, none⟩ = some (str bx) := (cell_of_blk P.b 2).trans rfl
  have HP := hide P
  have HKA := hide (Keeps.refl (fun _ => False) X)
  clear P
  go_enter Tryz.func122, Tryz.ntmps122
  go_wp2_with fail
  refine (number_w _ _).mono ?_
  rintro e w1 ⟨rfl, hk1⟩
  have HK1 := hide ((unhide HKA).trans hk1)
  have hz := ((unhide HK1).block _ (lt_of_block (unhide HP).res) id).trans (unhide HP).res
  have m0 := cell_of_blk hz 0
  have m1 := cell_of_blk hz 1
  have m2 := cell_of_blk hz 2
  simp at m0 m1 m2
  have g0 := frozen_of_blk hz 0
  have g1 := frozen_of_blk hz 1
  have g2 := frozen_of_blk hz 2
  obtain ⟨o0, o1, o2⟩ := set3v hz (.int .i64 1) (.int .i64 (wrap64 (an - bn))) (.string ⟨#[]⟩)
  have HD := hide (((unhide HP).kept.trans (unhide HK1)).narrow (keeps_set3 _ (W.heap.size + 1 + 1) (.int .i64 1) (.int .i64 (wrap64 (an - bn))) (.string ⟨#[]⟩)) (fun q e => by omega))
  clear hz
  clear hk1
  go_wp2_with fail
  refine bodyPost_ret (v := .agg #[.int .i64 1, .int .i64 (wrap64 (an - bn)), .string ⟨#[]⟩]) (by simp [results, go_sem, o0, o1, o2]) rfl ?_
  exact ⟨rfl, unhide HD⟩
set_option maxRecDepth 100000 in
theorem f92_v : TwoF (.func (.func 123) #[] #[]) (fun a b => numV (wrap64 (a.n * b.n))) := by
  refine ⟨123, rfl, enters_of Tryz.func123 (by kernel_rfl) rfl, fun a b _ _ => num_short _, fun W a b ha hb => ?_⟩
  obtain ⟨ak, an, ax⟩ := a
  obtain ⟨bk, bn, bx⟩ := b
  obtain ⟨X, hX, P⟩ := pro2_of W ak an ax bk bn bx
  have hR : ((numV (wrap64 (an * bn))) : ValA).v = .agg #[.int .i64 1, .int .i64 (wrap64 (an * bn)), .string ⟨#[]⟩] := rfl
  show Calls _ _ _ _ (fun e W' => e = .returned ((numV (wrap64 (an * bn))) : ValA).v ∧ _)
  rw [hR]
  simp only [ValA.v]
  clear hR
  have a0 : X.cell? ⟨W.heap.size, 0, none⟩ = some (.int .i64 ak) := (cell_of_blk P.a 0).trans rfl
  have a1 : X.cell? ⟨W.heap.size, 1, none⟩ = some (.int .i64 an) := (cell_of_blk P.a 1).trans rfl
  have a2 : X.cell? ⟨W.heap.size, 2, none⟩ = some (str ax) := (cell_of_blk P.a 2).trans rfl
  have b0 : X.cell? ⟨W.heap.size + 1, 0, none⟩ = some (.int .i64 bk) := (cell_of_blk P.b 0).trans rfl
  have b1 : X.cell? ⟨W.heap.size + 1, 1, none⟩ = some (.int .i64 bn) := (cell_of_blk P.b 1).trans rfl
  have b2 : X.cell? ⟨W.heap.size + 1, 2, none⟩ = some (str bx) := (cell_of_blk P.b 2).trans rfl
  have HP := hide P
  have HKA := hide (Keeps.refl (fun _ => False) X)
  clear P
  go_enter Tryz.func123, Tryz.ntmps123
  go_wp2_with fail
  refine (number_w _ _).mono ?_
  rintro e w1 ⟨rfl, hk1⟩
  have HK1 := hide ((unhide HKA).trans hk1)
  have hz := ((unhide HK1).block _ (lt_of_block (unhide HP).res) id).trans (unhide HP).res
  have m0 := cell_of_blk hz 0
  have m1 := cell_of_blk hz 1
  have m2 := cell_of_blk hz 2
  simp at m0 m1 m2
  have g0 := frozen_of_blk hz 0
  have g1 := frozen_of_blk hz 1
  have g2 := frozen_of_blk hz 2
  obtain ⟨o0, o1, o2⟩ := set3v hz (.int .i64 1) (.int .i64 (wrap64 (an * bn))) (.string ⟨#[]⟩)
  have HD := hide (((unhide HP).kept.trans (unhide HK1)).narrow (keeps_set3 _ (W.heap.size + 1 + 1) (.int .i64 1) (.int .i64 (wrap64 (an * bn))) (.string ⟨#[]⟩)) (fun q e => by omega))
  clear hz
  clear hk1
  go_wp2_with fail
  refine bodyPost_ret (v := .agg #[.int .i64 1, .int .i64 (wrap64 (an * bn)), .string ⟨#[]⟩]) (by simp [results, go_sem, o0, o1, o2]) rfl ?_
  exact ⟨rfl, unhide HD⟩
set_option maxRecDepth 100000 in
theorem f104_v : TwoF (.func (.func 135) #[] #[]) (fun a b => numV (min a.n b.n)) := by
  refine ⟨135, rfl, enters_of Tryz.func135 (by kernel_rfl) rfl, fun a b _ _ => num_short _, fun W a b ha hb => ?_⟩
  obtain ⟨ak, an, ax⟩ := a
  obtain ⟨bk, bn, bx⟩ := b
  obtain ⟨q, hq⟩ : ∃ q : Int, q = min an bn := ⟨_, rfl⟩
  have HQ := hide hq
  obtain ⟨X, hX, P⟩ := pro2_of W ak an ax bk bn bx
  have hR : ((numV (min an bn)) : ValA).v = .agg #[.int .i64 1, .int .i64 (q), .string ⟨#[]⟩] := by subst hq; rfl
  show Calls _ _ _ _ (fun e W' => e = .returned ((numV (min an bn)) : ValA).v ∧ _)
  rw [hR]
  simp only [ValA.v]
  clear hR hq
  have a0 : X.cell? ⟨W.heap.size, 0, none⟩ = some (.int .i64 ak) := (cell_of_blk P.a 0).trans rfl
  have a1 : X.cell? ⟨W.heap.size, 1, none⟩ = some (.int .i64 an) := (cell_of_blk P.a 1).trans rfl
  have a2 : X.cell? ⟨W.heap.size, 2, none⟩ = some (str ax) := (cell_of_blk P.a 2).trans rfl
  have b0 : X.cell? ⟨W.heap.size + 1, 0, none⟩ = some (.int .i64 bk) := (cell_of_blk P.b 0).trans rfl
  have b1 : X.cell? ⟨W.heap.size + 1, 1, none⟩ = some (.int .i64 bn) := (cell_of_blk P.b 1).trans rfl
  have b2 : X.cell? ⟨W.heap.size + 1, 2, none⟩ = some (str bx) := (cell_of_blk P.b 2).trans rfl
  have HP := hide P
  have HKA := hide (Keeps.refl (fun _ => False) X)
  clear P
  go_enter Tryz.func135, Tryz.ntmps135
  go_wp2_with fail
  all_goals
    refine (number_q _ q (by have := unhide HQ; omega) _).mono ?_
    rintro e w1 ⟨rfl, hk1⟩
    have HK1 := hide ((unhide HKA).trans hk1)
    have hz := ((unhide HK1).block _ (lt_of_block (unhide HP).res) id).trans (unhide HP).res
    have m0 := cell_of_blk hz 0
    have m1 := cell_of_blk hz 1
    have m2 := cell_of_blk hz 2
    simp at m0 m1 m2
    have g0 := frozen_of_blk hz 0
    have g1 := frozen_of_blk hz 1
    have g2 := frozen_of_blk hz 2
    obtain ⟨o0, o1, o2⟩ := set3v hz (.int .i64 1) (.int .i64 (q)) (.string ⟨#[]⟩)
    have HD := hide (((unhide HP).kept.trans (unhide HK1)).narrow (keeps_set3 _ (W.heap.size + 1 + 1) (.int .i64 1) (.int .i64 (q)) (.string ⟨#[]⟩)) (fun q e => by omega))
    clear hz
    clear hk1
    go_wp2_with fail
    refine bodyPost_ret (v := .agg #[.int .i64 1, .int .i64 (q), .string ⟨#[]⟩]) (by simp [results, go_sem, o0, o1, o2]) rfl ?_
    exact ⟨rfl, unhide HD⟩
set_option maxRecDepth 100000 in
theorem f105_v : TwoF (.func (.func 136) #[] #[]) (fun a b => numV (max a.n b.n)) := by
  refine ⟨136, rfl, enters_of Tryz.func136 (by kernel_rfl) rfl, fun a b _ _ => num_short _, fun W a b ha hb => ?_⟩
  obtain ⟨ak, an, ax⟩ := a
  obtain ⟨bk, bn, bx⟩ := b
  obtain ⟨q, hq⟩ : ∃ q : Int, q = max an bn := ⟨_, rfl⟩
  have HQ := hide hq
  obtain ⟨X, hX, P⟩ := pro2_of W ak an ax bk bn bx
  have hR : ((numV (max an bn)) : ValA).v = .agg #[.int .i64 1, .int .i64 (q), .string ⟨#[]⟩] := by subst hq; rfl
  show Calls _ _ _ _ (fun e W' => e = .returned ((numV (max an bn)) : ValA).v ∧ _)
  rw [hR]
  simp only [ValA.v]
  clear hR hq
  have a0 : X.cell? ⟨W.heap.size, 0, none⟩ = some (.int .i64 ak) := (cell_of_blk P.a 0).trans rfl
  have a1 : X.cell? ⟨W.heap.size, 1, none⟩ = some (.int .i64 an) := (cell_of_blk P.a 1).trans rfl
  have a2 : X.cell? ⟨W.heap.size, 2, none⟩ = some (str ax) := (cell_of_blk P.a 2).trans rfl
  have b0 : X.cell? ⟨W.heap.size + 1, 0, none⟩ = some (.int .i64 bk) := (cell_of_blk P.b 0).trans rfl
  have b1 : X.cell? ⟨W.heap.size + 1, 1, none⟩ = some (.int .i64 bn) := (cell_of_blk P.b 1).trans rfl
  have b2 : X.cell? ⟨W.heap.size + 1, 2, none⟩ = some (str bx) := (cell_of_blk P.b 2).trans rfl
  have HP := hide P
  have HKA := hide (Keeps.refl (fun _ => False) X)
  clear P
  go_enter Tryz.func136, Tryz.ntmps136
  go_wp2_with fail
  all_goals
    refine (number_q _ q (by have := unhide HQ; omega) _).mono ?_
    rintro e w1 ⟨rfl, hk1⟩
    have HK1 := hide ((unhide HKA).trans hk1)
    have hz := ((unhide HK1).block _ (lt_of_block (unhide HP).res) id).trans (unhide HP).res
    have m0 := cell_of_blk hz 0
    have m1 := cell_of_blk hz 1
    have m2 := cell_of_blk hz 2
    simp at m0 m1 m2
    have g0 := frozen_of_blk hz 0
    have g1 := frozen_of_blk hz 1
    have g2 := frozen_of_blk hz 2
    obtain ⟨o0, o1, o2⟩ := set3v hz (.int .i64 1) (.int .i64 (q)) (.string ⟨#[]⟩)
    have HD := hide (((unhide HP).kept.trans (unhide HK1)).narrow (keeps_set3 _ (W.heap.size + 1 + 1) (.int .i64 1) (.int .i64 (q)) (.string ⟨#[]⟩)) (fun q e => by omega))
    clear hz
    clear hk1
    go_wp2_with fail
    refine bodyPost_ret (v := .agg #[.int .i64 1, .int .i64 (q), .string ⟨#[]⟩]) (by simp [results, go_sem, o0, o1, o2]) rfl ?_
    exact ⟨rfl, unhide HD⟩
set_option maxRecDepth 100000 in
theorem f106_v : OneF (.func (.func 137) #[] #[]) (fun a => numV (a.s.length : Int)) := by
  refine ⟨137, rfl, enters_of Tryz.func137 (by kernel_rfl) rfl, fun a _ => num_short _, fun W a ha => ?_⟩
  obtain ⟨ak, an, ax⟩ := a
  obtain ⟨X, hX, P⟩ := pro1_of W ak an ax
  have hR : ((numV (ax.length : Int)) : ValA).v = .agg #[.int .i64 1, .int .i64 ((ax.length : Int)), .string ⟨#[]⟩] := rfl
  show Calls _ _ _ _ (fun e W' => e = .returned ((numV (ax.length : Int)) : ValA).v ∧ _)
  rw [hR]
  simp only [ValA.v]
  clear hR
  have a0 : X.cell? ⟨W.heap.size, 0, none⟩ = some (.int .i64 ak) := (cell_of_blk P.a 0).trans rfl
  have a1 : X.cell? ⟨W.heap.size, 1, none⟩ = some (.int .i64 an) := (cell_of_blk P.a 1).trans rfl
  have a2 : X.cell? ⟨W.heap.size, 2, none⟩ = some (str ax) := (cell_of_blk P.a 2).trans rfl
  have HP := hide P
  have HKA := hide (Keeps.refl (fun _ => False) X)
  clear P
  go_enter Tryz.func137, Tryz.ntmps137
  go_wp2_with fail
  refine (number_w _ _).mono ?_
  rintro e w1 ⟨rfl, hk1⟩
  have HK1 := hide ((unhide HKA).trans hk1)
  have hz := ((unhide HK1).block _ (lt_of_block (unhide HP).res) id).trans (unhide HP).res
  have m0 := cell_of_blk hz 0
  have m1 := cell_of_blk hz 1
  have m2 := cell_of_blk hz 2
  simp at m0 m1 m2
  have g0 := frozen_of_blk hz 0
  have g1 := frozen_of_blk hz 1
  have g2 := frozen_of_blk hz 2
  obtain ⟨o0, o1, o2⟩ := set3v hz (.int .i64 1) (.int .i64 ((ax.length : Int))) (.string ⟨#[]⟩)
  have HD := hide (((unhide HP).kept.trans (unhide HK1)).narrow (keeps_set3 _ (W.heap.size + 1) (.int .i64 1) (.int .i64 ((ax.length : Int))) (.string ⟨#[]⟩)) (fun q e => by omega))
  clear hz
  clear hk1
  go_wp2_with fail
  refine bodyPost_ret (v := .agg #[.int .i64 1, .int .i64 ((ax.length : Int)), .string ⟨#[]⟩]) (by simp [results, go_sem, o0, o1, o2]) rfl ?_
  exact ⟨rfl, unhide HD⟩
end Go.Proofs.YtiinohibmcefkaaGreatDoor
