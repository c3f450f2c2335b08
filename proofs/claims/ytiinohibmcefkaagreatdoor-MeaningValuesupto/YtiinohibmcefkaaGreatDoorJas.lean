import Derived.Test.YtiinohibmcefkaaGreatDoorVf1
namespace Go.Proofs.YtiinohibmcefkaaGreatDoor
open Go.RowKit Go.Maps

set_option maxRecDepth 100000 in
theorem f93_v : TwoF (.func (.func 124) #[] #[]) (fun a b => truV (decide (ordV a b < 0))) := by
  refine ⟨124, rfl, enters_of Tryz.func124 (by kernel_rfl) rfl, fun a b _ _ => tru_short _, fun W a b ha hb => ?_⟩
  obtain ⟨ak, an, ax⟩ := a
  obtain ⟨bk, bn, bx⟩ := b
  obtain ⟨q, hq⟩ : ∃ q : Int, q = if decide (ordV ⟨ak, an, ax⟩ ⟨bk, bn, bx⟩ < 0) then 1 else 0 := ⟨_, rfl⟩
  have HQ := hide hq
  obtain ⟨X, hX, P⟩ := pro2_of W ak an ax bk bn bx
  have hR : ((truV (decide (ordV ⟨ak, an, ax⟩ ⟨bk, bn, bx⟩ < 0))) : ValA).v = .agg #[.int .i64 2, .int .i64 q, .string ⟨#[]⟩] := by subst hq; rfl
  show Calls _ _ _ _ (fun e W' => e = .returned ((truV (decide (ordV ⟨ak, an, ax⟩ ⟨bk, bn, bx⟩ < 0))) : ValA).v ∧ _)
  rw [hR]
  simp only [ValA.v]
  clear hR hq
  have a0 : X.cell? ⟨W.heap.size, 0, none⟩ = some (.int .i64 ak) := (cell_of_blk P.a 0).trans rfl
  have a1 : X.cell? ⟨W.heap.size, 1, none⟩ = some (.int .i64 an) := (cell_of_blk P.a 1).trans rfl
  have a2 : X.cell? ⟨W.heap.size, 2, none⟩ = some (str ax) := (cell_of_blk P.a 2).trans rfl
  have b0 : X.cell? ⟨W.heap.size + 1, 0, none⟩ = some (.int .i64 bk) := (cell_of_blk P.b 0).trans rfl
  have b1 : X.cell? ⟨W.heap.size + 1, 1, none⟩ = some (.int .i64 bn) := (cell_of_blk P.b 1).trans rfl
  have b2 : X.cell? ⟨W.heap.size + 1, 2, none⟩ = some (str bx) := (cell_of_blk P.b 2).trans rfl
  have HP := hide P
  have HKA := hide (Keeps.refl (fun _ => False) X)
  clear P
  have HO := hide (order_v ⟨ak, an, ax⟩ ⟨bk, bn, bx⟩ X)
  simp only [ValA.v] at HO
  generalize ordV ⟨ak, an, ax⟩ ⟨bk, bn, bx⟩ = R at *
  go_enter Tryz.func124, Tryz.ntmps124
  go_wp2_with fail
  refine (unhide HO).mono ?_
  rintro e w0 ⟨rfl, hk0⟩
  have HKA := hide hk0
  go_wp2_with fail
  refine (truth_w _ q (unhide HQ) _).mono ?_
  rintro e w1 ⟨rfl, hk1⟩
  have HK1 := hide ((unhide HKA).trans hk1)
  have hz := ((unhide HK1).block _ (lt_of_block (unhide HP).res) id).trans (unhide HP).res
  have m0 := cell_of_blk hz 0
  have m1 := cell_of_blk hz 1
  have m2 := cell_of_blk hz 2
  simp at m0 m1 m2
  have g0 := frozen_of_blk hz 0
  have g1 := frozen_of_blk hz 1
  have g2 := frozen_of_blk hz 2
  obtain ⟨o0, o1, o2⟩ := set3v hz (.int .i64 2) (.int .i64 q) (.string ⟨#[]⟩)
  have HD := hide (((unhide HP).kept.trans (unhide HK1)).narrow (keeps_set3 _ (W.heap.size + 1 + 1) (.int .i64 2) (.int .i64 q) (.string ⟨#[]⟩)) (fun q e => by omega))
  clear hz
  clear hk1
  go_wp2_with fail
  refine bodyPost_ret (v := .agg #[.int .i64 2, .int .i64 q, .string ⟨#[]⟩]) (by simp [results, go_sem, o0, o1, o2]) rfl ?_
  exact ⟨rfl, unhide HD⟩
set_option maxRecDepth 100000 in
theorem f95_v : TwoF (.func (.func 126) #[] #[]) (fun a b => truV (decide (ordV a b ≤ 0))) := by
  refine ⟨126, rfl, enters_of Tryz.func126 (by kernel_rfl) rfl, fun a b _ _ => tru_short _, fun W a b ha hb => ?_⟩
  obtain ⟨ak, an, ax⟩ := a
  obtain ⟨bk, bn, bx⟩ := b
  obtain ⟨q, hq⟩ : ∃ q : Int, q = if decide (ordV ⟨ak, an, ax⟩ ⟨bk, bn, bx⟩ ≤ 0) then 1 else 0 := ⟨_, rfl⟩
  have HQ := hide hq
  obtain ⟨X, hX, P⟩ := pro2_of W ak an ax bk bn bx
  have hR : ((truV (decide (ordV ⟨ak, an, ax⟩ ⟨bk, bn, bx⟩ ≤ 0))) : ValA).v = .agg #[.int .i64 2, .int .i64 q, .string ⟨#[]⟩] := by subst hq; rfl
  show Calls _ _ _ _ (fun e W' => e = .returned ((truV (decide (ordV ⟨ak, an, ax⟩ ⟨bk, bn, bx⟩ ≤ 0))) : ValA).v ∧ _)
  rw [hR]
  simp only [ValA.v]
  clear hR hq
  have a0 : X.cell? ⟨W.heap.size, 0, none⟩ = some (.int .i64 ak) := (cell_of_blk P.a 0).trans rfl
  have a1 : X.cell? ⟨W.heap.size, 1, none⟩ = some (.int .i64 an) := (cell_of_blk P.a 1).trans rfl
  have a2 : X.cell? ⟨W.heap.size, 2, none⟩ = some (str ax) := (cell_of_blk P.a 2).trans rfl
  have b0 : X.cell? ⟨W.heap.size + 1, 0, none⟩ = some (.int .i64 bk) := (cell_of_blk P.b 0).trans rfl
  have b1 : X.cell? ⟨W.heap.size + 1, 1, none⟩ = some (.int .i64 bn) := (cell_of_blk P.b 1).trans rfl
  have b2 : X.cell? ⟨W.heap.size + 1, 2, none⟩ = some (str bx) := (cell_of_blk P.b 2).trans rfl
  have HP := hide P
  have HKA := hide (Keeps.refl (fun _ => False) X)
  clear P
  have HO := hide (order_v ⟨ak, an, ax⟩ ⟨bk, bn, bx⟩ X)
  simp only [ValA.v] at HO
  generalize ordV ⟨ak, an, ax⟩ ⟨bk, bn, bx⟩ = R at *
  go_enter Tryz.func126, Tryz.ntmps126
  go_wp2_with fail
  refine (unhide HO).mono ?_
  rintro e w0 ⟨rfl, hk0⟩
  have HKA := hide hk0
  go_wp2_with fail
  refine (truth_w _ q (unhide HQ) _).mono ?_
  rintro e w1 ⟨rfl, hk1⟩
  have HK1 := hide ((unhide HKA).trans hk1)
  have hz := ((unhide HK1).block _ (lt_of_block (unhide HP).res) id).trans (unhide HP).res
  have m0 := cell_of_blk hz 0
  have m1 := cell_of_blk hz 1
  have m2 := cell_of_blk hz 2
  simp at m0 m1 m2
  have g0 := frozen_of_blk hz 0
  have g1 := frozen_of_blk hz 1
  have g2 := frozen_of_blk hz 2
  obtain ⟨o0, o1, o2⟩ := set3v hz (.int .i64 2) (.int .i64 q) (.string ⟨#[]⟩)
  have HD := hide (((unhide HP).kept.trans (unhide HK1)).narrow (keeps_set3 _ (W.heap.size + 1 + 1) (.int .i64 2) (.int .i64 q) (.string ⟨#[]⟩)) (fun q e => by omega))
  clear hz
  clear hk1
  go_wp2_with fail
  refine bodyPost_ret (v := .agg #[.int .i64 2, .int .i64 q, .string ⟨#[]⟩]) (by simp [results, go_sem, o0, o1, o2]) rfl ?_
  exact ⟨rfl, unhide HD⟩
set_option maxRecDepth 100000 in
theorem f96_v : TwoF (.func (.func 127) #[] #[]) (fun a b => truV (decide (0 < ordV a b))) := by
  refine ⟨127, rfl, enters_of Tryz.func127 (by kernel_rfl) rfl, fun a b _ _ => tru_short _, fun W a b ha hb => ?_⟩
  obtain ⟨ak, an, ax⟩ := a
  obtain ⟨bk, bn, bx⟩ := b
  obtain ⟨q, hq⟩ : ∃ q : Int, q = if decide (0 < ordV ⟨ak, an, ax⟩ ⟨bk, bn, bx⟩) then 1 else 0 := ⟨_, rfl⟩
  have HQ := hide hq
  obtain ⟨X, hX, P⟩ := pro2_of W ak an ax bk bn bx
  have hR : ((truV (decide (0 < ordV ⟨ak, an, ax⟩ ⟨bk, bn, bx⟩))) : ValA).v = .agg #[.int .i64 2, .int .i64 q, .string ⟨#[]⟩] := by subst hq; rfl
  show Calls _ _ _ _ (fun e W' => e = .returned ((truV (decide (0 < ordV ⟨ak, an, ax⟩ ⟨bk, bn, bx⟩))) : ValA).v ∧ _)
  rw [hR]
  simp only [ValA.v]
  clear hR hq
  have a0 : X.cell? ⟨W.heap.size, 0, none⟩ = some (.int .i64 ak) := (cell_of_blk P.a 0).trans rfl
  have a1 : X.cell? ⟨W.heap.size, 1, none⟩ = some (.int .i64 an) := (cell_of_blk P.a 1).trans rfl
  have a2 : X.cell? ⟨W.heap.size, 2, none⟩ = some (str ax) := (cell_of_blk P.a 2).trans rfl
  have b0 : X.cell? ⟨W.heap.size + 1, 0, none⟩ = some (.int .i64 bk) := (cell_of_blk P.b 0).trans rfl
  have b1 : X.cell? ⟨W.heap.size + 1, 1, none⟩ = some (.int .i64 bn) := (cell_of_blk P.b 1).trans rfl
  have b2 : X.cell? ⟨W.heap.size + 1, 2, none⟩ = some (str bx) := (cell_of_blk P.b 2).trans rfl
  have HP := hide P
  have HKA := hide (Keeps.refl (fun _ => False) X)
  clear P
  have HO := hide (order_v ⟨ak, an, ax⟩ ⟨bk, bn, bx⟩ X)
  simp only [ValA.v] at HO
  generalize ordV ⟨ak, an, ax⟩ ⟨bk, bn, bx⟩ = R at *
  go_enter Tryz.func127, Tryz.ntmps127
  go_wp2_with fail
  refine (unhide HO).mono ?_
  rintro e w0 ⟨rfl, hk0⟩
  have HKA := hide hk0
  go_wp2_with fail
  refine (truth_w _ q (unhide HQ) _).mono ?_
  rintro e w1 ⟨rfl, hk1⟩
  have HK1 := hide ((unhide HKA).trans hk1)
  have hz := ((unhide HK1).block _ (lt_of_block (unhide HP).res) id).trans (unhide HP).res
  have m0 := cell_of_blk hz 0
  have m1 := cell_of_blk hz 1
  have m2 := cell_of_blk hz 2
  simp at m0 m1 m2
  have g0 := frozen_of_blk hz 0
  have g1 := frozen_of_blk hz 1
  have g2 := frozen_of_blk hz 2
  obtain ⟨o0, o1, o2⟩ := set3v hz (.int .i64 2) (.int .i64 q) (.string ⟨#[]⟩)
  have HD := hide (((unhide HP).kept.trans (unhide HK1)).narrow (keeps_set3 _ (W.heap.size + 1 + 1) (.int .i64 2) (.int .i64 q) (.string ⟨#[]⟩)) (fun q e => by omega))
  clear hz
  clear hk1
  go_wp2_with fail
  refine bodyPost_ret (v := .agg #[.int .i64 2, .int .i64 q, .string ⟨#[]⟩]) (by simp [results, go_sem, o0, o1, o2]) rfl ?_
  exact ⟨rfl, unhide HD⟩
set_option maxRecDepth 100000 in
theorem f97_v : TwoF (.func (.func 128) #[] #[]) (fun a b => truV (decide (0 ≤ ordV a b))) := by
  refine ⟨128, rfl, enters_of Tryz.func128 (by kernel_rfl) rfl, fun a b _ _ => tru_short _, fun W a b ha hb => ?_⟩
  obtain ⟨ak, an, ax⟩ := a
  obtain ⟨bk, bn, bx⟩ := b
  obtain ⟨q, hq⟩ : ∃ q : Int, q = if decide (0 ≤ ordV ⟨ak, an, ax⟩ ⟨bk, bn, bx⟩) then 1 else 0 := ⟨_, rfl⟩
  have HQ := hide hq
  obtain ⟨X, hX, P⟩ := pro2_of W ak an ax bk bn bx
  have hR : ((truV (decide (0 ≤ ordV ⟨ak, an, ax⟩ ⟨bk, bn, bx⟩))) : ValA).v = .agg #[.int .i64 2, .int .i64 q, .string ⟨#[]⟩] := by subst hq; rfl
  show Calls _ _ _ _ (fun e W' => e = .returned ((truV (decide (0 ≤ ordV ⟨ak, an, ax⟩ ⟨bk, bn, bx⟩))) : ValA).v ∧ _)
  rw [hR]
  simp only [ValA.v]
  clear hR hq
  have a0 : X.cell? ⟨W.heap.size, 0, none⟩ = some (.int .i64 ak) := (cell_of_blk P.a 0).trans rfl
  have a1 : X.cell? ⟨W.heap.size, 1, none⟩ = some (.int .i64 an) := (cell_of_blk P.a 1).trans rfl
  have a2 : X.cell? ⟨W.heap.size, 2, none⟩ = some (str ax) := (cell_of_blk P.a 2).trans rfl
  have b0 : X.cell? ⟨W.heap.size + 1, 0, none⟩ = some (.int .i64 bk) := (cell_of_blk P.b 0).trans rfl
  have b1 : X.cell? ⟨W.heap.size + 1, 1, none⟩ = some (.int .i64 bn) := (cell_of_blk P.b 1).trans rfl
  have b2 : X.cell? ⟨W.heap.size + 1, 2, none⟩ = some (str bx) := (cell_of_blk P.b 2).trans rfl
  have HP := hide P
  have HKA := hide (Keeps.refl (fun _ => False) X)
  clear P
  have HO := hide (order_v ⟨ak, an, ax⟩ ⟨bk, bn, bx⟩ X)
  simp only [ValA.v] at HO
  generalize ordV ⟨ak, an, ax⟩ ⟨bk, bn, bx⟩ = R at *
  go_enter Tryz.func128, Tryz.ntmps128
  go_wp2_with fail
  refine (unhide HO).mono ?_
  rintro e w0 ⟨rfl, hk0⟩
  have HKA := hide hk0
  go_wp2_with fail
  refine (truth_w _ q (unhide HQ) _).mono ?_
  rintro e w1 ⟨rfl, hk1⟩
  have HK1 := hide ((unhide HKA).trans hk1)
  have hz := ((unhide HK1).block _ (lt_of_block (unhide HP).res) id).trans (unhide HP).res
  have m0 := cell_of_blk hz 0
  have m1 := cell_of_blk hz 1
  have m2 := cell_of_blk hz 2
  simp at m0 m1 m2
  have g0 := frozen_of_blk hz 0
  have g1 := frozen_of_blk hz 1
  have g2 := frozen_of_blk hz 2
  obtain ⟨o0, o1, o2⟩ := set3v hz (.int .i64 2) (.int .i64 q) (.string ⟨#[]⟩)
  have HD := hide (((unhide HP).kept.trans (unhide HK1)).narrow (keeps_set3 _ (W.heap.size + 1 + 1) (.int .i64 2) (.int .i64 q) (.string ⟨#[]⟩)) (fun q e => by omega))
  clear hz
  clear hk1
  go_wp2_with fail
  refine bodyPost_ret (v := .agg #[.int .i64 2, .int .i64 q, .string ⟨#[]⟩]) (by simp [results, go_sem, o0, o1, o2]) rfl ?_
  exact ⟨rfl, unhide HD⟩
end Go.Proofs.YtiinohibmcefkaaGreatDoor
namespace Go.Proofs.YtiinohibmcefkaaGreatDoor
open Go.RowKit Go.Maps

set_option maxRecDepth 100000 in
theorem f98_v : TwoF (.func (.func 129) #[] #[]) (fun a b => truV (decide (a = b))) := by
  refine ⟨129, rfl, enters_of Tryz.func129 (by kernel_rfl) rfl, fun a b _ _ => tru_short _, fun W a b ha hb => ?_⟩
  obtain ⟨ak, an, ax⟩ := a
  obtain ⟨bk, bn, bx⟩ := b
  obtain ⟨q, hq⟩ : ∃ q : Int, q = if decide ((⟨ak, an, ax⟩ : ValA) = ⟨bk, bn, bx⟩) then 1 else 0 := ⟨_, rfl⟩
  have HQ := hide hq
  obtain ⟨X, hX, P⟩ := pro2_of W ak an ax bk bn bx
  have hR : ((truV (decide ((⟨ak, an, ax⟩ : ValA) = ⟨bk, bn, bx⟩))) : ValA).v = .agg #[.int .i64 2, .int .i64 q, .string ⟨#[]⟩] := by subst hq; rfl
  show Calls _ _ _ _ (fun e W' => e = .returned ((truV (decide ((⟨ak, an, ax⟩ : ValA) = ⟨bk, bn, bx⟩))) : ValA).v ∧ _)
  rw [hR]
  simp only [ValA.v]
  clear hR hq
  have a0 : X.cell? ⟨W.heap.size, 0, none⟩ = some (.int .i64 ak) := (cell_of_blk P.a 0).trans rfl
  have a1 : X.cell? ⟨W.heap.size, 1, none⟩ = some (.int .i64 an) := (cell_of_blk P.a 1).trans rfl
  have a2 : X.cell? ⟨W.heap.size, 2, none⟩ = some (str ax) := (cell_of_blk P.a 2).trans rfl
  have b0 : X.cell? ⟨W.heap.size + 1, 0, none⟩ = some (.int .i64 bk) := (cell_of_blk P.b 0).trans rfl
  have b1 : X.cell? ⟨W.heap.size + 1, 1, none⟩ = some (.int .i64 bn) := (cell_of_blk P.b 1).trans rfl
  have b2 : X.cell? ⟨W.heap.size + 1, 2, none⟩ = some (str bx) := (cell_of_blk P.b 2).trans rfl
  have HP := hide P
  have HKA := hide (Keeps.refl (fun _ => False) X)
  clear P
  go_enter Tryz.func129, Tryz.ntmps129
  go_wp2_with fail
  all_goals
    first
      | refine (truth_w true q (by have h9 := unhide HQ; simp_all) _).mono ?_
      | refine (truth_w false q (by have h9 := unhide HQ; simp_all) _).mono ?_
    rintro e w1 ⟨rfl, hk1⟩
    have HK1 := hide ((unhide HKA).trans hk1)
    have hz := ((unhide HK1).block _ (lt_of_block (unhide HP).res) id).trans (unhide HP).res
    have m0 := cell_of_blk hz 0
    have m1 := cell_of_blk hz 1
    have m2 := cell_of_blk hz 2
    simp at m0 m1 m2
    have g0 := frozen_of_blk hz 0
    have g1 := frozen_of_blk hz 1
    have g2 := frozen_of_blk hz 2
    obtain ⟨o0, o1, o2⟩ := set3v hz (.int .i64 2) (.int .i64 q) (.string ⟨#[]⟩)
    have HD := hide (((unhide HP).kept.trans (unhide HK1)).narrow (keeps_set3 _ (W.heap.size + 1 + 1) (.int .i64 2) (.int .i64 q) (.string ⟨#[]⟩)) (fun q e => by omega))
    clear hz
    clear hk1
    go_wp2_with fail
    refine bodyPost_ret (v := .agg #[.int .i64 2, .int .i64 q, .string ⟨#[]⟩]) (by simp [results, go_sem, o0, o1, o2]) rfl ?_
    exact ⟨rfl, unhide HD⟩
set_option maxRecDepth 100000 in
theorem f99_v : TwoF (.func (.func 130) #[] #[]) (fun a b => truV (!decide (a = b))) := by
  refine ⟨130, rfl, enters_of Tryz.func130 (by kernel_rfl) rfl, fun a b _ _ => tru_short _, fun W a b ha hb => ?_⟩
  obtain ⟨ak, an, ax⟩ := a
  obtain ⟨bk, bn, bx⟩ := b
  obtain ⟨q, hq⟩ : ∃ q : Int, q = if (!decide ((⟨ak, an, ax⟩ : ValA) = ⟨bk, bn, bx⟩)) then 1 else 0 := ⟨_, rfl⟩
  have HQ := hide hq
  obtain ⟨X, hX, P⟩ := pro2_of W ak an ax bk bn bx
  have hR : ((truV (!decide ((⟨ak, an, ax⟩ : ValA) = ⟨bk, bn, bx⟩))) : ValA).v = .agg #[.int .i64 2, .int .i64 q, .string ⟨#[]⟩] := by subst hq; rfl
  show Calls _ _ _ _ (fun e W' => e = .returned ((truV (!decide ((⟨ak, an, ax⟩ : ValA) = ⟨bk, bn, bx⟩))) : ValA).v ∧ _)
  rw [hR]
  simp only [ValA.v]
  clear hR hq
  have a0 : X.cell? ⟨W.heap.size, 0, none⟩ = some (.int .i64 ak) := (cell_of_blk P.a 0).trans rfl
  have a1 : X.cell? ⟨W.heap.size, 1, none⟩ = some (.int .i64 an) := (cell_of_blk P.a 1).trans rfl
  have a2 : X.cell? ⟨W.heap.size, 2, none⟩ = some (str ax) := (cell_of_blk P.a 2).trans rfl
  have b0 : X.cell? ⟨W.heap.size + 1, 0, none⟩ = some (.int .i64 bk) := (cell_of_blk P.b 0).trans rfl
  have b1 : X.cell? ⟨W.heap.size + 1, 1, none⟩ = some (.int .i64 bn) := (cell_of_blk P.b 1).trans rfl
  have b2 : X.cell? ⟨W.heap.size + 1, 2, none⟩ = some (str bx) := (cell_of_blk P.b 2).trans rfl
  have HP := hide P
  have HKA := hide (Keeps.refl (fun _ => False) X)
  clear P
  go_enter Tryz.func130, Tryz.ntmps130
  go_wp2_with fail
  all_goals
    first
      | refine (truth_w true q (by have h9 := unhide HQ; simp_all) _).mono ?_
      | refine (truth_w false q (by have h9 := unhide HQ; simp_all) _).mono ?_
    rintro e w1 ⟨rfl, hk1⟩
    have HK1 := hide ((unhide HKA).trans hk1)
    have hz := ((unhide HK1).block _ (lt_of_block (unhide HP).res) id).trans (unhide HP).res
    have m0 := cell_of_blk hz 0
    have m1 := cell_of_blk hz 1
    have m2 := cell_of_blk hz 2
    simp at m0 m1 m2
    have g0 := frozen_of_blk hz 0
    have g1 := frozen_of_blk hz 1
    have g2 := frozen_of_blk hz 2
    obtain ⟨o0, o1, o2⟩ := set3v hz (.int .i64 2) (.int .i64 q) (.string ⟨#[]⟩)
    have HD := hide (((unhide HP).kept.trans (unhide HK1)).narrow (keeps_set3 _ (W.heap.size + 1 + 1) (.int .i64 2) (.int .i64 q) (.string ⟨#[]⟩)) (fun q e => by omega))
    clear hz
    clear hk1
    go_wp2_with fail
    refine bodyPost_ret (v := .agg #[.int .i64 2, .int .i64 q, .string ⟨#[]⟩]) (by simp [results, go_sem, o0, o1, o2]) rfl ?_
    exact ⟨rfl, unhide HD⟩
end Go.Proofs.YtiinohibmcefkaaGreatDoor
