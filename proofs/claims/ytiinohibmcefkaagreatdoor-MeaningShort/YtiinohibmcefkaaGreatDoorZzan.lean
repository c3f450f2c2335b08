import Derived.Test.YtiinohibmcefkaaGreatDoorZzav
namespace Go.Proofs.YtiinohibmcefkaaGreatDoor
open Go.RowKit Go.Maps

set_option maxRecDepth 100000 in
theorem f93_v : TwoF (.func (.func 124) #[] #[]) (fun a b => truV (decide (ordV a b < 0))) := by
  refine ⟨124, rfl, enters_of Tryz.func124 (by kernel_rfl) rfl, fun a b _ _ => tru_short _, fun W a b ha hb => ?_⟩
  obtain ⟨ak, an, ax⟩ := a
  obtain ⟨bk, bn, bx⟩ := b
  obtain ⟨q, hq⟩ : ∃ q : Int, q = if decide (ordV ⟨ak, an, ax⟩ ⟨bk, bn, bx⟩ < 0) then 1 else 0 := ⟨_, rfl⟩
  have HQ := hide hq
  obtain ⟨X, hX, P⟩ := pro2_of W ak an ax bk bn bx
  have hR : ((truV (decide (ordV ⟨ak, an, ax⟩ ⟨bk, bn, bx⟩ < 0))) : ValA).v = .agg #[.int .i64 2, .int .i64 q, .string ⟨#[]⟩] := by subst hq; rfl
  show Calls _ _ _ _ (fun e W' => e = .returned ((truV (decide (ordV ⟨ak, an, ax⟩ ⟨bk, bn, bx⟩ < 0))) : ValA).v ∧ _)
  rw [hR]
  simp only [ValA.v]
  clear hR hq
  have a0 : X.cell? ⟨W.heap.size, 0, none⟩ = some (.int .i64 ak) := (cell_of_blk P.a 0).trans rfl
  have a1 : X.cell? ⟨W.heap.size, 1, none⟩ = some (.int .i64 an) := (cell_of_blk P.a 1).trans rfl
  have a2 : X.cell? ⟨W.heap.size, 2, none⟩ = some (str ax) := (cell_of_blk P.a 2).trans rfl
  have b0 : X.cell? ⟨W.heap.size + 1, 0, none⟩ = some (.int .i64 bk) := (cell_of_blk P.b 0).trans rfl
  have b1 : X.cell? ⟨W.heap.size + 1, 1, none⟩ = some (.int .i64 bn) := (cell_of_blk P.b 1).trans rfl
  have b2 : X.cell? ⟨W.heap.size + 1, 2, none⟩ = some (str bx) := (cell_of_blk P.b 2).trans rfl
  have HP := hide P
  have HKA := hide (Keeps.refl (fun _ => False) X)
  clear P
  have HO := hide (order_v ⟨ak, an, ax⟩ ⟨bk, bn, bx⟩ X)
  simp only [ValA.v] at HO
  generalize ordV ⟨ak, an, ax⟩ ⟨bk, bn, bx⟩ = R at *
  go_enter Tryz.func124, Tryz.ntmps124
  go_wp2_with fail
  refine (unhide HO).mono ?_
  rintro e w0 ⟨rfl, hk0⟩
  have HKA := hide hk0
  go_wp2_with fail
  refine (truth_w _ q (unhide HQ) _).mono ?_
  rintro e w1 ⟨rfl, hk1⟩
  have HK1 := hide ((unhide HKA).trans hk1)
  have hz := ((unhide HK1).block _ (lt_of_block (unhide HP).res) id).trans (unhide HP).res
  have m0 := cell_of_blk hz 0
  have m1 := cell_of_blk hz 1
  have m2 := cell_of_blk hz 2
  simp at m0 m1 m2
  have g0 := frozen_of_blk hz 0
  have g1 := frozen_of_blk hz 1
  have g2 := frozen_of_blk hz 2
  obtain ⟨o0, o1, o2⟩ := set3v hz (.int .i64 2) (.int .i64 q) (.string ⟨#[]⟩)
  have HD := hide (((unhide HP).kept.trans (unhide HK1)).narrow (keeps_set3 _ (W.heap.size + 1 + 1) (.int .i64 2) (.int .i64 q) (.string ⟨#[]⟩)) (fun q e => by omega))
  clear hz
  clear hk1
  go_wp2_with fail
  refine bodyPost_ret (v := .agg #[.int .i64 2, .int .i64 q, .string ⟨#[]⟩]) (by simp [results, go_sem, o0, o1, o2]) rfl ?_
  exact ⟨rfl, unhide HD⟩
set_option maxRecDepth 100000 in
theorem f95_v : TwoF (.func (.func 126) #[] #[]) (fun a b => truV (decide (ordV a b ≤ 0))) := by
  refine ⟨126, rfl, enters_of Tryz.func126 (by kernel_rfl) rfl, fun a b _ _ => tru_short _, fun W a b ha hb => ?_⟩
  obtain ⟨ak, an, ax⟩ := a
  obtain ⟨bk, bn, bx⟩ := b
  obtain ⟨q, hq⟩ : ∃ q : Int, q = if decide (ordV ⟨ak, an, ax⟩ ⟨bk, bn, bx⟩ ≤ 0) then 1 else 0 := ⟨_, rfl⟩
  have HQ := hide hq
  obtain ⟨X, hX, P⟩ := pro2_of W ak an ax bk bn bx
  have hR : ((truV (decide (ordV ⟨ak, an, ax⟩ ⟨bk, bn, bx⟩ ≤ 0))) : ValA).v = .agg #[.int .i64 2, .int .i64 q, .string ⟨#[]⟩] := by subst hq; rfl
  show Calls _ _ _ _ (fun e W' => e = .returned ((truV (decide (ordV ⟨ak, an, ax⟩ ⟨bk, bn, bx⟩ ≤ 0))) : ValA).v ∧ _)
  rw [hR]
  simp only [ValA.v]
  clear hR hq
  have a0 : X.cell? ⟨W.heap.size, 0, none⟩ = some (.int .i64 ak) := (cell_of_blk P.a 0).trans rfl
  have a1 : X.cell? ⟨W.heap.size, 1, none⟩ = some (.int .i64 an) := (cell_of_blk P.a 1).trans rfl
  have a2 : X.cell? ⟨W.heap.size, 2, none⟩ = some (str ax) := (cell_of_blk P.a 2).trans rfl
  have b0 : X.cell? ⟨W.heap.size + 1, 0, none⟩ = some (.int .i64 bk) := (cell_of_blk P.b 0).trans rfl
  have b1 : X.cell? ⟨W.heap.size + 1, 1, none⟩ = some (.int .i64 bn) := (cell_of_blk P.b 1).trans rfl
  have b2 : X.cell? ⟨W.heap.size + 1, 2, none⟩ = some (str bx) := (cell_of_blk P.b 2).trans rfl
  have HP := hide P
  have HKA := hide (Keeps.refl (fun _ => False) X)
  clear P
  have HO := hide (order_v ⟨ak, an, ax⟩ ⟨bk, bn, bx⟩ X)
  simp only [ValA.v] at HO
  generalize ordV ⟨ak, an, ax⟩ ⟨bk, bn, bx⟩ = R at *
  go_enter Tryz.func126, Tryz.ntmps126
  go_wp2_with fail
  refine (unhide HO).mono ?_
  rintro e w0 ⟨rfl, hk0⟩
  have HKA := hide hk0
  go_wp2_with fail
  refine (truth_w _ q (unhide HQ) _).mono ?_
  rintro e w1 ⟨rfl, hk1⟩
  have HK1 := hide ((unhide HKA).trans hk1)
  have hz := ((unhide HK1).block _ (lt_of_block (unhide HP).res) id).trans (unhide HP).res
  have m0 := cell_of_blk hz 0
  have m1 := cell_of_blk hz 1
  have m2 := cell_of_blk hz 2
  simp at m0 m1 m2
  have g0 := frozen_of_blk hz 0
  have g1 := frozen_of_blk hz 1
  have g2 := frozen_of_blk hz 2
  obtain ⟨o0, o1, o2⟩ := set3v hz (.int .i64 2) (.int .i64 q) (.string ⟨#[]⟩)
  have HD := hide (((unhide HP).kept.trans (unhide HK1)).narrow (keeps_set3 _ (W.heap.size + 1 + 1) (.int .i64 2) (.int .i64 q) (.string ⟨#[]⟩)) (fun q e => by omega))
  clear hz
  clear hk1
  go_wp2_with fail
  refine bodyPost_ret (v := .agg #[.int .i64 2, .int .i64 q, .string ⟨#[]⟩]) (by simp [results, go_sem, o0, o1, o2]) rfl ?_
  exact ⟨rfl, unhide HD⟩
set_option maxRecDepth 100000 in
theorem f96_v : TwoF (.func (.func 127) #[] #[]) (fun a b => truV (decide (0 < ordV a b))) := by
  refine ⟨127, rfl, enters_of Tryz.func127 (by kernel_rfl) rfl, fun a b _ _ => tru_short _, fun W a b ha hb => ?_⟩
  obtain ⟨ak, an, ax⟩ := a
  obtain ⟨bk, bn, bx⟩ := b
  obtain ⟨q, hq⟩ : ∃ q : Int, q = if decide (0 < ordV ⟨ak, an, ax⟩ ⟨bk, bn, bx⟩) then 1 else 0 := ⟨_, rfl⟩
  have HQ := hide hq
  obtain ⟨X, hX, P⟩ := pro2_of W ak an ax bk bn bx
  have hR : ((truV (decide (0 < ordV ⟨ak, an, ax⟩ ⟨bk, bn, bx⟩))) : ValA).v = .agg #[.int .i64 2, .int .i64 q, .string ⟨#[]⟩] := by subst hq; rfl
  show Calls _ _ _ _ (fun e W' => e = .returned ((truV (decide (0 < ordV ⟨ak, an, ax⟩ ⟨bk, bn, bx⟩))) : ValA).v ∧ _)
  rw [hR]
  simp only [ValA.v]
  clear hR hq
  have a0 : X.cell? ⟨W.heap.size, 0, none⟩ = some (.int .i64 ak) := (cell_of_blk P.a 0).trans rfl
  have a1 : X.cell? ⟨W.heap.size, 1, none⟩ = some (.int .i64 an) := (cell_of_blk P.a 1).trans rfl
  have a2 : X.cell? ⟨W.heap.size, 2, none⟩ = some (str ax) := (cell_of_blk P.a 2).trans rfl
  have b0 : X.cell? ⟨W.heap.size + 1, 0, none⟩ = some (.int .i64 bk) := (cell_of_blk P.b 0).trans rfl
  have b1 : X.cell? ⟨W.heap.size + 1, 1, none⟩ = some (.int .i64 bn) := (cell_of_blk P.b 1).trans rfl
  have b2 : X.cell? ⟨W.heap.size + 1, 2, none⟩ = some (str bx) := (cell_of_blk P.b 2).trans rfl
  have HP := hide P
  have HKA := hide (Keeps.refl (fun _ => False) X)
  clear P
  have HO := hide (order_v ⟨ak, an, ax⟩ ⟨bk, bn, bx⟩ X)
  simp only [ValA.v] at HO
  generalize ordV ⟨ak, an, ax⟩ ⟨bk, bn, bx⟩ = R at *
  go_enter Tryz.func127, Tryz.ntmps127
  go_wp2_with fail
  refine (unhide HO).mono ?_
  rintro e w0 ⟨rfl, hk0⟩
  have HKA := hide hk0
  go_wp2_with fail
  refine (truth_w _ q (unhide HQ) _).mono ?_
  rintro e w1 ⟨rfl, hk1⟩
  have HK1 := hide ((unhide HKA).trans hk1)
  have hz := ((unhide HK1).block _ (lt_of_block (unhide HP).res) id).trans (unhide HP).res
  have m0 := cell_of_blk hz 0
  have m1 := cell_of_blk hz 1
  have m2 := cell_of_blk hz 2
  simp at m0 m1 m2
  have g0 := frozen_of_blk hz 0
  have g1 := frozen_of_blk hz 1
  have g2 := frozen_of_blk hz 2
  obtain ⟨o0, o1, o2⟩ := set3v hz (.int .i64 2) (.int .i64 q) (.string ⟨#[]⟩)
  have HD := hide (((unhide HP).kept.trans (unhide HK1)).narrow (keeps_set3 _ (W.heap.size + 1 + 1) (.int .i64 2) (.int .i64 q) (.string ⟨#[]⟩)) (fun q e => by omega))
  clear hz
  clear hk1
  go_wp2_with fail
  refine bodyPost_ret (v := .agg #[.int .i64 2, .int .i64 q, .string ⟨#[]⟩]) (by simp [results, go_sem, o0, o1, o2]) rfl ?_
  exact ⟨rfl, unhide HD⟩
set_option maxRecDepth 100000 in
theorem f97_v : TwoF (.func (.func 128) #[] #[]) (fun a b => truV (decide (0 ≤ ordV a b))) := by
  refine ⟨128, rfl, enters_of Tryz.func128 (by kernel_rfl) rfl, fun a b _ _ => tru_short _, fun W a b ha hb => ?_⟩
  obtain ⟨ak, an, ax⟩ := a
  obtain ⟨bk, bn, bx⟩ := b
  obtain ⟨q, hq⟩ : ∃ q : Int, q = if decide (0 ≤ ordV ⟨ak, an, ax⟩ ⟨bk, bn, bx⟩) then 1 else 0 := ⟨_, rfl⟩
  have HQ := hide hq
  obtain ⟨X, hX, P⟩ := pro2_of W ak an ax bk bn bx
  have hR : ((truV (decide (0 ≤ ordV ⟨ak, an, ax⟩ ⟨bk, bn, bx⟩))) : ValA).v = .agg #[.int .i64 2, .int .i64 q, .string ⟨#[]⟩] := by subst hq; rfl
  show Calls _ _ _ _ (fun e W' => e = .returned ((truV (decide (0 ≤ ordV ⟨ak, an, ax⟩ ⟨bk, bn, bx⟩))) : ValA).v ∧ _)
  rw [hR]
  simp only [ValA.v]
  clear hR hq
  have a0 : X.cell? ⟨W.heap.size, 0, none⟩ = some (.int .i64 ak) := (cell_of_blk P.a 0).trans rfl
  have a1 : X.cell? ⟨W.heap.size, 1, none⟩ = some (.int .i64 an) := (cell_of_blk P.a 1).trans rfl
  have a2 : X.cell? ⟨W.heap.size, 2, none⟩ = some (str ax) := (cell_of_blk P.a 2).trans rfl
  have b0 : X.cell? ⟨W.heap.size + 1, 0, none⟩ = some (.int .i64 bk) := (cell_of_blk P.b 0).trans rfl
  have b1 : X.cell? ⟨W.heap.size + 1, 1, none⟩ = some (.int .i64 bn) := (cell_of_blk P.b 1).trans rfl
  have b2 : X.cell? ⟨W.heap.size + 1, 2, none⟩ = some (str bx) := (cell_of_blk P.b 2).trans rfl
  have HP := hide P
  have HKA := hide (Keeps.refl (fun _ => False) X)
  clear P
  have HO := hide (order_v ⟨ak, an, ax⟩ ⟨bk, bn, bx⟩ X)
  simp only [ValA.v] at HO
  generalize ordV ⟨ak, an, ax⟩ ⟨bk, bn, bx⟩ = R at *
  go_enter Tryz.func128, Tryz.ntmps128
  go_wp2_with fail
  refine (unhide HO).mono ?_
  rintro e w0 ⟨rfl, hk0⟩
  have HKA := hide hk0
  go_wp2_with fail
  refine (truth_w _ q (unhide HQ) _).mono ?_
  rintro e w1 ⟨rfl, hk1⟩
  have HK1 := hide ((unhide HKA).trans hk1)
  have hz := ((unhide HK1).block _ (lt_of_block (unhide HP).res) id).trans (unhide HP).res
  have m0 := cell_of_blk hz 0
  have m1 := cell_of_blk hz 1
  have m2 := cell_of_blk hz 2
  simp at m0 m1 m2
  have g0 := frozen_of_blk hz 0
  have g1 := frozen_of_blk hz 1
  have g2 := frozen_of_blk hz 2
  obtain ⟨o0, o1, o2⟩ := set3v hz (.int .i64 2) (.int .i64 q) (.string ⟨#[]⟩)
  have HD := hide (((unhide HP).kept.trans (unhide HK1)).narrow (keeps_set3 _ (W.heap.size + 1 + 1) (.int .i64 2) (.int .i64 q) (.string ⟨#[]⟩)) (fun q e => by omega))
  clear hz
  clear hk1
  go_wp2_with fail
  refine bodyPost_ret (v := .agg #[.int .i64 2, .int .i64 q, .string ⟨#[]⟩]) (by simp [results, go_sem, o0, o1, o2]) rfl ?_
  exact ⟨rfl, unhide HD⟩
end Go.Proofs.YtiinohibmcefkaaGreatDoor
namespace Go.Proofs.YtiinohibmcefkaaGreatDoor
open Go.RowKit Go.Maps

set_option maxRecDepth 100000 in
theorem f98_v : TwoF (.func (.func 129) #[] #[]) (fun a b => truV (decide (a = b))) := by
  refine ⟨129, rfl, enters_of Tryz.func129 (by kernel_rfl) rfl, fun a b _ _ => tru_short _, fun W a b ha hb => ?_⟩
  obtain ⟨ak, an, ax⟩ := a
  obtain ⟨bk, bn, bx⟩ := b
  obtain ⟨q, hq⟩ : ∃ q : Int, q = if decide ((⟨ak, an, ax⟩ : ValA) = ⟨bk, bn, bx⟩) then 1 else 0 := ⟨_, rfl⟩
  have HQ := hide hq
  obtain ⟨X, hX, P⟩ := pro2_of W ak an ax bk bn bx
  have hR : ((truV (decide ((⟨ak, an, ax⟩ : ValA) = ⟨bk, bn, bx⟩))) : ValA).v = .agg #[.int .i64 2, .int .i64 q, .string ⟨#[]⟩] := by subst hq; rfl
  show Calls _ _ _ _ (fun e W' => e = .returned ((truV (decide ((⟨ak, an, ax⟩ : ValA) = ⟨bk, bn, bx⟩))) : ValA).v ∧ _)
  rw [hR]
  simp only [ValA.v]
  clear hR hq
  have a0 : X.cell? ⟨W.heap.size, 0, none⟩ = some (.int .i64 ak) := (cell_of_blk P.a 0).trans rfl
  have a1 : X.cell? ⟨W.heap.size, 1, none⟩ = some (.int .i64 an) := (cell_of_blk P.a 1).trans rfl
  have a2 : X.cell? ⟨W.heap.size, 2, none⟩ = some (str ax) := (cell_of_blk P.a 2).trans rfl
  have b0 : X.cell? ⟨W.heap.size + 1, 0, none⟩ = some (.int .i64 bk) := (cell_of_blk P.b 0).trans rfl
  have b1 : X.cell? ⟨W.heap.size + 1, 1, none⟩ = some (.int .i64 bn) := (cell_of_blk P.b 1).trans rfl
  have b2 : X.cell? ⟨W.heap.size + 1, 2, none⟩ = some (str bx) := (cell_of_blk P.b 2).trans rfl
  have HP := hide P
  have HKA := hide (Keeps.refl (fun _ => False) X)
  clear P
  go_enter Tryz.func129, Tryz.ntmps129
  go_wp2_with fail
  all_goals
    first
      | refine (truth_w true q (by have h9 := unhide HQ; simp_all) _).mono ?_
      | refine (truth_w false q (by have h9 := unhide HQ; simp_all) _).mono ?_
    rintro e w1 ⟨rfl, hk1⟩
    have HK1 := hide ((unhide HKA).trans hk1)
    have hz := ((unhide HK1).block _ (lt_of_block (unhide HP).res) id).trans (unhide HP).res
    have m0 := cell_of_blk hz 0
    have m1 := cell_of_blk hz 1
    have m2 := cell_of_blk hz 2
    simp at m0 m1 m2
    have g0 := frozen_of_blk hz 0
    have g1 := frozen_of_blk hz 1
    have g2 := frozen_of_blk hz 2
    obtain ⟨o0, o1, o2⟩ := set3v hz (.int .i64 2) (.int .i64 q) (.string ⟨#[]⟩)
    have HD := hide (((unhide HP).kept.trans (unhide HK1)).narrow (keeps_set3 _ (W.heap.size + 1 + 1) (.int .i64 2) (.int .i64 q) (.string ⟨#[]⟩)) (fun q e => by omega))
    clear hz
    clear hk1
    go_wp2_with fail
    refine bodyPost_ret (v := .agg #[.int .i64 2, .int .i64 q, .string ⟨#[]⟩]) (by simp [results, go_sem, o0, o1, o2]) rfl ?_
    exact ⟨rfl, unhide HD⟩
set_option maxRecDepth 100000 in
theorem f99_v : TwoF (.func (.func 130) #[] #[]) (fun a b => truV (!decide (a = b))) := by
  refine ⟨130, rfl, enters_of Tryz.func130 (by kernel_rfl) rfl, fun a b _ _ => tru_short _, fun W a b ha hb => ?_⟩
  obtain ⟨ak, an, ax⟩ := a
  obtain ⟨bk, bn, bx⟩ := b
  obtain ⟨q, hq⟩ : ∃ q : Int, q = if (!decide ((⟨ak, an, ax⟩ : ValA) = ⟨bk, bn, bx⟩)) then 1 else 0 := ⟨_, rfl⟩
  have HQ := hide hq
  obtain ⟨X, hX, P⟩ := pro2_of W ak an ax bk bn bx
  have hR : ((truV (!decide ((⟨ak, an, ax⟩ : ValA) = ⟨bk, bn, bx⟩))) : ValA).v = .agg #[.int .i64 2, .int .i64 q, .string ⟨#[]⟩] := by subst hq; rfl
  show Calls _ _ _ _ (fun e W' => e = .returned ((truV (!decide ((⟨ak, an, ax⟩ : ValA) = ⟨bk, bn, bx⟩))) : ValA).v ∧ _)
  rw [hR]
  simp only [ValA.v]
  clear hR hq
  have a0 : X.cell? ⟨W.heap.size, 0, none⟩ = some (.int .i64 ak) := (cell_of_blk P.a 0).trans rfl
  have a1 : X.cell? ⟨W.heap.size, 1, none⟩ = some (.int .i64 an) := (cell_of_blk P.a 1).trans rfl
  have a2 : X.cell? ⟨W.heap.size, 2, none⟩ = some (str ax) := (cell_of_blk P.a 2).trans rfl
  have b0 : X.cell? ⟨W.heap.size + 1, 0, none⟩ = some (.int .i64 bk) := (cell_of_blk P.b 0).trans rfl
  have b1 : X.cell? ⟨W.heap.size + 1, 1, none⟩ = some (.int .i64 bn) := (cell_of_blk P.b 1).trans rfl
  have b2 : X.cell? ⟨W.heap.size + 1, 2, none⟩ = some (str bx) := (cell_of_blk P.b 2).trans rfl
  have HP := hide P
  have HKA := hide (Keeps.refl (fun _ => False) X)
  clear P
  go_enter Tryz.func130, Tryz.ntmps130
  go_wp2_with fail
  all_goals
    first
      | refine (truth_w true q (by have h9 := unhide HQ; simp_all) _).mono ?_
      | refine (truth_w false q (by have h9 := unhide HQ; simp_all) _).mono ?_
    rintro e w1 ⟨rfl, hk1⟩
    have HK1 := hide ((unhide HKA).trans hk1)
    have hz := ((unhide HK1).block _ (lt_of_block (unhide HP).res) id).trans (unhide HP).res
    have m0 := cell_of_blk hz 0
    have m1 := cell_of_blk hz 1
    have m2 := cell_of_blk hz 2
    simp at m0 m1 m2
    have g0 := frozen_of_blk hz 0
    have g1 := frozen_of_blk hz 1
    have g2 := frozen_of_blk hz 2
    obtain ⟨o0, o1, o2⟩ := set3v hz (.int .i64 2) (.int .i64 q) (.string ⟨#[]⟩)
    have HD := hide (((unhide HP).kept.trans (unhide HK1)).narrow (keeps_set3 _ (W.heap.size + 1 + 1) (.int .i64 2) (.int .i64 q) (.string ⟨#[]⟩)) (fun q e => by omega))
    clear hz
    clear hk1
    go_wp2_with fail
    refine bodyPost_ret (v := .agg #[.int .i64 2, .int .i64 q, .string ⟨#[]⟩]) (by simp [results, go_sem, o0, o1, o2]) rfl ?_
    exact ⟨rfl, unhide HD⟩
end Go.Proofs.YtiinohibmcefkaaGreatDoor
namespace Go.Proofs.YtiinohibmcefkaaGreatDoor
open Go.RowKit Go.Maps

theorem isTrue_w (k n : Int) (s : Txt) (b : Bool) (hb : decide (n = 1) = b) (w : World) : Calls Tryz.prog 132 #[.agg #[.int .i64 k, .int .i64 n, str s]] w fun e w' => e = .returned (.bool b) ∧ Keeps (fun _ => False) w w' := by
  subst hb
  exact isTrue_v ⟨k, n, s⟩ w
set_option maxRecDepth 100000 in
theorem f100_v : TwoF (.func (.func 131) #[] #[]) (fun a b => truV (decide (a.n = 1) && decide (b.n = 1))) := by
  refine ⟨131, rfl, enters_of Tryz.func131 (by kernel_rfl) rfl, fun a b _ _ => tru_short _, fun W a b ha hb => ?_⟩
  obtain ⟨ak, an, ax⟩ := a
  obtain ⟨bk, bn, bx⟩ := b
  obtain ⟨q, hq⟩ : ∃ q : Int, q = if (decide (an = 1) && decide (bn = 1)) then 1 else 0 := ⟨_, rfl⟩
  have HQ := hide hq
  obtain ⟨X, hX, P⟩ := pro2_of W ak an ax bk bn bx
  have hR : ((truV (decide (an = 1) && decide (bn = 1))) : ValA).v = .agg #[.int .i64 2, .int .i64 q, .string ⟨#[]⟩] := by subst hq; rfl
  show Calls _ _ _ _ (fun e W' => e = .returned ((truV (decide (an = 1) && decide (bn = 1))) : ValA).v ∧ _)
  rw [hR]
  simp only [ValA.v]
  clear hR hq
  have a0 : X.cell? ⟨W.heap.size, 0, none⟩ = some (.int .i64 ak) := (cell_of_blk P.a 0).trans rfl
  have a1 : X.cell? ⟨W.heap.size, 1, none⟩ = some (.int .i64 an) := (cell_of_blk P.a 1).trans rfl
  have a2 : X.cell? ⟨W.heap.size, 2, none⟩ = some (str ax) := (cell_of_blk P.a 2).trans rfl
  have b0 : X.cell? ⟨W.heap.size + 1, 0, none⟩ = some (.int .i64 bk) := (cell_of_blk P.b 0).trans rfl
  have b1 : X.cell? ⟨W.heap.size + 1, 1, none⟩ = some (.int .i64 bn) := (cell_of_blk P.b 1).trans rfl
  have b2 : X.cell? ⟨W.heap.size + 1, 2, none⟩ = some (str bx) := (cell_of_blk P.b 2).trans rfl
  have HP := hide P
  have HKA := hide (Keeps.refl (fun _ => False) X)
  clear P
  obtain ⟨da, hda⟩ : ∃ d, decide (an = 1) = d := ⟨_, rfl⟩
  obtain ⟨db, hdb⟩ : ∃ d, decide (bn = 1) = d := ⟨_, rfl⟩
  rw [hda, hdb] at HQ
  have HIA := fun W' => hide (isTrue_w ak an ax da hda W')
  have HIB := fun W' => hide (isTrue_w bk bn bx db hdb W')
  have HP' := HP
  clear hda hdb
  cases da with
  | true =>
    go_enter Tryz.func131, Tryz.ntmps131
    go_wp2_with fail
    refine (unhide (HIA _)).mono ?_
    rintro e w5 ⟨rfl, hk5⟩
    have b0' := (hk5.cell (o := 0) (lt_of_block (unhide HP).b) id).trans b0
    have b1' := (hk5.cell (o := 1) (lt_of_block (unhide HP).b) id).trans b1
    have b2' := (hk5.cell (o := 2) (lt_of_block (unhide HP).b) id).trans b2
    go_wp2_with fail
    refine (unhide (HIB _)).mono ?_
    rintro e w6 ⟨rfl, hk6⟩
    have HKB := hide (hk5.trans hk6)
    clear hk5 hk6
    go_wp2_with fail
    refine (truth_w _ q (by have h9 := unhide HQ; simpa using h9) _).mono ?_
    rintro e w1 ⟨rfl, hk1⟩
    have HK1 := hide ((unhide HKB).trans hk1)
    have hz := ((unhide HK1).block _ (lt_of_block (unhide HP).res) id).trans (unhide HP).res
    have m0 := cell_of_blk hz 0
    have m1 := cell_of_blk hz 1
    have m2 := cell_of_blk hz 2
    simp at m0 m1 m2
    have g0 := frozen_of_blk hz 0
    have g1 := frozen_of_blk hz 1
    have g2 := frozen_of_blk hz 2
    obtain ⟨o0, o1, o2⟩ := set3v hz (.int .i64 2) (.int .i64 q) (.string ⟨#[]⟩)
    have HD := hide (((unhide HP).kept.trans (unhide HK1)).narrow (keeps_set3 _ (W.heap.size + 1 + 1) (.int .i64 2) (.int .i64 q) (.string ⟨#[]⟩)) (fun q e => by omega))
    clear hz
    clear hk1
    go_wp2_with fail
    refine bodyPost_ret (v := .agg #[.int .i64 2, .int .i64 q, .string ⟨#[]⟩]) (by simp [results, go_sem, o0, o1, o2]) rfl ?_
    exact ⟨rfl, unhide HD⟩
  | false =>
    go_enter Tryz.func131, Tryz.ntmps131
    go_wp2_with fail
    refine (unhide (HIA _)).mono ?_
    rintro e w5 ⟨rfl, hk5⟩
    have b0' := (hk5.cell (o := 0) (lt_of_block (unhide HP).b) id).trans b0
    have b1' := (hk5.cell (o := 1) (lt_of_block (unhide HP).b) id).trans b1
    have b2' := (hk5.cell (o := 2) (lt_of_block (unhide HP).b) id).trans b2
    have HKB := hide hk5
    clear hk5
    go_wp2_with fail
    refine (truth_w _ q (by have h9 := unhide HQ; simpa using h9) _).mono ?_
    rintro e w1 ⟨rfl, hk1⟩
    have HK1 := hide ((unhide HKB).trans hk1)
    have hz := ((unhide HK1).block _ (lt_of_block (unhide HP).res) id).trans (unhide HP).res
    have m0 := cell_of_blk hz 0
    have m1 := cell_of_blk hz 1
    have m2 := cell_of_blk hz 2
    simp at m0 m1 m2
    have g0 := frozen_of_blk hz 0
    have g1 := frozen_of_blk hz 1
    have g2 := frozen_of_blk hz 2
    obtain ⟨o0, o1, o2⟩ := set3v hz (.int .i64 2) (.int .i64 q) (.string ⟨#[]⟩)
    have HD := hide (((unhide HP).kept.trans (unhide HK1)).narrow (keeps_set3 _ (W.heap.size + 1 + 1) (.int .i64 2) (.int .i64 q) (.string ⟨#[]⟩)) (fun q e => by omega))
    clear hz
    clear hk1
    go_wp2_with fail
    refine bodyPost_ret (v := .agg #[.int .i64 2, .int .i64 q, .string ⟨#[]⟩]) (by simp [results, go_sem, o0, o1, o2]) rfl ?_
    exact ⟨rfl, unhide HD⟩
set_option maxRecDepth 100000 in
theorem f102_v : TwoF (.func (.func 133) #[] #[]) (fun a b => truV (decide (a.n = 1) || decide (b.n = 1))) := by
  refine ⟨133, rfl, enters_of Tryz.func133 (by kernel_rfl) rfl, fun a b _ _ => tru_short _, fun W a b ha hb => ?_⟩
  obtain ⟨ak, an, ax⟩ := a
  obtain ⟨bk, bn, bx⟩ := b
  obtain ⟨q, hq⟩ : ∃ q : Int, q = if (decide (an = 1) || decide (bn = 1)) then 1 else 0 := ⟨_, rfl⟩
  have HQ := hide hq
  obtain ⟨X, hX, P⟩ := pro2_of W ak an ax bk bn bx
  have hR : ((truV (decide (an = 1) || decide (bn = 1))) : ValA).v = .agg #[.int .i64 2, .int .i64 q, .string ⟨#[]⟩] := by subst hq; rfl
  show Calls _ _ _ _ (fun e W' => e = .returned ((truV (decide (an = 1) || decide (bn = 1))) : ValA).v ∧ _)
  rw [hR]
  simp only [ValA.v]
  clear hR hq
  have a0 : X.cell? ⟨W.heap.size, 0, none⟩ = some (.int .i64 ak) := (cell_of_blk P.a 0).trans rfl
  have a1 : X.cell? ⟨W.heap.size, 1, none⟩ = some (.int .i64 an) := (cell_of_blk P.a 1).trans rfl
  have a2 : X.cell? ⟨W.heap.size, 2, none⟩ = some (str ax) := (cell_of_blk P.a 2).trans rfl
  have b0 : X.cell? ⟨W.heap.size + 1, 0, none⟩ = some (.int .i64 bk) := (cell_of_blk P.b 0).trans rfl
  have b1 : X.cell? ⟨W.heap.size + 1, 1, none⟩ = some (.int .i64 bn) := (cell_of_blk P.b 1).trans rfl
  have b2 : X.cell? ⟨W.heap.size + 1, 2, none⟩ = some (str bx) := (cell_of_blk P.b 2).trans rfl
  have HP := hide P
  have HKA := hide (Keeps.refl (fun _ => False) X)
  clear P
  obtain ⟨da, hda⟩ : ∃ d, decide (an = 1) = d := ⟨_, rfl⟩
  obtain ⟨db, hdb⟩ : ∃ d, decide (bn = 1) = d := ⟨_, rfl⟩
  rw [hda, hdb] at HQ
  have HIA := fun W' => hide (isTrue_w ak an ax da hda W')
  have HIB := fun W' => hide (isTrue_w bk bn bx db hdb W')
  have HP' := HP
  clear hda hdb
  cases da with
  | true =>
    go_enter Tryz.func133, Tryz.ntmps133
    go_wp2_with fail
    refine (unhide (HIA _)).mono ?_
    rintro e w5 ⟨rfl, hk5⟩
    have b0' := (hk5.cell (o := 0) (lt_of_block (unhide HP).b) id).trans b0
    have b1' := (hk5.cell (o := 1) (lt_of_block (unhide HP).b) id).trans b1
    have b2' := (hk5.cell (o := 2) (lt_of_block (unhide HP).b) id).trans b2
    have HKB := hide hk5
    clear hk5
    go_wp2_with fail
    refine (truth_w _ q (by have h9 := unhide HQ; simpa using h9) _).mono ?_
    rintro e w1 ⟨rfl, hk1⟩
    have HK1 := hide ((unhide HKB).trans hk1)
    have hz := ((unhide HK1).block _ (lt_of_block (unhide HP).res) id).trans (unhide HP).res
    have m0 := cell_of_blk hz 0
    have m1 := cell_of_blk hz 1
    have m2 := cell_of_blk hz 2
    simp at m0 m1 m2
    have g0 := frozen_of_blk hz 0
    have g1 := frozen_of_blk hz 1
    have g2 := frozen_of_blk hz 2
    obtain ⟨o0, o1, o2⟩ := set3v hz (.int .i64 2) (.int .i64 q) (.string ⟨#[]⟩)
    have HD := hide (((unhide HP).kept.trans (unhide HK1)).narrow (keeps_set3 _ (W.heap.size + 1 + 1) (.int .i64 2) (.int .i64 q) (.string ⟨#[]⟩)) (fun q e => by omega))
    clear hz
    clear hk1
    go_wp2_with fail
    refine bodyPost_ret (v := .agg #[.int .i64 2, .int .i64 q, .string ⟨#[]⟩]) (by simp [results, go_sem, o0, o1, o2]) rfl ?_
    exact ⟨rfl, unhide HD⟩
  | false =>
    go_enter Tryz.func133, Tryz.ntmps133
    go_wp2_with fail
    refine (unhide (HIA _)).mono ?_
    rintro e w5 ⟨rfl, hk5⟩
    have b0' := (hk5.cell (o := 0) (lt_of_block (unhide HP).b) id).trans b0
    have b1' := (hk5.cell (o := 1) (lt_of_block (unhide HP).b) id).trans b1
    have b2' := (hk5.cell (o := 2) (lt_of_block (unhide HP).b) id).trans b2
    go_wp2_with fail
    refine (unhide (HIB _)).mono ?_
    rintro e w6 ⟨rfl, hk6⟩
    have HKB := hide (hk5.trans hk6)
    clear hk5 hk6
    go_wp2_with fail
    refine (truth_w _ q (by have h9 := unhide HQ; simpa using h9) _).mono ?_
    rintro e w1 ⟨rfl, hk1⟩
    have HK1 := hide ((unhide HKB).trans hk1)
    have hz := ((unhide HK1).block _ (lt_of_block (unhide HP).res) id).trans (unhide HP).res
    have m0 := cell_of_blk hz 0
    have m1 := cell_of_blk hz 1
    have m2 := cell_of_blk hz 2
    simp at m0 m1 m2
    have g0 := frozen_of_blk hz 0
    have g1 := frozen_of_blk hz 1
    have g2 := frozen_of_blk hz 2
    obtain ⟨o0, o1, o2⟩ := set3v hz (.int .i64 2) (.int .i64 q) (.string ⟨#[]⟩)
    have HD := hide (((unhide HP).kept.trans (unhide HK1)).narrow (keeps_set3 _ (W.heap.size + 1 + 1) (.int .i64 2) (.int .i64 q) (.string ⟨#[]⟩)) (fun q e => by omega))
    clear hz
    clear hk1
    go_wp2_with fail
    refine bodyPost_ret (v := .agg #[.int .i64 2, .int .i64 q, .string ⟨#[]⟩]) (by simp [results, go_sem, o0, o1, o2]) rfl ?_
    exact ⟨rfl, unhide HD⟩
end Go.Proofs.YtiinohibmcefkaaGreatDoor
namespace Go.Proofs.YtiinohibmcefkaaGreatDoor
open Go.RowKit Go.Maps

theorem f107_v : TwoF (.func (.func 138) #[] #[]) (fun a b => bytV (catT a.s b.s)) :=
  ⟨138, rfl, enters_of Tryz.func138 (by kernel_rfl) rfl, fun _ _ _ _ => byt_short (cat_len _ _), fun W a b ha hb => cat_v a b W ha hb⟩
end Go.Proofs.YtiinohibmcefkaaGreatDoor
