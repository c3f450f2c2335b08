import Derived.Test.YtiinohibmcefkaaGreatDoorVf1
import Derived.Test.YtiinohibmcefkaaGreatDoorVe3
import Derived.Test.YtiinohibmcefkaaGreatDoorJas
namespace Go.Proofs.YtiinohibmcefkaaGreatDoor
open Go.RowKit Go.Maps

theorem isTrue_w (k n : Int) (s : Txt) (b : Bool) (hb : decide (n = 1) = b) (w : World) : Calls Tryz.prog 132 #[.agg #[.int .i64 k, .int .i64 n, str s]] w fun e w' => e = .returned (.bool b) ∧ Keeps (fun _ => False) w w' := by
  subst hb
  exact isTrue_v ⟨k, n, s⟩ w
set_option maxRecDepth 100000 in
theorem f100_v : TwoF (.func (.func 131) #[] #[]) (fun a b => truV (decide (a.n = 1) && decide (b.n = 1))) := by
  refine ⟨131, rfl, enters_of Tryz.func131 (by kernel_rfl) rfl, fun a b _ _ => tru_short _, fun W a b ha hb => ?_⟩
  obtain ⟨ak, an, ax⟩ := a
  obtain ⟨bk, bn, bx⟩ := b
  obtain ⟨q, hq⟩ : ∃ q : Int, q = if (decide (an = 1) && decide (bn = 1)) then 1 else 0 := ⟨_, rfl⟩
  have HQ := hide hq
  obtain ⟨X, hX, P⟩ := pro2_of W ak an ax bk bn bx
  have hR : ((truV (decide (an = 1) && decide (bn = 1))) : ValA).v = .agg #[.int .i64 2, .int .i64 q, .string ⟨#[]⟩] := by subst hq; rfl
  show Calls _ _ _ _ (fun e W' => e = .returned ((truV (decide (an = 1) && decide (bn = 1))) : ValA).v ∧ _)
  rw [hR]
  simp only [ValA.v]
  clear hR hq
  have a0 : X.cell? ⟨W.heap.size, 0, none⟩ = some (.int .i64 ak) := (cell_of_blk P.a 0).trans rfl
  have a1 : X.cell? ⟨W.heap.size, 1, none⟩ = some (.int .i64 an) := (cell_of_blk P.a 1).trans rfl
  have a2 : X.cell? ⟨W.heap.size, 2, none⟩ = some (str ax) := (cell_of_blk P.a 2).trans rfl
  have b0 : X.cell? ⟨W.heap.size + 1, 0, none⟩ = some (.int .i64 bk) := (cell_of_blk P.b 0).trans rfl
  have b1 : X.cell? ⟨W.heap.size + 1, 1, none⟩ = some (.int .i64 bn) := (cell_of_blk P.b 1).trans rfl
  have b2 : X.cell? ⟨W.heap.size + 1, 2, none⟩ = some (str bx) := (cell_of_blk P.b 2).trans rfl
  have HP := hide P
  have HKA := hide (Keeps.refl (fun _ => False) X)
  clear P
  obtain ⟨da, hda⟩ : ∃ d, decide (an = 1) = d := ⟨_, rfl⟩
  obtain ⟨db, hdb⟩ : ∃ d, decide (bn = 1) = d := ⟨_, rfl⟩
  rw [hda, hdb] at HQ
  have HIA := fun W' => hide (isTrue_w ak an ax da hda W')
  have HIB := fun W' => hide (isTrue_w bk bn bx db hdb W')
  have HP' := HP
  clear hda hdb
  cases da with
  | true =>
    go_enter Tryz.func131, Tryz.ntmps131
    go_wp2_with fail
    refine (unhide (HIA _)).mono ?_
    rintro e w5 ⟨rfl, hk5⟩
    have b0' := (hk5.cell (o := 0) (lt_of_block (unhide HP).b) id).trans b0
    have b1' := (hk5.cell (o := 1) (lt_of_block (unhide HP).b) id).trans b1
    have b2' := (hk5.cell (o := 2) (lt_of_block (unhide HP).b) id).trans b2
    go_wp2_with fail
    refine (unhide (HIB _)).mono ?_
    rintro e w6 ⟨rfl, hk6⟩
    have HKB := hide (hk5.trans hk6)
    clear hk5 hk6
    go_wp2_with fail
    refine (truth_w _ q (by have h9 := unhide HQ; simpa using h9) _).mono ?_
    rintro e w1 ⟨rfl, hk1⟩
    have HK1 := hide ((unhide HKB).trans hk1)
    have hz := ((unhide HK1).block _ (lt_of_block (unhide HP).res) id).trans (unhide HP).res
    have m0 := cell_of_blk hz 0
    have m1 := cell_of_blk hz 1
    have m2 := cell_of_blk hz 2
    simp at m0 m1 m2
    have g0 := frozen_of_blk hz 0
    have g1 := frozen_of_blk hz 1
    have g2 := frozen_of_blk hz 2
    obtain ⟨o0, o1, o2⟩ := set3v hz (.int .i64 2) (.int .i64 q) (.string ⟨#[]⟩)
    have HD := hide (((unhide HP).kept.trans (unhide HK1)).narrow (keeps_set3 _ (W.heap.size + 1 + 1) (.int .i64 2) (.int .i64 q) (.string ⟨#[]⟩)) (fun q e => by omega))
    clear hz
    clear hk1
    go_wp2_with fail
    refine bodyPost_ret (v := .agg #[.int .i64 2, .int .i64 q, .string ⟨#[]⟩]) (by simp [results, go_sem, o0, o1, o2]) rfl ?_
    exact ⟨rfl, unhide HD⟩
  | false =>
    go_enter Tryz.func131, Tryz.ntmps131
    go_wp2_with fail
    refine (unhide (HIA _)).mono ?_
    rintro e w5 ⟨rfl, hk5⟩
    have b0' := (hk5.cell (o := 0) (lt_of_block (unhide HP).b) id).trans b0
    have b1' := (hk5.cell (o := 1) (lt_of_block (unhide HP).b) id).trans b1
    have b2' := (hk5.cell (o := 2) (lt_of_block (unhide HP).b) id).trans b2
    have HKB := hide hk5
    clear hk5
    go_wp2_with fail
    refine (truth_w _ q (by have h9 := unhide HQ; simpa using h9) _).mono ?_
    rintro e w1 ⟨rfl, hk1⟩
    have HK1 := hide ((unhide HKB).trans hk1)
    have hz := ((unhide HK1).block _ (lt_of_block (unhide HP).res) id).trans (unhide HP).res
    have m0 := cell_of_blk hz 0
    have m1 := cell_of_blk hz 1
    have m2 := cell_of_blk hz 2
    simp at m0 m1 m2
    have g0 := frozen_of_blk hz 0
    have g1 := frozen_of_blk hz 1
    have g2 := frozen_of_blk hz 2
    obtain ⟨o0, o1, o2⟩ := set3v hz (.int .i64 2) (.int .i64 q) (.string ⟨#[]⟩)
    have HD := hide (((unhide HP).kept.trans (unhide HK1)).narrow (keeps_set3 _ (W.heap.size + 1 + 1) (.int .i64 2) (.int .i64 q) (.string ⟨#[]⟩)) (fun q e => by omega))
    clear hz
    clear hk1
    go_wp2_with fail
    refine bodyPost_ret (v := .agg #[.int .i64 2, .int .i64 q, .string ⟨#[]⟩]) (by simp [results, go_sem, o0, o1, o2]) rfl ?_
    exact ⟨rfl, unhide HD⟩
set_option maxRecDepth 100000 in
theorem f102_v : TwoF (.func (.func 133) #[] #[]) (fun a b => truV (decide (a.n = 1) || decide (b.n = 1))) := by
  refine ⟨133, rfl, enters_of Tryz.func133 (by kernel_rfl) rfl, fun a b _ _ => tru_short _, fun W a b ha hb => ?_⟩
  obtain ⟨ak, an, ax⟩ := a
  obtain ⟨bk, bn, bx⟩ := b
  obtain ⟨q, hq⟩ : ∃ q : Int, q = if (decide (an = 1) || decide (bn = 1)) then 1 else 0 := ⟨_, rfl⟩
  have HQ := hide hq
  obtain ⟨X, hX, P⟩ := pro2_of W ak an ax bk bn bx
  have hR : ((truV (decide (an = 1) || decide (bn = 1))) : ValA).v = .agg #[.int .i64 2, .int .i64 q, .string ⟨#[]⟩] := by subst hq; rfl
  show Calls _ _ _ _ (fun e W' => e = .returned ((truV (decide (an = 1) || decide (bn = 1))) : ValA).v ∧ _)
  rw [hR]
  simp only [ValA.v]
  clear hR hq
  have a0 : X.cell? ⟨W.heap.size, 0, none⟩ = some (.int .i64 ak) := (cell_of_blk P.a 0).trans rfl
  have a1 : X.cell? ⟨W.heap.size, 1, none⟩ = some (.int .i64 an) := (cell_of_blk P.a 1).trans rfl
  have a2 : X.cell? ⟨W.heap.size, 2, none⟩ = some (str ax) := (cell_of_blk P.a 2).trans rfl
  have b0 : X.cell? ⟨W.heap.size + 1, 0, none⟩ = some (.int .i64 bk) := (cell_of_blk P.b 0).trans rfl
  have b1 : X.cell? ⟨W.heap.size + 1, 1, none⟩ = some (.int .i64 bn) := (cell_of_blk P.b 1).trans rfl
  have b2 : X.cell? ⟨W.heap.size + 1, 2, none⟩ = some (str bx) := (cell_of_blk P.b 2).trans rfl
  have HP := hide P
  have HKA := hide (Keeps.refl (fun _ => False) X)
  clear P
  obtain ⟨da, hda⟩ : ∃ d, decide (an = 1) = d := ⟨_, rfl⟩
  obtain ⟨db, hdb⟩ : ∃ d, decide (bn = 1) = d := ⟨_, rfl⟩
  rw [hda, hdb] at HQ
  have HIA := fun W' => hide (isTrue_w ak an ax da hda W')
  have HIB := fun W' => hide (isTrue_w bk bn bx db hdb W')
  have HP' := HP
  clear hda hdb
  cases da with
  | true =>
    go_enter Tryz.func133, Tryz.ntmps133
    go_wp2_with fail
    refine (unhide (HIA _)).mono ?_
    rintro e w5 ⟨rfl, hk5⟩
    have b0' := (hk5.cell (o := 0) (lt_of_block (unhide HP).b) id).trans b0
    have b1' := (hk5.cell (o := 1) (lt_of_block (unhide HP).b) id).trans b1
    have b2' := (hk5.cell (o := 2) (lt_of_block (unhide HP).b) id).trans b2
    have HKB := hide hk5
    clear hk5
    go_wp2_with fail
    refine (truth_w _ q (by have h9 := unhide HQ; simpa using h9) _).mono ?_
    rintro e w1 ⟨rfl, hk1⟩
    have HK1 := hide ((unhide HKB).trans hk1)
    have hz := ((unhide HK1).block _ (lt_of_block (unhide HP).res) id).trans (unhide HP).res
    have m0 := cell_of_blk hz 0
    have m1 := cell_of_blk hz 1
    have m2 := cell_of_blk hz 2
    simp at m0 m1 m2
    have g0 := frozen_of_blk hz 0
    have g1 := frozen_of_blk hz 1
    have g2 := frozen_of_blk hz 2
    obtain ⟨o0, o1, o2⟩ := set3v hz (.int .i64 2) (.int .i64 q) (.string ⟨#[]⟩)
    have HD := hide (((unhide HP).kept.trans (unhide HK1)).narrow (keeps_set3 _ (W.heap.size + 1 + 1) (.int .i64 2) (.int .i64 q) (.string ⟨#[]⟩)) (fun q e => by omega))
    clear hz
    clear hk1
    go_wp2_with fail
    refine bodyPost_ret (v := .agg #[.int .i64 2, .int .i64 q, .string ⟨#[]⟩]) (by simp [results, go_sem, o0, o1, o2]) rfl ?_
    exact ⟨rfl, unhide HD⟩
  | false =>
    go_enter Tryz.func133, Tryz.ntmps133
    go_wp2_with fail
    refine (unhide (HIA _)).mono ?_
    rintro e w5 ⟨rfl, hk5⟩
    have b0' := (hk5.cell (o := 0) (lt_of_block (unhide HP).b) id).trans b0
    have b1' := (hk5.cell (o := 1) (lt_of_block (unhide HP).b) id).trans b1
    have b2' := (hk5.cell (o := 2) (lt_of_block (unhide HP).b) id).trans b2
    go_wp2_with fail
    refine (unhide (HIB _)).mono ?_
    rintro e w6 ⟨rfl, hk6⟩
    have HKB := hide (hk5.trans hk6)
    clear hk5 hk6
    go_wp2_with fail
    refine (truth_w _ q (by have h9 := unhide HQ; simpa using h9) _).mono ?_
    rintro e w1 ⟨rfl, hk1⟩
    have HK1 := hide ((unhide HKB).trans hk1)
    have hz := ((unhide HK1).block _ (lt_of_block (unhide HP).res) id).trans (unhide HP).res
    have m0 := cell_of_blk hz 0
    have m1 := cell_of_blk hz 1
    have m2 := cell_of_blk hz 2
    simp at m0 m1 m2
    have g0 := frozen_of_blk hz 0
    have g1 := frozen_of_blk hz 1
    have g2 := frozen_of_blk hz 2
    obtain ⟨o0, o1, o2⟩ := set3v hz (.int .i64 2) (.int .i64 q) (.string ⟨#[]⟩)
    have HD := hide (((unhide HP).kept.trans (unhide HK1)).narrow (keeps_set3 _ (W.heap.size + 1 + 1) (.int .i64 2) (.int .i64 q) (.string ⟨#[]⟩)) (fun q e => by omega))
    clear hz
    clear hk1
    go_wp2_with fail
    refine bodyPost_ret (v := .agg #[.int .i64 2, .int .i64 q, .string ⟨#[]⟩]) (by simp [results, go_sem, o0, o1, o2]) rfl ?_
    exact ⟨rfl, unhide HD⟩
end Go.Proofs.YtiinohibmcefkaaGreatDoor
namespace Go.Proofs.YtiinohibmcefkaaGreatDoor
open Go.RowKit Go.Maps

theorem f107_v : TwoF (.func (.func 138) #[] #[]) (fun a b => bytV (catT a.s b.s)) :=
  ⟨138, rfl, enters_of Tryz.func138 (by kernel_rfl) rfl, fun _ _ _ _ => byt_short (cat_len _ _), fun W a b ha hb => cat_v a b W ha hb⟩
end Go.Proofs.YtiinohibmcefkaaGreatDoor
namespace Go.Proofs.YtiinohibmcefkaaGreatDoor
open Go.RowKit Go.Maps

theorem OpF.form {S : List FieldA} {F : Nat → Prop} {w : World} {ov : Value} {n : Nat} {g : List ValA → ValA} (h : OpF S F w ov n g) : ∃ k cap, ov = .func (.func k) #[] cap := by
  obtain ⟨k, cap, e, _⟩ := h
  exact ⟨k, cap, e⟩
theorem OpF.congr {S : List FieldA} {F : Nat → Prop} {w w' : World} {ov : Value} {n n' : Nat} {g g' : List ValA → ValA} (h : OpF S F w ov n g) (hk : Keeps (fun _ => False) w w') (hn : n = n') (hg : ∀ ks, g ks = g' ks) : OpF S F w' ov n' g' := by
  obtain rfl : g = g' := funext hg
  subst hn
  exact h.shift hk.any (fun _ h _ => h)
set_option maxRecDepth 100000 in
set_option maxHeartbeats 4000000 in
theorem operations_v (S : List FieldA) (F : Nat → Prop) (w : World) (hF : ∀ q, F q → q < w.heap.size) :
    Calls Tryz.prog 75 #[] w fun e w' => ∃ tab, e = .returned (.slice (some ⟨tab, 0, none⟩) 26 26) ∧ w.heap.size ≤ tab ∧ tab < w'.heap.size ∧ (∀ i : Nat, 7 ≤ i → i ≤ 25 → ∃ ov, w'.cell? ⟨tab, i, none⟩ = some ov ∧ OpF S F w' ov (kidsB i).toNat (opV i)) ∧ Keeps (fun _ => False) w w' := by
  have HS : ∀ W', Keeps (fun _ => False) w W' → Hid (∀ q, F q → q < W'.heap.size) := fun W' hk q hq => Nat.lt_of_lt_of_le (hF q hq) hk.size
  have HK0 := hide (Keeps.refl (fun _ => False) w)
  clear hF
  go_enter Tryz.func75, Tryz.ntmps75
  go_wp2_with fail
  refine (one_v S F _ (unhide (HS _ (unhide HK0))) _ _ f87_v).mono ?_
  rintro e w7 ⟨ov7, rfl, ho7, hk7⟩
  have HO7 := hide ho7
  have HL7 := hide hk7
  have HK1 := hide ((unhide HK0).trans hk7)
  obtain ⟨k7, c7, rfl⟩ := ho7.form
  clear ho7 hk7
  go_wp2_with fail
  refine (one_v S F _ (unhide (HS _ (unhide HK1))) _ _ f88_v).mono ?_
  rintro e w8 ⟨ov8, rfl, ho8, hk8⟩
  have HO8 := hide ho8
  have HL8 := hide hk8
  have HK2 := hide ((unhide HK1).trans hk8)
  obtain ⟨k8, c8, rfl⟩ := ho8.form
  clear ho8 hk8
  go_wp2_with fail
  refine (two_v S F _ (unhide (HS _ (unhide HK2))) _ _ f90_v).mono ?_
  rintro e w9 ⟨ov9, rfl, ho9, hk9⟩
  have HO9 := hide ho9
  have HL9 := hide hk9
  have HK3 := hide ((unhide HK2).trans hk9)
  obtain ⟨k9, c9, rfl⟩ := ho9.form
  clear ho9 hk9
  go_wp2_with fail
  refine (two_v S F _ (unhide (HS _ (unhide HK3))) _ _ f91_v).mono ?_
  rintro e w10 ⟨ov10, rfl, ho10, hk10⟩
  have HO10 := hide ho10
  have HL10 := hide hk10
  have HK4 := hide ((unhide HK3).trans hk10)
  obtain ⟨k10, c10, rfl⟩ := ho10.form
  clear ho10 hk10
  go_wp2_with fail
  refine (two_v S F _ (unhide (HS _ (unhide HK4))) _ _ f92_v).mono ?_
  rintro e w11 ⟨ov11, rfl, ho11, hk11⟩
  have HO11 := hide ho11
  have HL11 := hide hk11
  have HK5 := hide ((unhide HK4).trans hk11)
  obtain ⟨k11, c11, rfl⟩ := ho11.form
  clear ho11 hk11
  go_wp2_with fail
  refine (two_v S F _ (unhide (HS _ (unhide HK5))) _ _ f93_v).mono ?_
  rintro e w12 ⟨ov12, rfl, ho12, hk12⟩
  have HO12 := hide ho12
  have HL12 := hide hk12
  have HK6 := hide ((unhide HK5).trans hk12)
  obtain ⟨k12, c12, rfl⟩ := ho12.form
  clear ho12 hk12
  go_wp2_with fail
  refine (two_v S F _ (unhide (HS _ (unhide HK6))) _ _ f95_v).mono ?_
  rintro e w13 ⟨ov13, rfl, ho13, hk13⟩
  have HO13 := hide ho13
  have HL13 := hide hk13
  have HK7 := hide ((unhide HK6).trans hk13)
  obtain ⟨k13, c13, rfl⟩ := ho13.form
  clear ho13 hk13
  go_wp2_with fail
  refine (two_v S F _ (unhide (HS _ (unhide HK7))) _ _ f96_v).mono ?_
  rintro e w14 ⟨ov14, rfl, ho14, hk14⟩
  have HO14 := hide ho14
  have HL14 := hide hk14
  have HK8 := hide ((unhide HK7).trans hk14)
  obtain ⟨k14, c14, rfl⟩ := ho14.form
  clear ho14 hk14
  go_wp2_with fail
  refine (two_v S F _ (unhide (HS _ (unhide HK8))) _ _ f97_v).mono ?_
  rintro e w15 ⟨ov15, rfl, ho15, hk15⟩
  have HO15 := hide ho15
  have HL15 := hide hk15
  have HK9 := hide ((unhide HK8).trans hk15)
  obtain ⟨k15, c15, rfl⟩ := ho15.form
  clear ho15 hk15
  go_wp2_with fail
  refine (two_v S F _ (unhide (HS _ (unhide HK9))) _ _ f98_v).mono ?_
  rintro e w16 ⟨ov16, rfl, ho16, hk16⟩
  have HO16 := hide ho16
  have HL16 := hide hk16
  have HK10 := hide ((unhide HK9).trans hk16)
  obtain ⟨k16, c16, rfl⟩ := ho16.form
  clear ho16 hk16
  go_wp2_with fail
  refine (two_v S F _ (unhide (HS _ (unhide HK10))) _ _ f99_v).mono ?_
  rintro e w17 ⟨ov17, rfl, ho17, hk17⟩
  have HO17 := hide ho17
  have HL17 := hide hk17
  have HK11 := hide ((unhide HK10).trans hk17)
  obtain ⟨k17, c17, rfl⟩ := ho17.form
  clear ho17 hk17
  go_wp2_with fail
  refine (two_v S F _ (unhide (HS _ (unhide HK11))) _ _ f100_v).mono ?_
  rintro e w18 ⟨ov18, rfl, ho18, hk18⟩
  have HO18 := hide ho18
  have HL18 := hide hk18
  have HK12 := hide ((unhide HK11).trans hk18)
  obtain ⟨k18, c18, rfl⟩ := ho18.form
  clear ho18 hk18
  go_wp2_with fail
  refine (two_v S F _ (unhide (HS _ (unhide HK12))) _ _ f102_v).mono ?_
  rintro e w19 ⟨ov19, rfl, ho19, hk19⟩
  have HO19 := hide ho19
  have HL19 := hide hk19
  have HK13 := hide ((unhide HK12).trans hk19)
  obtain ⟨k19, c19, rfl⟩ := ho19.form
  clear ho19 hk19
  go_wp2_with fail
  refine (two_v S F _ (unhide (HS _ (unhide HK13))) _ _ f104_v).mono ?_
  rintro e w21 ⟨ov21, rfl, ho21, hk21⟩
  have HO21 := hide ho21
  have HL21 := hide hk21
  have HK14 := hide ((unhide HK13).trans hk21)
  obtain ⟨k21, c21, rfl⟩ := ho21.form
  clear ho21 hk21
  go_wp2_with fail
  refine (two_v S F _ (unhide (HS _ (unhide HK14))) _ _ f105_v).mono ?_
  rintro e w22 ⟨ov22, rfl, ho22, hk22⟩
  have HO22 := hide ho22
  have HL22 := hide hk22
  have HK15 := hide ((unhide HK14).trans hk22)
  obtain ⟨k22, c22, rfl⟩ := ho22.form
  clear ho22 hk22
  go_wp2_with fail
  refine (one_v S F _ (unhide (HS _ (unhide HK15))) _ _ f106_v).mono ?_
  rintro e w23 ⟨ov23, rfl, ho23, hk23⟩
  have HO23 := hide ho23
  have HL23 := hide hk23
  have HK16 := hide ((unhide HK15).trans hk23)
  obtain ⟨k23, c23, rfl⟩ := ho23.form
  clear ho23 hk23
  go_wp2_with fail
  refine (two_v S F _ (unhide (HS _ (unhide HK16))) _ _ f107_v).mono ?_
  rintro e w24 ⟨ov24, rfl, ho24, hk24⟩
  have HO24 := hide ho24
  have HL24 := hide hk24
  have HK17 := hide ((unhide HK16).trans hk24)
  obtain ⟨k24, c24, rfl⟩ := ho24.form
  clear ho24 hk24
  go_wp2_with fail
  go_ret
  generalize hC : (#[.nilFunc, .nilFunc, .nilFunc, .nilFunc, .nilFunc, .nilFunc, .nilFunc, .func (.func k7) #[] c7, .func (.func k8) #[] c8, .func (.func k9) #[] c9, .func (.func k10) #[] c10, .func (.func k11) #[] c11, .func (.func k12) #[] c12, .func (.func k13) #[] c13, .func (.func k14) #[] c14, .func (.func k15) #[] c15, .func (.func k16) #[] c16, .func (.func k17) #[] c17, .func (.func k18) #[] c18, .func (.func k19) #[] c19, .func (.func 134) #[] #[], .func (.func k21) #[] c21, .func (.func k22) #[] c22, .func (.func k23) #[] c23, .func (.func k24) #[] c24, .func (.func 139) #[] #[]] : Array Value) = C
  have hk : Keeps (fun _ => False) w24 (w24.alloc (.cells C 130)) := (Keeps.refl _ _).alloc _
  have hcell : ∀ i v, C[i]? = some v → (w24.alloc (.cells C 130)).cell? ⟨w24.heap.size, i, none⟩ = some v := fun i v hv => by rw [cell_of_blk (heap_alloc_new w24 _)]; exact hv
  have l24 := hk
  have l23 := (unhide HL24).trans l24
  have l22 := (unhide HL23).trans l23
  have l21 := (unhide HL22).trans l22
  have l19 := (unhide HL21).trans l21
  have l18 := (unhide HL19).trans l19
  have l17 := (unhide HL18).trans l18
  have l16 := (unhide HL17).trans l17
  have l15 := (unhide HL16).trans l16
  have l14 := (unhide HL15).trans l15
  have l13 := (unhide HL14).trans l14
  have l12 := (unhide HL13).trans l13
  have l11 := (unhide HL12).trans l12
  have l10 := (unhide HL11).trans l11
  have l9 := (unhide HL10).trans l10
  have l8 := (unhide HL9).trans l9
  have l7 := (unhide HL8).trans l8
  refine ⟨_, rfl, (unhide HK17).size, by simp, ?_, (unhide HK17).trans hk⟩
  intro i h1 h2
  rcases (show i = 7 ∨ i = 8 ∨ i = 9 ∨ i = 10 ∨ i = 11 ∨ i = 12 ∨ i = 13 ∨ i = 14 ∨ i = 15 ∨ i = 16 ∨ i = 17 ∨ i = 18 ∨ i = 19 ∨ i = 20 ∨ i = 21 ∨ i = 22 ∨ i = 23 ∨ i = 24 ∨ i = 25 by omega) with rfl | rfl | rfl | rfl | rfl | rfl | rfl | rfl | rfl | rfl | rfl | rfl | rfl | rfl | rfl | rfl | rfl | rfl | rfl
  · exact ⟨_, hcell 7 _ (by subst hC; rfl), (unhide HO7).congr l7 rfl (fun ks => by simp [opV])⟩
  · exact ⟨_, hcell 8 _ (by subst hC; rfl), (unhide HO8).congr l8 rfl (fun ks => by simp [opV])⟩
  · exact ⟨_, hcell 9 _ (by subst hC; rfl), (unhide HO9).congr l9 rfl (fun ks => by simp [opV])⟩
  · exact ⟨_, hcell 10 _ (by subst hC; rfl), (unhide HO10).congr l10 rfl (fun ks => by simp [opV])⟩
  · exact ⟨_, hcell 11 _ (by subst hC; rfl), (unhide HO11).congr l11 rfl (fun ks => by simp [opV])⟩
  · exact ⟨_, hcell 12 _ (by subst hC; rfl), (unhide HO12).congr l12 rfl (fun ks => by simp [opV])⟩
  · exact ⟨_, hcell 13 _ (by subst hC; rfl), (unhide HO13).congr l13 rfl (fun ks => by simp [opV])⟩
  · exact ⟨_, hcell 14 _ (by subst hC; rfl), (unhide HO14).congr l14 rfl (fun ks => by simp [opV])⟩
  · exact ⟨_, hcell 15 _ (by subst hC; rfl), (unhide HO15).congr l15 rfl (fun ks => by simp [opV])⟩
  · exact ⟨_, hcell 16 _ (by subst hC; rfl), (unhide HO16).congr l16 rfl (fun ks => by simp [opV])⟩
  · exact ⟨_, hcell 17 _ (by subst hC; rfl), (unhide HO17).congr l17 rfl (fun ks => by simp [opV])⟩
  · exact ⟨_, hcell 18 _ (by subst hC; rfl), (unhide HO18).congr l18 rfl (fun ks => by simp [opV])⟩
  · exact ⟨_, hcell 19 _ (by subst hC; rfl), (unhide HO19).congr l19 rfl (fun ks => by simp [opV])⟩
  · exact ⟨_, hcell 20 _ (by subst hC; rfl), (orElse_v S F _).congr (Keeps.refl _ _) rfl (fun ks => by simp [opV])⟩
  · exact ⟨_, hcell 21 _ (by subst hC; rfl), (unhide HO21).congr l21 rfl (fun ks => by simp [opV])⟩
  · exact ⟨_, hcell 22 _ (by subst hC; rfl), (unhide HO22).congr l22 rfl (fun ks => by simp [opV])⟩
  · exact ⟨_, hcell 23 _ (by subst hC; rfl), (unhide HO23).congr l23 rfl (fun ks => by simp [opV])⟩
  · exact ⟨_, hcell 24 _ (by subst hC; rfl), (unhide HO24).congr l24 rfl (fun ks => by simp [opV])⟩
  · exact ⟨_, hcell 25 _ (by subst hC; rfl), (pick_v S F _).congr (Keeps.refl _ _) rfl (fun ks => by simp [opV])⟩
end Go.Proofs.YtiinohibmcefkaaGreatDoor
