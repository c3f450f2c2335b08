import Derived.Test.YtiinohibmcefkaaGreatDoorS6a
import Derived.Test.YtiinohibmcefkaaGreatDoorIh
import Derived.Test.YtiinohibmcefkaaGreatDoorJzag
import Derived.Test.YtiinohibmcefkaaGreatDoorJbd
import Derived.Deep.DeepCutAuto
namespace Go.Proofs.YtiinohibmcefkaaGreatDoor
open Go.RowKit Go.Maps

set_option maxRecDepth 100000 in
set_option maxHeartbeats 8000000 in
theorem values_walk (S : List FieldA) (c : XE) (h : Bool) (vals : List ValA) (sv cv u : Value) (w : World) (hT : Types w) (hF : Forms w) (hf : FldsAt w sv S) (hc : SlE (argZ w.heap.size) w 0 cv c.kids) (hu : ValsAt w u vals) (lS : S.length ≤ 1048576) (lr : vals.length ≤ 1048576) :
    Calls Tryz.prog 5 #[.agg #[sv], exV c.op c.n c.s cv, .agg #[.bool h, u]] w fun e w' => e = .returned (.bool true) ∧ Keeps (fun _ => False) w w' := by
  obtain ⟨so, sc, rfl⟩ := RowAt.form hf
  obtain ⟨xo, xc, rfl, _⟩ := hc.head
  obtain ⟨uo, uc, rfl⟩ := RowAt.form hu
  obtain ⟨X, hX, hkX, g0, g1, g2⟩ := boxA3 w #[(.slice so S.length sc)] #[.int .i64 c.op, .int .i64 c.n, str c.s, (.slice xo c.kids.len xc)] #[.bool h, (.slice uo vals.length uc)] 24 27 31
  have HPK := hide hkX
  have H0 := hide (fun (W' : World) (hk : Keeps (fun _ => False) X W') => (hk.block _ (lt_of_block g0) id).trans g0)
  have H1 := hide (fun (W' : World) (hk : Keeps (fun _ => False) X W') => (hk.block _ (lt_of_block g1) id).trans g1)
  have H2 := hide (fun (W' : World) (hk : Keeps (fun _ => False) X W') => (hk.block _ (lt_of_block g2) id).trans g2)
  have HD := hide (deepExprs _ 0 (c.el .nil) (.slice (some ⟨X.heap.size, 0, none⟩) 1 1) (X.alloc (.cells #[.int .i64 c.op, .int .i64 c.n, str c.s, (.slice xo c.kids.len xc)] 27)) (Nat.le_refl _) (isL_new (w := X) (l := c.el .nil) (xs := [.int .i64 c.op, .int .i64 c.n, str c.s, (.slice xo c.kids.len xc)]) ⟨_, _, rfl, sl_top hc hkX, rfl⟩))
  have HT := hide hT
  have HFM := hide hF
  have HFL := hide hf
  have HCX := hide hc
  have HVA := hide hu
  obtain ⟨c0, c1, c2, c3⟩ := cl4 g1
  clear hT hF hf hc hu g0 g1 g2 hkX
  go_enter Tryz.func5, Tryz.ntmps5
  go_wp2_with fail
  refine (unhide HD).mono ?_
  rintro e w1 ⟨r1, rfl, hk1, hz1⟩
  have HK1 := hide ((kAlloc X _).trans hk1)
  clear hk1 HD c0 c1 c2 c3
  cases r1 with
  | true =>
    clear hz1
    go_wp2_with fail
    go_ret
    exact ⟨rfl, (unhide HPK).trans (unhide HK1)⟩
  | false =>
    have hz := hz1 rfl
    clear hz1
    simp only [XE.el, EL.size] at hz
    have HZ := hide hz
    clear hz
    obtain ⟨c0, c1, c2, c3⟩ := cl4 (unhide H1 w1 (unhide HK1))
    obtain ⟨Y, hY⟩ : ∃ Y, w1.alloc (.cells #[.int .i64 c.op, .int .i64 c.n, str c.s, (.slice xo c.kids.len xc)] 27) = Y := ⟨_, rfl⟩
    have kY : Keeps (fun _ => False) w1 Y := hY ▸ kAlloc w1 _
    have HXY := hide ((unhide HK1).trans kY)
    have HWY := hide ((unhide HPK).trans (unhide HXY))
    have HLY : Hid (SlE (argZ Y.heap.size) Y 0 (.slice (some ⟨w1.heap.size, 0, none⟩) 1 1) (c.el .nil)) := hY ▸ isL_new (w := w1) (l := c.el .nil) (xs := [.int .i64 c.op, .int .i64 c.n, str c.s, (.slice xo c.kids.len xc)]) ⟨_, _, rfl, sl_top (unhide HCX) ((unhide HPK).trans (unhide HK1)), rfl⟩
    have HGV := hide (given0_v _ S (c.el .nil) h vals (.slice so S.length sc) (.slice (some ⟨w1.heap.size, 0, none⟩) 1 1) (.slice uo vals.length uc) Y 0 ((unhide HFL).keepF (unhide HWY)) (unhide HLY) ((unhide HVA).keepF (unhide HWY)) lS (by have := unhide HZ; simp only [XE.el, EL.size]; omega) lr)
    have p0 := cl1 (unhide H0 Y (unhide HXY))
    obtain ⟨r0, r1⟩ := cl2 (unhide H2 Y (unhide HXY))
    clear kY
    go_wp2_with fail
    refine (unhide HGV).mono ?_
    rintro e w2 ⟨p, gs, ks, ge, ke, gr, kr, rfl, hG, hk2⟩
    have HG := hide hG
    have HX2 := hide ((unhide HXY).trans hk2)
    have HW2 := hide ((unhide HPK).trans (unhide HX2))
    have HY2 := hide hk2
    have HKX := hide (Keeps.refl (fun _ => False) w2)
    obtain ⟨y0, y1, y2, y3, y4⟩ := cl5 hG.blk
    obtain ⟨gk, ck, e3, hgk⟩ : ∃ gk ck, w2.cell? ⟨ge, 0 + 3, none⟩ = some (.slice (some ⟨gk, 0, none⟩) c.kids.len ck) ∧ WdSl (fun _ => True) w2 (.slice (some ⟨gk, 0, none⟩) c.kids.len ck) c.kids := by
      obtain ⟨g', cap', e', q1, q2, q3, q4, q5⟩ := hG.e
      simp only [Value.slice.injEq, Option.some.injEq, Addr.mk.injEq, and_true, true_and] at e'
      obtain ⟨rfl, rfl⟩ := e'
      obtain ⟨_, _, _, _, _, ⟨gk, ck, h6, h7, h8, h9, h10, h11⟩, _⟩ := q5
      exact ⟨gk, ck, h6, gk, ck, rfl, h7, h8, h9, h10, h11⟩
    have hce : w2.cell? ⟨ge, 0, none⟩ = some (.int .i64 c.op) ∧ w2.cell? ⟨ge, 0 + 1, none⟩ = some (.int .i64 c.n) ∧ w2.cell? ⟨ge, 0 + 2, none⟩ = some (str c.s) ∧ ge < w2.heap.size := by
      obtain ⟨g', cap', e', q1, q2, q3, q4, q5⟩ := hG.e
      simp only [Value.slice.injEq, Option.some.injEq, Addr.mk.injEq, and_true, true_and] at e'
      obtain ⟨rfl, rfl⟩ := e'
      exact ⟨q5.2.2.1, q5.2.2.2.1, q5.2.2.2.2.1, q2⟩
    have hpl := lt_of_block hG.blk
    have HC := hide (fun (W' : World) (hk : Keeps (fun _ => False) w2 W') => (⟨(hk.cell hpl id).trans y0, (hk.cell hpl id).trans y1, (hk.cell hpl id).trans y3, (hk.cell hpl id).trans y4, (hk.cell hce.2.2.2 id).trans hce.1, (hk.cell hce.2.2.2 id).trans hce.2.1, (hk.cell hce.2.2.2 id).trans hce.2.2.1, (hk.cell hce.2.2.2 id).trans e3⟩ :
      W'.cell? ⟨p, 0, none⟩ = some (.slice (some ⟨gs, 0, none⟩) S.length ks) ∧ W'.cell? ⟨p, 0 + 1, none⟩ = some (.slice (some ⟨ge, 0, none⟩) 1 ke) ∧ W'.cell? ⟨p, 0 + 3, none⟩ = some (.bool h) ∧ W'.cell? ⟨p, 0 + 3 + 1, none⟩ = some (.slice (some ⟨gr, 0, none⟩) vals.length kr) ∧ W'.cell? ⟨ge, 0, none⟩ = some (.int .i64 c.op) ∧ W'.cell? ⟨ge, 0 + 1, none⟩ = some (.int .i64 c.n) ∧ W'.cell? ⟨ge, 0 + 2, none⟩ = some (str c.s) ∧ W'.cell? ⟨ge, 0 + 3, none⟩ = some (.slice (some ⟨gk, 0, none⟩) c.kids.len ck)))
    have HV := hide (fun (W' : World) (hk : Keeps (fun _ => False) w2 W') => value_v _ S c.op c.n c.s c.kids (by have := unhide HZ; omega) h vals (.slice (some ⟨gs, 0, none⟩) S.length ks) (.slice (some ⟨gk, 0, none⟩) c.kids.len ck) (.slice (some ⟨gr, 0, none⟩) vals.length kr) W' 0 ((unhide HT).keepF ((unhide HW2).trans hk)) ((unhide HFM).keepF ((unhide HW2).trans hk)) (hG.s.row.keepF hk) ((hgk.slE 0).keepF hk) (hG.r.row.keepF hk))
    have HRV := hide (fun (W' : World) (hk : Keeps (fun _ => False) w W') => rvalue_v (argZ w.heap.size) S c.op c.n c.s c.kids (by have := unhide HZ; omega) h vals (.slice so S.length sc) (.slice xo c.kids.len xc) (.slice uo vals.length uc) W' 0 ((unhide HFL).keepF hk) ((unhide HCX).keepF hk) ((unhide HVA).keepF hk))
    have HST := hide (fun (W' : World) (hk : Keeps (fun _ => False) w2 W') => still0_v _ S (c.el .nil) h vals (.slice so S.length sc) (.slice (some ⟨w1.heap.size, 0, none⟩) 1 1) (.slice uo vals.length uc) W' 0 p gs ks ge ke gr kr (hG.keepF hk) ((unhide HFL).keepF ((unhide HW2).trans hk)) ((unhide HLY).keepF ((unhide HY2).trans hk)) ((unhide HVA).keepF ((unhide HW2).trans hk)) lS (by have := unhide HZ; simp only [XE.el, EL.size]; omega) lr)
    generalize hvp : valueP S c.op c.n c.s c.kids h vals = VP at *
    obtain ⟨x, xe⟩ := VP
    clear hvp hG hk2 y0 y1 y2 y3 y4 e3 hgk hce hpl c0 c1 c2 c3 p0 r0 r1 HGV
    go_upto_region 6 with fail
    rename_i Q0 K0 hc0
    refine wp_region_store (X := w2) (by kernel_rfl) 21 19 18 rfl (by decide) _ rfl [26, 27, 28, 29, 30, 31, 32, 33, 34, 35, 36, 37, 38, 39, 40, 25, 41, 42, 10, 10, 11] [0, 1, 2, 3, 4, 5, 6, 7, 8, 9, 10, 11, 12, 13, 14, 15, 16, 18] (by decide) (by first | rfl | kernel_rfl) (by kernel_rfl) (by decide) (by decide) (by decide) (by decide) (by decide) (unhide HKX) (fun i v W1 => match i with | 0 => v = .pointer (some ⟨p, 0, none⟩) | 1 => v = .pointer (some ⟨p, 0, none⟩) | 2 => v = .pointer (some ⟨p, 0, none⟩) | 3 => v = .agg #[.slice (some ⟨gs, 0, none⟩) S.length ks] | 4 => v = .pointer (some ⟨p, 0, none⟩) | 5 => v = .pointer (some ⟨p, 0, none⟩) | 6 => v = .pointer (some ⟨p, 0 + 1, none⟩) | 7 => v = .slice (some ⟨ge, 0, none⟩) 1 ke | 8 => v = .pointer (some ⟨ge, 0, none⟩) | 9 => v = .agg #[.int .i64 c.op, .int .i64 c.n, str c.s, .slice (some ⟨gk, 0, none⟩) c.kids.len ck] | 10 => v = .pointer (some ⟨p, 0, none⟩) | 11 => v = .pointer (some ⟨p, 0, none⟩) | 12 => v = .pointer (some ⟨p, 0 + 3, none⟩) | 13 => v = .agg #[.bool h, .slice (some ⟨gr, 0, none⟩) vals.length kr] | 14 => v = .tuple #[x.v, .int .i64 xe] | 15 => v = .tuple #[x.v, .int .i64 xe] | 16 => v = x.v | 17 => v = .int .i64 xe | 18 => isB41 w2.heap.size W1 v | 20 => v = .int .i64 xe | _ => True) ?_ (fun i v => match i with | 0 => v = .pointer (some ⟨p, 0, none⟩) | 1 => v = .pointer (some ⟨p, 0, none⟩) | 2 => v = .pointer (some ⟨p, 0, none⟩) | 3 => v = .agg #[.slice (some ⟨gs, 0, none⟩) S.length ks] | 4 => v = .pointer (some ⟨p, 0, none⟩) | 5 => v = .pointer (some ⟨p, 0, none⟩) | 6 => v = .pointer (some ⟨p, 0 + 1, none⟩) | 7 => v = .slice (some ⟨ge, 0, none⟩) 1 ke | 8 => v = .pointer (some ⟨ge, 0, none⟩) | 9 => v = .agg #[.int .i64 c.op, .int .i64 c.n, str c.s, .slice (some ⟨gk, 0, none⟩) c.kids.len ck] | 10 => v = .pointer (some ⟨p, 0, none⟩) | 11 => v = .pointer (some ⟨p, 0, none⟩) | 12 => v = .pointer (some ⟨p, 0 + 3, none⟩) | 13 => v = .agg #[.bool h, .slice (some ⟨gr, 0, none⟩) vals.length kr] | 14 => v = .tuple #[x.v, .int .i64 xe] | 15 => v = .tuple #[x.v, .int .i64 xe] | 16 => v = x.v | 17 => v = .int .i64 xe | 20 => v = .int .i64 xe | _ => True) ?_ (fun v W1 => ∃ g, v = .pointer (some ⟨g, 0, none⟩) ∧ w2.heap.size ≤ g ∧ W1.heap[g]? = some (.cells #[.int .i64 x.kind, .int .i64 x.n, str x.s] 41 (0, 0)) ∧ Keeps (fun _ => False) w2 W1) ?_ ?_ ?_ ?_
    · intro i v w1 w2 hq hk
      rcases i with _ | _ | _ | _ | _ | _ | _ | _ | _ | _ | _ | _ | _ | _ | _ | _ | _ | _ | _ | _ | _ | i
      all_goals first | exact hq | exact isB41.keep hq hk
    · intro i v w1 hq
      rcases i with _ | _ | _ | _ | _ | _ | _ | _ | _ | _ | _ | _ | _ | _ | _ | _ | _ | _ | _ | _ | _ | i
      all_goals first | exact hq | trivial
    · intro i o A W1 him his ho hs hk hd hne K' hK
      rcases i with _ | _ | _ | _ | _ | _ | _ | _ | _ | _ | _ | _ | _ | _ | _ | _ | _ | _ | _ | _ | _ | i
      · obtain rfl := Option.some.inj ho
        exact step_move rfl ((hs.at rfl 9 (by decide)).trans rfl) (hK _ _ rfl (Keeps.refl _ _))
      · obtain rfl := Option.some.inj ho
        exact step_nil rfl (hd ⟨0, .data⟩ (by simp) rfl (by decide)) (hK _ _ rfl (Keeps.refl _ _))
      · obtain rfl := Option.some.inj ho
        exact step_fieldG0 rfl (hd ⟨1, .data⟩ (by simp) rfl (by decide)) (hK _ _ rfl (Keeps.refl _ _))
      · obtain rfl := Option.some.inj ho
        exact step_load24c rfl (hd ⟨2, .data⟩ (by simp) rfl (by decide)) (unhide HC W1 hk).1 (hK _ _ rfl (Keeps.refl _ _))
      · obtain rfl := Option.some.inj ho
        exact step_move rfl ((hs.at rfl 9 (by decide)).trans rfl) (hK _ _ rfl (Keeps.refl _ _))
      · obtain rfl := Option.some.inj ho
        exact step_nil rfl (hd ⟨4, .data⟩ (by simp) rfl (by decide)) (hK _ _ rfl (Keeps.refl _ _))
      · obtain rfl := Option.some.inj ho
        exact step_fieldG1 rfl (hd ⟨5, .data⟩ (by simp) rfl (by decide)) (hK _ _ rfl (Keeps.refl _ _))
      · obtain rfl := Option.some.inj ho
        exact step_load25 rfl (hd ⟨6, .data⟩ (by simp) rfl (by decide)) (unhide HC W1 hk).2.1 (hK _ _ rfl (Keeps.refl _ _))
      · obtain rfl := Option.some.inj ho
        exact step_indexE0 rfl (hd ⟨7, .data⟩ (by simp) rfl (by decide)) (by decide) (hK _ _ rfl (Keeps.refl _ _))
      · obtain rfl := Option.some.inj ho
        exact step_loadE rfl (hd ⟨8, .data⟩ (by simp) rfl (by decide)) (unhide HC W1 hk).2.2.2.2.1 (unhide HC W1 hk).2.2.2.2.2.1 (unhide HC W1 hk).2.2.2.2.2.2.1 (unhide HC W1 hk).2.2.2.2.2.2.2 (hK _ _ rfl (Keeps.refl _ _))
      · obtain rfl := Option.some.inj ho
        exact step_move rfl ((hs.at rfl 9 (by decide)).trans rfl) (hK _ _ rfl (Keeps.refl _ _))
      · obtain rfl := Option.some.inj ho
        exact step_nil rfl (hd ⟨10, .data⟩ (by simp) rfl (by decide)) (hK _ _ rfl (Keeps.refl _ _))
      · obtain rfl := Option.some.inj ho
        exact step_fieldG3 rfl (hd ⟨11, .data⟩ (by simp) rfl (by decide)) (hK _ _ rfl (Keeps.refl _ _))
      · obtain rfl := Option.some.inj ho
        exact step_load31c rfl (hd ⟨12, .data⟩ (by simp) rfl (by decide)) (unhide HC W1 hk).2.2.1 (unhide HC W1 hk).2.2.2.1 (hK _ _ rfl (Keeps.refl _ _))
      · obtain rfl := Option.some.inj ho
        exact step_c13 rfl (hd ⟨3, .data⟩ (by simp) rfl (by decide)) (hd ⟨9, .data⟩ (by simp) rfl (by decide)) (hd ⟨13, .data⟩ (by simp) rfl (by decide)) (unhide HV W1 hk) (fun _ q => hK _ _ rfl q)
      · obtain rfl := Option.some.inj ho
        exact step_move rfl (hd ⟨14, .data⟩ (by simp) rfl (by decide)) (hK _ _ rfl (Keeps.refl _ _))
      · obtain rfl := Option.some.inj ho
        exact step_ext0 rfl (hd ⟨15, .data⟩ (by simp) rfl (by decide)) (hK _ _ rfl (Keeps.refl _ _))
      · obtain rfl := Option.some.inj ho
        exact step_ext1 rfl (hd ⟨15, .data⟩ (by simp) rfl (by decide)) (hK _ _ rfl (Keeps.refl _ _))
      · obtain rfl := Option.some.inj ho
        exact step_alloc41 rfl hk.size (fun v' w' h1 h2 => hK v' w' h1 h2)
      · exact absurd rfl his
      · obtain rfl := Option.some.inj ho
        exact step_assign rfl (hd ⟨17, .data⟩ (by simp) rfl (by decide)) (hK _ _ rfl (Keeps.refl _ _))
      · omega
    · intro A V hs hk hall K' hK
      have hb : isB41 w2.heap.size V (A.tmps.getD 10 undef) := hall 18 (by decide)
      have v16 : A.tmps.getD 41 undef = x.v := hall 16 (by decide)
      exact step_store41 (X := w2) (x := x) rfl rfl rfl v16 hb rfl hk (fun gg V2 hp hg hgb hkV => hK V2 ⟨gg, hp, hg, hgb, hkV⟩)
    · intro i o A W1 him his hni ho hd K' hK
      rcases i with _ | _ | _ | _ | _ | _ | _ | _ | _ | _ | _ | _ | _ | _ | _ | _ | _ | _ | _ | _ | _ | i
      · exact absurd (by decide) hni
      · exact absurd (by decide) hni
      · exact absurd (by decide) hni
      · exact absurd (by decide) hni
      · exact absurd (by decide) hni
      · exact absurd (by decide) hni
      · exact absurd (by decide) hni
      · exact absurd (by decide) hni
      · exact absurd (by decide) hni
      · exact absurd (by decide) hni
      · exact absurd (by decide) hni
      · exact absurd (by decide) hni
      · exact absurd (by decide) hni
      · exact absurd (by decide) hni
      · exact absurd (by decide) hni
      · exact absurd (by decide) hni
      · exact absurd (by decide) hni
      · obtain rfl := Option.some.inj ho
        exact step_ext1 rfl (hd ⟨15, .data⟩ (by simp) rfl (by decide)) (hK _ rfl)
      · exact absurd (by decide) hni
      · exact absurd rfl his
      · obtain rfl := Option.some.inj ho
        exact step_assign rfl (hd ⟨17, .data⟩ (by simp) rfl (by decide)) (hK _ rfl)
      · omega
    · intro A V2 hs hgx hall
      obtain ⟨gg, hp, hg, hgb, hkV⟩ : ∃ g, A.tmps.getD 10 undef = .pointer (some ⟨g, 0, none⟩) ∧ w2.heap.size ≤ g ∧ V2.heap[g]? = some (.cells #[.int .i64 x.kind, .int .i64 x.n, str x.s] 41 (0, 0)) ∧ Keeps (fun _ => False) w2 V2 := hgx
      have v0 : A.tmps.getD 26 undef = .pointer (some ⟨p, 0, none⟩) := hall 0 (by decide) (by decide)
      have v1 : A.tmps.getD 27 undef = .pointer (some ⟨p, 0, none⟩) := hall 1 (by decide) (by decide)
      have v2 : A.tmps.getD 28 undef = .pointer (some ⟨p, 0, none⟩) := hall 2 (by decide) (by decide)
      have v3 : A.tmps.getD 29 undef = .agg #[.slice (some ⟨gs, 0, none⟩) S.length ks] := hall 3 (by decide) (by decide)
      have v4 : A.tmps.getD 30 undef = .pointer (some ⟨p, 0, none⟩) := hall 4 (by decide) (by decide)
      have v5 : A.tmps.getD 31 undef = .pointer (some ⟨p, 0, none⟩) := hall 5 (by decide) (by decide)
      have v6 : A.tmps.getD 32 undef = .pointer (some ⟨p, 0 + 1, none⟩) := hall 6 (by decide) (by decide)
      have v7 : A.tmps.getD 33 undef = .slice (some ⟨ge, 0, none⟩) 1 ke := hall 7 (by decide) (by decide)
      have v8 : A.tmps.getD 34 undef = .pointer (some ⟨ge, 0, none⟩) := hall 8 (by decide) (by decide)
      have v9 : A.tmps.getD 35 undef = .agg #[.int .i64 c.op, .int .i64 c.n, str c.s, .slice (some ⟨gk, 0, none⟩) c.kids.len ck] := hall 9 (by decide) (by decide)
      have v10 : A.tmps.getD 36 undef = .pointer (some ⟨p, 0, none⟩) := hall 10 (by decide) (by decide)
      have v11 : A.tmps.getD 37 undef = .pointer (some ⟨p, 0, none⟩) := hall 11 (by decide) (by decide)
      have v12 : A.tmps.getD 38 undef = .pointer (some ⟨p, 0 + 3, none⟩) := hall 12 (by decide) (by decide)
      have v13 : A.tmps.getD 39 undef = .agg #[.bool h, .slice (some ⟨gr, 0, none⟩) vals.length kr] := hall 13 (by decide) (by decide)
      have v14 : A.tmps.getD 40 undef = .tuple #[x.v, .int .i64 xe] := hall 14 (by decide) (by decide)
      have v15 : A.tmps.getD 25 undef = .tuple #[x.v, .int .i64 xe] := hall 15 (by decide) (by decide)
      have v16 : A.tmps.getD 41 undef = x.v := hall 16 (by decide) (by decide)
      have v17 : A.tmps.getD 42 undef = .int .i64 xe := hall 17 (by decide) (by decide)
      have v20 : A.tmps.getD 11 undef = .int .i64 xe := hall 20 (by decide) (by decide)
      refine hc0 _ _ ?_
      have hA := same_fold hs rfl
      simp only [List.foldl_cons, List.foldl_nil, v0, v1, v2, v3, v4, v5, v6, v7, v8, v9, v10, v11, v12, v13, v14, v15, v16, v17, v20, hp] at hA
      simp only [Act.put, List.setIfInBounds_toArray, List.set_cons_zero, List.set_cons_succ] at hA
      have HB := hide (fun (W' : World) (q : Keeps (fun _ => False) V2 W') => (q.block _ (lt_of_block hgb) id).trans hgb)
      have HKV := hide hkV
      have HXV := hide ((unhide HX2).trans hkV)
      rw [hA]
      clear hs hall hA hp hg hgb hkV v20 v0 v1 v2 v3 v4 v5 v6 v7 v8 v9 v10 v11 v12 v13 v14 v15 v16 v17
      have p0 := cl1 (unhide H0 V2 (unhide HXV))
      obtain ⟨c0, c1, c2, c3⟩ := cl4 (unhide H1 V2 (unhide HXV))
      obtain ⟨r0, r1⟩ := cl2 (unhide H2 V2 (unhide HXV))
      skip
      go_wp2_with fail
      refine (unhide HRV V2 ((unhide HPK).trans (unhide HXV))).mono ?_
      rintro e w3 ⟨rfl, hk3⟩
      have kA := kAlloc w3 (.cells #[.int .i64 x.kind, .int .i64 x.n, str x.s] 41)
      have HV3 := hide (hk3.trans kA)
      have gB := heap_alloc_new w3 (.cells #[.int .i64 x.kind, .int .i64 x.n, str x.s] 41)
      obtain ⟨b0, b1, b2⟩ := cl3 gB
      obtain ⟨a0, a1, a2⟩ := cl3 (unhide HB _ (hk3.trans kA))
      unfold ValA.v
      clear hk3 kA gB p0 c0 c1 c2 c3 r0 r1
      generalize hY3 : w3.alloc (.cells #[.int .i64 x.kind, .int .i64 x.n, str x.s] 41) = Y3 at *
      have HEQ : Hid (Calls Tryz.prog 25 #[.agg #[.int .i64 x.kind, .int .i64 x.n, str x.s], .agg #[.int .i64 x.kind, .int .i64 x.n, str x.s]] Y3 fun e w' => e = .returned (.bool true) ∧ Keeps (fun _ => False) Y3 w') := by
        have := eqValue_any x x Y3
        rw [decide_eq_true (show x = x from rfl)] at this
        exact this
      go_wp2_with fail
      refine (unhide HEQ).mono ?_
      rintro e w4 ⟨rfl, hk4⟩
      have HV4 := hide ((unhide HV3).trans hk4)
      have p0 := cl1 (unhide H0 w4 ((unhide HXV).trans (unhide HV4)))
      obtain ⟨r0, r1⟩ := cl2 (unhide H2 w4 ((unhide HXV).trans (unhide HV4)))
      have ee : (xe == xe) = true := by simp
      clear hk4 a0 a1 a2 b0 b1 b2
      go_wp2_with fail
      refine (unhide HST w4 ((unhide HKV).trans (unhide HV4))).mono ?_
      rintro e w5 ⟨rfl, hk5⟩
      have HKE := hide ((((unhide HPK).trans (unhide HXV)).trans (unhide HV4)).trans hk5)
      clear hk5 p0 r0 r1
      go_wp2_with fail
      go_ret
      exact ⟨by first | rfl | simp, unhide HKE⟩

end Go.Proofs.YtiinohibmcefkaaGreatDoor
