import Derived.Test.YtiinohibmcefkaaGreatDoorWg0
import Derived.Deep.DeepCutAuto
namespace Go.Proofs.YtiinohibmcefkaaGreatDoor
open Go.RowKit Go.Maps

set_option maxRecDepth 100000 in
set_option maxHeartbeats 16000000 in
theorem if_walk (S : List FieldA) (c : XE) (p q : SL) (h : Bool) (vals : List ValA) (sv cv pv qv u : Value) (w : World) (hT : Types w) (hF : Forms w) (hf : FldsAt w sv S) (hc : SlE (argZ w.heap.size) w 0 cv c.kids) (hp : SlS (argZ w.heap.size) w 0 pv p) (hq : SlS (argZ w.heap.size) w 0 qv q) (hu : ValsAt w u vals) :
    Calls Tryz.prog 3 #[.agg #[sv], exV c.op c.n c.s cv, pv, qv, .agg #[.bool h, u]] w fun e w' => e = .returned (.bool true) ∧ Keeps (fun _ => False) w w' := by
  have HLAW := hide (if_law S c p q h vals)
  obtain ⟨so, sc, rfl⟩ := RowAt.form hf
  obtain ⟨xo, xc, rfl, _⟩ := hc.head
  obtain ⟨po, pc, rfl, _⟩ := hp.head
  obtain ⟨qo, qc, rfl, _⟩ := hq.head
  obtain ⟨uo, uc, rfl⟩ := RowAt.form hu
  obtain ⟨X, hX⟩ : ∃ X, ((w.alloc (.cells #[(.slice so S.length sc)] 24)).alloc (.cells #[.int .i64 c.op, .int .i64 c.n, str c.s, (.slice xo c.kids.len xc)] 27)).alloc (.cells #[.bool h, (.slice uo vals.length uc)] 31) = X := ⟨_, rfl⟩
  have PK : Keeps (fun _ => False) w X := hX ▸ ((((Keeps.refl _ w).alloc _).alloc _).alloc _)
  have P5 : X.heap[w.heap.size]? = some (.cells #[(.slice so S.length sc)] 24 (0, 0)) := hX ▸ ((((Keeps.refl (fun _ => False) _).alloc _).alloc _).block _ (by simp) id).trans (heap_alloc_new w _)
  have P6 : X.heap[w.heap.size + 1]? = some (.cells #[.int .i64 c.op, .int .i64 c.n, str c.s, (.slice xo c.kids.len xc)] 27 (0, 0)) := hX ▸ (((Keeps.refl (fun _ => False) _).alloc _).block _ (by simp) id).trans (alloc_at _ _ _ (by simp))
  have P9 : X.heap[w.heap.size + 1 + 1]? = some (.cells #[.bool h, (.slice uo vals.length uc)] 31 (0, 0)) := hX ▸ alloc_at _ _ _ (by simp)
  have ALL := hide (fun (W' : World) (hk : Keeps (fun _ => False) X W') => (by
    have a := (hk.block _ (lt_of_block P5) id).trans P5
    have b := (hk.block _ (lt_of_block P6) id).trans P6
    have d := (hk.block _ (lt_of_block P9) id).trans P9
    exact ⟨hide (PK.trans hk), (cell_of_blk a _).trans rfl, (cell_of_blk b _).trans rfl, (cell_of_blk b _).trans rfl, (cell_of_blk b _).trans rfl, (cell_of_blk b _).trans rfl, (cell_of_blk d _).trans rfl, (cell_of_blk d _).trans rfl⟩ : Hid (Keeps (fun _ => False) w W') ∧ W'.cell? ⟨w.heap.size, 0, none⟩ = some (.slice so S.length sc) ∧ W'.cell? ⟨w.heap.size + 1, 0, none⟩ = some (.int .i64 c.op) ∧ W'.cell? ⟨w.heap.size + 1, 1, none⟩ = some (.int .i64 c.n) ∧ W'.cell? ⟨w.heap.size + 1, 2, none⟩ = some (str c.s) ∧ W'.cell? ⟨w.heap.size + 1, 3, none⟩ = some (.slice xo c.kids.len xc) ∧ W'.cell? ⟨w.heap.size + 1 + 1, 0, none⟩ = some (.bool h) ∧ W'.cell? ⟨w.heap.size + 1 + 1, 1, none⟩ = some (.slice uo vals.length uc)))
  have HN1 := hide (near_v _ 0 (c.el .nil) (.slice (some ⟨X.heap.size, 0, none⟩) 1 1) (X.alloc (.cells #[.int .i64 c.op, .int .i64 c.n, str c.s, (.slice xo c.kids.len xc)] 27)) (Nat.le_refl _) (isL_new (w := X) (l := c.el .nil) (xs := [.int .i64 c.op, .int .i64 c.n, str c.s, (.slice xo c.kids.len xc)]) ⟨_, _, rfl, sl_top hc PK, rfl⟩))
  have HN2 := fun W' (hk : Keeps (fun _ => False) w W') => hide (nears_v w.heap.size 0 p (.slice po p.len pc) W' hk.size (hp.keepF hk))
  have HN3 := fun W' (hk : Keeps (fun _ => False) w W') => hide (nears_v w.heap.size 0 q (.slice qo q.len qc) W' hk.size (hq.keepF hk))
  have HWK := fun W' (hk : Keeps (fun _ => False) w W') => hide (works_v W' (hT.keepF hk) (hF.keepF hk))
  have HR := fun W' (hk : Keeps (fun _ => False) w W') (l : SL) (z : l.size ≤ 4294967294) N lv (hl : SlS (argZ N) W' 0 lv l) => hide (mrun_v (argZ N) S l z h vals (.slice so S.length sc) (.slice uo vals.length uc) lv W' 0 (hT.keepF hk) (hF.keepF hk) (hf.keepF hk) (hu.keepF hk) hl)
  have HV := fun (z : c.kids.size + 1 ≤ 4294967294) W' (hk : Keeps (fun _ => False) w W') => hide (value_v (argZ w.heap.size) S c.op c.n c.s c.kids z h vals (.slice so S.length sc) (.slice xo c.kids.len xc) (.slice uo vals.length uc) W' 0 (hT.keepF hk) (hF.keepF hk) (hf.keepF hk) (hc.keepF hk) (hu.keepF hk))
  have HC := hide hc
  have HP := hide hp
  have HQ := hide hq
  have s0 := unhide ALL X (Keeps.refl _ _)
  clear hT hF hf hc hp hq hu P5 P6 P9 PK
  go_enter Tryz.func3, Tryz.ntmps3
  go_wp2_with fail
  refine (unhide HN1).mono ?_
  rintro e w1 ⟨r1, rfl, hk1, hz1⟩
  have ALL := hide (fun (W' : World) (hk : Keeps (fun _ => False) w1 W') => unhide ALL W' (((kAlloc X _).trans hk1).trans hk))
  have s1 := unhide ALL w1 (Keeps.refl _ _)
  clear hk1 s0 HN1
  cases r1 with
  | true =>
    clear hz1
    go_wp2_with fail
    go_ret
    exact ⟨rfl, unhide s1.1⟩
  | false =>
    have zc := hide (hz1 rfl)
    clear hz1
    go_wp2_with fail
    refine (unhide (HN2 _ (unhide s1.1))).mono ?_
    rintro e w2 ⟨r2, rfl, hk2, hz2⟩
    have ALL := hide (fun (W' : World) (hk : Keeps (fun _ => False) w2 W') => unhide ALL W' (hk2.trans hk))
    have s2 := unhide ALL w2 (Keeps.refl _ _)
    clear hk2 s1
    cases r2 with
    | true =>
      clear hz2
      go_wp2_with fail
      go_ret
      exact ⟨rfl, unhide s2.1⟩
    | false =>
      have zp := hide (hz2 rfl)
      clear hz2
      go_wp2_with fail
      refine (unhide (HN3 _ (unhide s2.1))).mono ?_
      rintro e w3 ⟨r3, rfl, hk3, hz3⟩
      have ALL := hide (fun (W' : World) (hk : Keeps (fun _ => False) w3 W') => unhide ALL W' (hk3.trans hk))
      have s3 := unhide ALL w3 (Keeps.refl _ _)
      clear hk3 s2
      cases r3 with
      | true =>
        clear hz3
        go_wp2_with fail
        go_ret
        exact ⟨rfl, unhide s3.1⟩
      | false =>
        have zq := hide (hz3 rfl)
        clear hz3 HN2 HN3
        go_wp2_with fail
        refine (unhide (HWK _ (unhide s3.1))).mono ?_
        rintro e w4 ⟨rfl, hk4⟩
        have ALL := hide (fun (W' : World) (hk : Keeps (fun _ => False) w4 W') => unhide ALL W' (hk4.trans hk))
        clear hk4 s3 HWK
        go_upto_region 6 with fail
        obtain ⟨Y1, hY1⟩ : ∃ Y, w4.alloc (.cells #[.int .i64 2, .int .i64 1, .string ⟨#[]⟩, .slice none 0 0] 27) = Y := ⟨_, rfl⟩
        rw [hY1]
        go_upto_region 7 with fail
        obtain ⟨Y2, hY2⟩ : ∃ Y, Y1.alloc (.cells #[.int .i64 2, .int .i64 0, .string ⟨#[]⟩, .slice none 0 0] 27) = Y := ⟨_, rfl⟩
        rw [hY2]
        have t2 := unhide ALL Y2 ((hY1 ▸ kAlloc w4 _ : Keeps (fun _ => False) w4 Y1).trans (hY2 ▸ kAlloc Y1 _))
        obtain ⟨Y3, hY3⟩ : ∃ Y, Y2.alloc (.cells #[.int .i64 c.op, .int .i64 c.n, str c.s, (.slice xo c.kids.len xc)] 27) = Y := ⟨_, rfl⟩
        go_upto_region 8 with fail
        obtain ⟨Y4, hY4⟩ : ∃ Y, Y3.alloc (.cells #[.int .i64 7, .int .i64 0, .string ⟨#[]⟩, .slice (some ⟨Y2.heap.size, 0, none⟩) 1 1] 27) = Y := ⟨_, rfl⟩
        rw [hY4]
        have K1 : Keeps (fun _ => False) w4 Y1 := hY1 ▸ kAlloc w4 _
        have K2 : Keeps (fun _ => False) Y1 Y2 := hY2 ▸ kAlloc Y1 _
        have K3 : Keeps (fun _ => False) Y2 Y3 := hY3 ▸ kAlloc Y2 _
        have K4 : Keeps (fun _ => False) Y3 Y4 := hY4 ▸ kAlloc Y3 _
        have B1 : Y1.heap[w4.heap.size]? = some (.cells #[.int .i64 2, .int .i64 1, .string ⟨#[]⟩, .slice none 0 0] 27 (0, 0)) := hY1 ▸ heap_alloc_new w4 _
        have B2 : Y2.heap[Y1.heap.size]? = some (.cells #[.int .i64 2, .int .i64 0, .string ⟨#[]⟩, .slice none 0 0] 27 (0, 0)) := hY2 ▸ heap_alloc_new Y1 _
        have B4 : Y4.heap[Y3.heap.size]? = some (.cells #[.int .i64 7, .int .i64 0, .string ⟨#[]⟩, .slice (some ⟨Y2.heap.size, 0, none⟩) 1 1] 27 (0, 0)) := hY4 ▸ heap_alloc_new Y3 _
        have HSN : Hid (SlE (argZ Y3.heap.size) Y3 0 (.slice (some ⟨Y2.heap.size, 0, none⟩) 1 1) (c.el .nil)) := hY3 ▸ isL_new (w := Y2) (l := c.el .nil) (xs := [.int .i64 c.op, .int .i64 c.n, str c.s, (.slice xo c.kids.len xc)]) ⟨_, _, rfl, sl_top (unhide HC) (unhide (unhide ALL Y2 (K1.trans K2)).1), rfl⟩
        clear t2
        have ALL := hide (fun (W' : World) (hk : Keeps (fun _ => False) Y4 W') => (by
          have b1 := (((K2.trans (K3.trans K4)).trans hk).block _ (lt_of_block B1) id).trans B1
          have b2 := (((K3.trans K4).trans hk).block _ (lt_of_block B2) id).trans B2
          have b4 := (hk.block _ (lt_of_block B4) id).trans B4
          exact ⟨⟨(cell_of_blk b1 _).trans rfl, (cell_of_blk b1 _).trans rfl, (cell_of_blk b1 _).trans rfl, (cell_of_blk b1 _).trans rfl, (cell_of_blk b2 _).trans rfl, (cell_of_blk b2 _).trans rfl, (cell_of_blk b2 _).trans rfl, (cell_of_blk b2 _).trans rfl, (cell_of_blk b4 _).trans rfl, (cell_of_blk b4 _).trans rfl, (cell_of_blk b4 _).trans rfl, (cell_of_blk b4 _).trans rfl⟩, unhide ALL W' ((((K1.trans K2).trans K3).trans K4).trans hk)⟩ :
          (W'.cell? ⟨w4.heap.size, 0, none⟩ = some (.int .i64 2) ∧ W'.cell? ⟨w4.heap.size, 1, none⟩ = some (.int .i64 1) ∧ W'.cell? ⟨w4.heap.size, 2, none⟩ = some (.string ⟨#[]⟩) ∧ W'.cell? ⟨w4.heap.size, 3, none⟩ = some (.slice none 0 0) ∧
            W'.cell? ⟨Y1.heap.size, 0, none⟩ = some (.int .i64 2) ∧ W'.cell? ⟨Y1.heap.size, 1, none⟩ = some (.int .i64 0) ∧ W'.cell? ⟨Y1.heap.size, 2, none⟩ = some (.string ⟨#[]⟩) ∧ W'.cell? ⟨Y1.heap.size, 3, none⟩ = some (.slice none 0 0) ∧
            W'.cell? ⟨Y3.heap.size, 0, none⟩ = some (.int .i64 7) ∧ W'.cell? ⟨Y3.heap.size, 1, none⟩ = some (.int .i64 0) ∧ W'.cell? ⟨Y3.heap.size, 2, none⟩ = some (.string ⟨#[]⟩) ∧ W'.cell? ⟨Y3.heap.size, 3, none⟩ = some (.slice (some ⟨Y2.heap.size, 0, none⟩) 1 1)) ∧ _))
        have HY34 := hide K4
        clear K1 K2 K3 B1 B2 B4
        have HLEN := fun (l : SL) => hide (chain_len S [l] h vals)
        have l1 : Hid ((runP S (ifS c p p) h vals).1.2.length ≤ 8) := HLEN (ifS c p p)
        have l2 : Hid ((runP S (ifS c p q) h vals).1.2.length ≤ 8) := HLEN (ifS c p q)
        have l3 : Hid ((runP S (ifS (mk1 7 c) q p) h vals).1.2.length ≤ 8) := HLEN (ifS (mk1 7 c) q p)
        have l4 : Hid ((runP S (ifS trueX p q) h vals).1.2.length ≤ 8) := HLEN (ifS trueX p q)
        have l5 : Hid ((runP S (ifS falseX q p) h vals).1.2.length ≤ 8) := HLEN (ifS falseX q p)
        have l6 : Hid ((runP S p h vals).1.2.length ≤ 8) := HLEN p
        have l7 : Hid ((runP S q h vals).1.2.length ≤ 8) := HLEN q
        have HR1 := fun W' (hk : Keeps (fun _ => False) w W') (hY : Keeps (fun _ => False) Y3 W') => HR ((W'.alloc (.cells #[.int .i64 c.op, .int .i64 c.n, str c.s, (.slice xo c.kids.len xc)] 27)).alloc (.cells #[.int .i64 8, .string ⟨#[]⟩, .slice (some ⟨W'.heap.size, 0, none⟩) 1 1, (.slice po p.len pc), (.slice po p.len pc)] 39)) ((hk.alloc _).alloc _) (ifS c p p) (by have z1 := unhide zc; have z2 := unhide zp; have z3 := unhide zq; simp only [XE.el, EL.size] at z1; simp only [XE.el, EL.size, ifS, SL.size]; omega) _ (.slice (some ⟨W'.heap.size + 1, 0, none⟩) 1 1) (if_list (c := c) (xo := xo) (xc := xc) hk (sl_top (unhide HC) hk) (unhide HP) (unhide HP))
        have HR2 := fun W' (hk : Keeps (fun _ => False) w W') (hY : Keeps (fun _ => False) Y3 W') => HR ((W'.alloc (.cells #[.int .i64 c.op, .int .i64 c.n, str c.s, (.slice xo c.kids.len xc)] 27)).alloc (.cells #[.int .i64 8, .string ⟨#[]⟩, .slice (some ⟨W'.heap.size, 0, none⟩) 1 1, (.slice po p.len pc), (.slice qo q.len qc)] 39)) ((hk.alloc _).alloc _) (ifS c p q) (by have z1 := unhide zc; have z2 := unhide zp; have z3 := unhide zq; simp only [XE.el, EL.size] at z1; simp only [XE.el, EL.size, ifS, SL.size]; omega) _ (.slice (some ⟨W'.heap.size + 1, 0, none⟩) 1 1) (if_list (c := c) (xo := xo) (xc := xc) hk (sl_top (unhide HC) hk) (unhide HP) (unhide HQ))
        have HR3 := fun W' (hk : Keeps (fun _ => False) w W') (hY : Keeps (fun _ => False) Y3 W') => HR ((W'.alloc (.cells #[.int .i64 7, .int .i64 0, .string ⟨#[]⟩, .slice (some ⟨Y2.heap.size, 0, none⟩) 1 1] 27)).alloc (.cells #[.int .i64 8, .string ⟨#[]⟩, .slice (some ⟨W'.heap.size, 0, none⟩) 1 1, (.slice qo q.len qc), (.slice po p.len pc)] 39)) ((hk.alloc _).alloc _) (ifS (mk1 7 c) q p) (by have z1 := unhide zc; have z2 := unhide zp; have z3 := unhide zq; simp only [XE.el, EL.size] at z1; simp only [mk1, XE.el, EL.size, ifS, SL.size]; omega) _ (.slice (some ⟨W'.heap.size + 1, 0, none⟩) 1 1) (if_list (c := (mk1 7 c)) (xo := some ⟨Y2.heap.size, 0, none⟩) (xc := 1) hk (sl_top (unhide HSN) (show Keeps (fun _ => False) Y3 W' from hY)) (unhide HQ) (unhide HP))
        have HR4 := fun W' (hk : Keeps (fun _ => False) w W') (hY : Keeps (fun _ => False) Y3 W') => HR ((W'.alloc (.cells #[.int .i64 2, .int .i64 1, .string ⟨#[]⟩, .slice none 0 0] 27)).alloc (.cells #[.int .i64 8, .string ⟨#[]⟩, .slice (some ⟨W'.heap.size, 0, none⟩) 1 1, (.slice po p.len pc), (.slice qo q.len qc)] 39)) ((hk.alloc _).alloc _) (ifS trueX p q) (by have z1 := unhide zc; have z2 := unhide zp; have z3 := unhide zq; simp only [XE.el, EL.size] at z1; simp only [trueX, XE.el, EL.size, ifS, SL.size]; omega) _ (.slice (some ⟨W'.heap.size + 1, 0, none⟩) 1 1) (if_list (c := trueX) (xo := none) (xc := 0) hk (nilE _ _ _) (unhide HP) (unhide HQ))
        have HR5 := fun W' (hk : Keeps (fun _ => False) w W') (hY : Keeps (fun _ => False) Y3 W') => HR ((W'.alloc (.cells #[.int .i64 2, .int .i64 0, .string ⟨#[]⟩, .slice none 0 0] 27)).alloc (.cells #[.int .i64 8, .string ⟨#[]⟩, .slice (some ⟨W'.heap.size, 0, none⟩) 1 1, (.slice qo q.len qc), (.slice po p.len pc)] 39)) ((hk.alloc _).alloc _) (ifS falseX q p) (by have z1 := unhide zc; have z2 := unhide zp; have z3 := unhide zq; simp only [XE.el, EL.size] at z1; simp only [falseX, XE.el, EL.size, ifS, SL.size]; omega) _ (.slice (some ⟨W'.heap.size + 1, 0, none⟩) 1 1) (if_list (c := falseX) (xo := none) (xc := 0) hk (nilE _ _ _) (unhide HQ) (unhide HP))
        have HR6 := fun W' (hk : Keeps (fun _ => False) w W') => HR W' hk p (by have z2 := unhide zp; omega) _ (.slice po p.len pc) ((unhide HP).keepF hk)
        have HR7 := fun W' (hk : Keeps (fun _ => False) w W') => HR W' hk q (by have z2 := unhide zq; omega) _ (.slice qo q.len qc) ((unhide HQ).keepF hk)
        have HV := HV (by have z1 := unhide zc; simp only [XE.el, EL.size] at z1; omega)
        simp only [XE.ans] at HLAW
        clear HR HLEN zc zp zq
        generalize runP S (ifS c p p) h vals = R1 at *
        generalize runP S (ifS c p q) h vals = R2 at *
        generalize runP S (ifS (mk1 7 c) q p) h vals = R3 at *
        generalize runP S (ifS trueX p q) h vals = R4 at *
        generalize runP S (ifS falseX q p) h vals = R5 at *
        generalize runP S p h vals = R6 at *
        generalize runP S q h vals = R7 at *
        generalize valueP S c.op c.n c.s c.kids h vals = RV at *
        obtain ⟨⟨R1h, R1v⟩, R1e⟩ := R1
        obtain ⟨⟨R2h, R2v⟩, R2e⟩ := R2
        obtain ⟨⟨R3h, R3v⟩, R3e⟩ := R3
        obtain ⟨⟨R4h, R4v⟩, R4e⟩ := R4
        obtain ⟨⟨R5h, R5v⟩, R5e⟩ := R5
        obtain ⟨⟨R6h, R6v⟩, R6e⟩ := R6
        obtain ⟨⟨R7h, R7v⟩, R7e⟩ := R7
        obtain ⟨⟨Vk, Vn, Vs⟩, Ve⟩ := RV
        simp only [ValA.v] at HV
        have t4 := unhide ALL Y4 (Keeps.refl _ _)
        obtain ⟨A1, hA1⟩ : ∃ Y, Y4.alloc (.cells #[.int .i64 c.op, .int .i64 c.n, str c.s, (.slice xo c.kids.len xc)] 27) = Y := ⟨_, rfl⟩
        have KA1 : Keeps (fun _ => False) Y4 A1 := hA1 ▸ kAlloc Y4 _
        obtain ⟨G1, hG1⟩ : ∃ Y, A1.alloc (.cells #[.int .i64 8, .string ⟨#[]⟩, .slice (some ⟨Y4.heap.size, 0, none⟩) 1 1, (.slice po p.len pc), (.slice po p.len pc)] 39) = Y := ⟨_, rfl⟩
        have KG1 : Keeps (fun _ => False) A1 G1 := hG1 ▸ kAlloc A1 _
        have HC1 := HR1 Y4 (unhide t4.2.1) (unhide HY34)
        have hAs1 : A1.heap.size = Y4.heap.size + 1 := by rw [← hA1]; simp
        rw [hA1, hG1, ← hAs1] at HC1
        clear hAs1
        have a1 := unhide ALL A1 KA1
        have g1 := unhide ALL G1 (KA1.trans KG1)
        have HKG1 := hide (KA1.trans KG1)
        clear KA1 KG1
        go_wp2_with fail
        refine (unhide HC1).mono ?_
        rintro e v1 ⟨b1, c1, rfl, hown, hk1⟩
        have RB := row_box (h := R1h) hown
        have ALL := hide (fun (W' : World) (hk : Keeps (fun _ => False) (v1.alloc (.cells #[.bool R1h, .slice b1 R1v.length c1] 31)) W') => And.intro (RB W' hk) (unhide ALL W' (((unhide HKG1).trans hk1).trans ((kAlloc v1 _).trans hk))))
        have HYY := hide ((unhide HY34).trans (((unhide HKG1).trans hk1).trans (kAlloc v1 (.cells #[.bool R1h, .slice b1 R1v.length c1] 31))))
        generalize hV1 : v1.alloc (.cells #[.bool R1h, .slice b1 R1v.length c1] 31) = V1 at *
        have s1 := unhide ALL V1 (Keeps.refl _ _)
        clear hk1 hown RB a1 g1 HC1 HKG1 HR1 t4
        obtain ⟨A2, hA2⟩ : ∃ Y, V1.alloc (.cells #[.int .i64 c.op, .int .i64 c.n, str c.s, (.slice xo c.kids.len xc)] 27) = Y := ⟨_, rfl⟩
        have KA2 : Keeps (fun _ => False) V1 A2 := hA2 ▸ kAlloc V1 _
        obtain ⟨G2, hG2⟩ : ∃ Y, A2.alloc (.cells #[.int .i64 8, .string ⟨#[]⟩, .slice (some ⟨V1.heap.size, 0, none⟩) 1 1, (.slice po p.len pc), (.slice qo q.len qc)] 39) = Y := ⟨_, rfl⟩
        have KG2 : Keeps (fun _ => False) A2 G2 := hG2 ▸ kAlloc A2 _
        have HC2 := HR2 V1 (unhide s1.2.2.1) (unhide HYY)
        have hAs2 : A2.heap.size = V1.heap.size + 1 := by rw [← hA2]; simp
        rw [hA2, hG2, ← hAs2] at HC2
        clear hAs2
        have a2 := unhide ALL A2 KA2
        have g2 := unhide ALL G2 (KA2.trans KG2)
        have HKG2 := hide (KA2.trans KG2)
        clear KA2 KG2
        go_wp2_with fail
        refine (unhide HC2).mono ?_
        rintro e v2 ⟨b2, c2, rfl, hown, hk2⟩
        have RB := row_box (h := R2h) hown
        have ALL := hide (fun (W' : World) (hk : Keeps (fun _ => False) (v2.alloc (.cells #[.bool R2h, .slice b2 R2v.length c2] 31)) W') => And.intro (RB W' hk) (unhide ALL W' (((unhide HKG2).trans hk2).trans ((kAlloc v2 _).trans hk))))
        have HYY := hide ((unhide HYY).trans (((unhide HKG2).trans hk2).trans (kAlloc v2 (.cells #[.bool R2h, .slice b2 R2v.length c2] 31))))
        generalize hV2 : v2.alloc (.cells #[.bool R2h, .slice b2 R2v.length c2] 31) = V2 at *
        have s2 := unhide ALL V2 (Keeps.refl _ _)
        clear hk2 hown RB a2 g2 HC2 HKG2 HR2 s1
        obtain ⟨A3, hA3⟩ : ∃ Y, V2.alloc (.cells #[.int .i64 7, .int .i64 0, .string ⟨#[]⟩, .slice (some ⟨Y2.heap.size, 0, none⟩) 1 1] 27) = Y := ⟨_, rfl⟩
        have KA3 : Keeps (fun _ => False) V2 A3 := hA3 ▸ kAlloc V2 _
        obtain ⟨G3, hG3⟩ : ∃ Y, A3.alloc (.cells #[.int .i64 8, .string ⟨#[]⟩, .slice (some ⟨V2.heap.size, 0, none⟩) 1 1, (.slice qo q.len qc), (.slice po p.len pc)] 39) = Y := ⟨_, rfl⟩
        have KG3 : Keeps (fun _ => False) A3 G3 := hG3 ▸ kAlloc A3 _
        have HC3 := HR3 V2 (unhide s2.2.2.2.1) (unhide HYY)
        have hAs3 : A3.heap.size = V2.heap.size + 1 := by rw [← hA3]; simp
        rw [hA3, hG3, ← hAs3] at HC3
        clear hAs3
        have a3 := unhide ALL A3 KA3
        have g3 := unhide ALL G3 (KA3.trans KG3)
        have HKG3 := hide (KA3.trans KG3)
        clear KA3 KG3
        go_wp2_with fail
        refine (unhide HC3).mono ?_
        rintro e v3 ⟨b3, c3, rfl, hown, hk3⟩
        have RB := row_box (h := R3h) hown
        have ALL := hide (fun (W' : World) (hk : Keeps (fun _ => False) (v3.alloc (.cells #[.bool R3h, .slice b3 R3v.length c3] 31)) W') => And.intro (RB W' hk) (unhide ALL W' (((unhide HKG3).trans hk3).trans ((kAlloc v3 _).trans hk))))
        have HYY := hide ((unhide HYY).trans (((unhide HKG3).trans hk3).trans (kAlloc v3 (.cells #[.bool R3h, .slice b3 R3v.length c3] 31))))
        generalize hV3 : v3.alloc (.cells #[.bool R3h, .slice b3 R3v.length c3] 31) = V3 at *
        have s3 := unhide ALL V3 (Keeps.refl _ _)
        clear hk3 hown RB a3 g3 HC3 HKG3 HR3 s2
        obtain ⟨A4, hA4⟩ : ∃ Y, V3.alloc (.cells #[.int .i64 2, .int .i64 1, .string ⟨#[]⟩, .slice none 0 0] 27) = Y := ⟨_, rfl⟩
        have KA4 : Keeps (fun _ => False) V3 A4 := hA4 ▸ kAlloc V3 _
        obtain ⟨G4, hG4⟩ : ∃ Y, A4.alloc (.cells #[.int .i64 8, .string ⟨#[]⟩, .slice (some ⟨V3.heap.size, 0, none⟩) 1 1, (.slice po p.len pc), (.slice qo q.len qc)] 39) = Y := ⟨_, rfl⟩
        have KG4 : Keeps (fun _ => False) A4 G4 := hG4 ▸ kAlloc A4 _
        have HC4 := HR4 V3 (unhide s3.2.2.2.2.1) (unhide HYY)
        have hAs4 : A4.heap.size = V3.heap.size + 1 := by rw [← hA4]; simp
        rw [hA4, hG4, ← hAs4] at HC4
        clear hAs4
        have a4 := unhide ALL A4 KA4
        have g4 := unhide ALL G4 (KA4.trans KG4)
        have HKG4 := hide (KA4.trans KG4)
        clear KA4 KG4
        go_wp2_with fail
        refine (unhide HC4).mono ?_
        rintro e v4 ⟨b4, c4, rfl, hown, hk4⟩
        have RB := row_box (h := R4h) hown
        have ALL := hide (fun (W' : World) (hk : Keeps (fun _ => False) (v4.alloc (.cells #[.bool R4h, .slice b4 R4v.length c4] 31)) W') => And.intro (RB W' hk) (unhide ALL W' (((unhide HKG4).trans hk4).trans ((kAlloc v4 _).trans hk))))
        have HYY := hide ((unhide HYY).trans (((unhide HKG4).trans hk4).trans (kAlloc v4 (.cells #[.bool R4h, .slice b4 R4v.length c4] 31))))
        generalize hV4 : v4.alloc (.cells #[.bool R4h, .slice b4 R4v.length c4] 31) = V4 at *
        have s4 := unhide ALL V4 (Keeps.refl _ _)
        clear hk4 hown RB a4 g4 HC4 HKG4 HR4 s3
        obtain ⟨A5, hA5⟩ : ∃ Y, V4.alloc (.cells #[.int .i64 2, .int .i64 0, .string ⟨#[]⟩, .slice none 0 0] 27) = Y := ⟨_, rfl⟩
        have KA5 : Keeps (fun _ => False) V4 A5 := hA5 ▸ kAlloc V4 _
        obtain ⟨G5, hG5⟩ : ∃ Y, A5.alloc (.cells #[.int .i64 8, .string ⟨#[]⟩, .slice (some ⟨V4.heap.size, 0, none⟩) 1 1, (.slice qo q.len qc), (.slice po p.len pc)] 39) = Y := ⟨_, rfl⟩
        have KG5 : Keeps (fun _ => False) A5 G5 := hG5 ▸ kAlloc A5 _
        have HC5 := HR5 V4 (unhide s4.2.2.2.2.2.1) (unhide HYY)
        have hAs5 : A5.heap.size = V4.heap.size + 1 := by rw [← hA5]; simp
        rw [hA5, hG5, ← hAs5] at HC5
        clear hAs5
        have a5 := unhide ALL A5 KA5
        have g5 := unhide ALL G5 (KA5.trans KG5)
        have HKG5 := hide (KA5.trans KG5)
        clear KA5 KG5
        go_wp2_with fail
        refine (unhide HC5).mono ?_
        rintro e v5 ⟨b5, c5, rfl, hown, hk5⟩
        have RB := row_box (h := R5h) hown
        have ALL := hide (fun (W' : World) (hk : Keeps (fun _ => False) (v5.alloc (.cells #[.bool R5h, .slice b5 R5v.length c5] 31)) W') => And.intro (RB W' hk) (unhide ALL W' (((unhide HKG5).trans hk5).trans ((kAlloc v5 _).trans hk))))
        have HYY := hide ((unhide HYY).trans (((unhide HKG5).trans hk5).trans (kAlloc v5 (.cells #[.bool R5h, .slice b5 R5v.length c5] 31))))
        generalize hV5 : v5.alloc (.cells #[.bool R5h, .slice b5 R5v.length c5] 31) = V5 at *
        have s5 := unhide ALL V5 (Keeps.refl _ _)
        clear hk5 hown RB a5 g5 HC5 HKG5 HR5 s4
        go_wp2_with fail
        refine (unhide (HR6 V5 (unhide s5.2.2.2.2.2.2.1))).mono ?_
        rintro e v6 ⟨b6, c6, rfl, hown, hk6⟩
        have RB := row_box (h := R6h) hown
        have ALL := hide (fun (W' : World) (hk : Keeps (fun _ => False) (v6.alloc (.cells #[.bool R6h, .slice b6 R6v.length c6] 31)) W') => And.intro (RB W' hk) (unhide ALL W' (hk6.trans ((kAlloc v6 _).trans hk))))
        generalize hV6 : v6.alloc (.cells #[.bool R6h, .slice b6 R6v.length c6] 31) = V6 at *
        have s6 := unhide ALL V6 (Keeps.refl _ _)
        clear hk6 hown RB HR6 s5
        go_wp2_with fail
        refine (unhide (HR7 V6 (unhide s6.2.2.2.2.2.2.2.1))).mono ?_
        rintro e v7 ⟨b7, c7, rfl, hown, hk7⟩
        have RB := row_box (h := R7h) hown
        have ALL := hide (fun (W' : World) (hk : Keeps (fun _ => False) (v7.alloc (.cells #[.bool R7h, .slice b7 R7v.length c7] 31)) W') => And.intro (RB W' hk) (unhide ALL W' (hk7.trans ((kAlloc v7 _).trans hk))))
        generalize hV7 : v7.alloc (.cells #[.bool R7h, .slice b7 R7v.length c7] 31) = V7 at *
        have s7 := unhide ALL V7 (Keeps.refl _ _)
        clear hk7 hown RB HR7 s6
        go_wp2_with fail
        refine (unhide (HV V7 (unhide s7.2.2.2.2.2.2.2.2.1))).mono ?_
        rintro e v8 ⟨rfl, hk8⟩
        have RB := fun (W' : World) (hk : Keeps (fun _ => False) (v8.alloc (.cells #[.int .i64 Vk, .int .i64 Vn, str Vs] 41)) W') => (by
          have g := (hk.block _ (lt_of_block (heap_alloc_new v8 _)) id).trans (heap_alloc_new v8 (.cells #[.int .i64 Vk, .int .i64 Vn, str Vs] 41))
          exact ⟨(cell_of_blk g _).trans rfl, (cell_of_blk g _).trans rfl⟩ : W'.cell? ⟨v8.heap.size, 0, none⟩ = some (.int .i64 Vk) ∧ W'.cell? ⟨v8.heap.size, 1, none⟩ = some (.int .i64 Vn))
        have ALL := hide (fun (W' : World) (hk : Keeps (fun _ => False) (v8.alloc (.cells #[.int .i64 Vk, .int .i64 Vn, str Vs] 41)) W') => And.intro (RB W' hk) (unhide ALL W' (hk8.trans ((kAlloc v8 _).trans hk))))
        generalize hV8 : v8.alloc (.cells #[.int .i64 Vk, .int .i64 Vn, str Vs] 41) = V8 at *
        clear hk8 RB HV s7
        have HL := unhide HLAW
        clear HLAW
        try simp only at HL
        obtain ⟨M1, M2, M3, M4, M5⟩ := HL
        have L1 := hide M1
        have L2 := hide M2
        have L3 := hide M3
        have L4 := hide M4
        have L5 := hide M5
        clear M1 M2 M3 M4 M5
        obtain ⟨⟨f8a, f8b⟩, ⟨f7a, f7b, F7⟩, ⟨f6a, f6b, F6⟩, ⟨f5a, f5b, F5⟩, ⟨f4a, f4b, F4⟩, ⟨f3a, f3b, F3⟩, ⟨f2a, f2b, F2⟩, ⟨f1a, f1b, F1⟩, _, FK, _⟩ := unhide ALL V8 (Keeps.refl _ _)
        go_upto_region 18 with fail
        go_cut [144] (fun c wx => c = .bool false ∧ Keeps (fun _ => False) V8 wx)
        case first =>
          cases n1 : (R1e == 0) with
          | false =>
            go_wp2_with fail
            go_meet
            exact ⟨rfl, Keeps.refl _ _⟩
          | true =>
            obtain ⟨m1, m2⟩ := unhide L1 (by simpa using n1)
            have HQ16 := hide (eq_pair m2)
            have n6 : (R6e != 0) = false := by simp [m1]
            clear m1 m2
            go_wp2_with fail
            refine (eqRow_v V8 R1h R6h (.slice b1 R1v.length c1) (.slice b6 R6v.length c6) R1v R6v (unhide F1) (unhide F6) (by have := unhide l1; unfold maxLen; omega)).mono ?_
            rintro e wq ⟨rfl, hkq⟩
            rw [unhide HQ16]
            have HKq := hide hkq
            clear hkq
            go_wp2_with fail
            go_meet
            exact ⟨rfl, unhide HKq⟩
        case rest =>
          obtain ⟨rfl, hkc⟩ := hcut
          have ALL := hide (fun (W' : World) (hk : Keeps (fun _ => False) wc W') => unhide ALL W' (hkc.trans hk))
          clear hkc
          clear f8a f8b f7a f7b f6a f6b f5a f5b f4a f4b f3a f3b f2a f2b f1a f1b
          obtain ⟨⟨f8a, f8b⟩, ⟨f7a, f7b, F7⟩, ⟨f6a, f6b, F6⟩, ⟨f5a, f5b, F5⟩, ⟨f4a, f4b, F4⟩, ⟨f3a, f3b, F3⟩, ⟨f2a, f2b, F2⟩, ⟨f1a, f1b, F1⟩, _, FK, _⟩ := unhide ALL wc (Keeps.refl _ _)
          go_upto_region 20 with fail
          go_cut [185] (fun c wx => c = .bool false ∧ Keeps (fun _ => False) wc wx)
          case first =>
            cases n2 : (R2e == 0) with
            | false =>
              go_wp2_with fail
              go_meet
              exact ⟨rfl, Keeps.refl _ _⟩
            | true =>
              obtain ⟨m1, m3, m4, m5, m6⟩ := unhide L2 (by simpa using n2)
              have n6 : (R6e != 0) = false := by simp [m1]
              have n7 : (R7e != 0) = false := by simp [m3]
              have n8 : (Ve != 0) = false := by simp [m4]
              have n9 : (Vk != 2) = false := by simp [m5]
              clear m1 m3 m4 m5
              rcases m6 with ⟨q1, q2⟩ | ⟨q1, q2⟩
              · have k1 : (Vn == 1) = true := by simp [q1]
                have k2 : (Vn != 1) = false := by simp [q1]
                have HQ26 := hide (eq_pair q2)
                clear q1 q2
                go_wp2_with fail
                refine (eqRow_v wc R2h R6h (.slice b2 R2v.length c2) (.slice b6 R6v.length c6) R2v R6v (unhide F2) (unhide F6) (by have := unhide l2; unfold maxLen; omega)).mono ?_
                rintro e wq ⟨rfl, hkq⟩
                rw [unhide HQ26]
                have HKq := hide hkq
                clear hkq
                clear f8a f8b f7a f7b f6a f6b f5a f5b f4a f4b f3a f3b f2a f2b f1a f1b
                obtain ⟨⟨f8a, f8b⟩, ⟨f7a, f7b, F7⟩, ⟨f6a, f6b, F6⟩, ⟨f5a, f5b, F5⟩, ⟨f4a, f4b, F4⟩, ⟨f3a, f3b, F3⟩, ⟨f2a, f2b, F2⟩, ⟨f1a, f1b, F1⟩, _, FK, _⟩ := unhide ALL wq (unhide HKq)
                go_wp2_with fail
                go_meet
                exact ⟨rfl, unhide HKq⟩
              · have k1 : (Vn == 1) = false := by simp [q1]
                have k2 : (Vn != 1) = true := by simp [q1]
                have HQ27 := hide (eq_pair q2)
                clear q1 q2
                go_wp2_with fail
                refine (eqRow_v wc R2h R7h (.slice b2 R2v.length c2) (.slice b7 R7v.length c7) R2v R7v (unhide F2) (unhide F7) (by have := unhide l2; unfold maxLen; omega)).mono ?_
                rintro e wq ⟨rfl, hkq⟩
                rw [unhide HQ27]
                have HKq := hide hkq
                clear hkq
                go_wp2_with fail
                go_meet
                exact ⟨rfl, unhide HKq⟩
          case rest =>
            obtain ⟨rfl, hkc⟩ := hcut
            have ALL := hide (fun (W' : World) (hk : Keeps (fun _ => False) wc W') => unhide ALL W' (hkc.trans hk))
            clear hkc
            clear f8a f8b f7a f7b f6a f6b f5a f5b f4a f4b f3a f3b f2a f2b f1a f1b
            obtain ⟨⟨f8a, f8b⟩, ⟨f7a, f7b, F7⟩, ⟨f6a, f6b, F6⟩, ⟨f5a, f5b, F5⟩, ⟨f4a, f4b, F4⟩, ⟨f3a, f3b, F3⟩, ⟨f2a, f2b, F2⟩, ⟨f1a, f1b, F1⟩, _, FK, _⟩ := unhide ALL wc (Keeps.refl _ _)
            go_upto_region 22 with fail
            go_cut [197] (fun c wx => c = .bool false ∧ Keeps (fun _ => False) wc wx)
            case first =>
              cases n3 : (R3e == 0) with
              | false =>
                go_wp2_with fail
                go_meet
                exact ⟨rfl, Keeps.refl _ _⟩
              | true =>
                obtain ⟨m1, m2⟩ := unhide L3 (by simpa using n3)
                have HQ23 := hide (eq_pair m2)
                have n6 : (R2e != 0) = false := by simp [m1]
                clear m1 m2
                go_wp2_with fail
                refine (eqRow_v wc R2h R3h (.slice b2 R2v.length c2) (.slice b3 R3v.length c3) R2v R3v (unhide F2) (unhide F3) (by have := unhide l2; unfold maxLen; omega)).mono ?_
                rintro e wq ⟨rfl, hkq⟩
                rw [unhide HQ23]
                have HKq := hide hkq
                clear hkq
                go_wp2_with fail
                go_meet
                exact ⟨rfl, unhide HKq⟩
            case rest =>
              obtain ⟨rfl, hkc⟩ := hcut
              have ALL := hide (fun (W' : World) (hk : Keeps (fun _ => False) wc W') => unhide ALL W' (hkc.trans hk))
              clear hkc
              clear f8a f8b f7a f7b f6a f6b f5a f5b f4a f4b f3a f3b f2a f2b f1a f1b
              obtain ⟨⟨f8a, f8b⟩, ⟨f7a, f7b, F7⟩, ⟨f6a, f6b, F6⟩, ⟨f5a, f5b, F5⟩, ⟨f4a, f4b, F4⟩, ⟨f3a, f3b, F3⟩, ⟨f2a, f2b, F2⟩, ⟨f1a, f1b, F1⟩, _, FK, _⟩ := unhide ALL wc (Keeps.refl _ _)
              cases n4 : (R4e != 0) with
              | true =>
                cases n5 : (R5e != 0) with
                | true =>
                  go_wp2_with fail
                  go_ret
                  exact ⟨by first | rfl | simp, unhide FK⟩
                | false =>
                  have m := unhide L5 (by simpa using n5)
                  have HQ56 := hide (eq_pair m)
                  clear m
                  go_wp2_with fail
                  refine (eqRow_v wc R5h R6h (.slice b5 R5v.length c5) (.slice b6 R6v.length c6) R5v R6v (unhide F5) (unhide F6) (by have := unhide l5; unfold maxLen; omega)).mono ?_
                  rintro e wr ⟨rfl, hkq⟩
                  rw [unhide HQ56]
                  have HKr := hide hkq
                  clear hkq
                  go_wp2_with fail
                  go_ret
                  exact ⟨by first | rfl | simp, (unhide FK).trans (unhide HKr)⟩
              | false =>
                have m := unhide L4 (by simpa using n4)
                have HQ46 := hide (eq_pair m)
                clear m
                go_wp2_with fail
                refine (eqRow_v wc R4h R6h (.slice b4 R4v.length c4) (.slice b6 R6v.length c6) R4v R6v (unhide F4) (unhide F6) (by have := unhide l4; unfold maxLen; omega)).mono ?_
                rintro e wq ⟨rfl, hkq⟩
                rw [unhide HQ46]
                have HKq := hide hkq
                clear hkq
                clear f8a f8b f7a f7b f6a f6b f5a f5b f4a f4b f3a f3b f2a f2b f1a f1b
                obtain ⟨⟨f8a, f8b⟩, ⟨f7a, f7b, F7⟩, ⟨f6a, f6b, F6⟩, ⟨f5a, f5b, F5⟩, ⟨f4a, f4b, F4⟩, ⟨f3a, f3b, F3⟩, ⟨f2a, f2b, F2⟩, ⟨f1a, f1b, F1⟩, _, FK, _⟩ := unhide ALL wq (unhide HKq)
                cases n5 : (R5e != 0) with
                | true =>
                  go_wp2_with fail
                  go_ret
                  exact ⟨by first | rfl | simp, unhide FK⟩
                | false =>
                  have m := unhide L5 (by simpa using n5)
                  have HQ56 := hide (eq_pair m)
                  clear m
                  go_wp2_with fail
                  refine (eqRow_v wq R5h R6h (.slice b5 R5v.length c5) (.slice b6 R6v.length c6) R5v R6v (unhide F5) (unhide F6) (by have := unhide l5; unfold maxLen; omega)).mono ?_
                  rintro e wr ⟨rfl, hkq⟩
                  rw [unhide HQ56]
                  have HKr := hide hkq
                  clear hkq
                  go_wp2_with fail
                  go_ret
                  exact ⟨by first | rfl | simp, (unhide FK).trans (unhide HKr)⟩
theorem if_door (S : List FieldA) (op n : Int) (s : Txt) (kids : EL) (p q : SL) (h : Bool) (vals : List ValA) (sv cv pv qv u : Value) (w : World) (hT : Types w) (hF : Forms w) (hf : FldsAt w sv S) (hc : SlE (argZ w.heap.size) w 0 cv kids) (hp : SlS (argZ w.heap.size) w 0 pv p) (hq : SlS (argZ w.heap.size) w 0 qv q) (hu : ValsAt w u vals) :
    Calls Tryz.prog 3 #[.agg #[sv], exV op n s cv, pv, qv, .agg #[.bool h, u]] w fun e w' => e = .returned (.bool true) ∧ Keeps (fun _ => False) w w' := if_walk S ⟨op, n, s, kids⟩ p q h vals sv cv pv qv u w hT hF hf hc hp hq hu
end Go.Proofs.YtiinohibmcefkaaGreatDoor
