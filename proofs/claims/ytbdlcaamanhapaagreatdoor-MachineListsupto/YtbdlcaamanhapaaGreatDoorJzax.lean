import Derived.Test.YtbdlcaamanhapaaGreatDoorJzaw
namespace Go.Proofs.YtbdlcaamanhapaaGreatDoor
open Go.RowKit Go.Maps
set_option maxRecDepth 100000
set_option maxHeartbeats 6000000
theorem stepRB2_v (S : List Wq) (sv lv tv rv : Value) (l : List ValA) (k : Nat) (m : MS) (x : ValA) (z : ValA) (w : World) (hS : Wt w sv S) (hl : Wr w lv l) (hst : Wr w tv m.st) (hr : Wr w rv m.vals) (hx : l[k]? = some x) (hk : k ≤ 1024) (h16 : m.st.length ≤ 16) (tp sc2 : ValA) (i1 i2 : Nat) (hi1 : m.st.length = i1 + 1) (hi2 : m.st.length = i2 + 2) (htp : m.st[i1]? = some tp) (hsc : m.st[i2]? = some sc2) (hP : ∀ (W : World) (sv rv : Value), Wt W sv S → Wr W rv m.vals → Calls Tryz.prog 59 #[.agg #[sv], x.v, .agg #[.bool m.here, rv]] W fun e w' => e = .returned (.tuple #[zV.v, .bool false]) ∧ Wp (fun _ => False) W w') (hT : ∀ W : World, Calls Tryz.prog 61 #[.int .i64 x.kind, tp.v] W fun e w' => e = .returned (.tuple #[z.v, .bool true]) ∧ Wp (fun _ => False) W w') :
  Calls Tryz.prog 42 #[.agg #[sv], lv, .agg #[.int .i64 (k : Int), tv, .bool m.here, rv]] w fun e w' => StatesTo w tv rv (k + 1) ⟨m.st.take (m.st.length - 1) ++ [z], m.here, m.vals⟩ e w' := by
 obtain ⟨st', hst'⟩ : ∃ st', m.st.take (m.st.length - 1) = st' := ⟨_, rfl⟩
 rw [hst']
 have HW0 : Hid (∀ (W2 : World) (vv : Value), Wr W2 vv m.st → Calls Tryz.prog 60 #[vv, .int .i64 1] W2 fun e w' => ∃ v', e = .returned v' ∧ w'.ownsRow W2.heap.size 51 3 v' st'.length (vcs st') ∧ Wp (fun _ => False) W2 w') := fun W2 vv hvv => by
  have h := without_v W2 vv m.st 1 hvv (by omega) (by omega)
  rw [hst'] at h
  have e : m.st.length - 1 = st'.length := by rw [← hst']; simp
  rw [e] at h
  exact h
 have hn16 : st'.length ≤ 1024 := by rw [← hst']; simp; omega
 clear hst'
 obtain ⟨zz, hzz⟩ : ∃ zz, zV = zz := ⟨_, rfl⟩
 have HZZ := zB hzz
 rw [hzz] at hP
 clear hzz
 obtain ⟨so, sc, rfl⟩ := Ws.form hS
 obtain ⟨tb, tof, tc, e, htb, htc⟩ := hst.cells (by omega)
 subst e
 obtain ⟨ro, rc, rfl⟩ := Ws.form hr
 obtain ⟨lb, lof, lc, e, hlb, hlc⟩ := hl.cells (by have := (List.getElem?_eq_some_iff.1 hx).1; omega)
 subst e
 have hkl : (k : Int) < (l.length : Int) := by have := (List.getElem?_eq_some_iff.1 hx).1; omega
 have hk0 : (0 : Int) ≤ (k : Int) := by omega
 obtain ⟨N, hN⟩ : ∃ N, m.st.length = N := ⟨_, rfl⟩
 have HNN := zB hN
 rw [hN]
 rw [hN] at hst h16 hi1 hi2
 obtain ⟨W, hW, hkW, f0, f1, f2⟩ := boxes3 w #[.slice so S.length sc] #[.int .i64 (k : Int), .slice (some ⟨tb, tof, none⟩) N tc, .bool m.here, .slice ro m.vals.length rc] #[.int .i64 0, .slice none 0 0, .bool false, .slice none 0 0] 24 78 78
 have c0 := (hkW.cell hlb id).trans (hlc k x hx).1
 have c1 := (hkW.cell hlb id).trans (hlc k x hx).2.1
 have c2 := (hkW.cell hlb id).trans (hlc k x hx).2.2
 have t0 := (htc i1 tp htp).1
 have t1 := (htc i1 tp htp).2.1
 have t2 := (htc i1 tp htp).2.2
 have d0 := (htc i2 sc2 hsc).1
 have d1 := (htc i2 sc2 hsc).2.1
 have d2 := (htc i2 sc2 hsc).2.2
 have e1 : (N : Int) - 1 = (i1 : Int) := by omega
 have e2 : (N : Int) - 2 = (i2 : Int) := by omega
 have n1 : (0 : Int) < (N : Int) := by omega
 have n2 : (1 : Int) < (N : Int) := by omega
 have n3 : (i1 : Int) < (N : Int) := by omega
 have n4 : (i2 : Int) < (N : Int) := by omega
 have n5 : (0 : Int) ≤ (i1 : Int) := by omega
 have n6 : (0 : Int) ≤ (i2 : Int) := by omega
 clear hi1 hi2
 obtain ⟨w0, w1, w2, w3⟩ := cl4 f1
 have hsW : W.heap.size = w.heap.size + 1 + 1 + 1 := by rw [← hW]; simp
 have kV := kA W (.cells #[.int .i64 x.kind, .int .i64 x.n, str x.s] 60)
 have g3 := heap_alloc_new W (.cells #[.int .i64 x.kind, .int .i64 x.n, str x.s] 60)
 rw [hsW] at g3
 generalize hV : W.alloc (.cells #[.int .i64 x.kind, .int .i64 x.n, str x.s] 60) = V at *
 have hkV := hkW.trans kV
 have g0 := zD f0 kV
 have g1 := zD f1 kV
 have g2 := zD f2 kV
 have HKV := zB hkV
 have HT : Hid (Wr V (.slice (some ⟨tb, tof, none⟩) N tc) m.st) := hst.keepF hkV
 have HR := zB (hr.keepF hkV)
 have HSV := zB (hS.keepF hkV)
 have p0 := cl1 g0
 obtain ⟨q0, q1, q2, q3⟩ := cl4 g1
 obtain ⟨r0, r1, r2⟩ := cl3 g3
 have htV : tb < V.heap.size := Nat.lt_of_lt_of_le htb hkV.size
 replace t0 := (hkV.cell htb id).trans t0
 replace t1 := (hkV.cell htb id).trans t1
 replace t2 := (hkV.cell htb id).trans t2
 replace d0 := (hkV.cell htb id).trans d0
 replace d1 := (hkV.cell htb id).trans d1
 replace d2 := (hkV.cell htb id).trans d2
 have hsz : w.heap.size + 1 + 1 + 1 < V.heap.size := zE g3
 have hw1 : IntKind.i64.wrap ((k : Int) + 1) = (k : Int) + 1 := wrap_small (by omega) (by omega)
 have HQP := zB (hP V _ _ (zA HSV) (zA HR))
 rw [show x.v = .agg #[.int .i64 x.kind, .int .i64 x.n, str x.s] from rfl, show zz.v = .agg #[.int .i64 zz.kind, .int .i64 zz.n, str zz.s] from rfl] at HQP
 have HQT := zB hT
 rw [show tp.v = .agg #[.int .i64 tp.kind, .int .i64 tp.n, str tp.s] from rfl, show z.v = .agg #[.int .i64 z.kind, .int .i64 z.n, str z.s] from rfl] at HQT
 clear hS hr hl hlc hx hkV f0 f1 f2 kV hkW hP hT hst htc htp hsc hN
 go_enter Tryz.func42, Tryz.ntmps42
 go_wp2_with fail
 refine (zA HQP).mono ?_
 rintro e w1 ⟨rfl, hk1⟩
 have hs1 : w.heap.size + 1 + 1 + 1 < w1.heap.size := Nat.lt_of_lt_of_le hsz hk1.size
 obtain ⟨Y, hY, kY, y9, y11, y12⟩ := boxes3 w1 #[.int .i64 zz.kind, .int .i64 zz.n, str zz.s] #[.int .i64 0, .int .i64 0, .string ⟨#[]⟩] #[.int .i64 0, .int .i64 0, .string ⟨#[]⟩] 51 51 51
 have kVY := hk1.trans kY
 have B0 := zD g0 kVY
 have B1 := zD g1 kVY
 have B2 := zD g2 kVY
 have B3 := zD g3 kVY
 have hVs : V.heap.size ≤ w1.heap.size := hk1.size
 obtain ⟨ys0, ys1, ys2, ys3⟩ := cl4 B1
 obtain ⟨zf0, zf1, zf2⟩ := fz3 y12
 obtain ⟨zc0, zc1, zc2⟩ := cl3 y12
 have tY0 := (kVY.cell htV id).trans t0
 have tY1 := (kVY.cell htV id).trans t1
 have tY2 := (kVY.cell htV id).trans t2
 obtain ⟨Y1, hY1, y12n, kY1⟩ := stored3 y12 tp
 replace B0 := kb B0 kY1 (by omega)
 replace B1 := kb B1 kY1 (by omega)
 replace B2 := kb B2 kY1 (by omega)
 replace B3 := kb B3 kY1 (by omega)
 replace y9 := kb y9 kY1 (by omega)
 replace y11 := kb y11 kY1 (by omega)
 replace y12 := y12n
 clear y12n
 have kVY1 := kVY.fresh (by omega) kY1
 obtain ⟨y1s0, y1s1, y1s2, y1s3⟩ := cl4 B1
 obtain ⟨xf0, xf1, xf2⟩ := fz3 y11
 obtain ⟨xc0, xc1, xc2⟩ := cl3 y11
 have dY0 := (kVY1.cell htV id).trans d0
 have dY1 := (kVY1.cell htV id).trans d1
 have dY2 := (kVY1.cell htV id).trans d2
 obtain ⟨Y2, hY2, y11n, kY2⟩ := stored3 y11 sc2
 replace B0 := kb B0 kY2 (by omega)
 replace B1 := kb B1 kY2 (by omega)
 replace B2 := kb B2 kY2 (by omega)
 replace B3 := kb B3 kY2 (by omega)
 replace y9 := kb y9 kY2 (by omega)
 replace y12 := kb y12 kY2 (by omega)
 replace y11 := y11n
 clear y11n
 have kVY2 := kVY1.fresh (by omega) kY2
 obtain ⟨ic0, ic1, ic2⟩ := cl3 B3
 obtain ⟨bc0, bc1, bc2⟩ := cl3 y12
 have HKC := zB kVY2
 have E0 := zB B0
 have E1 := zB B1
 have E2 := zB B2
 have E3 := zB B3
 have E9 := zB y9
 have E11 := zB y11
 have E12 := zB y12
 clear B0 B1 B2 B3 y9 y11 y12 hk1 kY kVY HQP g0 g1 g2 g3 kY1 kVY1 kY2 kVY2
 go_wp2_with fail
 refine (zA HQT _).mono ?_
 rintro e w2 ⟨rfl, hk2⟩
 have kV2 := (zA HKC).trans hk2
 have B0 := zD (zA E0) hk2
 have B1 := zD (zA E1) hk2
 have B2 := zD (zA E2) hk2
 have B3 := zD (zA E3) hk2
 have y9 := zD (zA E9) hk2
 have y11 := zD (zA E11) hk2
 have y12 := zD (zA E12) hk2
 obtain ⟨gf0, gf1, gf2⟩ := fz3 y9
 obtain ⟨gc0, gc1, gc2⟩ := cl3 y9
 obtain ⟨X, hX, y9n, kX⟩ := stored3 y9 z
 replace B0 := kb B0 kX (by omega)
 replace B1 := kb B1 kX (by omega)
 replace B2 := kb B2 kX (by omega)
 replace B3 := kb B3 kX (by omega)
 replace y11 := kb y11 kX (by omega)
 replace y12 := kb y12 kX (by omega)
 replace y9 := y9n
 clear y9n
 have kVX := kV2.fresh (by omega) kX
 have HTX := zB ((zA HT).keepF kVX)
 have HRX := zB ((zA HR).keepF kVX)
 have HWX := zB ((zA HKV).trans kVX)
 have HSX := zB ((zA HSV).keepF kVX)
 have HKX := zB (Wp.refl (fun _ => False) X)
 have H2 := zB B2
 have HSK : Hid (∀ w', Wp (fun q => q = w.heap.size + 1 + 1) X w' → w'.cell? ⟨w.heap.size + 1, 0, none⟩ = some (.int .i64 (k : Int)) ∧ w'.cell? ⟨w.heap.size + 1, 1, none⟩ = some (.slice (some ⟨tb, tof, none⟩) N tc) ∧ w'.cell? ⟨w.heap.size + 1, 2, none⟩ = some (.bool m.here) ∧ w'.cell? ⟨w.heap.size + 1, 3, none⟩ = some (.slice ro m.vals.length rc) ∧ w'.cell? ⟨w1.heap.size, 0, none⟩ = some (.int .i64 z.kind) ∧ w'.cell? ⟨w1.heap.size, 1, none⟩ = some (.int .i64 z.n) ∧ w'.cell? ⟨w1.heap.size, 2, none⟩ = some (str z.s)) := fun w' hk => by
  have x1 := (hk.block _ (zE B1) (by omega)).trans B1
  have x2 := (hk.block _ (zE y9) (by omega)).trans y9
  exact ⟨(zC x1 _).trans rfl, (zC x1 _).trans rfl, (zC x1 _).trans rfl, (zC x1 _).trans rfl, (zC x2 _).trans rfl, (zC x2 _).trans rfl, (zC x2 _).trans rfl⟩
 obtain ⟨a0, a1, a2, a3, a4, a5, a6⟩ := zA HSK X (Wp.refl _ _)
 clear B0 B1 B2 B3 y9 y11 y12
 go_wp2_with fail
 go_region_held3 (fun w' => w'.cell? ⟨w.heap.size + 1, 0, none⟩ = some (.int .i64 (k : Int)) ∧ w'.cell? ⟨w.heap.size + 1, 1, none⟩ = some (.slice (some ⟨tb, tof, none⟩) N tc) ∧ w'.cell? ⟨w.heap.size + 1, 2, none⟩ = some (.bool m.here) ∧ w'.cell? ⟨w.heap.size + 1, 3, none⟩ = some (.slice ro m.vals.length rc) ∧ w'.cell? ⟨w1.heap.size, 0, none⟩ = some (.int .i64 z.kind) ∧ w'.cell? ⟨w1.heap.size, 1, none⟩ = some (.int .i64 z.n) ∧ w'.cell? ⟨w1.heap.size, 2, none⟩ = some (str z.s))
  (first | with_reducible exact zA HSK _ (zA HKX).any | with_reducible exact zA HSK _ (zA HKX).drew.any | with_reducible exact zA HSK _ ((zA HKX).alloc _).any | with_reducible exact zA HSK _ ((zA HKX).alloc _).drew.any | with_reducible exact zA HSK _ ((zA HKX).any.trans (Wu _ _ _ _ _ _)))
  ((first
  | (go_at_call 60; (with_reducible refine (zA HW0 _ _ ((zA HTX).keepF (zA HKX).drew)).mono ?_); rintro e w5 ⟨v', rfl, hown, hk⟩; obtain ⟨ao, c, rfl⟩ := Ws.form (zG hown); have HOW := zB (ownsRow_lower hown (Nat.le_of_eq (by simp) : X.heap.size ≤ X.drew.heap.size)); have HKX := zB ((zA HKX).drew.trans hk); clear hk hown)
  | (go_at_call 60; (with_reducible refine (zA HW0 _ _ ((zA HTX).keepF ((zA HKX).alloc _).drew)).mono ?_); rintro e w5 ⟨v', rfl, hown, hk⟩; obtain ⟨ao, c, rfl⟩ := Ws.form (zG hown); have HOW := zB (ownsRow_lower hown (by simp : X.heap.size ≤ (X.alloc (.cells #[.int .i64 z.kind, .int .i64 z.n, str z.s] 51)).drew.heap.size)); have HBQ := zB (zD (heap_alloc_new X (.cells #[.int .i64 z.kind, .int .i64 z.n, str z.s] 51)) ((Wp.refl _ _).drew.trans hk)); have HKX := zB (((zA HKX).alloc (.cells #[.int .i64 z.kind, .int .i64 z.n, str z.s] 51)).drew.trans hk); clear hk hown)
  | (refine step_app1 (by rfl) _ _ (by rfl) X.heap.size ao st'.length c (vcs st') (by rfl) (zA HOW) X.heap.size z (by rfl) (zA HBQ) hn16 (zA HKX).size ?_; intro g cap w6 how5 hgr5; have HKX := zB ((zA HKX).grown hgr5 (fun q e hq => by have := ((zA HOW).lt q e).1; omega)); have hb5 := zD (zA H2) (zA HKX); obtain ⟨m0, m1, m2, m3⟩ := cl4 hb5; obtain ⟨z0, z1, z2, z3⟩ := fz4 hb5; have HB5 := zB hb5; clear hb5; have HO5 := zB how5; clear how5 hgr5)
  | (refine step_app1 (by rfl) _ _ (by rfl) X.heap.size ao st'.length c (vcs st') (by rfl) ((zA HOW).alloc _) w5.heap.size z (by rfl) (heap_alloc_new w5 _) hn16 (by have := (zA HKX).size; simp; omega) ?_; intro g cap w6 how5 hgr5; have HKX := zB (((zA HKX).alloc _).grown hgr5 (fun q e hq => by have := ((zA HOW).lt q e).1; omega)); have hb5 := zD (zA H2) (zA HKX); obtain ⟨m0, m1, m2, m3⟩ := cl4 hb5; obtain ⟨z0, z1, z2, z3⟩ := fz4 hb5; have HB5 := zB hb5; clear hb5; have HO5 := zB how5; clear how5 hgr5)))
 all_goals go_wp2_with fail
 all_goals
  obtain ⟨s0, s1, s2, s3⟩ := set4c (zA HB5) (.int .i64 ((k : Int) + 1)) (.slice (some ⟨g, 0, none⟩) (st'.length + 1) cap) (.bool m.here) (.slice ro m.vals.length rc)
  refine bodyPost_ret (v := .agg #[.int .i64 ((k : Int) + 1), .slice (some ⟨g, 0, none⟩) (st'.length + 1) cap, .bool m.here, .slice ro m.vals.length rc]) (by simp [results, go_sem, s0, s1, s2, s3]) rfl ?_
  have k4 := Wu w6 (w.heap.size + 1 + 1) (.int .i64 ((k : Int) + 1)) (.slice (some ⟨g, 0, none⟩) (st'.length + 1) cap) (.bool m.here) (.slice ro m.vals.length rc)
  have hv5 : Wr w6 (.slice (some ⟨g, 0, none⟩) (st'.length + 1) cap) (st' ++ [z]) := by
   have h := zG (zA HO5)
   rw [← vcs_snoc] at h
   have e : (st' ++ [z]).length = st'.length + 1 := by simp
   show Ws _ _ _ _
   rw [e]
   exact h
  have e : st'.length + 1 = (st' ++ [z]).length := by simp
  refine ⟨some ⟨g, 0, none⟩, cap, ro, rc, ?_, ?_, ?_, Or.inr (fun q e => Nat.le_trans (zA HWX).size (by have := ((zA HO5).lt g rfl).1; simp [Value.ownBlock] at e; omega)), Or.inl rfl, ?_⟩
  ·show _ = Ending.returned (.agg #[.int .i64 ((k + 1 : Nat) : Int), .slice (some ⟨g, 0, none⟩) (st' ++ [z]).length cap, .bool m.here, .slice ro m.vals.length rc])
   rw [← e]
   rfl
  ·show Wr _ (.slice (some ⟨g, 0, none⟩) (st' ++ [z]).length cap) (st' ++ [z])
   rw [← e]
   exact vO hv5 (zA HB5) (off4 (by simp)) k4
  ·exact vO ((zA HRX).keepF (zA HKX)) (zA HB5) (off4 (by simp)) k4
  ·exact ((zA HWX).trans (zA HKX)).fresh (by omega) k4
theorem stepRJ0_v (S : List Wq) (sv lv tv rv : Value) (l : List ValA) (k : Nat) (m : MS) (x : ValA) (w : World) (hS : Wt w sv S) (hl : Wr w lv l) (hst : Wr w tv m.st) (hr : Wr w rv m.vals) (hx : l[k]? = some x) (hk : k ≤ 1024) (h16 : m.st.length ≤ 16) (hN0 : m.st.length = 0) (hP : ∀ (W : World) (sv rv : Value), Wt W sv S → Wr W rv m.vals → Calls Tryz.prog 59 #[.agg #[sv], x.v, .agg #[.bool m.here, rv]] W fun e w' => e = .returned (.tuple #[zV.v, .bool false]) ∧ Wp (fun _ => False) W w') (hT : ∀ W : World, Calls Tryz.prog 61 #[.int .i64 x.kind, .agg #[.int .i64 0, .int .i64 0, .string ⟨#[]⟩]] W fun e w' => e = .returned (.tuple #[zV.v, .bool false]) ∧ Wp (fun _ => False) W w') (hJ : ∀ W : World, Calls Tryz.prog 62 #[.int .i64 x.kind, .agg #[.int .i64 0, .int .i64 0, .string ⟨#[]⟩], .agg #[.int .i64 0, .int .i64 0, .string ⟨#[]⟩]] W fun e w' => e = .returned (.tuple #[zV.v, .bool false]) ∧ Wp (fun _ => False) W w') (o25 : (x.kind == 25) = true) (hxn : 0 ≤ x.n) (hxm : x.n ≤ 4096) :
  Calls Tryz.prog 42 #[.agg #[sv], lv, .agg #[.int .i64 (k : Int), tv, .bool m.here, rv]] w fun e w' => StatesTo w tv rv (k + 1 + x.n.toNat) ⟨m.st, m.here, m.vals⟩ e w' := by
 obtain ⟨zz, hzz⟩ : ∃ zz, zV = zz := ⟨_, rfl⟩
 have HZZ := zB hzz
 rw [hzz] at hP hT hJ
 clear hzz
 obtain ⟨so, sc, rfl⟩ := Ws.form hS
 obtain ⟨tO, tc, rfl⟩ := Ws.form hst
 obtain ⟨ro, rc, rfl⟩ := Ws.form hr
 obtain ⟨lb, lof, lc, e, hlb, hlc⟩ := hl.cells (by have := (List.getElem?_eq_some_iff.1 hx).1; omega)
 subst e
 have hkl : (k : Int) < (l.length : Int) := by have := (List.getElem?_eq_some_iff.1 hx).1; omega
 have hk0 : (0 : Int) ≤ (k : Int) := by omega
 obtain ⟨N, hN⟩ : ∃ N, m.st.length = N := ⟨_, rfl⟩
 have HNN := zB hN
 have HPN : Hid (m.st.length = N) := hN
 rw [show (Value.slice tO m.st.length tc) = .slice tO N tc by rw [hN]]
 rw [hN] at hst h16 hN0
 obtain ⟨W, hW, hkW, f0, f1, f2⟩ := boxes3 w #[.slice so S.length sc] #[.int .i64 (k : Int), .slice tO N tc, .bool m.here, .slice ro m.vals.length rc] #[.int .i64 0, .slice none 0 0, .bool false, .slice none 0 0] 24 78 78
 have c0 := (hkW.cell hlb id).trans (hlc k x hx).1
 have c1 := (hkW.cell hlb id).trans (hlc k x hx).2.1
 have c2 := (hkW.cell hlb id).trans (hlc k x hx).2.2
 obtain ⟨w0, w1, w2, w3⟩ := cl4 f1
 have hsW : W.heap.size = w.heap.size + 1 + 1 + 1 := by rw [← hW]; simp
 have kV := kA W (.cells #[.int .i64 x.kind, .int .i64 x.n, str x.s] 60)
 have g3 := heap_alloc_new W (.cells #[.int .i64 x.kind, .int .i64 x.n, str x.s] 60)
 rw [hsW] at g3
 generalize hV : W.alloc (.cells #[.int .i64 x.kind, .int .i64 x.n, str x.s] 60) = V at *
 have hkV := hkW.trans kV
 have g0 := zD f0 kV
 have g1 := zD f1 kV
 have g2 := zD f2 kV
 have HKV := zB hkV
 have HT : Hid (Wr V (.slice tO N tc) m.st) := hst.keepF hkV
 have HR := zB (hr.keepF hkV)
 have HSV := zB (hS.keepF hkV)
 have p0 := cl1 g0
 obtain ⟨q0, q1, q2, q3⟩ := cl4 g1
 obtain ⟨r0, r1, r2⟩ := cl3 g3
 have hsz : w.heap.size + 1 + 1 + 1 < V.heap.size := zE g3
 have hw1 : IntKind.i64.wrap ((k : Int) + 1) = (k : Int) + 1 := wrap_small (by omega) (by omega)
 have HQP := zB (hP V _ _ (zA HSV) (zA HR))
 rw [show x.v = .agg #[.int .i64 x.kind, .int .i64 x.n, str x.s] from rfl, show zz.v = .agg #[.int .i64 zz.kind, .int .i64 zz.n, str zz.s] from rfl] at HQP
 have HQT := zB hT
 rw [show zz.v = .agg #[.int .i64 zz.kind, .int .i64 zz.n, str zz.s] from rfl] at HQT
 have HQJ := zB hJ
 rw [show zz.v = .agg #[.int .i64 zz.kind, .int .i64 zz.n, str zz.s] from rfl] at HQJ
 clear hS hr hl hlc hx hkV f0 f1 f2 kV hkW hP hT hJ hst hN
 subst hN0
 go_enter Tryz.func42, Tryz.ntmps42
 go_wp2_with fail
 refine (zA HQP).mono ?_
 rintro e w1 ⟨rfl, hk1⟩
 have hs1 : w.heap.size + 1 + 1 + 1 < w1.heap.size := Nat.lt_of_lt_of_le hsz hk1.size
 obtain ⟨Y, hY, kY, y9, y11, y12⟩ := boxes3 w1 #[.int .i64 zz.kind, .int .i64 zz.n, str zz.s] #[.int .i64 0, .int .i64 0, .string ⟨#[]⟩] #[.int .i64 0, .int .i64 0, .string ⟨#[]⟩] 51 51 51
 have kVY := hk1.trans kY
 have B0 := zD g0 kVY
 have B1 := zD g1 kVY
 have B2 := zD g2 kVY
 have B3 := zD g3 kVY
 have hVs : V.heap.size ≤ w1.heap.size := hk1.size
 obtain ⟨ic0, ic1, ic2⟩ := cl3 B3
 obtain ⟨bc0, bc1, bc2⟩ := cl3 y12
 have HKC := zB kVY
 have E0 := zB B0
 have E1 := zB B1
 have E2 := zB B2
 have E3 := zB B3
 have E9 := zB y9
 have E11 := zB y11
 have E12 := zB y12
 clear B0 B1 B2 B3 y9 y11 y12 hk1 kY kVY HQP g0 g1 g2 g3
 go_wp2_with fail
 refine (zA HQT _).mono ?_
 rintro e w2 ⟨rfl, hk2⟩
 have kV2 := (zA HKC).trans hk2
 have B0 := zD (zA E0) hk2
 have B1 := zD (zA E1) hk2
 have B2 := zD (zA E2) hk2
 have B3 := zD (zA E3) hk2
 have y9 := zD (zA E9) hk2
 have y11 := zD (zA E11) hk2
 have y12 := zD (zA E12) hk2
 obtain ⟨gf0, gf1, gf2⟩ := fz3 y9
 obtain ⟨gc0, gc1, gc2⟩ := cl3 y9
 obtain ⟨X1, hX1, y9n, kX1⟩ := stored3 y9 zz
 replace B0 := kb B0 kX1 (by omega)
 replace B1 := kb B1 kX1 (by omega)
 replace B2 := kb B2 kX1 (by omega)
 replace B3 := kb B3 kX1 (by omega)
 replace y11 := kb y11 kX1 (by omega)
 replace y12 := kb y12 kX1 (by omega)
 replace y9 := y9n
 clear y9n
 have kVX1 := kV2.fresh (by omega) kX1
 obtain ⟨jc0, jc1, jc2⟩ := cl3 B3
 obtain ⟨ja0, ja1, ja2⟩ := cl3 y11
 obtain ⟨jb0, jb1, jb2⟩ := cl3 y12
 replace HKC := zB kVX1
 replace E0 := zB B0
 replace E1 := zB B1
 replace E2 := zB B2
 replace E3 := zB B3
 replace E9 := zB y9
 replace E11 := zB y11
 replace E12 := zB y12
 clear B0 B1 B2 B3 y9 y11 y12 hk2 kV2 HQT kX1 kVX1
 go_wp2_with fail
 refine (zA HQJ _ ).mono ?_
 rintro e w3 ⟨rfl, hk3⟩
 have kV3 := (zA HKC).trans hk3
 have B0 := zD (zA E0) hk3
 have B1 := zD (zA E1) hk3
 have B2 := zD (zA E2) hk3
 have B3 := zD (zA E3) hk3
 have y9 := zD (zA E9) hk3
 have y11 := zD (zA E11) hk3
 have y12 := zD (zA E12) hk3
 obtain ⟨hf0, hf1, hf2⟩ := fz3 y9
 obtain ⟨hc0, hc1, hc2⟩ := cl3 y9
 obtain ⟨X, hX, y9n, kX⟩ := stored3 y9 zz
 replace B0 := kb B0 kX (by omega)
 replace B1 := kb B1 kX (by omega)
 replace B2 := kb B2 kX (by omega)
 replace B3 := kb B3 kX (by omega)
 replace y11 := kb y11 kX (by omega)
 replace y12 := kb y12 kX (by omega)
 replace y9 := y9n
 clear y9n
 have kVX := kV3.fresh (by omega) kX
 have HTX := zB ((zA HT).keepF kVX)
 have HRX := zB ((zA HR).keepF kVX)
 have HWX := zB ((zA HKV).trans kVX)
 have HSX := zB ((zA HSV).keepF kVX)
 have HKX := zB (Wp.refl (fun _ => False) X)
 have H2 := zB B2
 obtain ⟨xs0, xs1, xs2, xs3⟩ := cl4 B1
 obtain ⟨xi0, xi1, xi2⟩ := cl3 B3
 obtain ⟨m0, m1, m2, m3⟩ := cl4 B2
 obtain ⟨z0, z1, z2, z3⟩ := fz4 B2
 obtain ⟨xn, hxx⟩ : ∃ xn : Nat, x.n.toNat = xn := ⟨_, rfl⟩
 have hxe : x.n = (xn : Int) := by omega
 have HXN : Hid (x.n.toNat = xn) := hxx
 have hxm2 : (xn : Int) ≤ 4096 := by omega
 have hxm3 : (0 : Int) ≤ (xn : Int) := by omega
 rw [hxe] at xi1
 clear hxx hxe hxn hxm
 have HB5 := zB B2
 have HTY : Hid (Wr X (.slice tO m.st.length tc) m.st) := by
  show Wr _ _ _
  rw [zA HPN]
  exact zA HTX
 clear B0 B1 B2 B3 y9 y11 y12
 go_wp2_with fail
 obtain ⟨s0, s1, s2, s3⟩ := set4c (zA HB5) (.int .i64 ((k : Int) + 1 + (xn : Int))) (.slice tO 0 tc) (.bool m.here) (.slice ro m.vals.length rc)
 refine bodyPost_ret (v := .agg #[.int .i64 ((k : Int) + 1 + (xn : Int)), .slice tO 0 tc, .bool m.here, .slice ro m.vals.length rc]) (by simp [results, go_sem, s0, s1, s2, s3]) rfl ?_
 have k4 := Wu X (w.heap.size + 1 + 1) (.int .i64 ((k : Int) + 1 + (xn : Int))) (.slice tO 0 tc) (.bool m.here) (.slice ro m.vals.length rc)
 refine ⟨tO, tc, ro, rc, by rw [zA HXN, zA HPN]; rfl, ?_, ?_, Or.inl (by rw [zA HPN]), Or.inl rfl, ?_⟩
 ·exact vO (zA HTY) (zA HB5) (off4 (by simp)) k4
 ·exact vO (zA HRX) (zA HB5) (off4 (by simp)) k4
 ·exact ((zA HWX).trans (zA HKX)).fresh (by omega) k4
theorem stepRJ1_v (S : List Wq) (sv lv tv rv : Value) (l : List ValA) (k : Nat) (m : MS) (x : ValA) (w : World) (hS : Wt w sv S) (hl : Wr w lv l) (hst : Wr w tv m.st) (hr : Wr w rv m.vals) (hx : l[k]? = some x) (hk : k ≤ 1024) (h16 : m.st.length ≤ 16) (tp : ValA) (hN0 : m.st.length = 1) (htp : m.st[0]? = some tp) (hP : ∀ (W : World) (sv rv : Value), Wt W sv S → Wr W rv m.vals → Calls Tryz.prog 59 #[.agg #[sv], x.v, .agg #[.bool m.here, rv]] W fun e w' => e = .returned (.tuple #[zV.v, .bool false]) ∧ Wp (fun _ => False) W w') (hT : ∀ W : World, Calls Tryz.prog 61 #[.int .i64 x.kind, tp.v] W fun e w' => e = .returned (.tuple #[zV.v, .bool false]) ∧ Wp (fun _ => False) W w') (hJ : ∀ W : World, Calls Tryz.prog 62 #[.int .i64 x.kind, .agg #[.int .i64 0, .int .i64 0, .string ⟨#[]⟩], tp.v] W fun e w' => e = .returned (.tuple #[zV.v, .bool false]) ∧ Wp (fun _ => False) W w') (o25 : (x.kind == 25) = true) (hxn : 0 ≤ x.n) (hxm : x.n ≤ 4096) :
  Calls Tryz.prog 42 #[.agg #[sv], lv, .agg #[.int .i64 (k : Int), tv, .bool m.here, rv]] w fun e w' => StatesTo w tv rv (k + 1 + x.n.toNat) ⟨m.st, m.here, m.vals⟩ e w' := by
 obtain ⟨zz, hzz⟩ : ∃ zz, zV = zz := ⟨_, rfl⟩
 have HZZ := zB hzz
 rw [hzz] at hP hT hJ
 clear hzz
 obtain ⟨so, sc, rfl⟩ := Ws.form hS
 obtain ⟨tb, tof, tc, e, htb, htc⟩ := hst.cells (by omega)
 subst e
 obtain ⟨ro, rc, rfl⟩ := Ws.form hr
 obtain ⟨lb, lof, lc, e, hlb, hlc⟩ := hl.cells (by have := (List.getElem?_eq_some_iff.1 hx).1; omega)
 subst e
 have hkl : (k : Int) < (l.length : Int) := by have := (List.getElem?_eq_some_iff.1 hx).1; omega
 have hk0 : (0 : Int) ≤ (k : Int) := by omega
 obtain ⟨N, hN⟩ : ∃ N, m.st.length = N := ⟨_, rfl⟩
 have HNN := zB hN
 have HPN : Hid (m.st.length = N) := hN
 rw [show (Value.slice (some ⟨tb, tof, none⟩) m.st.length tc) = .slice (some ⟨tb, tof, none⟩) N tc by rw [hN]]
 rw [hN] at hst h16 hN0
 obtain ⟨W, hW, hkW, f0, f1, f2⟩ := boxes3 w #[.slice so S.length sc] #[.int .i64 (k : Int), .slice (some ⟨tb, tof, none⟩) N tc, .bool m.here, .slice ro m.vals.length rc] #[.int .i64 0, .slice none 0 0, .bool false, .slice none 0 0] 24 78 78
 have c0 := (hkW.cell hlb id).trans (hlc k x hx).1
 have c1 := (hkW.cell hlb id).trans (hlc k x hx).2.1
 have c2 := (hkW.cell hlb id).trans (hlc k x hx).2.2
 have t0 := (htc 0 tp htp).1
 have t1 := (htc 0 tp htp).2.1
 have t2 := (htc 0 tp htp).2.2
 simp only [Nat.zero_mul, Nat.add_zero] at t0 t1 t2
 obtain ⟨w0, w1, w2, w3⟩ := cl4 f1
 have hsW : W.heap.size = w.heap.size + 1 + 1 + 1 := by rw [← hW]; simp
 have kV := kA W (.cells #[.int .i64 x.kind, .int .i64 x.n, str x.s] 60)
 have g3 := heap_alloc_new W (.cells #[.int .i64 x.kind, .int .i64 x.n, str x.s] 60)
 rw [hsW] at g3
 generalize hV : W.alloc (.cells #[.int .i64 x.kind, .int .i64 x.n, str x.s] 60) = V at *
 have hkV := hkW.trans kV
 have g0 := zD f0 kV
 have g1 := zD f1 kV
 have g2 := zD f2 kV
 have HKV := zB hkV
 have HT : Hid (Wr V (.slice (some ⟨tb, tof, none⟩) N tc) m.st) := hst.keepF hkV
 have HR := zB (hr.keepF hkV)
 have HSV := zB (hS.keepF hkV)
 have p0 := cl1 g0
 obtain ⟨q0, q1, q2, q3⟩ := cl4 g1
 obtain ⟨r0, r1, r2⟩ := cl3 g3
 have htV : tb < V.heap.size := Nat.lt_of_lt_of_le htb hkV.size
 replace t0 := (hkV.cell htb id).trans t0
 replace t1 := (hkV.cell htb id).trans t1
 replace t2 := (hkV.cell htb id).trans t2
 have hsz : w.heap.size + 1 + 1 + 1 < V.heap.size := zE g3
 have hw1 : IntKind.i64.wrap ((k : Int) + 1) = (k : Int) + 1 := wrap_small (by omega) (by omega)
 have HQP := zB (hP V _ _ (zA HSV) (zA HR))
 rw [show x.v = .agg #[.int .i64 x.kind, .int .i64 x.n, str x.s] from rfl, show zz.v = .agg #[.int .i64 zz.kind, .int .i64 zz.n, str zz.s] from rfl] at HQP
 have HQT := zB hT
 rw [show tp.v = .agg #[.int .i64 tp.kind, .int .i64 tp.n, str tp.s] from rfl, show zz.v = .agg #[.int .i64 zz.kind, .int .i64 zz.n, str zz.s] from rfl] at HQT
 have HQJ := zB hJ
 rw [show tp.v = .agg #[.int .i64 tp.kind, .int .i64 tp.n, str tp.s] from rfl, show zz.v = .agg #[.int .i64 zz.kind, .int .i64 zz.n, str zz.s] from rfl] at HQJ
 clear hS hr hl hlc hx hkV f0 f1 f2 kV hkW hP hT hJ hst htc htp hN
 subst hN0
 go_enter Tryz.func42, Tryz.ntmps42
 go_wp2_with fail
 refine (zA HQP).mono ?_
 rintro e w1 ⟨rfl, hk1⟩
 have hs1 : w.heap.size + 1 + 1 + 1 < w1.heap.size := Nat.lt_of_lt_of_le hsz hk1.size
 obtain ⟨Y, hY, kY, y9, y11, y12⟩ := boxes3 w1 #[.int .i64 zz.kind, .int .i64 zz.n, str zz.s] #[.int .i64 0, .int .i64 0, .string ⟨#[]⟩] #[.int .i64 0, .int .i64 0, .string ⟨#[]⟩] 51 51 51
 have kVY := hk1.trans kY
 have B0 := zD g0 kVY
 have B1 := zD g1 kVY
 have B2 := zD g2 kVY
 have B3 := zD g3 kVY
 have hVs : V.heap.size ≤ w1.heap.size := hk1.size
 obtain ⟨ys0, ys1, ys2, ys3⟩ := cl4 B1
 obtain ⟨zf0, zf1, zf2⟩ := fz3 y12
 obtain ⟨zc0, zc1, zc2⟩ := cl3 y12
 have tY0 := (kVY.cell htV id).trans t0
 have tY1 := (kVY.cell htV id).trans t1
 have tY2 := (kVY.cell htV id).trans t2
 obtain ⟨Y1, hY1, y12n, kY1⟩ := stored3 y12 tp
 replace B0 := kb B0 kY1 (by omega)
 replace B1 := kb B1 kY1 (by omega)
 replace B2 := kb B2 kY1 (by omega)
 replace B3 := kb B3 kY1 (by omega)
 replace y9 := kb y9 kY1 (by omega)
 replace y11 := kb y11 kY1 (by omega)
 replace y12 := y12n
 clear y12n
 have kVY1 := kVY.fresh (by omega) kY1
 obtain ⟨ic0, ic1, ic2⟩ := cl3 B3
 obtain ⟨bc0, bc1, bc2⟩ := cl3 y12
 have HKC := zB kVY1
 have E0 := zB B0
 have E1 := zB B1
 have E2 := zB B2
 have E3 := zB B3
 have E9 := zB y9
 have E11 := zB y11
 have E12 := zB y12
 clear B0 B1 B2 B3 y9 y11 y12 hk1 kY kVY HQP g0 g1 g2 g3 kY1 kVY1
 go_wp2_with fail
 refine (zA HQT _).mono ?_
 rintro e w2 ⟨rfl, hk2⟩
 have kV2 := (zA HKC).trans hk2
 have B0 := zD (zA E0) hk2
 have B1 := zD (zA E1) hk2
 have B2 := zD (zA E2) hk2
 have B3 := zD (zA E3) hk2
 have y9 := zD (zA E9) hk2
 have y11 := zD (zA E11) hk2
 have y12 := zD (zA E12) hk2
 obtain ⟨gf0, gf1, gf2⟩ := fz3 y9
 obtain ⟨gc0, gc1, gc2⟩ := cl3 y9
 obtain ⟨X1, hX1, y9n, kX1⟩ := stored3 y9 zz
 replace B0 := kb B0 kX1 (by omega)
 replace B1 := kb B1 kX1 (by omega)
 replace B2 := kb B2 kX1 (by omega)
 replace B3 := kb B3 kX1 (by omega)
 replace y11 := kb y11 kX1 (by omega)
 replace y12 := kb y12 kX1 (by omega)
 replace y9 := y9n
 clear y9n
 have kVX1 := kV2.fresh (by omega) kX1
 obtain ⟨jc0, jc1, jc2⟩ := cl3 B3
 obtain ⟨ja0, ja1, ja2⟩ := cl3 y11
 obtain ⟨jb0, jb1, jb2⟩ := cl3 y12
 replace HKC := zB kVX1
 replace E0 := zB B0
 replace E1 := zB B1
 replace E2 := zB B2
 replace E3 := zB B3
 replace E9 := zB y9
 replace E11 := zB y11
 replace E12 := zB y12
 clear B0 B1 B2 B3 y9 y11 y12 hk2 kV2 HQT kX1 kVX1
 go_wp2_with fail
 refine (zA HQJ _ ).mono ?_
 rintro e w3 ⟨rfl, hk3⟩
 have kV3 := (zA HKC).trans hk3
 have B0 := zD (zA E0) hk3
 have B1 := zD (zA E1) hk3
 have B2 := zD (zA E2) hk3
 have B3 := zD (zA E3) hk3
 have y9 := zD (zA E9) hk3
 have y11 := zD (zA E11) hk3
 have y12 := zD (zA E12) hk3
 obtain ⟨hf0, hf1, hf2⟩ := fz3 y9
 obtain ⟨hc0, hc1, hc2⟩ := cl3 y9
 obtain ⟨X, hX, y9n, kX⟩ := stored3 y9 zz
 replace B0 := kb B0 kX (by omega)
 replace B1 := kb B1 kX (by omega)
 replace B2 := kb B2 kX (by omega)
 replace B3 := kb B3 kX (by omega)
 replace y11 := kb y11 kX (by omega)
 replace y12 := kb y12 kX (by omega)
 replace y9 := y9n
 clear y9n
 have kVX := kV3.fresh (by omega) kX
 have HTX := zB ((zA HT).keepF kVX)
 have HRX := zB ((zA HR).keepF kVX)
 have HWX := zB ((zA HKV).trans kVX)
 have HSX := zB ((zA HSV).keepF kVX)
 have HKX := zB (Wp.refl (fun _ => False) X)
 have H2 := zB B2
 obtain ⟨xs0, xs1, xs2, xs3⟩ := cl4 B1
 obtain ⟨xi0, xi1, xi2⟩ := cl3 B3
 obtain ⟨m0, m1, m2, m3⟩ := cl4 B2
 obtain ⟨z0, z1, z2, z3⟩ := fz4 B2
 obtain ⟨xn, hxx⟩ : ∃ xn : Nat, x.n.toNat = xn := ⟨_, rfl⟩
 have hxe : x.n = (xn : Int) := by omega
 have HXN : Hid (x.n.toNat = xn) := hxx
 have hxm2 : (xn : Int) ≤ 4096 := by omega
 have hxm3 : (0 : Int) ≤ (xn : Int) := by omega
 rw [hxe] at xi1
 clear hxx hxe hxn hxm
 have HB5 := zB B2
 have HTY : Hid (Wr X (.slice (some ⟨tb, tof, none⟩) m.st.length tc) m.st) := by
  show Wr _ _ _
  rw [zA HPN]
  exact zA HTX
 clear B0 B1 B2 B3 y9 y11 y12
 go_wp2_with fail
 obtain ⟨s0, s1, s2, s3⟩ := set4c (zA HB5) (.int .i64 ((k : Int) + 1 + (xn : Int))) (.slice (some ⟨tb, tof, none⟩) 1 tc) (.bool m.here) (.slice ro m.vals.length rc)
 refine bodyPost_ret (v := .agg #[.int .i64 ((k : Int) + 1 + (xn : Int)), .slice (some ⟨tb, tof, none⟩) 1 tc, .bool m.here, .slice ro m.vals.length rc]) (by simp [results, go_sem, s0, s1, s2, s3]) rfl ?_
 have k4 := Wu X (w.heap.size + 1 + 1) (.int .i64 ((k : Int) + 1 + (xn : Int))) (.slice (some ⟨tb, tof, none⟩) 1 tc) (.bool m.here) (.slice ro m.vals.length rc)
 refine ⟨(some ⟨tb, tof, none⟩), tc, ro, rc, by rw [zA HXN, zA HPN]; rfl, ?_, ?_, Or.inl (by rw [zA HPN]), Or.inl rfl, ?_⟩
 ·exact vO (zA HTY) (zA HB5) (off4 (by simp)) k4
 ·exact vO (zA HRX) (zA HB5) (off4 (by simp)) k4
 ·exact ((zA HWX).trans (zA HKX)).fresh (by omega) k4
theorem stepRJ2_v (S : List Wq) (sv lv tv rv : Value) (l : List ValA) (k : Nat) (m : MS) (x : ValA) (w : World) (hS : Wt w sv S) (hl : Wr w lv l) (hst : Wr w tv m.st) (hr : Wr w rv m.vals) (hx : l[k]? = some x) (hk : k ≤ 1024) (h16 : m.st.length ≤ 16) (tp sc2 : ValA) (i1 i2 : Nat) (hi1 : m.st.length = i1 + 1) (hi2 : m.st.length = i2 + 2) (htp : m.st[i1]? = some tp) (hsc : m.st[i2]? = some sc2) (hP : ∀ (W : World) (sv rv : Value), Wt W sv S → Wr W rv m.vals → Calls Tryz.prog 59 #[.agg #[sv], x.v, .agg #[.bool m.here, rv]] W fun e w' => e = .returned (.tuple #[zV.v, .bool false]) ∧ Wp (fun _ => False) W w') (hT : ∀ W : World, Calls Tryz.prog 61 #[.int .i64 x.kind, tp.v] W fun e w' => e = .returned (.tuple #[zV.v, .bool false]) ∧ Wp (fun _ => False) W w') (hJ : ∀ W : World, Calls Tryz.prog 62 #[.int .i64 x.kind, sc2.v, tp.v] W fun e w' => e = .returned (.tuple #[zV.v, .bool false]) ∧ Wp (fun _ => False) W w') (o25 : (x.kind == 25) = true) (hxn : 0 ≤ x.n) (hxm : x.n ≤ 4096) :
  Calls Tryz.prog 42 #[.agg #[sv], lv, .agg #[.int .i64 (k : Int), tv, .bool m.here, rv]] w fun e w' => StatesTo w tv rv (k + 1 + x.n.toNat) ⟨m.st, m.here, m.vals⟩ e w' := by
 obtain ⟨zz, hzz⟩ : ∃ zz, zV = zz := ⟨_, rfl⟩
 have HZZ := zB hzz
 rw [hzz] at hP hT hJ
 clear hzz
 obtain ⟨so, sc, rfl⟩ := Ws.form hS
 obtain ⟨tb, tof, tc, e, htb, htc⟩ := hst.cells (by omega)
 subst e
 obtain ⟨ro, rc, rfl⟩ := Ws.form hr
 obtain ⟨lb, lof, lc, e, hlb, hlc⟩ := hl.cells (by have := (List.getElem?_eq_some_iff.1 hx).1; omega)
 subst e
 have hkl : (k : Int) < (l.length : Int) := by have := (List.getElem?_eq_some_iff.1 hx).1; omega
 have hk0 : (0 : Int) ≤ (k : Int) := by omega
 obtain ⟨N, hN⟩ : ∃ N, m.st.length = N := ⟨_, rfl⟩
 have HNN := zB hN
 have HPN : Hid (m.st.length = N) := hN
 rw [show (Value.slice (some ⟨tb, tof, none⟩) m.st.length tc) = .slice (some ⟨tb, tof, none⟩) N tc by rw [hN]]
 rw [hN] at hst h16 hi1 hi2
 obtain ⟨W, hW, hkW, f0, f1, f2⟩ := boxes3 w #[.slice so S.length sc] #[.int .i64 (k : Int), .slice (some ⟨tb, tof, none⟩) N tc, .bool m.here, .slice ro m.vals.length rc] #[.int .i64 0, .slice none 0 0, .bool false, .slice none 0 0] 24 78 78
 have c0 := (hkW.cell hlb id).trans (hlc k x hx).1
 have c1 := (hkW.cell hlb id).trans (hlc k x hx).2.1
 have c2 := (hkW.cell hlb id).trans (hlc k x hx).2.2
 have t0 := (htc i1 tp htp).1
 have t1 := (htc i1 tp htp).2.1
 have t2 := (htc i1 tp htp).2.2
 have d0 := (htc i2 sc2 hsc).1
 have d1 := (htc i2 sc2 hsc).2.1
 have d2 := (htc i2 sc2 hsc).2.2
 have e1 : (N : Int) - 1 = (i1 : Int) := by omega
 have e2 : (N : Int) - 2 = (i2 : Int) := by omega
 have n1 : (0 : Int) < (N : Int) := by omega
 have n2 : (1 : Int) < (N : Int) := by omega
 have n3 : (i1 : Int) < (N : Int) := by omega
 have n4 : (i2 : Int) < (N : Int) := by omega
 have n5 : (0 : Int) ≤ (i1 : Int) := by omega
 have n6 : (0 : Int) ≤ (i2 : Int) := by omega
 clear hi1 hi2
 obtain ⟨w0, w1, w2, w3⟩ := cl4 f1
 have hsW : W.heap.size = w.heap.size + 1 + 1 + 1 := by rw [← hW]; simp
 have kV := kA W (.cells #[.int .i64 x.kind, .int .i64 x.n, str x.s] 60)
 have g3 := heap_alloc_new W (.cells #[.int .i64 x.kind, .int .i64 x.n, str x.s] 60)
 rw [hsW] at g3
 generalize hV : W.alloc (.cells #[.int .i64 x.kind, .int .i64 x.n, str x.s] 60) = V at *
 have hkV := hkW.trans kV
 have g0 := zD f0 kV
 have g1 := zD f1 kV
 have g2 := zD f2 kV
 have HKV := zB hkV
 have HT : Hid (Wr V (.slice (some ⟨tb, tof, none⟩) N tc) m.st) := hst.keepF hkV
 have HR := zB (hr.keepF hkV)
 have HSV := zB (hS.keepF hkV)
 have p0 := cl1 g0
 obtain ⟨q0, q1, q2, q3⟩ := cl4 g1
 obtain ⟨r0, r1, r2⟩ := cl3 g3
 have htV : tb < V.heap.size := Nat.lt_of_lt_of_le htb hkV.size
 replace t0 := (hkV.cell htb id).trans t0
 replace t1 := (hkV.cell htb id).trans t1
 replace t2 := (hkV.cell htb id).trans t2
 replace d0 := (hkV.cell htb id).trans d0
 replace d1 := (hkV.cell htb id).trans d1
 replace d2 := (hkV.cell htb id).trans d2
 have hsz : w.heap.size + 1 + 1 + 1 < V.heap.size := zE g3
 have hw1 : IntKind.i64.wrap ((k : Int) + 1) = (k : Int) + 1 := wrap_small (by omega) (by omega)
 have HQP := zB (hP V _ _ (zA HSV) (zA HR))
 rw [show x.v = .agg #[.int .i64 x.kind, .int .i64 x.n, str x.s] from rfl, show zz.v = .agg #[.int .i64 zz.kind, .int .i64 zz.n, str zz.s] from rfl] at HQP
 have HQT := zB hT
 rw [show tp.v = .agg #[.int .i64 tp.kind, .int .i64 tp.n, str tp.s] from rfl, show zz.v = .agg #[.int .i64 zz.kind, .int .i64 zz.n, str zz.s] from rfl] at HQT
 have HQJ := zB hJ
 rw [show sc2.v = .agg #[.int .i64 sc2.kind, .int .i64 sc2.n, str sc2.s] from rfl, show tp.v = .agg #[.int .i64 tp.kind, .int .i64 tp.n, str tp.s] from rfl, show zz.v = .agg #[.int .i64 zz.kind, .int .i64 zz.n, str zz.s] from rfl] at HQJ
 clear hS hr hl hlc hx hkV f0 f1 f2 kV hkW hP hT hJ hst htc htp hsc hN
 go_enter Tryz.func42, Tryz.ntmps42
 go_wp2_with fail
 refine (zA HQP).mono ?_
 rintro e w1 ⟨rfl, hk1⟩
 have hs1 : w.heap.size + 1 + 1 + 1 < w1.heap.size := Nat.lt_of_lt_of_le hsz hk1.size
 obtain ⟨Y, hY, kY, y9, y11, y12⟩ := boxes3 w1 #[.int .i64 zz.kind, .int .i64 zz.n, str zz.s] #[.int .i64 0, .int .i64 0, .string ⟨#[]⟩] #[.int .i64 0, .int .i64 0, .string ⟨#[]⟩] 51 51 51
 have kVY := hk1.trans kY
 have B0 := zD g0 kVY
 have B1 := zD g1 kVY
 have B2 := zD g2 kVY
 have B3 := zD g3 kVY
 have hVs : V.heap.size ≤ w1.heap.size := hk1.size
 obtain ⟨ys0, ys1, ys2, ys3⟩ := cl4 B1
 obtain ⟨zf0, zf1, zf2⟩ := fz3 y12
 obtain ⟨zc0, zc1, zc2⟩ := cl3 y12
 have tY0 := (kVY.cell htV id).trans t0
 have tY1 := (kVY.cell htV id).trans t1
 have tY2 := (kVY.cell htV id).trans t2
 obtain ⟨Y1, hY1, y12n, kY1⟩ := stored3 y12 tp
 replace B0 := kb B0 kY1 (by omega)
 replace B1 := kb B1 kY1 (by omega)
 replace B2 := kb B2 kY1 (by omega)
 replace B3 := kb B3 kY1 (by omega)
 replace y9 := kb y9 kY1 (by omega)
 replace y11 := kb y11 kY1 (by omega)
 replace y12 := y12n
 clear y12n
 have kVY1 := kVY.fresh (by omega) kY1
 obtain ⟨y1s0, y1s1, y1s2, y1s3⟩ := cl4 B1
 obtain ⟨xf0, xf1, xf2⟩ := fz3 y11
 obtain ⟨xc0, xc1, xc2⟩ := cl3 y11
 have dY0 := (kVY1.cell htV id).trans d0
 have dY1 := (kVY1.cell htV id).trans d1
 have dY2 := (kVY1.cell htV id).trans d2
 obtain ⟨Y2, hY2, y11n, kY2⟩ := stored3 y11 sc2
 replace B0 := kb B0 kY2 (by omega)
 replace B1 := kb B1 kY2 (by omega)
 replace B2 := kb B2 kY2 (by omega)
 replace B3 := kb B3 kY2 (by omega)
 replace y9 := kb y9 kY2 (by omega)
 replace y12 := kb y12 kY2 (by omega)
 replace y11 := y11n
 clear y11n
 have kVY2 := kVY1.fresh (by omega) kY2
 obtain ⟨ic0, ic1, ic2⟩ := cl3 B3
 obtain ⟨bc0, bc1, bc2⟩ := cl3 y12
 have HKC := zB kVY2
 have E0 := zB B0
 have E1 := zB B1
 have E2 := zB B2
 have E3 := zB B3
 have E9 := zB y9
 have E11 := zB y11
 have E12 := zB y12
 clear B0 B1 B2 B3 y9 y11 y12 hk1 kY kVY HQP g0 g1 g2 g3 kY1 kVY1 kY2 kVY2
 go_wp2_with fail
 refine (zA HQT _).mono ?_
 rintro e w2 ⟨rfl, hk2⟩
 have kV2 := (zA HKC).trans hk2
 have B0 := zD (zA E0) hk2
 have B1 := zD (zA E1) hk2
 have B2 := zD (zA E2) hk2
 have B3 := zD (zA E3) hk2
 have y9 := zD (zA E9) hk2
 have y11 := zD (zA E11) hk2
 have y12 := zD (zA E12) hk2
 obtain ⟨gf0, gf1, gf2⟩ := fz3 y9
 obtain ⟨gc0, gc1, gc2⟩ := cl3 y9
 obtain ⟨X1, hX1, y9n, kX1⟩ := stored3 y9 zz
 replace B0 := kb B0 kX1 (by omega)
 replace B1 := kb B1 kX1 (by omega)
 replace B2 := kb B2 kX1 (by omega)
 replace B3 := kb B3 kX1 (by omega)
 replace y11 := kb y11 kX1 (by omega)
 replace y12 := kb y12 kX1 (by omega)
 replace y9 := y9n
 clear y9n
 have kVX1 := kV2.fresh (by omega) kX1
 obtain ⟨jc0, jc1, jc2⟩ := cl3 B3
 obtain ⟨ja0, ja1, ja2⟩ := cl3 y11
 obtain ⟨jb0, jb1, jb2⟩ := cl3 y12
 replace HKC := zB kVX1
 replace E0 := zB B0
 replace E1 := zB B1
 replace E2 := zB B2
 replace E3 := zB B3
 replace E9 := zB y9
 replace E11 := zB y11
 replace E12 := zB y12
 clear B0 B1 B2 B3 y9 y11 y12 hk2 kV2 HQT kX1 kVX1
 go_wp2_with fail
 refine (zA HQJ _ ).mono ?_
 rintro e w3 ⟨rfl, hk3⟩
 have kV3 := (zA HKC).trans hk3
 have B0 := zD (zA E0) hk3
 have B1 := zD (zA E1) hk3
 have B2 := zD (zA E2) hk3
 have B3 := zD (zA E3) hk3
 have y9 := zD (zA E9) hk3
 have y11 := zD (zA E11) hk3
 have y12 := zD (zA E12) hk3
 obtain ⟨hf0, hf1, hf2⟩ := fz3 y9
 obtain ⟨hc0, hc1, hc2⟩ := cl3 y9
 obtain ⟨X, hX, y9n, kX⟩ := stored3 y9 zz
 replace B0 := kb B0 kX (by omega)
 replace B1 := kb B1 kX (by omega)
 replace B2 := kb B2 kX (by omega)
 replace B3 := kb B3 kX (by omega)
 replace y11 := kb y11 kX (by omega)
 replace y12 := kb y12 kX (by omega)
 replace y9 := y9n
 clear y9n
 have kVX := kV3.fresh (by omega) kX
 have HTX := zB ((zA HT).keepF kVX)
 have HRX := zB ((zA HR).keepF kVX)
 have HWX := zB ((zA HKV).trans kVX)
 have HSX := zB ((zA HSV).keepF kVX)
 have HKX := zB (Wp.refl (fun _ => False) X)
 have H2 := zB B2
 obtain ⟨xs0, xs1, xs2, xs3⟩ := cl4 B1
 obtain ⟨xi0, xi1, xi2⟩ := cl3 B3
 obtain ⟨m0, m1, m2, m3⟩ := cl4 B2
 obtain ⟨z0, z1, z2, z3⟩ := fz4 B2
 obtain ⟨xn, hxx⟩ : ∃ xn : Nat, x.n.toNat = xn := ⟨_, rfl⟩
 have hxe : x.n = (xn : Int) := by omega
 have HXN : Hid (x.n.toNat = xn) := hxx
 have hxm2 : (xn : Int) ≤ 4096 := by omega
 have hxm3 : (0 : Int) ≤ (xn : Int) := by omega
 rw [hxe] at xi1
 clear hxx hxe hxn hxm
 have HB5 := zB B2
 have HTY : Hid (Wr X (.slice (some ⟨tb, tof, none⟩) m.st.length tc) m.st) := by
  show Wr _ _ _
  rw [zA HPN]
  exact zA HTX
 clear B0 B1 B2 B3 y9 y11 y12
 go_wp2_with fail
 obtain ⟨s0, s1, s2, s3⟩ := set4c (zA HB5) (.int .i64 ((k : Int) + 1 + (xn : Int))) (.slice (some ⟨tb, tof, none⟩) N tc) (.bool m.here) (.slice ro m.vals.length rc)
 refine bodyPost_ret (v := .agg #[.int .i64 ((k : Int) + 1 + (xn : Int)), .slice (some ⟨tb, tof, none⟩) N tc, .bool m.here, .slice ro m.vals.length rc]) (by simp [results, go_sem, s0, s1, s2, s3]) rfl ?_
 have k4 := Wu X (w.heap.size + 1 + 1) (.int .i64 ((k : Int) + 1 + (xn : Int))) (.slice (some ⟨tb, tof, none⟩) N tc) (.bool m.here) (.slice ro m.vals.length rc)
 refine ⟨(some ⟨tb, tof, none⟩), tc, ro, rc, by rw [zA HXN, zA HPN]; rfl, ?_, ?_, Or.inl (by rw [zA HPN]), Or.inl rfl, ?_⟩
 ·exact vO (zA HTY) (zA HB5) (off4 (by simp)) k4
 ·exact vO (zA HRX) (zA HB5) (off4 (by simp)) k4
 ·exact ((zA HWX).trans (zA HKX)).fresh (by omega) k4
end Go.Proofs.YtbdlcaamanhapaaGreatDoor
