import Derived.Test.YtbdlcaamanhapaaGreatDoorJzaw
import Derived.Test.YtbdlcaamanhapaaGreatDoorJzax
import Derived.Test.YtbdlcaamanhapaaGreatDoorTpC2
import Derived.Test.YtbdlcaamanhapaaGreatDoorJzay
import Derived.Test.YtbdlcaamanhapaaGreatDoorTpU2
import Derived.Test.YtbdlcaamanhapaaGreatDoorTpP1
import Derived.Test.YtbdlcaamanhapaaGreatDoorTpP2
import Derived.Test.YtbdlcaamanhapaaGreatDoorJzat
import Derived.Test.YtbdlcaamanhapaaGreatDoorJzaf
import Derived.Test.YtbdlcaamanhapaaGreatDoorJzas
import Derived.Deep.Onto
namespace Go.Proofs.YtbdlcaamanhapaaGreatDoor
open Go.RowKit Go.Maps
set_option maxRecDepth 100000
set_option maxHeartbeats 6000000
theorem stepRQ2_v (S : List Wq) (sv lv tv rv : Value) (l : List ValA) (k : Nat) (m : MS) (x : ValA) (w : World) (hS : Wt w sv S) (hl : Wr w lv l) (hst : Wr w tv m.st) (hr : Wr w rv m.vals) (hx : l[k]? = some x) (hk : k ≤ 1024) (h16 : m.st.length ≤ 16) (tp sc2 : ValA) (i1 i2 : Nat) (hi1 : m.st.length = i1 + 1) (hi2 : m.st.length = i2 + 2) (htp : m.st[i1]? = some tp) (hsc : m.st[i2]? = some sc2) (hP : ∀ (W : World) (sv rv : Value), Wt W sv S → Wr W rv m.vals → Calls Tryz.prog 59 #[.agg #[sv], x.v, .agg #[.bool m.here, rv]] W fun e w' => e = .returned (.tuple #[zV.v, .bool false]) ∧ Wp (fun _ => False) W w') (hT : ∀ W : World, Calls Tryz.prog 61 #[.int .i64 x.kind, tp.v] W fun e w' => e = .returned (.tuple #[zV.v, .bool false]) ∧ Wp (fun _ => False) W w') (hJ : ∀ W : World, Calls Tryz.prog 62 #[.int .i64 x.kind, sc2.v, tp.v] W fun e w' => e = .returned (.tuple #[zV.v, .bool false]) ∧ Wp (fun _ => False) W w') (RR : Bool × List ValA) (hK : ∀ (W : World) (sv rv : Value), Wt W sv S → Wr W rv m.vals → Calls Tryz.prog 63 #[.agg #[sv], x.v, .agg #[.bool m.here, rv], tp.v] W fun e w' => ∃ ro rc, e = .returned (.agg #[.bool RR.1, .slice ro RR.2.length rc]) ∧ Wr w' (.slice ro RR.2.length rc) RR.2 ∧ New W rv (.slice ro RR.2.length rc) ∧ Wp (fun _ => False) W w') (o25 : (x.kind == 25) = false) (o26 : (x.kind == 26) = false) (o20 : (x.kind == 20) = false) (o21 : (x.kind == 21) = false) :
  Calls Tryz.prog 42 #[.agg #[sv], lv, .agg #[.int .i64 (k : Int), tv, .bool m.here, rv]] w fun e w' => StatesTo w tv rv (k + 1) ⟨m.st, RR.1, RR.2⟩ e w' := by
 obtain ⟨zz, hzz⟩ : ∃ zz, zV = zz := ⟨_, rfl⟩
 have HZZ := zB hzz
 rw [hzz] at hP hT hJ
 clear hzz
 obtain ⟨so, sc, rfl⟩ := Ws.form hS
 obtain ⟨tb, tof, tc, e, htb, htc⟩ := hst.cells (by omega)
 subst e
 obtain ⟨ro, rc, rfl⟩ := Ws.form hr
 obtain ⟨lb, lof, lc, e, hlb, hlc⟩ := hl.cells (by have := (List.getElem?_eq_some_iff.1 hx).1; omega)
 subst e
 have hkl : (k : Int) < (l.length : Int) := by have := (List.getElem?_eq_some_iff.1 hx).1; omega
 have hk0 : (0 : Int) ≤ (k : Int) := by omega
 obtain ⟨N, hN⟩ : ∃ N, m.st.length = N := ⟨_, rfl⟩
 have HNN := zB hN
 have HPN : Hid (m.st.length = N) := hN
 rw [show (Value.slice (some ⟨tb, tof, none⟩) m.st.length tc) = .slice (some ⟨tb, tof, none⟩) N tc by rw [hN]]
 rw [hN] at hst h16 hi1 hi2
 obtain ⟨W, hW, hkW, f0, f1, f2⟩ := boxes3 w #[.slice so S.length sc] #[.int .i64 (k : Int), .slice (some ⟨tb, tof, none⟩) N tc, .bool m.here, .slice ro m.vals.length rc] #[.int .i64 0, .slice none 0 0, .bool false, .slice none 0 0] 24 78 78
 have c0 := (hkW.cell hlb id).trans (hlc k x hx).1
 have c1 := (hkW.cell hlb id).trans (hlc k x hx).2.1
 have c2 := (hkW.cell hlb id).trans (hlc k x hx).2.2
 have t0 := (htc i1 tp htp).1
 have t1 := (htc i1 tp htp).2.1
 have t2 := (htc i1 tp htp).2.2
 have d0 := (htc i2 sc2 hsc).1
 have d1 := (htc i2 sc2 hsc).2.1
 have d2 := (htc i2 sc2 hsc).2.2
 have e1 : (N : Int) - 1 = (i1 : Int) := by omega
 have e2 : (N : Int) - 2 = (i2 : Int) := by omega
 have n1 : (0 : Int) < (N : Int) := by omega
 have n2 : (1 : Int) < (N : Int) := by omega
 have n3 : (i1 : Int) < (N : Int) := by omega
 have n4 : (i2 : Int) < (N : Int) := by omega
 have n5 : (0 : Int) ≤ (i1 : Int) := by omega
 have n6 : (0 : Int) ≤ (i2 : Int) := by omega
 clear hi1 hi2
 obtain ⟨w0, w1, w2, w3⟩ := cl4 f1
 have hsW : W.heap.size = w.heap.size + 1 + 1 + 1 := by rw [← hW]; simp
 have kV := kA W (.cells #[.int .i64 x.kind, .int .i64 x.n, str x.s] 60)
 have g3 := heap_alloc_new W (.cells #[.int .i64 x.kind, .int .i64 x.n, str x.s] 60)
 rw [hsW] at g3
 generalize hV : W.alloc (.cells #[.int .i64 x.kind, .int .i64 x.n, str x.s] 60) = V at *
 have hkV := hkW.trans kV
 have g0 := zD f0 kV
 have g1 := zD f1 kV
 have g2 := zD f2 kV
 have HKV := zB hkV
 have HT : Hid (Wr V (.slice (some ⟨tb, tof, none⟩) N tc) m.st) := hst.keepF hkV
 have HR := zB (hr.keepF hkV)
 have HSV := zB (hS.keepF hkV)
 have p0 := cl1 g0
 obtain ⟨q0, q1, q2, q3⟩ := cl4 g1
 obtain ⟨r0, r1, r2⟩ := cl3 g3
 have htV : tb < V.heap.size := Nat.lt_of_lt_of_le htb hkV.size
 replace t0 := (hkV.cell htb id).trans t0
 replace t1 := (hkV.cell htb id).trans t1
 replace t2 := (hkV.cell htb id).trans t2
 replace d0 := (hkV.cell htb id).trans d0
 replace d1 := (hkV.cell htb id).trans d1
 replace d2 := (hkV.cell htb id).trans d2
 have hsz : w.heap.size + 1 + 1 + 1 < V.heap.size := zE g3
 have hw1 : IntKind.i64.wrap ((k : Int) + 1) = (k : Int) + 1 := wrap_small (by omega) (by omega)
 have HQP := zB (hP V _ _ (zA HSV) (zA HR))
 rw [show x.v = .agg #[.int .i64 x.kind, .int .i64 x.n, str x.s] from rfl, show zz.v = .agg #[.int .i64 zz.kind, .int .i64 zz.n, str zz.s] from rfl] at HQP
 have HQT := zB hT
 rw [show tp.v = .agg #[.int .i64 tp.kind, .int .i64 tp.n, str tp.s] from rfl, show zz.v = .agg #[.int .i64 zz.kind, .int .i64 zz.n, str zz.s] from rfl] at HQT
 have HQJ := zB hJ
 rw [show sc2.v = .agg #[.int .i64 sc2.kind, .int .i64 sc2.n, str sc2.s] from rfl, show tp.v = .agg #[.int .i64 tp.kind, .int .i64 tp.n, str tp.s] from rfl, show zz.v = .agg #[.int .i64 zz.kind, .int .i64 zz.n, str zz.s] from rfl] at HQJ
 have HQK := zB hK
 rw [show x.v = .agg #[.int .i64 x.kind, .int .i64 x.n, str x.s] from rfl, show tp.v = .agg #[.int .i64 tp.kind, .int .i64 tp.n, str tp.s] from rfl] at HQK
 clear hK
 clear hS hr hl hlc hx hkV f0 f1 f2 kV hkW hP hT hJ hst htc htp hsc hN
 go_enter Tryz.func42, Tryz.ntmps42
 go_wp2_with fail
 refine (zA HQP).mono ?_
 rintro e w1 ⟨rfl, hk1⟩
 have hs1 : w.heap.size + 1 + 1 + 1 < w1.heap.size := Nat.lt_of_lt_of_le hsz hk1.size
 obtain ⟨Y, hY, kY, y9, y11, y12⟩ := boxes3 w1 #[.int .i64 zz.kind, .int .i64 zz.n, str zz.s] #[.int .i64 0, .int .i64 0, .string ⟨#[]⟩] #[.int .i64 0, .int .i64 0, .string ⟨#[]⟩] 51 51 51
 have kVY := hk1.trans kY
 have B0 := zD g0 kVY
 have B1 := zD g1 kVY
 have B2 := zD g2 kVY
 have B3 := zD g3 kVY
 have hVs : V.heap.size ≤ w1.heap.size := hk1.size
 obtain ⟨ys0, ys1, ys2, ys3⟩ := cl4 B1
 obtain ⟨zf0, zf1, zf2⟩ := fz3 y12
 obtain ⟨zc0, zc1, zc2⟩ := cl3 y12
 have tY0 := (kVY.cell htV id).trans t0
 have tY1 := (kVY.cell htV id).trans t1
 have tY2 := (kVY.cell htV id).trans t2
 obtain ⟨Y1, hY1, y12n, kY1⟩ := stored3 y12 tp
 replace B0 := kb B0 kY1 (by omega)
 replace B1 := kb B1 kY1 (by omega)
 replace B2 := kb B2 kY1 (by omega)
 replace B3 := kb B3 kY1 (by omega)
 replace y9 := kb y9 kY1 (by omega)
 replace y11 := kb y11 kY1 (by omega)
 replace y12 := y12n
 clear y12n
 have kVY1 := kVY.fresh (by omega) kY1
 obtain ⟨y1s0, y1s1, y1s2, y1s3⟩ := cl4 B1
 obtain ⟨xf0, xf1, xf2⟩ := fz3 y11
 obtain ⟨xc0, xc1, xc2⟩ := cl3 y11
 have dY0 := (kVY1.cell htV id).trans d0
 have dY1 := (kVY1.cell htV id).trans d1
 have dY2 := (kVY1.cell htV id).trans d2
 obtain ⟨Y2, hY2, y11n, kY2⟩ := stored3 y11 sc2
 replace B0 := kb B0 kY2 (by omega)
 replace B1 := kb B1 kY2 (by omega)
 replace B2 := kb B2 kY2 (by omega)
 replace B3 := kb B3 kY2 (by omega)
 replace y9 := kb y9 kY2 (by omega)
 replace y12 := kb y12 kY2 (by omega)
 replace y11 := y11n
 clear y11n
 have kVY2 := kVY1.fresh (by omega) kY2
 obtain ⟨ic0, ic1, ic2⟩ := cl3 B3
 obtain ⟨bc0, bc1, bc2⟩ := cl3 y12
 have HKC := zB kVY2
 have E0 := zB B0
 have E1 := zB B1
 have E2 := zB B2
 have E3 := zB B3
 have E9 := zB y9
 have E11 := zB y11
 have E12 := zB y12
 clear B0 B1 B2 B3 y9 y11 y12 hk1 kY kVY HQP g0 g1 g2 g3 kY1 kVY1 kY2 kVY2
 go_wp2_with fail
 refine (zA HQT _).mono ?_
 rintro e w2 ⟨rfl, hk2⟩
 have kV2 := (zA HKC).trans hk2
 have B0 := zD (zA E0) hk2
 have B1 := zD (zA E1) hk2
 have B2 := zD (zA E2) hk2
 have B3 := zD (zA E3) hk2
 have y9 := zD (zA E9) hk2
 have y11 := zD (zA E11) hk2
 have y12 := zD (zA E12) hk2
 obtain ⟨gf0, gf1, gf2⟩ := fz3 y9
 obtain ⟨gc0, gc1, gc2⟩ := cl3 y9
 obtain ⟨X1, hX1, y9n, kX1⟩ := stored3 y9 zz
 replace B0 := kb B0 kX1 (by omega)
 replace B1 := kb B1 kX1 (by omega)
 replace B2 := kb B2 kX1 (by omega)
 replace B3 := kb B3 kX1 (by omega)
 replace y11 := kb y11 kX1 (by omega)
 replace y12 := kb y12 kX1 (by omega)
 replace y9 := y9n
 clear y9n
 have kVX1 := kV2.fresh (by omega) kX1
 obtain ⟨jc0, jc1, jc2⟩ := cl3 B3
 obtain ⟨ja0, ja1, ja2⟩ := cl3 y11
 obtain ⟨jb0, jb1, jb2⟩ := cl3 y12
 replace HKC := zB kVX1
 replace E0 := zB B0
 replace E1 := zB B1
 replace E2 := zB B2
 replace E3 := zB B3
 replace E9 := zB y9
 replace E11 := zB y11
 replace E12 := zB y12
 clear B0 B1 B2 B3 y9 y11 y12 hk2 kV2 HQT kX1 kVX1
 go_wp2_with fail
 refine (zA HQJ _ ).mono ?_
 rintro e w3 ⟨rfl, hk3⟩
 have kV3 := (zA HKC).trans hk3
 have B0 := zD (zA E0) hk3
 have B1 := zD (zA E1) hk3
 have B2 := zD (zA E2) hk3
 have B3 := zD (zA E3) hk3
 have y9 := zD (zA E9) hk3
 have y11 := zD (zA E11) hk3
 have y12 := zD (zA E12) hk3
 obtain ⟨hf0, hf1, hf2⟩ := fz3 y9
 obtain ⟨hc0, hc1, hc2⟩ := cl3 y9
 obtain ⟨X, hX, y9n, kX⟩ := stored3 y9 zz
 replace B0 := kb B0 kX (by omega)
 replace B1 := kb B1 kX (by omega)
 replace B2 := kb B2 kX (by omega)
 replace B3 := kb B3 kX (by omega)
 replace y11 := kb y11 kX (by omega)
 replace y12 := kb y12 kX (by omega)
 replace y9 := y9n
 clear y9n
 have kVX := kV3.fresh (by omega) kX
 have HTX := zB ((zA HT).keepF kVX)
 have HRX := zB ((zA HR).keepF kVX)
 have HWX := zB ((zA HKV).trans kVX)
 have HSX := zB ((zA HSV).keepF kVX)
 have HKX := zB (Wp.refl (fun _ => False) X)
 have H2 := zB B2
 have HSK : Hid (∀ w', Wp (fun q => q = w.heap.size + 1 + 1) X w' → w'.cell? ⟨w.heap.size + 1, 0, none⟩ = some (.int .i64 (k : Int)) ∧ w'.cell? ⟨w.heap.size + 1, 1, none⟩ = some (.slice (some ⟨tb, tof, none⟩) N tc) ∧ w'.cell? ⟨w.heap.size + 1, 2, none⟩ = some (.bool m.here) ∧ w'.cell? ⟨w.heap.size + 1, 3, none⟩ = some (.slice ro m.vals.length rc) ∧ w'.cell? ⟨w.heap.size, 0, none⟩ = some (.slice so S.length sc) ∧ w'.cell? ⟨w.heap.size + 1 + 1 + 1, 0, none⟩ = some (.int .i64 x.kind) ∧ w'.cell? ⟨w.heap.size + 1 + 1 + 1, 1, none⟩ = some (.int .i64 x.n) ∧ w'.cell? ⟨w.heap.size + 1 + 1 + 1, 2, none⟩ = some (str x.s) ∧ w'.cell? ⟨w1.heap.size + 1 + 1, 0, none⟩ = some (.int .i64 tp.kind) ∧ w'.cell? ⟨w1.heap.size + 1 + 1, 1, none⟩ = some (.int .i64 tp.n) ∧ w'.cell? ⟨w1.heap.size + 1 + 1, 2, none⟩ = some (str tp.s)) := fun w' hk => by
  have x1 := (hk.block _ (zE B1) (by omega)).trans B1
  have x2 := (hk.block _ (zE B0) (by omega)).trans B0
  have x3 := (hk.block _ (zE B3) (by omega)).trans B3
  have x4 := (hk.block _ (zE y12) (by omega)).trans y12
  exact ⟨(zC x1 _).trans rfl, (zC x1 _).trans rfl, (zC x1 _).trans rfl, (zC x1 _).trans rfl, (zC x2 _).trans rfl, (zC x3 _).trans rfl, (zC x3 _).trans rfl, (zC x3 _).trans rfl, (zC x4 _).trans rfl, (zC x4 _).trans rfl, (zC x4 _).trans rfl⟩
 obtain ⟨a0, a1, a2, a3, a4, a5, a6, a7, a8, a9, a10⟩ := zA HSK X (Wp.refl _ _)
 have HTY : Hid (Wr X (.slice (some ⟨tb, tof, none⟩) m.st.length tc) m.st) := by
  show Wr _ _ _
  rw [zA HPN]
  exact zA HTX
 clear B0 B1 B2 B3 y9 y11 y12
 go_wp2_with fail
 go_region_held3 (fun w' => w'.cell? ⟨w.heap.size + 1, 0, none⟩ = some (.int .i64 (k : Int)) ∧ w'.cell? ⟨w.heap.size + 1, 1, none⟩ = some (.slice (some ⟨tb, tof, none⟩) N tc) ∧ w'.cell? ⟨w.heap.size + 1, 2, none⟩ = some (.bool m.here) ∧ w'.cell? ⟨w.heap.size + 1, 3, none⟩ = some (.slice ro m.vals.length rc) ∧ w'.cell? ⟨w.heap.size, 0, none⟩ = some (.slice so S.length sc) ∧ w'.cell? ⟨w.heap.size + 1 + 1 + 1, 0, none⟩ = some (.int .i64 x.kind) ∧ w'.cell? ⟨w.heap.size + 1 + 1 + 1, 1, none⟩ = some (.int .i64 x.n) ∧ w'.cell? ⟨w.heap.size + 1 + 1 + 1, 2, none⟩ = some (str x.s) ∧ w'.cell? ⟨w1.heap.size + 1 + 1, 0, none⟩ = some (.int .i64 tp.kind) ∧ w'.cell? ⟨w1.heap.size + 1 + 1, 1, none⟩ = some (.int .i64 tp.n) ∧ w'.cell? ⟨w1.heap.size + 1 + 1, 2, none⟩ = some (str tp.s))
  (first | with_reducible exact zA HSK _ (zA HKX).any | with_reducible exact zA HSK _ (zA HKX).drew.any | with_reducible exact zA HSK _ ((zA HKX).alloc _).any | with_reducible exact zA HSK _ ((zA HKX).alloc _).drew.any | with_reducible exact zA HSK _ ((zA HKX).any.trans (Wu _ _ _ _ _ _)))
  ((first
  | (go_at_call 63; (with_reducible refine (zA HQK _ _ _ ((zA HSX).keepF (zA HKX).drew) ((zA HRX).keepF (zA HKX).drew)).mono ?_); rintro e w6 ⟨r1, r2, rfl, hv, hn6, hk⟩; have HN6 := zB (hn6.mono ((zA HWX).trans (zA HKX)).size); clear hn6; have HV6 := zB hv; have HKX := zB ((zA HKX).drew.trans hk); have hb5 := zD (zA H2) (zA HKX); obtain ⟨m0, m1, m2, m3⟩ := cl4 hb5; obtain ⟨z0, z1, z2, z3⟩ := fz4 hb5; have HB5 := zB hb5; clear hb5; clear hk hv)))
 all_goals go_wp2_with fail
 all_goals
  obtain ⟨s0, s1, s2, s3⟩ := set4c (zA HB5) (.int .i64 ((k : Int) + 1)) (.slice (some ⟨tb, tof, none⟩) N tc) (.bool RR.1) (.slice r1 RR.2.length r2)
  refine bodyPost_ret (v := .agg #[.int .i64 ((k : Int) + 1), .slice (some ⟨tb, tof, none⟩) N tc, .bool RR.1, .slice r1 RR.2.length r2]) (by simp [results, go_sem, s0, s1, s2, s3]) rfl ?_
  have k4 := Wu w6 (w.heap.size + 1 + 1) (.int .i64 ((k : Int) + 1)) (.slice (some ⟨tb, tof, none⟩) N tc) (.bool RR.1) (.slice r1 RR.2.length r2)
  refine ⟨(some ⟨tb, tof, none⟩), tc, r1, r2, by rw [zA HPN]; rfl, ?_, ?_, Or.inl (by rw [zA HPN]), zA HN6, ?_⟩
  ·exact vO ((zA HTY).keepF (zA HKX)) (zA HB5) (off4 (by simp)) k4
  ·exact vO (zA HV6) (zA HB5) (off4 (by simp)) k4
  ·exact ((zA HWX).trans (zA HKX)).fresh (by omega) k4
end Go.Proofs.YtbdlcaamanhapaaGreatDoor
namespace Go.Proofs.YtbdlcaamanhapaaGreatDoor
open Go.RowKit Go.Maps
theorem top_at {l : List ValA} (h : 1 ≤ l.length) : l[l.length - 1]? = some (topV l) := by
 unfold topV
 rw [List.getElem?_eq_getElem (by omega)]
 rfl
theorem sec_at {l : List ValA} (h : 2 ≤ l.length) : l[l.length - 2]? = some (secV l) := by
 unfold secV
 rw [List.getElem?_eq_getElem (by omega)]
 rfl
theorem sec_kind {l : List ValA} (h : 2 ≤ l.length) : (secV l).kind ∈ (l.map ValA.kind).drop (l.length - 2) := by
 rw [List.mem_iff_getElem?]
 refine ⟨0, ?_⟩
 rw [List.getElem?_drop, List.getElem?_map, Nat.add_zero, sec_at h]
 rfl
theorem one_allows {S : List Wq} {x : ValA} {m : MS} {ts ts' : List Int} (hM : TyM S m ts) (hb : behB S x ts = some ts') (ht : (opA x.kind).takes = 1) : 1 ≤ m.st.length ∧ goodV (topV m.st) ∧ allowsB (ofF S x (opA x.kind).of) (topV m.st).kind = true := by
 obtain ⟨b1, b2, _, _⟩ := beh_parts hb
 have hlen : ts.length = m.st.length := by rw [← hM.ty]; simp
 rw [ht] at b1 b2
 obtain ⟨g1, g2⟩ := top_mem (l := m.st) (t := 1) (Nat.le_refl _) (by omega)
 rw [hM.ty, ← hlen] at g2
 have hall := List.all_eq_true.1 b2 _ g2
 simp only [Bool.and_eq_true] at hall
 exact ⟨by omega, hM.good _ g1, hall.2⟩
theorem two_allows {S : List Wq} {x : ValA} {m : MS} {ts ts' : List Int} (hM : TyM S m ts) (hb : behB S x ts = some ts') (ht : (opA x.kind).takes = 2) : 2 ≤ m.st.length ∧ goodV (topV m.st) ∧ goodV (secV m.st) ∧ (secV m.st).kind = (topV m.st).kind := by
 obtain ⟨b1, b2, _, _⟩ := beh_parts hb
 have hlen : ts.length = m.st.length := by rw [← hM.ty]; simp
 rw [ht] at b1 b2
 obtain ⟨g1, g2⟩ := top_mem (l := m.st) (t := 2) (by omega) (by omega)
 have g3 := sec_kind (l := m.st) (by omega)
 rw [hM.ty, ← hlen] at g2 g3
 have h1 := List.all_eq_true.1 b2 _ g2
 have h2 := List.all_eq_true.1 b2 _ g3
 simp only [Bool.and_eq_true, decide_eq_true_eq] at h1 h2
 exact ⟨by omega, hM.good _ g1, hM.good _ (sec_mem (t := 2) (Nat.le_refl _) (by omega)), h2.1.trans h1.1.symm⟩
theorem stepB_any (S : List Wq) (sv lv tv rv : Value) (l : List ValA) (k : Nat) (m : MS) (x : ValA) (z : ValA) (w : World) (hS : Wt w sv S) (hl : Wr w lv l) (hst : Wr w tv m.st) (hr : Wr w rv m.vals) (hx : l[k]? = some x) (hk : k ≤ 1024) (h16 : m.st.length ≤ 16) (h1 : 1 ≤ m.st.length) (hP : ∀ (W : World) (sv rv : Value), Wt W sv S → Wr W rv m.vals → Calls Tryz.prog 59 #[.agg #[sv], x.v, .agg #[.bool m.here, rv]] W fun e w' => e = .returned (.tuple #[zV.v, .bool false]) ∧ Wp (fun _ => False) W w') (hT : ∀ W : World, Calls Tryz.prog 61 #[.int .i64 x.kind, (topV m.st).v] W fun e w' => e = .returned (.tuple #[z.v, .bool true]) ∧ Wp (fun _ => False) W w') :
  Calls Tryz.prog 42 #[.agg #[sv], lv, .agg #[.int .i64 (k : Int), tv, .bool m.here, rv]] w fun e w' => StatesTo w tv rv (k + 1) ⟨m.st.take (m.st.length - 1) ++ [z], m.here, m.vals⟩ e w' := by
 have ht := top_at h1
 by_cases h2 : m.st.length = 1
 ·rw [h2] at ht
  exact stepRB1_v S sv lv tv rv l k m x z w hS hl hst hr hx hk h16 (topV m.st) h2 ht hP hT
 ·exact stepRB2_v S sv lv tv rv l k m x z w hS hl hst hr hx hk h16 (topV m.st) (secV m.st) (m.st.length - 1) (m.st.length - 2) (by omega) (by omega) ht (sec_at (by omega)) hP hT
theorem stepC_any (S : List Wq) (sv lv tv rv : Value) (l : List ValA) (k : Nat) (m : MS) (x : ValA) (z : ValA) (w : World) (hS : Wt w sv S) (hl : Wr w lv l) (hst : Wr w tv m.st) (hr : Wr w rv m.vals) (hx : l[k]? = some x) (hk : k ≤ 1024) (h16 : m.st.length ≤ 16) (h1 : 2 ≤ m.st.length) (hP : ∀ (W : World) (sv rv : Value), Wt W sv S → Wr W rv m.vals → Calls Tryz.prog 59 #[.agg #[sv], x.v, .agg #[.bool m.here, rv]] W fun e w' => e = .returned (.tuple #[zV.v, .bool false]) ∧ Wp (fun _ => False) W w') (hT : ∀ (W : World) (a : ValA), Calls Tryz.prog 61 #[.int .i64 x.kind, a.v] W fun e w' => e = .returned (.tuple #[zV.v, .bool false]) ∧ Wp (fun _ => False) W w') (hJ : ∀ W : World, Calls Tryz.prog 62 #[.int .i64 x.kind, (secV m.st).v, (topV m.st).v] W fun e w' => e = .returned (.tuple #[z.v, .bool true]) ∧ Wp (fun _ => False) W w') :
  Calls Tryz.prog 42 #[.agg #[sv], lv, .agg #[.int .i64 (k : Int), tv, .bool m.here, rv]] w fun e w' => StatesTo w tv rv (k + 1) ⟨m.st.take (m.st.length - 2) ++ [z], m.here, m.vals⟩ e w' :=
 stepRC2_v S sv lv tv rv l k m x z w hS hl hst hr hx hk h16 (topV m.st) (secV m.st) (m.st.length - 1) (m.st.length - 2) (by omega) (by omega) (top_at (by omega)) (sec_at h1) hP (fun W => hT W _) hJ
theorem stepJ_any (S : List Wq) (sv lv tv rv : Value) (l : List ValA) (k : Nat) (m : MS) (x : ValA) (w : World) (hS : Wt w sv S) (hl : Wr w lv l) (hst : Wr w tv m.st) (hr : Wr w rv m.vals) (hx : l[k]? = some x) (hk : k ≤ 1024) (h16 : m.st.length ≤ 16) (hP : ∀ (W : World) (sv rv : Value), Wt W sv S → Wr W rv m.vals → Calls Tryz.prog 59 #[.agg #[sv], x.v, .agg #[.bool m.here, rv]] W fun e w' => e = .returned (.tuple #[zV.v, .bool false]) ∧ Wp (fun _ => False) W w') (hT : ∀ (W : World) (a : ValA), Calls Tryz.prog 61 #[.int .i64 x.kind, a.v] W fun e w' => e = .returned (.tuple #[zV.v, .bool false]) ∧ Wp (fun _ => False) W w') (hJ : ∀ (W : World) (a b : ValA), Calls Tryz.prog 62 #[.int .i64 x.kind, a.v, b.v] W fun e w' => e = .returned (.tuple #[zV.v, .bool false]) ∧ Wp (fun _ => False) W w') (o25 : (x.kind == 25) = true) (hxn : 0 ≤ x.n) (hxm : x.n ≤ 4096) :
  Calls Tryz.prog 42 #[.agg #[sv], lv, .agg #[.int .i64 (k : Int), tv, .bool m.here, rv]] w fun e w' => StatesTo w tv rv (k + 1 + x.n.toNat) ⟨m.st, m.here, m.vals⟩ e w' := by
 by_cases h0 : m.st.length = 0
 ·exact stepRJ0_v S sv lv tv rv l k m x w hS hl hst hr hx hk h16 h0 hP (fun W => hT W zV) (fun W => hJ W zV zV) o25 hxn hxm
 ·have ht := top_at (l := m.st) (by omega)
  by_cases h2 : m.st.length = 1
  ·rw [h2] at ht
   exact stepRJ1_v S sv lv tv rv l k m x w hS hl hst hr hx hk h16 (topV m.st) h2 ht hP (fun W => hT W _) (fun W => hJ W zV _) o25 hxn hxm
  ·exact stepRJ2_v S sv lv tv rv l k m x w hS hl hst hr hx hk h16 (topV m.st) (secV m.st) (m.st.length - 1) (m.st.length - 2) (by omega) (by omega) ht (sec_at (by omega)) hP (fun W => hT W _) (fun W => hJ W _ _) o25 hxn hxm
theorem stepQ_any (S : List Wq) (sv lv tv rv : Value) (l : List ValA) (k : Nat) (m : MS) (x : ValA) (w : World) (hS : Wt w sv S) (hl : Wr w lv l) (hst : Wr w tv m.st) (hr : Wr w rv m.vals) (hx : l[k]? = some x) (hk : k ≤ 1024) (h16 : m.st.length ≤ 16) (hP : ∀ (W : World) (sv rv : Value), Wt W sv S → Wr W rv m.vals → Calls Tryz.prog 59 #[.agg #[sv], x.v, .agg #[.bool m.here, rv]] W fun e w' => e = .returned (.tuple #[zV.v, .bool false]) ∧ Wp (fun _ => False) W w') (hT : ∀ (W : World) (a : ValA), Calls Tryz.prog 61 #[.int .i64 x.kind, a.v] W fun e w' => e = .returned (.tuple #[zV.v, .bool false]) ∧ Wp (fun _ => False) W w') (hJ : ∀ (W : World) (a b : ValA), Calls Tryz.prog 62 #[.int .i64 x.kind, a.v, b.v] W fun e w' => e = .returned (.tuple #[zV.v, .bool false]) ∧ Wp (fun _ => False) W w') (RR : Bool × List ValA) (hK : ∀ (W : World) (sv rv : Value) (a : ValA), Wt W sv S → Wr W rv m.vals → Calls Tryz.prog 63 #[.agg #[sv], x.v, .agg #[.bool m.here, rv], a.v] W fun e w' => ∃ ro rc, e = .returned (.agg #[.bool RR.1, .slice ro RR.2.length rc]) ∧ Wr w' (.slice ro RR.2.length rc) RR.2 ∧ New W rv (.slice ro RR.2.length rc) ∧ Wp (fun _ => False) W w') (o25 : (x.kind == 25) = false) (o26 : (x.kind == 26) = false) (o20 : (x.kind == 20) = false) (o21 : (x.kind == 21) = false) :
  Calls Tryz.prog 42 #[.agg #[sv], lv, .agg #[.int .i64 (k : Int), tv, .bool m.here, rv]] w fun e w' => StatesTo w tv rv (k + 1) ⟨m.st, RR.1, RR.2⟩ e w' := by
 by_cases h0 : m.st.length = 0
 ·exact stepRQ0_v S sv lv tv rv l k m x w hS hl hst hr hx hk h16 h0 hP (fun W => hT W zV) (fun W => hJ W zV zV) RR (fun W sv rv h1 h2 => hK W sv rv zV h1 h2) o25 o26 o20 o21
 ·have ht := top_at (l := m.st) (by omega)
  by_cases h2 : m.st.length = 1
  ·rw [h2] at ht
   exact stepRQ1_v S sv lv tv rv l k m x w hS hl hst hr hx hk h16 (topV m.st) h2 ht hP (fun W => hT W _) (fun W => hJ W zV _) RR (fun W sv rv h1 h2 => hK W sv rv _ h1 h2) o25 o26 o20 o21
  ·exact stepRQ2_v S sv lv tv rv l k m x w hS hl hst hr hx hk h16 (topV m.st) (secV m.st) (m.st.length - 1) (m.st.length - 2) (by omega) (by omega) ht (sec_at (by omega)) hP (fun W => hT W _) (fun W => hJ W _ _) RR (fun W sv rv h1 h2 => hK W sv rv _ h1 h2) o25 o26 o20 o21
theorem stepU_any (S : List Wq) (sv lv tv rv : Value) (l : List ValA) (k : Nat) (m : MS) (x : ValA) (w : World) (hS : Wt w sv S) (hl : Wr w lv l) (hst : Wr w tv m.st) (hr : Wr w rv m.vals) (hx : l[k]? = some x) (hk : k ≤ 1024) (h16 : m.st.length ≤ 16) (h1 : 1 ≤ m.st.length) (hP : ∀ (W : World) (sv rv : Value), Wt W sv S → Wr W rv m.vals → Calls Tryz.prog 59 #[.agg #[sv], x.v, .agg #[.bool m.here, rv]] W fun e w' => e = .returned (.tuple #[zV.v, .bool false]) ∧ Wp (fun _ => False) W w') (hT : ∀ (W : World) (a : ValA), Calls Tryz.prog 61 #[.int .i64 x.kind, a.v] W fun e w' => e = .returned (.tuple #[zV.v, .bool false]) ∧ Wp (fun _ => False) W w') (hJ : ∀ (W : World) (a b : ValA), Calls Tryz.prog 62 #[.int .i64 x.kind, a.v, b.v] W fun e w' => e = .returned (.tuple #[zV.v, .bool false]) ∧ Wp (fun _ => False) W w') (o25 : (x.kind == 25) = false) (o26 : (x.kind == 26) = true) (hxn : 0 ≤ x.n) (hxm : x.n ≤ 4096) (bz : Bool) (hb0 : ((topV m.st).n == 0) = bz) :
  Calls Tryz.prog 42 #[.agg #[sv], lv, .agg #[.int .i64 (k : Int), tv, .bool m.here, rv]] w fun e w' => StatesTo w tv rv (if bz then k + 1 + x.n.toNat else k + 1) ⟨m.st.take (m.st.length - 1), m.here, m.vals⟩ e w' := by
 have ht := top_at h1
 by_cases h2 : m.st.length = 1
 ·rw [h2] at ht
  exact stepRU1_v S sv lv tv rv l k m x w hS hl hst hr hx hk h16 (topV m.st) h2 ht hP (fun W => hT W _) (fun W => hJ W zV _) o25 o26 hxn hxm bz hb0
 ·exact stepRU2_v S sv lv tv rv l k m x w hS hl hst hr hx hk h16 (topV m.st) (secV m.st) (m.st.length - 1) (m.st.length - 2) (by omega) (by omega) ht (sec_at (by omega)) hP (fun W => hT W _) (fun W => hJ W _ _) o25 o26 hxn hxm bz hb0
theorem stepP_any (S : List Wq) (sv lv tv rv : Value) (l : List ValA) (k : Nat) (m : MS) (x : ValA) (w : World) (hS : Wt w sv S) (hl : Wr w lv l) (hst : Wr w tv m.st) (hr : Wr w rv m.vals) (hx : l[k]? = some x) (hk : k ≤ 1024) (h16 : m.st.length ≤ 16) (h1 : 1 ≤ m.st.length) (hP : ∀ (W : World) (sv rv : Value), Wt W sv S → Wr W rv m.vals → Calls Tryz.prog 59 #[.agg #[sv], x.v, .agg #[.bool m.here, rv]] W fun e w' => e = .returned (.tuple #[zV.v, .bool false]) ∧ Wp (fun _ => False) W w') (hT : ∀ (W : World) (a : ValA), Calls Tryz.prog 61 #[.int .i64 x.kind, a.v] W fun e w' => e = .returned (.tuple #[zV.v, .bool false]) ∧ Wp (fun _ => False) W w') (hJ : ∀ (W : World) (a b : ValA), Calls Tryz.prog 62 #[.int .i64 x.kind, a.v, b.v] W fun e w' => e = .returned (.tuple #[zV.v, .bool false]) ∧ Wp (fun _ => False) W w') (RR : Bool × List ValA) (hK : ∀ (W : World) (sv rv : Value), Wt W sv S → Wr W rv m.vals → Calls Tryz.prog 63 #[.agg #[sv], x.v, .agg #[.bool m.here, rv], (topV m.st).v] W fun e w' => ∃ ro rc, e = .returned (.agg #[.bool RR.1, .slice ro RR.2.length rc]) ∧ Wr w' (.slice ro RR.2.length rc) RR.2 ∧ New W rv (.slice ro RR.2.length rc) ∧ Wp (fun _ => False) W w') (o25 : (x.kind == 25) = false) (o26 : (x.kind == 26) = false) (oP : (x.kind == 20) = true ∨ ((x.kind == 20) = false ∧ (x.kind == 21) = true)) :
  Calls Tryz.prog 42 #[.agg #[sv], lv, .agg #[.int .i64 (k : Int), tv, .bool m.here, rv]] w fun e w' => StatesTo w tv rv (k + 1) ⟨m.st.take (m.st.length - 1), RR.1, RR.2⟩ e w' := by
 have ht := top_at h1
 by_cases h2 : m.st.length = 1
 ·rw [h2] at ht
  exact stepRP1_v S sv lv tv rv l k m x w hS hl hst hr hx hk h16 (topV m.st) h2 ht hP (fun W => hT W _) (fun W => hJ W zV _) RR hK o25 o26 oP
 ·exact stepRP2_v S sv lv tv rv l k m x w hS hl hst hr hx hk h16 (topV m.st) (secV m.st) (m.st.length - 1) (m.st.length - 2) (by omega) (by omega) ht (sec_at (by omega)) hP (fun W => hT W _) (fun W => hJ W _ _) RR hK o25 o26 oP
theorem runO_ok {S : List Wq} {l : List ValA} {hh : Bool} {vals : List ValA} (h : (runO S l hh vals).e = 0) : (verifyA S l).2.2 = 0 ∧ rowE S hh vals = 0 := by
 unfold runO outO at h
 split at h
 ·rename_i q; exact absurd h q
 ·rename_i q
  split at h
  ·rename_i q2; exact absurd h q2
  ·rename_i q2
   exact ⟨by simpa using q, by simpa using q2⟩
theorem rowOK_len {S : List Wq} {h : Bool} {vals : List ValA} (hs : errS S = 0) (hr : rowOK S h vals) : vals.length ≤ 8 := by
 have hsb : schemaB S = true := by
  unfold errS at hs
  split at hs
  ·assumption
  ·cases hs
 have := (schemaB_len hsb).2
 unfold rowOK at hr
 cases h with
 | false => rw [if_neg (by decide)] at hr; rw [hr]; simp
 | true => rw [if_pos rfl] at hr; omega
theorem runO_len (S : List Wq) (l : List ValA) (hh : Bool) (vals : List ValA) : (runO S l hh vals).vals.length ≤ 8 := by
 by_cases h : (runO S l hh vals).e = 0
 ·obtain ⟨h1, h2⟩ := runO_ok h
  obtain ⟨ps, _, _, _, _, _, _, _, _, _, hrow, _⟩ := run_bounds h1 h2
  have : (runO S l hh vals).vals = (playM S l l.length 0 ⟨[], hh, vals⟩).2.vals := by unfold runO outO; rw [h1, h2, if_neg (by decide), if_neg (by decide)]
  rw [this]
  exact rowOK_len (ver_schema h1) hrow
 ·unfold runO outO at h ⊢
  split
  ·simp
  ·rename_i q1
   rw [if_neg q1] at h
   split
   ·simp
   ·rename_i q2
    rw [if_neg q2] at h
    exact absurd rfl h
end Go.Proofs.YtbdlcaamanhapaaGreatDoor
namespace Go.Proofs.YtbdlcaamanhapaaGreatDoor
open Go.RowKit Go.Maps
set_option maxRecDepth 100000
set_option maxHeartbeats 4000000
theorem bool_n {v : ValA} (h : goodV v) (hk : v.kind = 2) : v.n = 0 ∨ v.n = 1 := by
 rcases h with ⟨h, _⟩ | ⟨_, h, _⟩ | ⟨h, _⟩
 ·rw [hk] at h; cases h
 ·exact h
 ·rw [hk] at h; cases h
theorem row_lt {S : List Wq} {m : MS} (hR : rowOK S m.here m.vals) {n : Nat} (hn : n < S.length) (hh : m.here = true) : n < m.vals.length := by
 unfold rowOK at hR
 rw [if_pos hh] at hR
 omega
theorem load_n (S : List Wq) (m : MS) (n : Nat) : (if hasB m n then (m.vals[n]?).getD zV else zV).n = (loadV S m n).n := by
 unfold loadV
 split <;> rfl
theorem stepR_v (S : List Wq) (sv lv tv rv : Value) (l : List ValA) (k : Nat) (m : MS) (x : ValA) (w : World) (hS : Wt w sv S) (hl : Wr w lv l) (hst : Wr w tv m.st) (hr : Wr w rv m.vals) (hx : l[k]? = some x) (hk : k ≤ 1024) (h16 : m.st.length ≤ 16) (ts ts' : List Int) (hsch : errS S = 0) (hf : formB x = 0) (hrf : rightF S x = true) (hM : TyM S m ts) (hb : behB S x ts = some ts') :
  Calls Tryz.prog 42 #[.agg #[sv], lv, .agg #[.int .i64 (k : Int), tv, .bool m.here, rv]] w fun e w' => StatesTo w tv rv (nextM x k m) (stepM S x m) e w' := by
 obtain ⟨h1, h2⟩ := formB_zero hf
 have hc := op_cases h1
 have hvl : m.vals.length ≤ 1024 := by have := rowOK_len hsch hM.row; omega
 obtain ⟨o, n, s⟩ := x
 simp only at hc h1 h2
 clear h1 h2
 simp only [List.mem_cons, List.not_mem_nil, or_false] at hc
 rcases hc with rfl | rfl | rfl | rfl | rfl | rfl | rfl | rfl | rfl | rfl | rfl | rfl | rfl | rfl | rfl | rfl | rfl | rfl | rfl | rfl | rfl | rfl | rfl | rfl | rfl | rfl
 ·exact stepRA_v S sv lv tv rv l k m ⟨1, n, s⟩ (toldV S ⟨1, n, s⟩ m) w hS hl hst hr hx hk h16 (fun W sv rv q1 q2 => pushes1_v S sv rv ⟨1, n, s⟩ m W q1 q2 rfl)
 ·exact stepRA_v S sv lv tv rv l k m ⟨2, n, s⟩ (toldV S ⟨2, n, s⟩ m) w hS hl hst hr hx hk h16 (fun W sv rv q1 q2 => pushes2_v S sv rv ⟨2, n, s⟩ m W q1 q2 rfl)
 ·exact stepRA_v S sv lv tv rv l k m ⟨3, n, s⟩ (toldV S ⟨3, n, s⟩ m) w hS hl hst hr hx hk h16 (fun W sv rv q1 q2 => pushes3_v S sv rv ⟨3, n, s⟩ m W q1 q2 rfl)
 ·exact stepRA_v S sv lv tv rv l k m ⟨4, n, s⟩ (toldV S ⟨4, n, s⟩ m) w hS hl hst hr hx hk h16 (fun W sv rv q1 q2 => pushes4_v S sv rv ⟨4, n, s⟩ m W q1 q2 rfl)
 ·have hn : n < S.length := by
   have e : rightF S ⟨5, n, s⟩ = decide (n < S.length) := rfl
   rw [e] at hrf
   simpa using hrf
  have h0 : 0 ≤ n ∧ n < 8 := form_field hf (Or.inl rfl)
  have hlt : n.toNat < S.length := by omega
  exact stepRA_v S sv lv tv rv l k m ⟨5, n, s⟩ (toldV S ⟨5, n, s⟩ m) w hS hl hst hr hx hk h16 (fun W sv rv q1 q2 => pushes5_v S sv rv ⟨5, n, s⟩ m W q1 q2 rfl h0.1 hlt (row_lt hM.row hlt))
 ·have hn : n < S.length := by
   have e : rightF S ⟨6, n, s⟩ = (decide (n < S.length) && ((S[n.toNat]?).map Wq.opt).getD false) := rfl
   rw [e] at hrf
   simp only [Bool.and_eq_true, decide_eq_true_eq] at hrf; exact hrf.1
  have h0 : 0 ≤ n ∧ n < 8 := form_field hf (Or.inr (Or.inl rfl))
  have hlt : n.toNat < S.length := by omega
  exact stepRA_v S sv lv tv rv l k m ⟨6, n, s⟩ (toldV S ⟨6, n, s⟩ m) w hS hl hst hr hx hk h16 (fun W sv rv q1 q2 => pushes6_v S sv rv ⟨6, n, s⟩ m W q1 q2 rfl h0.1 hlt (row_lt hM.row hlt))
 ·exact stepRA_v S sv lv tv rv l k m ⟨7, n, s⟩ (toldV S ⟨7, n, s⟩ m) w hS hl hst hr hx hk h16 (fun W sv rv q1 q2 => pushes7_v S sv rv ⟨7, n, s⟩ m W q1 q2 rfl)
 ·obtain ⟨q, g, a⟩ := one_allows hM hb rfl
  exact stepB_any S sv lv tv rv l k m ⟨8, n, s⟩ (oneV 8 (topV m.st)) w hS hl hst hr hx hk h16 q (fun W sv rv q1 q2 => pushesN_v S sv rv ⟨8, n, s⟩ m W q1 q2 rfl rfl rfl rfl rfl rfl rfl) (fun W => turns_yes 8 (topV m.st) W (Or.inl rfl) (fun _ => bool_n g (of_decide_eq_true a).symm))
 ·obtain ⟨q, g, a⟩ := one_allows hM hb rfl
  exact stepB_any S sv lv tv rv l k m ⟨9, n, s⟩ (oneV 9 (topV m.st)) w hS hl hst hr hx hk h16 q (fun W sv rv q1 q2 => pushesN_v S sv rv ⟨9, n, s⟩ m W q1 q2 rfl rfl rfl rfl rfl rfl rfl) (fun W => turns_yes 9 (topV m.st) W (Or.inr (Or.inl rfl)) (fun q => by cases q))
 ·obtain ⟨q, g1, g2, gk⟩ := two_allows hM hb rfl
  exact stepC_any S sv lv tv rv l k m ⟨10, n, s⟩ (twoV 10 (secV m.st) (topV m.st)) w hS hl hst hr hx hk h16 q (fun W sv rv q1 q2 => pushesN_v S sv rv ⟨10, n, s⟩ m W q1 q2 rfl rfl rfl rfl rfl rfl rfl) (fun W a => turns_no 10 a W rfl rfl rfl) (fun W => joins10_v (secV m.st) (topV m.st) W)
 ·obtain ⟨q, g1, g2, gk⟩ := two_allows hM hb rfl
  exact stepC_any S sv lv tv rv l k m ⟨11, n, s⟩ (twoV 11 (secV m.st) (topV m.st)) w hS hl hst hr hx hk h16 q (fun W sv rv q1 q2 => pushesN_v S sv rv ⟨11, n, s⟩ m W q1 q2 rfl rfl rfl rfl rfl rfl rfl) (fun W a => turns_no 11 a W rfl rfl rfl) (fun W => joins11_v (secV m.st) (topV m.st) W)
 ·obtain ⟨q, g1, g2, gk⟩ := two_allows hM hb rfl
  exact stepC_any S sv lv tv rv l k m ⟨12, n, s⟩ (twoV 12 (secV m.st) (topV m.st)) w hS hl hst hr hx hk h16 q (fun W sv rv q1 q2 => pushesN_v S sv rv ⟨12, n, s⟩ m W q1 q2 rfl rfl rfl rfl rfl rfl rfl) (fun W a => turns_no 12 a W rfl rfl rfl) (fun W => joins12_v (secV m.st) (topV m.st) W)
 ·obtain ⟨q, g1, g2, gk⟩ := two_allows hM hb rfl
  exact stepC_any S sv lv tv rv l k m ⟨13, n, s⟩ (twoV 13 (secV m.st) (topV m.st)) w hS hl hst hr hx hk h16 q (fun W sv rv q1 q2 => pushesN_v S sv rv ⟨13, n, s⟩ m W q1 q2 rfl rfl rfl rfl rfl rfl rfl) (fun W a => turns_no 13 a W rfl rfl rfl) (fun W => joins13_v (secV m.st) (topV m.st) W)
 ·obtain ⟨q, g1, g2, gk⟩ := two_allows hM hb rfl
  exact stepC_any S sv lv tv rv l k m ⟨14, n, s⟩ (twoV 14 (secV m.st) (topV m.st)) w hS hl hst hr hx hk h16 q (fun W sv rv q1 q2 => pushesN_v S sv rv ⟨14, n, s⟩ m W q1 q2 rfl rfl rfl rfl rfl rfl rfl) (fun W a => turns_no 14 a W rfl rfl rfl) (fun W => joins14_v (secV m.st) (topV m.st) W)
 ·obtain ⟨q, g1, g2, gk⟩ := two_allows hM hb rfl
  exact stepC_any S sv lv tv rv l k m ⟨15, n, s⟩ (twoV 15 (secV m.st) (topV m.st)) w hS hl hst hr hx hk h16 q (fun W sv rv q1 q2 => pushesN_v S sv rv ⟨15, n, s⟩ m W q1 q2 rfl rfl rfl rfl rfl rfl rfl) (fun W a => turns_no 15 a W rfl rfl rfl) (fun W => joins15_v (secV m.st) (topV m.st) W g2 g1 gk)
 ·obtain ⟨q, g1, g2, gk⟩ := two_allows hM hb rfl
  exact stepC_any S sv lv tv rv l k m ⟨16, n, s⟩ (twoV 16 (secV m.st) (topV m.st)) w hS hl hst hr hx hk h16 q (fun W sv rv q1 q2 => pushesN_v S sv rv ⟨16, n, s⟩ m W q1 q2 rfl rfl rfl rfl rfl rfl rfl) (fun W a => turns_no 16 a W rfl rfl rfl) (fun W => joins16_v (secV m.st) (topV m.st) W g2 g1 gk)
 ·obtain ⟨q, g1, g2, gk⟩ := two_allows hM hb rfl
  exact stepC_any S sv lv tv rv l k m ⟨17, n, s⟩ (twoV 17 (secV m.st) (topV m.st)) w hS hl hst hr hx hk h16 q (fun W sv rv q1 q2 => pushesN_v S sv rv ⟨17, n, s⟩ m W q1 q2 rfl rfl rfl rfl rfl rfl rfl) (fun W a => turns_no 17 a W rfl rfl rfl) (fun W => joins17_v (secV m.st) (topV m.st) W)
 ·obtain ⟨q, g, a⟩ := one_allows hM hb rfl
  exact stepB_any S sv lv tv rv l k m ⟨18, n, s⟩ (oneV 18 (topV m.st)) w hS hl hst hr hx hk h16 q (fun W sv rv q1 q2 => pushesN_v S sv rv ⟨18, n, s⟩ m W q1 q2 rfl rfl rfl rfl rfl rfl rfl) (fun W => turns_yes 18 (topV m.st) W (Or.inr (Or.inr rfl)) (fun q => by cases q))
 ·obtain ⟨q, g1, g2, gk⟩ := two_allows hM hb rfl
  exact stepC_any S sv lv tv rv l k m ⟨19, n, s⟩ (twoV 19 (secV m.st) (topV m.st)) w hS hl hst hr hx hk h16 q (fun W sv rv q1 q2 => pushesN_v S sv rv ⟨19, n, s⟩ m W q1 q2 rfl rfl rfl rfl rfl rfl rfl) (fun W a => turns_no 19 a W rfl rfl rfl) (fun W => joins19_v (secV m.st) (topV m.st) W (good_len g2) (good_len g1))
 ·obtain ⟨q, g, a⟩ := one_allows hM hb rfl
  have h0 : 0 ≤ n ∧ n < 8 := form_field hf (Or.inl rfl)
  have hn : n < S.length := by
   have e : rightF S ⟨20, n, s⟩ = decide (n < S.length) := rfl
   rw [e] at hrf
   simpa using hrf
  obtain ⟨i, hi⟩ : ∃ i : Nat, n.toNat = i := ⟨_, rfl⟩
  have hni : n = (i : Int) := by omega
  subst hni
  have hlt : i < S.length := by omega
  have e : stepM S ⟨20, (i : Int), s⟩ m = ⟨m.st.take (m.st.length - 1), (setR m i (topV m.st)).1, (setR m i (topV m.st)).2⟩ := by
   show (⟨m.st.take (m.st.length - 1) ++ [], _, _⟩ : MS) = _
   rw [List.append_nil]
   rfl
  rw [e]
  exact stepP_any S sv lv tv rv l k m ⟨20, (i : Int), s⟩ w hS hl hst hr hx hk h16 q (fun W sv rv q1 q2 => pushesN_v S sv rv ⟨20, (i : Int), s⟩ m W q1 q2 rfl rfl rfl rfl rfl rfl rfl) (fun W a => turns_no 20 a W rfl rfl rfl) (fun W a b => joins_no 20 a b W rfl rfl rfl rfl rfl rfl rfl rfl rfl) (setR m i (topV m.st)) (fun W sv rv q1 q2 => sinks20_v S sv rv s m (topV m.st) W q1 q2 i (row_lt hM.row hlt) hvl) rfl rfl (Or.inl rfl)
 ·obtain ⟨q, g, a⟩ := one_allows hM hb rfl
  have h0 : 0 ≤ n ∧ n < 8 := form_field hf (Or.inr (Or.inr rfl))
  have hn : n < S.length := by
   have e : rightF S ⟨21, n, s⟩ = (decide (n < S.length) && decide (fldT S ⟨21, n, s⟩ = 1)) := rfl
   rw [e] at hrf
   simp only [Bool.and_eq_true, decide_eq_true_eq] at hrf; exact hrf.1
  obtain ⟨i, hi⟩ : ∃ i : Nat, n.toNat = i := ⟨_, rfl⟩
  have hni : n = (i : Int) := by omega
  subst hni
  have hlt : i < S.length := by omega
  have e : stepM S ⟨21, (i : Int), s⟩ m = ⟨m.st.take (m.st.length - 1), (setR m i (numV (wrap64 ((if hasB m i then (m.vals[i]?).getD zV else zV).n + (topV m.st).n)))).1, (setR m i (numV (wrap64 ((if hasB m i then (m.vals[i]?).getD zV else zV).n + (topV m.st).n)))).2⟩ := by
   rw [load_n S m i]
   show (⟨m.st.take (m.st.length - 1) ++ [], _, _⟩ : MS) = _
   rw [List.append_nil]
   rfl
  rw [e]
  exact stepP_any S sv lv tv rv l k m ⟨21, (i : Int), s⟩ w hS hl hst hr hx hk h16 q (fun W sv rv q1 q2 => pushesN_v S sv rv ⟨21, (i : Int), s⟩ m W q1 q2 rfl rfl rfl rfl rfl rfl rfl) (fun W a => turns_no 21 a W rfl rfl rfl) (fun W a b => joins_no 21 a b W rfl rfl rfl rfl rfl rfl rfl rfl rfl) (setR m i (numV (wrap64 ((if hasB m i then (m.vals[i]?).getD zV else zV).n + (topV m.st).n)))) (fun W sv rv q1 q2 => sinks21_v S sv rv s m (topV m.st) W q1 q2 i (row_lt hM.row hlt) hvl) rfl rfl (Or.inr ⟨rfl, rfl⟩)
 ·
  have h0 : 0 ≤ n ∧ n < 8 := form_field hf (Or.inr (Or.inl rfl))
  have hn : n < S.length := by
   have e : rightF S ⟨22, n, s⟩ = (decide (n < S.length) && ((S[n.toNat]?).map Wq.opt).getD false) := rfl
   rw [e] at hrf
   simp only [Bool.and_eq_true, decide_eq_true_eq] at hrf; exact hrf.1
  obtain ⟨i, hi⟩ : ∃ i : Nat, n.toNat = i := ⟨_, rfl⟩
  have hni : n = (i : Int) := by omega
  subst hni
  have hlt : i < S.length := by omega
  have e : stepM S ⟨22, (i : Int), s⟩ m = ⟨m.st, (setR m i zV).1, (setR m i zV).2⟩ := by
   show (⟨m.st.take (m.st.length - 0) ++ [], _, _⟩ : MS) = _
   rw [List.append_nil, Nat.sub_zero, List.take_length]
   rfl
  rw [e]
  exact stepQ_any S sv lv tv rv l k m ⟨22, (i : Int), s⟩ w hS hl hst hr hx hk h16 (fun W sv rv q1 q2 => pushesN_v S sv rv ⟨22, (i : Int), s⟩ m W q1 q2 rfl rfl rfl rfl rfl rfl rfl) (fun W a => turns_no 22 a W rfl rfl rfl) (fun W a b => joins_no 22 a b W rfl rfl rfl rfl rfl rfl rfl rfl rfl) (setR m i zV) (fun W sv rv a q1 q2 => sinks22_v S sv rv s m a W q1 q2 i (row_lt hM.row hlt) hvl) rfl rfl rfl rfl
 ·cases hh : m.here with
  | true =>
   have e : stepM S ⟨23, n, s⟩ m = ⟨m.st, m.here, m.vals⟩ := by
    show (⟨m.st.take (m.st.length - 0) ++ [], (if m.here then (m.here, m.vals) else (true, S.map zeroV)).1, (if m.here then (m.here, m.vals) else (true, S.map zeroV)).2⟩ : MS) = _
    rw [List.append_nil, Nat.sub_zero, List.take_length, if_pos hh]
   rw [e, ← hh]
   exact stepQ_any S sv lv tv rv l k m ⟨23, n, s⟩ w hS hl hst hr hx hk h16 (fun W sv rv q1 q2 => pushesN_v S sv rv ⟨23, n, s⟩ m W q1 q2 rfl rfl rfl rfl rfl rfl rfl) (fun W a => turns_no 23 a W rfl rfl rfl) (fun W a b => joins_no 23 a b W rfl rfl rfl rfl rfl rfl rfl rfl rfl) (m.here, m.vals) (fun W sv rv a q1 q2 => sinks23T_v S sv rv s m a W q1 q2 n hh) rfl rfl rfl rfl
  | false =>
   have e : stepM S ⟨23, n, s⟩ m = ⟨m.st, true, S.map zeroV⟩ := by
    show (⟨m.st.take (m.st.length - 0) ++ [], (if m.here then (m.here, m.vals) else (true, S.map zeroV)).1, (if m.here then (m.here, m.vals) else (true, S.map zeroV)).2⟩ : MS) = _
    rw [List.append_nil, Nat.sub_zero, List.take_length, if_neg (by rw [hh]; decide)]
   rw [e, ← hh]
   exact stepQ_any S sv lv tv rv l k m ⟨23, n, s⟩ w hS hl hst hr hx hk h16 (fun W sv rv q1 q2 => pushesN_v S sv rv ⟨23, n, s⟩ m W q1 q2 rfl rfl rfl rfl rfl rfl rfl) (fun W a => turns_no 23 a W rfl rfl rfl) (fun W a b => joins_no 23 a b W rfl rfl rfl rfl rfl rfl rfl rfl rfl) (true, S.map zeroV) (fun W sv rv a q1 q2 => sinks23F_v S sv rv s m a W q1 q2 n hh hsch) rfl rfl rfl rfl
 ·have e : stepM S ⟨24, n, s⟩ m = ⟨m.st, false, []⟩ := by
   show (⟨m.st.take (m.st.length - 0) ++ [], _, _⟩ : MS) = _
   rw [List.append_nil, Nat.sub_zero, List.take_length]
   rfl
  rw [e]
  exact stepQ_any S sv lv tv rv l k m ⟨24, n, s⟩ w hS hl hst hr hx hk h16 (fun W sv rv q1 q2 => pushesN_v S sv rv ⟨24, n, s⟩ m W q1 q2 rfl rfl rfl rfl rfl rfl rfl) (fun W a => turns_no 24 a W rfl rfl rfl) (fun W a b => joins_no 24 a b W rfl rfl rfl rfl rfl rfl rfl rfl rfl) (false, []) (fun W sv rv a q1 q2 => sinks24_v S sv rv s m a W q1 q2 n) rfl rfl rfl rfl
 ·have h0 := form_jump hf rfl
  simp only at h0
  have e : stepM S ⟨25, n, s⟩ m = ⟨m.st, m.here, m.vals⟩ := by
   show (⟨m.st.take (m.st.length - 0) ++ [], _, _⟩ : MS) = _
   rw [List.append_nil, Nat.sub_zero, List.take_length]
   rfl
  rw [e]
  exact stepJ_any S sv lv tv rv l k m ⟨25, n, s⟩ w hS hl hst hr hx hk h16 (fun W sv rv q1 q2 => pushesN_v S sv rv ⟨25, n, s⟩ m W q1 q2 rfl rfl rfl rfl rfl rfl rfl) (fun W a => turns_no 25 a W rfl rfl rfl) (fun W a b => joins_no 25 a b W rfl rfl rfl rfl rfl rfl rfl rfl rfl) rfl h0.1 (by show n ≤ 4096; omega)
 ·obtain ⟨q, g, a⟩ := one_allows hM hb rfl
  have hbn := bool_n g (of_decide_eq_true a).symm
  have h0 := form_jump hf rfl
  simp only at h0
  have e : stepM S ⟨26, n, s⟩ m = ⟨m.st.take (m.st.length - 1), m.here, m.vals⟩ := by
   show (⟨m.st.take (m.st.length - 1) ++ [], _, _⟩ : MS) = _
   rw [List.append_nil]
   rfl
  rw [e]
  rcases hbn with hz | hz
  ·have en : nextM ⟨26, n, s⟩ k m = k + 1 + n.toNat := by
    unfold nextM
    rw [if_pos (Or.inr ⟨rfl, by rw [hz]; decide⟩)]
   rw [en]
   exact stepU_any S sv lv tv rv l k m ⟨26, n, s⟩ w hS hl hst hr hx hk h16 q (fun W sv rv q1 q2 => pushesN_v S sv rv ⟨26, n, s⟩ m W q1 q2 rfl rfl rfl rfl rfl rfl rfl) (fun W a => turns_no 26 a W rfl rfl rfl) (fun W a b => joins_no 26 a b W rfl rfl rfl rfl rfl rfl rfl rfl rfl) rfl rfl h0.1 (by show n ≤ 4096; omega) true (by rw [hz]; rfl)
  ·have en : nextM ⟨26, n, s⟩ k m = k + 1 := by
    unfold nextM
    rw [if_neg (by rw [hz]; simp)]
   rw [en]
   exact stepU_any S sv lv tv rv l k m ⟨26, n, s⟩ w hS hl hst hr hx hk h16 q (fun W sv rv q1 q2 => pushesN_v S sv rv ⟨26, n, s⟩ m W q1 q2 rfl rfl rfl rfl rfl rfl rfl) (fun W a => turns_no 26 a W rfl rfl rfl) (fun W a b => joins_no 26 a b W rfl rfl rfl rfl rfl rfl rfl rfl rfl) rfl rfl h0.1 (by show n ≤ 4096; omega) false (by rw [hz]; rfl)
end Go.Proofs.YtbdlcaamanhapaaGreatDoor
namespace Go.Proofs.YtbdlcaamanhapaaGreatDoor
open Go.RowKit Go.Maps
theorem own_off {w : World} {B e size n : Nat} {v : Value} {xs : List Value} (h : w.ownsRow B e size v n xs) {R : Nat} {cs : Array Value} {t : TypeId} {fr : Nat × Nat} (hR : w.heap[R]? = some (.cells cs t fr)) (ht : t ≠ e) : ∀ k, v.ownBlock = some k → ¬ k = R := by
 intro k hk q
 subst q
 rcases h.2 with ⟨rfl, _⟩ | ⟨g, cap, cur, rfl, _, hb, _⟩
 ·cases hk
 ·simp only [Value.ownBlock, Option.some.injEq] at hk
  subst hk
  rw [hb] at hR
  simp only [Option.some.injEq, Obj.cells.injEq] at hR
  exact ht hR.2.1.symm
end Go.Proofs.YtbdlcaamanhapaaGreatDoor
