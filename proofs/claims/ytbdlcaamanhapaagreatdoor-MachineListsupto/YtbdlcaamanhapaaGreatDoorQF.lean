import Derived.Test.YtbdlcaamanhapaaGreatDoorJzbb
import Derived.Deep.RegionLaw
import Derived.Deep.DeepCutAuto
namespace Go.Proofs.YtbdlcaamanhapaaGreatDoor
open Go.RowKit Go.Maps
set_option maxRecDepth 100000
set_option maxHeartbeats 8000000
structure AmbM (w : World) (sb rb : Nat) (sv : Value) (S : List Wq) (iv : Value) (L : List ValA) (hh : Bool) (uv : Value) (V : List ValA) : Prop where
 env : Env w
 flds : Wt w sv S
 code : Wr w iv L
 row : Wr w uv V
 b0 : w.heap[sb]? = some (.cells #[sv] 24 (0, 0))
 b1 : w.heap[rb]? = some (.cells #[.bool hh, uv] 27 (0, 0))
theorem AmbM.keepF {w w' : World} {sb rb : Nat} {sv iv uv : Value} {S : List Wq} {L V : List ValA} {hh : Bool} (h : AmbM w sb rb sv S iv L hh uv V) (hk : Wp (fun _ => False) w w') : AmbM w' sb rb sv S iv L hh uv V :=
 ⟨h.env.keepF hk, h.flds.keepF hk, h.code.keepF hk, h.row.keepF hk, zD h.b0 hk, zD h.b1 hk⟩
theorem box_off {w w' : World} {B e z n b : Nat} {v : Value} {xs : List Value} {cs : Array Value} {t : TypeId} (h : w.ownsRow B e z v n xs) (hb : w.heap[b]? = some (.cells cs t (0, 0))) (ht : t ≠ e) (hk : Wp (fun q => v.ownBlock = some q) w w') : w'.heap[b]? = some (.cells cs t (0, 0)) :=
 (hk.block b (zE hb) (fun f => own_off h hb ht b f rfl)).trans hb
theorem cl2o {w : World} {b : Nat} {c0 c1 c2 c3 : Value} {t : TypeId} (h : w.heap[b]? = some (.cells #[c0, c1, c2, c3] t (0, 0))) : w.cell? ⟨b, 0, none⟩ = some c0 ∧ w.cell? ⟨b, 1, none⟩ = some c1 := ⟨(zC h 0).trans rfl, (zC h 1).trans rfl⟩
theorem eqRow_same (w : World) (hh : Bool) (va vb : Value) (l : List ValA) (h1 : Wr w va l) (h2 : Wr w vb l) (hl : l.length ≤ 1099511627776) :
  Calls Tryz.prog 12 #[.agg #[.bool hh, va], .agg #[.bool hh, vb]] w fun e w' => e = .returned (.bool true) ∧ Wp (fun _ => False) w w' :=
 (eqRow_v w hh hh va vb l l h1 h2 (by unfold maxLen; omega)).mono fun e w' h => ⟨by rw [h.1]; simp, h.2⟩
theorem trace_le (S : List Wq) (l : List ValA) (hh : Bool) (vals : List ValA) : (traceO S l hh vals).length ≤ 1024 := by
 unfold traceO outD
 split
 ·simp
 ·rename_i h
  have hV : (verifyA S l).2.2 = 0 := Classical.byContradiction fun q => h (Or.inl q)
  have hR : rowE S hh vals = 0 := Classical.byContradiction fun q => h (Or.inr q)
  obtain ⟨_, _, _, l96, _⟩ := run_bounds hV hR
  exact Nat.le_trans (playM_len (S := S) (l := l) _ _ _) (by omega)
theorem set_box {w Y : World} {b : Nat} {v : Value} {l : List ValA} (hk : Wp (fun _ => False) w Y) (hb : Y.heap[b]? = some (.cells #[.bool false, .slice none 0 0, .int .i64 0, .int .i64 0] 38 (0, 0))) (hn : w.heap.size ≤ b) (hv : Wr Y v l) (x : Bool) (p q : Int) :
  ((((Y.setCell ⟨b, 0, none⟩ (.bool x)).setCell ⟨b, 1, none⟩ v).setCell ⟨b, 2, none⟩ (.int .i64 p)).setCell ⟨b, 3, none⟩ (.int .i64 q)).heap[b]? = some (.cells #[.bool x, v, .int .i64 p, .int .i64 q] 38 (0, 0)) ∧
    Wr ((((Y.setCell ⟨b, 0, none⟩ (.bool x)).setCell ⟨b, 1, none⟩ v).setCell ⟨b, 2, none⟩ (.int .i64 p)).setCell ⟨b, 3, none⟩ (.int .i64 q)) v l ∧
    Wp (fun _ => False) w ((((Y.setCell ⟨b, 0, none⟩ (.bool x)).setCell ⟨b, 1, none⟩ v).setCell ⟨b, 2, none⟩ (.int .i64 p)).setCell ⟨b, 3, none⟩ (.int .i64 q)) := by
 have k4 := Wu Y b (.bool x) v (.int .i64 p) (.int .i64 q)
 obtain ⟨Y1, hY, h1, k1⟩ := stored4 hb (.bool x) v (.int .i64 p) (.int .i64 q)
 rw [hY] at k4 ⊢
 exact ⟨h1, vO hv hb (offO (by simp)) k1, hk.fresh hn k1⟩
theorem traceR2 (S : List Wq) (sv u v : Value) (l : List ValA) (hh : Bool) (vals : List ValA) (O : OutA) (T : List (Int × Txt)) (w : World) (hS : Wt w sv S) (hl : Wr w v l) (hI : InR l) (hr : Wr w u vals) (hO : O = runO S l hh vals) (hT : T = stepL (traceO S l hh vals)) :
  Calls Tryz.prog 11 #[.agg #[sv], v, .agg #[.bool hh, u]] w fun e w' => ∃ ro rc, e = .returned (.tuple #[.slice ro T.length rc, .int .i64 O.e]) ∧ w'.ownsRow w.heap.size 53 2 (.slice ro T.length rc) T.length (sC T) ∧ Wp (fun _ => False) w w' := by
 subst hO
 subst hT
 rw [← stepL_cs, stepL_len]
 exact traceR_v S sv u v l hh vals w hS hl hI hr
theorem half_int (n : Nat) : ((n : Nat) : Int).tdiv 2 = ((n / 2 : Nat) : Int) := by
 rw [Int.tdiv_eq_ediv_of_nonneg (by omega)]
 omega
theorem fresh_v (w : World) (S : List Wq) (sv iv uv : Value) (L V : List ValA) (hh : Bool) (hE : Env w) (hS : Wt w sv S) (hL : Wr w iv L) (hI : InR L) (hV : Wr w uv V) (nL : L.length ≤ 1099511627776) (nV : V.length ≤ 1099511627776) :
  Calls Tryz.prog 7 #[.agg #[sv], iv, .agg #[.bool hh, uv]] w fun e w' => e = .returned (.bool true) ∧ Wp (fun _ => False) w w' := by
 obtain ⟨so, sc, rfl⟩ := Ws.form hS
 obtain ⟨xo, xc, rfl⟩ := Ws.form hL
 obtain ⟨uo, uc, rfl⟩ := Ws.form hV
 obtain ⟨W, hW, hkW, g0, g1⟩ := boxes2 w #[(.slice so S.length sc)] #[.bool hh, (.slice uo V.length uc)] 24 27
 have A0 : Hid (AmbM W w.heap.size (w.heap.size + 1) (.slice so S.length sc) S (.slice xo L.length xc) L hh (.slice uo V.length uc) V) := ⟨hE.keepF hkW, hS.keepF hkW, hL.keepF hkW, hV.keepF hkW, g0, g1⟩
 have KW0 := zB hkW
 have J0 := zB (Wp.refl (fun _ => False) W)
 have HI := zB hI
 have Q1 := zB (copyCode_v W (.slice xo L.length xc) L (zA A0).code (by omega))
 have hd8 : (runO S L hh V).vals.length ≤ 8 := runO_len ..
 have HO8 := zB hd8
 obtain ⟨O, hO⟩ : ∃ O, O = runO S L hh V := ⟨_, rfl⟩
 obtain ⟨T, hT⟩ : ∃ T, T = stepL (traceO S L hh V) := ⟨_, rfl⟩
 have HOT := zB (And.intro hO hT)
 have p1 := cl1 (zA A0).b0
 obtain ⟨p2, p3⟩ := cl2 (zA A0).b1
 clear hE hS hL hV hI hkW g0 g1 hd8 hO hT
 go_enter Tryz.func7, Tryz.ntmps7
 go_wp2_with fail
 generalize w.heap.size + 1 = rb at *
 generalize w.heap.size = sb at *
 refine (zA Q1).mono ?_
 rintro e w1 ⟨lv, rfl, ho1, hk1⟩
 obtain ⟨lo, lc, rfl⟩ := (zG ho1).form
 have A1 := zB ((zA A0).keepF hk1)
 have J1 := zB ((zA J0).trans hk1)
 have L1 := zB ho1
 have p1 := cl1 (zA A1).b0
 obtain ⟨p2, p3⟩ := cl2 (zA A1).b1
 have Q2 := zB (copyRowR_v w1 hh (.slice uo V.length uc) V (zA A1).row (by omega))
 clear ho1 hk1 Q1
 go_wp2_with fail
 refine (zA Q2).mono ?_
 rintro e w2 ⟨ro, rc, rfl, ho2, hk2⟩
 have hka := kA w2 (.cells #[.bool hh, (.slice ro V.length rc)] 27)
 have hX := heap_alloc_new w2 (.cells #[.bool hh, (.slice ro V.length rc)] 27)
 have A2 := zB (((zA A1).keepF hk2).keepF hka)
 have J2 := zB (((zA J1).trans hk2).trans hka)
 have L2 := zB (zJ (zJ (zA L1) hk2) hka)
 have R2 := zB (zJ ho2 hka)
 have X2 := zB hX
 have D2 : Hid (∀ q, (Value.slice ro V.length rc).ownBlock = some q → q < (w2.alloc (.cells #[.bool hh, (.slice ro V.length rc)] 27)).heap.size) := fun q e => own_lt (zJ ho2 hka) e
 have E2 : Hid (∀ q, (Value.slice lo L.length lc).ownBlock = some q → q < (w2.alloc (.cells #[.bool hh, (.slice ro V.length rc)] 27)).heap.size) := fun q e => own_lt (zA L2) e
 have G2 : Hid (∀ q, (Value.slice ro V.length rc).ownBlock = some q → W.heap.size ≤ q) := fun q e => Nat.le_trans (zA J1).size (own_geO ho2 e)
 have c1 := cl1 (zA A2).b0
 obtain ⟨c2, c3⟩ := cl2 (zA X2)
 have Q3 := zB (run_o S _ _ _ L hh V _ (zA A2).env (zA A2).flds (vals_own (zA L2) rfl) (zA HI) (vals_own (zA R2) rfl))
 rw [← (zA HOT).1] at Q3
 clear ho2 hk2 hka hX Q2 L1
 go_wp2_with fail
 generalize w2.alloc (.cells #[.bool hh, (.slice ro V.length rc)] 27) = w2a at *
 generalize w2.heap.size = r8 at *
 refine (zA Q3).mono ?_
 rintro e w3 ⟨a3, d3, rfl, ho3, hk3⟩
 have hka := kA w3 (.cells #[.bool O.here, .slice a3 O.vals.length d3, .int .i64 (O.steps : Int), .int .i64 (O.deep : Int)] 38)
 have hX := heap_alloc_new w3 (.cells #[.bool O.here, .slice a3 O.vals.length d3, .int .i64 (O.steps : Int), .int .i64 (O.deep : Int)] 38)
 have hkk := hk3.trans hka
 have A3 := zB ((zA A2).keepF hkk)
 have J3 := zB ((zA J2).trans hkk)
 have L3 := zB (zJ (zA L2) hkk)
 have R3 := zB (zJ (zA R2) hkk)
 have X3 := zB (zD (zA X2) hkk)
 have AV3 := zB (zJ ho3 hka)
 have AX3 := zB hX
 have Q4 := zB (trace_o S _ _ _ L hh V _ (zA A3).env (zA A3).flds (vals_own (zA L3) rfl) (zA HI) (vals_own (zA R3) rfl))
 rw [stepL_cs, ← (zA HOT).2, ← stepL_len, ← (zA HOT).2, ← (zA HOT).1] at Q4
 have c1 := cl1 (zA A3).b0
 obtain ⟨c2, c3⟩ := cl2 (zA X3)
 have S3 : Hid (w2a.heap.size ≤ (w3.alloc (.cells #[.bool O.here, .slice a3 O.vals.length d3, .int .i64 (O.steps : Int), .int .i64 (O.deep : Int)] 38)).heap.size) := hkk.size
 clear ho3 hk3 hka hX hkk Q3 L2 R2 X2 A2 J2
 go_wp2_with fail
 generalize w3.alloc (.cells #[.bool O.here, .slice a3 O.vals.length d3, .int .i64 (O.steps : Int), .int .i64 (O.deep : Int)] 38) = w3a at *
 generalize w3.heap.size = a8 at *
 refine (zA Q4).mono ?_
 rintro e w4 ⟨t4, d4, rfl, ho4, hk4⟩
 have A4 := zB ((zA A3).keepF hk4)
 have J4 := zB ((zA J3).trans hk4)
 have L4 := zB (zJ (zA L3) hk4)
 have R4 := zB (zJ (zA R3) hk4)
 have X4 := zB (zD (zA X3) hk4)
 have AV4 := zB (zJ (zA AV3) hk4)
 have AX4 := zB (zD (zA AX3) hk4)
 have TT4 := zB ho4
 have S4 : Hid (w2a.heap.size ≤ w4.heap.size) := Nat.le_trans (zA S3) hk4.size
 have Q5 := zB (runR_v S _ _ _ L hh V _ (zA A4).flds (zA A4).code (zA HI) (zA A4).row)
 rw [← (zA HOT).1] at Q5
 have c1 := cl1 (zA A4).b0
 obtain ⟨c2, c3⟩ := cl2 (zA A4).b1
 clear ho4 hk4 Q4 L3 R3 X3 A3 J3 AV3 AX3 S3
 go_wp2_with fail
 refine (zA Q5).mono ?_
 rintro e w5 ⟨b5, d5, rfl, ho5, hb5, hk5⟩
 have hka := kA w5 (.cells #[.bool O.here, .slice b5 O.vals.length d5, .int .i64 (O.steps : Int), .int .i64 (O.deep : Int)] 38)
 have hX := heap_alloc_new w5 (.cells #[.bool O.here, .slice b5 O.vals.length d5, .int .i64 (O.steps : Int), .int .i64 (O.deep : Int)] 38)
 have hkk := hk5.trans hka
 have A5 := zB ((zA A4).keepF hkk)
 have J5 := zB ((zA J4).trans hkk)
 have L5 := zB (zJ (zA L4) hkk)
 have R5 := zB (zJ (zA R4) hkk)
 have X5 := zB (zD (zA X4) hkk)
 have AV5 := zB (zJ (zA AV4) hkk)
 have AX5 := zB (zD (zA AX4) hkk)
 have TT5 := zB (zJ (zA TT4) hkk)
 have BV5 := zB (ho5.keepF hka)
 have BX5 := zB hX
 have HB5 : Hid (∀ q, fullBlock (.slice b5 O.vals.length d5) = some q → w2a.heap.size ≤ q) := fun q e => Nat.le_trans (zA S4) (hb5 q e)
 have Q6 := zB (traceR_v S _ _ _ L hh V _ (zA A5).flds (zA A5).code (zA HI) (zA A5).row)
 rw [stepL_cs, ← (zA HOT).2, ← stepL_len, ← (zA HOT).2, ← (zA HOT).1] at Q6
 have c1 := cl1 (zA A5).b0
 obtain ⟨c2, c3⟩ := cl2 (zA A5).b1
 clear ho5 hb5 hk5 hka hX hkk Q5 L4 R4 X4 A4 J4 AV4 AX4 TT4 S4
 go_wp2_with fail
 generalize w5.alloc (.cells #[.bool O.here, .slice b5 O.vals.length d5, .int .i64 (O.steps : Int), .int .i64 (O.deep : Int)] 38) = w5a at *
 generalize w5.heap.size = b8 at *
 refine (zA Q6).mono ?_
 rintro e w6 ⟨u6, d6, rfl, ho6, hk6⟩
 have J6 := zB ((zA J5).trans hk6)
 have L6 := zB (zJ (zA L5) hk6)
 have R6 := zB (zJ (zA R5) hk6)
 have X6 := zB (zD (zA X5) hk6)
 have AV6 := zB (zJ (zA AV5) hk6)
 have AX6 := zB (zD (zA AX5) hk6)
 have TT6 := zB (zJ (zA TT5) hk6)
 have BV6 := zB ((zA BV5).keepF hk6)
 have BX6 := zB (zD (zA BX5) hk6)
 have U6 := zB ho6
 clear ho6 hk6 Q6 L5 R5 X5 A5 J5 AV5 AX5 TT5 BV5 BX5
 go_wp2_with fail
 go_loopw [17] (fun i wr => ∃ (k : Nat) (L2 : List ValA), i = .int .i64 (k : Int) ∧ k ≤ L.length / 2 ∧ L2.length = L.length ∧ Hid (∀ z ∈ L2, z ∈ L) ∧ Hid (wr.ownsRow W.heap.size 60 3 (.slice lo L.length lc) L.length (vcs L2)) ∧ Hid (Wp (fun q => (Value.slice lo L.length lc).ownBlock = some q) w6 wr)) (fun i _ => L.length / 2 - (intOf i).toNat)
 case atStart => exact ⟨0, L, rfl, Nat.zero_le _, rfl, fun z h => h, L6, Wp.refl _ _⟩
 case round =>
  obtain ⟨i, L2, rfl, hi, hl2, HM, HL, HKL⟩ := hrel
  have hdiv := half_int L.length
  by_cases hlt : i < L.length / 2
  ·obtain ⟨lg, hlg⟩ : ∃ g, lo = some ⟨g, 0, none⟩ := by
    obtain ⟨g, c, e, _⟩ := (zA HL).form (by omega)
    simp only [Value.slice.injEq] at e
    exact ⟨g, e.1⟩
   subst hlg
   obtain ⟨k, hk⟩ : ∃ k, k = L.length - 1 - i := ⟨_, rfl⟩
   have hkn : ((L.length : Int) - 1 - (i : Int)).toNat = k := by omega
   have hki : (L.length : Int) - 1 - (i : Int) = (k : Int) := by omega
   have i1 : (i : Int) < ((L.length / 2 : Nat) : Int) := by omega
   have i0 : (0 : Int) ≤ (i : Int) := by omega
   have i2 : (i : Int) < (L.length : Int) := by omega
   have i3 : (0 : Int) ≤ (k : Int) := by omega
   have i4 : (k : Int) < (L.length : Int) := by omega
   have hik : i ≠ k := by omega
   obtain ⟨x, hx⟩ : ∃ x, L2[i]? = some x := ⟨_, List.getElem?_eq_getElem (by omega)⟩
   obtain ⟨y, hy⟩ : ∃ y, L2[k]? = some y := ⟨_, List.getElem?_eq_getElem (by omega)⟩
   obtain ⟨e0, e1, e2⟩ := vcs_at3 hx
   have d0 := own_cell (zA HL) e0
   have d1 := own_cell (zA HL) e1
   have d2 := own_cell (zA HL) e2
   have hka := kA wr (.cells #[.int .i64 x.kind, .int .i64 x.n, str x.s] 60)
   have hbx := heap_alloc_new wr (.cells #[.int .i64 x.kind, .int .i64 x.n, str x.s] 60)
   have H1 := own_alloc (zA HL) (.cells #[.int .i64 x.kind, .int .i64 x.n, str x.s] 60)
   obtain ⟨e3, e4, e5⟩ := vcs_at3 hy
   have y0 := own_cell H1 e3
   have y1 := own_cell H1 e4
   have y2 := own_cell H1 e5
   obtain ⟨⟨v0, q0⟩, f0⟩ := own_open H1 (j := i * 3) (by omega)
   obtain ⟨⟨v1, q1⟩, f1⟩ := own_open H1 (j := i * 3 + 1) (by omega)
   obtain ⟨⟨v2, q2⟩, f2⟩ := own_open H1 (j := i * 3 + 2) (by omega)
   have H2 := own_put3 H1 i y
   have K2 := keeps_put3 (wr.alloc (.cells #[.int .i64 x.kind, .int .i64 x.n, str x.s] 60)) lg (i * 3) (i * 3 + 1) (i * 3 + 2) (.int .i64 y.kind) (.int .i64 y.n) (str y.s)
   have hne : ¬ wr.heap.size = lg := by have := own_lt (zA HL) (k := lg) rfl; omega
   have s0 := (K2.cell (o := 0) (zE hbx) hne).trans ((zC hbx 0).trans (show _ = some (Value.int .i64 x.kind) from rfl))
   have s1 := (K2.cell (o := 1) (zE hbx) hne).trans ((zC hbx 1).trans (show _ = some (Value.int .i64 x.n) from rfl))
   have s2 := (K2.cell (o := 2) (zE hbx) hne).trans ((zC hbx 2).trans (show _ = some (str x.s) from rfl))
   obtain ⟨⟨v3, q3⟩, f3⟩ := own_open H2 (j := k * 3) (by omega)
   obtain ⟨⟨v4, q4⟩, f4⟩ := own_open H2 (j := k * 3 + 1) (by omega)
   obtain ⟨⟨v5, q5⟩, f5⟩ := own_open H2 (j := k * 3 + 2) (by omega)
   have HPUT := zB (own_put3 H2 k x)
   have HKP := zB ((((zA HKL).trans hka.any).trans (K2.mono (fun q _ e => by rw [e]; rfl))).trans ((keeps_put3 _ lg (k * 3) (k * 3 + 1) (k * 3 + 2) (.int .i64 x.kind) (.int .i64 x.n) (str x.s)).mono (fun q _ e => by rw [e]; rfl)))
   have HMX := zB (swap_mem (i := i) (k := k) (zA HM) (zA HM x (List.mem_of_getElem? hx)) (zA HM y (List.mem_of_getElem? hy)))
   clear hka hbx H1 H2 K2 hx hy e0 e1 e2 e3 e4 e5 HL HKL HM hk
   go_wp2_with fail
   go_roundw
   case rel => exact ⟨i + 1, swapL L2 i k x y, by go_num, by omega, by rw [swap_len]; exact hl2, HMX, HPUT, HKP⟩
   case measure => simp [intOf]; omega
  ·obtain rfl : i = L.length / 2 := by omega
   have i1 : ¬ ((L.length / 2 : Nat) : Int) < ((L.length / 2 : Nat) : Int) := by omega
   obtain ⟨w7, hw7⟩ : ∃ X, X = wr := ⟨_, rfl⟩
   subst hw7
   have hkL := zA HKL
   have hkw := narrowO (zA J6) hkL (fun q e => own_geO (zA L6) e)
   have J7 := zB hkw
   have A7 := zB ((zA A0).keepF hkw)
   have L7 := HL
   have R7 := zB (zI (zA R6) hkL (fun q e f => own_apart (zA L6) (zA R6) (by decide) q f e))
   have X7 := zB (box_off (zA L6) (zA X6) (by decide) hkL)
   have AV7 := zB (zI (zA AV6) hkL (fun q e f => own_apart (zA L6) (zA AV6) (by decide) q f e))
   have AX7 := zB (box_off (zA L6) (zA AX6) (by decide) hkL)
   have TT7 := zB (zI (zA TT6) hkL (fun q e f => own_apart (zA L6) (zA TT6) (by decide) q f e))
   have BV7 := zB (vals_high (zA BV6) (zA HB5) hkL (zA E2))
   have BX7 := zB (box_off (zA L6) (zA BX6) (by decide) hkL)
   have U7 := zB (zI (zA U6) hkL (fun q e f => own_apart (zA L6) (zA U6) (by decide) q f e))
   have HIL := zB (show InR L2 from fun z hz => zA HI z (zA HM z hz))
   clear HL HKL HM hkL hkw J6 L6 R6 X6 AV6 AX6 TT6 BV6 BX6 U6 hlt hdiv i1 hi
   have n7 := hl2
   have c1 := cl1 (zA A7).b0
   obtain ⟨c2, c3⟩ := cl2 (zA X7)
   clear hl2
   go_wp2_with fail
   go_loopw [19] (fun i wr => ∃ (k : Nat) (V2 : List ValA), i = .int .i64 (k : Int) ∧ k ≤ V.length / 2 ∧ V2.length = V.length ∧ Hid (wr.ownsRow w1.heap.size 51 3 (.slice ro V.length rc) V.length (vcs V2)) ∧ Hid (Wp (fun q => (Value.slice ro V.length rc).ownBlock = some q) w7 wr)) (fun i _ => V.length / 2 - (intOf i).toNat)
   case atStart => exact ⟨0, V, rfl, Nat.zero_le _, rfl, R7, Wp.refl _ _⟩
   case round =>
    clear c1 c2 c3
    obtain ⟨i, V2, rfl, hi, hv2, HL, HKL⟩ := hrel
    have hdiv := half_int V.length
    have Xw := zB (box_off (zA R7) (zA X7) (by decide) (zA HKL))
    obtain ⟨c2, c3⟩ := cl2 (zA Xw)
    by_cases hlt : i < V.length / 2
    ·obtain ⟨lg, hlg⟩ : ∃ g, ro = some ⟨g, 0, none⟩ := by
      obtain ⟨g, c, e, _⟩ := (zA HL).form (by omega)
      simp only [Value.slice.injEq] at e
      exact ⟨g, e.1⟩
     subst hlg
     obtain ⟨k, hk⟩ : ∃ k, k = V.length - 1 - i := ⟨_, rfl⟩
     have hkn : ((V.length : Int) - 1 - (i : Int)).toNat = k := by omega
     have hki : (V.length : Int) - 1 - (i : Int) = (k : Int) := by omega
     have i1 : (i : Int) < ((V.length / 2 : Nat) : Int) := by omega
     have i0 : (0 : Int) ≤ (i : Int) := by omega
     have i2 : (i : Int) < (V.length : Int) := by omega
     have i3 : (0 : Int) ≤ (k : Int) := by omega
     have i4 : (k : Int) < (V.length : Int) := by omega
     have hik : i ≠ k := by omega
     obtain ⟨x, hx⟩ : ∃ x, V2[i]? = some x := ⟨_, List.getElem?_eq_getElem (by omega)⟩
     obtain ⟨y, hy⟩ : ∃ y, V2[k]? = some y := ⟨_, List.getElem?_eq_getElem (by omega)⟩
     obtain ⟨e0, e1, e2⟩ := vcs_at3 hx
     have d0 := own_cell (zA HL) e0
     have d1 := own_cell (zA HL) e1
     have d2 := own_cell (zA HL) e2
     have hka := kA wr (.cells #[.int .i64 x.kind, .int .i64 x.n, str x.s] 51)
     have hkd := hka.drew
     have hbx := heap_alloc_new wr (.cells #[.int .i64 x.kind, .int .i64 x.n, str x.s] 51)
     have H1 := own_alloc (zA HL) (.cells #[.int .i64 x.kind, .int .i64 x.n, str x.s] 51)
     have H1d : (wr.alloc (.cells #[.int .i64 x.kind, .int .i64 x.n, str x.s] 51)).drew.ownsRow w1.heap.size 51 3 (.slice (some ⟨lg, 0, none⟩) V.length rc) V.length (vcs V2) := zJ (zA HL) hkd
     have Xa := zD (zA Xw) hka
     obtain ⟨m2, m3⟩ := cl2 Xa
     obtain ⟨m4, m5⟩ := cl2 (zD (zA Xw) hkd)
     obtain ⟨e3, e4, e5⟩ := vcs_at3 hy
     have y0 := own_cell H1 e3
     have y1 := own_cell H1 e4
     have y2 := own_cell H1 e5
     have y3 := own_cell H1d e3
     have y4 := own_cell H1d e4
     have y5 := own_cell H1d e5
     obtain ⟨⟨v6, q6⟩, f6⟩ := own_open H1 (j := i * 3) (by omega)
     obtain ⟨⟨v7, q7⟩, f7⟩ := own_open H1 (j := i * 3 + 1) (by omega)
     obtain ⟨⟨v8, q8⟩, f8⟩ := own_open H1 (j := i * 3 + 2) (by omega)
     obtain ⟨⟨v0, q0⟩, f0⟩ := own_open H1d (j := i * 3) (by omega)
     obtain ⟨⟨v1, q1⟩, f1⟩ := own_open H1d (j := i * 3 + 1) (by omega)
     obtain ⟨⟨v2, q2⟩, f2⟩ := own_open H1d (j := i * 3 + 2) (by omega)
     have K2 : Wp (fun q => q = lg) (wr.alloc (.cells #[.int .i64 x.kind, .int .i64 x.n, str x.s] 51)) ((((wr.alloc (.cells #[.int .i64 x.kind, .int .i64 x.n, str x.s] 51)).setCell ⟨lg, i * 3, none⟩ (.int .i64 y.kind)).setCell ⟨lg, i * 3 + 1, none⟩ (.int .i64 y.n)).setCell ⟨lg, i * 3 + 2, none⟩ (.string ⟨y.s.toArray⟩)).drew := (keeps_put3 (wr.alloc (.cells #[.int .i64 x.kind, .int .i64 x.n, str x.s] 51)) lg (i * 3) (i * 3 + 1) (i * 3 + 2) (.int .i64 y.kind) (.int .i64 y.n) (str y.s)).drew
     have H2 : ((((wr.alloc (.cells #[.int .i64 x.kind, .int .i64 x.n, str x.s] 51)).setCell ⟨lg, i * 3, none⟩ (.int .i64 y.kind)).setCell ⟨lg, i * 3 + 1, none⟩ (.int .i64 y.n)).setCell ⟨lg, i * 3 + 2, none⟩ (.string ⟨y.s.toArray⟩)).drew.ownsRow w1.heap.size 51 3 (.slice (some ⟨lg, 0, none⟩) V.length rc) V.length (vcs (V2.set i y)) := zJ (own_put3 H1 i y) (Wp.refl (fun _ => False) _).drew
     have hne : ¬ wr.heap.size = lg := by have := own_lt (zA HL) (k := lg) rfl; omega
     have hner : ¬ r8 = lg := fun e => own_off (zA HL) (zA Xw) (by decide) lg rfl e.symm
     have s0 := (K2.cell (o := 0) (zE hbx) hne).trans ((zC hbx 0).trans (show _ = some (Value.int .i64 x.kind) from rfl))
     have s1 := (K2.cell (o := 1) (zE hbx) hne).trans ((zC hbx 1).trans (show _ = some (Value.int .i64 x.n) from rfl))
     have s2 := (K2.cell (o := 2) (zE hbx) hne).trans ((zC hbx 2).trans (show _ = some (str x.s) from rfl))
     have Xb := (K2.block r8 (zE Xa) hner).trans Xa
     obtain ⟨m6, m7⟩ := cl2 Xb
     obtain ⟨⟨v3, q3⟩, f3⟩ := own_open H2 (j := k * 3) (by omega)
     obtain ⟨⟨v4, q4⟩, f4⟩ := own_open H2 (j := k * 3 + 1) (by omega)
     obtain ⟨⟨v5, q5⟩, f5⟩ := own_open H2 (j := k * 3 + 2) (by omega)
     have HPUT := zB (own_put3 H2 k x)
     have HKP := zB ((((zA HKL).trans hka.any).trans (K2.mono (fun q _ e => by rw [e]; rfl))).trans ((keeps_put3 _ lg (k * 3) (k * 3 + 1) (k * 3 + 2) (.int .i64 x.kind) (.int .i64 x.n) (str x.s)).mono (fun q _ e => by rw [e]; rfl)))
     clear hka hkd hbx H1 H1d H2 K2 hx hy e0 e1 e2 e3 e4 e5 HL HKL hk Xa Xb Xw
     go_upto_region 17 with fail
     generalize wr.alloc (.cells #[.int .i64 x.kind, .int .i64 x.n, str x.s] 51) = wz at *
     go_region
     generalize (((wz.setCell ⟨lg, i * 3, none⟩ (.int .i64 y.kind)).setCell ⟨lg, i * 3 + 1, none⟩ (.int .i64 y.n)).setCell ⟨lg, i * 3 + 2, none⟩ (.string ⟨y.s.toArray⟩)).drew = wy at *
     go_wp2_with fail
     go_roundw
     case rel => exact ⟨i + 1, swapL V2 i k x y, by go_num, by omega, by rw [swap_len]; exact hv2, HPUT, HKP⟩
     case measure => simp [intOf]; omega
    ·obtain rfl : i = V.length / 2 := by omega
     have i1 : ¬ ((V.length / 2 : Nat) : Int) < ((V.length / 2 : Nat) : Int) := by omega
     obtain ⟨w8, hw8⟩ : ∃ X, X = wr := ⟨_, rfl⟩
     subst hw8
     have hkL := zA HKL
     have hkw := narrowO (zA J7) hkL (zA G2)
     have J8 := zB hkw
     have A8 := zB ((zA A0).keepF hkw)
     have L8 := zB (zI (zA L7) hkL (fun q e f => own_apart (zA R7) (zA L7) (by decide) q f e))
     have R8 := HL
     have X8 := Xw
     have AV8 := zB (zI (zA AV7) hkL (fun q e f => by have h1 := own_geO (zA AV7) e; have h2 := zA D2 q f; omega))
     have AX8 := zB (box_off (zA R7) (zA AX7) (by decide) hkL)
     have TT8 := zB (zI (zA TT7) hkL (fun q e f => own_apart (zA R7) (zA TT7) (by decide) q f e))
     have BV8 := zB (vals_high (zA BV7) (zA HB5) hkL (zA D2))
     have BX8 := zB (box_off (zA R7) (zA BX7) (by decide) hkL)
     have U8 := zB (zI (zA U7) hkL (fun q e f => own_apart (zA R7) (zA U7) (by decide) q f e))
     clear HL HKL hkL hkw J7 L7 R7 X7 AV7 AX7 TT7 BV7 BX7 U7 A7 hlt hdiv i1 hi Xw c2 c3
     obtain ⟨O2, hO2⟩ : ∃ O2, O2 = runO S L2 hh V2 := ⟨_, rfl⟩
     obtain ⟨T2, hT2⟩ : ∃ T2, T2 = stepL (traceO S L2 hh V2) := ⟨_, rfl⟩
     have hd2 : O2.vals.length ≤ 8 := by rw [hO2]; exact runO_len ..
     have HOT2 := zB (And.intro hO2 hT2)
     have HD2 := zB hd2
     have HV2L := zB hv2
     have HL2L := zB n7
     have Q9 := zB (run_o S _ _ _ L2 hh V2 _ (zA A8).env (zA A8).flds (vals_own (zA L8) n7) (zA HIL) (vals_own (zA R8) hv2))
     rw [← hO2] at Q9
     have c1 := cl1 (zA A8).b0
     obtain ⟨c2, c3⟩ := cl2 (zA X8)
     clear hO2 hT2 hd2 hv2 n7
     go_wp2_with fail
     refine (zA Q9).mono ?_
     rintro e w9 ⟨a9, d9, rfl, ho9, hk9⟩
     have hka := kA w9 (.cells #[.bool O2.here, .slice a9 O2.vals.length d9, .int .i64 (O2.steps : Int), .int .i64 (O2.deep : Int)] 38)
     have hX := heap_alloc_new w9 (.cells #[.bool O2.here, .slice a9 O2.vals.length d9, .int .i64 (O2.steps : Int), .int .i64 (O2.deep : Int)] 38)
     have hkk := hk9.trans hka
     have A9 := zB ((zA A8).keepF hkk)
     have J9 := zB ((zA J8).trans hkk)
     have L9 := zB (zJ (zA L8) hkk)
     have R9 := zB (zJ (zA R8) hkk)
     have X9 := zB (zD (zA X8) hkk)
     have AV9 := zB (zJ (zA AV8) hkk)
     have AX9 := zB (zD (zA AX8) hkk)
     have TT9 := zB (zJ (zA TT8) hkk)
     have BV9 := zB ((zA BV8).keepF hkk)
     have BX9 := zB (zD (zA BX8) hkk)
     have U9 := zB (zJ (zA U8) hkk)
     clear A8 J8 L8 R8 X8 AV8 AX8 TT8 BV8 BX8 U8
     have CV9 := zB (zJ ho9 hka)
     have CX9 := zB hX
     have Q10 := zB (trace_o S _ _ _ L2 hh V2 _ (zA A9).env (zA A9).flds (vals_own (zA L9) (zA HL2L)) (zA HIL) (vals_own (zA R9) (zA HV2L)))
     rw [stepL_cs, ← (zA HOT2).2, ← stepL_len, ← (zA HOT2).2, ← (zA HOT2).1] at Q10
     have c1 := cl1 (zA A9).b0
     obtain ⟨c2, c3⟩ := cl2 (zA X9)
     clear ho9 hk9 hka hX hkk Q9
     go_wp2_with fail
     generalize w9.alloc (.cells #[.bool O2.here, .slice a9 O2.vals.length d9, .int .i64 (O2.steps : Int), .int .i64 (O2.deep : Int)] 38) = w9a at *
     generalize w9.heap.size = a11 at *
     refine (zA Q10).mono ?_
     rintro e w10 ⟨t10, d10, rfl, ho10, hk10⟩
     have A10 := zB ((zA A9).keepF hk10)
     have J10 := zB ((zA J9).trans hk10)
     have L10 := zB (zJ (zA L9) hk10)
     have R10 := zB (zJ (zA R9) hk10)
     have X10 := zB (zD (zA X9) hk10)
     have AV10 := zB (zJ (zA AV9) hk10)
     have AX10 := zB (zD (zA AX9) hk10)
     have TT10 := zB (zJ (zA TT9) hk10)
     have BV10 := zB ((zA BV9).keepF hk10)
     have BX10 := zB (zD (zA BX9) hk10)
     have U10 := zB (zJ (zA U9) hk10)
     have CV10 := zB (zJ (zA CV9) hk10)
     have CX10 := zB (zD (zA CX9) hk10)
     clear A9 J9 L9 R9 X9 AV9 AX9 TT9 BV9 BX9 U9 CV9 CX9
     have TC10 := zB ho10
     clear ho10 hk10 Q10 c1 c2 c3
     go_upto_region 21 with fail
     go_cut [25, 26] from 143 to 151 (fun bx ev wx => ev = .int .i64 O2.e ∧ ∃ b9 eo ec, bx = .pointer (some ⟨b9, 0, none⟩) ∧ wx.heap[b9]? = some (.cells #[.bool O2.here, .slice eo O2.vals.length ec, .int .i64 (O2.steps : Int), .int .i64 (O2.deep : Int)] 38 (0, 0)) ∧ Wr wx (.slice eo O2.vals.length ec) O2.vals ∧ Wp (fun _ => False) w10 wx)
     case first =>
      have hkd := (Wp.refl (fun _ => False) w10).drew
      have HD := zB hkd
      have c1 := cl1 ((zA A10).keepF hkd).b0
      obtain ⟨c2, c3⟩ := cl2 (zD (zA X10) hkd)
      have H21 := zB (fun (Z : World) (h : Wp (fun _ => False) w10 Z) => copyCode_v Z (.slice lo L.length lc) L2 (vals_own (zJ (zA L10) h) (zA HL2L)) (by rw [zA HL2L]; omega))
      have H5 := zB (fun (Z : World) (h : Wp (fun _ => False) w10 Z) => copyRowR_v Z hh (.slice ro V.length rc) V2 (by rw [← zA HV2L]; exact vals_own (by have := zJ (zA R10) h; rw [← zA HV2L] at this; exact this) rfl) (by rw [zA HV2L]; omega))
      have H9 := zB (fun (Z : World) (h : Wp (fun _ => False) w10 Z) (l2 r2 : Value) (hl : Wr Z l2 L2) (hr : Wr Z r2 V2) => (zA HOT2).1 ▸ runR_v S (.slice so S.length sc) r2 l2 L2 hh V2 Z ((zA A10).keepF h).flds hl (zA HIL) hr)
      have HAX := zB (fun (Z : World) (h : Wp (fun _ => False) w10 Z) => And.intro (cl1 ((zA A10).keepF h).b0) (cl2 (zD (zA X10) h)))
      obtain ⟨c31, c32, c33⟩ := zA HAX _ (hkd.alloc (.cells #[.bool false, .slice none 0 0, .int .i64 0, .int .i64 0] 38))
      obtain ⟨c34, c35, c36⟩ := zA HAX _ ((Wp.refl (fun _ => False) w10).alloc (.cells #[.bool false, .slice none 0 0, .int .i64 0, .int .i64 0] 38))
      clear hkd
      go_region_law (first
       | (go_simp
          refine ((zA H21) _ (by first | exact zA HD | exact (zA HD).alloc _ | exact ((Wp.refl _ _).alloc _).drew | exact zA X5 | exact (zA X5).alloc _ | exact zA X21 | exact (zA X21).alloc _)).mono ?_
          rintro e y21 ⟨lv2, rfl, ho21, hk21⟩
          have X21 := zB (show Wp (fun _ => False) w10 y21 from Wp.trans (by first | exact zA HD | exact (zA HD).alloc _ | exact ((Wp.refl _ _).alloc _).drew | exact zA X5 | exact (zA X5).alloc _ | exact zA X21 | exact (zA X21).alloc _) hk21)
          have HL21 := zB ho21
          try (have HR5 := zB (zJ (zA HR5) (Wp.trans (by first | exact Wp.refl _ _ | exact (Wp.refl _ _).alloc _ | exact ((Wp.refl _ _).alloc _).drew) hk21)))
          try (have HZ := zB (zD (zA HZ) hk21))
          try (have HZ := zB (zD (show (w10.drew.alloc (.cells #[.bool false, .slice none 0 0, .int .i64 0, .int .i64 0] 38)).heap[w10.heap.size]? = some (.cells #[.bool false, .slice none 0 0, .int .i64 0, .int .i64 0] 38 (0, 0)) from heap_alloc_new w10.drew (.cells #[.bool false, .slice none 0 0, .int .i64 0, .int .i64 0] 38)) hk21))
          try (have HZ := zB (zD (heap_alloc_new y5 (.cells #[.bool false, .slice none 0 0, .int .i64 0, .int .i64 0] 38)) hk21))
          try (have HZ := zB (zD (heap_alloc_new y21 (.cells #[.bool false, .slice none 0 0, .int .i64 0, .int .i64 0] 38)) hk21))
          obtain ⟨c4, c5, c6⟩ := zA HAX _ (zA X21)
          obtain ⟨c14, c15, c16⟩ := zA HAX _ ((zA X21).alloc (.cells #[.bool false, .slice none 0 0, .int .i64 0, .int .i64 0] 38))
          clear ho21 hk21
          dsimp only)
       | (go_simp
          refine ((zA H5) _ (by first | exact zA HD | exact (zA HD).alloc _ | exact ((Wp.refl _ _).alloc _).drew | exact zA X5 | exact (zA X5).alloc _ | exact zA X21 | exact (zA X21).alloc _)).mono ?_
          rintro e y5 ⟨ro2, rc2, rfl, ho5, hk5⟩
          have X5 := zB (show Wp (fun _ => False) w10 y5 from Wp.trans (by first | exact zA HD | exact (zA HD).alloc _ | exact ((Wp.refl _ _).alloc _).drew | exact zA X5 | exact (zA X5).alloc _ | exact zA X21 | exact (zA X21).alloc _) hk5)
          have HR5 := zB ho5
          try (have HL21 := zB (zJ (zA HL21) (Wp.trans (by first | exact Wp.refl _ _ | exact (Wp.refl _ _).alloc _ | exact ((Wp.refl _ _).alloc _).drew) hk5)))
          try (have HZ := zB (zD (zA HZ) hk5))
          try (have HZ := zB (zD (show (w10.drew.alloc (.cells #[.bool false, .slice none 0 0, .int .i64 0, .int .i64 0] 38)).heap[w10.heap.size]? = some (.cells #[.bool false, .slice none 0 0, .int .i64 0, .int .i64 0] 38 (0, 0)) from heap_alloc_new w10.drew (.cells #[.bool false, .slice none 0 0, .int .i64 0, .int .i64 0] 38)) hk5))
          try (have HZ := zB (zD (heap_alloc_new y5 (.cells #[.bool false, .slice none 0 0, .int .i64 0, .int .i64 0] 38)) hk5))
          try (have HZ := zB (zD (heap_alloc_new y21 (.cells #[.bool false, .slice none 0 0, .int .i64 0, .int .i64 0] 38)) hk5))
          obtain ⟨c7, c8, c9⟩ := zA HAX _ (zA X5)
          obtain ⟨c17, c18, c19⟩ := zA HAX _ ((zA X5).alloc (.cells #[.bool false, .slice none 0 0, .int .i64 0, .int .i64 0] 38))
          clear ho5 hk5
          dsimp only)
       | (go_simp
          refine ((zA H9) _ (by first | exact zA HD | exact (zA HD).alloc _ | exact ((Wp.refl _ _).alloc _).drew | exact zA X5 | exact (zA X5).alloc _ | exact zA X21 | exact (zA X21).alloc _) _ _ (vals_own (zJ (zA HL21) (by first | exact Wp.refl _ _ | exact (Wp.refl _ _).alloc _ | exact ((Wp.refl _ _).alloc _).drew)) rfl) (vals_own (zJ (zA HR5) (by first | exact Wp.refl _ _ | exact (Wp.refl _ _).alloc _ | exact ((Wp.refl _ _).alloc _).drew)) rfl)).mono ?_
          rintro e y9 ⟨eo, ec, rfl, ho9, _, hk9⟩
          have HV9 := zB ho9
          have X9 := zB (show Wp (fun _ => False) w10 y9 from Wp.trans (by first | exact zA HD | exact (zA HD).alloc _ | exact ((Wp.refl _ _).alloc _).drew | exact zA X5 | exact (zA X5).alloc _ | exact zA X21 | exact (zA X21).alloc _) hk9)
          clear ho9
          try (have HZ := zB (zD (zA HZ) hk9))
          try (have HZ := zB (zD (show (w10.drew.alloc (.cells #[.bool false, .slice none 0 0, .int .i64 0, .int .i64 0] 38)).heap[w10.heap.size]? = some (.cells #[.bool false, .slice none 0 0, .int .i64 0, .int .i64 0] 38 (0, 0)) from heap_alloc_new w10.drew (.cells #[.bool false, .slice none 0 0, .int .i64 0, .int .i64 0] 38)) hk9))
          try (have HZ := zB (zD (heap_alloc_new y5 (.cells #[.bool false, .slice none 0 0, .int .i64 0, .int .i64 0] 38)) hk9))
          try (have HZ := zB (zD (heap_alloc_new y21 (.cells #[.bool false, .slice none 0 0, .int .i64 0, .int .i64 0] 38)) hk9))
          try (have HQ4 := set4o (zA HZ); obtain ⟨f0, f1, f2, f3, z0, z1, z2, z3⟩ := HQ4)
          dsimp only))
      all_goals (go_wp2_with fail; go_meet; first | exact ⟨rfl, _, eo, ec, rfl, (set_box (zA X9) (zA HZ) (by first | exact Nat.le_refl _ | exact (zA X21).size | exact (zA X5).size) (zA HV9) O2.here (O2.steps : Int) (O2.deep : Int)).1, (set_box (zA X9) (zA HZ) (by first | exact Nat.le_refl _ | exact (zA X21).size | exact (zA X5).size) (zA HV9) O2.here (O2.steps : Int) (O2.deep : Int)).2.1, (set_box (zA X9) (zA HZ) (by first | exact Nat.le_refl _ | exact (zA X21).size | exact (zA X5).size) (zA HV9) O2.here (O2.steps : Int) (O2.deep : Int)).2.2⟩ | exact ⟨rfl, _, eo, ec, rfl, heap_alloc_new y9 (.cells #[.bool O2.here, .slice eo O2.vals.length ec, .int .i64 (O2.steps : Int), .int .i64 (O2.deep : Int)] 38), (zA HV9).keepF (kA y9 (.cells #[.bool O2.here, .slice eo O2.vals.length ec, .int .i64 (O2.steps : Int), .int .i64 (O2.deep : Int)] 38)), (zA X9).alloc (.cells #[.bool O2.here, .slice eo O2.vals.length ec, .int .i64 (O2.steps : Int), .int .i64 (O2.deep : Int)] 38)⟩)
     case rest =>
      obtain ⟨rfl, b9, eo, ec, rfl, hx11, hv11, hk11⟩ := hcut
      obtain ⟨w11, hw11⟩ : ∃ Z, Z = wc := ⟨_, rfl⟩
      subst hw11
      have A11 := zB ((zA A10).keepF hk11)
      have J11 := zB ((zA J10).trans hk11)
      have L11 := zB (zJ (zA L10) hk11)
      have R11 := zB (zJ (zA R10) hk11)
      have X11 := zB (zD (zA X10) hk11)
      have AV11 := zB (zJ (zA AV10) hk11)
      have AX11 := zB (zD (zA AX10) hk11)
      have TT11 := zB (zJ (zA TT10) hk11)
      have BV11 := zB ((zA BV10).keepF hk11)
      have BX11 := zB (zD (zA BX10) hk11)
      have U11 := zB (zJ (zA U10) hk11)
      have CV11 := zB (zJ (zA CV10) hk11)
      have CX11 := zB (zD (zA CX10) hk11)
      have TC11 := zB (zJ (zA TC10) hk11)
      clear A10 J10 L10 R10 X10 AV10 AX10 TT10 BV10 BX10 U10 CV10 CX10 TC10
      have DV11 := zB hv11
      have DX11 := zB hx11
      clear hx11 hv11 hk11
      go_upto_region 22 with fail
      go_cut [27, 28] from 152 to 160 (fun uv ev wx => ev = .int .i64 O2.e ∧ ∃ eo2 ec2, uv = .slice eo2 T2.length ec2 ∧ wx.ownsRow 0 53 2 (.slice eo2 T2.length ec2) T2.length (sC T2) ∧ Wp (fun _ => False) w11 wx)
      case first =>
       have hkd := (Wp.refl (fun _ => False) w11).drew
       have HD := zB hkd
       have c1 := cl1 ((zA A11).keepF hkd).b0
       obtain ⟨c2, c3⟩ := cl2 (zD (zA X11) hkd)
       have H21 := zB (fun (Z : World) (h : Wp (fun _ => False) w11 Z) => copyCode_v Z (.slice lo L.length lc) L2 (vals_own (zJ (zA L11) h) (zA HL2L)) (by rw [zA HL2L]; omega))
       have H5 := zB (fun (Z : World) (h : Wp (fun _ => False) w11 Z) => copyRowR_v Z hh (.slice ro V.length rc) V2 (by rw [← zA HV2L]; exact vals_own (by have := zJ (zA R11) h; rw [← zA HV2L] at this; exact this) rfl) (by rw [zA HV2L]; omega))
       have H9 := zB (fun (Z : World) (h : Wp (fun _ => False) w11 Z) (l2 r2 : Value) (hl : Wr Z l2 L2) (hr : Wr Z r2 V2) => traceR2 S (.slice so S.length sc) r2 l2 L2 hh V2 O2 T2 Z ((zA A11).keepF h).flds hl (zA HIL) hr (zA HOT2).1 (zA HOT2).2)
       have HAX := zB (fun (Z : World) (h : Wp (fun _ => False) w11 Z) => And.intro (cl1 ((zA A11).keepF h).b0) (cl2 (zD (zA X11) h)))
       obtain ⟨c31, c32, c33⟩ := zA HAX _ (hkd.alloc (.cells #[.bool false, .slice none 0 0, .int .i64 0, .int .i64 0] 38))
       obtain ⟨c34, c35, c36⟩ := zA HAX _ ((Wp.refl (fun _ => False) w11).alloc (.cells #[.bool false, .slice none 0 0, .int .i64 0, .int .i64 0] 38))
       clear hkd
       go_region_law (first
        | (go_simp
           refine ((zA H21) _ (by first | exact zA HD | exact (zA HD).alloc _ | exact ((Wp.refl _ _).alloc _).drew | exact zA X5 | exact (zA X5).alloc _ | exact zA X21 | exact (zA X21).alloc _)).mono ?_
           rintro e y21 ⟨lv2, rfl, ho21, hk21⟩
           have X21 := zB (show Wp (fun _ => False) w11 y21 from Wp.trans (by first | exact zA HD | exact (zA HD).alloc _ | exact ((Wp.refl _ _).alloc _).drew | exact zA X5 | exact (zA X5).alloc _ | exact zA X21 | exact (zA X21).alloc _) hk21)
           have HL21 := zB ho21
           try (have HR5 := zB (zJ (zA HR5) (Wp.trans (by first | exact Wp.refl _ _ | exact (Wp.refl _ _).alloc _ | exact ((Wp.refl _ _).alloc _).drew) hk21)))
           try (have HZ := zB (zD (zA HZ) hk21))
           try (have HZ := zB (zD (show (w11.drew.alloc (.cells #[.bool false, .slice none 0 0, .int .i64 0, .int .i64 0] 38)).heap[w11.heap.size]? = some (.cells #[.bool false, .slice none 0 0, .int .i64 0, .int .i64 0] 38 (0, 0)) from heap_alloc_new w11.drew (.cells #[.bool false, .slice none 0 0, .int .i64 0, .int .i64 0] 38)) hk21))
           try (have HZ := zB (zD (heap_alloc_new y5 (.cells #[.bool false, .slice none 0 0, .int .i64 0, .int .i64 0] 38)) hk21))
           try (have HZ := zB (zD (heap_alloc_new y21 (.cells #[.bool false, .slice none 0 0, .int .i64 0, .int .i64 0] 38)) hk21))
           obtain ⟨c4, c5, c6⟩ := zA HAX _ (zA X21)
           obtain ⟨c14, c15, c16⟩ := zA HAX _ ((zA X21).alloc (.cells #[.bool false, .slice none 0 0, .int .i64 0, .int .i64 0] 38))
           clear ho21 hk21
           dsimp only)
        | (go_simp
           refine ((zA H5) _ (by first | exact zA HD | exact (zA HD).alloc _ | exact ((Wp.refl _ _).alloc _).drew | exact zA X5 | exact (zA X5).alloc _ | exact zA X21 | exact (zA X21).alloc _)).mono ?_
           rintro e y5 ⟨ro2, rc2, rfl, ho5, hk5⟩
           have X5 := zB (show Wp (fun _ => False) w11 y5 from Wp.trans (by first | exact zA HD | exact (zA HD).alloc _ | exact ((Wp.refl _ _).alloc _).drew | exact zA X5 | exact (zA X5).alloc _ | exact zA X21 | exact (zA X21).alloc _) hk5)
           have HR5 := zB ho5
           try (have HL21 := zB (zJ (zA HL21) (Wp.trans (by first | exact Wp.refl _ _ | exact (Wp.refl _ _).alloc _ | exact ((Wp.refl _ _).alloc _).drew) hk5)))
           try (have HZ := zB (zD (zA HZ) hk5))
           try (have HZ := zB (zD (show (w11.drew.alloc (.cells #[.bool false, .slice none 0 0, .int .i64 0, .int .i64 0] 38)).heap[w11.heap.size]? = some (.cells #[.bool false, .slice none 0 0, .int .i64 0, .int .i64 0] 38 (0, 0)) from heap_alloc_new w11.drew (.cells #[.bool false, .slice none 0 0, .int .i64 0, .int .i64 0] 38)) hk5))
           try (have HZ := zB (zD (heap_alloc_new y5 (.cells #[.bool false, .slice none 0 0, .int .i64 0, .int .i64 0] 38)) hk5))
           try (have HZ := zB (zD (heap_alloc_new y21 (.cells #[.bool false, .slice none 0 0, .int .i64 0, .int .i64 0] 38)) hk5))
           obtain ⟨c7, c8, c9⟩ := zA HAX _ (zA X5)
           obtain ⟨c17, c18, c19⟩ := zA HAX _ ((zA X5).alloc (.cells #[.bool false, .slice none 0 0, .int .i64 0, .int .i64 0] 38))
           clear ho5 hk5
           dsimp only)
        | (go_simp
           refine ((zA H9) _ (by first | exact zA HD | exact (zA HD).alloc _ | exact ((Wp.refl _ _).alloc _).drew | exact zA X5 | exact (zA X5).alloc _ | exact zA X21 | exact (zA X21).alloc _) _ _ (vals_own (zJ (zA HL21) (by first | exact Wp.refl _ _ | exact (Wp.refl _ _).alloc _ | exact ((Wp.refl _ _).alloc _).drew)) rfl) (vals_own (zJ (zA HR5) (by first | exact Wp.refl _ _ | exact (Wp.refl _ _).alloc _ | exact ((Wp.refl _ _).alloc _).drew)) rfl)).mono ?_
           rintro e y9 ⟨eo2, ec2, rfl, ho9, hk9⟩
           have HV9 := zB ho9
           have X9 := zB (show Wp (fun _ => False) w11 y9 from Wp.trans (by first | exact zA HD | exact (zA HD).alloc _ | exact ((Wp.refl _ _).alloc _).drew | exact zA X5 | exact (zA X5).alloc _ | exact zA X21 | exact (zA X21).alloc _) hk9)
           clear ho9
           try (have HZ := zB (zD (zA HZ) hk9))
           try (have HZ := zB (zD (show (w11.drew.alloc (.cells #[.bool false, .slice none 0 0, .int .i64 0, .int .i64 0] 38)).heap[w11.heap.size]? = some (.cells #[.bool false, .slice none 0 0, .int .i64 0, .int .i64 0] 38 (0, 0)) from heap_alloc_new w11.drew (.cells #[.bool false, .slice none 0 0, .int .i64 0, .int .i64 0] 38)) hk9))
           try (have HZ := zB (zD (heap_alloc_new y5 (.cells #[.bool false, .slice none 0 0, .int .i64 0, .int .i64 0] 38)) hk9))
           try (have HZ := zB (zD (heap_alloc_new y21 (.cells #[.bool false, .slice none 0 0, .int .i64 0, .int .i64 0] 38)) hk9))
           try (have HQ4 := set4o (zA HZ); obtain ⟨f0, f1, f2, f3, z0, z1, z2, z3⟩ := HQ4)
           dsimp only))
       all_goals (go_wp2_with fail; go_meet; exact ⟨rfl, _, _, rfl, ownsRow_low (zA HV9) (Nat.zero_le _), zA X9⟩)
      case rest =>
       obtain ⟨rfl, eo2, ec2, rfl, hv12, hk12⟩ := hcut
       obtain ⟨w12, hw12⟩ : ∃ Z, Z = wc := ⟨_, rfl⟩
       subst hw12
       have J12 := zB ((zA J11).trans hk12)
       have AV12 := zB (zJ (zA AV11) hk12)
       have AX12 := zB (zD (zA AX11) hk12)
       have TT12 := zB (zJ (zA TT11) hk12)
       have BV12 := zB ((zA BV11).keepF hk12)
       have BX12 := zB (zD (zA BX11) hk12)
       have U12 := zB (zJ (zA U11) hk12)
       have CV12 := zB (zJ (zA CV11) hk12)
       have CX12 := zB (zD (zA CX11) hk12)
       have TC12 := zB (zJ (zA TC11) hk12)
       have DV12 := zB ((zA DV11).keepF hk12)
       have DX12 := zB (zD (zA DX11) hk12)
       clear J11 AV11 AX11 TT11 BV11 BX11 U11 CV11 CX11 TC11 DV11 DX11
       have UC12 := zB hv12
       clear hv12 hk12
       obtain ⟨k0, k1⟩ := cl2o (zA AX12)
       obtain ⟨k2, k3⟩ := cl2o (zA BX12)
       have QA1 := zB (eqRow_same _ O.here _ _ O.vals (vals_own (zA AV12) rfl) (zA BV12) (by have := zA HO8; rw [← (zA HOT).1] at this; omega))
       go_wp2_with fail
       refine (zA QA1).mono ?_
       rintro e w13 ⟨rfl, hk13⟩
       have J13 := zB ((zA J12).trans hk13)
       have TT13 := zB (zJ (zA TT12) hk13)
       have U13 := zB (zJ (zA U12) hk13)
       have CV13 := zB (zJ (zA CV12) hk13)
       have CX13 := zB (zD (zA CX12) hk13)
       have TC13 := zB (zJ (zA TC12) hk13)
       have DV13 := zB ((zA DV12).keepF hk13)
       have DX13 := zB (zD (zA DX12) hk13)
       have UC13 := zB (zJ (zA UC12) hk13)
       clear J12 TT12 U12 CV12 CX12 TC12 DV12 DX12 UC12
       clear hk13 QA1
       have QA2 := zB (eqStepsG _ _ _ T (zG (zA TT13)) (zG (zA U13)) (by rw [(zA HOT).2, stepL_len]; have := trace_le S L hh V; omega))
       go_wp2_with fail
       refine (zA QA2).mono ?_
       rintro e w14 ⟨rfl, hk14⟩
       have J14 := zB ((zA J13).trans hk14)
       have CV14 := zB (zJ (zA CV13) hk14)
       have CX14 := zB (zD (zA CX13) hk14)
       have TC14 := zB (zJ (zA TC13) hk14)
       have DV14 := zB ((zA DV13).keepF hk14)
       have DX14 := zB (zD (zA DX13) hk14)
       have UC14 := zB (zJ (zA UC13) hk14)
       clear J13 CV13 CX13 TC13 DV13 DX13 UC13
       clear hk14 QA2
       obtain ⟨k0, k1⟩ := cl2o (zA CX14)
       obtain ⟨k2, k3⟩ := cl2o (zA DX14)
       have QA3 := zB (eqRow_same _ O2.here _ _ O2.vals (vals_own (zA CV14) rfl) (zA DV14) (by have := zA HD2; omega))
       go_wp2_with fail
       refine (zA QA3).mono ?_
       rintro e w15 ⟨rfl, hk15⟩
       have J15 := zB ((zA J14).trans hk15)
       have TC15 := zB (zJ (zA TC14) hk15)
       have UC15 := zB (zJ (zA UC14) hk15)
       clear J14 TC14 UC14
       clear hk15 QA3
       have QA4 := zB (eqStepsG _ _ _ T2 (zG (zA TC15)) (zG (zA UC15)) (by rw [(zA HOT2).2, stepL_len]; have := trace_le S L2 hh V2; omega))
       go_wp2_with fail
       refine (zA QA4).mono ?_
       rintro e w16 ⟨rfl, hk16⟩
       have J16 := zB ((zA J15).trans hk16)
       clear hk16 QA4
       have ee1 : (O.e == O.e) = true := by simp
       have ee2 : (O2.e == O2.e) = true := by simp
       go_wp2_with fail
       go_ret
       exact ⟨rfl, (zA KW0).trans (zA J16)⟩
end Go.Proofs.YtbdlcaamanhapaaGreatDoor
