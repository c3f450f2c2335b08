import Derived.Test.YtbokbdcjpbnodaaGreatDoorQLh
import Derived.Test.YtbokbdcjpbnodaaGreatDoorQKg
import Derived.Test.YtbokbdcjpbnodaaGreatDoorQJc
import Derived.Test.YtbokbdcjpbnodaaGreatDoorQMa
import Derived.Test.YtbokbdcjpbnodaaGreatDoorQKe
namespace Go.Proofs.YtbokbdcjpbnodaaGreatDoor
open Go.RowKit Go.Maps
set_option maxRecDepth 100000
set_option maxHeartbeats 2000000
theorem step_at {D : List (Nat × List ValA)} {k : Nat} {z : Nat × List ValA} (h : D[k]? = some z) : (stepCs D)[k * 2]? = some (.int .i64 (z.1 : Int)) ∧ (stepCs D)[k * 2 + 1]? = some (str (typT z.2)) := by
 induction D generalizing k with
 | nil => simp at h
 | cons y r ih =>
  have e : stepCs (y :: r) = [.int .i64 (y.1 : Int), str (typT y.2)] ++ stepCs r := by simp [stepCs]
  rw [e]
  cases k with
  | zero => simp at h; subst h; exact ⟨rfl, rfl⟩
  | succ k =>
   simp only [List.getElem?_cons_succ] at h
   have := ih h
   rw [show (k + 1) * 2 = k * 2 + 2 by omega, show k * 2 + 2 + 1 = k * 2 + 1 + 2 by omega]
   exact this
theorem StepsAt.cells {w : World} {v : Value} {D : List (Nat × List ValA)} (h : StepsAt w v D) (h0 : 0 < D.length) :
  ∃ b off cap, v = .slice (some ⟨b, off, none⟩) D.length cap ∧ b < w.heap.size ∧ ∀ i z, D[i]? = some z → w.cell? ⟨b, off + i * 2, none⟩ = some (.int .i64 (z.1 : Int)) ∧ w.cell? ⟨b, off + i * 2 + 1, none⟩ = some (str (typT z.2)) := by
 obtain ⟨b, off, cap, e, hb, hc⟩ := RowAt.cells h h0
 refine ⟨b, off, cap, e, hb, fun i z hz => ?_⟩
 obtain ⟨h1, h2⟩ := step_at hz
 exact ⟨hc _ _ h1, by have := hc _ _ h2; rw [← Nat.add_assoc] at this; exact this⟩
theorem typT_snoc (l : List ValA) (x : ValA) : typT (l ++ [x]) = typT l ++ [letR x.kind] := by simp [typT]
theorem typT_length (l : List ValA) : (typT l).length = l.length := by simp [typT]
theorem letters_v (w : World) (v : Value) (l : List ValA) (h : ValsAt w v l) (hl : l.length ≤ 1024) :
  Calls Tryz.prog 50 #[v] w fun e w' => e = .returned (str (typT l)) ∧ Keeps (fun _ => False) w w' := by
 obtain ⟨ao, ac, rfl⟩ := RowAt.form h
 have H1 := hide h
 clear h
 go_enter Tryz.func50, Tryz.ntmps50
 go_wp2_with fail
 go_loopw [3, 4] (fun s i wr => ∃ k : Nat, k ≤ l.length ∧ i = .int .i64 (k : Int) ∧ s = str (typT (l.take k)) ∧ wr = w) (fun _ i _ => l.length - (intOf i).toNat)
 case atStart => exact ⟨0, by omega, rfl, rfl, rfl⟩
 case round =>
  obtain ⟨k, hk, rfl, rfl, rfl⟩ := hrel
  by_cases hlt : k < l.length
  ·have i1 : (k : Int) < (l.length : Int) := by omega
   have i0' : (0 : Int) ≤ (k : Int) := by omega
   obtain ⟨x, hx⟩ : ∃ x, l[k]? = some x := ⟨_, List.getElem?_eq_getElem hlt⟩
   obtain ⟨b1, off1, c1, e1, hb1, hc1⟩ := (uh H1).cells (by omega)
   simp at e1
   obtain ⟨rfl, rfl⟩ := e1
   have p0 := (hc1 k x hx).1
   have HN : Hid (typT (l.take (k + 1)) = typT (l.take k) ++ [letR x.kind]) := by show _ = _; rw [take_snoc _ _ _ hx, typT_snoc]
   have hq : (typT (l.take k)).length ≤ 1024 := by rw [typT_length, List.length_take]; omega
   generalize typT (l.take k) = q at *
   have ha : ∀ (c : UInt8) (w' : World), (Op.stringOp .add (ByteArray.mk q.toArray) (ByteArray.mk #[c])).run Tryz.prog w' = .ok (str (q ++ [c])) w' := fun c w' => add_str w' q [c] (by simp; omega)
   have ha1 := ha 105
   have ha2 := ha 98
   have ha3 := ha 115
   clear hc1 hx ha
   by_cases h1 : x.kind = 1
   ·rw [h1] at p0 HN
    go_wp2_with fail
    go_roundw
    case rel => exact ⟨k + 1, by omega, by go_num, (by rw [uh HN]; rfl), trivial⟩
    case measure => simp [intOf]; omega
   ·by_cases h2 : x.kind = 2
    ·rw [h2] at p0 HN
     go_wp2_with fail
     go_roundw
     case rel => exact ⟨k + 1, by omega, by go_num, (by rw [uh HN]; rfl), trivial⟩
     case measure => simp [intOf]; omega
    ·have e1 : (x.kind == 1) = false := by simpa using h1
     have e2 : (x.kind == 2) = false := by simpa using h2
     have HL : Hid (letR x.kind = 115) := by show _ = _; unfold letR; rw [if_neg h1, if_neg h2]
     go_wp2_with fail
     go_roundw
     case rel => exact ⟨k + 1, by omega, by go_num, (by rw [uh HN, uh HL]), trivial⟩
     case measure => simp [intOf]; omega
  ·obtain rfl : k = l.length := by omega
   rw [List.take_length]
   go_wp2_with fail
   go_ret
   exact ⟨rfl, Keeps.refl _ _⟩
end Go.Proofs.YtbokbdcjpbnodaaGreatDoor
namespace Go.Proofs.YtbokbdcjpbnodaaGreatDoor
open Go.RowKit Go.Maps
set_option maxRecDepth 100000
set_option maxHeartbeats 2000000
theorem eqSteps_self (w : World) (va vb : Value) (l : List (Nat × List ValA)) (h1 : StepsAt w va l) (h2 : StepsAt w vb l) (hl : l.length ≤ 1024) :
  Calls Tryz.prog 16 #[va, vb] w fun e w' => e = .returned (.bool true) ∧ Keeps (fun _ => False) w w' := by
 obtain ⟨ao, ac, rfl⟩ := RowAt.form h1
 obtain ⟨bo, bc, rfl⟩ := RowAt.form h2
 have H1 := hide h1
 have H2 := hide h2
 have hln : (((l.length : Nat) : Int) != ((l.length : Nat) : Int)) = false := by simp
 clear h1 h2
 go_enter Tryz.func16, Tryz.ntmps16
 go_wp2_with fail
 go_loopw [5] (fun i wr => ∃ k : Nat, k ≤ l.length ∧ i = .int .i64 (k : Int) ∧ Hid (Keeps (fun _ => False) w wr)) (fun i _ => l.length - (intOf i).toNat)
 case atStart => exact ⟨0, by omega, rfl, Keeps.refl _ _⟩
 case round =>
  obtain ⟨k, hk, rfl, HK⟩ := hrel
  by_cases hlt : k < l.length
  ·have i1 : (k : Int) < (l.length : Int) := by omega
   have i0' : (0 : Int) ≤ (k : Int) := by omega
   obtain ⟨x, hx⟩ : ∃ x, l[k]? = some x := ⟨_, List.getElem?_eq_getElem hlt⟩
   obtain ⟨b1, off1, c1, e1, hb1, hc1⟩ := (uh H1).cells (by omega)
   simp at e1
   obtain ⟨rfl, rfl⟩ := e1
   obtain ⟨b2, off2, c2, e2, hb2, hc2⟩ := (uh H2).cells (by omega)
   simp at e2
   obtain ⟨rfl, rfl⟩ := e2
   have p0 := ((uh HK).cell hb1 id).trans (hc1 k x hx).1
   have p1 := ((uh HK).cell hb1 id).trans (hc1 k x hx).2
   have q0 := ((uh HK).cell hb2 id).trans (hc2 k x hx).1
   have q1 := ((uh HK).cell hb2 id).trans (hc2 k x hx).2
   obtain ⟨xk, xs⟩ := x
   simp only at p0 p1 q0 q1
   generalize typT xs = TX at *
   have r0 : ∀ m : KW wr, m.wd.cell? ⟨b1, off1 + k * 2, none⟩ = some (.int .i64 (xk : Int)) := fun m => (m.kept.cell (Nat.lt_of_lt_of_le hb1 (uh HK).size) id).trans p0
   have r1 : ∀ m : KW wr, m.wd.cell? ⟨b1, off1 + k * 2 + 1, none⟩ = some (str TX) := fun m => (m.kept.cell (Nat.lt_of_lt_of_le hb1 (uh HK).size) id).trans p1
   have s0 : ∀ m : KW wr, m.wd.cell? ⟨b2, off2 + k * 2, none⟩ = some (.int .i64 (xk : Int)) := fun m => (m.kept.cell (Nat.lt_of_lt_of_le hb2 (uh HK).size) id).trans q0
   have s1 : ∀ m : KW wr, m.wd.cell? ⟨b2, off2 + k * 2 + 1, none⟩ = some (str TX) := fun m => (m.kept.cell (Nat.lt_of_lt_of_le hb2 (uh HK).size) id).trans q1
   have e0 : (((xk : Nat) : Int) != ((xk : Nat) : Int)) = false := by simp
   have e1 : (TX != TX) = false := by simp
   clear hc1 hc2 hx p0 p1 q0 q1
   go_wp2_with fail
   refine region_kept (by kernel_rfl) (by kernel_rfl) ?_
   repeat (go_big_quiet_step (fail))
   refine wpQuiet_nil ?_
   rintro _ ⟨nq, rfl⟩
   go_wp2_with fail
   go_roundw
   case rel => exact ⟨k + 1, by omega, by go_num, (uh HK).trans nq.kept⟩
   case measure => simp [intOf]; omega
  ·obtain rfl : k = l.length := by omega
   go_wp2_with fail
   go_ret
   exact ⟨rfl, uh HK⟩
end Go.Proofs.YtbokbdcjpbnodaaGreatDoor
namespace Go.Proofs.YtbokbdcjpbnodaaGreatDoor
open Go.RowKit Go.Maps
set_option maxRecDepth 100000
set_option maxHeartbeats 8000000
theorem deep_mem : ∀ (D : List (Nat × List ValA)) (z : Nat × List ValA), z ∈ D → z.2.length ≤ deepD D
 | [], z, h => by simp at h
 | y :: r, z, h => by
  have e : deepD (y :: r) = max y.2.length (deepD r) := by show (y :: r).foldl _ 0 = _; rw [List.foldl_cons, deep_fold]; simp
  rw [e]
  rcases List.mem_cons.1 h with rfl | h
  ·omega
  ·have := deep_mem r z h; omega
theorem steps_snoc {D : List (Nat × List ValA)} {k : Nat} {z : Nat × List ValA} (h : D[k]? = some z) : stepCs (D.take (k + 1)) = stepCs (D.take k) ++ [.int .i64 (z.1 : Int), str (typT z.2)] := by
 rw [take_snoc _ _ _ h, stepCs_snoc]
theorem traceR_v (S : List FieldA) (sv u v : Value) (l : List ValA) (hh : Bool) (vals : List ValA) (w : World) (hS : FldsAt w sv S) (hl : ValsAt w v l) (hI : InR l) (hr : ValsAt w u vals) :
  Calls Tryz.prog 15 #[.agg #[sv], v, .agg #[.bool hh, u]] w fun e w' => ∃ ro rc, e = .returned (.tuple #[.slice ro (traceO S l hh vals).length rc, .int .i64 (runO S l hh vals).e]) ∧ StepsAt w' (.slice ro (traceO S l hh vals).length rc) (traceO S l hh vals) ∧ Keeps (fun _ => False) w w' := by
 obtain ⟨so, sc, rfl⟩ := RowAt.form hS
 obtain ⟨lo, lc, rfl⟩ := RowAt.form hl
 obtain ⟨uo, uc, rfl⟩ := RowAt.form hr
 obtain ⟨W, hW, hkW, g0, g1⟩ := boxes2 w #[.slice so S.length sc] #[.bool hh, .slice uo vals.length uc] 24 28
 have p0 := cl1 g0
 obtain ⟨r0, r1⟩ := cl2 g1
 have HQ := hide (checkR_v S _ _ _ l hh vals W (hS.keepF hkW) (hl.keepF hkW) hI (hr.keepF hkW))
 have HKW := hide hkW
 have G0 := hide g0
 have G1 := hide g1
 by_cases hok : (verifyA S l).2.2 = 0 ∧ rowE S hh vals = 0
 ·obtain ⟨hV, hR⟩ := hok
  obtain ⟨ps, _, _, l96, _, _, hdp, hdp2, _, hst0, _, hJ⟩ := run_bounds hV hR
  have hTy : TyM S ⟨[], hh, vals⟩ [] := ⟨rfl, fun v hv => by simp at hv, rowE_ok hR⟩
  have hs := ver_schema hV
  have h' : (lookA S l).2.2 = 0 := hV
  obtain ⟨hv, hH, hF⟩ : ∃ hv, HvOK S l hv ∧ ∀ i ∈ l, formB i = 0 ∧ rightF S i = true := by
   rcases look_tells S l with ⟨_, _, q, r⟩ | ⟨ps, qa, _, ok, ln, l96, hSK, hF, hT⟩
   ·rw [q] at h'; exact absurd h' r
   ·exact ⟨_, ok, hF⟩
  have hro : (runO S l hh vals).e = 0 := by
   unfold runO outO
   rw [hV, hR, if_neg (by simp), if_neg (by simp)]
  have hto : traceO S l hh vals = (playM S l l.length 0 ⟨[], hh, vals⟩).1 := by
   unfold traceO outD
   rw [hV, hR, if_neg (by simp)]
  rw [hro, hto]
  rw [hV, hR, if_neg (by simp)] at HQ
  have HSTS := hide (fun (W2 : World) (h : Keeps (fun _ => False) W W2) => statesR_v S _ _ _ l hh vals hv W2 ((hS.keepF hkW).keepF h) ((hl.keepF hkW).keepF h) ((hr.keepF hkW).keepF h) hs l96 hF hJ hH hTy)
  have HTELL : Hid (∀ C : List StC, C.map StC.pair = runS S l l.length 0 ⟨[], hh, vals⟩ → C.length = (playM S l l.length 0 ⟨[], hh, vals⟩).1.length + 1 ∧ (∀ (i : Nat) c, C[i]? = some c → i + 1 < C.length → (playM S l l.length 0 ⟨[], hh, vals⟩).1[i]? = some (c.k, c.m.st))) := fun C hC => by
   obtain ⟨a, _, _, b⟩ := sts_tell hC hst0
   exact ⟨a, b⟩
  have HT96 : Hid ((playM S l l.length 0 ⟨[], hh, vals⟩).1.length ≤ 96) := Nat.le_trans (playM_len _ _ _) l96
  have HD16 : Hid (∀ z ∈ (playM S l l.length 0 ⟨[], hh, vals⟩).1, z.2.length ≤ 1024) := fun z hz => by have := deep_mem _ z hz; omega
  generalize (playM S l l.length 0 ⟨[], hh, vals⟩).1 = T1 at *
  clear hV hR hst0 hJ hTy hs h' hH hF hro hto g0 g1 hkW hS hl hr hdp
  go_enter Tryz.func15, Tryz.ntmps15
  go_wp2_with fail
  refine (uh HQ).mono ?_
  rintro e w1 ⟨rfl, hk1⟩
  have h0 := blk_keep (uh G0) hk1
  have h1 := blk_keep (uh G1) hk1
  have HQ2 := hide ((uh HSTS) w1 hk1)
  have HK1 := hide hk1
  have a0 := cl1 h0
  obtain ⟨c0, c1⟩ := cl2 h1
  clear hk1 h0 h1 HQ HSTS
  go_wp2_with fail
  refine (uh HQ2).mono ?_
  rintro e w2 ⟨sv2, C, rfl, hrow, hall, hmap, hk2⟩
  obtain ⟨t1, t2⟩ := (uh HTELL) C hmap
  obtain ⟨sb, sof, scp, e, hsb, hcl⟩ := sts_cells hrow (by omega)
  subst e
  have HK2 := hide ((uh HK1).trans hk2)
  have HALL := hide hall
  have HCL := hide hcl
  have hT := uh HT96
  have hclen : C.length ≤ 97 := by omega
  have HT2 := hide t2
  have HT1 := hide t1
  clear HQ2 HTELL hmap hk2 hrow hall hcl t2 t1
  go_wp2_with fail
  go_loopw [10, 11] (fun o i wr => ∃ k : Nat, k ≤ T1.length ∧ i = .int .i64 (k : Int) ∧ Hid (wr.ownsRow w2.heap.size 92 2 o k (stepCs (T1.take k))) ∧ Hid (Keeps (fun _ => False) w2 wr)) (fun _ i _ => T1.length - (intOf i).toNat)
  case atStart => exact ⟨0, Nat.zero_le _, rfl, by simpa [Hid, stepCs] using World.ownsRow_nil w2 w2.heap.size 92 2, Keeps.refl _ _⟩
  case round =>
   obtain ⟨k, hk, rfl, HO, HK⟩ := hrel
   by_cases hlt : k < T1.length
   ·have hlc : k + 1 < C.length := by have := uh HT1; omega
    obtain ⟨c, hc⟩ : ∃ c, C[k]? = some c := ⟨_, List.getElem?_eq_getElem (by omega)⟩
    have hz := (uh HT2) k c hc hlc
    have hst := (uh HD16) _ (List.mem_of_getElem? hz)
    simp only at hst
    have hall := ((uh HALL) c (List.mem_of_getElem? hc)).1
    obtain ⟨to, tc, e1⟩ := RowAt.form hall
    have f0 := ((uh HK).cell hsb id).trans ((uh HCL) k c hc).1
    have f1 := ((uh HK).cell hsb id).trans ((uh HCL) k c hc).2.1
    rw [e1] at f1 hall
    have HN : Hid (stepCs (T1.take (k + 1)) = stepCs (T1.take k) ++ [.int .i64 (c.k : Int), str (typT c.m.st)]) := steps_snoc hz
    have HQ := hide (fun (X : World) (h : Keeps (fun _ => False) wr X) => letters_v X _ c.m.st ((hall.keepF (uh HK)).keepF h) hst)
    obtain ⟨oo, oc, e2⟩ := RowAt.form (rowAt_own (uh HO))
    subst e2
    have hsr : sb < wr.heap.size := Nat.lt_of_lt_of_le hsb (uh HK).size
    generalize typT c.m.st = TX at *
    generalize c.m.st.length = SL at *
    have i1 : (k : Int) + 1 < (C.length : Int) := by omega
    have i2 : (k : Int) < (C.length : Int) := by omega
    have i0' : (0 : Int) ≤ (k : Int) := by omega
    have HD := hide (Keeps.refl (fun _ => False) wr).drew
    clear hc hz e1 hall hst
    go_wp2_with fail
    go_region_law (first
     | (rw [if_pos (by rfl)]; go_simp; go_at_call 50; refine ((uh HQ) _ (uh HD)).mono ?_; rintro e w3 ⟨rfl, hk3⟩; have HW3 := hide ((uh HD).trans hk3); have f3 := ((uh HW3).cell (o := sof + k * 4) hsr id).trans f0; have hOW := (ownsRow_kept (uh HO) (uh HW3) (fun _ _ => id)).alloc (.cells #[.int .i64 (c.k : Int), str TX] 92); have hBS : w2.heap.size ≤ (w3.alloc (.cells #[.int .i64 (c.k : Int), str TX] 92)).heap.size := (by have := (uh HK).size; have := (uh HW3).size; simp; omega))
     | (refine step_appendS (by rfl) _ _ (by rfl) w2.heap.size oo k oc (stepCs (T1.take k)) (by rfl) hOW w3.heap.size (c.k : Int) _ (by rfl) (heap_alloc_new w3 _) (by omega) hBS ?_; intro g cap' w5 hown5 hgrow5))
    all_goals
     have HO5 := hide hown5
     have HG5 := hide hgrow5
     clear hown5 hgrow5
     go_wp2_with fail
     go_roundw
     case rel =>
      refine ⟨k + 1, by omega, by go_num, ?_, (((uh HK).trans (uh HW3)).alloc _).grown (uh HG5) (fun q e hq => by have := ((uh HO).lt q e).1; omega)⟩
      rw [uh HN]
      exact uh HO5
     case measure => simp [intOf]; omega
   ·obtain rfl : k = T1.length := by omega
    have i1 : ¬ (T1.length : Int) + 1 < (C.length : Int) := by have := uh HT1; omega
    have hO := uh HO
    rw [List.take_length] at hO
    obtain ⟨oo, oc, e2⟩ := RowAt.form (rowAt_own hO)
    subst e2
    have HF := hide (rowAt_own hO)
    clear hO HO
    go_wp2_with fail
    refine bodyPost_ret (v := .tuple #[.slice oo T1.length oc, .int .i64 0]) (by simp [results, go_sem]) rfl ?_
    exact ⟨oo, oc, rfl, uh HF, (uh HKW).trans ((uh HK2).trans (uh HK))⟩
 ·have hE : (if (verifyA S l).2.2 ≠ 0 then (verifyA S l).2.2 else rowE S hh vals) ≠ 0 := by
   by_cases hV : (verifyA S l).2.2 = 0
   ·rw [if_neg (by simp [hV])]
    exact fun q => hok ⟨hV, q⟩
   ·rw [if_pos hV]; exact hV
  have hro : (runO S l hh vals).e = (if (verifyA S l).2.2 ≠ 0 then (verifyA S l).2.2 else rowE S hh vals) ∧ traceO S l hh vals = [] := by
   unfold runO outO traceO outD
   by_cases hV : (verifyA S l).2.2 = 0
   ·have hR : ¬ rowE S hh vals = 0 := fun q => hok ⟨hV, q⟩
    simp [hV, hR]
   ·simp [hV]
  rw [hro.1, hro.2]
  simp only [List.length_nil]
  generalize (if (verifyA S l).2.2 ≠ 0 then (verifyA S l).2.2 else rowE S hh vals) = EE at *
  have e1 : (EE == 0) = false := by simpa using hE
  have e2 : (EE != 0) = true := by simpa using hE
  clear hok hro hE g0 g1 hkW hS hl hr
  go_enter Tryz.func15, Tryz.ntmps15
  go_wp2_with fail
  refine (uh HQ).mono ?_
  rintro e w1 ⟨rfl, hk1⟩
  clear HQ
  go_wp2_with fail
  refine bodyPost_ret (v := .tuple #[.slice none 0 0, .int .i64 EE]) (by simp [results, go_sem]) rfl ?_
  exact ⟨none, 0, rfl, nil_steps _, (uh HKW).trans hk1⟩
end Go.Proofs.YtbokbdcjpbnodaaGreatDoor
