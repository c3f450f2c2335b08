import Derived.Test.YtbokbdcjpbnodaaGreatDoorLi
import Derived.Test.YtbokbdcjpbnodaaGreatDoorLh
import Derived.Deep.RegionLaw
import Derived.Deep.RegionHeld3
import Derived.Test.YtbokbdcjpbnodaaGreatDoorLa
import Derived.Test.YtbokbdcjpbnodaaGreatDoorLp
namespace Go.Proofs.YtbokbdcjpbnodaaGreatDoor
open Go.RowKit Go.Maps
set_option maxRecDepth 100000
set_option maxHeartbeats 16000000
theorem applyAllR_v (S : List FieldA) (sv u vm : Value) (hh : Bool) (vals : List ValA) (L : List MsgC) (w : World) (hS : FldsAt w sv S) (hr : ValsAt w u vals) (hm : MsgsAt w vm L) (hL : L.length ≤ 4398046511104) (hVL : vals.length ≤ 4398046511104) :
  Calls Tryz.prog 31 #[.agg #[sv], .agg #[.bool hh, u], vm] w fun e w' => ∃ ro rc, e = .returned (.tuple #[.agg #[.bool (applyA S hh vals (L.map MsgC.m)).here, .slice ro (applyA S hh vals (L.map MsgC.m)).vals.length rc], .int .i64 (applyA S hh vals (L.map MsgC.m)).e]) ∧ ValsAt w' (.slice ro (applyA S hh vals (L.map MsgC.m)).vals.length rc) (applyA S hh vals (L.map MsgC.m)).vals ∧ Keeps (fun _ => False) w w' := by
 obtain ⟨so, sc, rfl⟩ := RowAt.form hS
 obtain ⟨uo, uc, rfl⟩ := RowAt.form hr
 obtain ⟨mo, mc, rfl⟩ := RowAt.form hm.row
 obtain ⟨W, hW, hkW, g0, g1, g2⟩ := boxes3 w #[.slice so S.length sc] #[.bool hh, .slice uo vals.length uc] #[.bool false, .slice none 0 0] 24 28 28
 have HSW := hide (hS.keepF hkW)
 have HRW := hide (hr.keepF hkW)
 have HMW := hide (hm.keepF hkW)
 have HKW := hide hkW
 have G0 := hide g0
 have G1 := hide g1
 have G2 := hide g2
 have hWs : W.heap.size = w.heap.size + 1 + 1 + 1 := by rw [← hW]; simp
 have HQ := hide (checkSchema_any S _ W (uh HSW))
 have HAA : Hid ((applyA S hh vals (L.map MsgC.m)) = if applyE S hh vals (L.map MsgC.m) ≠ 0 then ⟨applyE S hh vals (L.map MsgC.m), false, [], 0, 0⟩ else ⟨0, (foldA S (hh, vals) (L.map MsgC.m)).1, (foldA S (hh, vals) (L.map MsgC.m)).2, 0, 0⟩) := rfl
 generalize (applyA S hh vals (L.map MsgC.m)) = AA at *
 have hLm : L.length ≤ 9223372036854775806 := by omega
 have p0 : W.cell? ⟨w.heap.size, 0, none⟩ = some (.slice so S.length sc) := (cell_of_blk g0 _).trans rfl
 clear g0 g1 g2 hkW hS hr hm hL
 by_cases hes : errS S = 0
 ·rw [hes] at HQ
  go_enter Tryz.func31, Tryz.ntmps31
  go_wp2_with fail
  refine (uh HQ).mono ?_
  rintro e w0 ⟨rfl, hk0⟩
  have HK0 := hide hk0
  clear HQ hk0 p0
  go_wp2_with fail
  go_loopw [8] (fun i wr => ∃ k : Nat, k ≤ L.length ∧ i = .int .i64 (k : Int) ∧ Hid (∀ (j : Nat) (x : MsgA), j < k → (L.map MsgC.m)[j]? = some x → checkM S x = 0) ∧ Hid (Keeps (fun _ => False) W wr)) (fun i _ => L.length - (intOf i).toNat)
  case atStart => exact ⟨0, Nat.zero_le _, rfl, fun j x hj => absurd hj (Nat.not_lt_zero _), uh HK0⟩
  case round =>
   obtain ⟨k, hk, rfl, HPRE, HKX⟩ := hrel
   have h0 := blk_keep (uh G0) (uh HKX)
   have h1 := blk_keep (uh G1) (uh HKX)
   have h2 := blk_keep (uh G2) (uh HKX)
   have i0 : (0 : Int) ≤ (k : Int) := by omega
   have p0 : wr.cell? ⟨w.heap.size, 0, none⟩ = some (.slice so S.length sc) := (cell_of_blk h0 _).trans rfl
   by_cases hlt : k < L.length
   ·obtain ⟨x, hx⟩ : ∃ x, L[k]? = some x := ⟨_, List.getElem?_eq_getElem hlt⟩
    obtain ⟨mb, mof, mcc, e, hmb, hmc⟩ := msgs_cells (uh HMW) (by omega)
    simp only [Value.slice.injEq] at e
    obtain ⟨rfl, -, rfl⟩ := e
    have okx := (uh HMW).ok x (List.mem_of_getElem? hx)
    obtain ⟨q0, q1, q2, q3⟩ := hmc k x hx
    have hxm : (L.map MsgC.m)[k]? = some x.m := by rw [List.getElem?_map, hx]; rfl
    have HXM := hide hxm
    obtain ⟨⟨xk, xkey, xv, xc⟩, xvv, xcv⟩ := x
    obtain ⟨vo, vc, e1⟩ := RowAt.form okx.vals
    obtain ⟨co, cc, e2⟩ := RowAt.form okx.code
    simp only at *
    subst e1
    subst e2
    have hmw : mb < wr.heap.size := Nat.lt_of_lt_of_le hmb (uh HKX).size
    replace q0 := ((uh HKX).cell hmb id).trans q0
    replace q1 := ((uh HKX).cell hmb id).trans q1
    replace q2 := ((uh HKX).cell hmb id).trans q2
    replace q3 := ((uh HKX).cell hmb id).trans q3
    have i1 : (k : Int) < (L.length : Int) := by omega
    have HQC := hide (fun (W2 : World) (h : Keeps (fun _ => False) wr W2) => refCheck_v S _ (.slice vo xv.length vc) (.slice co xc.length cc) ⟨xk, xkey, xv, xc⟩ W2 ((uh HSW).keepF ((uh HKX).trans h)) (okx.vals.keepF ((uh HKX).trans h)) (okx.code.keepF ((uh HKX).trans h)) okx.key)
    simp only at HQC
    have HSK : Hid (∀ w', Keeps (fun _ => False) wr w' → w'.cell? ⟨w.heap.size, 0, none⟩ = some (.slice so S.length sc) ∧ w'.cell? ⟨mb, mof + k * 4, none⟩ = some (.int .i64 xk) ∧ w'.cell? ⟨mb, mof + k * 4 + 1, none⟩ = some (str xkey) ∧ w'.cell? ⟨mb, mof + k * 4 + 2, none⟩ = some (.slice vo xv.length vc) ∧ w'.cell? ⟨mb, mof + k * 4 + 3, none⟩ = some (.slice co xc.length cc)) := fun w' hk => ⟨(hk.cell (lt_of_block h0) id).trans p0, (hk.cell hmw id).trans q0, (hk.cell hmw id).trans q1, (hk.cell hmw id).trans q2, (hk.cell hmw id).trans q3⟩
    have HKZ := hide (Keeps.refl (fun _ => False) wr)
    have H2 := hide h2
    generalize hCE : checkM S ⟨xk, xkey, xv, xc⟩ = CE at *
    have HCE := hide hCE
    clear okx hmc hxm hx h0 h1 h2 hCE
    go_wp2_with fail
    go_region_held3 (fun w' => w'.cell? ⟨w.heap.size, 0, none⟩ = some (.slice so S.length sc) ∧ w'.cell? ⟨mb, mof + k * 4, none⟩ = some (.int .i64 xk) ∧ w'.cell? ⟨mb, mof + k * 4 + 1, none⟩ = some (str xkey) ∧ w'.cell? ⟨mb, mof + k * 4 + 2, none⟩ = some (.slice vo xv.length vc) ∧ w'.cell? ⟨mb, mof + k * 4 + 3, none⟩ = some (.slice co xc.length cc))
     (first | with_reducible exact uh HSK _ (uh HKZ) | with_reducible exact uh HSK _ (uh HKZ).drew)
     ((first
     | (go_at_call 59; (with_reducible refine (uh HQC _ (uh HKZ).drew).mono ?_); rintro e w2 ⟨rfl, hk2⟩; have HKZ := hide ((uh HKZ).drew.trans hk2); clear hk2)))
    all_goals
     by_cases hch : CE = 0
     ·have HPN : Hid (∀ (j : Nat) (x : MsgA), j < k + 1 → (L.map MsgC.m)[j]? = some x → checkM S x = 0) := fun j y hj hy => by
       by_cases hjk : j = k
       ·subst hjk
        rw [uh HXM] at hy
        cases hy
        rw [uh HCE, hch]
       ·exact (uh HPRE) j y (by omega) hy
      have HK2 := hide ((uh HKX).trans (uh HKZ))
      clear HCE
      subst hch
      clear HPRE HXM HQC HSK
      go_wp2_with fail
      go_roundw
      case rel => exact ⟨k + 1, by omega, by go_num, uh HPN, uh HK2⟩
      case measure => simp [intOf]; omega
     ·have HEE : Hid (AA = ⟨CE, false, [], 0, 0⟩) := by
       show _ = _
       rw [uh HAA]
       have hf := firstM_pre (uh HPRE) (uh HXM) (by rw [uh HCE]; exact hch)
       have he : applyE S hh vals (L.map MsgC.m) = CE := by
        unfold applyE
        rw [if_neg (by simp [hes]), hf, uh HCE, if_pos hch]
       rw [he, if_pos hch]
      have e1 : (CE == 0) = false := by simpa using hch
      have e2 : (CE != 0) = true := by simpa using hch
      have hb2 := blk_keep (uh H2) (uh HKZ)
      clear HPRE HXM HAA HQC HSK HCE
      have y0 : w2.cell? ⟨w.heap.size + 1 + 1, 0, none⟩ = some (.bool false) := (cell_of_blk hb2 _).trans rfl
      have y1 : w2.cell? ⟨w.heap.size + 1 + 1, 1, none⟩ = some (.slice none 0 0) := (cell_of_blk hb2 _).trans rfl
      have z0 := frozen_of_blk hb2 0
      have z1 := frozen_of_blk hb2 1
      obtain ⟨s0, s1⟩ := set2c hb2 (.bool false) (.slice none 0 0)
      have HK := hide ((((uh HKW).trans (uh HKX)).trans (uh HKZ)).fresh (by omega) (keeps_set2 w2 (w.heap.size + 1 + 1) (.bool false) (.slice none 0 0)))
      go_wp2_with fail
      refine bodyPost_ret (v := .tuple #[.agg #[.bool false, .slice none 0 0], .int .i64 CE]) (by simp [results, go_sem, s0, s1]) rfl ?_
      rw [uh HEE]
      exact ⟨none, 0, rfl, nil_vals _, uh HK⟩
   ·have i1 : ¬ (k : Int) < (L.length : Int) := by omega
    have HALL : Hid (∀ (j : Nat) (x : MsgA), (L.map MsgC.m)[j]? = some x → checkM S x = 0) := fun j x hx => (uh HPRE) j x (by have := (List.getElem?_eq_some_iff.1 hx).1; simp at this; omega) hx
    have HF0 : Hid (firstM S (L.map MsgC.m) = 0) := firstM_all (uh HALL)
    have HAP : Hid (applyE S hh vals (L.map MsgC.m) = rowE S hh vals) := by show _ = _; unfold applyE; rw [if_neg (by simp [hes]), uh HF0, if_neg (by simp)]
    have HQR := hide (checkRowR_v S _ _ hh vals wr ((uh HSW).keepF (uh HKX)) ((uh HRW).keepF (uh HKX)))
    rw [if_neg (by simp [hes])] at HQR
    have HR2 := hide (rowE_two (hh := hh) (vals := vals) hes)
    generalize rowE S hh vals = RE at *
    have r0 : wr.cell? ⟨w.heap.size + 1, 0, none⟩ = some (.bool hh) := (cell_of_blk h1 _).trans rfl
    have r1 : wr.cell? ⟨w.heap.size + 1, 1, none⟩ = some (.slice uo vals.length uc) := (cell_of_blk h1 _).trans rfl
    have HB0 := hide h0
    have HB1 := hide h1
    have HB2 := hide h2
    clear HPRE h0 h1 h2 hk hlt HF0
    rcases uh HR2 with hre | hre
    ·have HAE : Hid (AA = ⟨0, (foldA S (hh, vals) (L.map MsgC.m)).1, (foldA S (hh, vals) (L.map MsgC.m)).2, 0, 0⟩) := by show _ = _; rw [uh HAA, if_neg (by simp [uh HAP, hre])]
     subst hre
     clear HAA HAP HR2
     go_wp2_with fail
     refine (uh HQR).mono ?_
     rintro e w2 ⟨rfl, hk2⟩
     have x0 := blk_keep (uh HB0) hk2
     have x1 := blk_keep (uh HB1) hk2
     have x2 := blk_keep (uh HB2) hk2
     have kW2 := (uh HKX).trans hk2
     have HCV := hide (fun (W2 : World) (h : Keeps (fun _ => False) w2 W2) => copyVals_any W2 _ vals ((uh HRW).keepF (kW2.trans h)) hVL)
     have HSK : Hid (∀ w', Keeps (fun _ => False) w2 w' → w'.cell? ⟨w.heap.size + 1, 0, none⟩ = some (.bool hh) ∧ w'.cell? ⟨w.heap.size + 1, 1, none⟩ = some (.slice uo vals.length uc)) := fun w' hk => by
      have y := blk_keep x1 hk
      exact ⟨(cell_of_blk y _).trans rfl, (cell_of_blk y _).trans rfl⟩
     have HKZ := hide (Keeps.refl (fun _ => False) w2)
     have HKW2 := hide kW2
     have HX0 := hide x0
     have HX2 := hide x2
     have hbo2 : W.heap.size ≤ w2.heap.size := kW2.size
     obtain ⟨a0, a1⟩ := uh HSK w2 (Keeps.refl _ _)
     clear HQR hk2 x0 x1 x2 kW2 HKX HB0 HB1 HB2 p0 r0 r1
     go_wp2_with fail
     go_region_held3 (fun w' => w'.cell? ⟨w.heap.size + 1, 0, none⟩ = some (.bool hh) ∧ w'.cell? ⟨w.heap.size + 1, 1, none⟩ = some (.slice uo vals.length uc))
      (first | with_reducible exact uh HSK _ (uh HKZ) | with_reducible exact uh HSK _ (uh HKZ).drew | with_reducible exact uh HSK _ ((uh HKZ).alloc _) | with_reducible exact uh HSK _ ((uh HKZ).alloc _).drew | with_reducible exact uh HSK _ (((uh HKZ).drew).alloc _) | exact uh HSK _ (uh HKS))
      ((first
      | (go_at_call 29; (with_reducible refine (uh HCV _ (uh HKZ).drew).mono ?_); rintro e w3 ⟨v', rfl, hown, hk⟩; have hvv : ValsAt w3 v' vals := rowAt_own hown; obtain ⟨ao, c, rfl⟩ := RowAt.form hvv; have HVV := hide hvv; have HKZ := hide ((uh HKZ).drew.trans hk); have HW1 := hide trivial; have HKS := hide ((uh HKZ).alloc (.cells #[.bool hh, .slice ao vals.length c] 28)); clear hk hown hvv)
      | (go_at_call 29; (with_reducible refine (uh HCV _ ((uh HKZ).alloc _).drew).mono ?_); rintro e w3 ⟨v', rfl, hown, hk⟩; have hvv : ValsAt w3 v' vals := rowAt_own hown; obtain ⟨ao, c, rfl⟩ := RowAt.form hvv; have HVV := hide hvv; have hbz := blk_keep (heap_alloc_new w2 (.cells #[.bool false, .slice none 0 0] 28)) ((Keeps.refl _ _).drew.trans hk); have t0 := frozen_of_blk hbz 0; have t1 := frozen_of_blk hbz 1; have t2 := (cell_of_blk hbz 0).trans rfl; have t3 := (cell_of_blk hbz 1).trans rfl; have HBZ := hide hbz; have HKZ := hide (((uh HKZ).alloc (.cells #[.bool false, .slice none 0 0] 28)).drew.trans hk); have HKS := hide ((uh HKZ).fresh (Nat.le_refl _) (keeps_set2 w3 w2.heap.size (.bool hh) (.slice ao vals.length c))); have HW2 := hide trivial; clear hk hown hvv hbz)))
     ·have kN := kAlloc w3 (.cells #[.bool hh, .slice ao vals.length c] 28)
      have hN := heap_alloc_new w3 (.cells #[.bool hh, .slice ao vals.length c] 28)
      generalize hX : w3.alloc (.cells #[.bool hh, .slice ao vals.length c] 28) = X at *
      have HBO := hide hN
      have HVO := hide ((uh HVV).keepF kN)
      have HY0 := hide (blk_keep (blk_keep (uh HX0) (uh HKZ)) kN)
      have HY2 := hide (blk_keep (blk_keep (uh HX2) (uh HKZ)) kN)
      have HWX := hide (((uh HKW2).trans (uh HKZ)).trans kN)
      have hbo : W.heap.size ≤ w3.heap.size := ((uh HKW2).trans (uh HKZ)).size
      clear hN kN HVV HX0 HX2 HKZ HKW2 HKS HCV HSK HW1 a0 a1
      go_wp2_with fail
      go_loopw [11] (fun i wr => ∃ (k : Nat) (R1 : Bool) (R2 : List ValA) (ro : Option Addr) (rc : Nat), k ≤ L.length ∧ i = .int .i64 (k : Int) ∧ Hid (foldA S (hh, vals) ((L.map MsgC.m).take k) = (R1, R2)) ∧ Hid (wr.heap[w3.heap.size]? = some (.cells #[.bool R1, .slice ro R2.length rc] 28 (0, 0))) ∧ Hid (ValsAt wr (.slice ro R2.length rc) R2) ∧ Hid (wr.heap[w.heap.size]? = some (.cells #[.slice so S.length sc] 24 (0, 0))) ∧ Hid (wr.heap[w.heap.size + 1 + 1]? = some (.cells #[.bool false, .slice none 0 0] 28 (0, 0))) ∧ Hid (Keeps (fun _ => False) W wr)) (fun i _ => L.length - (intOf i).toNat)
      case atStart => exact ⟨0, hh, vals, ao, c, Nat.zero_le _, rfl, by simp [Hid, foldA], uh HBO, uh HVO, uh HY0, uh HY2, uh HWX⟩
      case round =>
       clear HBO HVO HY0 HY2 HWX
       obtain ⟨k, R1, R2, ro, rc, hk, rfl, HFO, HBO, HVO, HY0, HY2, HKX⟩ := hrel
       have i0 : (0 : Int) ≤ (k : Int) := by omega
       have o0 : wr.cell? ⟨w3.heap.size, 0, none⟩ = some (.bool R1) := (cell_of_blk (uh HBO) _).trans rfl
       have o1 : wr.cell? ⟨w3.heap.size, 1, none⟩ = some (.slice ro R2.length rc) := (cell_of_blk (uh HBO) _).trans rfl
       have p0 : wr.cell? ⟨w.heap.size, 0, none⟩ = some (.slice so S.length sc) := (cell_of_blk (uh HY0) _).trans rfl
       have lo : w3.heap.size < wr.heap.size := lt_of_block (uh HBO)
       have l0 : w.heap.size < wr.heap.size := lt_of_block (uh HY0)
       by_cases hlt : k < L.length
       ·obtain ⟨x, hx⟩ : ∃ x, L[k]? = some x := ⟨_, List.getElem?_eq_getElem hlt⟩
        obtain ⟨mb, mof, mcc, e, hmb, hmc⟩ := msgs_cells (uh HMW) (by omega)
        simp only [Value.slice.injEq] at e
        obtain ⟨rfl, -, rfl⟩ := e
        have okx := (uh HMW).ok x (List.mem_of_getElem? hx)
        obtain ⟨q0, q1, q2, q3⟩ := hmc k x hx
        have hxm : (L.map MsgC.m)[k]? = some x.m := by rw [List.getElem?_map, hx]; rfl
        have HXM := hide hxm
        obtain ⟨_, c2, c3⟩ := check_shape ((uh HALL) k _ hxm)
        have HFN : Hid (foldA S (hh, vals) ((L.map MsgC.m).take (k + 1)) = didA S (R1, R2) x.m) := by show _ = _; rw [take_snoc _ _ _ hxm, foldA_snoc, uh HFO]
        obtain ⟨⟨xk, xkey, xv, xc⟩, xvv, xcv⟩ := x
        obtain ⟨vo, vc, e1⟩ := RowAt.form okx.vals
        obtain ⟨co, cc, e2⟩ := RowAt.form okx.code
        simp only at *
        subst e1
        subst e2
        have hmw : mb < wr.heap.size := Nat.lt_of_lt_of_le hmb (uh HKX).size
        replace q0 := ((uh HKX).cell hmb id).trans q0
        replace q1 := ((uh HKX).cell hmb id).trans q1
        replace q2 := ((uh HKX).cell hmb id).trans q2
        replace q3 := ((uh HKX).cell hmb id).trans q3
        have i1 : (k : Int) < (L.length : Int) := by omega
        have HQ := hide (fun (W2 : World) (h : Keeps (fun _ => False) wr W2) => did_v S _ _ (.slice vo xv.length vc) (.slice co xc.length cc) R1 R2 ⟨xk, xkey, xv, xc⟩ W2 ((uh HSW).keepF ((uh HKX).trans h)) ((uh HVO).keepF h) (okx.vals.keepF ((uh HKX).trans h)) (okx.code.keepF ((uh HKX).trans h)) c3 c2)
        simp only at HQ
        generalize didA S (R1, R2) ⟨xk, xkey, xv, xc⟩ = DR at *
        obtain ⟨D1, D2⟩ := DR
        simp only at HQ
        clear okx hmc hxm hx c2 c3 HFO HVO HXM
        go_wp2_with fail
        go_region_law (first
         | (rw [if_pos (by rfl)]; go_simp; go_at_call 61; refine ((uh HQ) _ (Keeps.refl _ _).drew).mono ?_; rintro e w5 ⟨to, tc, rfl, hv3, hk3⟩; have hk4 := (Keeps.refl (fun _ => False) wr).drew.trans hk3; have xo := blk_keep (uh HBO) hk4; have f0 := frozen_of_blk xo 0; have f1 := frozen_of_blk xo 1; have a0 := (cell_of_blk xo 0).trans rfl; have a1 := (cell_of_blk xo 1).trans rfl; have HV3 := hide hv3; have HK3 := hide hk4; have HXO := hide xo; clear hv3 hk3 hk4 xo))
        all_goals
         obtain ⟨Z, hZ, hzo, kZ⟩ : ∃ Z, (w5.setCell ⟨w3.heap.size, 0, none⟩ (.bool D1)).setCell ⟨w3.heap.size, 1, none⟩ (.slice to D2.length tc) = Z ∧ Z.heap[w3.heap.size]? = some (.cells #[.bool D1, .slice to D2.length tc] 28 (0, 0)) ∧ Keeps (fun q => q = w3.heap.size) w5 Z := ⟨_, rfl, heap_setCell_at (o := 1) (heap_setCell_at (o := 0) (uh HXO) _) _, keeps_set2 _ _ _ _⟩
         have x0 := blk_keep (uh HY0) (uh HK3)
         have x2 := blk_keep (uh HY2) (uh HK3)
         have HZ0 := hide ((kZ.block _ (lt_of_block x0) (by omega)).trans x0)
         have HZ2 := hide ((kZ.block _ (lt_of_block x2) (by omega)).trans x2)
         have HZO := hide hzo
         have HZV := hide (vals_off (uh HV3) (uh HXO) (off2 (by simp)) kZ)
         have HKZ := hide (((uh HKX).trans (uh HK3)).fresh hbo kZ)
         try rw [hZ]
         clear x0 x2 hzo kZ HQ
         go_wp2_with fail
         go_roundw
         case rel => exact ⟨k + 1, D1, D2, to, tc, by omega, by go_num, uh HFN, uh HZO, uh HZV, uh HZ0, uh HZ2, uh HKZ⟩
         case measure => simp [intOf]; omega
       ·have i1 : ¬ (k : Int) < (L.length : Int) := by omega
        have HRS : Hid (AA = ⟨0, R1, R2, 0, 0⟩) := by
         show _ = _
         rw [uh HAE]
         have : foldA S (hh, vals) (L.map MsgC.m) = (R1, R2) := by rw [← uh HFO, List.take_of_length_le (by simp; omega)]
         rw [this]
        have y0 : wr.cell? ⟨w.heap.size + 1 + 1, 0, none⟩ = some (.bool false) := (cell_of_blk (uh HY2) _).trans rfl
        have y1 : wr.cell? ⟨w.heap.size + 1 + 1, 1, none⟩ = some (.slice none 0 0) := (cell_of_blk (uh HY2) _).trans rfl
        have z0 := frozen_of_blk (uh HY2) 0
        have z1 := frozen_of_blk (uh HY2) 1
        obtain ⟨s0, s1⟩ := set2c (uh HY2) (.bool R1) (.slice ro R2.length rc)
        have k2 := keeps_set2 wr (w.heap.size + 1 + 1) (.bool R1) (.slice ro R2.length rc)
        have HV := hide (vals_off (uh HVO) (uh HY2) (off2 (by simp)) k2)
        have HK := hide (((uh HKW).trans (uh HKX)).fresh (by omega) k2)
        clear k2 HAE HFO HALL
        go_wp2_with fail
        refine bodyPost_ret (v := .tuple #[.agg #[.bool R1, .slice ro R2.length rc], .int .i64 0]) (by simp [results, go_sem, s0, s1]) rfl ?_
        rw [uh HRS]
        exact ⟨ro, rc, rfl, uh HV, uh HK⟩
     ·obtain ⟨X, hX, hxo, kX⟩ : ∃ X, (w3.setCell ⟨w2.heap.size, 0, none⟩ (.bool hh)).setCell ⟨w2.heap.size, 1, none⟩ (.slice ao vals.length c) = X ∧ X.heap[w2.heap.size]? = some (.cells #[.bool hh, .slice ao vals.length c] 28 (0, 0)) ∧ Keeps (fun q => q = w2.heap.size) w3 X := ⟨_, rfl, heap_setCell_at (o := 1) (heap_setCell_at (o := 0) (uh HBZ) _) _, keeps_set2 _ _ _ _⟩
      have HBO := hide hxo
      have HVO := hide (vals_off (uh HVV) (uh HBZ) (off2 (by simp)) kX)
      have x0 := blk_keep (uh HX0) (uh HKZ)
      have x2 := blk_keep (uh HX2) (uh HKZ)
      have HY0 := hide ((kX.block _ (lt_of_block x0) (by omega)).trans x0)
      have HY2 := hide ((kX.block _ (lt_of_block x2) (by omega)).trans x2)
      have HWX := hide (((uh HKW2).trans (uh HKZ)).fresh hbo2 kX)
      have hbo : W.heap.size ≤ w2.heap.size := hbo2
      try rw [hX]
      clear hxo kX x0 x2 HVV HX0 HX2 HKZ HKW2 HKS HCV HSK HW2 a0 a1 HBZ t0 t1 t2 t3
      go_wp2_with fail
      go_loopw [11] (fun i wr => ∃ (k : Nat) (R1 : Bool) (R2 : List ValA) (ro : Option Addr) (rc : Nat), k ≤ L.length ∧ i = .int .i64 (k : Int) ∧ Hid (foldA S (hh, vals) ((L.map MsgC.m).take k) = (R1, R2)) ∧ Hid (wr.heap[w2.heap.size]? = some (.cells #[.bool R1, .slice ro R2.length rc] 28 (0, 0))) ∧ Hid (ValsAt wr (.slice ro R2.length rc) R2) ∧ Hid (wr.heap[w.heap.size]? = some (.cells #[.slice so S.length sc] 24 (0, 0))) ∧ Hid (wr.heap[w.heap.size + 1 + 1]? = some (.cells #[.bool false, .slice none 0 0] 28 (0, 0))) ∧ Hid (Keeps (fun _ => False) W wr)) (fun i _ => L.length - (intOf i).toNat)
      case atStart => exact ⟨0, hh, vals, ao, c, Nat.zero_le _, rfl, by simp [Hid, foldA], uh HBO, uh HVO, uh HY0, uh HY2, uh HWX⟩
      case round =>
       clear HBO HVO HY0 HY2 HWX
       obtain ⟨k, R1, R2, ro, rc, hk, rfl, HFO, HBO, HVO, HY0, HY2, HKX⟩ := hrel
       have i0 : (0 : Int) ≤ (k : Int) := by omega
       have o0 : wr.cell? ⟨w2.heap.size, 0, none⟩ = some (.bool R1) := (cell_of_blk (uh HBO) _).trans rfl
       have o1 : wr.cell? ⟨w2.heap.size, 1, none⟩ = some (.slice ro R2.length rc) := (cell_of_blk (uh HBO) _).trans rfl
       have p0 : wr.cell? ⟨w.heap.size, 0, none⟩ = some (.slice so S.length sc) := (cell_of_blk (uh HY0) _).trans rfl
       have lo : w2.heap.size < wr.heap.size := lt_of_block (uh HBO)
       have l0 : w.heap.size < wr.heap.size := lt_of_block (uh HY0)
       by_cases hlt : k < L.length
       ·obtain ⟨x, hx⟩ : ∃ x, L[k]? = some x := ⟨_, List.getElem?_eq_getElem hlt⟩
        obtain ⟨mb, mof, mcc, e, hmb, hmc⟩ := msgs_cells (uh HMW) (by omega)
        simp only [Value.slice.injEq] at e
        obtain ⟨rfl, -, rfl⟩ := e
        have okx := (uh HMW).ok x (List.mem_of_getElem? hx)
        obtain ⟨q0, q1, q2, q3⟩ := hmc k x hx
        have hxm : (L.map MsgC.m)[k]? = some x.m := by rw [List.getElem?_map, hx]; rfl
        have HXM := hide hxm
        obtain ⟨_, c2, c3⟩ := check_shape ((uh HALL) k _ hxm)
        have HFN : Hid (foldA S (hh, vals) ((L.map MsgC.m).take (k + 1)) = didA S (R1, R2) x.m) := by show _ = _; rw [take_snoc _ _ _ hxm, foldA_snoc, uh HFO]
        obtain ⟨⟨xk, xkey, xv, xc⟩, xvv, xcv⟩ := x
        obtain ⟨vo, vc, e1⟩ := RowAt.form okx.vals
        obtain ⟨co, cc, e2⟩ := RowAt.form okx.code
        simp only at *
        subst e1
        subst e2
        have hmw : mb < wr.heap.size := Nat.lt_of_lt_of_le hmb (uh HKX).size
        replace q0 := ((uh HKX).cell hmb id).trans q0
        replace q1 := ((uh HKX).cell hmb id).trans q1
        replace q2 := ((uh HKX).cell hmb id).trans q2
        replace q3 := ((uh HKX).cell hmb id).trans q3
        have i1 : (k : Int) < (L.length : Int) := by omega
        have HQ := hide (fun (W2 : World) (h : Keeps (fun _ => False) wr W2) => did_v S _ _ (.slice vo xv.length vc) (.slice co xc.length cc) R1 R2 ⟨xk, xkey, xv, xc⟩ W2 ((uh HSW).keepF ((uh HKX).trans h)) ((uh HVO).keepF h) (okx.vals.keepF ((uh HKX).trans h)) (okx.code.keepF ((uh HKX).trans h)) c3 c2)
        simp only at HQ
        generalize didA S (R1, R2) ⟨xk, xkey, xv, xc⟩ = DR at *
        obtain ⟨D1, D2⟩ := DR
        simp only at HQ
        clear okx hmc hxm hx c2 c3 HFO HVO HXM
        go_wp2_with fail
        go_region_law (first
         | (rw [if_pos (by rfl)]; go_simp; go_at_call 61; refine ((uh HQ) _ (Keeps.refl _ _).drew).mono ?_; rintro e w5 ⟨to, tc, rfl, hv3, hk3⟩; have hk4 := (Keeps.refl (fun _ => False) wr).drew.trans hk3; have xo := blk_keep (uh HBO) hk4; have f0 := frozen_of_blk xo 0; have f1 := frozen_of_blk xo 1; have a0 := (cell_of_blk xo 0).trans rfl; have a1 := (cell_of_blk xo 1).trans rfl; have HV3 := hide hv3; have HK3 := hide hk4; have HXO := hide xo; clear hv3 hk3 hk4 xo))
        all_goals
         obtain ⟨Z, hZ, hzo, kZ⟩ : ∃ Z, (w5.setCell ⟨w2.heap.size, 0, none⟩ (.bool D1)).setCell ⟨w2.heap.size, 1, none⟩ (.slice to D2.length tc) = Z ∧ Z.heap[w2.heap.size]? = some (.cells #[.bool D1, .slice to D2.length tc] 28 (0, 0)) ∧ Keeps (fun q => q = w2.heap.size) w5 Z := ⟨_, rfl, heap_setCell_at (o := 1) (heap_setCell_at (o := 0) (uh HXO) _) _, keeps_set2 _ _ _ _⟩
         have x0 := blk_keep (uh HY0) (uh HK3)
         have x2 := blk_keep (uh HY2) (uh HK3)
         have HZ0 := hide ((kZ.block _ (lt_of_block x0) (by omega)).trans x0)
         have HZ2 := hide ((kZ.block _ (lt_of_block x2) (by omega)).trans x2)
         have HZO := hide hzo
         have HZV := hide (vals_off (uh HV3) (uh HXO) (off2 (by simp)) kZ)
         have HKZ := hide (((uh HKX).trans (uh HK3)).fresh hbo kZ)
         try rw [hZ]
         clear x0 x2 hzo kZ HQ
         go_wp2_with fail
         go_roundw
         case rel => exact ⟨k + 1, D1, D2, to, tc, by omega, by go_num, uh HFN, uh HZO, uh HZV, uh HZ0, uh HZ2, uh HKZ⟩
         case measure => simp [intOf]; omega
       ·have i1 : ¬ (k : Int) < (L.length : Int) := by omega
        have HRS : Hid (AA = ⟨0, R1, R2, 0, 0⟩) := by
         show _ = _
         rw [uh HAE]
         have : foldA S (hh, vals) (L.map MsgC.m) = (R1, R2) := by rw [← uh HFO, List.take_of_length_le (by simp; omega)]
         rw [this]
        have y0 : wr.cell? ⟨w.heap.size + 1 + 1, 0, none⟩ = some (.bool false) := (cell_of_blk (uh HY2) _).trans rfl
        have y1 : wr.cell? ⟨w.heap.size + 1 + 1, 1, none⟩ = some (.slice none 0 0) := (cell_of_blk (uh HY2) _).trans rfl
        have z0 := frozen_of_blk (uh HY2) 0
        have z1 := frozen_of_blk (uh HY2) 1
        obtain ⟨s0, s1⟩ := set2c (uh HY2) (.bool R1) (.slice ro R2.length rc)
        have k2 := keeps_set2 wr (w.heap.size + 1 + 1) (.bool R1) (.slice ro R2.length rc)
        have HV := hide (vals_off (uh HVO) (uh HY2) (off2 (by simp)) k2)
        have HK := hide (((uh HKW).trans (uh HKX)).fresh (by omega) k2)
        clear k2 HAE HFO HALL
        go_wp2_with fail
        refine bodyPost_ret (v := .tuple #[.agg #[.bool R1, .slice ro R2.length rc], .int .i64 0]) (by simp [results, go_sem, s0, s1]) rfl ?_
        rw [uh HRS]
        exact ⟨ro, rc, rfl, uh HV, uh HK⟩
    ·have HAE : Hid (AA = ⟨61, false, [], 0, 0⟩) := by show _ = _; rw [uh HAA, uh HAP, hre, if_pos (by decide)]
     subst hre
     clear HAA HAP HR2 HALL
     go_wp2_with fail
     refine (uh HQR).mono ?_
     rintro e w2 ⟨rfl, hk2⟩
     have hb2 := blk_keep (uh HB2) hk2
     clear HQR
     have y0 : w2.cell? ⟨w.heap.size + 1 + 1, 0, none⟩ = some (.bool false) := (cell_of_blk hb2 _).trans rfl
     have y1 : w2.cell? ⟨w.heap.size + 1 + 1, 1, none⟩ = some (.slice none 0 0) := (cell_of_blk hb2 _).trans rfl
     have z0 := frozen_of_blk hb2 0
     have z1 := frozen_of_blk hb2 1
     obtain ⟨s0, s1⟩ := set2c hb2 (.bool false) (.slice none 0 0)
     have HK := hide ((((uh HKW).trans (uh HKX)).trans hk2).fresh (by omega) (keeps_set2 w2 (w.heap.size + 1 + 1) (.bool false) (.slice none 0 0)))
     go_wp2_with fail
     refine bodyPost_ret (v := .tuple #[.agg #[.bool false, .slice none 0 0], .int .i64 61]) (by simp [results, go_sem, s0, s1]) rfl ?_
     rw [uh HAE]
     exact ⟨none, 0, rfl, nil_vals _, uh HK⟩
 ·have h60 : errS S = 60 := (errS_two S).resolve_left hes
  have HAE : Hid (AA = ⟨60, false, [], 0, 0⟩) := by
   show _ = _
   have he : applyE S hh vals (L.map MsgC.m) = 60 := by unfold applyE; rw [h60, if_pos (by decide)]
   rw [uh HAA, he, if_pos (by decide)]
  rw [h60] at HQ
  clear HAA h60 hes
  go_enter Tryz.func31, Tryz.ntmps31
  go_wp2_with fail
  refine (uh HQ).mono ?_
  rintro e w2 ⟨rfl, hk2⟩
  have hb2 := blk_keep (uh G2) hk2
  clear HQ
  have y0 : w2.cell? ⟨w.heap.size + 1 + 1, 0, none⟩ = some (.bool false) := (cell_of_blk hb2 _).trans rfl
  have y1 : w2.cell? ⟨w.heap.size + 1 + 1, 1, none⟩ = some (.slice none 0 0) := (cell_of_blk hb2 _).trans rfl
  have z0 := frozen_of_blk hb2 0
  have z1 := frozen_of_blk hb2 1
  obtain ⟨s0, s1⟩ := set2c hb2 (.bool false) (.slice none 0 0)
  have HK := hide (((uh HKW).trans hk2).fresh (by omega) (keeps_set2 w2 (w.heap.size + 1 + 1) (.bool false) (.slice none 0 0)))
  go_wp2_with fail
  refine bodyPost_ret (v := .tuple #[.agg #[.bool false, .slice none 0 0], .int .i64 60]) (by simp [results, go_sem, s0, s1]) rfl ?_
  rw [uh HAE]
  exact ⟨none, 0, rfl, nil_vals _, uh HK⟩
end Go.Proofs.YtbokbdcjpbnodaaGreatDoor
namespace Go.Proofs.YtbokbdcjpbnodaaGreatDoor
open Go.RowKit Go.Maps
set_option maxRecDepth 100000
set_option maxHeartbeats 2000000
theorem may_v (S : List FieldA) (sv u vm : Value) (hh : Bool) (vals : List ValA) (L : List MsgC) (w : World) (hS : FldsAt w sv S) (hr : ValsAt w u vals) (hm : MsgsAt w vm L) (hL : L.length ≤ 4398046511104) (hVL : vals.length ≤ 4398046511104) :
  Calls Tryz.prog 26 #[.agg #[sv], .agg #[.bool hh, u], vm] w fun e w' => e = .returned (.bool (decide ((applyA S hh vals (L.map MsgC.m)).e = 0))) ∧ Keeps (fun _ => False) w w' := by
 obtain ⟨so, sc, rfl⟩ := RowAt.form hS
 obtain ⟨uo, uc, rfl⟩ := RowAt.form hr
 obtain ⟨mo, mc, rfl⟩ := RowAt.form hm.row
 obtain ⟨X0, hX0, hkW, g0, g1⟩ := boxes2 w #[.slice so S.length sc] #[.bool hh, .slice uo vals.length uc] 24 28
 have HK := hide hkW
 have c0 := cl1 g0
 obtain ⟨c1, c2⟩ := cl2 g1
 have HQ := hide (applyAllR_v S _ _ _ hh vals L X0 (hS.keepF hkW) (hr.keepF hkW) (hm.keepF hkW) hL hVL)
 generalize applyA S hh vals (L.map MsgC.m) = AO at *
 clear hS hr hm hkW g0 g1
 go_enter Tryz.func26, Tryz.ntmps26
 go_wp2_with fail
 refine (uh HQ).mono ?_
 rintro e w4 ⟨ho, hc, rfl, hv4, hk⟩
 have HK2 := hide ((uh HK).trans (hk.trans (kAlloc w4 (.cells #[.bool AO.here, .slice ho AO.vals.length hc] 28))))
 clear HQ hv4 hk
 go_wp2_with fail
 go_ret
 exact ⟨rfl, uh HK2⟩
end Go.Proofs.YtbokbdcjpbnodaaGreatDoor
