import Derived.Test.YtklkhegeeglfbaaGreatDoorJzak
import Derived.Test.YtklkhegeeglfbaaGreatDoorJzaj
import Derived.Deep.DeepCutAuto
namespace Go.Proofs.YtklkhegeeglfbaaGreatDoor
open Go.RowKit Go.Maps

theorem vals_of {w : World} {B n : Nat} {v : Value} {l : List ValA} (h : w.ownsRow B 40 3 v n (vcs l)) (hn : l.length = n) : ValsAt w v l := by
  subst hn
  exact rowAt_own h
theorem byts_of {w : World} {B n : Nat} {v : Value} {l : Txt} (h : w.ownsRow B 5 1 v n (bs l)) (hn : l.length = n) : BytesAt w v l := by
  subst hn
  exact rowAt_own h

set_option maxRecDepth 100000 in
set_option maxHeartbeats 8000000 in
/-- stale: no call of the package sees what stood in a list ahead of it. -/
theorem stale_v (w : World) (S : List FieldA) (sv vv nv bv : Value) (V N : List ValA) (b t s : Txt) (hR : RightA S V N b t s) (hE : Env w) (hS : FldsAt w sv S) (hV : ValsAt w vv V) (hN : ValsAt w nv N) (hb : BytesAt w bv b) :
    Calls Tryz.prog 29 #[.agg #[sv], vv, nv, bv] w fun e w' => e = .returned (.bool true) ∧ Keeps (fun _ => False) w w' := by
  obtain ⟨so, sc, rfl⟩ := hS.form
  obtain ⟨vo, vc, rfl⟩ : ∃ vo vc, vv = .slice vo S.length vc := by
    obtain ⟨vo, vc, rfl⟩ := hV.form
    exact ⟨vo, vc, by rw [hR.nV]⟩
  obtain ⟨no, nc, rfl⟩ : ∃ no nc, nv = .slice no S.length nc := by
    obtain ⟨no, nc, rfl⟩ := hN.form
    exact ⟨no, nc, by rw [hR.nN]⟩
  obtain ⟨bo, bc, rfl⟩ := hb.form
  have hK := (Keeps.refl (fun _ => False) w).alloc (.cells #[.slice so S.length sc] 26)
  have HKB := hide hK
  have A0 : Hid (Amb (w.alloc (.cells #[.slice so S.length sc] 26)) w.heap.size (.slice so S.length sc) S (.slice vo S.length vc) V (.slice no S.length nc) N (.slice bo b.length bc) b) := ⟨by rw [cell_of_blk (heap_alloc_new _ _)]; rfl, by simp, hE.keepF hK, hS.keepF hK, hV.keepF hK, hN.keepF hK, hb.keepF hK⟩
  have HR := hide hR
  have n1 := hR.n1
  have n8 := hR.n8
  have nb := hR.nb
  clear hE hS hV hN hb hR hK
  obtain ⟨b0, off0, c0, e0, hb0, hc0⟩ := (unhide A0).nons.cells (by rw [(unhide HR).nN]; omega)
  simp only [Value.slice.injEq] at e0
  obtain ⟨rfl, -⟩ := e0
  have HC0 := hide (And.intro hb0 hc0)
  have Q1 := hide (copyVals_any (w.alloc (.cells #[.slice so S.length sc] 26)) (.slice vo S.length vc) V (unhide A0).vals (by rw [(unhide HR).nV]; omega))
  rw [(unhide HR).nV] at Q1
  have J0 := hide (Keeps.refl (fun _ => False) (w.alloc (.cells #[.slice so S.length sc] 26)))
  clear hb0 hc0
  go_enter Tryz.func29, Tryz.ntmps29
  go_wp2_with fail
  generalize (w.alloc (.cells #[.slice so S.length sc] 26)) = w0 at *
  generalize w.heap.size = sb at *
  have c0 := (unhide A0).cell
  have z0 := (unhide A0).lt
  refine (unhide Q1).mono ?_
  rintro e w1 ⟨lv, rfl, ho1, hk1⟩
  have A1 := hide ((unhide A0).keepF hk1)
  have J1 := hide ((unhide J0).trans hk1)
  have c1 := (unhide A1).cell
  have z1 := (unhide A1).lt
  obtain ⟨lg, lc, rfl, hlg⟩ : ∃ lg lc, lv = (.slice (some ⟨lg, 0, none⟩) S.length lc) ∧ w0.heap.size ≤ lg := by
    obtain ⟨g, c, e, _⟩ := ho1.form (by omega)
    subst e
    exact ⟨g, c, rfl, own_geO ho1 rfl⟩
  have L1 := hide ho1
  clear ho1
  have Q2 := hide (val_encode S _ V _ _ (unhide A1).env.types (unhide A1).flds (vals_of (unhide L1) (unhide HR).nV) (unhide HR).inV)
  rw [(unhide HR).errV, (unhide HR).encV] at Q2
  clear hk1 Q1 c0 z0
  go_wp2_with fail
  refine (unhide Q2).mono ?_
  rintro e w2 ⟨av, rfl, ho2, hk2⟩
  have A2 := hide ((unhide A1).keepF hk2)
  have J2 := hide ((unhide J1).trans hk2)
  have c2 := (unhide A2).cell
  have z2 := (unhide A2).lt
  obtain ⟨ao, ac, rfl⟩ := (rowAt_own ho2).form
  have L2 := hide (own_keepF (unhide L1) hk2)
  have F2 := hide ho2
  clear ho2 L1
  have Q3 := hide (vv_print S _ V _ _ (unhide A2).env (unhide A2).flds (vals_of (unhide L2) (unhide HR).nV) (unhide HR).inV)
  rw [(unhide HR).errV] at Q3
  clear hk2 Q2 c1 z1
  go_wp2_with fail
  refine (unhide Q3).mono ?_
  rintro e w3 ⟨rfl, hk3⟩
  have A3 := hide ((unhide A2).keepF hk3)
  have J3 := hide ((unhide J2).trans hk3)
  have c3 := (unhide A3).cell
  have z3 := (unhide A3).lt
  have L3 := hide (own_keepF (unhide L2) hk3)
  have F3 := hide (own_keepF (unhide F2) hk3)
  clear L2 F2
  have Q4 := hide (copyBytes_any _ _ b (byts_of (unhide F3) rfl) (by omega))
  clear hk3 Q3 c2 z2
  go_wp2_with fail
  refine (unhide Q4).mono ?_
  rintro e w4 ⟨fv, rfl, ho4, hk4⟩
  have A4 := hide ((unhide A3).keepF hk4)
  have J4 := hide ((unhide J3).trans hk4)
  have c4 := (unhide A4).cell
  have z4 := (unhide A4).lt
  obtain ⟨fo, fc, rfl⟩ := (rowAt_own ho4).form
  have L4 := hide (own_keepF (unhide L3) hk4)
  have F4 := hide (own_keepF (unhide F3) hk4)
  have G4 := hide ho4
  clear ho4 L3 F3
  have Q5 := hide (val_check S _ V _ _ (unhide A4).env.types (unhide A4).flds (vals_of (unhide L4) (unhide HR).nV))
  rw [(unhide HR).errV] at Q5
  clear hk4 Q4 c3 z3
  go_wp2_with fail
  refine (unhide Q5).mono ?_
  rintro e w5 ⟨rfl, hk5⟩
  have A5 := hide ((unhide A4).keepF hk5)
  have J5 := hide ((unhide J4).trans hk5)
  have c5 := (unhide A5).cell
  have z5 := (unhide A5).lt
  have L5 := hide (own_keepF (unhide L4) hk5)
  have F5 := hide (own_keepF (unhide F4) hk5)
  have G5 := hide (own_keepF (unhide G4) hk5)
  clear L4 F4 G4
  clear hk5 Q5 c4 z4
  go_wp2_with fail
  go_loopw [16] (fun iv wr => ∃ i : Nat, i ≤ S.length ∧ iv = .int .i64 i ∧ Hid (wr.ownsRow w0.heap.size 40 3 (.slice (some ⟨lg, 0, none⟩) S.length lc) S.length (vcs (overN N V i))) ∧ Hid (Keeps (fun q => q = lg) w5 wr)) (fun iv _ => S.length - (intOf iv).toNat)
  case atStart => exact ⟨0, Nat.zero_le _, rfl, by rw [overN_zero]; exact L5, Keeps.refl _ _⟩
  case round =>
    obtain ⟨i, hi, rfl, HL, HKL⟩ := hrel
    have hkw := narrowO (unhide J5) (unhide HKL) (fun q e => by rw [e]; exact hlg)
    have HJ := hide hkw
    have A6 := hide ((unhide A0).keepF hkw)
    by_cases hlt : i < S.length
    · have i1 : (i : Int) < (S.length : Int) := by omega
      have i0 : (0 : Int) ≤ (i : Int) := by omega
      obtain ⟨x, hx⟩ : ∃ x, N[i]? = some x := ⟨_, List.getElem?_eq_getElem (by rw [(unhide HR).nN]; exact hlt)⟩
      have d0 := (hkw.cell (unhide HC0).1 id).trans ((unhide HC0).2 i x hx).1
      have d1 := (hkw.cell (unhide HC0).1 id).trans ((unhide HC0).2 i x hx).2.1
      have d2 := (hkw.cell (unhide HC0).1 id).trans ((unhide HC0).2 i x hx).2.2
      obtain ⟨⟨v0, g0⟩, f0⟩ := own_open (unhide HL) (j := i * 3) (by omega)
      obtain ⟨⟨v1, g1⟩, f1⟩ := own_open (unhide HL) (j := i * 3 + 1) (by omega)
      obtain ⟨⟨v2, g2⟩, f2⟩ := own_open (unhide HL) (j := i * 3 + 2) (by omega)
      have HPUT := hide (own_set3 (unhide HL) i x)
      rw [overN_set (by rw [(unhide HR).nN, (unhide HR).nV]) (by rw [(unhide HR).nV]; exact hlt) hx] at HPUT
      have HKP := hide ((unhide HKL).trans (keeps_put3 wr lg (i * 3) (i * 3 + 1) (i * 3 + 2) (.int .i64 x.kind) (.int .i64 x.n) (str x.s)))
      clear hx hkw HL HKL A6
      go_wp2_with fail
      go_roundw
      case rel => exact ⟨i + 1, by omega, by go_num, HPUT, HKP⟩
      case measure => simp [intOf]; omega
    · obtain rfl : i = S.length := by omega
      have i1 : ¬ (S.length : Int) < (S.length : Int) := by omega
      have hL6 := unhide HL
      rw [show overN N V S.length = N by rw [← (unhide HR).nV]; exact overN_end (by rw [(unhide HR).nN, (unhide HR).nV])] at hL6
      have L6 := hide hL6
      have F6 := hide (ownsRow_kept (unhide F5) (unhide HKL) (fun q e f => own_apart (unhide L5) (unhide F5) (by decide) q (by rw [f]; rfl) e))
      have G6 := hide (ownsRow_kept (unhide G5) (unhide HKL) (fun q e f => own_apart (unhide L5) (unhide G5) (by decide) q (by rw [f]; rfl) e))
      have J6 := HJ
      have c6 := (unhide A6).cell
      have z6 := (unhide A6).lt
      clear HL HKL hkw hL6 L5 F5 G5 A5 J5 HC0 HJ c5 z5 hi
      obtain ⟨w6, hw6⟩ : ∃ W, W = wr := ⟨_, rfl⟩
      subst hw6
      have Q7 := hide (val_encode S _ N _ _ (unhide A6).env.types (unhide A6).flds (vals_of (unhide L6) (unhide HR).nN) (unhide HR).inN)
      rw [(unhide HR).errN] at Q7
      go_wp2_with fail
      refine (unhide Q7).mono ?_
      rintro e w7 ⟨rv, rfl, ho7, hk7⟩
      have A7 := hide ((unhide A6).keepF hk7)
      have J7 := hide ((unhide J6).trans hk7)
      have c7 := (unhide A7).cell
      have z7 := (unhide A7).lt
      have L7 := hide (own_keepF (unhide L6) hk7)
      have F7 := hide (own_keepF (unhide F6) hk7)
      have G7 := hide (own_keepF (unhide G6) hk7)
      clear L6 F6 G6
      obtain ⟨ro, rc, rfl⟩ := (rowAt_own ho7).form
      have H7 := hide ho7
      clear ho7
      have Q8 := hide (vv_print S _ N _ _ (unhide A7).env (unhide A7).flds (vals_of (unhide L7) (unhide HR).nN) (unhide HR).inN)
      rw [(unhide HR).errN] at Q8
      clear hk7 Q7 c6 z6
      go_wp2_with fail
      refine (unhide Q8).mono ?_
      rintro e w8 ⟨rfl, hk8⟩
      have A8 := hide ((unhide A7).keepF hk8)
      have J8 := hide ((unhide J7).trans hk8)
      have c8 := (unhide A8).cell
      have z8 := (unhide A8).lt
      have L8 := hide (own_keepF (unhide L7) hk8)
      have F8 := hide (own_keepF (unhide F7) hk8)
      have G8 := hide (own_keepF (unhide G7) hk8)
      have H8 := hide (own_keepF (unhide H7) hk8)
      clear L7 F7 G7 H7
      clear hk8 Q8 c7 z7
      go_upto_region 12 with fail
      go_cut [21, 22] from 83 to 89 (fun bv fv wx => fv = .int .i64 0 ∧ ∃ co cc, bv = .slice co (encodeB S N).length cc ∧ wx.ownsRow 0 5 1 (.slice co (encodeB S N).length cc) (encodeB S N).length (bs (encodeB S N)) ∧ Keeps (fun _ => False) w8 wx)
      case first =>
        have hkd := (Keeps.refl (fun _ => False) w8).drew
        have Ad := hide ((unhide A8).keepF hkd)
        have HD := hide hkd
        have QA := hide (copyVals_any _ (.slice (some ⟨b0, off0, none⟩) S.length nc) N (unhide Ad).nons (by rw [(unhide HR).nN]; omega))
        have cd := (unhide Ad).cell
        have zd := (unhide Ad).lt
        clear hkd
        go_region_law (first
          | (go_simp
             refine (unhide QA).mono ?_
             rintro e y1 ⟨cv, rfl, ho, hk⟩
             have B1 := hide ((unhide Ad).keepF hk)
             have cb := (unhide B1).cell
             have zb := (unhide B1).lt
             have HO := hide ho
             clear ho
             have QB := hide (val_encode S _ N _ _ (unhide B1).env.types (unhide B1).flds (vals_of (unhide HO) rfl) (unhide HR).inN)
             rw [(unhide HR).errN] at QB
             have HK1 := hide hk
             clear hk HO
             dsimp only)
          | (go_simp
             refine (unhide QB).mono ?_
             rintro e y2 ⟨rv2, rfl, ho2, hk2⟩
             obtain ⟨co, cc, rfl⟩ := (rowAt_own ho2).form
             have HO2 := hide ho2
             have HK2 := hide hk2
             clear ho2 hk2
             dsimp only))
        all_goals (go_wp2_with fail; go_meet; exact ⟨rfl, co, cc, rfl, ownsRow_low (unhide HO2) (Nat.zero_le _), (unhide HD).trans ((unhide HK1).trans (unhide HK2))⟩)
      case rest =>
        obtain ⟨rfl, co, cc, rfl, ho9, hk9⟩ := hcut
        obtain ⟨w9, hw9⟩ : ∃ W, W = wc := ⟨_, rfl⟩
        subst hw9
        have A9 := hide ((unhide A8).keepF hk9)
        have J9 := hide ((unhide J8).trans hk9)
        have c9 := (unhide A9).cell
        have z9 := (unhide A9).lt
        have L9 := hide (own_keepF (unhide L8) hk9)
        have F9 := hide (own_keepF (unhide F8) hk9)
        have G9 := hide (own_keepF (unhide G8) hk9)
        have H9 := hide (own_keepF (unhide H8) hk9)
        clear L8 F8 G8 H8
        have I9 := hide ho9
        clear ho9
        clear hk9 c8 z8
        go_upto_region 13 with fail
        go_cut [23, 24] from 90 to 96 (fun tv fv wx => tv = str (printB S N) ∧ fv = .int .i64 0 ∧ Keeps (fun _ => False) w9 wx)
        case first =>
          have hkd := (Keeps.refl (fun _ => False) w9).drew
          have Ad := hide ((unhide A9).keepF hkd)
          have HD := hide hkd
          have QA := hide (copyVals_any _ (.slice (some ⟨b0, off0, none⟩) S.length nc) N (unhide Ad).nons (by rw [(unhide HR).nN]; omega))
          have cd := (unhide Ad).cell
          have zd := (unhide Ad).lt
          clear hkd
          go_region_law (first
            | (go_simp
               refine (unhide QA).mono ?_
               rintro e y1 ⟨cv, rfl, ho, hk⟩
               have B1 := hide ((unhide Ad).keepF hk)
               have cb := (unhide B1).cell
               have zb := (unhide B1).lt
               have HO := hide ho
               clear ho
               have QB := hide (vv_print S _ N _ _ (unhide B1).env (unhide B1).flds (vals_of (unhide HO) rfl) (unhide HR).inN)
               rw [(unhide HR).errN] at QB
               have HK1 := hide hk
               clear hk HO
               dsimp only)
            | (go_simp
               refine (unhide QB).mono ?_
               rintro e y2 ⟨rfl, hk2⟩
               have HK2 := hide hk2
               clear hk2
               dsimp only))
          all_goals (go_wp2_with fail; go_meet; exact ⟨rfl, rfl, (unhide HD).trans ((unhide HK1).trans (unhide HK2))⟩)
        case rest =>
          obtain ⟨rfl, rfl, hk10⟩ := hcut
          obtain ⟨w10, hw10⟩ : ∃ W, W = wc := ⟨_, rfl⟩
          subst hw10
          have A10 := hide ((unhide A9).keepF hk10)
          have J10 := hide ((unhide J9).trans hk10)
          have c10 := (unhide A10).cell
          have z10 := (unhide A10).lt
          have L10 := hide (own_keepF (unhide L9) hk10)
          have F10 := hide (own_keepF (unhide F9) hk10)
          have G10 := hide (own_keepF (unhide G9) hk10)
          have H10 := hide (own_keepF (unhide H9) hk10)
          have I10 := hide (own_keepF (unhide I9) hk10)
          clear L9 F9 G9 H9 I9
          clear hk10 c9 z9
          go_upto_region 14 with fail
          go_cut [25, 26] from 97 to 103 (fun tv fv wx => tv = str (printB S V) ∧ fv = .int .i64 0 ∧ Keeps (fun _ => False) w10 wx)
          case first =>
            have hkd := (Keeps.refl (fun _ => False) w10).drew
            have Ad := hide ((unhide A10).keepF hkd)
            have HD := hide hkd
            have QA := hide (copyVals_any _ (.slice vo S.length vc) V (unhide Ad).vals (by rw [(unhide HR).nV]; omega))
            have cd := (unhide Ad).cell
            have zd := (unhide Ad).lt
            clear hkd
            go_region_law (first
              | (go_simp
                 refine (unhide QA).mono ?_
                 rintro e y1 ⟨cv, rfl, ho, hk⟩
                 have B1 := hide ((unhide Ad).keepF hk)
                 have cb := (unhide B1).cell
                 have zb := (unhide B1).lt
                 have HO := hide ho
                 clear ho
                 have QB := hide (vv_print S _ V _ _ (unhide B1).env (unhide B1).flds (vals_of (unhide HO) rfl) (unhide HR).inV)
                 rw [(unhide HR).errV] at QB
                 have HK1 := hide hk
                 clear hk HO
                 dsimp only)
              | (go_simp
                 refine (unhide QB).mono ?_
                 rintro e y2 ⟨rfl, hk2⟩
                 have HK2 := hide hk2
                 clear hk2
                 dsimp only))
            all_goals (go_wp2_with fail; go_meet; exact ⟨rfl, rfl, (unhide HD).trans ((unhide HK1).trans (unhide HK2))⟩)
          case rest =>
            obtain ⟨rfl, rfl, hk11⟩ := hcut
            obtain ⟨w11, hw11⟩ : ∃ W, W = wc := ⟨_, rfl⟩
            subst hw11
            have A11 := hide ((unhide A10).keepF hk11)
            have J11 := hide ((unhide J10).trans hk11)
            have c11 := (unhide A11).cell
            have z11 := (unhide A11).lt
            have L11 := hide (own_keepF (unhide L10) hk11)
            have F11 := hide (own_keepF (unhide F10) hk11)
            have G11 := hide (own_keepF (unhide G10) hk11)
            have H11 := hide (own_keepF (unhide H10) hk11)
            have I11 := hide (own_keepF (unhide I10) hk11)
            clear L10 F10 G10 H10 I10
            clear hk11 c10 z10
            have Q12 := hide (eqBytes_same _ _ _ b (byts_of (unhide F11) rfl) (byts_of (unhide G11) rfl) (by omega))
            go_wp2_with fail
            refine (unhide Q12).mono ?_
            rintro e w12 ⟨rfl, hk12⟩
            have A12 := hide ((unhide A11).keepF hk12)
            have J12 := hide ((unhide J11).trans hk12)
            have c12 := (unhide A12).cell
            have z12 := (unhide A12).lt
            have L12 := hide (own_keepF (unhide L11) hk12)
            have H12 := hide (own_keepF (unhide H11) hk12)
            have I12 := hide (own_keepF (unhide I11) hk12)
            clear L11 H11 I11
            have Q13 := hide (eqBytes_same _ _ _ (encodeB S N) (byts_of (unhide H12) rfl) (byts_of (unhide I12) rfl) (by have := (unhide HR).nz; omega))
            clear hk12 Q12 c11 z11
            have i2 : (0 : Int) < (S.length : Int) := by omega
            go_wp2_with fail
            refine (unhide Q13).mono ?_
            rintro e w13 ⟨rfl, hk13⟩
            have A13 := hide ((unhide A12).keepF hk13)
            have J13 := hide ((unhide J12).trans hk13)
            have c13 := (unhide A13).cell
            have z13 := (unhide A13).lt
            have L13 := hide (own_keepF (unhide L12) hk13)
            clear L12 H12 I12 hk13 Q13 c12 z12
            obtain ⟨⟨v0, g0⟩, f0⟩ := own_open (unhide L13) (j := 0) (by omega)
            obtain ⟨⟨v1, g1⟩, f1⟩ := own_open (unhide L13) (j := 1) (by omega)
            obtain ⟨⟨v2, g2⟩, f2⟩ := own_open (unhide L13) (j := 2) (by omega)
            have hp := own_set3 (unhide L13) 0 ⟨9, 0, []⟩
            have hkp := keeps_put3 w13 lg 0 1 2 (.int .i64 9) (.int .i64 0) (.string ⟨#[]⟩)
            simp only [Nat.zero_mul, Nat.zero_add] at hp
            have hkw := narrowO (unhide J13) hkp (fun q e => by rw [e]; exact hlg)
            have A13s := hide ((unhide A0).keepF hkw)
            have J13s := hide hkw
            have L13s := hide hp
            have c13s := (unhide A13s).cell
            have z13s := (unhide A13s).lt
            have Q14 := hide (val_check S _ (N.set 0 ⟨9, 0, []⟩) _ _ (unhide A13s).env.types (unhide A13s).flds (vals_of (unhide L13s) (by rw [List.length_set]; exact (unhide HR).nN)))
            obtain ⟨E, hE⟩ : ∃ E, E = errR S (N.set 0 ⟨9, 0, []⟩) := ⟨_, rfl⟩
            rw [← hE] at Q14
            have HEE := hide hE
            clear hp hkp hkw hE L13 A13 J13 c13 z13
            go_wp2_with fail
            refine (unhide Q14).mono ?_
            rintro e w14 ⟨rfl, hk14⟩
            have A14 := hide ((unhide A13s).keepF hk14)
            have J14 := hide ((unhide J13s).trans hk14)
            have c14 := (unhide A14).cell
            have z14 := (unhide A14).lt
            have L14 := hide (own_keepF (unhide L13s) hk14)
            clear hk14 Q14 L13s A13s J13s c13s z13s
            go_upto_region 19 with fail
            go_cut [29] from 140 to 145 (fun bv wx => bv = .bool true ∧ Keeps (fun _ => False) w14 wx)
            case first =>
              have hkd := (Keeps.refl (fun _ => False) w14).drew
              have Ad := hide ((unhide A14).keepF hkd)
              have HD := hide hkd
              have QA := hide (copyVals_any _ (.slice (some ⟨lg, 0, none⟩) S.length lc) (N.set 0 ⟨9, 0, []⟩) (vals_of (own_keepF (unhide L14) hkd) (by rw [List.length_set]; exact (unhide HR).nN)) (by rw [List.length_set, (unhide HR).nN]; omega))
              have cd := (unhide Ad).cell
              have zd := (unhide Ad).lt
              clear hkd
              go_region_law (first
                | (go_simp
                   refine (unhide QA).mono ?_
                   rintro e y1 ⟨cv, rfl, ho, hk⟩
                   have B1 := hide ((unhide Ad).keepF hk)
                   have cb := (unhide B1).cell
                   have zb := (unhide B1).lt
                   have HO := hide ho
                   clear ho
                   have QB := hide (val_check S _ (N.set 0 ⟨9, 0, []⟩) _ _ (unhide B1).env.types (unhide B1).flds (vals_of (unhide HO) rfl))
                   rw [← unhide HEE] at QB
                   have HK1 := hide hk
                   clear hk HO
                   dsimp only)
                | (go_simp
                   refine (unhide QB).mono ?_
                   rintro e y2 ⟨rfl, hk2⟩
                   have HK2 := hide hk2
                   clear hk2
                   dsimp only))
              all_goals (go_wp2_with fail; go_meet; exact ⟨rfl, (unhide HD).trans ((unhide HK1).trans (unhide HK2))⟩)
            case rest =>
              obtain ⟨rfl, hk15⟩ := hcut
              obtain ⟨w15, hw15⟩ : ∃ W, W = wc := ⟨_, rfl⟩
              subst hw15
              have A15 := hide ((unhide A14).keepF hk15)
              have J15 := hide ((unhide J14).trans hk15)
              have c15 := (unhide A15).cell
              have z15 := (unhide A15).lt
              clear L14
              clear hk15 c14 z14
              have Q16 := hide (copyBytes_any _ (.slice bo b.length bc) b (unhide A15).byts (by omega))
              go_wp2_with fail
              refine (unhide Q16).mono ?_
              rintro e w16 ⟨rv, rfl, ho16, hk16⟩
              have A16 := hide ((unhide A15).keepF hk16)
              have J16 := hide ((unhide J15).trans hk16)
              have c16 := (unhide A16).cell
              have z16 := (unhide A16).lt
              obtain ⟨ro, rc, rfl⟩ := (rowAt_own ho16).form
              have R16 := hide ho16
              have B16 : Hid (w0.heap.size ≤ w15.heap.size) := (unhide J15).size
              clear ho16
              have Q17 := hide (vv_decode S _ b _ _ _ (unhide A16).env (unhide A16).flds (unhide R16) (by omega))
              rw [(unhide HR).decV] at Q17
              clear hk16 Q16 c15 z15
              go_wp2_with fail
              refine (unhide Q17).mono ?_
              rintro e w17 ⟨dv, rfl, ho17, hk17⟩
              have A17 := hide ((unhide A16).keepF hk17)
              have J17 := hide ((unhide J16).trans hk17)
              have c17 := (unhide A17).cell
              have z17 := (unhide A17).lt
              have R17 := hide (own_keepF (unhide R16) hk17)
              clear R16
              obtain ⟨do_, dc, rfl⟩ := (rowAt_own ho17).form
              have D17 := hide ho17
              clear ho17
              have Q18 := hide (copyVals_any _ _ V (vals_of (unhide D17) rfl) (by rw [(unhide HR).nV]; omega))
              clear hk17 Q17 c16 z16
              go_wp2_with fail
              refine (unhide Q18).mono ?_
              rintro e w18 ⟨kv, rfl, ho18, hk18⟩
              obtain ⟨ko, kc, rfl⟩ := (rowAt_own ho18).form
              have A18 := hide ((unhide A17).keepF hk18)
              have J18 := hide ((unhide J17).trans hk18)
              have c18 := (unhide A18).cell
              have z18 := (unhide A18).lt
              have K18 := hide ho18
              have R18 := hide (own_keepF (unhide R17) hk18)
              have D18 := hide (own_keepF (unhide D17) hk18)
              clear ho18 hk18 Q18 R17 D17 c17 z17
              by_cases hb0 : 0 < b.length
              · obtain ⟨rg, rfl, hrg⟩ : ∃ rg, ro = some ⟨rg, 0, none⟩ ∧ w15.heap.size ≤ rg := by
                  obtain ⟨g, c, e, _⟩ := (unhide R18).form hb0
                  simp at e
                  obtain ⟨rfl, rfl⟩ := e
                  exact ⟨g, rfl, own_geO (unhide R18) rfl⟩
                have i3 : (0 : Int) < (b.length : Int) := by omega
                have i4 : (0 : Int) ≤ (b.length : Int) - 1 := by omega
                have i5 : (b.length : Int) - 1 < (b.length : Int) := by omega
                have hm : ((b.length : Int) - 1).toNat = b.length - 1 := by omega
                obtain ⟨x, hx⟩ : ∃ x, b[b.length - 1]? = some x := ⟨_, List.getElem?_eq_getElem (by omega)⟩
                have d0 := own_at (unhide R18) (bs_at hx)
                obtain ⟨_, f0⟩ := own_open (unhide R18) (j := b.length - 1) (by omega)
                have hp := own_set1 (unhide R18) (b.length - 1) (x ^^^ 1)
                rw [← xor_num x] at hp
                have hkp := keeps_set w18 rg (b.length - 1) (.int .u8 (bits .xor .u8 (num x) 1))
                have hkw := narrowO (unhide J18) hkp (fun q e => by rw [e]; exact Nat.le_trans (unhide B16) hrg)
                have Az := hide ((unhide A0).keepF hkw)
                have Jz := hide hkw
                have cz := (unhide Az).cell
                have zz := (unhide Az).lt
                have Rz := hide hp
                have Dz := hide (ownsRow_kept (unhide D18) hkp (fun q e f => own_apart (unhide R18) (unhide D18) (by decide) q (by rw [f]; rfl) e))
                have Kz := hide (ownsRow_kept (unhide K18) hkp (fun q e f => own_apart (unhide R18) (unhide K18) (by decide) q (by rw [f]; rfl) e))
                have Tz : Hid ((b.set (b.length - 1) (x ^^^ 1)).length = b.length) := by show _ = _; rw [List.length_set]
                obtain ⟨T, hT⟩ : ∃ T, T = b.set (b.length - 1) (x ^^^ 1) := ⟨_, rfl⟩
                rw [← hT] at Rz Tz
                clear hT hp hkp hkw A18 J18 c18 z18 R18 D18 K18
                have Q19 := hide (vv_decode S _ T _ _ _ (unhide Az).env (unhide Az).flds (own_len (unhide Tz).symm (unhide Rz)) (by have := unhide Tz; omega))
                obtain ⟨X, hX⟩ : ∃ X, X = (decodeB S T).1 := ⟨_, rfl⟩
                obtain ⟨E2, hE2⟩ : ∃ E2, E2 = (decodeB S T).2 := ⟨_, rfl⟩
                have hXl : X.length ≤ 8 := by rw [hX]; exact decodeB_len _ _
                rw [← hX, ← hE2] at Q19
                have HXX := hide (And.intro hX hE2)
                clear hX hE2
                go_wp2_with fail
                refine (unhide Q19).mono ?_
                rintro e w19 ⟨xv, rfl, ho19, hk19⟩
                obtain ⟨xo, xc, rfl⟩ := (rowAt_own ho19).form
                have A19 := hide ((unhide Az).keepF hk19)
                have J19 := hide ((unhide Jz).trans hk19)
                have c19 := (unhide A19).cell
                have z19 := (unhide A19).lt
                have R19 := hide (own_keepF (unhide Rz) hk19)
                have D19 := hide (own_keepF (unhide Dz) hk19)
                have K19 := hide (own_keepF (unhide Kz) hk19)
                have X19 := hide ho19
                clear ho19 hk19 Q19 Rz Dz Kz Az Jz cz zz
                go_upto_region 26 with fail
                go_cut [36, 37] from 177 to 183 (fun yv ev wx => ev = .int .i64 E2 ∧ ∃ yo yc, yv = .slice yo X.length yc ∧ wx.ownsRow 0 40 3 (.slice yo X.length yc) X.length (vcs X) ∧ Keeps (fun _ => False) w19 wx)
                case first =>
                  have hkd := (Keeps.refl (fun _ => False) w19).drew
                  have Ad := hide ((unhide A19).keepF hkd)
                  have HD := hide hkd
                  have QA := hide (copyBytes_any _ _ T (byts_of (own_keepF (unhide R19) hkd) (unhide Tz)) (by have := unhide Tz; omega))
                  have cd := (unhide Ad).cell
                  have zd := (unhide Ad).lt
                  clear hkd
                  go_region_law (first
                    | (go_simp
                       refine (unhide QA).mono ?_
                       rintro e y1 ⟨cv, rfl, ho, hk⟩
                       have B1 := hide ((unhide Ad).keepF hk)
                       have cb := (unhide B1).cell
                       have zb := (unhide B1).lt
                       have QB := hide (vv_decode S _ T _ _ _ (unhide B1).env (unhide B1).flds ho (by have := unhide Tz; omega))
                       rw [← (unhide HXX).1, ← (unhide HXX).2] at QB
                       have HK1 := hide hk
                       clear hk ho
                       dsimp only)
                    | (go_simp
                       refine (unhide QB).mono ?_
                       rintro e y2 ⟨rv2, rfl, ho2, hk2⟩
                       obtain ⟨co, cc, rfl⟩ := (rowAt_own ho2).form
                       have HO2 := hide ho2
                       have HK2 := hide hk2
                       clear ho2 hk2
                       dsimp only))
                  all_goals (go_wp2_with fail; go_meet; exact ⟨rfl, co, cc, rfl, ownsRow_low (unhide HO2) (Nat.zero_le _), (unhide HD).trans ((unhide HK1).trans (unhide HK2))⟩)
                case rest =>
                  obtain ⟨rfl, yo, yc, rfl, ho20, hk20⟩ := hcut
                  obtain ⟨w20, hw20⟩ : ∃ W, W = wc := ⟨_, rfl⟩
                  subst hw20
                  have J20 := hide ((unhide J19).trans hk20)
                  have D20 := hide (own_keepF (unhide D19) hk20)
                  have K20 := hide (own_keepF (unhide K19) hk20)
                  have X20 := hide (own_keepF (unhide X19) hk20)
                  have Y20 := hide ho20
                  clear ho20 hk20 D19 K19 X19 J19 A19 c19 z19
                  have Q21 := hide (eqVals_same _ _ _ V (vals_of (unhide D20) rfl) (vals_of (unhide K20) rfl) (by rw [(unhide HR).nV]; omega))
                  go_wp2_with fail
                  refine (unhide Q21).mono ?_
                  rintro e w21 ⟨rfl, hk21⟩
                  have J21 := hide ((unhide J20).trans hk21)
                  have X21 := hide (own_keepF (unhide X20) hk21)
                  have Y21 := hide (own_keepF (unhide Y20) hk21)
                  clear hk21 Q21
                  have Q22 := hide (eqVals_same _ _ _ X (vals_of (unhide X21) rfl) (vals_of (unhide Y21) rfl) (by omega))
                  go_wp2_with fail
                  refine (unhide Q22).mono ?_
                  rintro e w22 ⟨rfl, hk22⟩
                  have J22 := hide ((unhide J21).trans hk22)
                  clear hk22 Q22
                  go_wp2_with fail
                  go_ret
                  exact ⟨rfl, (unhide HKB).trans (unhide J22)⟩
              · have i3 : ¬ (0 : Int) < (b.length : Int) := by omega
                have Az := A18
                have Jz := J18
                have cz := c18
                have zz := z18
                have Rz := R18
                have Dz := D18
                have Kz := K18
                clear A18 J18 c18 z18 R18 D18 K18
                have Q19 := hide (vv_decode S _ b _ _ _ (unhide Az).env (unhide Az).flds (own_len rfl (unhide Rz)) (by omega))
                obtain ⟨X, hX⟩ : ∃ X, X = (decodeB S b).1 := ⟨_, rfl⟩
                obtain ⟨E2, hE2⟩ : ∃ E2, E2 = (decodeB S b).2 := ⟨_, rfl⟩
                have hXl : X.length ≤ 8 := by rw [hX]; exact decodeB_len _ _
                rw [← hX, ← hE2] at Q19
                have HXX := hide (And.intro hX hE2)
                clear hX hE2
                go_wp2_with fail
                refine (unhide Q19).mono ?_
                rintro e w19 ⟨xv, rfl, ho19, hk19⟩
                obtain ⟨xo, xc, rfl⟩ := (rowAt_own ho19).form
                have A19 := hide ((unhide Az).keepF hk19)
                have J19 := hide ((unhide Jz).trans hk19)
                have c19 := (unhide A19).cell
                have z19 := (unhide A19).lt
                have R19 := hide (own_keepF (unhide Rz) hk19)
                have D19 := hide (own_keepF (unhide Dz) hk19)
                have K19 := hide (own_keepF (unhide Kz) hk19)
                have X19 := hide ho19
                clear ho19 hk19 Q19 Rz Dz Kz Az Jz cz zz
                go_upto_region 26 with fail
                go_cut [36, 37] from 177 to 183 (fun yv ev wx => ev = .int .i64 E2 ∧ ∃ yo yc, yv = .slice yo X.length yc ∧ wx.ownsRow 0 40 3 (.slice yo X.length yc) X.length (vcs X) ∧ Keeps (fun _ => False) w19 wx)
                case first =>
                  have hkd := (Keeps.refl (fun _ => False) w19).drew
                  have Ad := hide ((unhide A19).keepF hkd)
                  have HD := hide hkd
                  have QA := hide (copyBytes_any _ _ b (byts_of (own_keepF (unhide R19) hkd) rfl) (by omega))
                  have cd := (unhide Ad).cell
                  have zd := (unhide Ad).lt
                  clear hkd
                  go_region_law (first
                    | (go_simp
                       refine (unhide QA).mono ?_
                       rintro e y1 ⟨cv, rfl, ho, hk⟩
                       have B1 := hide ((unhide Ad).keepF hk)
                       have cb := (unhide B1).cell
                       have zb := (unhide B1).lt
                       have QB := hide (vv_decode S _ b _ _ _ (unhide B1).env (unhide B1).flds ho (by omega))
                       rw [← (unhide HXX).1, ← (unhide HXX).2] at QB
                       have HK1 := hide hk
                       clear hk ho
                       dsimp only)
                    | (go_simp
                       refine (unhide QB).mono ?_
                       rintro e y2 ⟨rv2, rfl, ho2, hk2⟩
                       obtain ⟨co, cc, rfl⟩ := (rowAt_own ho2).form
                       have HO2 := hide ho2
                       have HK2 := hide hk2
                       clear ho2 hk2
                       dsimp only))
                  all_goals (go_wp2_with fail; go_meet; exact ⟨rfl, co, cc, rfl, ownsRow_low (unhide HO2) (Nat.zero_le _), (unhide HD).trans ((unhide HK1).trans (unhide HK2))⟩)
                case rest =>
                  obtain ⟨rfl, yo, yc, rfl, ho20, hk20⟩ := hcut
                  obtain ⟨w20, hw20⟩ : ∃ W, W = wc := ⟨_, rfl⟩
                  subst hw20
                  have J20 := hide ((unhide J19).trans hk20)
                  have D20 := hide (own_keepF (unhide D19) hk20)
                  have K20 := hide (own_keepF (unhide K19) hk20)
                  have X20 := hide (own_keepF (unhide X19) hk20)
                  have Y20 := hide ho20
                  clear ho20 hk20 D19 K19 X19 J19 A19 c19 z19
                  have Q21 := hide (eqVals_same _ _ _ V (vals_of (unhide D20) rfl) (vals_of (unhide K20) rfl) (by rw [(unhide HR).nV]; omega))
                  go_wp2_with fail
                  refine (unhide Q21).mono ?_
                  rintro e w21 ⟨rfl, hk21⟩
                  have J21 := hide ((unhide J20).trans hk21)
                  have X21 := hide (own_keepF (unhide X20) hk21)
                  have Y21 := hide (own_keepF (unhide Y20) hk21)
                  clear hk21 Q21
                  have Q22 := hide (eqVals_same _ _ _ X (vals_of (unhide X21) rfl) (vals_of (unhide Y21) rfl) (by omega))
                  go_wp2_with fail
                  refine (unhide Q22).mono ?_
                  rintro e w22 ⟨rfl, hk22⟩
                  have J22 := hide ((unhide J21).trans hk22)
                  clear hk22 Q22
                  go_wp2_with fail
                  go_ret
                  exact ⟨rfl, (unhide HKB).trans (unhide J22)⟩
end Go.Proofs.YtklkhegeeglfbaaGreatDoor
