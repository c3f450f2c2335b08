import Derived.Test.YtklkhegeeglfbaaGreatDoorGS0
import Derived.Test.YtklkhegeeglfbaaGreatDoorJzab
namespace Go.Proofs.YtklkhegeeglfbaaGreatDoor
open Go.RowKit Go.Maps

theorem kinds_app {E its : List Rowp} (h1 : ∀ p ∈ E, p.e ≠ 46) (h2 : ∀ p ∈ its, p.e ≠ 46) : ∀ p ∈ E ++ its, p.e ≠ 46 := fun p hp => by
  rcases List.mem_append.1 hp with hp | hp
  · exact h1 p hp
  · exact h2 p hp
theorem perm_turn {x q c p d m z r i : Rowp} {E : List Rowp} : ([x, q, c, p, d, m, z, r, i] ++ E).Perm ([z, m, d, p, i, c, r, q, x] ++ E) := by
  classical
  rw [List.perm_iff_count]
  intro y
  simp only [List.count_append, List.count_cons]
  ac_rfl

set_option maxRecDepth 100000 in
set_option maxHeartbeats 8000000 in
theorem lists_walk (ns : List Int) (vs : List ValA) (av bv : Value) (sm : Int) (w : World) (hE : Env w) (hA : IntsAt w av ns) (hV : ValsAt w bv vs) (hn : ns.length ≤ 140737488355328) (hv : vs.length ≤ 140737488355328) (hI : InR vs) :
    Calls Tryz.prog 3 #[av, bv, .int .i64 sm] w fun e w' => e = .returned (.bool true) ∧ Keeps (fun _ => False) w w' := by
  obtain ⟨ao, ac, rfl⟩ := RowAt.form hA
  obtain ⟨xo, xc, rfl⟩ := RowAt.form hV
  have Q1 := hide (Shaped_v ns _ w hA hn)
  have hs := schemaB_shaped ns
  have hR := right_of hs hI
  obtain ⟨S, hS⟩ : ∃ S, S = shapedB ns := ⟨_, rfl⟩
  rw [← hS] at Q1 hs hR
  obtain ⟨V, hV2⟩ : ∃ V, V = FittedB S vs := ⟨_, rfl⟩
  obtain ⟨N, hN2⟩ : ∃ N, N = FittedB S [] := ⟨_, rfl⟩
  rw [← hV2, ← hN2] at hR
  obtain ⟨y, hy⟩ : ∃ y, y = encodeB S V := ⟨_, rfl⟩
  obtain ⟨t, ht⟩ : ∃ t, t = printB S V := ⟨_, rfl⟩
  obtain ⟨s, hs2⟩ : ∃ s, s = printSchemaB S := ⟨_, rfl⟩
  rw [← hy, ← ht, ← hs2] at hR
  have hes : errS S = 0 := by unfold errS; rw [if_pos hs]
  have HR := hide hR
  have HVN := hide (And.intro hV2 hN2)
  have HTS := hide (And.intro ht (And.intro hs2 hes))
  have n1 := hR.n1
  have n8 := hR.n8
  have nb := hR.nb
  have nt := hR.nt
  have ns2 := hR.ns
  have HE := hide hE
  have HX := hide hV
  have HXL := hide hv
  clear hE hA hV hn hv hI hs hR hS hV2 hN2 hy ht hs2 hes
  go_enter Tryz.func3, Tryz.ntmps3
  go_wp2_with fail
  refine (unhide Q1).mono ?_
  rintro e w1 ⟨sv, rfl, ho1, hk1⟩
  obtain ⟨so, sc, rfl⟩ := (rowAt_own ho1).form
  have hka := (Keeps.refl (fun _ => False) w1).alloc (.cells #[(.slice so S.length sc)] 26)
  have K2 := hide (hk1.trans hka)
  have F2 := hide (show FldsAt (w1.alloc (.cells #[(.slice so S.length sc)] 26)) (.slice so S.length sc) S from FldsAt.keepF (rowAt_own ho1) hka)
  have c2 : (w1.alloc (.cells #[(.slice so S.length sc)] 26)).cell? ⟨w1.heap.size, 0, none⟩ = some (.slice so S.length sc) := by rw [cell_of_blk (heap_alloc_new _ _)]; rfl
  have z2 : w1.heap.size < (w1.alloc (.cells #[(.slice so S.length sc)] 26)).heap.size := by simp
  have E2 := hide ((unhide HE).keepF (unhide K2))
  have Q2 := hide (Fitted_v S _ vs _ _ (unhide F2) (ValsAt.keepF (unhide HX) (unhide K2)) n8 (unhide HXL))
  rw [← (unhide HVN).1] at Q2
  clear ho1 hk1 hka Q1 HE HX HXL
  go_wp2_with fail
  generalize w1.alloc (.cells #[(.slice so S.length sc)] 26) = w2 at *
  generalize w1.heap.size = sb at *
  refine (unhide Q2).mono ?_
  rintro e w3 ⟨rv, rfl, ho3, hk3⟩
  obtain ⟨rg, rc, rfl⟩ : ∃ rg rc, rv = (.slice (some ⟨rg, 0, none⟩) S.length rc) := by
    obtain ⟨g, c, e, _⟩ := ho3.form (by omega)
    exact ⟨g, c, e⟩
  have R3 := hide ho3
  have K3 := hide ((unhide K2).trans hk3)
  have F3 := hide ((unhide F2).keepF hk3)
  have E3 := hide ((unhide E2).keepF hk3)
  have c3 := (hk3.cell (o := 0) z2 id).trans c2
  have z3 := Nat.lt_of_lt_of_le z2 hk3.size
  clear ho3 hk3 Q2 K2 F2 E2 c2 z2
  have Q3 := hide (mod_any sm S.length n1 n8 w3)
  go_wp2_with fail
  refine (unhide Q3).mono ?_
  rintro e w3p ⟨k, rfl, hk, hw⟩
  subst hw
  have HKL := hide hk
  clear Q3
  have Q4 := hide (law_encode S _ V _ _ (unhide E3) (unhide F3) (vals_of (unhide R3) (unhide HR).nV) (by omega) (by rw [(unhide HR).nV]; omega) (unhide HR).inV)
  rw [(unhide HR).errV, (unhide HR).encV] at Q4
  go_wp2_with fail
  refine (unhide Q4).mono ?_
  rintro e w4 ⟨yv, rfl, ho4, hk4⟩
  have K4 := hide ((unhide K3).trans hk4)
  have F4 := hide ((unhide F3).keepF hk4)
  have E4 := hide ((unhide E3).keepF hk4)
  have R4 := hide (own_keepF (unhide R3) hk4)
  have c4 := (hk4.cell (o := 0) z3 id).trans c3
  have z4 := Nat.lt_of_lt_of_le z3 hk4.size
  obtain ⟨yo, yc, rfl⟩ := (rowAt_own ho4).form
  have Q5 := hide (copyBytes_any _ _ y (byts_of ho4 rfl) (by omega))
  clear ho4
  clear hk4 Q4 K3 F3 E3 R3 c3 z3
  go_wp2_with fail
  refine (unhide Q5).mono ?_
  rintro e w5 ⟨bw, rfl, ho5, hk5⟩
  have K5 := hide ((unhide K4).trans hk5)
  have F5 := hide ((unhide F4).keepF hk5)
  have E5 := hide ((unhide E4).keepF hk5)
  have R5 := hide (own_keepF (unhide R4) hk5)
  have c5 := (hk5.cell (o := 0) z4 id).trans c4
  have z5 := Nat.lt_of_lt_of_le z4 hk5.size
  obtain ⟨bo, bc, rfl⟩ := (rowAt_own ho5).form
  have O5 := hide ho5
  have Q6 := hide (law_prints S _ V _ _ (unhide E5) (unhide F5) (vals_of (unhide R5) (unhide HR).nV) (by omega) (by rw [(unhide HR).nV]; omega) (unhide HR).inV)
  rw [(unhide HR).errV, ← (unhide HTS).1] at Q6
  clear ho5
  clear hk5 Q5 K4 F4 E4 R4 c4 z4
  go_wp2_with fail
  refine (unhide Q6).mono ?_
  rintro e w6 ⟨rfl, hk6⟩
  have K6 := hide ((unhide K5).trans hk6)
  have F6 := hide ((unhide F5).keepF hk6)
  have E6 := hide ((unhide E5).keepF hk6)
  have R6 := hide (own_keepF (unhide R5) hk6)
  have c6 := (hk6.cell (o := 0) z5 id).trans c5
  have z6 := Nat.lt_of_lt_of_le z5 hk6.size
  have O6 := hide (own_keepF (unhide O5) hk6)
  have Q7 := hide (law_printSchema S _ _ (unhide E6) (unhide F6) (by omega))
  rw [(unhide HTS).2.2, ← (unhide HTS).2.1] at Q7
  clear O5
  clear hk6 Q6 K5 F5 E5 R5 c5 z5
  go_wp2_with fail
  refine (unhide Q7).mono ?_
  rintro e w7 ⟨rfl, hk7⟩
  have K7 := hide ((unhide K6).trans hk7)
  have F7 := hide ((unhide F6).keepF hk7)
  have E7 := hide ((unhide E6).keepF hk7)
  have R7 := hide (own_keepF (unhide R6) hk7)
  have c7 := (hk7.cell (o := 0) z6 id).trans c6
  have z7 := Nat.lt_of_lt_of_le z6 hk7.size
  have O7 := hide (own_keepF (unhide O6) hk7)
  have Q8 := hide (Fitted_v S _ [] _ _ (unhide F7) (vals_nil _) n8 (by simp))
  rw [← (unhide HVN).2] at Q8
  clear O6
  clear hk7 Q7 K6 F6 E6 R6 c6 z6
  go_wp2_with fail
  refine (unhide Q8).mono ?_
  rintro e w8 ⟨nv, rfl, ho8, hk8⟩
  obtain ⟨no, nc, rfl⟩ := (rowAt_own ho8).form
  have K8 := hide ((unhide K7).trans hk8)
  have R8 := hide (own_keepF (unhide R7) hk8)
  have O8 := hide (own_keepF (unhide O7) hk8)
  have A8 : Hid (Amb w8 sb (.slice so S.length sc) S (.slice (some ⟨rg, 0, none⟩) S.length rc) V (.slice no S.length nc) N (.slice bo y.length bc) y) := ⟨(hk8.cell (o := 0) z7 id).trans c7, Nat.lt_of_lt_of_le z7 hk8.size, (unhide E7).keepF hk8, (unhide F7).keepF hk8, vals_of (unhide R8) (unhide HR).nV, vals_of ho8 (unhide HR).nN, byts_of (unhide O8) rfl⟩
  have RL8 : Hid (rg < w8.heap.size) := own_lt (unhide R8) rfl
  have Q9 := hide (copyVals_any w8 (.slice no S.length nc) N (unhide A8).nons (by rw [(unhide HR).nN]; omega))
  rw [(unhide HR).nN] at Q9
  have c8 := (unhide A8).cell
  have z8 := (unhide A8).lt
  clear ho8 hk8 Q8 K7 F7 E7 R7 O7 c7 z7
  go_wp2_with fail
  refine (unhide Q9).mono ?_
  rintro e w9 ⟨mv, rfl, ho9, hk9⟩
  obtain ⟨mg, mc, rfl, hmg⟩ : ∃ mg mc, mv = (.slice (some ⟨mg, 0, none⟩) S.length mc) ∧ w8.heap.size ≤ mg := by
    obtain ⟨g, c, e, _⟩ := ho9.form (by omega)
    subst e
    exact ⟨g, c, rfl, own_geO ho9 rfl⟩
  have M9 := hide ho9
  have J9 := hide hk9
  clear ho9 hk9 Q9 c8 z8
  go_wp2_with fail
  go_loopw [18] (fun iv wr => ∃ i : Nat, i ≤ k ∧ iv = .int .i64 i ∧ Hid (wr.ownsRow w8.heap.size 40 3 (.slice (some ⟨mg, 0, none⟩) S.length mc) S.length (vcs (overN V N i))) ∧ Hid (Keeps (fun q => q = mg) w9 wr)) (fun iv _ => k - (intOf iv).toNat)
  case atStart => exact ⟨0, Nat.zero_le _, rfl, by rw [overN_zero]; exact M9, Keeps.refl _ _⟩
  case round =>
    obtain ⟨i, hi, rfl, HL, HKW⟩ := hrel
    have hkw := narrowO (unhide J9) (unhide HKW) (fun q e => by rw [e]; exact hmg)
    have Jm := hide hkw
    have Am := hide ((unhide A8).keepF hkw)
    have Rm := hide (own_keepF (unhide R8) hkw)
    have hk9 := unhide HKL
    by_cases hlt : i < k
    · have i1 : (i : Int) < (k : Int) := by omega
      have i0 : (0 : Int) ≤ (i : Int) := by omega
      have i2 : (i : Int) < (S.length : Int) := by omega
      obtain ⟨x, hx⟩ : ∃ x, V[i]? = some x := ⟨_, List.getElem?_eq_getElem (by rw [(unhide HR).nV]; omega)⟩
      obtain ⟨h0, h1, h2⟩ := vcs_at hx
      have d0 := own_at (unhide Rm) h0
      have d1 := own_at (unhide Rm) h1
      have d2 := own_at (unhide Rm) h2
      obtain ⟨⟨v0, g0⟩, f0⟩ := own_open (unhide HL) (j := i * 3) (by omega)
      obtain ⟨⟨v1, g1⟩, f1⟩ := own_open (unhide HL) (j := i * 3 + 1) (by omega)
      obtain ⟨⟨v2, g2⟩, f2⟩ := own_open (unhide HL) (j := i * 3 + 2) (by omega)
      have HPUT := hide (own_set3 (unhide HL) i x)
      rw [overN_set (by rw [(unhide HR).nV, (unhide HR).nN]) (by rw [(unhide HR).nN]; omega) hx] at HPUT
      have HKP := hide ((unhide HKW).trans (keeps_put3 wr mg (i * 3) (i * 3 + 1) (i * 3 + 2) (.int .i64 x.kind) (.int .i64 x.n) (str x.s)))
      clear hx hkw HL HKW Am Rm Jm h0 h1 h2
      go_wp2_with fail
      go_roundw
      case rel => exact ⟨i + 1, by omega, by go_num, HPUT, HKP⟩
      case measure => simp [intOf]; omega
    · obtain rfl : i = k := by omega
      have i1 : ¬ (i : Int) < (i : Int) := by omega
      have Mm := HL
      clear HL HKW hkw hi J9 M9 R8
      obtain ⟨wm, hwm⟩ : ∃ W, W = wr := ⟨_, rfl⟩
      subst hwm
      have BK := hide (book_start wm)
      have hkb := (Keeps.refl (fun _ => False) wm).alloc (.cells #[.slice none 0 0, .slice none 0 0, .slice none 0 0, .slice none 0 0, .slice none 0 0, .slice none 0 0, .int .i64 0] 46)
      have JB := hide hkb
      have HAm := hide (fun (W : World) (h : Keeps (fun _ => False) wm W) => (unhide Am).keepF h)
      have HRm := hide (fun (W : World) (h : Keeps (fun _ => False) wm W) => own_keepF (unhide Rm) h)
      have HMm := hide (fun (W : World) (h : Keeps (fun _ => False) wm W) => own_keepF (unhide Mm) h)
      have HOm := hide (fun (W : World) (h : Keeps (fun _ => False) wm W) => own_keepF (unhide O8) ((unhide Jm).trans h))
      have KM := hide ((unhide K8).trans (unhide Jm))
      have HBX := hide (Nat.le_refl wm.heap.size)
      clear hkb Am Rm Mm O8 Jm K8 A8 HVN HTS i1 hlt
      go_wp2_with fail
      go_loopw [20] (fun iv wr => ∃ (i : Nat) (a : BookA) (its : List Rowp), i ≤ 3 ∧ iv = .int .i64 i ∧ (a.N ≤ 8 * i ∧ a.L.hs.length ≤ 10 * i ∧ a.B.hs.length ≤ 4 * i ∧ a.F.hs.length ≤ 2 * i) ∧ Hid (∀ p ∈ its, p.e ≠ 46) ∧ Hid (BookAt wr wm.heap.size wm.heap.size a [] its) ∧ Hid (Keeps (fun _ => False) wm wr)) (fun iv _ => 3 - (intOf iv).toNat)
      case atStart => exact ⟨0, book0, [], by omega, rfl, ⟨by decide, by decide, by decide, by decide⟩, (fun p h => by cases h), BK, JB⟩
      case round =>
        clear BK JB
        obtain ⟨n, a, its, hn, rfl, hcnt, HIT, BK, JB⟩ := hrel
        by_cases hlt : n < 3
        · have i1 : (n : Int) < 3 := by omega
          have HCN := hide hcnt
          clear hcnt
          obtain ⟨T, hT⟩ : ∃ T, T = V.take i := ⟨_, rfl⟩
          have hTl : T.length = i := by rw [hT, List.length_take, (unhide HR).nV]; have := unhide HKL; omega
          have HTL := hide hTl
          have HT := hide hT
          have hr := unhide HRm _ (unhide JB)
          have HTV := hide (fun (W : World) (h : Keeps (fun _ => False) wm W) => (show ValsAt W (.slice (some ⟨rg, 0, none⟩) i rc) T from by rw [hT]; exact vals_take (unhide HRm W h) (unhide HR).nV (by have := unhide HKL; omega)))
          have hlim : (i : Int) ≤ (rc : Int) := by have := (rowAt_own hr).room _ _ _ rfl; have := unhide HKL; omega
          have h0i : (0 : Int) ≤ (i : Int) := by omega
          have Q12 := hide (handed_v _ _ T (unhide HTV _ (unhide JB)) (by rw [hTl]; have := unhide HKL; omega))
          obtain ⟨MK, hMK⟩ : ∃ MK, MK = overN V N i := ⟨_, rfl⟩
          have HMK := hide (show makeB S T = (MK, 0) from by rw [hT, hMK]; exact make_take (unhide HR) (by have := unhide HKL; omega))
          have hML : MK.length = S.length := by rw [hMK, overN_len (by rw [(unhide HR).nV, (unhide HR).nN]) (by rw [(unhide HR).nN]; have := unhide HKL; omega), (unhide HR).nN]
          have HML := hide hML
          have HMO := hide (fun (W : World) (h : Keeps (fun _ => False) wm W) => (show ValsAt W (.slice (some ⟨mg, 0, none⟩) S.length mc) MK from by rw [hMK]; exact vals_of (unhide HMm W h) (by rw [← hMK]; exact hML)))
          clear hT hTl hr hMK hML
          go_wp2_with fail
          refine (unhide Q12).mono ?_
          rintro e x1 ⟨ig, ic, rfl, ho, hk1⟩
          have B1 := hide ((unhide BK).newRow (unhide JB).size hk1 ho (by decide))
          have J1 := hide ((unhide JB).trans hk1)
          have A1 := hide (unhide HAm _ (unhide J1))
          clear ho hk1 Q12 BK JB
          have Q13 := hide (copyBytes_any _ (.slice bo y.length bc) y (unhide A1).byts (by omega))
          go_wp2_with fail
          refine (unhide Q13).mono ?_
          rintro e x2 ⟨qv, rfl, ho, hk2⟩
          have J2 := hide ((unhide J1).trans hk2)
          have A2 := hide (unhide HAm _ (unhide J2))
          have c2 := (unhide A2).cell
          have z2 := (unhide A2).lt
          obtain ⟨qo, qc, rfl⟩ := (rowAt_own ho).form
          have B2 := hide ((unhide B1).newRow (unhide J1).size hk2 ho (by decide))
          clear ho
          have Q14 := hide (val_zero S _ _ (unhide A2).env.types (unhide A2).flds)
          rw [(unhide HR).zero] at Q14
          clear hk2 Q13 B1 J1 A1
          go_wp2_with fail
          refine (unhide Q14).mono ?_
          rintro e x3 ⟨zv, rfl, ho, hk3⟩
          have J3 := hide ((unhide J2).trans hk3)
          have A3 := hide (unhide HAm _ (unhide J3))
          have c3 := (unhide A3).cell
          have z3 := (unhide A3).lt
          obtain ⟨zo, zc, rfl⟩ := (rowAt_own ho).form
          have B3 := hide ((unhide B2).newRow (unhide J2).size hk3 ho (by decide))
          clear ho
          have Q15 := hide (val_make S _ T (.slice (some ⟨ig, 0, none⟩) T.length ic) _ (unhide A3).env.types (unhide A3).flds (val_front ((unhide B3).at_ (List.mem_cons_of_mem _ (List.mem_cons_of_mem _ (List.mem_cons_self ..)))).x rfl))
          rw [unhide HMK] at Q15
          clear hk3 Q14 B2 J2 A2 c2 z2
          go_wp2_with fail
          refine (unhide Q15).mono ?_
          rintro e x4 ⟨mv, rfl, ho, hk4⟩
          have J4 := hide ((unhide J3).trans hk4)
          have A4 := hide (unhide HAm _ (unhide J4))
          have c4 := (unhide A4).cell
          have z4 := (unhide A4).lt
          obtain ⟨go, gc, rfl⟩ := (rowAt_own ho).form
          have B4 := hide ((unhide B3).newRow (unhide J3).size hk4 ho (by decide))
          clear ho
          have Q16 := hide (vv_decode S _ y _ _ _ (unhide A4).env (unhide A4).flds ((unhide B4).at_ (List.mem_cons_of_mem _ (List.mem_cons_of_mem _ (List.mem_cons_self ..)))).x (by omega))
          rw [(unhide HR).decV] at Q16
          clear hk4 Q15 B3 J3 A3 c3 z3
          go_wp2_with fail
          refine (unhide Q16).mono ?_
          rintro e x5 ⟨dv, rfl, ho, hk5⟩
          have J5 := hide ((unhide J4).trans hk5)
          have A5 := hide (unhide HAm _ (unhide J5))
          have c5 := (unhide A5).cell
          have z5 := (unhide A5).lt
          obtain ⟨lo, lc, rfl⟩ := (rowAt_own ho).form
          have B5 := hide ((unhide B4).newRow (unhide J4).size hk5 ho (by decide))
          clear ho
          have Q17 := hide (val_parse S _ t _ (unhide A5).env (unhide A5).flds (by omega))
          rw [(unhide HR).parV] at Q17
          clear hk5 Q16 B4 J4 A4 c4 z4
          go_wp2_with fail
          refine (unhide Q17).mono ?_
          rintro e x6 ⟨pv, rfl, ho, hk6⟩
          have J6 := hide ((unhide J5).trans hk6)
          have A6 := hide (unhide HAm _ (unhide J6))
          have c6 := (unhide A6).cell
          have z6 := (unhide A6).lt
          obtain ⟨po, pc, rfl⟩ := (rowAt_own ho).form
          have B6 := hide ((unhide B5).newRow (unhide J5).size hk6 ho (by decide))
          clear ho
          have Q18 := hide (val_encode S _ V _ _ (unhide A6).env.types (unhide A6).flds (unhide A6).vals (unhide HR).inV)
          rw [(unhide HR).errV, (unhide HR).encV] at Q18
          clear hk6 Q17 B5 J5 A5 c5 z5
          go_wp2_with fail
          refine (unhide Q18).mono ?_
          rintro e x7 ⟨ev, rfl, ho, hk7⟩
          have J7 := hide ((unhide J6).trans hk7)
          have A7 := hide (unhide HAm _ (unhide J7))
          have c7 := (unhide A7).cell
          have z7 := (unhide A7).lt
          obtain ⟨eo, ec, rfl⟩ := (rowAt_own ho).form
          have B7 := hide ((unhide B6).newRow (unhide J6).size hk7 ho (by decide))
          clear ho
          have Q19 := hide (val_parseSchema s _ (by omega) (unhide A7).env)
          rw [(unhide HR).parS] at Q19
          clear hk7 Q18 B6 J6 A6 c6 z6
          go_wp2_with fail
          refine (unhide Q19).mono ?_
          rintro e x8 ⟨fv, rfl, ho, hk8⟩
          obtain ⟨fo, fc, rfl⟩ := (rowAt_own ho).form
          have B8 := hide ((unhide B7).newRow (unhide J7).size hk8 ho (by decide))
          have J8 := hide ((unhide J7).trans hk8)
          have hka := (Keeps.refl (fun _ => False) x8).alloc (.cells #[.slice fo S.length fc] 26)
          have B9 := hide ((unhide B8).newRow (unhide J8).size hka (one_box x8 (.slice fo S.length fc) 26) (by decide))
          have J9 := hide ((unhide J8).trans hka)
          have A9 := hide (unhide HAm _ (unhide J9))
          have c9 := (unhide A9).cell
          have z9 := (unhide A9).lt
          clear ho hk8 hka Q19 B7 J7 A7 c7 z7 B8 J8
          have Q20 := hide (eqVals_same _ _ _ N (vals_of ((unhide B9).at_ (List.mem_cons_of_mem _ (List.mem_cons_of_mem _ (List.mem_cons_of_mem _ (List.mem_cons_of_mem _ (List.mem_cons_of_mem _ (List.mem_cons_of_mem _ (List.mem_cons_self ..)))))))).x rfl) (unhide A9).nons (by rw [(unhide HR).nN]; omega))
          go_wp2_with fail
          refine (unhide Q20).mono ?_
          rintro e x10 ⟨rfl, hk10⟩
          have J10 := hide ((unhide J9).trans hk10)
          have B10 := hide ((unhide B9).keepF hk10)
          have A10 := hide (unhide HAm _ (unhide J10))
          have c10 := (unhide A10).cell
          have z10 := (unhide A10).lt
          clear hk10 Q20 B9 J9 A9 c9 z9
          have Q21 := hide (eqVals_same _ _ _ MK (vals_of ((unhide B10).at_ (List.mem_cons_of_mem _ (List.mem_cons_of_mem _ (List.mem_cons_of_mem _ (List.mem_cons_of_mem _ (List.mem_cons_of_mem _ (List.mem_cons_self ..))))))).x rfl) (unhide HMO _ (unhide J10)) (by rw [unhide HML]; omega))
          go_wp2_with fail
          refine (unhide Q21).mono ?_
          rintro e x11 ⟨rfl, hk11⟩
          have J11 := hide ((unhide J10).trans hk11)
          have B11 := hide ((unhide B10).keepF hk11)
          have A11 := hide (unhide HAm _ (unhide J11))
          have c11 := (unhide A11).cell
          have z11 := (unhide A11).lt
          clear hk11 Q21 B10 J10 A10 c10 z10
          have Q22 := hide (eqVals_same _ _ _ V (vals_of ((unhide B11).at_ (List.mem_cons_of_mem _ (List.mem_cons_of_mem _ (List.mem_cons_of_mem _ (List.mem_cons_of_mem _ (List.mem_cons_self ..)))))).x rfl) (unhide A11).vals (by rw [(unhide HR).nV]; omega))
          go_wp2_with fail
          refine (unhide Q22).mono ?_
          rintro e x12 ⟨rfl, hk12⟩
          have J12 := hide ((unhide J11).trans hk12)
          have B12 := hide ((unhide B11).keepF hk12)
          have A12 := hide (unhide HAm _ (unhide J12))
          have c12 := (unhide A12).cell
          have z12 := (unhide A12).lt
          clear hk12 Q22 B11 J11 A11 c11 z11
          have Q23 := hide (eqVals_same _ _ _ V (vals_of ((unhide B12).at_ (List.mem_cons_of_mem _ (List.mem_cons_of_mem _ (List.mem_cons_of_mem _ (List.mem_cons_self ..))))).x rfl) (unhide A12).vals (by rw [(unhide HR).nV]; omega))
          go_wp2_with fail
          refine (unhide Q23).mono ?_
          rintro e x13 ⟨rfl, hk13⟩
          have J13 := hide ((unhide J12).trans hk13)
          have B13 := hide ((unhide B12).keepF hk13)
          have A13 := hide (unhide HAm _ (unhide J13))
          have c13 := (unhide A13).cell
          have z13 := (unhide A13).lt
          clear hk13 Q23 B12 J12 A12 c12 z12
          have Q24 := hide (eqBytes_same _ _ _ y (byts_of ((unhide B13).at_ (List.mem_cons_of_mem _ (List.mem_cons_of_mem _ (List.mem_cons_self ..)))).x rfl) (unhide A13).byts (by omega))
          go_wp2_with fail
          refine (unhide Q24).mono ?_
          rintro e x14 ⟨rfl, hk14⟩
          have J14 := hide ((unhide J13).trans hk14)
          have B14 := hide ((unhide B13).keepF hk14)
          have A14 := hide (unhide HAm _ (unhide J14))
          have c14 := (unhide A14).cell
          have z14 := (unhide A14).lt
          clear hk14 Q24 B13 J13 A13 c13 z13
          have Q25 := hide (eqBytes_same _ _ _ y (byts_of ((unhide B14).at_ (List.mem_cons_of_mem _ (List.mem_cons_of_mem _ (List.mem_cons_of_mem _ (List.mem_cons_of_mem _ (List.mem_cons_of_mem _ (List.mem_cons_of_mem _ (List.mem_cons_of_mem _ (List.mem_cons_self ..))))))))).x rfl) (unhide A14).byts (by omega))
          go_wp2_with fail
          refine (unhide Q25).mono ?_
          rintro e x15 ⟨rfl, hk15⟩
          have J15 := hide ((unhide J14).trans hk15)
          have B15 := hide ((unhide B14).keepF hk15)
          have A15 := hide (unhide HAm _ (unhide J15))
          have c15 := (unhide A15).cell
          have z15 := (unhide A15).lt
          clear hk15 Q25 B14 J14 A14 c14 z14
          have cb := own_at ((unhide B15).at_ (List.mem_cons_self ..)).x (j := 0) (u := .slice fo S.length fc) rfl
          have Q26 := hide (eqSchema_same _ _ _ S (show FldsAt _ _ S from rowAt_own ((unhide B15).at_ (List.mem_cons_of_mem _ (List.mem_cons_self ..))).x) (unhide A15).flds (by omega))
          go_wp2_with fail
          refine (unhide Q26).mono ?_
          rintro e x16 ⟨rfl, hk16⟩
          have J16 := hide ((unhide J15).trans hk16)
          have B16 := hide ((unhide B15).keepF hk16)
          have A16 := hide (unhide HAm _ (unhide J16))
          have c16 := (unhide A16).cell
          have z16 := (unhide A16).lt
          clear hk16 Q26 B15 J15 A15 c15 z15
          clear cb
          have Q27 := hide (eqVals_same _ _ _ T (val_front ((unhide B16).at_ (List.mem_cons_of_mem _ (List.mem_cons_of_mem _ (List.mem_cons_of_mem _ (List.mem_cons_of_mem _ (List.mem_cons_of_mem _ (List.mem_cons_of_mem _ (List.mem_cons_of_mem _ (List.mem_cons_of_mem _ (List.mem_cons_self ..)))))))))).x rfl) (unhide HTV _ (unhide J16)) (by have := unhide HTL; have := unhide HKL; omega))
          go_wp2_with fail
          refine (unhide Q27).mono ?_
          rintro e x17 ⟨rfl, hk17⟩
          have J17 := hide ((unhide J16).trans hk17)
          have B17 := hide ((unhide B16).keepF hk17)
          have A17 := hide (unhide HAm _ (unhide J17))
          have c17 := (unhide A17).cell
          have z17 := (unhide A17).lt
          clear hk17 Q27 B16 J16 A16 c16 z16
          have Q28 := hide (roomy_v _ _ ig ic T.length (ic - T.length) T ((unhide B17).at_ (List.mem_cons_of_mem _ (List.mem_cons_of_mem _ (List.mem_cons_of_mem _ (List.mem_cons_of_mem _ (List.mem_cons_of_mem _ (List.mem_cons_of_mem _ (List.mem_cons_of_mem _ (List.mem_cons_of_mem _ (List.mem_cons_self ..)))))))))).x rfl)
          go_wp2_with fail
          refine (unhide Q28).mono ?_
          rintro e x18 ⟨rfl, hk18⟩
          have J18 := hide ((unhide J17).trans hk18)
          have B18 := hide ((unhide B17).keepF hk18)
          have A18 := hide (unhide HAm _ (unhide J18))
          have c18 := (unhide A18).cell
          have z18 := (unhide A18).lt
          clear hk18 Q28 B17 J17 A17 c17 z17
          have X18 : Hid (BookAt x18 wm.heap.size wm.heap.size a [solo 40 3 N.length (.slice zo N.length zc) (vcs N), solo 40 3 MK.length (.slice go MK.length gc) (vcs MK), solo 40 3 V.length (.slice lo V.length lc) (vcs V), solo 40 3 V.length (.slice po V.length pc) (vcs V), solo 40 3 (T.length + 9) (.slice (some ⟨ig, 0, none⟩) (T.length + 9) ic) (vcs (T ++ roomsV 9)), solo 5 1 y.length (.slice eo y.length ec) (bs y), solo 5 1 y.length (.slice qo y.length qc) (bs y), solo 69 3 S.length (.slice fo S.length fc) (fcs S), solo 26 1 1 (.slice (some ⟨x8.heap.size, 0, none⟩) 1 1) [.slice fo S.length fc]] its) := (unhide B18).perm perm_turn
          have KE18 : Hid (∀ p ∈ [solo 40 3 N.length (.slice zo N.length zc) (vcs N), solo 40 3 MK.length (.slice go MK.length gc) (vcs MK), solo 40 3 V.length (.slice lo V.length lc) (vcs V), solo 40 3 V.length (.slice po V.length pc) (vcs V), solo 40 3 (T.length + 9) (.slice (some ⟨ig, 0, none⟩) (T.length + 9) ic) (vcs (T ++ roomsV 9)), solo 5 1 y.length (.slice eo y.length ec) (bs y), solo 5 1 y.length (.slice qo y.length qc) (bs y), solo 69 3 S.length (.slice fo S.length fc) (fcs S), solo 26 1 1 (.slice (some ⟨x8.heap.size, 0, none⟩) 1 1) [.slice fo S.length fc]], p.e ≠ 46) := by
            intro p hp
            simp only [List.mem_cons, List.not_mem_nil, or_false] at hp
            rcases hp with rfl | rfl | rfl | rfl | rfl | rfl | rfl | rfl | rfl <;> first | exact (show (40 : Nat) ≠ 46 by decide) | exact (show (5 : Nat) ≠ 46 by decide) | exact (show (69 : Nat) ≠ 46 by decide) | exact (show (26 : Nat) ≠ 46 by decide)
          have I18 := HIT
          have C18 := HCN
          clear B18 A18 c18 z18 HIT HCN
          have Y19 := hide (book_vals x18 wm.heap.size wm.heap.size a [solo 40 3 MK.length (.slice go MK.length gc) (vcs MK), solo 40 3 V.length (.slice lo V.length lc) (vcs V), solo 40 3 V.length (.slice po V.length pc) (vcs V), solo 40 3 (T.length + 9) (.slice (some ⟨ig, 0, none⟩) (T.length + 9) ic) (vcs (T ++ roomsV 9)), solo 5 1 y.length (.slice eo y.length ec) (bs y), solo 5 1 y.length (.slice qo y.length qc) (bs y), solo 69 3 S.length (.slice fo S.length fc) (fcs S), solo 26 1 1 (.slice (some ⟨x8.heap.size, 0, none⟩) 1 1) [.slice fo S.length fc]] its _ _ N (unhide J18).size (unhide X18) (kinds_app (fun p hp => unhide KE18 p (List.mem_cons_of_mem _ hp)) (unhide I18)) (by rw [(unhide HR).nN]; omega) (by have := unhide C18; omega) (by have := unhide C18; omega))
          go_wp2_with fail
          refine (unhide Y19).mono ?_
          rintro e x19 ⟨rfl, a19, P19, ⟨hN, hL, hB, hF, hP⟩, hA, hk⟩
          have J19 := hide (narrowO (unhide J18) hk (fun q e => e))
          obtain ⟨G19, hG⟩ : ∃ G, G = P19 ++ its := ⟨_, rfl⟩
          have I19 := hide (kinds_app hP (unhide I18))
          rw [← hG] at hA I19
          have X19 := hide hA
          have KE19 := hide (fun (p : Rowp) (hp : p ∈ [solo 40 3 MK.length (.slice go MK.length gc) (vcs MK), solo 40 3 V.length (.slice lo V.length lc) (vcs V), solo 40 3 V.length (.slice po V.length pc) (vcs V), solo 40 3 (T.length + 9) (.slice (some ⟨ig, 0, none⟩) (T.length + 9) ic) (vcs (T ++ roomsV 9)), solo 5 1 y.length (.slice eo y.length ec) (bs y), solo 5 1 y.length (.slice qo y.length qc) (bs y), solo 69 3 S.length (.slice fo S.length fc) (fcs S), solo 26 1 1 (.slice (some ⟨x8.heap.size, 0, none⟩) 1 1) [.slice fo S.length fc]]) => unhide KE18 p (List.mem_cons_of_mem _ hp))
          have C19 : Hid (a19.N ≤ 8 * n + 1 ∧ a19.L.hs.length ≤ 10 * n + 2 ∧ a19.B.hs.length ≤ 4 * n + 0 ∧ a19.F.hs.length ≤ 2 * n + 0) := by
            have := unhide C18
            exact ⟨by omega, by omega, by omega, by omega⟩
          clear hN hL hB hF hP hA hk hG Y19 X18 KE18 I18 C18 J18
          have Y20 := hide (book_vals x19 wm.heap.size wm.heap.size a19 [solo 40 3 V.length (.slice lo V.length lc) (vcs V), solo 40 3 V.length (.slice po V.length pc) (vcs V), solo 40 3 (T.length + 9) (.slice (some ⟨ig, 0, none⟩) (T.length + 9) ic) (vcs (T ++ roomsV 9)), solo 5 1 y.length (.slice eo y.length ec) (bs y), solo 5 1 y.length (.slice qo y.length qc) (bs y), solo 69 3 S.length (.slice fo S.length fc) (fcs S), solo 26 1 1 (.slice (some ⟨x8.heap.size, 0, none⟩) 1 1) [.slice fo S.length fc]] G19 _ _ MK (unhide J19).size (unhide X19) (kinds_app (fun p hp => unhide KE19 p (List.mem_cons_of_mem _ hp)) (unhide I19)) (by rw [unhide HML]; omega) (by have := unhide C19; omega) (by have := unhide C19; omega))
          go_wp2_with fail
          refine (unhide Y20).mono ?_
          rintro e x20 ⟨rfl, a20, P20, ⟨hN, hL, hB, hF, hP⟩, hA, hk⟩
          have J20 := hide (narrowO (unhide J19) hk (fun q e => e))
          obtain ⟨G20, hG⟩ : ∃ G, G = P20 ++ G19 := ⟨_, rfl⟩
          have I20 := hide (kinds_app hP (unhide I19))
          rw [← hG] at hA I20
          have X20 := hide hA
          have KE20 := hide (fun (p : Rowp) (hp : p ∈ [solo 40 3 V.length (.slice lo V.length lc) (vcs V), solo 40 3 V.length (.slice po V.length pc) (vcs V), solo 40 3 (T.length + 9) (.slice (some ⟨ig, 0, none⟩) (T.length + 9) ic) (vcs (T ++ roomsV 9)), solo 5 1 y.length (.slice eo y.length ec) (bs y), solo 5 1 y.length (.slice qo y.length qc) (bs y), solo 69 3 S.length (.slice fo S.length fc) (fcs S), solo 26 1 1 (.slice (some ⟨x8.heap.size, 0, none⟩) 1 1) [.slice fo S.length fc]]) => unhide KE19 p (List.mem_cons_of_mem _ hp))
          have C20 : Hid (a20.N ≤ 8 * n + 2 ∧ a20.L.hs.length ≤ 10 * n + 4 ∧ a20.B.hs.length ≤ 4 * n + 0 ∧ a20.F.hs.length ≤ 2 * n + 0) := by
            have := unhide C19
            exact ⟨by omega, by omega, by omega, by omega⟩
          clear hN hL hB hF hP hA hk hG Y20 X19 KE19 I19 C19 J19
          have Y21 := hide (book_vals x20 wm.heap.size wm.heap.size a20 [solo 40 3 V.length (.slice po V.length pc) (vcs V), solo 40 3 (T.length + 9) (.slice (some ⟨ig, 0, none⟩) (T.length + 9) ic) (vcs (T ++ roomsV 9)), solo 5 1 y.length (.slice eo y.length ec) (bs y), solo 5 1 y.length (.slice qo y.length qc) (bs y), solo 69 3 S.length (.slice fo S.length fc) (fcs S), solo 26 1 1 (.slice (some ⟨x8.heap.size, 0, none⟩) 1 1) [.slice fo S.length fc]] G20 _ _ V (unhide J20).size (unhide X20) (kinds_app (fun p hp => unhide KE20 p (List.mem_cons_of_mem _ hp)) (unhide I20)) (by rw [(unhide HR).nV]; omega) (by have := unhide C20; omega) (by have := unhide C20; omega))
          go_wp2_with fail
          refine (unhide Y21).mono ?_
          rintro e x21 ⟨rfl, a21, P21, ⟨hN, hL, hB, hF, hP⟩, hA, hk⟩
          have J21 := hide (narrowO (unhide J20) hk (fun q e => e))
          obtain ⟨G21, hG⟩ : ∃ G, G = P21 ++ G20 := ⟨_, rfl⟩
          have I21 := hide (kinds_app hP (unhide I20))
          rw [← hG] at hA I21
          have X21 := hide hA
          have KE21 := hide (fun (p : Rowp) (hp : p ∈ [solo 40 3 V.length (.slice po V.length pc) (vcs V), solo 40 3 (T.length + 9) (.slice (some ⟨ig, 0, none⟩) (T.length + 9) ic) (vcs (T ++ roomsV 9)), solo 5 1 y.length (.slice eo y.length ec) (bs y), solo 5 1 y.length (.slice qo y.length qc) (bs y), solo 69 3 S.length (.slice fo S.length fc) (fcs S), solo 26 1 1 (.slice (some ⟨x8.heap.size, 0, none⟩) 1 1) [.slice fo S.length fc]]) => unhide KE20 p (List.mem_cons_of_mem _ hp))
          have C21 : Hid (a21.N ≤ 8 * n + 3 ∧ a21.L.hs.length ≤ 10 * n + 6 ∧ a21.B.hs.length ≤ 4 * n + 0 ∧ a21.F.hs.length ≤ 2 * n + 0) := by
            have := unhide C20
            exact ⟨by omega, by omega, by omega, by omega⟩
          clear hN hL hB hF hP hA hk hG Y21 X20 KE20 I20 C20 J20
          have Y22 := hide (book_vals x21 wm.heap.size wm.heap.size a21 [solo 40 3 (T.length + 9) (.slice (some ⟨ig, 0, none⟩) (T.length + 9) ic) (vcs (T ++ roomsV 9)), solo 5 1 y.length (.slice eo y.length ec) (bs y), solo 5 1 y.length (.slice qo y.length qc) (bs y), solo 69 3 S.length (.slice fo S.length fc) (fcs S), solo 26 1 1 (.slice (some ⟨x8.heap.size, 0, none⟩) 1 1) [.slice fo S.length fc]] G21 _ _ V (unhide J21).size (unhide X21) (kinds_app (fun p hp => unhide KE21 p (List.mem_cons_of_mem _ hp)) (unhide I21)) (by rw [(unhide HR).nV]; omega) (by have := unhide C21; omega) (by have := unhide C21; omega))
          go_wp2_with fail
          refine (unhide Y22).mono ?_
          rintro e x22 ⟨rfl, a22, P22, ⟨hN, hL, hB, hF, hP⟩, hA, hk⟩
          have J22 := hide (narrowO (unhide J21) hk (fun q e => e))
          obtain ⟨G22, hG⟩ : ∃ G, G = P22 ++ G21 := ⟨_, rfl⟩
          have I22 := hide (kinds_app hP (unhide I21))
          rw [← hG] at hA I22
          have X22 := hide hA
          have KE22 := hide (fun (p : Rowp) (hp : p ∈ [solo 40 3 (T.length + 9) (.slice (some ⟨ig, 0, none⟩) (T.length + 9) ic) (vcs (T ++ roomsV 9)), solo 5 1 y.length (.slice eo y.length ec) (bs y), solo 5 1 y.length (.slice qo y.length qc) (bs y), solo 69 3 S.length (.slice fo S.length fc) (fcs S), solo 26 1 1 (.slice (some ⟨x8.heap.size, 0, none⟩) 1 1) [.slice fo S.length fc]]) => unhide KE21 p (List.mem_cons_of_mem _ hp))
          have C22 : Hid (a22.N ≤ 8 * n + 4 ∧ a22.L.hs.length ≤ 10 * n + 8 ∧ a22.B.hs.length ≤ 4 * n + 0 ∧ a22.F.hs.length ≤ 2 * n + 0) := by
            have := unhide C21
            exact ⟨by omega, by omega, by omega, by omega⟩
          clear hN hL hB hF hP hA hk hG Y22 X21 KE21 I21 C21 J21
          have X22b : Hid (BookAt x22 wm.heap.size wm.heap.size a22 [solo 40 3 T.length (.slice (some ⟨ig, 0, none⟩) T.length ic) (vcs T), solo 5 1 y.length (.slice eo y.length ec) (bs y), solo 5 1 y.length (.slice qo y.length qc) (bs y), solo 69 3 S.length (.slice fo S.length fc) (fcs S), solo 26 1 1 (.slice (some ⟨x8.heap.size, 0, none⟩) 1 1) [.slice fo S.length fc]] G22) := by
            have := unhide X22
            rw [vcs_app] at this
            exact this.shrink (vcs_length T)
          have KE22b : Hid (∀ p ∈ [solo 40 3 T.length (.slice (some ⟨ig, 0, none⟩) T.length ic) (vcs T), solo 5 1 y.length (.slice eo y.length ec) (bs y), solo 5 1 y.length (.slice qo y.length qc) (bs y), solo 69 3 S.length (.slice fo S.length fc) (fcs S), solo 26 1 1 (.slice (some ⟨x8.heap.size, 0, none⟩) 1 1) [.slice fo S.length fc]], p.e ≠ 46) := by
            intro p hp
            rcases List.mem_cons.1 hp with rfl | hp
            · exact (show (40 : Nat) ≠ 46 by decide)
            · exact unhide KE22 p (List.mem_cons_of_mem _ hp)
          clear X22 KE22
          have X22 := X22b
          have KE22 := KE22b
          clear X22b KE22b
          have Y23 := hide (book_vals x22 wm.heap.size wm.heap.size a22 [solo 5 1 y.length (.slice eo y.length ec) (bs y), solo 5 1 y.length (.slice qo y.length qc) (bs y), solo 69 3 S.length (.slice fo S.length fc) (fcs S), solo 26 1 1 (.slice (some ⟨x8.heap.size, 0, none⟩) 1 1) [.slice fo S.length fc]] G22 _ _ T (unhide J22).size (unhide X22) (kinds_app (fun p hp => unhide KE22 p (List.mem_cons_of_mem _ hp)) (unhide I22)) (by have := unhide HTL; have := unhide HKL; omega) (by have := unhide C22; omega) (by have := unhide C22; omega))
          go_wp2_with fail
          refine (unhide Y23).mono ?_
          rintro e x23 ⟨rfl, a23, P23, ⟨hN, hL, hB, hF, hP⟩, hA, hk⟩
          have J23 := hide (narrowO (unhide J22) hk (fun q e => e))
          obtain ⟨G23, hG⟩ : ∃ G, G = P23 ++ G22 := ⟨_, rfl⟩
          have I23 := hide (kinds_app hP (unhide I22))
          rw [← hG] at hA I23
          have X23 := hide hA
          have KE23 := hide (fun (p : Rowp) (hp : p ∈ [solo 5 1 y.length (.slice eo y.length ec) (bs y), solo 5 1 y.length (.slice qo y.length qc) (bs y), solo 69 3 S.length (.slice fo S.length fc) (fcs S), solo 26 1 1 (.slice (some ⟨x8.heap.size, 0, none⟩) 1 1) [.slice fo S.length fc]]) => unhide KE22 p (List.mem_cons_of_mem _ hp))
          have C23 : Hid (a23.N ≤ 8 * n + 5 ∧ a23.L.hs.length ≤ 10 * n + 10 ∧ a23.B.hs.length ≤ 4 * n + 0 ∧ a23.F.hs.length ≤ 2 * n + 0) := by
            have := unhide C22
            exact ⟨by omega, by omega, by omega, by omega⟩
          clear hN hL hB hF hP hA hk hG Y23 X22 KE22 I22 C22 J22
          have Y24 := hide (book_bytes x23 wm.heap.size wm.heap.size a23 [solo 5 1 y.length (.slice qo y.length qc) (bs y), solo 69 3 S.length (.slice fo S.length fc) (fcs S), solo 26 1 1 (.slice (some ⟨x8.heap.size, 0, none⟩) 1 1) [.slice fo S.length fc]] G23 _ _ y (unhide J23).size (unhide X23) (kinds_app (fun p hp => unhide KE23 p (List.mem_cons_of_mem _ hp)) (unhide I23)) (by omega) (by have := unhide C23; omega) (by have := unhide C23; omega))
          go_wp2_with fail
          refine (unhide Y24).mono ?_
          rintro e x24 ⟨rfl, a24, P24, ⟨hN, hL, hB, hF, hP⟩, hA, hk⟩
          have J24 := hide (narrowO (unhide J23) hk (fun q e => e))
          obtain ⟨G24, hG⟩ : ∃ G, G = P24 ++ G23 := ⟨_, rfl⟩
          have I24 := hide (kinds_app hP (unhide I23))
          rw [← hG] at hA I24
          have X24 := hide hA
          have KE24 := hide (fun (p : Rowp) (hp : p ∈ [solo 5 1 y.length (.slice qo y.length qc) (bs y), solo 69 3 S.length (.slice fo S.length fc) (fcs S), solo 26 1 1 (.slice (some ⟨x8.heap.size, 0, none⟩) 1 1) [.slice fo S.length fc]]) => unhide KE23 p (List.mem_cons_of_mem _ hp))
          have C24 : Hid (a24.N ≤ 8 * n + 6 ∧ a24.L.hs.length ≤ 10 * n + 10 ∧ a24.B.hs.length ≤ 4 * n + 2 ∧ a24.F.hs.length ≤ 2 * n + 0) := by
            have := unhide C23
            exact ⟨by omega, by omega, by omega, by omega⟩
          clear hN hL hB hF hP hA hk hG Y24 X23 KE23 I23 C23 J23
          have Y25 := hide (book_bytes x24 wm.heap.size wm.heap.size a24 [solo 69 3 S.length (.slice fo S.length fc) (fcs S), solo 26 1 1 (.slice (some ⟨x8.heap.size, 0, none⟩) 1 1) [.slice fo S.length fc]] G24 _ _ y (unhide J24).size (unhide X24) (kinds_app (fun p hp => unhide KE24 p (List.mem_cons_of_mem _ hp)) (unhide I24)) (by omega) (by have := unhide C24; omega) (by have := unhide C24; omega))
          go_wp2_with fail
          refine (unhide Y25).mono ?_
          rintro e x25 ⟨rfl, a25, P25, ⟨hN, hL, hB, hF, hP⟩, hA, hk⟩
          have J25 := hide (narrowO (unhide J24) hk (fun q e => e))
          obtain ⟨G25, hG⟩ : ∃ G, G = P25 ++ G24 := ⟨_, rfl⟩
          have I25 := hide (kinds_app hP (unhide I24))
          rw [← hG] at hA I25
          have X25 := hide hA
          have KE25 := hide (fun (p : Rowp) (hp : p ∈ [solo 69 3 S.length (.slice fo S.length fc) (fcs S), solo 26 1 1 (.slice (some ⟨x8.heap.size, 0, none⟩) 1 1) [.slice fo S.length fc]]) => unhide KE24 p (List.mem_cons_of_mem _ hp))
          have C25 : Hid (a25.N ≤ 8 * n + 7 ∧ a25.L.hs.length ≤ 10 * n + 10 ∧ a25.B.hs.length ≤ 4 * n + 4 ∧ a25.F.hs.length ≤ 2 * n + 0) := by
            have := unhide C24
            exact ⟨by omega, by omega, by omega, by omega⟩
          clear hN hL hB hF hP hA hk hG Y25 X24 KE24 I24 C24 J24
          have cb := own_at ((unhide X25).at_ (List.mem_cons_of_mem _ (List.mem_cons_self ..))).x (j := 0) (u := .slice fo S.length fc) rfl
          have Y26 := hide (book_fields x25 wm.heap.size wm.heap.size a25 [solo 26 1 1 (.slice (some ⟨x8.heap.size, 0, none⟩) 1 1) [.slice fo S.length fc]] G25 _ _ S (unhide J25).size (unhide X25) (kinds_app (fun p hp => unhide KE25 p (List.mem_cons_of_mem _ hp)) (unhide I25)) (by omega) (by have := unhide C25; omega) (by have := unhide C25; omega))
          go_wp2_with fail
          refine (unhide Y26).mono ?_
          rintro e x26 ⟨rfl, a26, P26, ⟨hN, hL, hB, hF, hP⟩, hA, hk⟩
          have J26 := hide (narrowO (unhide J25) hk (fun q e => e))
          obtain ⟨G26, hG⟩ : ∃ G, G = P26 ++ G25 := ⟨_, rfl⟩
          have I26 := hide (kinds_app hP (unhide I25))
          rw [← hG] at hA I26
          have X26 := hide hA
          have KE26 := hide (fun (p : Rowp) (hp : p ∈ [solo 26 1 1 (.slice (some ⟨x8.heap.size, 0, none⟩) 1 1) [.slice fo S.length fc]]) => unhide KE25 p (List.mem_cons_of_mem _ hp))
          have C26 : Hid (a26.N ≤ 8 * n + 8 ∧ a26.L.hs.length ≤ 10 * n + 10 ∧ a26.B.hs.length ≤ 4 * n + 4 ∧ a26.F.hs.length ≤ 2 * n + 2) := by
            have := unhide C25
            exact ⟨by omega, by omega, by omega, by omega⟩
          clear hN hL hB hF hP hA hk hG Y26 X25 KE25 I25 C25 J25
          clear cb
          have Y27 := hide (book_whole x26 wm.heap.size wm.heap.size a26 _ G26 (unhide X26) (by have := unhide C26; omega) (by have := unhide C26; omega) (by have := unhide C26; omega))
          go_wp2_with fail
          refine (unhide Y27).mono ?_
          rintro e x27 ⟨rfl, hk⟩
          have J27 := hide ((unhide J26).trans hk)
          have X27 := hide ((unhide X26).keepF hk).drop
          clear hk Y27 X26 J26 KE26
          go_wp2_with fail
          go_roundw
          case rel =>
            have := unhide C26
            exact ⟨n + 1, a26, G26, by omega, by go_num, ⟨by omega, by omega, by omega, by omega⟩, I26, X27, J27⟩
          case measure => simp [intOf]; omega
        · obtain rfl : n = 3 := by omega
          have i1 : ¬ (3 : Int) < 3 := by omega
          have Ae := hide (unhide HAm _ (unhide JB))
          have ce := (unhide Ae).cell
          have ze := (unhide Ae).lt
          clear BK HIT hcnt
          have Q40 := hide (roomed_v _ S _ V _ y _ t (unhide Ae).env (unhide Ae).flds (unhide Ae).vals (unhide Ae).byts (unhide HR).inV (by omega) (by rw [(unhide HR).nV]; omega) (by omega) (by omega))
          go_wp2_with fail
          refine (unhide Q40).mono ?_
          rintro e v1 ⟨rfl, hk1⟩
          have J1 := hide ((unhide JB).trans hk1)
          have A1 := hide (unhide HAm _ (unhide J1))
          have c1 := (unhide A1).cell
          have z1 := (unhide A1).lt
          clear hk1 Q40 Ae ce ze JB
          have Q41 := hide (strewn_v _ _ S _ _ _ _ V N y t s (unhide HR) (unhide A1).env (unhide A1).flds (unhide A1).vals (unhide A1).nons (unhide HOm _ (unhide J1)))
          go_wp2_with fail
          refine (unhide Q41).mono ?_
          rintro e v2 ⟨rfl, hk2⟩
          have J2 := hide ((unhide J1).trans hk2)
          have A2 := hide (unhide HAm _ (unhide J2))
          have c2 := (unhide A2).cell
          have z2 := (unhide A2).lt
          clear hk2 Q41 A1 c1 z1 J1
          have Q42 := hide (stale_v _ S _ _ _ _ V N y t s (unhide HR) (unhide A2).env (unhide A2).flds (unhide A2).vals (unhide A2).nons (unhide A2).byts)
          go_wp2_with fail
          refine (unhide Q42).mono ?_
          rintro e v3 ⟨rfl, hk3⟩
          have J3 := hide ((unhide J2).trans hk3)
          clear hk3 Q42 A2 c2 z2 J2
          go_wp2_with fail
          go_ret
          exact ⟨rfl, (unhide KM).trans (unhide J3)⟩
end Go.Proofs.YtklkhegeeglfbaaGreatDoor
