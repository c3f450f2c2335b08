import Derived.Test.YtoempeobaknkcaaGreatDoorJyan
namespace Go.Proofs.YtoempeobaknkcaaGreatDoor
open Go.RowKit Go.Maps

set_option maxRecDepth 100000 in
set_option maxHeartbeats 8000000 in
theorem strewn_v (sn sc pn pc qn qc : Nat) (so po qo : Option Addr) (A1 C1 A2 C2 : List Txt) (E1 E2 : Int) (w : World) (hA1 : A1.length ≤ 8) (hC1 : C1.length ≤ 8) (hA2 : A2.length ≤ 8) (hC2 : C2.length ≤ 8)
    (hP : ∀ w', Keeps (fun _ => False) w w' → Calls Tryz.prog 7 #[.agg #[.slice so sn sc], .slice po pn pc] w' (FdP A1 C1 E1 w')) (hQ : ∀ w', Keeps (fun _ => False) w w' → Calls Tryz.prog 7 #[.agg #[.slice so sn sc], .slice qo qn qc] w' (FdP A2 C2 E2 w')) :
    Calls Tryz.prog 10 #[.agg #[.slice so sn sc], .slice po pn pc, .slice qo qn qc] w fun e w' => e = .returned (.bool true) ∧ Keeps (fun _ => False) w w' := by
  obtain ⟨HKB, hxb, hxc⟩ := boxedT w #[.slice so sn sc] 24
  have HBX := hide (heap_alloc_new w (.cells #[.slice so sn sc] 24))
  have HP := hide hP
  have HQ := hide hQ
  have HLN := hide (And.intro hA1 (And.intro hC1 (And.intro hA2 hC2)))
  clear hP hQ hxb hxc hA1 hC1 hA2 hC2
  go_enter Tryz.func10, Tryz.ntmps10
  go_wp2_with fail
  go_loopw [7, 8] (fun lv iv wr => ∃ (i : Nat) (M : List Itm), iv = .int .i64 (i : Int) ∧ i ≤ 4 ∧ M.length = 2 * i ∧ Hid (Bag wr (w.heap.size + 1) M) ∧ Hid (wr.ownsRow (w.heap.size + 1) 29 1 lv (2 * i) (M.map Itm.vx)) ∧ Hid (Plain1 M) ∧ Hid (Keeps (fun _ => False) (w.alloc (.cells #[.slice so sn sc] 24)) wr)) (fun _ i _ => 4 - (intOf i).toNat)
  case atStart => exact ⟨0, [], rfl, by omega, rfl, Bag.nil, World.ownsRow_nil _ _ 29 1, (fun p h => by cases h), Keeps.refl _ _⟩
  case round =>
    obtain ⟨i, M, rfl, hi, hM, HB, HO, HP1, HK⟩ := hrel
    obtain ⟨lo, lc, rfl⟩ := (rowAt_own (unhide HO)).form
    have hcell := (cell_of_blk (((unhide HK).block _ (lt_of_block (unhide HBX)) id).trans (unhide HBX)) 0).trans (show _ = some (Value.slice so sn sc) from rfl)
    by_cases hlt : i < 4
    · have i1 : (i : Int) < 4 := by omega
      clear hlt
      go_upto_region 8 with fail
      · have HC := hide (unhide HQ _ ((unhide HKB).trans (unhide HK)))
        have HL8 := hide (And.intro (unhide HLN).2.2.1 (unhide HLN).2.2.2)
        go_upto_region 9 with (go_at_call 7; refine (unhide HC).mono ?_; rintro e w1 ⟨rv, wv, rfl, hr1, hw1, hap, hk1⟩; have HR1 := hide hr1; have HW1 := hide hw1; have HAP := hide hap; have HK1 := hide hk1; clear hr1 hw1 hap hk1)
        obtain ⟨ro, rc, rfl⟩ := (rowAt_own (unhide HR1)).form
        obtain ⟨wo, wc, rfl⟩ := (rowAt_own (unhide HW1)).form
        generalize hna : A2.length = na at *
        generalize hnc : C2.length = nc at *
        have hB0 : w.heap.size + 1 ≤ wr.heap.size := by have := (unhide HK).size; simpa using this
        have HB1 := hide ((unhide HB).new2 hB0 (unhide HK1) (unhide HR1) (unhide HW1) (unhide HAP))
        have HNX := hide (heap_alloc_new w1 (.cells #[.slice ro na rc, .slice wo nc wc] 29))
        have HKX : Hid (Keeps (fun _ => False) w1 (w1.alloc (.cells #[.slice ro na rc, .slice wo nc wc] 29))) := (Keeps.refl _ w1).alloc _
        have HOX := hide (ownsRow_kept (ownsRow_kept (unhide HO) (unhide HK1) (fun _ _ => id)) (unhide HKX) (fun _ _ => id))
        have HBX1 := hide ((unhide HB1).keepF (unhide HKX))
        have HKY := hide ((unhide HK).trans ((unhide HK1).trans (unhide HKX)))
        have HC0 := hide (show ∀ j u, [Value.slice ro na rc, Value.slice wo nc wc][j]? = some u → (w1.alloc (.cells #[.slice ro na rc, .slice wo nc wc] 29)).cell? ⟨w1.heap.size, j, none⟩ = some u from fun j u hj => by rw [cell_of_blk (unhide HNX) j]; simpa using hj)
        have hbs : w.heap.size + 1 ≤ (w1.alloc (.cells #[.slice ro na rc, .slice wo nc wc] 29)).heap.size := by have := (unhide HK1).size; simp; omega
        have h1000 : 2 * i + 2 ≤ 1000 := by omega
        clear HC HR1 HW1 HAP HK1 HB1 HKX HO HB HK hcell
        go_wp2_with (at_builtin; refine append_lists rfl _ _ rfl (w.heap.size + 1) _ (2 * i) _ rfl (unhide HOX) w1.heap.size 2 2 _ rfl rfl (unhide HC0) (by simp [Value.oneCell']) (by omega) h1000 hbs ?_)
        intro g5 cap5 w5 hg5
        have HO5 := hide hg5.own
        have hkg := hg5.keeps
        have HB5 := hide ((unhide HBX1).rowKeep (unhide HOX) hkg)
        have HK5 := hide (narrowO (unhide HKY) hkg (fun q e => by have := own_geO (unhide HOX) e; simp; omega))
        clear hg5 hkg
        go_wp2_with fail
        go_roundw
        case rel =>
          refine ⟨i + 1, M ++ [lone1 (.slice ro na rc) A2, lone1 (.slice wo nc wc) C2], by go_num, by omega, by simp [hM]; omega, (unhide HB5).perm (List.perm_append_comm (l₁ := [_, _])), ?_, fun p hp => ?_, HK5⟩
          · rw [List.map_append, show 2 * (i + 1) = 2 * i + 2 by omega]
            exact unhide HO5
          · rcases List.mem_append.1 hp with hp | hp
            · exact unhide HP1 p hp
            · simp only [List.mem_cons, List.not_mem_nil, or_false] at hp
              rcases hp with rfl | rfl
              · exact ⟨rfl, rfl, by show A2.length ≤ 8; rw [hna]; exact (unhide HL8).1⟩
              · exact ⟨rfl, rfl, by show C2.length ≤ 8; rw [hnc]; exact (unhide HL8).2⟩
        case measure => simp [intOf]; omega
      · have HC := hide (unhide HP _ ((unhide HKB).trans (unhide HK)))
        have HL8 := hide (And.intro (unhide HLN).1 (unhide HLN).2.1)
        go_upto_region 9 with (go_at_call 7; refine (unhide HC).mono ?_; rintro e w1 ⟨rv, wv, rfl, hr1, hw1, hap, hk1⟩; have HR1 := hide hr1; have HW1 := hide hw1; have HAP := hide hap; have HK1 := hide hk1; clear hr1 hw1 hap hk1)
        obtain ⟨ro, rc, rfl⟩ := (rowAt_own (unhide HR1)).form
        obtain ⟨wo, wc, rfl⟩ := (rowAt_own (unhide HW1)).form
        generalize hna : A1.length = na at *
        generalize hnc : C1.length = nc at *
        have hB0 : w.heap.size + 1 ≤ wr.heap.size := by have := (unhide HK).size; simpa using this
        have HB1 := hide ((unhide HB).new2 hB0 (unhide HK1) (unhide HR1) (unhide HW1) (unhide HAP))
        have HNX := hide (heap_alloc_new w1 (.cells #[.slice ro na rc, .slice wo nc wc] 29))
        have HKX : Hid (Keeps (fun _ => False) w1 (w1.alloc (.cells #[.slice ro na rc, .slice wo nc wc] 29))) := (Keeps.refl _ w1).alloc _
        have HOX := hide (ownsRow_kept (ownsRow_kept (unhide HO) (unhide HK1) (fun _ _ => id)) (unhide HKX) (fun _ _ => id))
        have HBX1 := hide ((unhide HB1).keepF (unhide HKX))
        have HKY := hide ((unhide HK).trans ((unhide HK1).trans (unhide HKX)))
        have HC0 := hide (show ∀ j u, [Value.slice ro na rc, Value.slice wo nc wc][j]? = some u → (w1.alloc (.cells #[.slice ro na rc, .slice wo nc wc] 29)).cell? ⟨w1.heap.size, j, none⟩ = some u from fun j u hj => by rw [cell_of_blk (unhide HNX) j]; simpa using hj)
        have hbs : w.heap.size + 1 ≤ (w1.alloc (.cells #[.slice ro na rc, .slice wo nc wc] 29)).heap.size := by have := (unhide HK1).size; simp; omega
        have h1000 : 2 * i + 2 ≤ 1000 := by omega
        clear HC HR1 HW1 HAP HK1 HB1 HKX HO HB HK hcell
        go_wp2_with (at_builtin; refine append_lists rfl _ _ rfl (w.heap.size + 1) _ (2 * i) _ rfl (unhide HOX) w1.heap.size 2 2 _ rfl rfl (unhide HC0) (by simp [Value.oneCell']) (by omega) h1000 hbs ?_)
        intro g5 cap5 w5 hg5
        have HO5 := hide hg5.own
        have hkg := hg5.keeps
        have HB5 := hide ((unhide HBX1).rowKeep (unhide HOX) hkg)
        have HK5 := hide (narrowO (unhide HKY) hkg (fun q e => by have := own_geO (unhide HOX) e; simp; omega))
        clear hg5 hkg
        go_wp2_with fail
        go_roundw
        case rel =>
          refine ⟨i + 1, M ++ [lone1 (.slice ro na rc) A1, lone1 (.slice wo nc wc) C1], by go_num, by omega, by simp [hM]; omega, (unhide HB5).perm (List.perm_append_comm (l₁ := [_, _])), ?_, fun p hp => ?_, HK5⟩
          · rw [List.map_append, show 2 * (i + 1) = 2 * i + 2 by omega]
            exact unhide HO5
          · rcases List.mem_append.1 hp with hp | hp
            · exact unhide HP1 p hp
            · simp only [List.mem_cons, List.not_mem_nil, or_false] at hp
              rcases hp with rfl | rfl
              · exact ⟨rfl, rfl, by show A1.length ≤ 8; rw [hna]; exact (unhide HL8).1⟩
              · exact ⟨rfl, rfl, by show C1.length ≤ 8; rw [hnc]; exact (unhide HL8).2⟩
        case measure => simp [intOf]; omega
    · obtain rfl : i = 4 := by omega
      have i1 : ¬ ((4 : Nat) : Int) < 4 := by omega
      obtain ⟨V, hV⟩ : ∃ V, V = M.map Itm.vx := ⟨_, rfl⟩
      have HO8 : Hid (wr.ownsRow (w.heap.size + 1) 29 1 (.slice lo 8 lc) 8 V) := by rw [hV]; exact unhide HO
      have hVl : V.length = 8 := by rw [hV]; simp [hM]
      have HVV := hide hV
      have HPP := hide HP1
      obtain ⟨w8, hw8⟩ : ∃ W, W = wr := ⟨_, rfl⟩
      clear hcell HO hi hlt
      go_wp2_with fail
      go_loopw [13] (fun iv wr => ∃ (D T : List Itm), iv = .int .i64 (D.length : Int) ∧ D.length + T.length = 8 ∧ Hid ((D ++ T).map Itm.vx = V) ∧ Hid (Bag wr (w.heap.size + 1) (D ++ T)) ∧ Hid (wr.ownsRow (w.heap.size + 1) 29 1 (.slice lo 8 lc) 8 V) ∧ Hid (Plain1 (D ++ T)) ∧ Hid (Marked D) ∧ Hid (Keeps (fun _ => False) (w.alloc (.cells #[.slice so sn sc] 24)) wr)) (fun i _ => 8 - (intOf i).toNat)
      case atStart => exact ⟨[], M, rfl, by simpa using hM, hV.symm, HB, HO8, HP1, (fun k p h => by simp at h), HK⟩
      case round =>
        clear HB HO8 HP1 HK HPP hV HVV hM
        obtain ⟨D, T, rfl, hDT, HV, HB, HO, HP1, HMK, HK⟩ := hrel
        have hro := unhide HO
        obtain ⟨lg, rfl, hlc⟩ := own_some hro (by omega)
        cases T with
        | nil =>
          simp only [List.length_nil, Nat.add_zero] at hDT
          have hD8 : (D.length : Int) = 8 := by omega
          have i1 : ¬ (D.length : Int) < 8 := by omega
          have HB0 := hide (show Bag wr (w.heap.size + 1) ([] ++ D) from by have := unhide HB; simpa using this)
          have HV0 := hide (show (([] ++ D).map Itm.vx = V) from by have := unhide HV; simpa using this)
          have HP0 := hide (show Plain1 D from by have := unhide HP1; simpa using this)
          clear HB HV HP1 hro
          go_wp2_with fail
          rename World => w9
          go_loopw [15, 16] (fun mv iv wr => ∃ (E T : List Itm), iv = .int .i64 (E.length : Int) ∧ E.length + T.length = 8 ∧ Hid ((E ++ T).map Itm.vx = V) ∧ Hid (Bag wr (w.heap.size + 1) (E ++ T)) ∧ Hid (wr.ownsRow (w.heap.size + 1) 29 1 (.slice (some ⟨lg, 0, none⟩) 8 lc) 8 V) ∧ Hid (wr.ownsRow (w.heap.size + 1) 29 1 mv E.length (E.map Itm.vm)) ∧ Hid (mv.ownBlock ≠ some lg) ∧ Hid (Plain1 T) ∧ Hid (Marked (E ++ T)) ∧ Hid (Grown E) ∧ Hid (Keeps (fun _ => False) (w.alloc (.cells #[.slice so sn sc] 24)) wr)) (fun _ i _ => 8 - (intOf i).toNat)
          case atStart => exact ⟨[], D, rfl, by simpa using hDT, HV0, HB0, HO, World.ownsRow_nil _ _ 29 1, (fun h => by cases h), HP0, HMK, (fun k p h => by simp at h), HK⟩
          case round =>
            clear HV0 HB0 HO HP0 HMK HK hD8 i1
            obtain ⟨E, T, rfl, hET, HV, HB, HO, HM, HNL, HP1, HMK, HGR, HK⟩ := hrel
            have hro := unhide HO
            obtain ⟨mo, mc, rfl⟩ := (rowAt_own (unhide HM)).form
            cases T with
            | nil =>
              simp only [List.length_nil, Nat.add_zero] at hET
              have i1 : ¬ (E.length : Int) < 8 := by omega
              have HFN := hide (fun (i : Nat) (hi : i < 8) => (show FinAt wr V (E.map Itm.vm) i from by
                have := final_at (unhide HB) (by have := unhide HMK; simpa using this) (by have := unhide HGR; simpa using this) i (by have := hET; simp; omega)
                have e := unhide HV
                simp only [List.append_nil] at e this
                rwa [e] at this))
              obtain ⟨mlg, rfl, hmc⟩ := own_some (unhide HM) (by omega)
              have HVc := hide (fun (i : Nat) (hi : i < 8) (W : World) (hk : Keeps (fun _ => False) wr W) => (show W.cell? ⟨lg, i, none⟩ = V[i]? from (hk.cell (own_lt hro rfl) id).trans (hro.cellAt i (by omega))))
              have HMc := hide (fun (i : Nat) (hi : i < 8) (W : World) (hk : Keeps (fun _ => False) wr W) => (show W.cell? ⟨mlg, i, none⟩ = (E.map Itm.vm)[i]? from (hk.cell (own_lt (unhide HM) rfl) id).trans ((unhide HM).cellAt i (by omega))))
              obtain ⟨MV, hMV⟩ : ∃ MV, MV = E.map Itm.vm := ⟨_, rfl⟩
              rw [← hMV] at HFN HMc
              generalize E.length = en at *
              subst hET
              clear hMV HV HB HO HM HNL HP1 HMK HGR hro
              rename World => w9b
              go_wp2_with fail
              go_loopw [19] (fun iv wr => ∃ i : Nat, iv = .int .i64 (i : Int) ∧ i ≤ 8 ∧ Hid (Keeps (fun _ => False) w9b wr)) (fun i _ => 8 - (intOf i).toNat)
              case atStart => exact ⟨0, rfl, by omega, Keeps.refl _ _⟩
              case round =>
                obtain ⟨i, rfl, hi, HK9⟩ := hrel
                by_cases hlt : i < 8
                · have i3 : (i : Int) < 8 := by omega
                  have i4 : (0 : Int) ≤ (i : Int) := by omega
                  obtain ⟨vo, vc, n, mg, mc, hVi, hMi, hn8, hmg, hcs, hds⟩ := unhide HFN i hlt
                  have HCS := hide hcs
                  have HDS := hide hds
                  have HL := hide (fun (W : World) (hk : Keeps (fun _ => False) w9b W) => (unhide HVc i hlt W hk).trans hVi)
                  have HLm := hide (fun (W : World) (hk : Keeps (fun _ => False) w9b W) => (unhide HMc i hlt W hk).trans hMi)
                  clear hcs hds hVi hMi
                  go_wp2_with fail
                  rename World => wq0
                  go_loopw [20] (fun jv wr => ∃ j : Nat, jv = .int .i64 (j : Int) ∧ j ≤ n + 64 ∧ Hid (Keeps (fun _ => False) w9b wr)) (fun i _ => n + 64 - (intOf i).toNat)
                  case atStart => exact ⟨0, rfl, by omega, HK9⟩
                  case round =>
                    clear HK9
                    obtain ⟨j, rfl, hj, HK9⟩ := hrel
                    have m0 := unhide HLm _ (unhide HK9)
                    by_cases hjl : j < n + 64
                    · have i5 : (j : Int) < ((n + 64 : Nat) : Int) := by omega
                      have i6 : (0 : Int) ≤ (j : Int) := by omega
                      have hcv := conv2 (wr.alloc (.cells #[.int .u8 109, .int .u8 (48 + (i : Int))] 5)) wr.heap.size 109 i hlt 109 rfl (heap_alloc_new wr _)
                      have hkA : Keeps (fun _ => False) wr (wr.alloc (.cells #[.int .u8 109, .int .u8 (48 + (i : Int))] 5)) := (Keeps.refl _ wr).alloc _
                      have hk1 := (unhide HK9).trans hkA
                      have v1 := unhide HL _ hk1
                      have m1 := unhide HLm _ hk1
                      by_cases hjn : j < n
                      · have i7 : (j : Int) < (n : Int) := by omega
                        obtain ⟨hc1, vg, rfl, hvg, hc2⟩ := unhide HCS j hjn
                        have c1 := (hk1.cell hmg id).trans hc1
                        have c2 := (hk1.cell hvg id).trans hc2
                        have HKN := hide hk1
                        clear hc1 hc2 hk1 hkA hjl HK9
                        go_wp2_with fail
                        go_roundw
                        case rel => exact ⟨j + 1, by go_num, by omega, HKN⟩
                        case measure => simp [intOf]; omega
                      · have i7 : ¬ (j : Int) < (n : Int) := by omega
                        have hcv2 := conv2 ((wr.alloc (.cells #[.int .u8 109, .int .u8 (48 + (i : Int))] 5)).alloc (.cells #[.int .u8 103, .int .u8 (48 + (i : Int))] 5)) (wr.heap.size + 1) 103 i hlt 103 rfl (by have := heap_alloc_new (wr.alloc (.cells #[.int .u8 109, .int .u8 (48 + (i : Int))] 5)) (.cells #[.int .u8 103, .int .u8 (48 + (i : Int))] 5); simpa using this)
                        have hk2 := hk1.trans ((Keeps.refl (fun _ => False) (wr.alloc (.cells #[.int .u8 109, .int .u8 (48 + (i : Int))] 5))).alloc (.cells #[.int .u8 103, .int .u8 (48 + (i : Int))] 5))
                        have v2 := unhide HL _ hk2
                        have m2 := unhide HLm _ hk2
                        have c1 := (hk2.cell hmg id).trans (unhide HDS j (by omega) hjl)
                        have HKN := hide hk2
                        clear hk1 hkA hk2 hjl HK9
                        go_wp2_with fail
                        go_roundw
                        case rel => exact ⟨j + 1, by go_num, by omega, HKN⟩
                        case measure => simp [intOf]; omega
                    · obtain rfl : j = n + 64 := by omega
                      have i5 : ¬ ((n + 64 : Nat) : Int) < ((n + 64 : Nat) : Int) := by omega
                      go_wp2_with fail
                      go_roundw
                      case rel => exact ⟨i + 1, by go_num, by omega, HK9⟩
                      case measure => simp [intOf]; omega
                · obtain rfl : i = 8 := by omega
                  have i3 : ¬ ((8 : Nat) : Int) < 8 := by omega
                  go_wp2_with fail
                  go_ret
                  exact ⟨rfl, (unhide HKB).trans ((unhide HK).trans (unhide HK9))⟩
            | cons p T =>
              simp only [List.length_cons] at hET
              have i1 : (E.length : Int) < 8 := by omega
              have i2 : (0 : Int) ≤ (E.length : Int) := by omega
              obtain ⟨hq1, hq2, hq3⟩ := unhide HP1 p (by simp)
              obtain ⟨vo, vc, n, X, rfl, hXn⟩ := plain_form ((unhide HB).all _ (List.mem_append_right E (List.mem_cons_self ..))) hq1 hq2
              have hn8 : n ≤ 8 := by rw [← hXn]; exact hq3
              have HXN := hide hXn
              have hVk : V[E.length]? = some (.slice vo n vc) := by rw [← unhide HV]; simp [lone1]
              clear hq1 hq2 hq3 hXn
              have v0 := (hro.cellAt E.length (by omega)).trans hVk
              have hDD : E.length < 8 := by omega
              have HB1 := hide (show Bag wr (w.heap.size + 1) (⟨.slice vo n vc, X, .slice vo n vc, List.replicate 0 (gT E.length)⟩ :: (E ++ T)) from (unhide HB).perm List.perm_middle)
              clear hro
              go_wp2_with fail
              rename World => wq0
              go_loopw [17, 18] (fun gv iv wr => ∃ (j : Nat) (mo2 : Option Addr) (mc2 : Nat), iv = .int .i64 (j : Int) ∧ gv = .slice mo2 (n + j) mc2 ∧ j ≤ 64 ∧ Hid (Bag wr (w.heap.size + 1) (⟨.slice vo n vc, X, .slice mo2 (n + j) mc2, List.replicate j (gT E.length)⟩ :: (E ++ T))) ∧ Hid (wr.ownsRow (w.heap.size + 1) 29 1 (.slice (some ⟨lg, 0, none⟩) 8 lc) 8 V) ∧ Hid (wr.ownsRow (w.heap.size + 1) 29 1 (.slice mo E.length mc) E.length (E.map Itm.vm)) ∧ Hid (Keeps (fun _ => False) (w.alloc (.cells #[.slice so sn sc] 24)) wr)) (fun _ i _ => 64 - (intOf i).toNat)
              case atStart => exact ⟨0, vo, vc, rfl, rfl, by omega, HB1, HO, HM, HK⟩
              case round =>
                clear HB HB1 HO HM HK v0
                obtain ⟨j, go, gc, rfl, rfl, hj, HB, HO, HM, HK⟩ := hrel
                by_cases hlt : j < 64
                · have i3 : (j : Int) < 64 := by omega
                  have hcv := conv2 (wr.alloc (.cells #[.int .u8 103, .int .u8 (48 + (E.length : Int))] 5)) wr.heap.size 103 E.length hDD 103 rfl (heap_alloc_new wr _)
                  have hs1 : (wr.alloc (.cells #[.int .u8 103, .int .u8 (48 + (E.length : Int))] 5)).heap.size = wr.heap.size + 1 := by simp
                  have HN2 := hide (heap_alloc_new (wr.alloc (.cells #[.int .u8 103, .int .u8 (48 + (E.length : Int))] 5)) (.cells #[.string ⟨#[103, 48 + UInt8.ofNat E.length]⟩] 9))
                  have hkA : Keeps (fun _ => False) wr ((wr.alloc (.cells #[.int .u8 103, .int .u8 (48 + (E.length : Int))] 5)).alloc (.cells #[.string ⟨#[103, 48 + UInt8.ofNat E.length]⟩] 9)) := ((Keeps.refl _ wr).alloc _).alloc _
                  have HBA := hide ((unhide HB).keepF hkA)
                  have HOA := hide (ownsRow_kept (unhide HO) hkA (fun _ _ => id))
                  have HMA := hide (ownsRow_kept (unhide HM) hkA (fun _ _ => id))
                  have HKA := hide ((unhide HK).trans hkA)
                  have hlen : (X ++ List.replicate j (gT E.length)).length = n + j := by simp [unhide HXN]
                  have HLN2 := hide hlen
                  have hrm : ((wr.alloc (.cells #[.int .u8 103, .int .u8 (48 + (E.length : Int))] 5)).alloc (.cells #[.string ⟨#[103, 48 + UInt8.ofNat E.length]⟩] 9)).ownsRow (w.heap.size + 1) 9 1 (.slice go (n + j) gc) (n + j) (nmC (X ++ List.replicate j (gT E.length))) := by
                    have := ((unhide HBA).all _ (List.mem_cons_self ..)).2
                    unfold NmAt at this
                    rwa [hlen] at this
                  have HRM := hide hrm
                  have hbs : w.heap.size + 1 ≤ ((wr.alloc (.cells #[.int .u8 103, .int .u8 (48 + (E.length : Int))] 5)).alloc (.cells #[.string ⟨#[103, 48 + UInt8.ofNat E.length]⟩] 9)).heap.size := by have := (unhide HKA).size; simpa using this
                  have HC0 : Hid (((wr.alloc (.cells #[.int .u8 103, .int .u8 (48 + (E.length : Int))] 5)).alloc (.cells #[.string ⟨#[103, 48 + UInt8.ofNat E.length]⟩] 9)).cell? ⟨wr.heap.size + 1, 0, none⟩ = some (str (gT E.length))) := by
                    have := cell_of_blk (unhide HN2) 0
                    rw [hs1] at this
                    exact this
                  have HBS := hide hbs
                  have hl4 : n + j + 1 ≤ 4398046511104 := by omega
                  clear HB HO HM HK hkA hlen hrm hbs hlt HN2 hs1
                  go_wp2_with (at_builtin; refine append_txt rfl _ _ rfl (w.heap.size + 1) _ (n + j) _ rfl (unhide HRM) (wr.heap.size + 1) 1 (gT E.length) rfl (unhide HC0) hl4 (unhide HBS) ?_)
                  intro g5 cap5 w5 hg5
                  have HBn := hide ((unhide HBA).grow1 (unhide HLN2) hg5)
                  have hkg := hg5.keeps
                  have hap := (unhide HBA).all _ (List.mem_cons_self ..)
                  have hin : ∀ q, (Value.slice go (n + j) gc).ownBlock = some q → (⟨.slice vo n vc, X, .slice go (n + j) gc, List.replicate j (gT E.length)⟩ : Itm).has q := fun q e => Or.inr e
                  have HOn := hide (row_bag (unhide HOA) hap hkg (fun q e _ => hin q e))
                  have HMn := hide (row_bag (unhide HMA) hap hkg (fun q e _ => hin q e))
                  have HKn := hide (narrowO (unhide HKA) hkg (fun q e => by have := (hap.lt (hin q e)).1; simpa using this))
                  rw [← List.replicate_succ'] at HBn
                  clear hg5 hkg hap hin hcv HBA HOA HMA HKA HRM HBS HC0 HLN2
                  go_wp2_with fail
                  go_roundw
                  case rel => exact ⟨j + 1, _, _, by go_num, rfl, by omega, HBn, HOn, HMn, HKn⟩
                  case measure => simp [intOf]; omega
                · obtain rfl : j = 64 := by omega
                  have i3 : ¬ ((64 : Nat) : Int) < 64 := by omega
                  have hkA : Keeps (fun _ => False) wr (wr.alloc (.cells #[.slice go (n + 64) gc] 29)) := (Keeps.refl _ wr).alloc _
                  have HBA := hide ((unhide HB).keepF hkA)
                  have HOA := hide (ownsRow_kept (unhide HO) hkA (fun _ _ => id))
                  have HMA := hide (ownsRow_kept (unhide HM) hkA (fun _ _ => id))
                  have HKA := hide ((unhide HK).trans hkA)
                  have HN2 := hide (heap_alloc_new wr (.cells #[.slice go (n + 64) gc] 29))
                  have HC0 := hide (show ∀ j u, [Value.slice go (n + 64) gc][j]? = some u → (wr.alloc (.cells #[.slice go (n + 64) gc] 29)).cell? ⟨wr.heap.size, j, none⟩ = some u from fun j u hj => by rw [cell_of_blk (unhide HN2) j]; simpa using hj)
                  have hbs : w.heap.size + 1 ≤ (wr.alloc (.cells #[.slice go (n + 64) gc] 29)).heap.size := by have := (unhide HKA).size; simpa using this
                  have HBS := hide hbs
                  have h1000 : E.length + 1 ≤ 1000 := by omega
                  clear hlt HB HO HM HK hkA hbs HN2
                  go_wp2_with (at_builtin; refine append_lists rfl _ _ rfl (w.heap.size + 1) _ E.length _ rfl (unhide HMA) wr.heap.size 1 1 _ rfl rfl (unhide HC0) (by simp [Value.oneCell']) (by omega) h1000 (unhide HBS) ?_)
                  intro g5 cap5 w5 hg5
                  have hkg := hg5.keeps
                  have HBn := hide (((((unhide HBA).rowKeep (unhide HMA) hkg).perm List.perm_middle.symm).perm (show (E ++ (⟨.slice vo n vc, X, .slice go (n + 64) gc, List.replicate 64 (gT E.length)⟩ : Itm) :: T).Perm ((E ++ [(⟨.slice vo n vc, X, .slice go (n + 64) gc, List.replicate 64 (gT E.length)⟩ : Itm)]) ++ T) by simp)))
                  have HOn := hide (ownsRow_kept (unhide HOA) hkg (fun q e f => unhide HNL (by rw [f]; exact e.symm)))
                  have HMn := hide hg5.own
                  have HKn := hide (narrowO (unhide HKA) hkg (fun q e => by have := own_geO (unhide HMA) e; simpa using this))
                  have HNn : Hid ((Value.slice (some ⟨g5, 0, none⟩) (E.length + 1) cap5).ownBlock ≠ some lg) := by
                    intro e
                    have e' : g5 = lg := by simpa [Value.ownBlock] using e
                    have hlg := own_lt (unhide HOA) (k := lg) rfl
                    rcases hg5.how with ⟨h1, _⟩ | ⟨h1, _⟩
                    · exact unhide HNL (by rw [h1, e']; rfl)
                    · omega
                  have HVn : Hid (((E ++ [(⟨.slice vo n vc, X, .slice go (n + 64) gc, List.replicate 64 (gT E.length)⟩ : Itm)]) ++ T).map Itm.vx = V) := by
                    have := unhide HV
                    show _ = _
                    simpa [lone1] using this
                  have HPn : Hid (Plain1 T) := fun p hp => unhide HP1 p (List.mem_cons_of_mem _ hp)
                  have HMKn : Hid (Marked ((E ++ [(⟨.slice vo n vc, X, .slice go (n + 64) gc, List.replicate 64 (gT E.length)⟩ : Itm)]) ++ T)) := by
                    intro q p hp
                    rw [List.append_assoc] at hp
                    by_cases hq : q = E.length
                    · subst hq
                      have := unhide HMK E.length (lone1 (.slice vo n vc) X) (by simp)
                      simp at hp
                      subst hp
                      exact this
                    · refine unhide HMK q p ?_
                      by_cases hq2 : q < E.length
                      · rw [List.getElem?_append_left hq2] at hp ⊢
                        exact hp
                      · rw [List.getElem?_append_right (by omega)] at hp ⊢
                        obtain ⟨z, hz⟩ : ∃ z, q - E.length = z + 1 := ⟨q - E.length - 1, by omega⟩
                        rw [hz] at hp ⊢
                        simpa using hp
                  have HGn : Hid (Grown (E ++ [(⟨.slice vo n vc, X, .slice go (n + 64) gc, List.replicate 64 (gT E.length)⟩ : Itm)])) := by
                    intro q p hp
                    by_cases hq2 : q < E.length
                    · rw [List.getElem?_append_left hq2] at hp
                      exact unhide HGR q p hp
                    · rw [List.getElem?_append_right (by omega)] at hp
                      have hq0 : q - E.length = 0 := by
                        cases hh : q - E.length with
                        | zero => rfl
                        | succ z => rw [hh] at hp; simp at hp
                      rw [hq0] at hp
                      simp at hp
                      subst hp
                      obtain rfl : q = E.length := by omega
                      exact ⟨rfl, by show X.length ≤ 8; rw [unhide HXN]; exact hn8⟩
                  clear hg5 hkg HBA HOA HMA HKA HC0 HBS HV HP1 HMK HGR HNL HXN
                  go_wp2_with fail
                  go_roundw
                  case rel =>
                    refine ⟨E ++ [(⟨.slice vo n vc, X, .slice go (n + 64) gc, List.replicate 64 (gT E.length)⟩ : Itm)], T, by simp, by first | omega | (simp; done) | (simp; omega), HVn, HBn, HOn, ?_, HNn, HPn, HMKn, HGn, HKn⟩
                    rw [List.length_append, List.map_append]
                    exact HMn
                  case measure => simp [intOf]; omega
        | cons p T =>
          simp only [List.length_cons] at hDT
          have i1 : (D.length : Int) < 8 := by omega
          have i2 : (0 : Int) ≤ (D.length : Int) := by omega
          obtain ⟨hq1, hq2, hq3⟩ := unhide HP1 p (by simp)
          obtain ⟨vo, vc, n, X, rfl, hXn⟩ := plain_form ((unhide HB).all _ (List.mem_append_right D (List.mem_cons_self ..))) hq1 hq2
          have hn8 : n ≤ 8 := by rw [← hXn]; exact hq3
          have HXN := hide hXn
          have hVk : V[D.length]? = some (.slice vo n vc) := by rw [← unhide HV]; simp [lone1]
          clear hq1 hq2 hq3 hXn
          have v0 := (hro.cellAt D.length (by omega)).trans hVk
          have hDD : D.length < 8 := by omega
          clear hro
          go_wp2_with fail
          rename World => wq0
          go_loopw [14] (fun iv wq => ∃ (j : Nat) (X' : List Txt), iv = .int .i64 (j : Int) ∧ j ≤ n ∧ Hid (X' = overL X (mT D.length) j) ∧ Hid (Bag wq (w.heap.size + 1) (lone1 (.slice vo n vc) X' :: (D ++ T))) ∧ Hid (wq.ownsRow (w.heap.size + 1) 29 1 (.slice (some ⟨lg, 0, none⟩) 8 lc) 8 V) ∧ Hid (Keeps (fun _ => False) (w.alloc (.cells #[.slice so sn sc] 24)) wq)) (fun i _ => n - (intOf i).toNat)
          case atStart => exact ⟨0, X, rfl, by omega, (overL_zero _ _).symm, (unhide HB).perm List.perm_middle, HO, HK⟩
          case round =>
            clear HB HO HK
            obtain ⟨j, X', rfl, hj, HX', HB, HO, HK⟩ := hrel
            have hro := unhide HO
            have v0 := (hro.cellAt D.length (by omega)).trans hVk
            by_cases hlt : j < n
            · have i3 : (j : Int) < (n : Int) := by omega
              have i4 : (0 : Int) ≤ (j : Int) := by omega
              have hX'n : X'.length = n := by rw [unhide HX', overL_len (by rw [unhide HXN]; exact hj), unhide HXN]
              have hat := one_row ((unhide HB).all _ (List.mem_cons_self ..)) hX'n
              obtain ⟨vg, rfl, hvc⟩ := own_some hat (by omega)
              obtain ⟨d0, c0⟩ : ∃ d, wr.cell? ⟨vg, j, none⟩ = some d := ⟨_, (hat.cellAt j (by omega)).trans (List.getElem?_eq_getElem (by rw [nmC_len]; omega))⟩
              have f0 := hat.frozenAt j
              clear hro hat hlt
              go_upto_region 16 with fail
              have hcv := conv2 (wr.alloc (.cells #[.int .u8 109, .int .u8 (48 + (D.length : Int))] 5)).drew wr.heap.size 109 D.length hDD 109 rfl (heap_alloc_new wr _)
              have hkA : Keeps (fun _ => False) wr (wr.alloc (.cells #[.int .u8 109, .int .u8 (48 + (D.length : Int))] 5)).drew := ((Keeps.refl _ wr).alloc _).drew
              have v1 := (hkA.cell (own_lt (unhide HO) rfl) id).trans v0
              have hvg := own_lt (one_row ((unhide HB).all _ (List.mem_cons_self ..)) hX'n) rfl
              have c1 := (hkA.cell hvg id).trans c0
              have f1 := (one_row (((unhide HB).keepF hkA).all _ (List.mem_cons_self ..)) hX'n).frozenAt j
              go_region
              have hp := (unhide HB).all _ (List.mem_cons_self ..)
              have hks : Keeps (fun q => q = vg) wr (wr.setCell ⟨vg, j, none⟩ (str (mT D.length))) := keeps_set _ _ _ _
              have hkt : Keeps (fun _ => False) (wr.setCell ⟨vg, j, none⟩ (str (mT D.length))) (((wr.setCell ⟨vg, j, none⟩ (str (mT D.length))).alloc (.cells #[.int .u8 109, .int .u8 (48 + (D.length : Int))] 5)).drew) := ((Keeps.refl _ _).alloc _).drew
              have HBn := hide (((unhide HB).set (j := j) (m := mT D.length)).keepF hkt)
              have HOn := hide (ownsRow_kept (row_bag (unhide HO) hp hks (fun q e _ => Or.inl (by rw [e]; rfl))) hkt (fun _ _ => id))
              have HKn := hide ((narrowO (unhide HK) hks (fun q e => by have := (hp.lt (b := q) (Or.inl (by rw [e]; rfl))).1; simpa using this)).trans hkt)
              have hov := overL_set (l := X) (c := mT D.length) (k := j) (by rw [unhide HXN]; omega)
              rw [unhide HX', hov] at HBn
              clear hcv hkA v1 hvg c1 f1 hp hks hkt HB HO HK HX' c0 f0 v0 hov
              go_wp2_with fail
              go_roundw
              case rel => exact ⟨j + 1, _, by go_num, by omega, rfl, HBn, HOn, HKn⟩
              case measure => simp [intOf]; omega
            · obtain rfl : j = n := by omega
              have i3 : ¬ (j : Int) < (j : Int) := by omega
              have hXe : X' = List.replicate j (mT D.length) := by
                have := unhide HX'
                rw [show j = X.length from (unhide HXN).symm, overL_end] at this
                rw [this, unhide HXN]
              have HBe := hide (((unhide HB).perm List.perm_middle.symm).perm (show (D ++ lone1 (.slice vo j vc) X' :: T).Perm ((D ++ [lone1 (.slice vo j vc) X']) ++ T) by simp))
              have HVe : Hid (((D ++ [lone1 (.slice vo j vc) X']) ++ T).map Itm.vx = V) := by
                have := unhide HV
                show _ = _
                simpa [lone1] using this
              have HPe : Hid (Plain1 ((D ++ [lone1 (.slice vo j vc) X']) ++ T)) := by
                intro p hp
                rw [List.append_assoc] at hp
                rcases List.mem_append.1 hp with hp | hp
                · exact unhide HP1 p (by simp [hp])
                · rcases List.mem_append.1 hp with hp | hp
                  · obtain rfl := List.mem_singleton.1 hp
                    exact ⟨rfl, rfl, by show X'.length ≤ 8; rw [hXe]; simpa using hn8⟩
                  · exact unhide HP1 p (by simp [hp])
              have HMe : Hid (Marked (D ++ [lone1 (.slice vo j vc) X'])) := by
                intro q p hp
                by_cases hq : q < D.length
                · rw [List.getElem?_append_left hq] at hp
                  exact unhide HMK q p hp
                · rw [List.getElem?_append_right (by omega)] at hp
                  have hq0 : q - D.length = 0 := by
                    cases hh : q - D.length with
                    | zero => rfl
                    | succ z => rw [hh] at hp; simp at hp
                  rw [hq0] at hp
                  simp at hp
                  subst hp
                  obtain rfl : q = D.length := by omega
                  show X' = List.replicate X'.length _
                  rw [hXe]
                  simp
              clear hro HB HX' HV HP1 HMK hXe hlt HXN
              go_wp2_with fail
              go_roundw
              case rel => exact ⟨D ++ [lone1 (.slice vo j vc) X'], T, by simp, by first | omega | (simp; done) | (simp; omega), HVe, HBe, HO, HPe, HMe, HK⟩
              case measure => simp [intOf]; omega
end Go.Proofs.YtoempeobaknkcaaGreatDoor
