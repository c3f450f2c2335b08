import Derived.Test.YtklkhegeeglfbaaGreatDoorGN
namespace Go.Proofs.YtklkhegeeglfbaaGreatDoor
open Go.RowKit Go.Maps

/-- Book.fields: a schema's fields are written full and grown, and both are kept. -/
def fieldsOut (w w' : World) (B b : Nat) (a : BookA) (E its : List Rowp) : Prop :=
  ∃ (a' : BookA) (P : List Rowp), (a'.N = a.N + 1 ∧ a'.F.hs.length = a.F.hs.length + 2 ∧ a'.L.hs.length = a.L.hs.length ∧ a'.B.hs.length = a.B.hs.length ∧ ∀ p ∈ P, p.e ≠ 46) ∧ BookAt w' B b a' E (P ++ its) ∧ Keeps (fun q => B ≤ q) w w'

set_option maxRecDepth 100000 in
set_option maxHeartbeats 8000000 in
theorem book_fields (w : World) (B b : Nat) (a : BookA) (E its : List Rowp) (vo : Option Addr) (vc : Nat) (X : List FieldA) (hB : B ≤ w.heap.size) (hA : BookAt w B b a (solo 69 3 X.length (.slice vo X.length vc) (fcs X) :: E) its) (hk : ∀ p ∈ E ++ its, p.e ≠ 46) (hn : X.length ≤ 100000) (hN : a.N ≤ 1000000) (hL : a.F.hs.length ≤ 1000000) :
    Calls Tryz.prog 25 #[.pointer (some ⟨b, 0, none⟩), .agg #[.slice vo X.length vc]] w fun e w' => e = .returned (.tuple #[]) ∧ fieldsOut w w' B b a E its := by
  have p6 := cell_of_blk hA.box 6
  have f6 := frozen_of_blk hA.box 6
  unfold BookA.cells at p6
  simp at p6
  have HV := hide (Mid.startF hA hk hB)
  have HA := hide hA
  have i0 : (a.N : Int) ≤ 1000000 := by omega
  have i00 : (0 : Int) ≤ (a.N : Int) := by omega
  have hbl : b < w.heap.size := lt_of_block hA.box
  have hbn : b ≠ w.heap.size := by omega
  clear hA hk hB
  go_enter Tryz.func25, Tryz.ntmps25
  go_wp2_with fail
  go_loopw [5] (fun iv wr => ∃ i : Nat, i ≤ X.length ∧ iv = .int .i64 i ∧ Hid (Mid w wr B b { a with N := a.N + 1 } (aheadF w.heap.size (.slice vo X.length vc) (mF a.N) ++ [solo 69 3 X.length (.slice vo X.length vc) (fcs (overL X (mF a.N) i))]) (E ++ its))) (fun iv _ => X.length - (intOf iv).toNat)
  case atStart => exact ⟨0, Nat.zero_le _, rfl, HV⟩
  case round =>
    clear HV p6 f6
    obtain ⟨i, hi, rfl, HV⟩ := hrel
    obtain ⟨s0, m0, m1, m2⟩ := markF_cells (fun p hp => (unhide HV).ahead (p := p) hp)
    have ho := ((unhide HV).ahead (p := solo 69 3 X.length (.slice vo X.length vc) (fcs (overL X (mF a.N) i))) (List.mem_append_right _ (List.mem_cons_self ..))).x
    simp only [mF] at m0 m1 m2
    simp only [solo] at ho
    by_cases hlt : i < X.length
    · obtain ⟨g, _, e, _, _⟩ := ho.form (by omega)
      simp at e
      obtain ⟨rfl, rfl⟩ := e
      obtain ⟨⟨d0, c0⟩, f0⟩ := own_open ho (j := i * 3) (by omega)
      obtain ⟨⟨d1, c1⟩, f1⟩ := own_open ho (j := i * 3 + 1) (by omega)
      obtain ⟨⟨d2, c2⟩, f2⟩ := own_open ho (j := i * 3 + 2) (by omega)
      have i1 : (i : Int) < (X.length : Int) := by omega
      have i2 : (0 : Int) ≤ (i : Int) := by omega
      have HO := hide ho
      clear ho
      go_wp2_with fail
      go_roundw
      case rel =>
        have h1 := own_set3F (unhide HO) i (mF a.N)
        rw [overL_set hlt] at h1
        exact ⟨i + 1, by omega, by go_num, (unhide HV).putAt (j := 2) rfl h1 ((keeps_put3 wr g _ _ _ _ _ _).mono (fun q _ e => by rw [e]; rfl))⟩
      case measure => simp [intOf]; omega
    · obtain rfl : i = X.length := by omega
      have i1 : ¬ (X.length : Int) < (X.length : Int) := by omega
      have HV1 : Hid (Mid w wr B b { a with N := a.N + 1 } (aheadF w.heap.size (.slice vo X.length vc) (mF a.N) ++ [solo 69 3 X.length (.slice vo X.length vc) (fcs (List.replicate X.length (mF a.N)))]) (E ++ its)) := by
        have := unhide HV
        rw [overL_end] at this
        exact this
      clear HV ho
      have c04 := cell_of_blk (unhide HV1).box 4
      have e04 := frozen_of_blk (unhide HV1).box 4
      have c05 := cell_of_blk (unhide HV1).box 5
      have e05 := frozen_of_blk (unhide HV1).box 5
      unfold BookA.cells at c04 c05
      simp at c04 c05
      have HO1 := hide ((unhide HV1).row (p := a.F.row 26) (by unfold BookA.rows; simp))
      have HX1 := hide (unhide HV1).base
      have HVL : Hid (a.G.hs.length ≤ 1000000) := by show _ ≤ _; rw [← (unhide HA).pF.len]; exact hL
      have zb : b < wr.heap.size := lt_of_block (unhide HV1).box
      have g04 : (wr.drew.alloc (.cells #[.slice vo X.length vc] 26)).cell? ⟨b, 4, none⟩ = some a.F.v := (((Keeps.refl (fun _ => False) wr).drew.alloc _).cell zb id).trans c04
      go_upto_region 7 with fail
      go_cut [5] from 34 to 43 (fun mv wx => mv = .int .i64 X.length ∧ ∃ g1 cap1, Mid w wx B b { a with N := a.N + 1, F := ⟨.slice (some ⟨g1, 0, none⟩) (a.F.hs.length + 1) cap1, a.F.hs ++ [.slice vo X.length vc]⟩ } (aheadF w.heap.size (.slice vo X.length vc) (mF a.N) ++ [solo 69 3 X.length (.slice vo X.length vc) (fcs (List.replicate X.length (mF a.N)))]) (E ++ its))
      case first =>
        go_region_law (
            refine step_append_hdr 44 26 (by kernel_rfl) (.agg #[.slice none 0 0]) (by kernel_rfl) rfl rfl _ _ rfl B a.F.v a.F.hs.length a.F.hs rfl (own_keepF (unhide HO1) (((Keeps.refl _ _).alloc _).drew)) _ 1 (Value.slice vo X.length vc) rfl (by show (wr.alloc _).cell? _ = _; rw [cell_of_blk (heap_alloc_new _ _)]; rfl) rfl (by omega) (Nat.le_trans (unhide HX1) (by simp)) ?_
            intro g1 cap1 v1 HG1
            have H1 := hide (Mid.pushF rfl ((unhide HV1).keepF (show Keeps (fun _ => False) wr wr.drew from (Keeps.refl (fun _ => False) _).drew)) HG1)
            have c14 := cell_of_blk (unhide H1).2 4
            have e14 := frozen_of_blk (unhide H1).2 4
            unfold BookA.cells at c14
            simp at c14)
        all_goals (go_wp2_with fail; go_meet; exact ⟨rfl, g1, cap1, (unhide H1).1⟩)
      case rest =>
        obtain ⟨rfl, g1, cap1, hv2⟩ := hcut
        have HV2 := hide hv2
        clear hv2 HV1 HO1 HX1 c04 c05 e04 e05 g04 zb s0 m0 m1 m2
        have c24 := cell_of_blk (unhide HV2).box 4
        have e24 := frozen_of_blk (unhide HV2).box 4
        have c25 := cell_of_blk (unhide HV2).box 5
        have e25 := frozen_of_blk (unhide HV2).box 5
        unfold BookA.cells at c24 c25
        simp at c24 c25
        have s2 := (markF_cells (fun p hp => (unhide HV2).ahead (p := p) hp)).1
        go_upto_region 8 with fail
        go_cut [5] from 44 to 54 (fun mv wx => mv = .int .i64 X.length ∧ ∃ co cc g2 cap2, Mid w wx B b { a with N := a.N + 1, F := ⟨.slice (some ⟨g1, 0, none⟩) (a.F.hs.length + 1) cap1, a.F.hs ++ [.slice vo X.length vc]⟩, G := ⟨.slice (some ⟨g2, 0, none⟩) (a.G.hs.length + 1) cap2, a.G.hs ++ [.slice co X.length cc]⟩ } (solo 69 3 X.length (.slice co X.length cc) (fcs (List.replicate X.length (mF a.N))) :: (aheadF w.heap.size (.slice vo X.length vc) (mF a.N) ++ [solo 69 3 X.length (.slice vo X.length vc) (fcs (List.replicate X.length (mF a.N)))])) (E ++ its))
        case first =>
          have HV2d := hide ((unhide HV2).keepF (show Keeps (fun _ => False) wc wc.drew from (Keeps.refl (fun _ => False) _).drew))
          have HL2 := hide (rowAt_own ((unhide HV2d).ahead (p := solo 69 3 X.length (.slice vo X.length vc) (fcs (List.replicate X.length (mF a.N)))) (List.mem_append_right _ (List.mem_cons_self ..))).x)
          have HCC := hide (copySchema_any _ (.slice vo X.length vc) (List.replicate X.length (mF a.N)) (show FldsAt _ _ _ from by unfold FldsAt; rw [List.length_replicate]; exact unhide HL2) (by rw [List.length_replicate]; omega))
          have HVL2 : Hid (a.G.hs.length + 1 ≤ 4398046511104) := by show _ ≤ _; have := unhide HVL; omega
          clear HL2
          go_region_law (first
            | (go_simp
               refine (unhide HCC).mono ?_
               rintro e w5 ⟨cv, rfl, ho5, hk5⟩
               rw [List.length_replicate] at ho5
               obtain ⟨co, cc, rfl⟩ := (rowAt_own ho5).form
               have HV5 := hide ((unhide HV2d).newRow hk5 ho5 (by decide) (by decide))
               clear ho5 hk5
               have c55 := cell_of_blk (unhide HV5).box 5
               have e55 := frozen_of_blk (unhide HV5).box 5
               unfold BookA.cells at c55
               simp at c55
               have HO5 := hide ((unhide HV5).row (p := a.G.row 26) (by unfold BookA.rows; simp))
               have HX5 := hide (unhide HV5).base
               have g55 : (w5.alloc (.cells #[.slice co X.length cc] 26)).cell? ⟨b, 5, none⟩ = some a.G.v := (((Keeps.refl (fun _ => False) w5).alloc _).cell (lt_of_block (unhide HV5).box) id).trans c55
               dsimp only)
            | (refine step_append_hdr 44 26 (by kernel_rfl) (.agg #[.slice none 0 0]) (by kernel_rfl) rfl rfl _ _ rfl B a.G.v a.G.hs.length a.G.hs rfl (own_alloc (unhide HO5) _) _ 1 (Value.slice co X.length cc) rfl (by first | exact cell_new_set | (rw [cell_of_blk (heap_alloc_new _ _)]; rfl)) rfl (unhide HVL2) (Nat.le_trans (unhide HX5) (by simp)) ?_
               intro g2 cap2 v2 HG2
               have H2 := hide (Mid.pushG rfl (unhide HV5) HG2)
               have c65 := cell_of_blk (unhide H2).2 5
               have e65 := frozen_of_blk (unhide H2).2 5
               unfold BookA.cells at c65
               simp at c65))
          all_goals (go_wp2_with fail; go_meet; exact ⟨rfl, co, cc, g2, cap2, (unhide H2).1⟩)
        case rest =>
          obtain ⟨rfl, co, cc, g2, cap2, hv3⟩ := hcut
          have HV3 := hide hv3
          have s3 := (markF_cells (h := w.heap.size) (v := .slice vo X.length vc) (m := mF a.N) (L := [solo 69 3 X.length (.slice vo X.length vc) (fcs (List.replicate X.length (mF a.N)))]) (fun p hp => (unhide HV3).ahead (p := p) (List.mem_cons_of_mem _ hp))).1
          clear hv3 HV2 c24 c25 e24 e25 s2
          go_wp2_with fail
          go_loopw [6, 7] (fun gv kv wr => ∃ k : Nat, k ≤ 64 ∧ kv = .int .i64 k ∧ Hid (Mid w wr B b { a with N := a.N + 1, F := ⟨.slice (some ⟨g1, 0, none⟩) (a.F.hs.length + 1) cap1, a.F.hs ++ [.slice vo X.length vc]⟩, G := ⟨.slice (some ⟨g2, 0, none⟩) (a.G.hs.length + 1) cap2, a.G.hs ++ [.slice co X.length cc]⟩ } (solo 69 3 X.length (.slice co X.length cc) (fcs (List.replicate X.length (mF a.N))) :: (aheadF w.heap.size (.slice vo X.length vc) (mF a.N) ++ [⟨69, 3, X.length, (.slice vo X.length vc), (fcs (List.replicate X.length (mF a.N))), k, gv, fcs (List.replicate k (mF a.N))⟩])) (E ++ its))) (fun _ kv _ => 64 - (intOf kv).toNat)
          case atStart => exact ⟨0, by omega, rfl, HV3⟩
          case round =>
            clear HV3 s3
            obtain ⟨k, hk, rfl, HV3⟩ := hrel
            by_cases hlt : k < 64
            · have i2 : (k : Int) < 64 := by omega
              have HGO : Hid (wr.ownsRow B 69 3 u6 (X.length + k) ((fcs (List.replicate X.length (mF a.N))) ++ fcs (List.replicate k (mF a.N)))) := ((unhide HV3).ahead (List.mem_cons_of_mem _ (List.mem_append_right _ (List.mem_cons_self ..)))).m
              have HBX := hide (unhide HV3).base
              obtain ⟨_, m0, m1, m2⟩ := markF_cells (h := w.heap.size) (v := .slice vo X.length vc) (m := mF a.N) (L := [⟨69, 3, X.length, (.slice vo X.length vc), (fcs (List.replicate X.length (mF a.N))), k, u6, fcs (List.replicate k (mF a.N))⟩]) (fun p hp => (unhide HV3).ahead (p := p) (List.mem_cons_of_mem _ hp))
              simp only [mF] at m0 m1 m2
              have HFL := hide (ownsRow_low (fld_own wr (mF a.N)) (Nat.zero_le _))
              go_wp2_with (at_builtin; refine append_fldZ rfl _ _ rfl B u6 (X.length + k) _ rfl (own_alloc (unhide HGO) _) wr.heap.size 1 (mF a.N) rfl (unhide HFL) (by omega) (Nat.le_trans (unhide HBX) (by simp)) ?_; intro g3 cap3 w5 HG3)
              go_roundw
              case rel =>
                have h3 := (unhide HV3).grow (j := 3) rfl HG3
                rw [← fcs_app, ← List.replicate_succ'] at h3
                exact ⟨k + 1, by omega, by go_num, h3⟩
              case measure => simp [intOf]; omega
            · obtain rfl : k = 64 := by omega
              have i2 : ¬ (64 : Int) < 64 := by omega
              have HGO : Hid (wr.ownsRow B 69 3 u6 (X.length + 64) ((fcs (List.replicate X.length (mF a.N))) ++ (fcs (List.replicate 64 (mF a.N))))) := ((unhide HV3).ahead (List.mem_cons_of_mem _ (List.mem_append_right _ (List.mem_cons_self ..)))).m
              obtain ⟨go, gc, rfl⟩ := (rowAt_own (unhide HGO)).form
              have HV4 := hide ((unhide HV3).newRow ((Keeps.refl (fun _ => False) wr).alloc _) (one_box wr (.slice go (X.length + 64) gc) 26) (by decide) (by decide))
              go_upto_region 14 with fail
              go_cut [8] from 65 to 66 (fun pv wx => ∃ h8, pv = .pointer (some ⟨h8, 0, none⟩) ∧ Mid w wx B b { a with N := a.N + 1, F := ⟨.slice (some ⟨g1, 0, none⟩) (a.F.hs.length + 1) cap1, a.F.hs ++ [.slice vo X.length vc]⟩, G := ⟨.slice (some ⟨g2, 0, none⟩) (a.G.hs.length + 1) cap2, a.G.hs ++ [.slice co X.length cc]⟩ } (solo 26 1 1 (.slice (some ⟨h8, 0, none⟩) 1 1) [.slice go (X.length + 64) gc] :: solo 69 3 X.length (.slice co X.length cc) (fcs (List.replicate X.length (mF a.N))) :: (aheadF w.heap.size (.slice vo X.length vc) (mF a.N) ++ [(⟨69, 3, X.length, (.slice vo X.length vc), (fcs (List.replicate X.length (mF a.N))), 64, .slice go (X.length + 64) gc, fcs (List.replicate 64 (mF a.N))⟩ : Rowp)])) (E ++ its))
              case first =>
                go_wp2_with fail
                go_meet
                exact ⟨_, rfl, unhide HV4⟩
              case rest =>
                obtain ⟨h8, rfl, hv5⟩ := hcut
                obtain ⟨w8, rfl⟩ : ∃ W, W = wc := ⟨_, rfl⟩
                have HV5 := hide hv5
                clear hv5 HV4 HV3 HGO
                have c74 := cell_of_blk (unhide HV5).box 4
                have e74 := frozen_of_blk (unhide HV5).box 4
                have c75 := cell_of_blk (unhide HV5).box 5
                have e75 := frozen_of_blk (unhide HV5).box 5
                unfold BookA.cells at c74 c75
                simp at c74 c75
                have s8 : w8.cell? ⟨h8, 0, none⟩ = some (.slice go (X.length + 64) gc) := own_at (show w8.ownsRow B 26 1 (.slice (some ⟨h8, 0, none⟩) 1 1) 1 [.slice go (X.length + 64) gc] from ((unhide HV5).ahead (p := solo 26 1 1 (.slice (some ⟨h8, 0, none⟩) 1 1) [.slice go (X.length + 64) gc]) (List.mem_cons_self ..)).x) (j := 0) rfl
                have HO7 := hide (own_len (n' := a.F.hs.length + 1) (by simp [Hd.row, solo]) ((unhide HV5).row (p := (⟨.slice (some ⟨g1, 0, none⟩) (a.F.hs.length + 1) cap1, a.F.hs ++ [.slice vo X.length vc]⟩ : Hd).row 26) (by unfold BookA.rows; simp)))
                have HX7 := hide (unhide HV5).base
                have HVL2 : Hid (a.G.hs.length + 1 + 1 ≤ 4398046511104) := by show _ ≤ _; have := unhide HVL; omega
                have g74 : (w8.drew.alloc (.cells #[.slice go (X.length + 64) gc] 26)).cell? ⟨b, 4, none⟩ = some (.slice (some ⟨g1, 0, none⟩) (a.F.hs.length + 1) cap1) := (((Keeps.refl (fun _ => False) w8).drew.alloc _).cell (lt_of_block (unhide HV5).box) id).trans c74
                have z7 : b < w8.heap.size := lt_of_block (unhide HV5).box
                go_upto_region 15 with fail
                go_cut [8] from 67 to 76 (fun pv wx => pv = .pointer (some ⟨h8, 0, none⟩) ∧ ∃ g5 cap5, Mid w wx B b { a with N := a.N + 1, F := ⟨.slice (some ⟨g5, 0, none⟩) (a.F.hs.length + 1 + 1) cap5, a.F.hs ++ [.slice vo X.length vc] ++ [.slice go (X.length + 64) gc]⟩, G := ⟨.slice (some ⟨g2, 0, none⟩) (a.G.hs.length + 1) cap2, a.G.hs ++ [.slice co X.length cc]⟩ } (solo 26 1 1 (.slice (some ⟨h8, 0, none⟩) 1 1) [.slice go (X.length + 64) gc] :: solo 69 3 X.length (.slice co X.length cc) (fcs (List.replicate X.length (mF a.N))) :: (aheadF w.heap.size (.slice vo X.length vc) (mF a.N) ++ [(⟨69, 3, X.length, (.slice vo X.length vc), (fcs (List.replicate X.length (mF a.N))), 64, .slice go (X.length + 64) gc, fcs (List.replicate 64 (mF a.N))⟩ : Rowp)])) (E ++ its))
                case first =>
                  go_region_law (
                      refine step_append_hdr 44 26 (by kernel_rfl) (.agg #[.slice none 0 0]) (by kernel_rfl) rfl rfl _ _ rfl B (.slice (some ⟨g1, 0, none⟩) (a.F.hs.length + 1) cap1) (a.F.hs.length + 1) (a.F.hs ++ [.slice vo X.length vc]) rfl (own_keepF (unhide HO7) (((Keeps.refl _ _).alloc _).drew)) _ 1 (Value.slice go (X.length + 64) gc) rfl (by show (w8.alloc _).cell? _ = _; rw [cell_of_blk (heap_alloc_new _ _)]; rfl) rfl (by omega) (Nat.le_trans (unhide HX7) (by simp)) ?_
                      intro g5 cap5 v5 HG5
                      have H5 := hide (Mid.pushF (by simp) ((unhide HV5).keepF (show Keeps (fun _ => False) w8 w8.drew from (Keeps.refl (fun _ => False) _).drew)) HG5)
                      have c84 := cell_of_blk (unhide H5).2 4
                      have e84 := frozen_of_blk (unhide H5).2 4
                      unfold BookA.cells at c84
                      simp at c84)
                  all_goals (go_wp2_with fail; go_meet; exact ⟨rfl, g5, cap5, (unhide H5).1⟩)
                case rest =>
                  obtain ⟨rfl, g5, cap5, hv6⟩ := hcut
                  have HV6 := hide hv6
                  clear hv6 HV5 HO7 HX7 c74 c75 e74 e75 g74 z7 s8
                  have c94 := cell_of_blk (unhide HV6).box 4
                  have e94 := frozen_of_blk (unhide HV6).box 4
                  have c95 := cell_of_blk (unhide HV6).box 5
                  have e95 := frozen_of_blk (unhide HV6).box 5
                  unfold BookA.cells at c94 c95
                  simp at c94 c95
                  have s9 : wc.cell? ⟨h8, 0, none⟩ = some (.slice go (X.length + 64) gc) := own_at (show wc.ownsRow B 26 1 (.slice (some ⟨h8, 0, none⟩) 1 1) 1 [.slice go (X.length + 64) gc] from ((unhide HV6).ahead (p := solo 26 1 1 (.slice (some ⟨h8, 0, none⟩) 1 1) [.slice go (X.length + 64) gc]) (List.mem_cons_self ..)).x) (j := 0) rfl
                  have HV6d := hide ((unhide HV6).keepF (show Keeps (fun _ => False) wc wc.drew from (Keeps.refl (fun _ => False) _).drew))
                  have HL8 := hide (rowAt_own ((unhide HV6d).ahead (p := (⟨69, 3, X.length, (.slice vo X.length vc), (fcs (List.replicate X.length (mF a.N))), 64, .slice go (X.length + 64) gc, fcs (List.replicate 64 (mF a.N))⟩ : Rowp)) (List.mem_cons_of_mem _ (List.mem_cons_of_mem _ (List.mem_append_right _ (List.mem_cons_self ..))))).m)
                  have hl9 : (List.replicate X.length (mF a.N) ++ List.replicate 64 (mF a.N)).length = X.length + 64 := by simp
                  have HCC := hide (copySchema_any _ (.slice go (X.length + 64) gc) (List.replicate X.length (mF a.N) ++ List.replicate 64 (mF a.N)) (show FldsAt _ _ _ from by unfold FldsAt; rw [hl9, fcs_app]; exact unhide HL8) (by rw [hl9]; omega))
                  clear HL8
                  go_upto_region 16 with fail
                  go_region_law (first
                    | (go_simp
                       refine (unhide HCC).mono ?_
                       rintro e w6 ⟨cv, rfl, ho6, hk6⟩
                       rw [hl9] at ho6
                       obtain ⟨do_, dc, rfl⟩ := (rowAt_own ho6).form
                       have HV7 := hide ((unhide HV6d).newRow hk6 ho6 (by decide) (by decide))
                       clear ho6 hk6
                       have c65 := cell_of_blk (unhide HV7).box 5
                       have e65 := frozen_of_blk (unhide HV7).box 5
                       unfold BookA.cells at c65
                       simp at c65
                       have HO6 := hide (own_len (n' := a.G.hs.length + 1) (by simp [Hd.row, solo]) ((unhide HV7).row (p := (⟨.slice (some ⟨g2, 0, none⟩) (a.G.hs.length + 1) cap2, a.G.hs ++ [.slice co X.length cc]⟩ : Hd).row 26) (by unfold BookA.rows; simp)))
                       have HX6 := hide (unhide HV7).base
                       have g65 : (w6.alloc (.cells #[.slice do_ (X.length + 64) dc] 26)).cell? ⟨b, 5, none⟩ = some (.slice (some ⟨g2, 0, none⟩) (a.G.hs.length + 1) cap2) := (((Keeps.refl (fun _ => False) w6).alloc _).cell (lt_of_block (unhide HV7).box) id).trans c65
                       dsimp only)
                    | (refine step_append_hdr 44 26 (by kernel_rfl) (.agg #[.slice none 0 0]) (by kernel_rfl) rfl rfl _ _ rfl B (.slice (some ⟨g2, 0, none⟩) (a.G.hs.length + 1) cap2) (a.G.hs.length + 1) (a.G.hs ++ [.slice co X.length cc]) rfl (own_alloc (unhide HO6) _) _ 1 (Value.slice do_ (X.length + 64) dc) rfl (by first | exact cell_new_set | (rw [cell_of_blk (heap_alloc_new _ _)]; rfl)) rfl (unhide HVL2) (Nat.le_trans (unhide HX6) (by simp)) ?_
                       intro g9 cap9 v9 HG9
                       have H9 := hide (Mid.pushG (by simp) (unhide HV7) HG9)
                       have c05 := cell_of_blk (unhide H9).2 5
                       have e05 := frozen_of_blk (unhide H9).2 5
                       unfold BookA.cells at c05
                       simp at c05))
                  all_goals
                    go_wp2_with fail
                    go_end0
                    have HF := (unhide H9).1
                    refine ⟨rfl, _, _, ?_, HF.done ((unhide HA).pL.mono (fun p hp => List.mem_append_right _ hp)) ((unhide HA).pB.mono (fun p hp => List.mem_append_right _ hp)) ?_, HF.keeps⟩
                    · exact ⟨rfl, by simp, rfl, rfl, fun p hp => HF.kinds p (List.mem_append_left _ hp)⟩
                    exact ((unhide HA).pF.mono (fun p hp => List.mem_append_right _ hp)).snoc2
                      (same_first (K := kF) (l := (List.replicate X.length (mF a.N) : List FieldA)) List.length_replicate (by omega) (List.mem_append_left _ (List.mem_cons_of_mem _ (List.mem_cons_of_mem _ (List.mem_cons_of_mem _ (List.mem_append_right _ (List.mem_cons_self ..)))))) (List.mem_append_left _ (List.mem_cons_of_mem _ (List.mem_cons_of_mem _ (List.mem_cons_self ..)))))
                      (same_grown (K := kF) (l := (List.replicate X.length (mF a.N) : List FieldA)) (r := (List.replicate 64 (mF a.N) : List FieldA)) List.length_replicate List.length_replicate (by omega) (List.mem_append_left _ (List.mem_cons_of_mem _ (List.mem_cons_of_mem _ (List.mem_cons_of_mem _ (List.mem_append_right _ (List.mem_cons_self ..)))))) (List.mem_append_left _ (List.mem_cons_self ..)))
end Go.Proofs.YtklkhegeeglfbaaGreatDoor
