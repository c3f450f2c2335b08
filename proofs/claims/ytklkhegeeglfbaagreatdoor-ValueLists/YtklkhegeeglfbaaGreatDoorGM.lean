import Derived.Test.YtklkhegeeglfbaaGreatDoorJzaj
namespace Go.Proofs.YtklkhegeeglfbaaGreatDoor
open Go.RowKit Go.Maps

/-- Book.bytes: bytes are written full and grown, and both are kept. -/
def bytesOut (w w' : World) (B b : Nat) (a : BookA) (E its : List Rowp) : Prop :=
  ∃ (a' : BookA) (P : List Rowp), (a'.N = a.N + 1 ∧ a'.B.hs.length = a.B.hs.length + 2 ∧ a'.L.hs.length = a.L.hs.length ∧ a'.F.hs.length = a.F.hs.length ∧ ∀ p ∈ P, p.e ≠ 46) ∧ BookAt w' B b a' E (P ++ its) ∧ Keeps (fun q => B ≤ q) w w'
def mB (N : Nat) : UInt8 := UInt8.ofNat ((N + 1) % 100 + 1)
def mB2 (N : Nat) : UInt8 := UInt8.ofNat ((N + 1) % 100 + 101)
theorem mB_num (N : Nat) : num (mB N) = (((N + 1) % 100 + 1 : Nat) : Int) := by
  unfold num mB
  rw [UInt8.toNat_ofNat']
  have := Nat.mod_lt (N + 1) (show 0 < 100 by decide)
  omega
theorem mB2_num (N : Nat) : num (mB2 N) = (((N + 1) % 100 + 101 : Nat) : Int) := by
  unfold num mB2
  rw [UInt8.toNat_ofNat']
  have := Nat.mod_lt (N + 1) (show 0 < 100 by decide)
  omega
theorem mB_wrap (N : Nat) : IntKind.u8.wrap (((N : Int) + 1).tmod 100 + 1) = num (mB N) := by
  rw [mB_num, Int.tmod_eq_emod_of_nonneg (by omega), IntKind.wrap_u8]
  omega
theorem mB2_wrap (N : Nat) : IntKind.u8.wrap (num (mB N) + 100) = num (mB2 N) := by
  rw [mB_num, mB2_num, IntKind.wrap_u8]
  omega
theorem mB_int (N : Nat) : ((N : Int) + 1) % 100 + 1 = num (mB N) := by rw [mB_num]; omega
theorem bs_rep (n : Nat) (m : UInt8) : bs (List.replicate n m) = List.replicate n (.int .u8 (num m)) := by unfold bs; simp

set_option maxRecDepth 100000 in
set_option maxHeartbeats 8000000 in
theorem book_bytes (w : World) (B b : Nat) (a : BookA) (E its : List Rowp) (vo : Option Addr) (vc : Nat) (X : Txt) (hB : B ≤ w.heap.size) (hA : BookAt w B b a (solo 5 1 X.length (.slice vo X.length vc) (bs X) :: E) its) (hk : ∀ p ∈ E ++ its, p.e ≠ 46) (hn : X.length ≤ 100000) (hN : a.N ≤ 1000000) (hL : a.B.hs.length ≤ 1000000) :
    Calls Tryz.prog 24 #[.pointer (some ⟨b, 0, none⟩), .slice vo X.length vc] w fun e w' => e = .returned (.tuple #[]) ∧ bytesOut w w' B b a E its := by
  have p6 := cell_of_blk hA.box 6
  have f6 := frozen_of_blk hA.box 6
  unfold BookA.cells at p6
  simp at p6
  have HV := hide (Mid.start hA hk (show (5 : Nat) ≠ 46 by decide) hB)
  have HA := hide hA
  have i0 : (a.N : Int) ≤ 1000000 := by omega
  have i00 : (0 : Int) ≤ (a.N : Int) := by omega
  have hbl : b < w.heap.size := lt_of_block hA.box
  have i9 : ((a.N : Int) + 1).tmod 100 = (((a.N + 1) % 100 : Nat) : Int) := by rw [Int.tmod_eq_emod_of_nonneg (by omega)]; omega
  clear hA hk hB
  have HM := hide (mB_int a.N)
  have HM2 := hide (mB2_wrap a.N)
  go_enter Tryz.func24, Tryz.ntmps24
  go_wp2_with fail
  rw [unhide HM]
  go_loopw [5] (fun iv wr => ∃ i : Nat, i ≤ X.length ∧ iv = .int .i64 i ∧ Hid (Mid w wr B b { a with N := a.N + 1 } [solo 5 1 X.length (.slice vo X.length vc) (bs (overL X (mB a.N) i))] (E ++ its))) (fun iv _ => X.length - (intOf iv).toNat)
  case atStart => exact ⟨0, Nat.zero_le _, rfl, HV⟩
  case round =>
    clear HV p6 f6
    obtain ⟨i, hi, rfl, HV⟩ := hrel
    by_cases hlt : i < X.length
    · have ho := ((unhide HV).ahead (List.mem_cons_self ..)).x
      simp only [solo] at ho
      obtain ⟨g, _, e, _, _⟩ := ho.form (by omega)
      simp at e
      obtain ⟨rfl, rfl⟩ := e
      obtain ⟨⟨d0, c0⟩, f0⟩ := own_open ho (j := i) (by omega)
      have i1 : (i : Int) < (X.length : Int) := by omega
      have i2 : (0 : Int) ≤ (i : Int) := by omega
      have HO := hide ho
      clear ho
      go_wp2_with fail
      go_roundw
      case rel =>
        have h1 := own_set1 (unhide HO) i (mB a.N)
        rw [overL_set hlt] at h1
        exact ⟨i + 1, by omega, by go_num, (unhide HV).put h1 ((keeps_set wr g i _).mono (fun q _ e => by rw [e]; rfl))⟩
      case measure => simp [intOf]; omega
    · obtain rfl : i = X.length := by omega
      have i1 : ¬ (X.length : Int) < (X.length : Int) := by omega
      have HV1 : Hid (Mid w wr B b { a with N := a.N + 1 } [solo 5 1 X.length (.slice vo X.length vc) (bs (List.replicate X.length (mB a.N)))] (E ++ its)) := by
        have := unhide HV
        rw [overL_end] at this
        exact this
      clear HV
      have c02 := cell_of_blk (unhide HV1).box 2
      have c03 := cell_of_blk (unhide HV1).box 3
      have e02 := frozen_of_blk (unhide HV1).box 2
      have e03 := frozen_of_blk (unhide HV1).box 3
      unfold BookA.cells at c02 c03
      simp at c02 c03
      have HO1 := hide ((unhide HV1).row (p := a.B.row 30) (by unfold BookA.rows; simp))
      have HX1 := hide (unhide HV1).base
      have HVL : Hid (a.V.hs.length ≤ 1000000) := by show _ ≤ _; rw [← (unhide HA).pB.len]; exact hL
      go_upto_region 7 with (
        at_builtin
        refine append_hdr 43 30 (by kernel_rfl) (.slice none 0 0) (by kernel_rfl) rfl rfl _ _ rfl B a.B.v a.B.hs.length a.B.hs rfl (own_alloc (unhide HO1) _) _ 1 (Value.slice vo X.length vc) rfl (by first | exact cell_new_set | (rw [cell_of_blk (heap_alloc_new _ _)]; rfl)) rfl (by omega) (Nat.le_trans (unhide HX1) (by simp)) ?_
        intro g1 cap1 v1 HG1
        have H1 := hide (Mid.pushB rfl (unhide HV1) HG1)
        have c12 := cell_of_blk (unhide H1).2 2
        have c13 := cell_of_blk (unhide H1).2 3
        have e12 := frozen_of_blk (unhide H1).2 2
        have e13 := frozen_of_blk (unhide H1).2 3
        unfold BookA.cells at c12 c13
        simp at c12 c13)
      have HV2 := hide (unhide H1).1
      have c23 := cell_of_blk (unhide HV2).box 3
      have e23 := frozen_of_blk (unhide HV2).box 3
      unfold BookA.cells at c23
      simp at c23
      go_cut [4] from 42 to 52 (fun mv wx => mv = .int .u8 (num (mB a.N)) ∧ ∃ co cc g2 cap2, Mid w wx B b { a with N := a.N + 1, B := ⟨.slice (some ⟨g1, 0, none⟩) (a.B.hs.length + 1) cap1, a.B.hs ++ [.slice vo X.length vc]⟩, V := ⟨.slice (some ⟨g2, 0, none⟩) (a.V.hs.length + 1) cap2, a.V.hs ++ [.slice co X.length cc]⟩ } [solo 5 1 X.length (.slice co X.length cc) (bs (List.replicate X.length (mB a.N))), solo 5 1 X.length (.slice vo X.length vc) (bs (List.replicate X.length (mB a.N)))] (E ++ its))
      case first =>
        have KD := fun (W : World) => (Keeps.refl (fun _ => False) W).drew
        have HX2 := hide (unhide HV2).base
        have HV2d := hide ((unhide HV2).keepF (KD _))
        have HL2 := hide (rowAt_own ((unhide HV2d).ahead (List.mem_cons_self ..)).x)
        have HCC := hide (copyBytes_any _ (.slice vo X.length vc) (List.replicate X.length (mB a.N)) (show BytesAt _ _ _ from by unfold BytesAt; rw [List.length_replicate]; exact unhide HL2) (by rw [List.length_replicate]; omega))
        have HVL2 : Hid (a.V.hs.length + 1 ≤ 4398046511104) := by show _ ≤ _; have := unhide HVL; omega
        clear HV1 HO1 HX1 H1 HG1 c02 c03 e02 e03 HL2
        go_region_law (first
          | (go_simp
             refine (unhide HCC).mono ?_
             rintro e w5 ⟨cv, rfl, ho5, hk5⟩
             rw [List.length_replicate] at ho5
             obtain ⟨co, cc, rfl⟩ := (rowAt_own ho5).form
             have HV5 := hide ((unhide HV2d).newRow hk5 ho5 (by decide) (by decide))
             clear ho5 hk5
             have c53 := cell_of_blk (unhide HV5).box 3
             have e53 := frozen_of_blk (unhide HV5).box 3
             unfold BookA.cells at c53
             simp at c53
             have HO5 := hide ((unhide HV5).row (p := a.V.row 30) (by unfold BookA.rows; simp))
             have HX5 := hide (unhide HV5).base
             have g53 : (w5.alloc (.cells #[.slice co X.length cc] 30)).cell? ⟨b, 3, none⟩ = some a.V.v := (((Keeps.refl (fun _ => False) w5).alloc _).cell (lt_of_block (unhide HV5).box) id).trans c53
             dsimp only)
          | (refine step_append_hdr 43 30 (by kernel_rfl) (.slice none 0 0) (by kernel_rfl) rfl rfl _ _ rfl B a.V.v a.V.hs.length a.V.hs rfl (own_alloc (unhide HO5) _) _ 1 (Value.slice co X.length cc) rfl (by first | exact cell_new_set | (rw [cell_of_blk (heap_alloc_new _ _)]; rfl)) rfl (unhide HVL2) (Nat.le_trans (unhide HX5) (by simp)) ?_
             intro g2 cap2 v2 HG2
             have H2 := hide (Mid.pushV rfl (unhide HV5) HG2)
             have c63 := cell_of_blk (unhide H2).2 3
             have e63 := frozen_of_blk (unhide H2).2 3
             unfold BookA.cells at c63
             simp at c63))
        all_goals (go_wp2_with fail; go_meet; exact ⟨rfl, co, cc, g2, cap2, (unhide H2).1⟩)
      case rest =>
        obtain ⟨rfl, co, cc, g2, cap2, hv3⟩ := hcut
        have HV3 := hide hv3
        clear hv3 HV1 HV2 HO1 HX1 H1 HG1 c02 c03 e02 e03 c12 c13 e12 e13 c23 e23
        go_wp2_with fail
        go_loopw [6, 7] (fun gv kv wr => ∃ k : Nat, k ≤ 64 ∧ kv = .int .i64 k ∧ Hid (Mid w wr B b { a with N := a.N + 1, B := ⟨.slice (some ⟨g1, 0, none⟩) (a.B.hs.length + 1) cap1, a.B.hs ++ [.slice vo X.length vc]⟩, V := ⟨.slice (some ⟨g2, 0, none⟩) (a.V.hs.length + 1) cap2, a.V.hs ++ [.slice co X.length cc]⟩ } [solo 5 1 X.length (.slice co X.length cc) (bs (List.replicate X.length (mB a.N))), ⟨5, 1, X.length, (.slice vo X.length vc), (bs (List.replicate X.length (mB a.N))), k, gv, bs (List.replicate k (mB2 a.N))⟩] (E ++ its))) (fun _ kv _ => 64 - (intOf kv).toNat)
        case atStart => exact ⟨0, by omega, rfl, HV3⟩
        case round =>
          clear HV3
          obtain ⟨k, hk, rfl, HV3⟩ := hrel
          by_cases hlt : k < 64
          · have i2 : (k : Int) < 64 := by omega
            have HGO : Hid (wr.ownsRow B 5 1 u6 (X.length + k) ((bs (List.replicate X.length (mB a.N))) ++ bs (List.replicate k (mB2 a.N)))) := ((unhide HV3).ahead (List.mem_cons_of_mem _ (List.mem_cons_self ..))).m
            have HBX := hide (unhide HV3).base
            have HFL := hide (byte_lit wr _ (mB2 a.N) (unhide HM2).symm)
            go_wp2_with (at_builtin; refine append_byte rfl _ _ rfl B u6 (X.length + k) _ rfl (own_alloc (unhide HGO) _) wr.heap.size 1 (mB2 a.N) rfl (unhide HFL) (by omega) (Nat.le_trans (unhide HBX) (by simp)) ?_; intro g3 cap3 w5 HG3)
            go_roundw
            case rel =>
              have h3 := (unhide HV3).grow (j := 1) rfl HG3
              rw [← bs_app, ← List.replicate_succ'] at h3
              exact ⟨k + 1, by omega, by go_num, h3⟩
            case measure => simp [intOf]; omega
          · obtain rfl : k = 64 := by omega
            have i2 : ¬ (64 : Int) < 64 := by omega
            have HGO : Hid (wr.ownsRow B 5 1 u6 (X.length + 64) ((bs (List.replicate X.length (mB a.N))) ++ (bs (List.replicate 64 (mB2 a.N))))) := ((unhide HV3).ahead (List.mem_cons_of_mem _ (List.mem_cons_self ..))).m
            obtain ⟨go, gc, rfl⟩ := (rowAt_own (unhide HGO)).form
            have c72 := cell_of_blk (unhide HV3).box 2
            have c73 := cell_of_blk (unhide HV3).box 3
            have e72 := frozen_of_blk (unhide HV3).box 2
            have e73 := frozen_of_blk (unhide HV3).box 3
            unfold BookA.cells at c72 c73
            simp at c72 c73
            have HO7 := hide (own_len (n' := a.B.hs.length + 1) (by simp [Hd.row, solo]) ((unhide HV3).row (p := (⟨.slice (some ⟨g1, 0, none⟩) (a.B.hs.length + 1) cap1, a.B.hs ++ [.slice vo X.length vc]⟩ : Hd).row 30) (by unfold BookA.rows; simp)))
            have HX7 := hide (unhide HV3).base
            have HVL2 : Hid (a.V.hs.length + 1 + 1 ≤ 4398046511104) := by show _ ≤ _; have := unhide HVL; omega
            go_upto_region 14 with (
              at_builtin
              refine append_hdr 43 30 (by kernel_rfl) (.slice none 0 0) (by kernel_rfl) rfl rfl _ _ rfl B (.slice (some ⟨g1, 0, none⟩) (a.B.hs.length + 1) cap1) (a.B.hs.length + 1) (a.B.hs ++ [.slice vo X.length vc]) rfl (own_alloc (unhide HO7) _) _ 1 (Value.slice go (X.length + 64) gc) rfl (by first | exact cell_new_set | (rw [cell_of_blk (heap_alloc_new _ _)]; rfl)) rfl (by omega) (Nat.le_trans (unhide HX7) (by simp)) ?_
              intro g5 cap5 v5 HG5
              have H5 := hide (Mid.pushB (by simp) (unhide HV3) HG5)
              have c82 := cell_of_blk (unhide H5).2 2
              have c83 := cell_of_blk (unhide H5).2 3
              have e82 := frozen_of_blk (unhide H5).2 2
              have e83 := frozen_of_blk (unhide H5).2 3
              unfold BookA.cells at c82 c83
              simp at c82 c83)
            have HV8 := hide (unhide H5).1
            have c93 := cell_of_blk (unhide HV8).box 3
            have e93 := frozen_of_blk (unhide HV8).box 3
            unfold BookA.cells at c93
            simp at c93
            have KD := fun (W : World) => (Keeps.refl (fun _ => False) W).drew
            have HV8d := hide ((unhide HV8).keepF (KD _))
            have HL8 := hide (rowAt_own ((unhide HV8d).ahead (List.mem_cons_of_mem _ (List.mem_cons_self ..))).m)
            have hl9 : (List.replicate X.length (mB a.N) ++ List.replicate 64 (mB2 a.N)).length = X.length + 64 := by simp
            have HCC := hide (copyBytes_any _ (.slice go (X.length + 64) gc) (List.replicate X.length (mB a.N) ++ List.replicate 64 (mB2 a.N)) (show BytesAt _ _ _ from by unfold BytesAt; rw [hl9, bs_app]; exact unhide HL8) (by rw [hl9]; omega))
            clear HO7 HX7 H5 HG5 c72 c73 e72 e73 HL8 HGO
            go_region_law (first
              | (go_simp
                 refine (unhide HCC).mono ?_
                 rintro e w6 ⟨cv, rfl, ho6, hk6⟩
                 rw [hl9] at ho6
                 obtain ⟨do_, dc, rfl⟩ := (rowAt_own ho6).form
                 have HV6 := hide ((unhide HV8d).newRow hk6 ho6 (by decide) (by decide))
                 clear ho6 hk6
                 have c63 := cell_of_blk (unhide HV6).box 3
                 have e63 := frozen_of_blk (unhide HV6).box 3
                 unfold BookA.cells at c63
                 simp at c63
                 have HO6 := hide (own_len (n' := a.V.hs.length + 1) (by simp [Hd.row, solo]) ((unhide HV6).row (p := (⟨.slice (some ⟨g2, 0, none⟩) (a.V.hs.length + 1) cap2, a.V.hs ++ [.slice co X.length cc]⟩ : Hd).row 30) (by unfold BookA.rows; simp)))
                 have HX6 := hide (unhide HV6).base
                 have g63 : (w6.alloc (.cells #[.slice do_ (X.length + 64) dc] 30)).cell? ⟨b, 3, none⟩ = some (.slice (some ⟨g2, 0, none⟩) (a.V.hs.length + 1) cap2) := (((Keeps.refl (fun _ => False) w6).alloc _).cell (lt_of_block (unhide HV6).box) id).trans c63
                 dsimp only)
              | (refine step_append_hdr 43 30 (by kernel_rfl) (.slice none 0 0) (by kernel_rfl) rfl rfl _ _ rfl B (.slice (some ⟨g2, 0, none⟩) (a.V.hs.length + 1) cap2) (a.V.hs.length + 1) (a.V.hs ++ [.slice co X.length cc]) rfl (own_alloc (unhide HO6) _) _ 1 (Value.slice do_ (X.length + 64) dc) rfl (by first | exact cell_new_set | (rw [cell_of_blk (heap_alloc_new _ _)]; rfl)) rfl (unhide HVL2) (Nat.le_trans (unhide HX6) (by simp)) ?_
                 intro g9 cap9 v9 HG9
                 have H9 := hide (Mid.pushV (by simp) (unhide HV6) HG9)
                 have c03 := cell_of_blk (unhide H9).2 3
                 have e03 := frozen_of_blk (unhide H9).2 3
                 unfold BookA.cells at c03
                 simp at c03))
            all_goals
              go_wp2_with fail
              go_end0
              have HF := (unhide H9).1
              refine ⟨rfl, _, _, ?_, HF.done ((unhide HA).pL.mono (fun p hp => List.mem_append_right _ hp)) ?_ ((unhide HA).pF.mono (fun p hp => List.mem_append_right _ hp)), HF.keeps⟩
              · exact ⟨rfl, by simp, rfl, rfl, fun p hp => HF.kinds p (List.mem_append_left _ hp)⟩
              exact ((unhide HA).pB.mono (fun p hp => List.mem_append_right _ hp)).snoc2
                (same_first (K := kB) (l := (List.replicate X.length (mB a.N) : Txt)) List.length_replicate (by omega) (List.mem_append_left _ (List.mem_cons_of_mem _ (List.mem_cons_of_mem _ (List.mem_cons_self ..)))) (List.mem_append_left _ (List.mem_cons_of_mem _ (List.mem_cons_self ..))))
                (same_grown (K := kB) (l := (List.replicate X.length (mB a.N) : Txt)) (r := (List.replicate 64 (mB2 a.N) : Txt)) List.length_replicate List.length_replicate (by omega) (List.mem_append_left _ (List.mem_cons_of_mem _ (List.mem_cons_of_mem _ (List.mem_cons_self ..)))) (List.mem_append_left _ (List.mem_cons_self ..)))
end Go.Proofs.YtklkhegeeglfbaaGreatDoor
