import Derived.Test.YtklkhegeeglfbaaGreatDoorGF
namespace Go.Proofs.YtklkhegeeglfbaaGreatDoor
open Go.RowKit Go.Maps

set_option maxRecDepth 100000 in
set_option maxHeartbeats 8000000 in
theorem apartFields_v (w : World) (B : Nat) (vo : Option Addr) (vc : Nat) (hs : List Value) (ps : List (List kF.α)) (L : List Rowp) (hr : w.ownsRow B 24 1 (.slice vo ps.length vc) ps.length hs) (hb : Sack w B (solos kF hs ps ++ L)) (hB : B ≤ w.heap.size) (hn : ps.length ≤ 100) (hp : ∀ p ∈ ps, p.length ≤ 1073741824) :
    Calls Tryz.prog 55 #[.slice vo ps.length vc] w fun e w' => e = .returned (.bool true) ∧ Keeps (FZ kF w B) w w' := by
  have HM := hide (MkZ.start (K := kF) (mk := mkF) hr hb)
  have HR := hide hr
  have HP := hide hp
  have HB := hide hB
  clear hr hb hp hB
  go_enter Tryz.func55, Tryz.ntmps55
  go_wp2_with fail
  go_loopw [3] (fun iv wr => ∃ (i : Nat) (its : List Rowp), i ≤ ps.length ∧ iv = .int .i64 i ∧ Hid (MkZ kF w wr B (.slice vo ps.length vc) hs ps mkF (upZ i 0 (lenZ ps)) its)) (fun iv _ => ps.length - (intOf iv).toNat)
  case atStart => exact ⟨0, _, Nat.zero_le _, rfl, (unhide HM).same (fun j p _ => by rw [upZ_zero])⟩
  case round =>
    obtain ⟨i, its, hi, rfl, HD⟩ := hrel
    by_cases hlt : i < ps.length
    · obtain ⟨g, p, xo, xc, rfl, hpi, hxi, hxc, hxb⟩ := (unhide HD).round hlt
      have hpl : p.length ≤ 1073741824 := unhide HP p (List.mem_of_getElem? hpi)
      have HPI := hide hpi
      have HXI := hide hxi
      have HXB := hide hxb
      have i1 : (i : Int) < (ps.length : Int) := by omega
      have i0 : (0 : Int) ≤ (i : Int) := by omega
      clear hpi hxi hxb
      go_wp2_with fail
      go_loopw [4] (fun kv wq => ∃ (k : Nat) (its : List Rowp), k ≤ p.length ∧ kv = .int .i64 k ∧ Hid (MkZ kF w wq B (.slice (some ⟨g, 0, none⟩) ps.length vc) hs ps mkF (upZ i k (lenZ ps)) its)) (fun kv _ => p.length - (intOf kv).toNat)
      case atStart => exact ⟨0, _, Nat.zero_le _, rfl, HD⟩
      case round =>
        clear HD
        obtain ⟨k, its2, hk, rfl, HD⟩ := hrel
        have c0 := (unhide HD).cell rfl (unhide HXI)
        by_cases hlk : k < p.length
        · obtain ⟨b, rfl⟩ := unhide HXB (by omega)
          have hbt := (unhide HD).head (unhide HXI) (unhide HPI)
          rw [upZ_self] at hbt
          have o0 := own_open hbt (j := k * 3) (by show _ < p.length * 3; omega)
          have o1 := own_open hbt (j := k * 3 + 1) (by show _ < p.length * 3; omega)
          have o2 := own_open hbt (j := k * 3 + 2) (by show _ < p.length * 3; omega)
          obtain ⟨⟨d0, c1⟩, f1⟩ := o0
          obtain ⟨⟨d1, c2⟩, f2⟩ := o1
          obtain ⟨⟨d2, c3⟩, f3⟩ := o2
          have HPUT := hide ((unhide HD).put (t' := upZ i (k + 1) (lenZ ps)) (unhide HXI) (unhide HPI) (by rw [upZ_self]; exact hlk) (by rw [upZ_self, upZ_self]) (fun j hj => upZ_ne hj) (by rw [upZ_self]; exact own_set3F (B := B) (e := 69) hbt k (mkF i)) ((keeps_put3 _ b _ _ _ _ _ _).mono (fun q _ e => by rw [e]; rfl)))
          rw [upZ_self] at HPUT
          have i2 : (k : Int) < (p.length : Int) := by omega
          have i3 : (0 : Int) ≤ (k : Int) := by omega
          clear hbt
          go_wp2_with fail
          go_roundw
          case rel => exact ⟨k + 1, _, by omega, by go_num, HPUT⟩
          case measure => simp [intOf]; omega
        · have HE := hide ((unhide HD).same (t' := upZ (i + 1) 0 (lenZ ps)) (fun j p' hj => by
            have : k = lenZ ps i := by rw [lenZ_at (unhide HPI)]; omega
            rw [this, upZ_end]))
          go_wp2_with fail
          go_roundw
          case rel => exact ⟨i + 1, _, by omega, by go_num, HE⟩
          case measure => simp [intOf]; omega
    · have hie : i = ps.length := by omega
      have HG := hide (GwZ.start (nk := nkF) (unhide HD) (unhide HR) (fun j p hj => by rw [upZ_below (by rw [hie]; exact get_lt hj), lenZ_at hj]))
      clear HD HM
      have i1 : ¬ (i : Int) < (ps.length : Int) := by omega
      clear hie
      go_wp2_with fail
      go_loopw [5, 6] (fun mv iv wr => ∃ (i : Nat) (ms : List Value) (its : List Rowp), i ≤ ps.length ∧ iv = .int .i64 i ∧ ms.length = i ∧ Hid (GwZ kF w wr B (.slice vo ps.length vc) hs ps mkF nkF (upZ i 0 (fun _ => 64)) mv ms its)) (fun _ iv _ => ps.length - (intOf iv).toNat)
      case atStart => exact ⟨0, [], _, Nat.zero_le _, rfl, rfl, (unhide HG).same (fun j _ => by rw [upZ_zero])⟩
      case round =>
        clear HG i1
        obtain ⟨i, ms, its, hi, rfl, hms, HD⟩ := hrel
        by_cases hlt : i < ps.length
        · obtain ⟨g, p, xo, xc, rfl, hpi, hxi, hti⟩ := (unhide HD).round hlt (upZ_self ..)
          have hpl : p.length ≤ 1073741824 := unhide HP p (List.mem_of_getElem? hpi)
          have c0 := (unhide HD).cell rfl hxi
          have HPI := hide hpi
          have HXI := hide hxi
          have HTI := hide hti
          have i1 : (i : Int) < (ps.length : Int) := by omega
          have i0 : (0 : Int) ≤ (i : Int) := by omega
          clear hpi hxi hti
          go_wp2_with fail
          go_loopw [7, 8] (fun lv kv wq => ∃ (k : Nat) (its : List Rowp), k ≤ 64 ∧ kv = .int .i64 k ∧ Hid (GwZ kF w wq B (.slice (some ⟨g, 0, none⟩) ps.length vc) hs ps mkF nkF (upZ i k (fun _ => 64)) u5 ms its) ∧ Hid (its[i]? = some ⟨kF.e, kF.z, p.length, .slice xo p.length xc, kF.C (fullZ kF mkF i p), k, lv, kF.C (List.replicate k (nkF i))⟩)) (fun _ kv _ => 64 - (intOf kv).toNat)
          case atStart => exact ⟨0, _, Nat.zero_le _, rfl, HD, HTI⟩
          case round =>
            clear HD HTI c0
            obtain ⟨k, its2, hk, rfl, HD, HTI⟩ := hrel
            have HLV : Hid (wr.ownsRow B 69 3 u7 (p.length + k) (kF.C (fullZ kF mkF i p) ++ kF.C (List.replicate k (nkF i)))) := ((unhide HD).sack.all _ (List.mem_of_getElem? (unhide HTI))).m
            have HBW : Hid (B ≤ wr.heap.size) := Nat.le_trans (unhide HB) (unhide HD).keeps.size
            by_cases hlk : k < 64
            · have i2 : (k : Int) < 64 := by omega
              have HFL := hide (fld_lit wr moreT (i : Int) false)
              go_wp2_with (at_builtin; refine append_fldZ rfl _ _ rfl B u7 (p.length + k) _ rfl (own_alloc (unhide HLV) _) wr.heap.size 1 (nkF i) rfl (unhide HFL) (by omega) (Nat.le_trans (unhide HBW) (by simp)) ?_; intro g2 cap2 w3 HG)
              go_roundw
              case rel =>
                have := (unhide HD).grow (u' := upZ i (k + 1) (fun _ => 64)) (unhide HXI) (unhide HPI) (unhide HTI) (by omega) (by rw [upZ_self]) (fun j hj => upZ_ne hj) rfl HG
                exact ⟨k + 1, _, by omega, by go_num, this.1, this.2⟩
              case measure => simp [intOf]; omega
            · obtain rfl : k = 64 := by omega
              obtain ⟨lo, lc, rfl⟩ := (rowAt_own (unhide HLV)).form
              have HMR : Hid (wr.ownsRow w.heap.size 24 1 u5 ms.length ms) := (unhide HD).mrow
              have HWW : Hid (w.heap.size ≤ wr.heap.size) := (unhide HD).keeps.size
              go_wp2_with (at_builtin; refine append_hdr 92 24 (by kernel_rfl) (.slice none 0 0) (by kernel_rfl) rfl rfl _ _ rfl w.heap.size u5 ms.length ms rfl (own_alloc (unhide HMR) _) wr.heap.size 1 (.slice lo (p.length + 64) lc) rfl (by rw [cell_of_blk (heap_alloc_new wr _)]; rfl) rfl (by omega) (Nat.le_trans (unhide HWW) (by simp)) ?_; intro g2 cap2 w3 HG)
              go_roundw
              case rel =>
                have := ((unhide HD).more (unhide HTI) hms HG (unhide HB)).same (u' := upZ (i + 1) 0 (fun _ => 64)) (fun j _ => upZ_end i (fun _ => 64) j)
                rw [hms] at this
                exact ⟨i + 1, _, _, by omega, by go_num, (by rw [List.length_append, hms]; rfl), this⟩
              case measure => simp [intOf]; omega
        · obtain rfl : i = ps.length := by omega
          have i1 : ¬ (ps.length : Int) < (ps.length : Int) := by omega
          have HG := HD
          have HMS := hide hms
          clear HD hms
          go_wp2_with fail
          go_loopw [9] (fun iv wq => ∃ i : Nat, i ≤ ps.length ∧ iv = .int .i64 i ∧ ∃ n, wq = wr.drewN n) (fun iv _ => ps.length - (intOf iv).toNat)
          case atStart => exact ⟨0, Nat.zero_le _, rfl, 0, rfl⟩
          case round =>
            rename_i wz _
            obtain ⟨i, hi, rfl, n, rfl⟩ := hrel
            by_cases hlt : i < ps.length
            · obtain ⟨g, _, e, _, _⟩ := (unhide HG).row.form (by omega)
              simp at e
              obtain ⟨rfl, rfl⟩ := e
              obtain ⟨p, hpi⟩ : ∃ p, ps[i]? = some p := ⟨_, List.getElem?_eq_getElem hlt⟩
              obtain ⟨x, hxi⟩ : ∃ x, hs[i]? = some x := ⟨_, List.getElem?_eq_getElem (by rw [(unhide HG).lens]; exact hlt)⟩
              have hms := unhide HMS
              obtain ⟨mg, mc, rfl, _, _⟩ := (unhide HG).mrow.form (by omega)
              obtain ⟨xo, xc, yg, yc, rfl, hmi, hxc, hyc, hx, hy⟩ := (unhide HG).ends hxi hpi (upZ_below hlt) (by omega)
              have c0 := (unhide HG).cell rfl hxi
              have c1 := own_at (unhide HG).mrow hmi
              have hpl : p.length ≤ 1073741824 := unhide HP p (List.mem_of_getElem? hpi)
              have HX := hide hx
              have HY := hide hy
              have i1 : (i : Int) < (ps.length : Int) := by omega
              have i0 : (0 : Int) ≤ (i : Int) := by omega
              have i3 : (i : Int) < (ms.length : Int) := by omega
              clear hx hy hmi hxi hpi hms
              go_wp2_with fail
              go_loopw [10] (fun kv wq => ∃ k n : Nat, k ≤ p.length + 64 ∧ kv = .int .i64 k ∧ wq = wr.drewN n) (fun kv _ => p.length + 64 - (intOf kv).toNat)
              case atStart => exact ⟨0, n, Nat.zero_le _, rfl, rfl⟩
              case round =>
                obtain ⟨k, n, hk, rfl, rfl⟩ := hrel
                have k0 : (0 : Int) ≤ (k : Int) := by omega
                by_cases hlk : k < p.length
                · obtain ⟨b, _, e, _, _⟩ := (unhide HX).form (by omega)
                  simp at e
                  obtain ⟨rfl, rfl⟩ := e
                  obtain ⟨a0, a1, a2⟩ := fcs_at (both_at1 (K := kF) (mk := mkF) (nk := nkF) (i := i) hlk)
                  have d0 : wr.cell? ⟨yg, k * 3, none⟩ = some (.string ⟨#[109, 97, 114, 107]⟩) := own_at (unhide HY) a0
                  have d1 := own_at (unhide HY) a1
                  have d2 := own_at (unhide HY) a2
                  obtain ⟨b0, b1, b2⟩ := fcs_at (full_at (K := kF) (mk := mkF) (i := i) hlk)
                  have e0 : wr.cell? ⟨b, k * 3, none⟩ = some (.string ⟨#[109, 97, 114, 107]⟩) := own_at (unhide HX) b0
                  have e1 := own_at (unhide HX) b1
                  have e2 := own_at (unhide HX) b2
                  unfold mkF at d1 d2 e1 e2
                  simp only at d1 d2 e1 e2
                  clear a0 a1 a2 b0 b1 b2
                  have k1 : (k : Int) < (p.length : Int) := by omega
                  have k2 : (k : Int) < (p.length : Int) + 64 := by omega
                  go_wp2_with fail
                  go_quiet (fail)
                  go_wp2_with fail
                  go_roundw
                  case rel => exact ⟨k + 1, n + nq, by omega, by go_num, by simp⟩
                  case measure => simp [intOf]; omega
                by_cases hlk2 : k < p.length + 64
                · 
                  obtain ⟨a0, a1, a2⟩ := fcs_at (both_at2 (K := kF) (mk := mkF) (nk := nkF) (i := i) (Nat.le_of_not_lt hlk) hlk2)
                  have d0 : wr.cell? ⟨yg, k * 3, none⟩ = some (.string ⟨#[109, 111, 114, 101]⟩) := own_at (unhide HY) a0
                  have d1 := own_at (unhide HY) a1
                  have d2 := own_at (unhide HY) a2
                  unfold nkF at d1 d2
                  simp only at d1 d2
                  clear a0 a1 a2
                  have k1 : ¬ (k : Int) < (p.length : Int) := by omega
                  have k2 : (k : Int) < (p.length : Int) + 64 := by omega
                  go_wp2_with fail
                  go_quiet (fail)
                  go_wp2_with fail
                  go_roundw
                  case rel => exact ⟨k + 1, n + nq, by omega, by go_num, by simp⟩
                  case measure => simp [intOf]; omega
                · have k2 : ¬ (k : Int) < (p.length : Int) + 64 := by omega
                  go_wp2_with fail
                  go_roundw
                  case rel => exact ⟨i + 1, by omega, by go_num, n, rfl⟩
                  case measure => simp [intOf]; omega
            · have i1 : ¬ (i : Int) < (ps.length : Int) := by omega
              go_wp2_with fail
              go_ret
              exact ⟨rfl, (unhide HG).keeps.trans (keeps_drewN _ n).any⟩
end Go.Proofs.YtklkhegeeglfbaaGreatDoor
