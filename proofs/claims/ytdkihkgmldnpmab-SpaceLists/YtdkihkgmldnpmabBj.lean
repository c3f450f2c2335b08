import Derived.Test.YtdkihkgmldnpmabBi
namespace Go.Proofs.Ytdkihkgmldnpmab
open Go.RowKit Go.Maps

def ups (k : Nat) : List Int := (List.range k).map (fun (i : Nat) => (i : Int))
theorem ups_succ (k : Nat) : ups (k + 1) = ups k ++ [(k : Int)] := by simp [ups, List.range_succ]
theorem ups_length (k : Nat) : (ups k).length = k := by simp [ups]
theorem ups_get {k i : Nat} (h : i < k) : (ups k)[i]? = some (i : Int) := by simp [ups, h]
theorem row_cap {w : World} {B e : Nat} {g n cap : Nat} {xs : List Value} (h : w.ownsRow B e 1 (.slice (some ⟨g, 0, none⟩) n cap) n xs) : n ≤ cap := by
  rcases h.2 with ⟨hv, _⟩ | ⟨g', cap', cur, hv, _, _, hnc, _⟩
  · cases hv
  · cases hv; exact hnc

theorem LI.store {w w' : World} {V B : Nat} {st : Nat → Slot} {b : Book} (h : LI w V B st b) (i : Nat) (hi : i < 3) (s : Slot) (hf : Fresh w w' B s) :
    LI ((w'.setCell ⟨V, i, none⟩ (slotP s)).setCell ⟨V, 3 + i, none⟩ (slotR s)) V B (setSlot st i s) b ∧ Keeps (fun k => k = V) w ((w'.setCell ⟨V, i, none⟩ (slotP s)).setCell ⟨V, 3 + i, none⟩ (slotR s)) := by
  obtain ⟨t2, k2⟩ := h.t.store i hi s hf.1 hf.2
  refine ⟨⟨t2, h.k.keep k2 (fun k ha e => h.V_all (e ▸ ha)), fun j k hs hF => ?_⟩, k2⟩
  rcases grows_put (w := w) (w' := w) (st := st) (i := i) (s := s) (Nat.le_refl _) (fun x y e => (hf.2 x y e).2) j k hs with ⟨q, hq⟩ | hle
  · exact h.out q k hq hF
  · have := (h.k.all_at (Or.inr hF)).2
    omega

set_option maxRecDepth 100000 in
set_option maxHeartbeats 8000000 in
theorem listed_load (w : World) (V B : Nat) (st : Nat → Slot) (b : Book) (h : LI w V B st b) (hB : B ≤ w.heap.size) (hn : b.n ≤ 8589934592) (o : OpA) (hO : OpAt w B o) (hlen : o.bytes.length ≤ 140737488351232) (hkd : o.kind = 2) :
    Calls Try.prog 5 #[.pointer (some ⟨V, 0, none⟩), .pointer (some ⟨b.K, 0, none⟩), .agg o.cells] w fun e w' => e = .returned (.bool true) ∧ ∃ st' b', LI w' V B st' b' ∧ b'.K = b.K ∧ b'.n ≤ b.n + 1 ∧ Keeps (fun k => B ≤ k) w w' := by
  obtain ⟨i0, hi00, hz0, hz1, hz2⟩ := info_parts Try.info5
  obtain ⟨wh, kd, a, bv, bytes⟩ := o
  simp only at hkd hlen
  subst hkd
  obtain ⟨bo, bc, hbv⟩ := hO.bits.form
  simp only [bs_length] at hbv
  subst hbv
  simp only [OpA.cells]
  obtain ⟨i, hi, hi3⟩ := mod3 wh
  obtain ⟨w1, hw1⟩ : ∃ w1, w1 = w.alloc (.cells #[.int .i64 wh, .int .i64 2, .int .i64 a, .slice bo bytes.length bc] 39) := ⟨_, rfl⟩
  have hb1 : w1.heap[w.heap.size]? = some (.cells #[.int .i64 wh, .int .i64 2, .int .i64 a, .slice bo bytes.length bc] 39 (0, 0)) := by rw [hw1]; exact heap_alloc_new w _
  have hk1 : Keeps (fun _ => False) w w1 := by rw [hw1]; exact (Keeps.refl _ _).alloc _
  have h1 := h.keep hk1
  have hC1 : Cells w1 (.slice bo bytes.length bc) (bs bytes) := hO.bits.keepF hk1
  have HCP := hide (copyBytes_any w1 _ bytes hC1 (by omega))
  have HRG := hide hO.rng
  have hwho := who_any wh w1
  rw [hi] at hwho
  have HWH := hide hwho
  have c0 := cell_of_blk hb1 0
  have c1 := cell_of_blk hb1 1
  have c3 := cell_of_blk hb1 3
  simp at c0 c1 c3
  have hi0 : (0 : Int) ≤ (i : Int) := by omega
  have hi3' : (i : Int) < 3 := by omega
  have hB1 : B ≤ w1.heap.size := Nat.le_trans hB hk1.size
  have HB1 := hide hb1
  have HW1 := hide hw1
  have HK1 := hide hk1
  have HH1 := hide h1
  have HC1 := hide hC1
  have HLO : Hid (∀ k, b.own k → B ≤ k) := fun k hk => (h.k.own_at hk).1
  have HVL : Hid (B ≤ V) := h.t.lo
  clear h hO hb1 hw1 hk1 h1 hwho hi hC1
  go_enter Try.func5, Try.ntmps5
  go_wp2_with fail
  rw [← unhide HW1]
  refine (unhide HWH).mono ?_; rintro e w1 ⟨rfl, rfl⟩
  go_wp2_with fail
  refine (unhide HCP).mono ?_
  rintro e w2 ⟨v, rfl, hrow, hk2⟩
  obtain ⟨vo, vc, rfl, _⟩ := own_form hrow
  have HROW := hide hrow
  have HK2 := hide hk2
  clear hrow hk2 HCP
  go_wp2_with fail
  go_loopw [8, 10] (fun lv j wr => ∃ k : Nat, k ≤ 64 ∧ j = .int .i64 k ∧ wr.ownsRow w1.heap.size 5 1 lv (bytes.length + k) (bs (bytes ++ ups k)) ∧ Keeps (fun _ => False) w1 wr) (fun _ j _ => 64 - (intOf j).toNat)
  case atStart => exact ⟨0, by omega, rfl, by simpa [ups] using unhide HROW, unhide HK2⟩
  case round =>
    obtain ⟨k, hk, rfl, hown, hkeep⟩ := hrel
    have HO := hide hown
    have HK := hide hkeep
    clear hown hkeep
    by_cases hlt : k < 64
    · have i1 : (k : Int) < 64 := by omega
      have i2 : (k : Int) % 256 = (k : Int) := by omega
      go_wp2_with (at_builtin; refine wpList_append_lies _ rfl _ _ _ rfl w1.heap.size 5 i0 _ 1 1 Try.underlying37 hi00 hz0 hz1 hz2 rfl (by omega) u8 (bytes.length + k) (bs (bytes ++ ups k)) rfl ((unhide HO).alloc _) ⟨wr.heap.size, 0, none⟩ 1 1 [.int .u8 (k : Int)] rfl rfl (World.news_of_block (cs := #[.int .u8 (k : Int)]) (t := 5) (fr := (0, 0)) (heap_alloc_new wr _)) (by simp [Value.oneCell']) (by omega) (by unfold maxLen; omega) (by omega) (by have := (unhide HK).size; simp; omega) (wr.heap.size + 1) (by simp) ?_; intro g cap w3 hown1 hgrow hat hlt1)
      go_roundw
      case rel =>
        refine ⟨k + 1, by omega, by go_num, ?_, ((unhide HK).alloc _).grown hgrow (fun q e hq => by have := ((unhide HO).lt q e).1; omega)⟩
        rw [ups_succ, ← List.append_assoc, bs_append (bytes ++ ups k), ← Nat.add_assoc]
        simpa [bs] using hown1
      case measure => simp [intOf]; omega
    · obtain rfl : k = 64 := by omega
      clear hlt hk
      obtain ⟨g, cap, rfl, hg1, hg2⟩ := (unhide HO).form (by omega)
      have hcap := row_cap (unhide HO)
      have hrowN := rowTake (unhide HO) bytes.length (by omega) (by omega)
      have hxs : (bs (bytes ++ ups 64)).take (bytes.length * 1) = bs bytes := by rw [bs_append]; simp [bs]
      rw [hxs] at hrowN
      have hCN := cells_row hrowN (bs_length _)
      have hC2 := (unhide HC1).keepF (unhide HK)
      obtain ⟨ev, hmade⟩ := made_load wr.drew B (Nat.le_trans hB1 (unhide HK).size) a (.slice (some ⟨g, 0, none⟩) bytes.length cap) (.slice bo bytes.length bc) bytes (unhide HRG) (hCN.drewN 1) (hC2.drewN 1)
      have HM := hide hmade
      have hb2 := ((unhide HK).block _ (lt_of_block (unhide HB1)) id).trans (unhide HB1)
      have d2 := cell_of_blk hb2 2
      have d3 := cell_of_blk hb2 3
      simp at d2 d3
      have HB2 := hide hb2
      have HCN := hide hCN
      have HC2 := hide hC2
      have i5 : (bytes.length : Int) ≤ (cap : Int) := by omega
      have i6 : (0 : Int) ≤ (bytes.length : Int) := by omega
      clear hmade hb2 hCN hC2 hrowN hxs c0 c1 c3
      go_wp2_with fail
      go_region_held3 (fun w' => w'.cell? ⟨w.heap.size, 2, none⟩ = some (.int .i64 a))
        (go_keep)
        (first
          | (go_at_call 10
             refine (unhide HM).mono ?_
             rintro e w3 ⟨pp, rfl, hk3, hc3⟩
             have f2 := (hk3.cell (o := 2) (lt_of_block (unhide HB2)) id).trans d2
             have f3 := (hk3.cell (o := 3) (lt_of_block (unhide HB2)) id).trans d3
             have HC3 := hide hc3
             have HK3 := hide ((Keeps.refl _ wr).drew.trans hk3)
             clear hc3 hk3))
      go_wp2_with fail
      refine (unhide HC3).mono ?_
      rintro e w4 ⟨rp, rfl, s, hsp, hsr, hfr⟩
      have hk4 : Keeps (fun _ => False) wr w4 := (Keeps.refl _ wr).drew.trans hfr.1
      have hfr4 : Fresh wr w4 B s := ⟨hk4, hfr.2⟩
      have g3 := (hk4.cell (o := 3) (lt_of_block (unhide HB2)) id).trans d3
      have HE := hide (fun n => eqBytes_any (w4.drewN n) _ _ bytes bytes (((unhide HCN).keepF hk4).drewN n) (((unhide HC2).keepF hk4).drewN n) (by unfold maxLen; omega))
      rw [decide_eq_true rfl] at HE
      have HFR := hide hfr4
      have HSP := hide hsp
      have HSR := hide hsr
      have HO4 := hide (ownsRow_kept (unhide HO) hk4 (fun _ _ => id))
      clear hfr hfr4 hk4 hsp hsr HC3 HM d2 d3 f2 f3
      go_wp2_with fail
      go_region_held3 (fun w' => w'.cell? ⟨w.heap.size, 3, none⟩ = some (.slice bo bytes.length bc))
        (go_keep)
        (first
          | (go_at_call 12; refine (unhide HE 1).mono ?_; rintro e w5 ⟨rfl, q, rfl⟩))
      have hO5 : (w4.drewN (1 + q)).ownsRow w1.heap.size 5 1 (.slice (some ⟨g, 0, none⟩) (bytes.length + 64) cap) (bytes.length + 64) (bs (bytes ++ ups 64)) := unhide HO4
      have hfr5 : Fresh wr (w4.drewN (1 + q)) B s := ⟨(unhide HFR).1.drewN (1 + q), fun x y e => ⟨((unhide HFR).2 x y e).1.keep (keeps_drewN w4 (1 + q)) (fun _ _ => id), ((unhide HFR).2 x y e).2⟩⟩
      have HO5 := hide hO5
      have HFR5 := hide hfr5
      clear hO5 hfr5 HO4 HFR HE g3
      have hfit : w1.heap.size ≤ g ∧ g < wr.heap.size := ⟨hg1, hg2⟩
      go_wp2_with fail
      generalize w4.drewN (1 + q) = w6 at *
      go_loop [15, 16] (fun ok j => ∃ k : Nat, k ≤ 64 ∧ ok = .bool true ∧ j = .int .i64 k) (fun _ j => 64 - (intOf j).toNat)
      case atStart => exact ⟨0, by omega, rfl, rfl⟩
      case round =>
        obtain ⟨k, hk, rfl, rfl⟩ := hrel
        by_cases hlt : k < 64
        · have p0 : w6.cell? ⟨g, bytes.length + k, none⟩ = some (.int .u8 (k : Int)) := (rowC (unhide HO5)).2.2 (bytes.length + k) _ (by rw [bs_get, List.getElem?_append_right (by omega)]; simp [ups_get hlt])
          have i7 : (k : Int) < 64 := by omega
          have i9 : (bytes.length : Int) + (k : Int) < (bytes.length : Int) + 64 := by omega
          have i12 : (0 : Int) ≤ (bytes.length : Int) + (k : Int) := by omega
          have i10 : (k : Int) % 256 = (k : Int) := by omega
          have i11 : bytes.length + k ≤ 140737488351300 := by omega
          go_wp2
          go_round
          case rel => exact ⟨k + 1, by omega, by first | rfl | simp, by go_num⟩
          case measure => simp [intOf]; omega
        · have h6 := (unhide HH1).keep ((unhide HK).trans (unhide HFR5).1)
          have hwr := (unhide HH1).keep (unhide HK)
          obtain ⟨pv, rv⟩ := slot_cells h6.t i hi3
          have fv : ∀ j, w6.frozen? ⟨V, j, none⟩ = false := frozen_of_blk h6.t.blk
          obtain ⟨hst, hkst⟩ := hwr.store i hi3 s (unhide HFR5)
          have hgV : g ≠ V := by have := lt_of_block (unhide HH1).t.blk; omega
          have hrow8 := ownsRow_kept (unhide HO5) ((kD w6 V i (slotP s)).trans (kD _ V (3 + i) (slotR s))) (fun q hq e => by simp [Value.ownBlock] at hq; omega)
          have hrow8' := ownsRow_lower hrow8 hB1
          have hnew : ∀ k, (Value.slice (some ⟨g, 0, none⟩) (bytes.length + 64) cap).ownBlock = some k → k ≠ V ∧ ∀ j x y, setSlot st i s j = some (x, y) → ¬ foot x y k := by
            intro k hk
            simp [Value.ownBlock] at hk
            subst hk
            refine ⟨hgV, fun j x y hj hf => ?_⟩
            unfold setSlot at hj
            split at hj
            · have := ((unhide HFR5).2 x y hj).2 g hf
              omega
            · have := ((unhide HH1).t.duo j x y hj).foot_lt hf
              omega
          have hB8 : B ≤ ((w6.setCell ⟨V, i, none⟩ (slotP s)).setCell ⟨V, 3 + i, none⟩ (slotR s)).heap.size := Nat.le_trans (Nat.le_trans hB1 (unhide HK).size) hkst.size
          have HM := hide (bytes_any _ B b hst.k hB8 (some ⟨g, 0, none⟩) (bytes.length + 64) cap (bytes ++ ups 64) (by simp [ups_length]) hrow8' (fun k hk ha => by
            simp [Value.ownBlock] at hk
            subst hk
            have := ((unhide HH1).k.all_at ha).2
            omega) (by omega) hn)
          have HST := hide hst
          have HNEW := hide hnew
          have HKS := hide (((unhide HK1).trans (unhide HK)).any.trans hkst)
          have HGB : Hid (B ≤ g) := Nat.le_trans hB1 hg1
          have hsp := unhide HSP
          have hsr := unhide HSR
          have HEV : Hid True := trivial
          clear h6 hwr hst hkst hrow8 hrow8' hnew hB8 HO5 HFR5 HO HK HSP HSR
          rcases s with _ | ⟨sa, sb⟩
          all_goals
            simp only [slotP, slotR, Option.map_none, Option.map_some] at hsp hsr HM HST HKS
            simp only [Value.pointer.injEq] at hsp hsr
            subst hsp hsr
            go_wp2_with fail
            refine (unhide HM).mono ?_
            rintro e w7 ⟨rfl, b', hb', hbK, hbn, hk7, hall⟩
            have H7 := hide ((unhide HST).mark hb' hk7 hall (unhide HNEW))
            have HK7 := hide (((unhide HKS).mono (fun k _ e => by rw [e]; exact unhide HVL)).trans (hk7.mono (fun k _ e => e.elim (unhide HLO k) (fun e => by simp [Value.ownBlock] at e; rw [← e]; exact unhide HGB))))
            clear hb' hk7 hall
            go_wp2
            go_ret
            exact ⟨ret_bool (by first | rfl | simp), _, b', unhide H7, hbK, by omega, unhide HK7⟩

end Go.Proofs.Ytdkihkgmldnpmab
