import Derived.Test.YtjmbcelkhiopeaaRq
namespace Go.Proofs.Ytjmbcelkhiopeaa
open Go.RowKit Go.Maps
attribute [local go_sem ↓] Go.wp_at_zero Go.wp_at_succ

set_option maxRecDepth 100000 in
set_option maxHeartbeats 2000000 in
theorem survives_some {X : Nat → Prop} (w : World) (V B N : Nat) (st : Nat → Slot) (t : Trio w X V B N st) (hV : B ≤ V) (hB : B ≤ w.heap.size) (o : OpA) (hO : OpAt w B o) (i j : Nat) (hi : o.who % 3 = (i : Int)) (hj : o.b % 3 = (j : Int)) (hi3 : i < 3) (hj3 : j < 3) (S : DS) (R : RS) (hs : st i = some (S, R)) (hN : N ≤ 4294967295) :
    Calls Try.prog 57 #[.pointer (some ⟨V, 0, none⟩), .agg o.cells] w fun e w' => e = .returned (.bool true) ∧ ∃ st', Trio w' X V B N st' ∧ Keeps (fun k => k = V) w w' := by
  obtain ⟨wh, kd, a, b, bv, kv, bytes, keep⟩ := o
  obtain ⟨bo, bc, hbv⟩ := hO.bytes.form
  obtain ⟨ko, kc, hkv⟩ := hO.keep.form
  simp only at hbv hkv hi hj
  subst hbv hkv
  simp only [OpA.cells]
  have HT := hide t
  have HO := hide hO
  obtain ⟨w1, hw1⟩ : ∃ w1, w1 = w.alloc (.cells #[.int .i64 wh, .int .i64 kd, .int .i64 a, .int .i64 b, .slice bo bytes.length bc, .slice ko keep.length kc] 81) := ⟨_, rfl⟩
  have hb1 : w1.heap[w.heap.size]? = some (.cells #[.int .i64 wh, .int .i64 kd, .int .i64 a, .int .i64 b, .slice bo bytes.length bc, .slice ko keep.length kc] 81 (0, 0)) := by rw [hw1]; exact heap_alloc_new w _
  have hk1 : Keeps (fun _ => False) w w1 := by rw [hw1]; exact (Keeps.refl _ _).alloc _
  have HCP := hide (copiedBools_any w1 _ _ (hO.keepF hB hk1).keep (by have := hO.klen; omega))
  simp only at HCP
  have HB1 := hide hb1
  have HW1 := hide hw1
  have HK1 := hide hk1
  clear t hO hb1 hw1 hk1
  go_enter Try.func57, Try.ntmps57
  go_wp2_with fail
  rw [← unhide HW1]
  refine (unhide HCP).mono ?_
  rintro e w2 ⟨v', rfl, hrow, hk2⟩
  obtain ⟨vo, vc, rfl⟩ : ∃ vo vc, v' = .slice vo keep.length vc := by
    rcases hrow.2 with ⟨hv, hn⟩ | ⟨g, cap, cur, hv, _⟩
    · exact ⟨none, 0, by rw [hv, hn]⟩
    · exact ⟨_, _, hv⟩
  have hb2 := (hk2.block _ (lt_of_block (unhide HB1)) id).trans (unhide HB1)
  have c0 := cell_of_blk hb2 0
  have c3 := cell_of_blk hb2 3
  have c5 := cell_of_blk hb2 5
  simp at c0 c3 c5
  have hi0 : (0 : Int) ≤ (i : Int) := by omega
  have hi3' : (i : Int) < 3 := by omega
  have hj0 : (0 : Int) ≤ (j : Int) := by omega
  have hj3' : (j : Int) < 3 := by omega
  have HK2 := hide ((unhide HK1).trans hk2)
  have HK2' : Hid (Keeps (fun k => k = V) w w2) := (unhide HK2).mono (fun _ _ f => f.elim)
  have HROW := hide hrow
  have HB2 := hide hb2
  have HT2 := hide ((unhide HT).keep (unhide HK2))
  have HO2 := hide ((unhide HO).keepF hB (unhide HK2))
  have fv : ∀ j, w2.frozen? ⟨V, j, none⟩ = false := frozen_of_blk (unhide HT2).blk
  obtain ⟨pv, rv⟩ := slot_cells (unhide HT2) i hi3
  obtain ⟨pw, rw'⟩ := slot_cells (unhide HT2) j hj3
  rw [hs] at pv rv
  simp only [slotP, slotR, Option.map_some] at pv rv
  have hVlt := lt_of_block (unhide HT2).blk
  have hVw := lt_of_block (unhide HT).blk
  have hVw1 : V < w1.heap.size := Nat.lt_of_lt_of_le hVw (unhide HK1).size
  have hne1 : w.heap.size ≠ V := by omega
  have hne2 : V ≠ w.heap.size := by omega
  have hz2 := (unhide HK2).size
  clear hrow hk2 hb2 HCP HW1 HT HO HK1 HB1
  have hwho := who_any wh
  have hwhb := who_any b
  rw [hi] at hwho
  rw [hj] at hwhb
  have HWH := hide hwho
  have HWB := hide hwhb
  clear hwho hwhb hi hj
  have hduo := (unhide HT2).duo i S R hs
  have hkb := bools_of_row' (unhide HROW)
  have hkl : keep.length ≤ maxLen := by have := (unhide HO2).klen; simp only at this; unfold maxLen; omega
  have HSV := hide (survive_any w2.drew B S hduo.p.drew _ keep ⟨hkb.form, hkb.cells⟩ (Nat.le_trans hduo.ws hN) hkl)
  have HD := hide hduo
  have hlw : w.heap.size < w2.heap.size := lt_of_block (unhide HB2)
  clear hkb hduo
  go_wp2_with fail
  go_region_held3 (fun w' => w'.cell? ⟨w.heap.size, 0, none⟩ = some (.int .i64 wh) ∧ w'.cell? ⟨V, i, none⟩ = some (.pointer (some ⟨S.D, 0, none⟩)))
    (go_keep)
    (first
      | (go_at_call 45; refine (unhide HWH _).mono ?_; rintro e wa ⟨rfl, rfl⟩)
      | (go_at_call 24; refine (unhide HSV).mono ?_; rintro e w3 ⟨rfl, hk3, hd3⟩; have d0 := (hk3.cell (o := 0) hlw id).trans c0; have dv := (hk3.cell (o := i) hVlt id).trans pv))
  have hk23 := (Keeps.refl (fun _ => False) w2).drew.trans hk3
  have e0 := (hk23.cell (o := 0) hlw id).trans c0
  have e5 := (hk23.cell (o := 5) hlw id).trans c5
  have ev := (hk23.cell (o := 3 + i) hVlt id).trans rv
  have hO3 := (unhide HO2).keepF (Nat.le_trans hB hz2) hk23
  have HRS := hide (refSurvive_any w3.drew B R ((unhide HD).r.keepF hk23.drew) _ keep ⟨hO3.keep.form, hO3.keep.cells⟩ (Nat.le_trans (unhide HD).bnd.log hN) hkl)
  simp only at HRS
  have HK23 := hide hk23
  have HD3 := hide hd3
  have hz3 := hk23.size
  have hlw3 : w.heap.size < w3.heap.size := Nat.lt_of_lt_of_le hlw hz3
  have hVlt3 : V < w3.heap.size := Nat.lt_of_lt_of_le hVlt hz3
  clear hk3 hd3 d0 dv hk23 hO3 HSV
  go_wp2_with fail
  go_region_held3 (fun w' => w'.cell? ⟨w.heap.size, 0, none⟩ = some (.int .i64 wh) ∧ w'.cell? ⟨V, 3 + i, none⟩ = some (.pointer (some ⟨R.D, 0, none⟩)) ∧ w'.cell? ⟨w.heap.size, 5, none⟩ = some (.slice ko keep.length kc))
    (go_keep)
    (first
      | (go_at_call 45; refine (unhide HWH _).mono ?_; rintro e wa ⟨rfl, rfl⟩)
      | (go_at_call 50; refine (unhide HRS).mono ?_; rintro e w4 ⟨Dn, nbv, nlv, nlog, rfl, hr4, hl4, hk4, hD4⟩; have d0 := (hk4.cell (o := 0) hlw3 id).trans e0; have dv := (hk4.cell (o := 3 + i) hVlt3 id).trans ev; have d5 := (hk4.cell (o := 5) hlw3 id).trans e5))
  have hk34 := (Keeps.refl (fun _ => False) w3).drew.trans hk4
  have hk24 := (unhide HK23).trans hk34
  have k3 := (hk24.cell (o := 3) hlw id).trans c3
  have k5 := (hk24.cell (o := 5) hlw id).trans c5
  have fv4 : ∀ j, w4.frozen? ⟨V, j, none⟩ = false := frozen_of_blk ((unhide HT2).keep hk24).blk
  have pv4 := (hk24.cell (o := j) hVlt id).trans pw
  have rv4 := (hk24.cell (o := 3 + j) hVlt id).trans rw'
  have hVlt4 := Nat.lt_of_lt_of_le hVlt hk24.size
  have hlen4 : nlog.length ≤ N := by
    have h1 := congrArg List.length hl4
    simp at h1
    rw [h1]
    exact Nat.le_trans (rkeptTo_len _ _ _ _) (unhide HD).bnd.log
  have hdf := duo_fresh (N := N) (Nat.le_trans hB hz2) (unhide HD3) rfl hk34 hr4 hz3 ((unhide HD).rel.surv (unhide HD).r keep _ _ _ _ _ _ _ hl4) ⟨Nat.zero_le _, hlen4, ⟨Int.le_refl _, by simp [freshDS]⟩, ⟨Int.le_refl _, by simp [freshDS]⟩, ⟨Int.le_refl _, by simp [freshDS]⟩, by simp [freshDS]⟩
  have hst := (unhide HT2).store j hj3 (some (freshDS (w2.heap.size + 2) w2.heap.size (w2.heap.size + 1) S.secs S.size (settleAll S.size S.dur (keptTo keep S.ws S.ws.length)), survRS R Dn nbv nlv nlog nlog.length)) (Nat.le_refl _) hk24 (fun S R h => by cases h; exact hdf)
  have HS := hide hst.1
  have HSK := hide ((unhide HK2').trans hst.2)
  have HE := hide (same_bools hV (unhide HO2) (Nat.le_trans hB hz2) hst.2.drew.drew (ownsRow_kept (unhide HROW) hk24 (fun _ _ => id)) hVw1 ((kD w4 V j _).trans (kD _ V (3 + j) _)).drew.drew)
  simp only [slotP, slotR, Option.map_some, freshDS, survRS] at HS HSK HE
  clear hst hdf hr4 hl4 hk4 hD4 d0 dv d5 hk34 hk24 HRS
  go_wp2_with fail
  go_region_law (first
      | (go_simp; go_at_call 45; refine (unhide HWB _).mono ?_; rintro e wa ⟨rfl, rfl⟩))
  go_wp2_with fail
  go_region_law (first
      | (go_simp; go_at_call 45; refine (unhide HWB _).mono ?_; rintro e wa ⟨rfl, rfl⟩))
  go_wp2_with fail
  refine (unhide HE).mono ?_
  rintro e w'' ⟨rfl, n, rfl⟩
  go_wp2
  go_ret
  exact ⟨rfl, _, (unhide HS).keep (keeps_drewN _ _), (unhide HSK).trans ((keeps_drewN _ _).mono (fun _ _ f => f.elim))⟩

end Go.Proofs.Ytjmbcelkhiopeaa
