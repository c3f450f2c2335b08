import Derived.Test.YtjmbcelkhiopeaaRo
namespace Go.Proofs.Ytjmbcelkhiopeaa
open Go.RowKit Go.Maps
attribute [local go_sem ↓] Go.wp_at_zero Go.wp_at_succ

set_option maxRecDepth 100000 in
set_option maxHeartbeats 2000000 in
theorem makes_image {X : Nat → Prop} (w : World) (V B N : Nat) (st : Nat → Slot) (t : Trio w X V B N st) (hV : B ≤ V) (hB : B ≤ w.heap.size) (o : OpA) (hO : OpAt w B o) (hkd : o.kind = 2) :
    Calls Try.prog 56 #[.pointer (some ⟨V, 0, none⟩), .agg o.cells] w fun e w' => e = .returned (.bool true) ∧ ∃ st', Trio w' X V B N st' ∧ Keeps (fun k => k = V) w w' := by
  obtain ⟨wh, kd, a, b, bv, kv, bytes, keep⟩ := o
  simp only at hkd
  subst hkd
  obtain ⟨bo, bc, hbv⟩ := hO.bytes.form
  obtain ⟨ko, kc, hkv⟩ := hO.keep.form
  simp only at hbv hkv
  subst hbv hkv
  simp only [OpA.cells]
  have HT := hide t
  have HO := hide hO
  obtain ⟨w1, hw1⟩ : ∃ w1, w1 = w.alloc (.cells #[.int .i64 wh, .int .i64 2, .int .i64 a, .int .i64 b, .slice bo bytes.length bc, .slice ko keep.length kc] 81) := ⟨_, rfl⟩
  have hb1 : w1.heap[w.heap.size]? = some (.cells #[.int .i64 wh, .int .i64 2, .int .i64 a, .int .i64 b, .slice bo bytes.length bc, .slice ko keep.length kc] 81 (0, 0)) := by rw [hw1]; exact heap_alloc_new w _
  have hk1 : Keeps (fun _ => False) w w1 := by rw [hw1]; exact (Keeps.refl _ _).alloc _
  have HCP := hide ((hO.keepF hB hk1).copy (Nat.le_trans hB hk1.size))
  simp only at HCP
  have HB1 := hide hb1
  have HW1 := hide hw1
  have HK1 := hide hk1
  clear t hO hb1 hw1 hk1
  go_enter Try.func56, Try.ntmps56
  go_wp2_with (first | (go_at_call 45; refine (who_any _ _).mono ?_; rintro e w' ⟨rfl, rfl⟩) | fail)
  rw [← unhide HW1]
  refine (unhide HCP).mono ?_
  rintro e w2 ⟨v', rfl, hrow, hk2⟩
  obtain ⟨vo, vc, rfl⟩ : ∃ vo vc, v' = .slice vo bytes.length vc := by
    rcases hrow.2 with ⟨hv, hn⟩ | ⟨g, cap, cur, hv, _⟩
    · exact ⟨none, 0, by rw [hv, hn]⟩
    · exact ⟨_, _, hv⟩
  have hb2 := (hk2.block _ (lt_of_block (unhide HB1)) id).trans (unhide HB1)
  have c1 := cell_of_blk hb2 1
  have c2 := cell_of_blk hb2 2
  have c3 := cell_of_blk hb2 3
  have c4 := cell_of_blk hb2 4
  simp at c1 c2 c3 c4
  obtain ⟨i, hi, hi3⟩ : ∃ i : Nat, wh % 3 = (i : Int) ∧ i < 3 := ⟨(wh % 3).toNat, by omega, by omega⟩
  rw [hi]
  have hi0 : (0 : Int) ≤ (i : Int) := by omega
  have hi3' : (i : Int) < 3 := by omega
  have HK2 := hide ((unhide HK1).trans hk2)
  have HK2' : Hid (Keeps (fun k => k = V) w w2) := (unhide HK2).mono (fun _ _ f => f.elim)
  have HROW := hide hrow
  have HB2 := hide hb2
  have HT2 := hide ((unhide HT).keep (unhide HK2))
  have HO2 := hide ((unhide HO).keepF hB (unhide HK2))
  have fv : ∀ j, w2.frozen? ⟨V, j, none⟩ = false := frozen_of_blk (unhide HT2).blk
  have pv : w2.cell? ⟨V, i, none⟩ = some (slotP (st i)) := by
    rw [cell_of_blk (unhide HT2).blk]
    obtain rfl | rfl | rfl : i = 0 ∨ i = 1 ∨ i = 2 := by omega
    all_goals rfl
  have rv : w2.cell? ⟨V, 3 + i, none⟩ = some (slotR (st i)) := by
    rw [cell_of_blk (unhide HT2).blk]
    obtain rfl | rfl | rfl : i = 0 ∨ i = 1 ∨ i = 2 := by omega
    all_goals rfl
  have hVlt := lt_of_block (unhide HT2).blk
  have hVw := lt_of_block (unhide HT).blk
  have hVw1 : V < w1.heap.size := Nat.lt_of_lt_of_le hVw (unhide HK1).size
  have hne1 : w.heap.size ≠ V := by omega
  have hne2 : V ≠ w.heap.size := by omega
  have hz2 := (unhide HK2).size
  clear hrow hk2 hb2 HCP HW1 HT hi HO HK1 HB1
  by_cases hv : 32 ≤ b ∧ b ≤ 1024
  · obtain ⟨h3, h4⟩ := hv
    obtain ⟨s, rfl⟩ := Int.eq_ofNat_of_zero_le (show 0 ≤ b by omega)
    have hbl := (unhide HO2).blen
    simp only at hbl
    by_cases hbad : imgBad bytes.length s
    · have HN1 := hide (fromImage_size w2 vo bytes.length vc s (by omega) (by omega) (by unfold maxLen; omega) hbad)
      have HN2 := hide (refFromImage_size w2 bo bytes.length bc s (by omega) (by omega) (by unfold maxLen; omega) hbad)
      clear hbad
      have hst := (unhide HT2).store i hi3 none (Nat.le_refl _) (Keeps.refl _ w2) (fun _ _ h => by cases h)
      have HS := hide hst.1
      have HSK := hide ((unhide HK2').trans hst.2)
      have HE := hide (same_bytes hV (unhide HO2) (Nat.le_trans hB hz2) hst.2 (unhide HROW) hVw1 ((kD w2 V i (slotP none)).trans (kD _ V (3 + i) (slotR none))))
      simp only [slotP, slotR, Option.map_none] at HS HSK HE
      clear hst
      go_wp2_with fail
      refine (unhide HN1).mono ?_
      rintro e w' ⟨rfl, h⟩; subst w'
      go_wp2_with fail
      refine (unhide HN2).mono ?_
      rintro e w' ⟨rfl, h⟩; subst w'
      go_wp2_with fail
      refine (unhide HE).mono ?_
      rintro e w'' ⟨rfl, n, rfl⟩
      go_wp2
      go_ret
      exact ⟨rfl, _, (unhide HS).keep (keeps_drewN _ n), (unhide HSK).trans ((keeps_drewN _ n).mono (fun _ _ f => f.elim))⟩
    · obtain ⟨n, hn⟩ : ∃ n, n = bytes.length / s := ⟨_, rfl⟩
      have hs0 : 0 < s := by omega
      have hm0 : bytes.length % s = 0 := Classical.byContradiction (fun h => hbad (Or.inr (Or.inl h)))
      have hlen : bytes.length = n * s := by rw [hn]; have := Nat.div_add_mod bytes.length s; rw [hm0, Nat.mul_comm] at this; omega
      have hn2 : n ≤ 16384 := by rw [hn]; exact Classical.byContradiction (fun h => hbad (Or.inr (Or.inr (by omega))))
      have hl0 : bytes.length ≠ 0 := fun h => hbad (Or.inl h)
      have hn1 : 1 ≤ n := by
        rcases Nat.eq_zero_or_pos n with h | h
        · rw [h, Nat.zero_mul] at hlen; exact absurd hlen hl0
        · exact h
      obtain ⟨vg, vc', ev, -⟩ := (unhide HROW).form (by omega)
      simp at ev
      obtain ⟨rfl, rfl⟩ := ev
      have hcl := (row_reads (unhide HROW))
      obtain ⟨b2, o2, c2', e2, hc2⟩ := hcl.1.cells (by omega)
      simp at e2
      obtain ⟨⟨rfl, rfl⟩, rfl⟩ := e2
      have hP := fromImage_reads w2 vg 0 n s bytes hlen hn1 hn2 (by omega) (by omega) vc (hcl.2 _ _ _ _ rfl (by omega)) hc2
      rw [← hlen] at hP
      have HN1 := hide hP
      have HLEN := hide hlen
      have HB3 := hide hn1
      have HB4 := hide hn2
      have hlw : w.heap.size < w2.heap.size := lt_of_block (unhide HB2)
      clear hP hcl hc2 hlen hn1 hn2 hl0 hm0 hn hbad
      go_wp2_with fail
      refine (unhide HN1).mono ?_
      rintro e w3 ⟨rfl, hk3, hd3⟩
      have hb3 := (hk3.block _ (lt_of_block (unhide HB2)) id).trans (unhide HB2)
      have g3 := cell_of_blk hb3 3
      have g4 := cell_of_blk hb3 4
      simp at g3 g4
      have hz3 := hk3.size
      have hO3 := (unhide HO2).keepF (Nat.le_trans hB hz2) hk3
      have HN2 := hide (refFromImage_ok w3 _ n s bytes (unhide HLEN) (unhide HB3) (unhide HB4) (by omega) (by omega) hO3.bytes (fun b off n c e h => Nat.lt_of_lt_of_le (hO3.lt b off n c e h) (by omega)))
      have HD3 := hide hd3
      have HK3 := hide hk3
      clear hk3 hd3 hb3 hO3 HN1
      go_wp2_with fail
      refine (unhide HN2).mono ?_
      rintro e w4 ⟨Rn, rfl, hr4, hk4, hRe, hRD⟩
      have hk24 := (unhide HK3).trans hk4
      have hduo := duo_fresh (N := N) (Nat.le_trans hB hz2) (unhide HD3) rfl hk4 hr4 (unhide HK3).size (by rw [hRe]; exact Rel.img _ _ _ n s _ _ _) ⟨Nat.zero_le _, by rw [hRe]; exact Nat.zero_le _, ⟨Int.le_refl _, by simp [freshDS]⟩, ⟨Int.le_refl _, by simp [freshDS]⟩, ⟨Int.le_refl _, by simp [freshDS]⟩, by simp [freshDS]⟩
      have hst := (unhide HT2).store i hi3 (some (freshDS (w2.heap.size + 2) w2.heap.size (w2.heap.size + 1) n s bytes, Rn)) (Nat.le_refl _) hk24 (fun S R h => by cases h; exact hduo)
      have HS := hide hst.1
      have HSK := hide ((unhide HK2').trans hst.2)
      have HE := hide (same_bytes hV (unhide HO2) (Nat.le_trans hB hz2) hst.2 (ownsRow_kept (unhide HROW) hk24 (fun _ _ => id)) hVw1 ((kD _ V i _).trans (kD _ V (3 + i) _)))
      simp only [slotP, slotR, Option.map_some, freshDS] at HS HSK HE
      have hb4 := (hk24.block _ (lt_of_block (unhide HB2)) id).trans (unhide HB2)
      have k4 := cell_of_blk hb4 4
      simp at k4
      have fv4 : ∀ j, w4.frozen? ⟨V, j, none⟩ = false := frozen_of_blk ((unhide HT2).keep hk24).blk
      have pv4 := (hk24.cell hVlt id).trans pv
      have rv4 := (hk24.cell hVlt id).trans rv
      have hVlt4 := Nat.lt_of_lt_of_le hVlt hk24.size
      clear hst hduo hr4 hk4 hk24 hb4 hRe
      go_wp2_with fail
      refine (unhide HE).mono ?_
      rintro e w'' ⟨rfl, n', rfl⟩
      go_wp2
      go_ret
      exact ⟨rfl, _, (unhide HS).keep (keeps_drewN _ n'), (unhide HSK).trans ((keeps_drewN _ n').mono (fun _ _ f => f.elim))⟩
  · have HN1 := hide (fromImage_arg w2 vo bytes.length vc b hv)
    have HN2 := hide (refFromImage_arg w2 bo bytes.length bc b hv)
    clear hv
    have hst := (unhide HT2).store i hi3 none (Nat.le_refl _) (Keeps.refl _ w2) (fun _ _ h => by cases h)
    have HS := hide hst.1
    have HSK := hide ((unhide HK2').trans hst.2)
    have HE := hide (same_bytes hV (unhide HO2) (Nat.le_trans hB hz2) hst.2 (unhide HROW) hVw1 ((kD w2 V i (slotP none)).trans (kD _ V (3 + i) (slotR none))))
    simp only [slotP, slotR, Option.map_none] at HS HSK HE
    clear hst
    go_wp2_with fail
    refine (unhide HN1).mono ?_
    rintro e w' ⟨rfl, h⟩; subst w'
    go_wp2_with fail
    refine (unhide HN2).mono ?_
    rintro e w' ⟨rfl, h⟩; subst w'
    go_wp2_with fail
    refine (unhide HE).mono ?_
    rintro e w'' ⟨rfl, n, rfl⟩
    go_wp2
    go_ret
    exact ⟨rfl, _, (unhide HS).keep (keeps_drewN _ n), (unhide HSK).trans ((keeps_drewN _ n).mono (fun _ _ f => f.elim))⟩

end Go.Proofs.Ytjmbcelkhiopeaa
