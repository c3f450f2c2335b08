import Derived.Test.YtjmbcelkhiopeaaRp
namespace Go.Proofs.Ytjmbcelkhiopeaa
open Go.RowKit Go.Maps
attribute [local go_sem ↓] Go.wp_at_zero Go.wp_at_succ

theorem slot_cells {X : Nat → Prop} {w : World} {V B N : Nat} {st : Nat → Slot} (t : Trio w X V B N st) (i : Nat) (hi : i < 3) : w.cell? ⟨V, i, none⟩ = some (slotP (st i)) ∧ w.cell? ⟨V, 3 + i, none⟩ = some (slotR (st i)) := by
  rw [cell_of_blk t.blk, cell_of_blk t.blk]
  obtain rfl | rfl | rfl : i = 0 ∨ i = 1 ∨ i = 2 := by omega
  all_goals exact ⟨rfl, rfl⟩

theorem mod3 (x : Int) : ∃ i : Nat, x % 3 = (i : Int) ∧ i < 3 := ⟨(x % 3).toNat, by omega, by omega⟩

/-- The marks that were copied and those that were handed in are the same. -/
theorem same_bools {w w2 W : World} {V B : Nat} {o : OpA} {v' : Value} {b' : Nat} (hV : B ≤ V) (hO : OpAt w B o) (hB : B ≤ w.heap.size) (hkW : Keeps (fun k => k = V) w W) (hrow : w2.ownsRow b' 4 1 v' o.keep.length (bls o.keep)) (hVb : V < b') (hk2 : Keeps (fun k => k = V) w2 W) :
    Calls Try.prog 60 #[v', o.kv] W fun e w' => e = .returned (.bool true) ∧ ∃ n, w' = W.drewN n := by
  have h1 := bools_of_row' (ownsRow_kept hrow hk2 (fun b hb e => by have := (hrow.lt b hb).1; omega))
  have h2 := (hO.kept hB (hkW.mono (fun k _ e => by omega))).keep
  refine (eqBools_any W v' o.kv o.keep o.keep h1 h2 (by have := hO.klen; unfold maxLen; omega)).mono ?_
  rintro e w' ⟨rfl, h⟩
  exact ⟨by simp, h⟩

set_option maxRecDepth 100000 in
set_option maxHeartbeats 2000000 in
theorem survives_none {X : Nat → Prop} (w : World) (V B N : Nat) (st : Nat → Slot) (t : Trio w X V B N st) (hV : B ≤ V) (hB : B ≤ w.heap.size) (o : OpA) (hO : OpAt w B o) (i j : Nat) (hi : o.who % 3 = (i : Int)) (hj : o.b % 3 = (j : Int)) (hi3 : i < 3) (hj3 : j < 3) (hs : st i = none) :
    Calls Try.prog 57 #[.pointer (some ⟨V, 0, none⟩), .agg o.cells] w fun e w' => e = .returned (.bool true) ∧ ∃ st', Trio w' X V B N st' ∧ Keeps (fun k => k = V) w w' := by
  obtain ⟨wh, kd, a, b, bv, kv, bytes, keep⟩ := o
  obtain ⟨bo, bc, hbv⟩ := hO.bytes.form
  obtain ⟨ko, kc, hkv⟩ := hO.keep.form
  simp only at hbv hkv hi hj
  subst hbv hkv
  simp only [OpA.cells]
  have HT := hide t
  have HO := hide hO
  obtain ⟨w1, hw1⟩ : ∃ w1, w1 = w.alloc (.cells #[.int .i64 wh, .int .i64 kd, .int .i64 a, .int .i64 b, .slice bo bytes.length bc, .slice ko keep.length kc] 81) := ⟨_, rfl⟩
  have hb1 : w1.heap[w.heap.size]? = some (.cells #[.int .i64 wh, .int .i64 kd, .int .i64 a, .int .i64 b, .slice bo bytes.length bc, .slice ko keep.length kc] 81 (0, 0)) := by rw [hw1]; exact heap_alloc_new w _
  have hk1 : Keeps (fun _ => False) w w1 := by rw [hw1]; exact (Keeps.refl _ _).alloc _
  have HCP := hide (copiedBools_any w1 _ _ (hO.keepF hB hk1).keep (by have := hO.klen; omega))
  simp only at HCP
  have HB1 := hide hb1
  have HW1 := hide hw1
  have HK1 := hide hk1
  clear t hO hb1 hw1 hk1
  go_enter Try.func57, Try.ntmps57
  go_wp2_with fail
  rw [← unhide HW1]
  refine (unhide HCP).mono ?_
  rintro e w2 ⟨v', rfl, hrow, hk2⟩
  obtain ⟨vo, vc, rfl⟩ : ∃ vo vc, v' = .slice vo keep.length vc := by
    rcases hrow.2 with ⟨hv, hn⟩ | ⟨g, cap, cur, hv, _⟩
    · exact ⟨none, 0, by rw [hv, hn]⟩
    · exact ⟨_, _, hv⟩
  have hb2 := (hk2.block _ (lt_of_block (unhide HB1)) id).trans (unhide HB1)
  have c0 := cell_of_blk hb2 0
  have c3 := cell_of_blk hb2 3
  have c5 := cell_of_blk hb2 5
  simp at c0 c3 c5
  have hi0 : (0 : Int) ≤ (i : Int) := by omega
  have hi3' : (i : Int) < 3 := by omega
  have hj0 : (0 : Int) ≤ (j : Int) := by omega
  have hj3' : (j : Int) < 3 := by omega
  have HK2 := hide ((unhide HK1).trans hk2)
  have HK2' : Hid (Keeps (fun k => k = V) w w2) := (unhide HK2).mono (fun _ _ f => f.elim)
  have HROW := hide hrow
  have HB2 := hide hb2
  have HT2 := hide ((unhide HT).keep (unhide HK2))
  have HO2 := hide ((unhide HO).keepF hB (unhide HK2))
  have fv : ∀ j, w2.frozen? ⟨V, j, none⟩ = false := frozen_of_blk (unhide HT2).blk
  obtain ⟨pv, rv⟩ := slot_cells (unhide HT2) i hi3
  obtain ⟨pw, rw'⟩ := slot_cells (unhide HT2) j hj3
  rw [hs] at pv rv
  simp only [slotP, slotR, Option.map_none] at pv rv
  have hVlt := lt_of_block (unhide HT2).blk
  have hVw := lt_of_block (unhide HT).blk
  have hVw1 : V < w1.heap.size := Nat.lt_of_lt_of_le hVw (unhide HK1).size
  have hne1 : w.heap.size ≠ V := by omega
  have hne2 : V ≠ w.heap.size := by omega
  have hz2 := (unhide HK2).size
  clear hrow hk2 hb2 HCP HW1 HT HO HK1 HB1
  have hwho := who_any wh
  have hwhb := who_any b
  rw [hi] at hwho
  rw [hj] at hwhb
  have HWH := hide hwho
  have HWB := hide hwhb
  clear hwho hwhb hi hj
  go_wp2_with fail
  go_region_held3 (fun w' => w'.cell? ⟨w.heap.size, 0, none⟩ = some (.int .i64 wh) ∧ w'.cell? ⟨V, i, none⟩ = some (.pointer none))
    (go_keep)
    (first
      | (go_at_call 45; refine (unhide HWH _).mono ?_; rintro e wa ⟨rfl, rfl⟩)
      | (go_at_call 24; refine (survive_nil _ _).mono ?_; rintro e wa ⟨rfl, rfl⟩))
  go_wp2_with fail
  go_region_held3 (fun w' => w'.cell? ⟨w.heap.size, 0, none⟩ = some (.int .i64 wh) ∧ w'.cell? ⟨V, 3 + i, none⟩ = some (.pointer none) ∧ w'.cell? ⟨w.heap.size, 5, none⟩ = some (.slice ko keep.length kc))
    (go_keep)
    (first
      | (go_at_call 45; refine (unhide HWH _).mono ?_; rintro e wa ⟨rfl, rfl⟩)
      | (go_at_call 50; refine (refSurvive_nil _ _).mono ?_; rintro e wa ⟨rfl, rfl⟩))
  go_wp2_with fail
  go_region_law (first
      | (go_simp; go_at_call 45; refine (unhide HWB _).mono ?_; rintro e wa ⟨rfl, rfl⟩))
  go_wp2_with fail
  go_region_law (first
      | (go_simp; go_at_call 45; refine (unhide HWB _).mono ?_; rintro e wa ⟨rfl, rfl⟩))
  have hst := (unhide HT2).store j hj3 none (Nat.le_refl _) (Keeps.refl _ w2) (fun _ _ h => by cases h)
  have HS := hide hst.1
  have HSK := hide ((unhide HK2').trans hst.2)
  have HE := hide (same_bools hV (unhide HO2) (Nat.le_trans hB hz2) hst.2.drew.drew.drew.drew (unhide HROW) hVw1 ((kD w2 V j (slotP none)).trans (kD _ V (3 + j) (slotR none))).drew.drew.drew.drew)
  simp only [slotP, slotR, Option.map_none] at HS HSK HE
  clear hst
  go_wp2_with fail
  refine (unhide HE).mono ?_
  rintro e w'' ⟨rfl, n, rfl⟩
  go_wp2
  go_ret
  exact ⟨rfl, _, (unhide HS).keep (keeps_drewN _ _), (unhide HSK).trans ((keeps_drewN _ _).mono (fun _ _ f => f.elim))⟩

end Go.Proofs.Ytjmbcelkhiopeaa
