import Derived.Test.YtjmbcelkhiopeaaRu
namespace Go.Proofs.Ytjmbcelkhiopeaa
open Go.RowKit Go.Maps
attribute [local go_sem ↓] Go.wp_at_zero Go.wp_at_succ

theorem look_shape' {X : Nat → Prop} {w : World} {V B N : Nat} {st : Nat → Slot} (t : Trio w X V B N st) (i : Nat) : ∃ n s : Int, (Calls Try.prog 67 #[slotP (st i)] w fun e w' => e = .returned (.tuple #[.int .i64 n, .int .i64 s]) ∧ ∃ m, w' = w.drewN m) ∧
    ∀ w', Keeps (fun _ => False) w w' → Calls Try.prog 68 #[slotR (st i)] w' fun e w'' => e = .returned (.tuple #[.int .i64 n, .int .i64 s]) ∧ ∃ m, w'' = w'.drewN m := by
  cases hs : st i with
  | none => exact ⟨0, 0, (shape_nil w).mono (by rintro e w' ⟨rfl, rfl⟩; exact ⟨rfl, 0, rfl⟩), fun w' _ => (refShape_nil w').mono (by rintro e w' ⟨rfl, rfl⟩; exact ⟨rfl, 0, rfl⟩)⟩
  | some d =>
    obtain ⟨S, R⟩ := d
    have d := t.duo i S R hs
    refine ⟨S.secs, S.size, shape_any w B S d.p, fun w' hk => ?_⟩
    have h := refShape_any w' B R (d.r.keepF hk)
    rw [← d.rel.secs, ← d.rel.size] at h
    exact h

set_option maxRecDepth 100000 in
set_option maxHeartbeats 2000000 in
theorem looks_any {X : Nat → Prop} (w : World) (V B N : Nat) (st : Nat → Slot) (t : Trio w X V B N st) (hB : B ≤ w.heap.size) (hN : N ≤ 4294967295) (o : OpA) (hO : OpAt w B o) :
    Calls Try.prog 59 #[.pointer (some ⟨V, 0, none⟩), .agg o.cells] w fun e w' => e = .returned (.bool true) ∧ ∃ st', Trio w' X V B N st' ∧ Keeps (fun k => k = V ∨ ∃ i, slotOwn (st i) k) w w' := by
  obtain ⟨wh, kd, a, b, bv, kv, bytes, keep⟩ := o
  obtain ⟨bo, bc, hbv⟩ := hO.bytes.form
  obtain ⟨ko, kc, hkv⟩ := hO.keep.form
  simp only at hbv hkv
  subst hbv hkv
  simp only [OpA.cells]
  obtain ⟨i, hi, hi3⟩ := mod3 wh
  have HT := hide t
  have HO := hide hO
  obtain ⟨w1, hw1⟩ : ∃ w1, w1 = w.alloc (.cells #[.int .i64 wh, .int .i64 kd, .int .i64 a, .int .i64 b, .slice bo bytes.length bc, .slice ko keep.length kc] 81) := ⟨_, rfl⟩
  have hb1 : w1.heap[w.heap.size]? = some (.cells #[.int .i64 wh, .int .i64 kd, .int .i64 a, .int .i64 b, .slice bo bytes.length bc, .slice ko keep.length kc] 81 (0, 0)) := by rw [hw1]; exact heap_alloc_new w _
  have hk1 : Keeps (fun _ => False) w w1 := by rw [hw1]; exact (Keeps.refl _ _).alloc _
  have hO1 := hO.keepF hB hk1
  have t1 := t.keep hk1
  have c0 := cell_of_blk hb1 0
  have c1 := cell_of_blk hb1 1
  have c2 := cell_of_blk hb1 2
  have c4 := cell_of_blk hb1 4
  simp at c0 c1 c2 c4
  obtain ⟨pv, rv⟩ := slot_cells t1 i hi3
  obtain ⟨pp, hpp⟩ : ∃ pp, slotP (st i) = .pointer pp := ⟨_, rfl⟩
  obtain ⟨rp, hrp⟩ : ∃ rp, slotR (st i) = .pointer rp := ⟨_, rfl⟩
  rw [hpp] at pv
  rw [hrp] at rv
  have hi0 : (0 : Int) ≤ (i : Int) := by omega
  have hi3' : (i : Int) < 3 := by omega
  have HB1 := hide hb1
  have HW1 := hide hw1
  have HK1 := hide hk1
  have HT1 := hide t1
  have HO1 := hide hO1
  have HPP := hide hpp
  have HRP := hide hrp
  have hlw := lt_of_block hb1
  have hwho := who_any wh
  rw [hi] at hwho
  have HWH := hide hwho
  clear t hO hb1 hw1 hk1 hO1 t1 hwho hi hpp hrp
  go_enter Try.func59, Try.ntmps59
  go_wp2_with fail
  rw [← unhide HW1]
  go_region_held3 (fun w' => w'.cell? ⟨w.heap.size, 0, none⟩ = some (.int .i64 wh) ∧ w'.cell? ⟨V, i, none⟩ = some (.pointer pp))
    (go_keep)
    (first | (go_at_call 45; refine (unhide HWH _).mono ?_; rintro e wa ⟨rfl, rfl⟩))
  go_wp2_with fail
  go_region_held3 (fun w' => w'.cell? ⟨w.heap.size, 0, none⟩ = some (.int .i64 wh) ∧ w'.cell? ⟨V, 3 + i, none⟩ = some (.pointer rp))
    (go_keep)
    (first | (go_at_call 45; refine (unhide HWH _).mono ?_; rintro e wa ⟨rfl, rfl⟩))
  have t2 := (unhide HT1).keep (Keeps.refl _ w1).drew.drew
  have HT2 := hide t2
  by_cases h8 : kd = 8
  · subst h8
    have hpair := look_dead t2 i
    unfold LookCalls at hpair
    rw [unhide HPP, unhide HRP] at hpair
    have HPC := hide hpair
    clear hpair t2
    go_wp2_with fail
    refine (unhide HPC).mono ?_
    rintro e w3 ⟨vp, rfl, hk3, hc3⟩
    have HC3 := hide hc3
    clear hc3 hk3 HPC
    go_wp2_with fail
    refine (unhide HC3).mono ?_
    rintro e w4 ⟨vr, rfl, hk4, d, rfl, rfl⟩
    have HT4 := hide ((unhide HT2).keep hk4)
    have HKB := hide ((unhide HK1).trans ((Keeps.refl _ w1).drew.drew.trans hk4))
    clear hk4 HC3
    go_wp2
    go_ret
    exact ⟨rfl, _, unhide HT4, (unhide HKB).mono (fun _ _ f => f.elim)⟩
  · have h8' : (kd == 8) = false := beq_eq_false_iff_ne.2 h8
    clear h8
    by_cases h9 : kd = 9
    · subst h9
      have hpair := look_pending t2 hN i
      unfold LookCalls at hpair
      rw [unhide HPP, unhide HRP] at hpair
      have HPC := hide hpair
      clear hpair t2
      go_wp2_with fail
      refine (unhide HPC).mono ?_
      rintro e w3 ⟨vp, rfl, hk3, hc3⟩
      have HC3 := hide hc3
      clear hc3 hk3 HPC
      go_wp2_with fail
      refine (unhide HC3).mono ?_
      rintro e w4 ⟨vr, rfl, hk4, hq⟩
      have HT4 := hide ((unhide HT2).keep hk4)
      have HKB := hide ((unhide HK1).trans ((Keeps.refl _ w1).drew.drew.trans hk4))
      clear hk4 HC3
      have HQ := hide hq
      clear hq
      go_wp2_with fail
      refine (unhide HQ).mono ?_
      rintro e w'' ⟨rfl, n, rfl⟩
      go_wp2
      go_ret
      exact ⟨rfl, _, (unhide HT4).keep (keeps_drewN _ _), ((unhide HKB).trans (keeps_drewN _ _)).mono (fun _ _ f => f.elim)⟩
    · have h9' : (kd == 9) = false := beq_eq_false_iff_ne.2 h9
      clear h9
      by_cases h10 : kd = 10
      · subst h10
        have hpair := look_image t2 hN i
        unfold LookCalls at hpair
        rw [unhide HPP, unhide HRP] at hpair
        have HPC := hide hpair
        clear hpair t2
        go_wp2_with fail
        refine (unhide HPC).mono ?_
        rintro e w3 ⟨vp, rfl, hk3, hc3⟩
        have HC3 := hide hc3
        clear hc3 hk3 HPC
        go_wp2_with fail
        refine (unhide HC3).mono ?_
        rintro e w4 ⟨vr, rfl, hk4, hq⟩
        have HT4 := hide ((unhide HT2).keep hk4)
        have HKB := hide ((unhide HK1).trans ((Keeps.refl _ w1).drew.drew.trans hk4))
        clear hk4 HC3
        have HQ := hide hq
        clear hq
        go_wp2_with fail
        refine (unhide HQ).mono ?_
        rintro e w'' ⟨rfl, n, rfl⟩
        go_wp2
        go_ret
        exact ⟨rfl, _, (unhide HT4).keep (keeps_drewN _ _), ((unhide HKB).trans (keeps_drewN _ _)).mono (fun _ _ f => f.elim)⟩
      · have h10' : (kd == 10) = false := beq_eq_false_iff_ne.2 h10
        clear h10
        by_cases h11 : kd = 11
        · subst h11
          obtain ⟨n, s, hp, hr⟩ := look_shape' t2 i
          rw [unhide HPP] at hp
          rw [unhide HRP] at hr
          have HP := hide hp
          have HR := hide hr
          clear hp hr t2
          go_wp2_with fail
          refine (unhide HP).mono ?_
          rintro e w3 ⟨rfl, m, rfl⟩
          go_wp2_with fail
          refine (unhide HR _ ?_).mono ?_
          · exact ⟨rfl, rfl, rfl, Nat.le_refl _, fun _ _ _ => rfl⟩
          rintro e w4 ⟨rfl, m', rfl⟩
          go_wp2
          go_ret
          exact ⟨rfl, _, (unhide HT1).keep (keeps_drewN _ _), ((unhide HK1).trans (keeps_drewN _ _)).mono (fun _ _ f => f.elim)⟩
        · have h11' : (kd == 11) = false := beq_eq_false_iff_ne.2 h11
          clear h11
          obtain ⟨r, wr, f, hp, hr⟩ := look_stats t2 i
          rw [unhide HPP] at hp
          rw [unhide HRP] at hr
          have HP := hide hp
          have HR := hide hr
          clear hp hr t2
          go_wp2_with fail
          refine (unhide HP).mono ?_
          rintro e w3 ⟨rfl, h⟩; subst w3
          go_wp2_with fail
          refine (unhide HR _ ?_).mono ?_
          · exact ((Keeps.refl _ _).alloc _).alloc _
          rintro e w4 ⟨rfl, h⟩; subst w4
          go_wp2
          go_ret
          have hK := ((((Keeps.refl (fun _ => False) w1).drew.drew.alloc (.cells #[.int .i64 r, .int .i64 wr, .int .i64 f] 48)).alloc (.cells #[.int .i64 r, .int .i64 wr, .int .i64 f] 48)).alloc (.cells #[.int .i64 r, .int .i64 wr, .int .i64 f] 48)).alloc (.cells #[.int .i64 r, .int .i64 wr, .int .i64 f] 48)
          exact ⟨rfl, _, (unhide HT1).keep hK, ((unhide HK1).trans hK).mono (fun _ _ f => f.elim)⟩

end Go.Proofs.Ytjmbcelkhiopeaa
