import Derived.Test.YtoempeobaknkcaaGreatDoorKf
namespace Go.Proofs.YtoempeobaknkcaaGreatDoor
open Go.RowKit Go.Maps

set_option maxRecDepth 100000 in
set_option maxHeartbeats 4000000 in
theorem orElseF_v (op n : Int) (s : Txt) (ao : Option Addr) (xn xc : Nat) (k0 k1 : KA) (kv : Value) (w : World) (hks : KsAt w kv [k0, k1]) :
    Calls Tryz.prog 75 #[.agg #[.int .i64 op, .int .i64 n, str s, .slice ao xn xc], kv] w fun e w' => e = .returned (kerV (⟨k0.t, false⟩, orI (optI k0) (plainI k1 [k0.t]))) ∧ Keeps (fun _ => False) w w' := by
  obtain ⟨b, off, c, rfl, hbl, hc⟩ := hks.cells (by simp)
  have a0 := (hc 0 k0 rfl).1
  have a1 := (hc 0 k0 rfl).2
  have a2 := (hc 1 k1 rfl).1
  have a3 := (hc 1 k1 rfl).2
  simp only [Nat.zero_mul, Nat.add_zero, Nat.one_mul] at a0 a1 a2 a3
  have SK : ∀ w' : World, Keeps (fun _ => False) w w' → w'.cell? ⟨b, off, none⟩ = some (.int .i64 k0.t) ∧ w'.cell? ⟨b, off + 1, none⟩ = some (.bool k0.o) ∧ w'.cell? ⟨b, off + 2, none⟩ = some (.int .i64 k1.t) ∧ w'.cell? ⟨b, off + 2 + 1, none⟩ = some (.bool k1.o) := fun w' hk =>
    ⟨(hk.cell hbl id).trans a0, (hk.cell hbl id).trans a1, (hk.cell hbl id).trans a2, (hk.cell hbl id).trans a3⟩
  have HSK := hide SK
  have hR : w.heap.size ≤ w.heap.size + 1 := Nat.le_succ _
  have HL := hide (led_start w #[.int .i64 op, .int .i64 n, str s, .slice ao xn xc] 57)
  rw [← orL_two]
  clear hks hc a0 a1 a2 a3 SK
  go_enter Tryz.func75, Tryz.ntmps75
  go_wp2_with fail
  go_region_held3 (fun w' => w'.cell? ⟨b, off, none⟩ = some (.int .i64 k0.t) ∧ w'.cell? ⟨b, off + 1, none⟩ = some (.bool k0.o) ∧ w'.cell? ⟨b, off + 2, none⟩ = some (.int .i64 k1.t) ∧ w'.cell? ⟨b, off + 2 + 1, none⟩ = some (.bool k1.o))
    (first | with_reducible exact unhide HSK _ (unhide HL).kept | with_reducible exact unhide HSK _ ((unhide HL).lay _).kept | with_reducible exact unhide HSK _ (unhide HL).kept.drew | with_reducible exact unhide HSK _ ((unhide HL).lay _).kept.drew | with_reducible exact unhide HSK _ ((unhide HL).kept.alloc _) | with_reducible exact unhide HSK _ ((unhide HL).done hR _ _))
    ((first
    | (go_at_call 94; refine (plain_led k0.t (by first | with_reducible exact unhide HL | with_reducible exact (unhide HL).lay _ | with_reducible exact (unhide HL).drew | with_reducible exact ((unhide HL).lay _).drew)).mono ?_; rintro e w1 ⟨rfl, hl1⟩; have HL := hide hl1; clear hl1)
    | (go_at_call 97; refine (isOpt_led k0 (by first | with_reducible exact unhide HL | with_reducible exact (unhide HL).lay _)).mono ?_; rintro e w1 ⟨rfl, hl1⟩; have HL := hide hl1; clear hl1)
    | (go_at_call 93; refine (isPlain_led k1 (by first | with_reducible exact unhide HL | with_reducible exact (unhide HL).lay _) (t := k0.t) (by simp)).mono ?_; rintro e w1 ⟨rfl, hl1⟩; have HL := hide hl1; clear hl1)
    | (go_at_call 96; refine (or_led [optI k0, plainI k1 [k0.t]] 2 rfl (by simp) (unhide HL)).mono ?_; rintro e w1 ⟨rfl, hl1⟩; have m0 := cell_of_blk hl1.res 0; have m1 := cell_of_blk hl1.res 1; simp at m0 m1; have g0 := frozen_of_blk hl1.res 0; have g1 := frozen_of_blk hl1.res 1; have HL := hide hl1; clear hl1)))
  all_goals go_wp2_with fail
  all_goals (obtain ⟨⟨s0, s1, _⟩, _⟩ := set2 (unhide HL).res (.int .i64 k0.t) (.bool false); refine bodyPost_ret (v := kerV (⟨k0.t, false⟩, orL [optI k0, plainI k1 [k0.t]])) (by simp [results, go_sem, s0, s1]) rfl ?_; exact ⟨rfl, (unhide HL).done (by omega) _ _⟩)
end Go.Proofs.YtoempeobaknkcaaGreatDoor
