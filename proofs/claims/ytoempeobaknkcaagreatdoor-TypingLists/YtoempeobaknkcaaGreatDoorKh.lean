import Derived.Test.YtoempeobaknkcaaGreatDoorKf
namespace Go.Proofs.YtoempeobaknkcaaGreatDoor
open Go.RowKit Go.Maps

set_option maxRecDepth 100000 in
set_option maxHeartbeats 40000000 in
theorem pickF_v (op n : Int) (s : Txt) (ao : Option Addr) (xn xc : Nat) (k0 k1 k2 : KA) (kv : Value) (w : World) (hks : KsAt w kv [k0, k1, k2]) :
    Calls Tryz.prog 76 #[.agg #[.int .i64 op, .int .i64 n, str s, .slice ao xn xc], kv] w fun e w' => e = .returned (kerV (⟨k1.t, false⟩, orI (plainI k0 [2]) (orI (plainI k1 [k1.t]) (plainI k2 [k1.t])))) ∧ Keeps (fun _ => False) w w' := by
  obtain ⟨b, off, c, rfl, hbl, hc⟩ := hks.cells (by simp)
  have a0 := (hc 0 k0 rfl).1
  have a1 := (hc 0 k0 rfl).2
  have a2 := (hc 1 k1 rfl).1
  have a3 := (hc 1 k1 rfl).2
  have a4 := (hc 2 k2 rfl).1
  have a5 := (hc 2 k2 rfl).2
  simp only [Nat.zero_mul, Nat.add_zero, Nat.one_mul, Nat.reduceMul] at a0 a1 a2 a3 a4 a5
  have SK : ∀ w' : World, Keeps (fun _ => False) w w' → w'.cell? ⟨b, off, none⟩ = some (.int .i64 k0.t) ∧ w'.cell? ⟨b, off + 1, none⟩ = some (.bool k0.o) ∧ w'.cell? ⟨b, off + 2, none⟩ = some (.int .i64 k1.t) ∧ w'.cell? ⟨b, off + 2 + 1, none⟩ = some (.bool k1.o) ∧ w'.cell? ⟨b, off + 4, none⟩ = some (.int .i64 k2.t) ∧ w'.cell? ⟨b, off + 4 + 1, none⟩ = some (.bool k2.o) := fun w' hk =>
    ⟨(hk.cell hbl id).trans a0, (hk.cell hbl id).trans a1, (hk.cell hbl id).trans a2, (hk.cell hbl id).trans a3, (hk.cell hbl id).trans a4, (hk.cell hbl id).trans a5⟩
  have e2 : ((w.alloc (.cells #[.int .i64 op, .int .i64 n, str s, .slice ao xn xc] 57)).alloc (.cells #[.int .i64 0, .bool false] 80)).cell? ⟨b, off + 2, none⟩ = some (.int .i64 k1.t) := (SK _ (((Keeps.refl _ w).alloc _).alloc _)).2.2.1
  have HSK := hide SK
  have hR : w.heap.size ≤ w.heap.size + 1 := Nat.le_succ _
  have HL := hide (led_start w #[.int .i64 op, .int .i64 n, str s, .slice ao xn xc] 57)
  rw [← orL_three]
  clear hks hc a0 a1 a2 a3 a4 a5 SK
  go_enter Tryz.func76, Tryz.ntmps76
  go_wp2_with fail
  go_region_held3 (fun w' => w'.cell? ⟨b, off, none⟩ = some (.int .i64 k0.t) ∧ w'.cell? ⟨b, off + 1, none⟩ = some (.bool k0.o) ∧ w'.cell? ⟨b, off + 2, none⟩ = some (.int .i64 k1.t) ∧ w'.cell? ⟨b, off + 2 + 1, none⟩ = some (.bool k1.o) ∧ w'.cell? ⟨b, off + 4, none⟩ = some (.int .i64 k2.t) ∧ w'.cell? ⟨b, off + 4 + 1, none⟩ = some (.bool k2.o))
    (first | with_reducible exact unhide HSK _ (unhide HL).kept | with_reducible exact unhide HSK _ ((unhide HL).lay _).kept | with_reducible exact unhide HSK _ (((unhide HL).lay _).lay _).kept | with_reducible exact unhide HSK _ ((((unhide HL).lay _).lay _).lay _).kept | with_reducible exact unhide HSK _ (unhide HL).kept.drew | with_reducible exact unhide HSK _ ((unhide HL).lay _).kept.drew | with_reducible exact unhide HSK _ (((unhide HL).lay _).lay _).kept.drew | with_reducible exact unhide HSK _ ((((unhide HL).lay _).lay _).lay _).kept.drew | with_reducible exact unhide HSK _ ((unhide HL).kept.alloc _) | with_reducible exact unhide HSK _ ((unhide HL).done hR _ _))
    ((first
    | (go_at_call 94; refine (plain_led k1.t (by first | with_reducible exact unhide HL | with_reducible exact (unhide HL).drew | with_reducible exact ((unhide HL).lay _).drew | with_reducible exact (((unhide HL).lay _).lay _).drew | with_reducible exact ((((unhide HL).lay _).lay _).lay _).drew)).mono ?_; rintro e w1 ⟨rfl, hl1⟩; have HL := hide hl1; clear hl1)
    | (go_at_call_of 93 (Value.bool k0.o); refine (isPlain_led k0 (by first | with_reducible exact unhide HL | with_reducible exact (unhide HL).lay _ | with_reducible exact ((unhide HL).lay _).lay _ | with_reducible exact (((unhide HL).lay _).lay _).lay _) (t := 2) (by simp)).mono ?_; rintro e w1 ⟨rfl, hl1⟩; have HL := hide hl1; clear hl1)
    | (go_at_call_of 93 (Value.bool k1.o); refine (isPlain_led k1 (by first | with_reducible exact unhide HL | with_reducible exact (unhide HL).lay _ | with_reducible exact ((unhide HL).lay _).lay _ | with_reducible exact (((unhide HL).lay _).lay _).lay _) (t := k1.t) (by simp)).mono ?_; rintro e w1 ⟨rfl, hl1⟩; have HL := hide hl1; clear hl1)
    | (go_at_call_of 93 (Value.bool k2.o); refine (isPlain_led k2 (by first | with_reducible exact unhide HL | with_reducible exact (unhide HL).lay _ | with_reducible exact ((unhide HL).lay _).lay _ | with_reducible exact (((unhide HL).lay _).lay _).lay _) (t := k1.t) (by simp)).mono ?_; rintro e w1 ⟨rfl, hl1⟩; have HL := hide hl1; clear hl1)
    | (go_at_call 96; refine (or_led [plainI k0 [2], plainI k1 [k1.t], plainI k2 [k1.t]] 3 rfl (by simp) (unhide HL)).mono ?_; rintro e w1 ⟨rfl, hl1⟩; have m0 := cell_of_blk hl1.res 0; have m1 := cell_of_blk hl1.res 1; simp at m0 m1; have g0 := frozen_of_blk hl1.res 0; have g1 := frozen_of_blk hl1.res 1; have HL := hide hl1; clear hl1)))
  all_goals go_wp2_with fail
  all_goals (obtain ⟨⟨s0, s1, _⟩, _⟩ := set2 (unhide HL).res (.int .i64 k1.t) (.bool false); refine bodyPost_ret (v := kerV (⟨k1.t, false⟩, orL [plainI k0 [2], plainI k1 [k1.t], plainI k2 [k1.t]])) (by simp [results, go_sem, s0, s1]) rfl ?_; exact ⟨rfl, (unhide HL).done (by omega) _ _⟩)
end Go.Proofs.YtoempeobaknkcaaGreatDoor
