import Derived.Test.YtoempeobaknkcaaGreatDoorVo
namespace Go.Proofs.YtoempeobaknkcaaGreatDoor
open Go.RowKit Go.Maps

set_option maxRecDepth 100000 in
set_option maxHeartbeats 2000000 in
theorem copyExprR_of (op n : Int) (s : Txt) (kids : EL) (v : Value) (w : World) (hv : ∃ ao cap, v = .slice ao kids.len cap) (hK : ∀ w', Keeps (fun _ => False) w w' → Calls Tryz.prog 39 #[v] w' (CPostR kids w')) :
    Calls Tryz.prog 40 #[exV op n s v] w fun e w' => ∃ v' xs A, e = .returned (exV op n s v') ∧ w'.ownsRow w.heap.size 57 4 v' kids.len xs ∧ CsIn A w' kids xs ∧ (∀ q, A q → w.heap.size ≤ q ∧ v'.ownBlock ≠ some q) ∧ Keeps (fun _ => False) w w' := by
  obtain ⟨ao, cap, rfl⟩ := hv
  have HK0 : Hid (Keeps (fun _ => False) w ((w.alloc (.cells #[.int .i64 op, .int .i64 n, str s, .slice ao kids.len cap] 57)).alloc (.cells #[.int .i64 0, .int .i64 0, .string ⟨#[]⟩, .slice none 0 0] 57))) := ((Keeps.refl _ w).alloc _).alloc _
  have e1 : (w.alloc (.cells #[.int .i64 op, .int .i64 n, str s, .slice ao kids.len cap] 57)).heap.size = w.heap.size + 1 := by simp
  have hb0 : ((w.alloc (.cells #[.int .i64 op, .int .i64 n, str s, .slice ao kids.len cap] 57)).alloc (.cells #[.int .i64 0, .int .i64 0, .string ⟨#[]⟩, .slice none 0 0] 57)).heap[w.heap.size]? = some (.cells #[.int .i64 op, .int .i64 n, str s, .slice ao kids.len cap] 57 (0, 0)) := (((Keeps.refl (fun _ => False) _).alloc _).block _ (by rw [e1]; omega) id).trans (heap_alloc_new w _)
  have hb1 : ((w.alloc (.cells #[.int .i64 op, .int .i64 n, str s, .slice ao kids.len cap] 57)).alloc (.cells #[.int .i64 0, .int .i64 0, .string ⟨#[]⟩, .slice none 0 0] 57)).heap[w.heap.size + 1]? = some (.cells #[.int .i64 0, .int .i64 0, .string ⟨#[]⟩, .slice none 0 0] 57 (0, 0)) := by
    have := heap_alloc_new (w.alloc (.cells #[.int .i64 op, .int .i64 n, str s, .slice ao kids.len cap] 57)) (.cells #[.int .i64 0, .int .i64 0, .string ⟨#[]⟩, .slice none 0 0] 57)
    rw [e1] at this
    exact this
  have SB : ∀ (F : Nat → Prop) (w' : World), Keeps F ((w.alloc (.cells #[.int .i64 op, .int .i64 n, str s, .slice ao kids.len cap] 57)).alloc (.cells #[.int .i64 0, .int .i64 0, .string ⟨#[]⟩, .slice none 0 0] 57)) w' → ¬ F w.heap.size → w'.cell? ⟨w.heap.size, 0, none⟩ = some (.int .i64 op) ∧ w'.cell? ⟨w.heap.size, 1, none⟩ = some (.int .i64 n) ∧ w'.cell? ⟨w.heap.size, 2, none⟩ = some (str s) ∧ w'.cell? ⟨w.heap.size, 3, none⟩ = some (.slice ao kids.len cap) := fun F w' hk hF => by
    have k0 := (hk.block _ (lt_of_block hb0) hF).trans hb0
    exact ⟨by rw [cell_of_blk k0]; rfl, by rw [cell_of_blk k0]; rfl, by rw [cell_of_blk k0]; rfl, by rw [cell_of_blk k0]; rfl⟩
  have d := SB (fun _ => False) _ (Keeps.refl _ _).drew id
  have HSB := hide SB
  have HB1 := hide hb1
  have HC := hide (hK _ (unhide HK0).drew)
  have hne : ¬ w.heap.size = w.heap.size + 1 := by omega
  clear hK SB hb0 hb1 e1
  go_enter Tryz.func40, Tryz.ntmps40
  go_wp2_with fail
  go_region_held3 (fun w' => w'.cell? ⟨w.heap.size, 0, none⟩ = some (.int .i64 op) ∧ w'.cell? ⟨w.heap.size, 1, none⟩ = some (.int .i64 n) ∧ w'.cell? ⟨w.heap.size, 2, none⟩ = some (str s) ∧ w'.cell? ⟨w.heap.size, 3, none⟩ = some (.slice ao kids.len cap)) (first | with_reducible exact d | with_reducible exact r0 | with_reducible exact t0)
    ((go_at_call 39; refine (unhide HC).mono ?_; rintro e w1 ⟨v', xs, A, rfl, hs', hcs', hA', hk1⟩; obtain ⟨vo, vc, rfl⟩ := (rowAt_own hs').form; have hkd := (Keeps.refl (fun _ => False) _).drew.trans hk1; have r0 := unhide HSB _ _ hkd id; have hz := (hkd.block _ (lt_of_block (unhide HB1)) id).trans (unhide HB1); have m0 := cell_of_blk hz 0; have m1 := cell_of_blk hz 1; have m2 := cell_of_blk hz 2; have m3 := cell_of_blk hz 3; simp at m0 m1 m2 m3; have g0 := frozen_of_blk hz 0; have g1 := frozen_of_blk hz 1; have g2 := frozen_of_blk hz 2; have g3 := frozen_of_blk hz 3; have hks : Keeps (fun q => q = w.heap.size + 1) w1 ((((w1.setCell ⟨w.heap.size + 1, 0, none⟩ (.int .i64 op)).setCell ⟨w.heap.size + 1, 1, none⟩ (.int .i64 n)).setCell ⟨w.heap.size + 1, 2, none⟩ (str s)).setCell ⟨w.heap.size + 1, 3, none⟩ (.slice vo kids.len vc)) := (((keeps_set _ _ _ _).trans (keeps_set _ _ _ _)).trans (keeps_set _ _ _ _)).trans (keeps_set _ _ _ _); have t0 := unhide HSB (fun q => q = w.heap.size + 1) _ (hkd.any.trans hks) hne; have hb4 := heap_setCell_at (o := 3) (heap_setCell_at (o := 2) (heap_setCell_at (o := 1) (heap_setCell_at (o := 0) hz (.int .i64 op)) (.int .i64 n)) (str s)) (.slice vo kids.len vc); have s0 := cell_of_blk hb4 0; have s1 := cell_of_blk hb4 1; have s2 := cell_of_blk hb4 2; have s3 := cell_of_blk hb4 3; simp at s0 s1 s2 s3; have HKS := hide hks; have HKD := hide ((unhide HK0).trans hkd); have HS' := hide hs'; have HCS := hide hcs'; have HAA := hide hA'; clear hkd hk1 hz hb4 hks hs'))
  all_goals go_wp2_with fail
  all_goals (refine bodyPost_ret (v := exV op n s (.slice vo kids.len vc)) (by simp [results, go_sem, s0, s1, s2, s3]) rfl ?_; exact ⟨_, xs, A, rfl, ownsRow_low (ownsRow_kept (unhide HS') (unhide HKS) (fun q e f => by have := own_geO (unhide HS') e; simp at this; omega)) (by simp; omega), (unhide HCS).keep (unhide HKS) (fun q _ h f => by have := (unhide HAA q h).1; simp at this; omega), fun q hq => ⟨by have := (unhide HAA q hq).1; simp at this; omega, (unhide HAA q hq).2.2⟩, (unhide HKD).narrow (unhide HKS) (fun q e => by omega)⟩)
end Go.Proofs.YtoempeobaknkcaaGreatDoor
