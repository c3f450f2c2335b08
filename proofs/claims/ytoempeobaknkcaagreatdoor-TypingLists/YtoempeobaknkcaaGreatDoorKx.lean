import Derived.Test.YtoempeobaknkcaaGreatDoorKw
import Derived.Test.YtoempeobaknkcaaGreatDoorKl
namespace Go.Proofs.YtoempeobaknkcaaGreatDoor
open Go.RowKit Go.Maps

/-- The three blocks that the reference's walk begins with. -/
abbrev rBase (w : World) (so : Option Addr) (sn sc : Nat) (op n : Int) (s : Txt) (ao : Option Addr) (xn xc : Nat) : World := ((w.alloc (.cells #[.slice so sn sc] 24)).alloc (.cells #[.int .i64 op, .int .i64 n, str s, .slice ao xn xc] 57)).alloc (.cells #[.int .i64 0, .bool false, .int .i64 0] 111)
theorem rBase_facts (w : World) (so : Option Addr) (sn sc : Nat) (op n : Int) (s : Txt) (ao : Option Addr) (xn xc : Nat) :
    (rBase w so sn sc op n s ao xn xc).heap.size = w.heap.size + 3 ∧ Keeps (fun _ => False) w (rBase w so sn sc op n s ao xn xc) ∧ (rBase w so sn sc op n s ao xn xc).heap[w.heap.size]? = some (.cells #[.slice so sn sc] 24 (0, 0)) ∧ (rBase w so sn sc op n s ao xn xc).heap[w.heap.size + 1]? = some (.cells #[.int .i64 op, .int .i64 n, str s, .slice ao xn xc] 57 (0, 0)) ∧ (rBase w so sn sc op n s ao xn xc).heap[w.heap.size + 2]? = some (.cells #[.int .i64 0, .bool false, .int .i64 0] 111 (0, 0)) := by
  have e1 : (w.alloc (.cells #[.slice so sn sc] 24)).heap.size = w.heap.size + 1 := by simp
  have e2 : ((w.alloc (.cells #[.slice so sn sc] 24)).alloc (.cells #[.int .i64 op, .int .i64 n, str s, .slice ao xn xc] 57)).heap.size = w.heap.size + 2 := by simp
  refine ⟨by simp, (((Keeps.refl _ w).alloc _).alloc _).alloc _, ((((Keeps.refl (fun _ => False) _).alloc _).alloc _).block _ (by rw [e1]; omega) id).trans (heap_alloc_new w _), ?_, ?_⟩
  · have := heap_alloc_new (w.alloc (.cells #[.slice so sn sc] 24)) (.cells #[.int .i64 op, .int .i64 n, str s, .slice ao xn xc] 57)
    rw [e1] at this
    exact (((Keeps.refl (fun _ => False) _).alloc _).block _ (by rw [e2]; omega) id).trans this
  · have := heap_alloc_new ((w.alloc (.cells #[.slice so sn sc] 24)).alloc (.cells #[.int .i64 op, .int .i64 n, str s, .slice ao xn xc] 57)) (.cells #[.int .i64 0, .bool false, .int .i64 0] 111)
    rw [e2] at this
    exact this
/-- A struct of three cells is written over. -/
theorem set3 {w1 : World} {b : Nat} {x : Array Value} {t : TypeId} (hx : w1.heap[b]? = some (.cells x t (0, 0))) (hs : x.size = 3) (p q r : Value) :
    let w3 := ((w1.setCell ⟨b, 0, none⟩ p).setCell ⟨b, 1, none⟩ q).setCell ⟨b, 2, none⟩ r
    (w3.cell? ⟨b, 0, none⟩ = some p ∧ w3.cell? ⟨b, 1, none⟩ = some q ∧ w3.cell? ⟨b, 2, none⟩ = some r) ∧ Keeps (fun q => q = b) w1 w3 := by
  intro w3
  have hb := heap_setCell_at (o := 2) (heap_setCell_at (o := 1) (heap_setCell_at (o := 0) hx p) q) r
  refine ⟨⟨?_, ?_, ?_⟩, ((keeps_set _ _ _ _).trans (keeps_set _ _ _ _)).trans (keeps_set _ _ _ _)⟩
  all_goals (rw [cell_of_blk hb]; simp [hs])
theorem kindP_leaf (S : List FieldA) (op : Int) (s : Txt) : kindP S op s .nil = ruleP S op s [] := by simp [kindP, kindsP]

set_option maxRecDepth 100000 in
set_option maxHeartbeats 2000000 in
theorem refKind_lit (S : List FieldA) (sv : Value) (m : Nat) (n : Int) (s : Txt) (ao : Option Addr) (xn xc : Nat) (w : World) (h : FldsAt w sv S) (hm : m = 1 ∨ m = 2 ∨ m = 3 ∨ m = 6) :
    Calls Tryz.prog 65 #[.agg #[sv], exV (m : Int) n s (.slice ao xn xc)] w fun e w' => e = .returned (refV (zeroK (ruleP S (m : Int) s []))) ∧ Keeps (fun _ => False) w w' := by
  obtain ⟨so, sc, rfl⟩ := RowAt.form h
  rcases hm with rfl | rfl | rfl | rfl
  · have HF := hide (rBase_facts w so S.length sc 1 n s ao xn xc)
    clear h
    go_enter Tryz.func65, Tryz.ntmps65
    go_wp2_with fail
    refine bodyPost_ret (v := refV (⟨1, false⟩, 0)) (by simp [results, go_sem]) rfl ?_
    exact ⟨rfl, (((Keeps.refl _ w).alloc _).alloc _).alloc _⟩
  · clear h
    go_enter Tryz.func65, Tryz.ntmps65
    go_wp2_with fail
    refine bodyPost_ret (v := refV (⟨2, false⟩, 0)) (by simp [results, go_sem]) rfl ?_
    exact ⟨rfl, (((Keeps.refl _ w).alloc _).alloc _).alloc _⟩
  · clear h
    go_enter Tryz.func65, Tryz.ntmps65
    go_wp2_with fail
    refine bodyPost_ret (v := refV (⟨3, false⟩, 0)) (by simp [results, go_sem]) rfl ?_
    exact ⟨rfl, (((Keeps.refl _ w).alloc _).alloc _).alloc _⟩
  · clear h
    go_enter Tryz.func65, Tryz.ntmps65
    go_wp2_with fail
    refine bodyPost_ret (v := refV (⟨2, false⟩, 0)) (by simp [results, go_sem]) rfl ?_
    exact ⟨rfl, (((Keeps.refl _ w).alloc _).alloc _).alloc _⟩
set_option maxRecDepth 100000 in
set_option maxHeartbeats 2000000 in
theorem refKind_field (S : List FieldA) (sv : Value) (m : Nat) (n : Int) (s : Txt) (ao : Option Addr) (xn xc : Nat) (w : World) (h : FldsAt w sv S) (hl : S.length ≤ 8) (hm : m = 4 ∨ m = 5) :
    Calls Tryz.prog 65 #[.agg #[sv], exV (m : Int) n s (.slice ao xn xc)] w fun e w' => e = .returned (refV (zeroK (ruleP S (m : Int) s []))) ∧ Keeps (fun _ => False) w w' := by
  obtain ⟨so, sc, rfl⟩ := RowAt.form h
  obtain ⟨e3, hk0, b0, b1, b2⟩ := rBase_facts w so S.length sc (m : Int) n s ao xn xc
  have HC := hide (refF_v S (.slice so S.length sc) (m : Int) n s ao xn xc _ (h.keepF hk0) hl)
  have e : refNamed S (m : Int) s = zeroK (ruleP S (m : Int) s []) := by
    rcases hm with rfl | rfl
    · rfl
    · rfl
  rw [e] at HC
  obtain ⟨⟨⟨T, O⟩, E⟩, hp⟩ : ∃ p, p = zeroK (ruleP S (m : Int) s []) := ⟨_, rfl⟩
  rw [← hp] at HC ⊢
  have HK0 := hide hk0
  have B2 := hide b2
  clear h hk0 b0 b1 b2 e hp e3
  rcases hm with rfl | rfl
  · go_enter Tryz.func65, Tryz.ntmps65
    go_wp2_with (go_at_call 88; refine (unhide HC).mono ?_; rintro e w1 ⟨rfl, hk1⟩; have k2 := (hk1.block _ (lt_of_block (unhide B2)) id).trans (unhide B2); have m0 : World.cell? _ _ = some (Value.int .i64 0) := cell_of_blk k2 0; have m1 : World.cell? _ _ = some (Value.bool false) := cell_of_blk k2 1; have m2 : World.cell? _ _ = some (Value.int .i64 0) := cell_of_blk k2 2; have g0 := frozen_of_blk k2 0; have g1 := frozen_of_blk k2 1; have g2 := frozen_of_blk k2 2; have K2 := hide k2; have HK1 := hide ((unhide HK0).trans hk1); clear k2 hk1)
    obtain ⟨⟨s0, s1, s2⟩, hks⟩ := set3 (unhide K2) rfl (.int .i64 T) (.bool O) (.int .i64 E)
    refine bodyPost_ret (v := refV (⟨T, O⟩, E)) (by simp [results, go_sem, s0, s1, s2]) rfl ?_
    exact ⟨rfl, (unhide HK1).narrow hks (fun q e => by omega)⟩
  · go_enter Tryz.func65, Tryz.ntmps65
    go_wp2_with (go_at_call 88; refine (unhide HC).mono ?_; rintro e w1 ⟨rfl, hk1⟩; have k2 := (hk1.block _ (lt_of_block (unhide B2)) id).trans (unhide B2); have m0 : World.cell? _ _ = some (Value.int .i64 0) := cell_of_blk k2 0; have m1 : World.cell? _ _ = some (Value.bool false) := cell_of_blk k2 1; have m2 : World.cell? _ _ = some (Value.int .i64 0) := cell_of_blk k2 2; have g0 := frozen_of_blk k2 0; have g1 := frozen_of_blk k2 1; have g2 := frozen_of_blk k2 2; have K2 := hide k2; have HK1 := hide ((unhide HK0).trans hk1); clear k2 hk1)
    obtain ⟨⟨s0, s1, s2⟩, hks⟩ := set3 (unhide K2) rfl (.int .i64 T) (.bool O) (.int .i64 E)
    refine bodyPost_ret (v := refV (⟨T, O⟩, E)) (by simp [results, go_sem, s0, s1, s2]) rfl ?_
    exact ⟨rfl, (unhide HK1).narrow hks (fun q e => by omega)⟩
end Go.Proofs.YtoempeobaknkcaaGreatDoor
