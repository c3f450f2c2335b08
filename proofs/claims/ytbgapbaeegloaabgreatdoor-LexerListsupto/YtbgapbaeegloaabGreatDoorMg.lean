import Derived.Test.YtbgapbaeegloaabGreatDoorMe
import Derived.Test.YtbgapbaeegloaabGreatDoorRk
import Derived.Test.YtbgapbaeegloaabGreatDoorLk
namespace Go.Proofs.YtbgapbaeegloaabGreatDoor
open Go.RowKit Go.Maps

def tokV (D : TokA × Nat × Int) : Value := .tuple #[D.1.v, .int .i64 (D.2.1 : Int), .int .i64 D.2.2]
/-- The cell of a result that is a token, behind what a callee did. -/
theorem cell4 {w w4 : World} (hk : Keeps (fun _ => False) (w.alloc (.cells #[.int .i64 0, str [], .int .i64 0, .int .i64 0] 31)) w4) :
    w4.heap[w.heap.size]? = some (.cells #[.int .i64 0, str [], .int .i64 0, .int .i64 0] 31 (0, 0)) ∧ Keeps (fun _ => False) w w4 := by
  refine ⟨?_, ((Keeps.refl _ _).alloc _).trans hk⟩
  rw [hk.block _ (by simp) id]
  exact heap_alloc_new w _
/-- A struct of four cells is written over. -/
theorem set4 {w4 : World} {b : Nat} {c0 c1 c2 c3 : Value} {t : TypeId} (h : w4.heap[b]? = some (.cells #[c0, c1, c2, c3] t (0, 0))) (x y z u : Value) :
    let w5 := (((w4.setCell ⟨b, 0, none⟩ x).setCell ⟨b, 1, none⟩ y).setCell ⟨b, 2, none⟩ z).setCell ⟨b, 3, none⟩ u
    (w5.cell? ⟨b, 0, none⟩ = some x ∧ w5.cell? ⟨b, 1, none⟩ = some y ∧ w5.cell? ⟨b, 2, none⟩ = some z ∧ w5.cell? ⟨b, 3, none⟩ = some u) ∧ Keeps (fun q => q = b) w4 w5 := by
  intro w5
  have hb := heap_setCell_at (o := 3) (heap_setCell_at (o := 2) (heap_setCell_at (o := 1) (heap_setCell_at (o := 0) h x) y) z) u
  refine ⟨⟨?_, ?_, ?_, ?_⟩, (((keeps_set w4 b 0 x).trans (keeps_set _ b 1 y)).trans (keeps_set _ b 2 z)).trans (keeps_set _ b 3 u)⟩
  · rw [cell_of_blk hb]; rfl
  · rw [cell_of_blk hb]; rfl
  · rw [cell_of_blk hb]; rfl
  · rw [cell_of_blk hb]; rfl

theorem clone_v (x : Txt) (hl : x.length ≤ 256) (w : World) : Calls Tryz.prog 47 #[str x] w fun e w' => e = .returned (str x) ∧ Keeps (fun _ => False) w w' := by
  have HQ := hide (Tryz.stringslite_Clone ⟨x.toArray⟩ w (by simp [ByteArray.size]; omega))
  go_enter Tryz.func47, Tryz.ntmps47
  go_wp2_with fail
  refine (unhide HQ).mono ?_
  rintro e w2 ⟨rfl, hb⟩
  have HK := hide (keeps_below hb)
  clear hb
  go_wp2_with fail
  go_ret
  exact ⟨rfl, unhide HK⟩

set_option maxRecDepth 100000 in
theorem spelt_v (kind : Int) (x : Txt) (hl : x.length ≤ 256) (w : World) :
    Calls Tryz.prog 38 #[.int .i64 kind, str x] w fun e w' => e = .returned (tokV (⟨kind, x, 0, 0⟩, x.length, 0)) ∧ Keeps (fun _ => False) w w' := by
  have HQ := fun w' => hide (clone_v x hl w')
  go_enter Tryz.func38, Tryz.ntmps38
  go_wp2_with fail
  refine (unhide (HQ _)).mono ?_
  rintro e w4 ⟨rfl, hk4⟩
  obtain ⟨hb4, hkw⟩ := cell4 hk4
  have m0 := cell_of_blk hb4 0
  have m1 := cell_of_blk hb4 1
  have m2 := cell_of_blk hb4 2
  have m3 := cell_of_blk hb4 3
  simp at m0 m1 m2 m3
  have g0 := frozen_of_blk hb4 0
  have g1 := frozen_of_blk hb4 1
  have g2 := frozen_of_blk hb4 2
  have g3 := frozen_of_blk hb4 3
  have HK4 := hide hkw
  obtain ⟨⟨s0, s1, s2, s3⟩, hks⟩ := set4 hb4 (.int .i64 kind) (str x) (.int .i64 0) (.int .i64 0)
  have HKS := hide hks
  clear hks hkw hk4 hb4
  go_wp2_with fail
  refine bodyPost_ret (v := tokV (⟨kind, x, 0, 0⟩, x.length, 0)) (by simp [results, go_sem, s0, s1, s2, s3, tokV, TokA.v]) rfl ?_
  exact ⟨rfl, (unhide HK4).narrow (unhide HKS) (fun q e => by omega)⟩
end Go.Proofs.YtbgapbaeegloaabGreatDoor
