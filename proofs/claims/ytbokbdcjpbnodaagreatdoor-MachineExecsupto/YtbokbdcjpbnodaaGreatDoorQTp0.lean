import Derived.Test.YtbokbdcjpbnodaaGreatDoorQLc
namespace Go.Proofs.YtbokbdcjpbnodaaGreatDoor
open Go.RowKit Go.Maps
theorem kb {Y Y1 : World} {b c : Nat} {o : Obj} (h : Y.heap[b]? = some o) (k : Keeps (fun q => q = c) Y Y1) (hn : ¬ b = c) : Y1.heap[b]? = some o := (k.block _ (lt_of_block h) hn).trans h
theorem stored3 {Y : World} {b : Nat} {c0 c1 c2 : Value} {t : TypeId} (h : Y.heap[b]? = some (.cells #[c0, c1, c2] t (0, 0))) (x : ValA) : ∃ Y1, ((Y.setCell ⟨b, 0, none⟩ (.int .i64 x.kind)).setCell ⟨b, 1, none⟩ (.int .i64 x.n)).setCell ⟨b, 2, none⟩ (str x.s) = Y1 ∧ Y1.heap[b]? = some (.cells #[.int .i64 x.kind, .int .i64 x.n, str x.s] t (0, 0)) ∧ Keeps (fun q => q = b) Y Y1 :=
 ⟨_, rfl, heap_setCell_at (o := 2) (heap_setCell_at (o := 1) (heap_setCell_at (o := 0) h _) _) _, keeps_set3 _ _ _ _ _⟩
end Go.Proofs.YtbokbdcjpbnodaaGreatDoor
