import Derived.Test.YtbgapbaeegloaabGreatDoorLh
import Derived.Test.YtbgapbaeegloaabGreatDoorNi
namespace Go.Proofs.YtbgapbaeegloaabGreatDoor
open Go.RowKit Go.Maps

/-- The package variables that the calls read lie as their own texts lay them. -/
structure Env (w : World) : Prop where
  pow : Pow w
  most : ∃ m, w.cell? ⟨4, 0, none⟩ = some (.int .i64 m)
  tabs : Lib.Utf8Tabs 0 1 w
  synt : ∃ ev, w.cell? ⟨2, 0, none⟩ = some ev ∧ (ev = .nilIface ∨ ∃ te pe, ev = .iface te pe)
  rang : ∃ ev, w.cell? ⟨3, 0, none⟩ = some ev ∧ (ev = .nilIface ∨ ∃ te pe, ev = .iface te pe)
theorem Keeps.cellF {w w' : World} (h : Keeps (fun _ => False) w w') {k o : Nat} {v : Value} (hc : w.cell? ⟨k, o, none⟩ = some v) : w'.cell? ⟨k, o, none⟩ = some v := by
  rw [h.cell (World.block_lt_of_cell? w _ hc) id]
  exact hc
theorem Env.keepF {w w' : World} (h : Env w) (hk : Keeps (fun _ => False) w w') : Env w' :=
  ⟨h.pow.keepF hk, h.most.imp fun _ e => hk.cellF e, ⟨fun i hi => hk.cellF (h.tabs.1 i hi), fun i hi => ⟨hk.cellF (h.tabs.2 i hi).1, hk.cellF (h.tabs.2 i hi).2⟩⟩, h.synt.imp fun _ e => ⟨hk.cellF e.1, e.2⟩, h.rang.imp fun _ e => ⟨hk.cellF e.1, e.2⟩⟩
theorem keeps_below {w w' : World} (h : Below w.heap.size w w') : Keeps (fun _ => False) w w' := ⟨h.os, h.tape, h.output, h.size, fun k hk _ => h.block k hk⟩
end Go.Proofs.YtbgapbaeegloaabGreatDoor
