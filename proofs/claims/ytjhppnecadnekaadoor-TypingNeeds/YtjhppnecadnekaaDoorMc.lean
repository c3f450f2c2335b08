import Derived.Test.YtjhppnecadnekaaDoorJl
namespace Go.Proofs.YtjhppnecadnekaaDoor
open Go.RowKit Go.Maps

theorem ExIn.up {w : World} {B A : Nat} (hA : B ≤ A) : ∀ {l : EL} {b o : Nat}, ExIn (argZ B) w l b o → ExIn (argZ A) w l b o
  | .nil, _, _, _ => trivial
  | .cons op n s kids rest, b, o, ⟨h1, h2, h3, h4, h5, ⟨ao, cap, h6, h7, h8⟩, h9⟩ => by
    have hb : b < B := h2
    refine ⟨h1, (by show b < A; omega), h3, h4, h5, ⟨ao, cap, h6, h7, fun h0 => ?_⟩, ExIn.up hA h9⟩
    obtain ⟨b', o', e, _, hr⟩ := h8 h0
    exact ⟨b', o', e, trivial, ExIn.up hA hr⟩
theorem one_arg {w : World} {B A g : Nat} {op n : Int} {s : Txt} {v : Value} {kids : EL} {up c : Nat} (hb : w.heap[g]? = some (.cells #[.int .i64 op, .int .i64 n, str s, v] 78 (0, 0))) (hg : g < A) (hBA : B ≤ A) (hS : SlE (argZ B) w up v kids) (hc : 1 ≤ c) (up' : Nat) :
    SlE (argZ A) w up' (.slice (some ⟨g, 0, none⟩) 1 c) (.cons op n s kids .nil) := by
  obtain ⟨ao, cap, rfl, hl, hr⟩ := hS
  refine ⟨_, c, rfl, hc, fun _ => ⟨g, 0, rfl, trivial, lt_of_block hb, hg, ?_, ?_, ?_, ⟨ao, cap, ?_, hl, fun h0 => ?_⟩, trivial⟩⟩
  all_goals try (rw [cell_of_blk hb]; rfl)
  obtain ⟨b', o', e, _, hr⟩ := hr h0
  exact ⟨b', o', e, trivial, ExIn.up hBA hr⟩
theorem alloc_last (w : World) (o : Obj) {g : Nat} (hg : g = w.heap.size) : (w.alloc o).heap[g]? = some o := by
  subst hg
  exact heap_alloc_new w o


end Go.Proofs.YtjhppnecadnekaaDoor
