import Derived.Test.YtbgapbaeegloaabGreatDoorJc
import Derived.Test.YtbgapbaeegloaabGreatDoorX
import Derived.Laws.MakeOwn
namespace Go.Proofs.YtbgapbaeegloaabGreatDoor
open Go.RowKit Go.Maps

theorem run_mkb (h c : Nat) (hh : h ≤ c) (hc : c ≤ 1024) (w : World) : (Instr.makeSlice 51 (.int .i64 (h : Int)) (.int .i64 (c : Int))).run Tryz.prog w = .ok (.slice (some ⟨w.heap.size, 0, none⟩) h c) (w.alloc (.cells (madeCells #[.int .u8 0] c) 5)) := by
  obtain ⟨i0, hi, hz0, hz1, hz2⟩ := info_parts Tryz.info5
  have q := run_make (P := Tryz.prog) w 51 5 i0 (.int .u8 0) Tryz.underlying51 hi hz0 .i64 .i64 (h : Int) (c : Int) (by omega) (by omega) (by rw [hz2]; omega) (by omega)
  rw [hz1] at q
  simpa [Value.cells] using q
theorem made_zero (c : Nat) : (madeCells #[.int .u8 0] c).toList = List.replicate c (.int .u8 0) := by
  apply List.ext_getElem?
  intro i
  simp only [madeCells, Array.toList_map, List.getElem?_map, Array.getElem?_toList, List.getElem?_replicate]
  by_cases h : i < c
  · simp [h, Nat.mod_one]
  · simp [h]
theorem owns_made (w : World) (h c : Nat) (hh : h ≤ c) (hc : c ≤ 1024) : (w.alloc (.cells (madeCells #[.int .u8 0] c) 5)).ownsRow w.heap.size 5 1 (.slice (some ⟨w.heap.size, 0, none⟩) h c) h (List.replicate h (.int .u8 0)) := by
  refine ⟨by simp, Or.inr ⟨w.heap.size, c, _, rfl, Nat.le_refl _, heap_alloc_new w _, hh, by unfold maxLen; omega, by rw [size_madeCells]; omega, ?_⟩⟩
  rw [made_zero, List.take_replicate, Nat.mul_one, Nat.min_eq_left hh]

theorem owns_keep {w w' : World} {B e sz n : Nat} {v : Value} {xs : List Value} (h : w.ownsRow B e sz v n xs) (k : Keeps (fun _ => False) w w') : w'.ownsRow B e sz v n xs :=
  ⟨h.1, h.2.imp id fun ⟨g, cap, cur, e1, e2, e3, e4⟩ => ⟨g, cap, cur, e1, e2, (k.block g (by
    rcases Nat.lt_or_ge g w.heap.size with h' | h'
    · exact h'
    · simp [Array.getElem?_eq_none h'] at e3) id).trans e3, e4⟩⟩
theorem conv_ownrow {w5 : World} {B g c : Nat} {A : Txt} (h : w5.ownsRow B 5 1 (.slice (some ⟨g, 0, none⟩) A.length c) A.length (bs A)) : (convert 51 9 (.slice (some ⟨g, 0, none⟩) A.length c)).run Tryz.prog w5 = .ok (str A) w5 :=
  conv_bytes w5 g c A (fun j x hj => by
    have h1 := h.cells (g := g) rfl j (.int .u8 (num x)) (by rw [bs_get, hj]; rfl)
    rwa [Addr.add_lit, Nat.zero_add] at h1)

end Go.Proofs.YtbgapbaeegloaabGreatDoor
