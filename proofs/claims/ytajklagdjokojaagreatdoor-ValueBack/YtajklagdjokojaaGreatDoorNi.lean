import Derived.Test.YtajklagdjokojaaGreatDoorJh
import Derived.Laws.MakeOwn
namespace Go.Proofs.YtajklagdjokojaaGreatDoor
open Go.RowKit Go.Maps

theorem run_mkb (h c : Nat) (hh : h ≤ c) (hc : c ≤ 1024) (w : World) : (Instr.makeSlice 29 (.int .i64 (h : Int)) (.int .i64 (c : Int))).run Tryz.prog w = .ok (.slice (some ⟨w.heap.size, 0, none⟩) h c) (w.alloc (.cells (madeCells #[.int .u8 0] c) 5)) := by
  obtain ⟨i0, hi, hz0, hz1, hz2⟩ := info_parts Tryz.info5
  have q := run_make (P := Tryz.prog) w 29 5 i0 (.int .u8 0) Tryz.underlying29 hi hz0 .i64 .i64 (h : Int) (c : Int) (by omega) (by omega) (by rw [hz2]; omega) (by omega)
  rw [hz1] at q
  simpa [Value.cells] using q
theorem made_zero (c : Nat) : (madeCells #[.int .u8 0] c).toList = List.replicate c (.int .u8 0) := by
  apply List.ext_getElem?
  intro i
  simp only [madeCells, Array.toList_map, List.getElem?_map, Array.getElem?_toList, List.getElem?_replicate]
  by_cases h : i < c
  · simp [h, Nat.mod_one]
  · simp [h]
theorem owns_made (w : World) (h c : Nat) (hh : h ≤ c) (hc : c ≤ 1024) : (w.alloc (.cells (madeCells #[.int .u8 0] c) 5)).ownsRow w.heap.size 5 1 (.slice (some ⟨w.heap.size, 0, none⟩) h c) h (List.replicate h (.int .u8 0)) := by
  refine ⟨by simp, Or.inr ⟨w.heap.size, c, _, rfl, Nat.le_refl _, heap_alloc_new w _, hh, by unfold maxLen; omega, by rw [size_madeCells]; omega, ?_⟩⟩
  rw [made_zero, List.take_replicate, Nat.mul_one, Nat.min_eq_left hh]

set_option maxRecDepth 100000 in
theorem put_none (a : Option Addr) (cap N : Nat) (w : World) : Calls Tryz.prog 54 #[.slice a 0 cap, .int .u64 N] w fun e w' => (∃ r, e = .returned r) ∧ w' = w := by
  go_enter Tryz.func54, Tryz.ntmps54
  go_wp2
  go_loopw [7] (fun i wr => i = .int .i64 0 ∧ wr = w) (fun _ _ => 0)
  case atStart => exact ⟨rfl, rfl⟩
  case round =>
    obtain ⟨rfl, rfl⟩ := hrel
    go_wp2

    go_end0
    exact ⟨⟨_, rfl⟩, rfl⟩

set_option maxRecDepth 100000 in
theorem put_one (g cap N : Nat) (c0 : Value) (w : World) (hN : N ≤ 255) (hc : w.cell? ⟨g, 0, none⟩ = some c0) (hf : w.frozen? ⟨g, 0, none⟩ = false) :
    Calls Tryz.prog 54 #[.slice (some ⟨g, 0, none⟩) 1 cap, .int .u64 N] w fun e w' => (∃ r, e = .returned r) ∧ w' = w.setCell ⟨g, 0, none⟩ (.int .u8 N) := by
  go_enter Tryz.func54, Tryz.ntmps54
  go_wp2
  go_loopw [1, 7] (fun n i wr => (n = .int .u64 N ∧ i = .int .i64 0 ∧ wr = w) ∨ ((∃ n', n = .int .u64 n') ∧ i = .int .i64 1 ∧ wr = w.setCell ⟨g, 0, none⟩ (.int .u8 N))) (fun _ i _ => 1 - (intOf i).toNat)
  case atStart => exact Or.inl ⟨rfl, rfl, rfl⟩
  case round =>
    have hN' : (N : Int) ≤ 255 := by omega
    rcases hrel with ⟨rfl, rfl, rfl⟩ | ⟨⟨n', rfl⟩, rfl, rfl⟩
    · go_wp2
      go_roundw
      case rel => exact Or.inr ⟨⟨_, rfl⟩, rfl, trivial⟩
      case measure => simp [intOf]
    · clear hc hf
      go_wp2
      go_end0
      exact ⟨⟨_, rfl⟩, rfl⟩

/-- The first cell of an owned row, written. -/
theorem owns_first {w : World} {B g n cap : Nat} {y x : Value} {xs : List Value} (h : w.ownsRow B 5 1 (.slice (some ⟨g, 0, none⟩) n cap) n (y :: xs)) :
    (w.setCell ⟨g, 0, none⟩ x).ownsRow B 5 1 (.slice (some ⟨g, 0, none⟩) n cap) n (x :: xs) ∧ w.cell? ⟨g, 0, none⟩ = some y ∧ w.frozen? ⟨g, 0, none⟩ = false ∧ B ≤ g := by
  obtain ⟨hl, hh⟩ := h
  rcases hh with ⟨hv, _⟩ | ⟨g', cap', cur, hv, hb, hg, h1, h2, h3, h4⟩
  · simp at hv
  · simp at hv
    obtain ⟨rfl, rfl⟩ := hv
    have hn : 0 < n := by simp at hl; omega
    refine ⟨⟨by simpa using hl, Or.inr ⟨g, cap, _, rfl, hb, heap_setCell_at hg x, h1, h2, by simpa using h3, ?_⟩⟩, ?_, frozen_of_blk hg 0, hb⟩
    · rw [Nat.mul_one] at *
      obtain ⟨cl⟩ := cur
      cases cl with
      | nil => simp at h3; omega
      | cons c r =>
        obtain ⟨m, rfl⟩ : ∃ m, n = m + 1 := ⟨n - 1, by omega⟩
        simp at h4 ⊢
        exact h4.2
    · rw [cell_of_blk hg]
      obtain ⟨cl⟩ := cur
      cases cl with
      | nil => simp at h3; omega
      | cons c r =>
        obtain ⟨m, rfl⟩ : ∃ m, n = m + 1 := ⟨n - 1, by omega⟩
        simp at h4 ⊢
        exact h4.1

theorem bitsOf_length : ∀ (l : List FieldA) (r : List ValA), r.length = l.length → (bitsOf (l.zip r)).length = opts l
  | [], r, _ => by simp [bitsOf, opts]
  | f :: l, [], h => by simp at h
  | f :: l, x :: r, h => by
    have := bitsOf_length l r (by simpa using h)
    unfold bitsOf opts at *
    simp only [List.zip_cons_cons, List.filter_cons]
    cases hf : f.opt
    · simpa [hf] using this
    · simp only [if_true, List.map_cons, List.length_cons]
      simpa using this
theorem headT_cases (l : List FieldA) (r : List ValA) (hr : r.length = l.length) (hl : l.length ≤ 8) : (headB l = 0 ∧ headT (l.zip r) = []) ∨ (headB l = 1 ∧ headT (l.zip r) = [UInt8.ofNat (headN (bitsOf (l.zip r)))]) := by
  have h1 := bitsOf_length l r hr
  have h2 := opts_le l
  unfold headB headT
  rw [h1]
  by_cases h : 0 < opts l
  · right
    exact ⟨by omega, by rw [if_pos h]⟩
  · left
    exact ⟨by omega, by rw [if_neg h]⟩
theorem or_pow : ∀ J : Fin 8, ∀ N : Fin 256, N.1 < 2 ^ J.1 → bits .or .u64 (N.1 : Int) ((2 ^ J.1 : Nat) : Int) = ((N.1 + 2 ^ J.1 : Nat) : Int) := by decide +kernel

end Go.Proofs.YtajklagdjokojaaGreatDoor
