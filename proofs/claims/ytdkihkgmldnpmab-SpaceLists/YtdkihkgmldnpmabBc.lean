import Derived.Test.YtdkihkgmldnpmabG
import Derived.Test.YtdkihkgmldnpmabK
namespace Go.Proofs.Ytdkihkgmldnpmab
open Go.RowKit Go.Maps

theorem load_12 (w : World) (v : Value) (l : List Int) (hR : Cells w v (bs l)) (hl : l.length = 2) (hb : ∀ x ∈ l, 0 ≤ x ∧ x ≤ 255) (hno : ∀ i, 12 ≤ i → i < 8 * l.length → bitI l i = false) :
    Calls Try.prog 10 #[.int .i64 12, v] w fun e w' => e = .returned (.tuple #[.pointer (some ⟨w.heap.size + 6, 0, none⟩), .int .i64 0]) ∧ Keeps (fun _ => False) w w' ∧ ∃ s : SP, s.S = w.heap.size + 6 ∧ s.n = 12 ∧ pack s.now = l ∧ SpaceAt w' w.heap.size s ∧ ∀ k, s.has k → w.heap.size ≤ k := by
  refine (load_fit w 12 (by decide) (by decide) v l hR hl).mono ?_
  rintro e w' ⟨hk, ⟨_, rfl, hs⟩ | ⟨⟨i, a, b, c⟩, _⟩⟩
  · refine ⟨rfl, hk, _, rfl, rfl, ?_, hs, fun k h => (newSP_has (B := w.heap.size) (n := 12) h).1⟩
    exact pack_unpack 12 l hl hb hno
  · rw [hno i a b] at c; cases c

theorem no51 : ∀ i, 12 ≤ i → i < 8 * [(5 : Int), 1].length → bitI [5, 1] i = false := by
  intro i h1 h2
  simp at h2
  obtain rfl | rfl | rfl | rfl : i = 12 ∨ i = 13 ∨ i = 14 ∨ i = 15 := by omega
  all_goals decide +kernel
theorem no61 : ∀ i, 12 ≤ i → i < 8 * [(6 : Int), 1].length → bitI [6, 1] i = false := by
  intro i h1 h2
  simp at h2
  obtain rfl | rfl | rfl | rfl : i = 12 ∨ i = 13 ∨ i = 14 ∨ i = 15 := by omega
  all_goals decide +kernel

theorem two_cells {w : World} {g : Nat} {x y : Int} (h : w.heap[g]? = some (.cells #[.int .u8 x, .int .u8 y] 5 (0, 0))) : Cells w (.slice (some ⟨g, 0, none⟩) 2 2) (bs [x, y]) :=
  cells_block (l := bs [x, y]) (c := 2) h

set_option maxRecDepth 100000 in
set_option maxHeartbeats 2000000 in
theorem stale_any (w : World) : Calls Try.prog 23 #[] w fun e w' => e = .returned (.bool true) ∧ Keeps (fun _ => False) w w' := by
  obtain ⟨w1, hw1⟩ : ∃ w1, w1 = w.alloc (.cells #[.int .u8 5, .int .u8 1] 5) := ⟨_, rfl⟩
  have hb1 : w1.heap[w.heap.size]? = some (.cells #[.int .u8 5, .int .u8 1] 5 (0, 0)) := by rw [hw1]; exact heap_alloc_new w _
  have hk1 : Keeps (fun _ => False) w w1 := by rw [hw1]; exact (Keeps.refl _ _).alloc _
  have H1 := hide (load_12 w1 _ [5, 1] (two_cells hb1) rfl (by intro x hx; simp at hx; omega) no51)
  have HB1 := hide hb1
  have HW1 := hide hw1
  have HK1 := hide hk1
  have hlt := lt_of_block hb1
  clear hb1 hw1 hk1
  go_enter Try.func23, Try.ntmps23
  go_wp2_with fail
  rw [← unhide HW1]
  refine (unhide H1).mono ?_
  rintro e w2 ⟨rfl, hk2, s, hsS, hsn, hsp, hs, hfar⟩
  have hb2 := (hk2.block _ hlt id).trans (unhide HB1)
  have c0 : w2.cell? ⟨w.heap.size, 0, none⟩ = some (.int .u8 5) := by rw [cell_of_blk hb2]; rfl
  have f0 := frozen_of_blk hb2 0
  obtain ⟨w3, hw3⟩ : ∃ w3, w3 = w2.setCell ⟨w.heap.size, 0, none⟩ (.int .u8 6) := ⟨_, rfl⟩
  have hb3 : w3.heap[w.heap.size]? = some (.cells #[.int .u8 6, .int .u8 1] 5 (0, 0)) := by rw [hw3, heap_setCell_at hb2]; rfl
  have hk3 : Keeps (fun k => k = w.heap.size) w2 w3 := by rw [hw3]; exact Keeps.setCell (F := fun k => k = w.heap.size) (Keeps.refl _ w2) (p := ⟨w.heap.size, 0, none⟩) (fun _ => rfl) _
  have hs3 := hs.kept hk3 (fun k h e => by have := hfar k h; omega)
  have H2 := hide (load_12 w3 _ [6, 1] (two_cells hb3) rfl (by intro x hx; simp at hx; omega) no61)
  have HW3 := hide hw3
  have HS3 := hide hs3
  have HSS := hide hsS
  have HSN := hide hsn
  have HSP := hide hsp
  have HK3 : Hid (Keeps (fun _ => False) w w3) := ((unhide HK1).trans hk2).then hk3 (fun i hi e => by omega)
  clear hb2 hw3 hb3 hk3 hs3 hs hfar hk2 hsS hsn hsp H1
  go_wp2_with fail
  rw [← unhide HW3]
  refine (unhide H2).mono ?_
  rintro e w4 ⟨rfl, hk4, u, huS, hun, hup, hu, -⟩
  have hs4 := (unhide HS3).keepF hk4
  have H3 := hide (bitmap_any w4 _ s hs4)
  rw [unhide HSS, unhide HSN, unhide HSP] at H3
  have hk5 : Keeps (fun _ => False) w4 (w4.alloc (.cells (bs [5, 1]).toArray 5)) := (Keeps.refl _ _).alloc _
  have H4 := hide (bitmap_any _ _ u (hu.keepF hk5))
  rw [huS, hun, hup] at H4
  have c5 : Cells (w4.alloc (.cells (bs [5, 1]).toArray 5)) (.slice (some ⟨w4.heap.size, 0, none⟩) 2 2) (bs [5, 1]) := two_cells (heap_alloc_new w4 _)
  obtain ⟨w5, hw5⟩ : ∃ w5, w5 = w4.alloc (.cells (bs [5, 1]).toArray 5) := ⟨_, rfl⟩
  rw [← hw5] at H3 H4 c5 hk5
  obtain ⟨w6, hw6⟩ : ∃ w6, w6 = w5.alloc (.cells (bs [6, 1]).toArray 5) := ⟨_, rfl⟩
  rw [← hw6] at H4
  have hk6 : Keeps (fun _ => False) w5 w6 := by rw [hw6]; exact (Keeps.refl _ _).alloc _
  have c6 : Cells w6 (.slice (some ⟨w5.heap.size, 0, none⟩) 2 2) (bs [6, 1]) := by rw [hw6]; exact two_cells (heap_alloc_new w5 _)
  have c56 := c5.keepF hk6
  have n12 : nb 12 = 2 := by decide
  rw [n12] at H3 H4
  have HK6 := hide ((((unhide HK3).trans hk4).trans hk5).trans hk6)
  have HC5 := hide c56
  have HC6 := hide c6
  clear hs4 hk4 hk5 hk6 hu huS hun hup c5 c6 c56 hw5 hw6 n12 H2 c0 f0
  go_wp2_with fail
  refine (unhide H3).mono ?_
  rintro e w5' ⟨rfl, h5⟩; subst h5
  go_wp2_with fail
  refine (unhide H4).mono ?_
  rintro e w6' ⟨rfl, h6⟩; subst h6
  obtain ⟨w7, hw7⟩ : ∃ w7, w7 = w6'.alloc (.cells #[.int .u8 5, .int .u8 1] 5) := ⟨_, rfl⟩
  have hb7 : w7.heap[w6'.heap.size]? = some (.cells #[.int .u8 5, .int .u8 1] 5 (0, 0)) := by rw [hw7]; exact heap_alloc_new _ _
  have hk7 : Keeps (fun _ => False) w6' w7 := by rw [hw7]; exact (Keeps.refl _ _).alloc _
  have HE1 := hide (eqBytes_any w7 _ _ [5, 1] [5, 1] ((unhide HC5).keepF hk7) (two_cells hb7) (by simp [maxLen]))
  rw [decide_eq_true rfl] at HE1
  have HC67 := hide ((unhide HC6).keepF hk7)
  have HK7 := hide ((unhide HK6).trans hk7)
  have HW7 := hide hw7
  clear hb7 hk7 hw7 H3 H4
  go_wp2_with fail
  rw [← unhide HW7]
  refine (unhide HE1).mono ?_
  rintro e w8 ⟨rfl, q, rfl⟩
  obtain ⟨w9, hw9⟩ : ∃ w9, w9 = (w7.drewN q).alloc (.cells #[.int .u8 6, .int .u8 1] 5) := ⟨_, rfl⟩
  have hb9 : w9.heap[w7.heap.size]? = some (.cells #[.int .u8 6, .int .u8 1] 5 (0, 0)) := by rw [hw9]; exact heap_alloc_new (w7.drewN q) _
  have hk9 : Keeps (fun _ => False) w7 w9 := by rw [hw9]; exact (keeps_drewN w7 q).alloc _
  have HE2 := hide (eqBytes_any w9 _ _ [6, 1] [6, 1] ((unhide HC67).keepF hk9) (two_cells hb9) (by simp [maxLen]))
  rw [decide_eq_true rfl] at HE2
  have HK9 := hide ((unhide HK7).trans hk9)
  have HW9 := hide hw9
  clear hb9 hk9 hw9 HE1
  go_wp2_with fail
  rw [← unhide HW9]
  refine (unhide HE2).mono ?_
  rintro e w10 ⟨rfl, q2, rfl⟩
  go_wp2
  go_ret
  exact ⟨rfl, (unhide HK9).drewN q2⟩

end Go.Proofs.Ytdkihkgmldnpmab
