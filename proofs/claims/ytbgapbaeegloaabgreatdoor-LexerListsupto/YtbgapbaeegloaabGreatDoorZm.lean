import Derived.Test.YtbgapbaeegloaabGreatDoorZk
import Derived.Deep.AppendLies
namespace Go.Proofs.YtbgapbaeegloaabGreatDoor
open Go.RowKit Go.Maps

theorem Tryz.info22 : (Tryz.prog.info? 22).map (fun i => (i.zero, i.size, i.bytes)) = some (some (.slice none 0 0), 1, 24) := by kernel_rfl
theorem own_block {w : World} {B e size n : Nat} {v : Value} {xs : List Value} (h : w.ownsRow B e size v n xs) {k : Nat} (hk : v.ownBlock = some k) : ∃ cur, w.heap[k]? = some (.cells cur e (0, 0)) := by
  rcases h.2 with ⟨hv, _⟩ | ⟨g, cap, cur, hv, hb, hg, rest⟩
  · rw [hv] at hk; cases hk
  · rw [hv] at hk
    simp [Value.ownBlock] at hk
    subst hk
    exact ⟨cur, hg⟩
/-- Rows of two kinds lie apart. -/
theorem own_apart {w : World} {B e size n : Nat} {v : Value} {xs : List Value} {B' e' size' n' : Nat} {v' : Value} {xs' : List Value} (h : w.ownsRow B e size v n xs) (h' : w.ownsRow B' e' size' v' n' xs') (he : e ≠ e') {k : Nat} (hk : v.ownBlock = some k) : v'.ownBlock ≠ some k := by
  intro hk'
  obtain ⟨c, h1⟩ := own_block h hk
  obtain ⟨c', h2⟩ := own_block h' hk'
  rw [h1] at h2
  simp at h2
  exact he h2.2
theorem own_kept {w w' : World} {B e sz n : Nat} {v : Value} {xs : List Value} {F : Nat → Prop} (h : w.ownsRow B e sz v n xs) (k : Keeps F w w') (hF : ∀ b, v.ownBlock = some b → ¬ F b) : w'.ownsRow B e sz v n xs :=
  ⟨h.1, h.2.imp id fun ⟨g, cap, cur, e1, e2, e3, e4⟩ => ⟨g, cap, cur, e1, e2, (k.block g (lt_of_block e3) (hF g (by rw [e1]; rfl))).trans e3, e4⟩⟩
theorem own_base {w : World} {B B' e sz n : Nat} {v : Value} {xs : List Value} (h : w.ownsRow B e sz v n xs) (hB : B' ≤ B) : w.ownsRow B' e sz v n xs :=
  ⟨h.1, h.2.imp id fun ⟨g, cap, cur, e1, e2, e3⟩ => ⟨g, cap, cur, e1, Nat.le_trans hB e2, e3⟩⟩
theorem tcs_set : ∀ (L : List TokA) (i : Nat) (t : TokA), tcs (L.set i t) = ((((tcs L).set (i * 4) (.int .i64 t.kind)).set (i * 4 + 1) (str t.text)).set (i * 4 + 2) (.int .i64 t.n)).set (i * 4 + 3) (.int .i64 t.pos)
  | [], _, _ => by simp [tcs]
  | x :: L, 0, t => by simp [tcs, TokA.cs]
  | x :: L, i + 1, t => by
    have ih := tcs_set L i t
    have e : ∀ M, tcs (x :: M) = x.cs ++ tcs M := fun M => by simp [tcs]
    have hx : x.cs.length = 4 := by simp [TokA.cs]
    rw [List.set_cons_succ, e, e, ih]
    have hs : ∀ (M : List Value) (j : Nat) (u : Value), (x.cs ++ M).set (j + 4) u = x.cs ++ M.set j u := fun M j u => by
      rw [List.set_append_right _ _ (by omega), hx, Nat.add_sub_cancel]
    rw [show (i + 1) * 4 = i * 4 + 4 by omega, show i * 4 + 4 + 1 = i * 4 + 1 + 4 by omega, show i * 4 + 4 + 2 = i * 4 + 2 + 4 by omega, show i * 4 + 4 + 3 = i * 4 + 3 + 4 by omega, hs, hs, hs, hs]
/-- A token written over another. -/
abbrev set4W (w : World) (g i : Nat) (t : TokA) : World := (((w.setCell ⟨g, i * 4, none⟩ (.int .i64 t.kind)).setCell ⟨g, i * 4 + 1, none⟩ (str t.text)).setCell ⟨g, i * 4 + 2, none⟩ (.int .i64 t.n)).setCell ⟨g, i * 4 + 3, none⟩ (.int .i64 t.pos)
/-- One token of a row is written over. -/
theorem own_set {w : World} {B n g cap : Nat} {L : List TokA} (h : w.ownsRow B 31 4 (.slice (some ⟨g, 0, none⟩) n cap) n (tcs L)) (i : Nat) (t : TokA) :
    (set4W w g i t).ownsRow B 31 4 (.slice (some ⟨g, 0, none⟩) n cap) n (tcs (L.set i t)) := by
  refine ⟨by rw [tcs_length, List.length_set, ← tcs_length]; exact h.1, ?_⟩
  rcases h.2 with ⟨h0, _⟩ | ⟨g', cap', cur, hv, hbg, hg, hnc, hcm, hcs, htake⟩
  · cases h0
  · cases hv
    refine Or.inr ⟨g, cap, _, rfl, hbg, heap_setCell_at (heap_setCell_at (heap_setCell_at (heap_setCell_at hg _) _) _) _, hnc, hcm, by simpa using hcs, ?_⟩
    rw [tcs_set, ← htake]
    simp only [Array.toList_setIfInBounds, List.take_set]
theorem keeps_set4 {F : Nat → Prop} {a w : World} {g : Nat} (h : Keeps F a w) (hg : g < a.heap.size → F g) (i : Nat) (t : TokA) : Keeps F a (set4W w g i t) := by
  unfold set4W
  have h1 := h.setCell (p := ⟨g, i * 4, none⟩) hg (.int .i64 t.kind)
  have h2 := h1.setCell (p := ⟨g, i * 4 + 1, none⟩) hg (str t.text)
  have h3 := h2.setCell (p := ⟨g, i * 4 + 2, none⟩) hg (.int .i64 t.n)
  exact h3.setCell (p := ⟨g, i * 4 + 3, none⟩) hg (.int .i64 t.pos)
theorem new_set4 (w : World) (g i : Nat) (t : TokA) (o : Obj) : ((set4W w g i t).alloc o).heap[w.heap.size]? = some o := by
  have h := heap_alloc_new (set4W w g i t) o
  have e : (set4W w g i t).heap.size = w.heap.size := by simp [set4W]
  rw [e] at h
  exact h
theorem tcs_snoc (l : List TokA) (x : TokA) : tcs (l ++ [x]) = tcs l ++ x.cs := by simp [tcs]
theorem cell_own {w : World} {B n g cap : Nat} {L : List TokA} (h : w.ownsRow B 31 4 (.slice (some ⟨g, 0, none⟩) n cap) n (tcs L)) (hn : L.length = n) {i : Nat} (hi : i < n) :
    ∃ x : TokA, w.cell? ⟨g, i * 4, none⟩ = some (.int .i64 x.kind) ∧ w.cell? ⟨g, i * 4 + 1, none⟩ = some (str x.text) ∧ w.cell? ⟨g, i * 4 + 2, none⟩ = some (.int .i64 x.n) ∧ w.cell? ⟨g, i * 4 + 3, none⟩ = some (.int .i64 x.pos) := by
  subst hn
  obtain ⟨b, off, c, e, hb, hc⟩ := ToksAt.cells (rowAt_own h) (by omega)
  simp at e
  obtain ⟨⟨rfl, rfl⟩, _⟩ := e
  have := hc i L[i] (List.getElem?_eq_getElem hi)
  simp only [Nat.zero_add] at this
  exact ⟨_, this⟩
/-- The mark of a round. -/
def mark (k : Nat) : TokA := ⟨100 + (k : Int), [109, 97, 114, 107], (k : Int), -(k : Int)⟩
/-- What stands of the mark. -/
structure Mk (w : World) (sb : Nat) (k : Nat) : Prop where
  lt : sb < w.heap.size
  c0 : w.cell? ⟨sb, 0, none⟩ = some (.int .i64 (100 + (k : Int)))
  c1 : w.cell? ⟨sb, 1, none⟩ = some (str [109, 97, 114, 107])
  c2 : w.cell? ⟨sb, 2, none⟩ = some (.int .i64 (k : Int))
  c3 : w.cell? ⟨sb, 3, none⟩ = some (.int .i64 (-(k : Int)))
theorem Mk.keep {w w' : World} {sb k : Nat} {F : Nat → Prop} (h : Mk w sb k) (hk : Keeps F w w') (hF : ¬ F sb) : Mk w' sb k :=
  ⟨Nat.lt_of_lt_of_le h.lt hk.size, (hk.cell h.lt hF).trans h.c0, (hk.cell h.lt hF).trans h.c1, (hk.cell h.lt hF).trans h.c2, (hk.cell h.lt hF).trans h.c3⟩
/-- Kept lists and wanted ones, each in a row of its own. -/
structure Lists (w : World) (B : Nat) (gs ws : List Value) : Prop where
  at' : ∀ (j : Nat) (g : Value), gs[j]? = some g → ∃ (h : Value) (L : List TokA), ws[j]? = some h ∧ L.length ≤ 400 ∧ w.ownsRow B 31 4 g L.length (tcs L) ∧ w.ownsRow B 31 4 h L.length (tcs L)
theorem Lists.keepF {w w' : World} {B : Nat} {gs ws : List Value} (h : Lists w B gs ws) (hk : Keeps (fun _ => False) w w') : Lists w' B gs ws :=
  ⟨fun j g hg => by
    obtain ⟨a, L, h1, h2, h3, h4⟩ := h.at' j g hg
    exact ⟨a, L, h1, h2, own_kept h3 hk (fun _ _ => id), own_kept h4 hk (fun _ _ => id)⟩⟩
theorem Lists.grown {w w' : World} {B : Nat} {gs ws : List Value} (h : Lists w B gs ws) {B' sz n : Nat} {v : Value} {xs : List Value} (hv : w.ownsRow B' 22 sz v n xs) (hg : w.grownBy w' v.ownBlock) : Lists w' B gs ws :=
  ⟨fun j g hj => by
    obtain ⟨a, L, h1, h2, h3, h4⟩ := h.at' j g hj
    have hk : Keeps (fun q => v.ownBlock = some q) w w' := (Keeps.refl _ w).grown hg (fun q e _ => e)
    exact ⟨a, L, h1, h2, own_kept h3 hk (fun b hb => own_apart h3 hv (by decide) hb), own_kept h4 hk (fun b hb => own_apart h4 hv (by decide) hb)⟩⟩
theorem Lists.snoc {w : World} {B : Nat} {gs ws : List Value} (h : Lists w B gs ws) (hl : gs.length = ws.length) {g a : Value} {L : List TokA} (hL : L.length ≤ 400) (h3 : w.ownsRow B 31 4 g L.length (tcs L)) (h4 : w.ownsRow B 31 4 a L.length (tcs L)) : Lists w B (gs ++ [g]) (ws ++ [a]) :=
  ⟨fun j x hx => by
    rcases Nat.lt_or_ge j gs.length with hj | hj
    · rw [List.getElem?_append_left hj] at hx
      obtain ⟨b, M, h1, h2⟩ := h.at' j x hx
      exact ⟨b, M, by rw [List.getElem?_append_left (by omega)]; exact h1, h2⟩
    · rw [List.getElem?_append_right hj] at hx
      have e : j - gs.length = 0 := by
        rcases Nat.eq_zero_or_pos (j - gs.length) with h' | h'
        · exact h'
        · rw [List.getElem?_eq_none (by simp; omega)] at hx; cases hx
      rw [e] at hx
      simp at hx
      subst hx
      refine ⟨a, L, ?_, hL, h3, h4⟩
      rw [List.getElem?_append_right (by omega), ← hl, e]
      rfl⟩
/-- A row of slices holds its elements. -/
theorem own_cell {w : World} {B e n g cap : Nat} {xs : List Value} (h : w.ownsRow B e 1 (.slice (some ⟨g, 0, none⟩) n cap) n xs) {j : Nat} {u : Value} (hu : xs[j]? = some u) : w.cell? ⟨g, j, none⟩ = some u := by
  rcases h.2 with ⟨h0, _⟩ | ⟨g', cap', cur, hv, hbg, hg, hnc, hcm, hcs, htake⟩
  · cases h0
  · cases hv
    rw [cell_of_row w g j cur e (0, 0) hg]
    rw [← htake] at hu
    rw [List.getElem?_take] at hu
    split at hu
    · simpa using hu
    · cases hu
end Go.Proofs.YtbgapbaeegloaabGreatDoor
