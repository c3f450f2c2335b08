import Derived.Test.YtdkihkgmldnpmabP
import Derived.Test.YtdkihkgmldnpmabM
namespace Go.Proofs.Ytdkihkgmldnpmab
open Go.RowKit Go.Maps

theorem ownsRow_lower {w : World} {B C e size n : Nat} {v : Value} {xs : List Value} (h : w.ownsRow B e size v n xs) (hC : C ≤ B) : w.ownsRow C e size v n xs := by
  refine ⟨h.1, ?_⟩
  rcases h.2 with hn | ⟨g, cap, cur, hv, hb, rest⟩
  · exact Or.inl hn
  · exact Or.inr ⟨g, cap, cur, hv, Nat.le_trans hC hb, rest⟩

structure TR where
  V : Nat
  g1 : Nat
  c1 : Nat
  g2 : Nat
  c2 : Nat
  g3 : Nat
  c3 : Nat
def TR.nv (T : TR) (n : Nat) : Value := .slice (some ⟨T.g1, 0, none⟩) n T.c1
def TR.mv (T : TR) (n : Nat) : Value := .slice (some ⟨T.g2, 0, none⟩) n T.c2
def TR.lv (T : TR) (n : Nat) : Value := .slice (some ⟨T.g3, 0, none⟩) n T.c3
def TR.has (T : TR) (k : Nat) : Prop := k = T.V ∨ k = T.g1 ∨ k = T.g2 ∨ k = T.g3

structure TriBk (w : World) (B t : Nat) (T : TR) (b : Bk) : Prop where
  tri : Tri w B t T.V (T.nv b.n) (T.mv b.n) (T.lv b.n) b.now b.mark b.last
  ln : b.now.length = b.n
  lm : b.mark.length = b.n
  ll : b.last.length = b.n
  n1 : 1 ≤ b.n
  n2 : b.n ≤ 2048

theorem TR.has_of {T : TR} {n k : Nat} (h : T.has k) : triHas T.V (T.nv n) (T.mv n) (T.lv n) k := by
  rcases h with h | h | h | h
  · exact Or.inl h
  · exact Or.inr (Or.inl (by rw [h]; rfl))
  · exact Or.inr (Or.inr (Or.inl (by rw [h]; rfl)))
  · exact Or.inr (Or.inr (Or.inr (by rw [h]; rfl)))
theorem TR.of_has {T : TR} {n k : Nat} (h : triHas T.V (T.nv n) (T.mv n) (T.lv n) k) : T.has k := by
  rcases h with h | h | h | h
  · exact Or.inl h
  · simp [TR.nv, Value.ownBlock] at h; exact Or.inr (Or.inl h.symm)
  · simp [TR.mv, Value.ownBlock] at h; exact Or.inr (Or.inr (Or.inl h.symm))
  · simp [TR.lv, Value.ownBlock] at h; exact Or.inr (Or.inr (Or.inr h.symm))

section
variable {w w' : World} {B t : Nat} {T : TR} {b : Bk}
theorem TriBk.kept (h : TriBk w B t T b) {F : Nat → Prop} (hk : Keeps F w w') (hF : ∀ k, T.has k → ¬ F k) : TriBk w' B t T b :=
  ⟨h.tri.kept hk (fun k e => hF k (TR.of_has e)), h.ln, h.lm, h.ll, h.n1, h.n2⟩
theorem TriBk.keepF (h : TriBk w B t T b) (hk : Keeps (fun _ => False) w w') : TriBk w' B t T b := h.kept hk (fun _ _ => id)
theorem TriBk.has_lo (h : TriBk w B t T b) : ∀ k, T.has k → B ≤ k := fun k hk => h.tri.has_lo k (TR.has_of hk)
theorem TriBk.has_lt (h : TriBk w B t T b) : ∀ k, T.has k → k < w.heap.size := fun k hk => h.tri.has_lt k (TR.has_of hk)
theorem TriBk.c0 (h : TriBk w B t T b) : w.cell? ⟨T.V, 0, none⟩ = some (.slice (some ⟨T.g1, 0, none⟩) b.n T.c1) := h.tri.c0
theorem TriBk.c1 (h : TriBk w B t T b) : w.cell? ⟨T.V, 1, none⟩ = some (.slice (some ⟨T.g2, 0, none⟩) b.n T.c2) := h.tri.c1
theorem TriBk.c2 (h : TriBk w B t T b) : w.cell? ⟨T.V, 2, none⟩ = some (.slice (some ⟨T.g3, 0, none⟩) b.n T.c3) := h.tri.c2
theorem TriBk.e1 (h : TriBk w B t T b) {i : Nat} (hi : i < b.n) : w.cell? ⟨T.g1, i, none⟩ = some (.bool (on b.now i)) := by
  have hr : w.ownsRow B 4 1 (.slice (some ⟨T.g1, 0, none⟩) b.n T.c1) b.now.length (bl b.now) := h.tri.r1
  rw [← h.ln] at hr
  exact row_cell hr (by rw [h.ln]; exact hi)
theorem TriBk.e2 (h : TriBk w B t T b) {i : Nat} (hi : i < b.n) : w.cell? ⟨T.g2, i, none⟩ = some (.bool (on b.mark i)) := by
  have hr : w.ownsRow B 4 1 (.slice (some ⟨T.g2, 0, none⟩) b.n T.c2) b.mark.length (bl b.mark) := h.tri.r2
  rw [← h.lm] at hr
  exact row_cell hr (by rw [h.lm]; exact hi)
theorem TriBk.e3 (h : TriBk w B t T b) {i : Nat} (hi : i < b.n) : w.cell? ⟨T.g3, i, none⟩ = some (.bool (on b.last i)) := by
  have hr : w.ownsRow B 4 1 (.slice (some ⟨T.g3, 0, none⟩) b.n T.c3) b.last.length (bl b.last) := h.tri.r3
  rw [← h.ll] at hr
  exact row_cell hr (by rw [h.ll]; exact hi)
theorem TriBk.f1 (h : TriBk w B t T b) (i : Nat) : w.frozen? ⟨T.g1, i, none⟩ = false := by
  obtain ⟨cur, hc⟩ := ownsRow_block h.tri.r1 (k := T.g1) rfl
  exact frozen_of_blk hc i
theorem TriBk.rowNow (h : TriBk w B t T b) : Cells w (.slice (some ⟨T.g1, 0, none⟩) b.n T.c1) (bl b.now) := by
  have := cells_row h.tri.r1 (bl_length _)
  exact this
theorem TriBk.rowMark (h : TriBk w B t T b) : Cells w (.slice (some ⟨T.g2, 0, none⟩) b.n T.c2) (bl b.mark) := by
  have := cells_row h.tri.r2 (bl_length _)
  exact this

theorem TriBk.turn (h : TriBk w B t T b) (i : Nat) (x : Bool) : TriBk (w.setCell ⟨T.g1, i, none⟩ (.bool x)) B t T { b with now := b.now.set i x } ∧ Keeps T.has w (w.setCell ⟨T.g1, i, none⟩ (.bool x)) := by
  have ht := h.tri
  have e : T.nv b.n = .slice (some ⟨T.g1, 0, none⟩) b.now.length T.c1 := by rw [h.ln]; rfl
  rw [e] at ht
  obtain ⟨h1, h2⟩ := ht.turn i x
  rw [← e] at h1
  exact ⟨⟨h1, by simpa using h.ln, h.lm, h.ll, h.n1, h.n2⟩, h2.mono (fun k _ e => Or.inr (Or.inl e))⟩

theorem TriBk.newMark {w1 : World} (h : TriBk w B t T b) (hk : Keeps (fun _ => False) w w1) {v : Value} (hr : w1.ownsRow w.heap.size 4 1 v b.now.length (bl b.now)) :
    ∃ g c, v = .slice (some ⟨g, 0, none⟩) b.n c ∧ w.heap.size ≤ g ∧ TriBk (w1.setCell ⟨T.V, 1, none⟩ v) B t { T with g2 := g, c2 := c } { b with mark := b.now } ∧ Keeps (fun k => k = T.V) w1 (w1.setCell ⟨T.V, 1, none⟩ v) := by
  obtain ⟨g, c, rfl⟩ := row_form hr (by rw [h.ln]; exact h.n1)
  have hg := (hr.lt g rfl).1
  have hB : B ≤ w.heap.size := Nat.le_trans h.tri.lo (Nat.le_of_lt (lt_of_block h.tri.blk))
  have h1 := h.keepF hk
  obtain ⟨h2, h3⟩ := h1.tri.set1 (ownsRow_lower hr hB) (fun k e e2 => by
      simp [Value.ownBlock, TR.nv] at e e2
      have := h.has_lt T.g1 (Or.inr (Or.inl rfl)); omega) (fun k e e2 => by
      simp [Value.ownBlock, TR.lv] at e e2
      have := h.has_lt T.g3 (Or.inr (Or.inr (Or.inr rfl))); omega)
  rw [h.ln] at h2 h3 ⊢
  exact ⟨g, c, rfl, hg, ⟨h2, h.ln, h.ln, h.ll, h.n1, h.n2⟩, h3⟩
theorem TriBk.newLast {w1 : World} (h : TriBk w B t T b) (hk : Keeps (fun _ => False) w w1) {v : Value} (hr : w1.ownsRow w.heap.size 4 1 v b.now.length (bl b.now)) :
    ∃ g c, v = .slice (some ⟨g, 0, none⟩) b.n c ∧ w.heap.size ≤ g ∧ TriBk (w1.setCell ⟨T.V, 2, none⟩ v) B t { T with g3 := g, c3 := c } { b with last := b.now } ∧ Keeps (fun k => k = T.V) w1 (w1.setCell ⟨T.V, 2, none⟩ v) := by
  obtain ⟨g, c, rfl⟩ := row_form hr (by rw [h.ln]; exact h.n1)
  have hg := (hr.lt g rfl).1
  have hB : B ≤ w.heap.size := Nat.le_trans h.tri.lo (Nat.le_of_lt (lt_of_block h.tri.blk))
  have h1 := h.keepF hk
  obtain ⟨h2, h3⟩ := h1.tri.set2 (ownsRow_lower hr hB) (fun k e e2 => by
      simp [Value.ownBlock, TR.nv] at e e2
      have := h.has_lt T.g1 (Or.inr (Or.inl rfl)); omega) (fun k e e2 => by
      simp [Value.ownBlock, TR.mv] at e e2
      have := h.has_lt T.g2 (Or.inr (Or.inr (Or.inl rfl))); omega)
  rw [h.ln] at h2 h3 ⊢
  exact ⟨g, c, rfl, hg, ⟨h2, h.ln, h.lm, h.ln, h.n1, h.n2⟩, h3⟩
theorem TriBk.newNow {w1 : World} (h : TriBk w B t T b) (hk : Keeps (fun _ => False) w w1) {v : Value} (hr : w1.ownsRow w.heap.size 4 1 v b.mark.length (bl b.mark)) :
    ∃ g c, v = .slice (some ⟨g, 0, none⟩) b.n c ∧ w.heap.size ≤ g ∧ TriBk (w1.setCell ⟨T.V, 0, none⟩ v) B t { T with g1 := g, c1 := c } { b with now := b.mark } ∧ Keeps (fun k => k = T.V) w1 (w1.setCell ⟨T.V, 0, none⟩ v) := by
  obtain ⟨g, c, rfl⟩ := row_form hr (by rw [h.lm]; exact h.n1)
  have hg := (hr.lt g rfl).1
  have hB : B ≤ w.heap.size := Nat.le_trans h.tri.lo (Nat.le_of_lt (lt_of_block h.tri.blk))
  have h1 := h.keepF hk
  obtain ⟨h2, h3⟩ := h1.tri.set0 (ownsRow_lower hr hB) (fun k e e2 => by
      simp [Value.ownBlock, TR.mv] at e e2
      have := h.has_lt T.g2 (Or.inr (Or.inr (Or.inl rfl))); omega) (fun k e e2 => by
      simp [Value.ownBlock, TR.lv] at e e2
      have := h.has_lt T.g3 (Or.inr (Or.inr (Or.inr rfl))); omega)
  rw [h.lm] at h2 h3 ⊢
  exact ⟨g, c, rfl, hg, ⟨h2, h.lm, h.lm, h.ll, h.n1, h.n2⟩, h3⟩
end

end Go.Proofs.Ytdkihkgmldnpmab
