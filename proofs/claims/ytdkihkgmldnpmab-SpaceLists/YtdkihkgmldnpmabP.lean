import Derived.Test.YtdkihkgmldnpmabE
namespace Go.Proofs.Ytdkihkgmldnpmab
open Go.RowKit Go.Maps

def bl (l : List Bool) : List Value := l.map Value.bool
theorem bl_length (l : List Bool) : (bl l).length = l.length := by simp [bl]
theorem bl_get (l : List Bool) (j : Nat) : (bl l)[j]? = (l[j]?).map Value.bool := by simp [bl]
theorem Try.info4 : (Try.prog.info? 4).map (fun i => (i.zero, i.size, i.bytes)) = some (some (.bool false), 1, 1) := by kernel_rfl

theorem ownsRow_kept {w w' : World} {B e size n : Nat} {v : Value} {xs : List Value} (h : w.ownsRow B e size v n xs) {F : Nat → Prop} (hk : Keeps F w w') (hF : ∀ k, v.ownBlock = some k → ¬ F k) : w'.ownsRow B e size v n xs := by
  refine ⟨h.1, ?_⟩
  rcases h.2 with hn | ⟨g, cap, cur, hv, hb, hg, rest⟩
  · exact Or.inl hn
  · exact Or.inr ⟨g, cap, cur, hv, hb, by rw [hk.block _ (lt_of_block hg) (hF g (by rw [hv]; rfl))]; exact hg, rest⟩
theorem ownsRow_block {w : World} {B e size n : Nat} {v : Value} {xs : List Value} (h : w.ownsRow B e size v n xs) {k : Nat} (hk : v.ownBlock = some k) : ∃ cur, w.heap[k]? = some (.cells cur e (0, 0)) := by
  rcases h.2 with ⟨hv, _⟩ | ⟨g, cap, cur, hv, hb, hg, rest⟩
  · rw [hv] at hk; cases hk
  · rw [hv] at hk
    simp [Value.ownBlock] at hk
    subst hk
    exact ⟨cur, hg⟩

/-- A struct of three lists of bools. -/
structure Tri (w : World) (B t V : Nat) (nv mv lv : Value) (a b c : List Bool) : Prop where
  blk : w.heap[V]? = some (.cells #[nv, mv, lv] t (0, 0))
  r1 : w.ownsRow B 4 1 nv a.length (bl a)
  r2 : w.ownsRow B 4 1 mv b.length (bl b)
  r3 : w.ownsRow B 4 1 lv c.length (bl c)
  d12 : ∀ k, nv.ownBlock = some k → mv.ownBlock ≠ some k
  d13 : ∀ k, nv.ownBlock = some k → lv.ownBlock ≠ some k
  d23 : ∀ k, mv.ownBlock = some k → lv.ownBlock ≠ some k
  lo : B ≤ V
  t4 : t ≠ 4

def triHas (V : Nat) (nv mv lv : Value) (k : Nat) : Prop := k = V ∨ nv.ownBlock = some k ∨ mv.ownBlock = some k ∨ lv.ownBlock = some k

section
variable {w w' : World} {B t V : Nat} {nv mv lv : Value} {a b c : List Bool}

theorem Tri.has_lo (h : Tri w B t V nv mv lv a b c) : ∀ k, triHas V nv mv lv k → B ≤ k := by
  intro k hk
  rcases hk with rfl | hk | hk | hk
  · exact h.lo
  · exact (h.r1.lt k hk).1
  · exact (h.r2.lt k hk).1
  · exact (h.r3.lt k hk).1
theorem Tri.has_lt (h : Tri w B t V nv mv lv a b c) : ∀ k, triHas V nv mv lv k → k < w.heap.size := by
  intro k hk
  rcases hk with rfl | hk | hk | hk
  · exact lt_of_block h.blk
  · exact (h.r1.lt k hk).2
  · exact (h.r2.lt k hk).2
  · exact (h.r3.lt k hk).2
theorem Tri.has_kind (h : Tri w B t V nv mv lv a b c) {k : Nat} (hk : triHas V nv mv lv k) : ∃ cur u, w.heap[k]? = some (.cells cur u (0, 0)) ∧ (u = t ∨ u = 4) := by
  rcases hk with rfl | hk | hk | hk
  · exact ⟨_, _, h.blk, Or.inl rfl⟩
  · obtain ⟨cur, hc⟩ := ownsRow_block h.r1 hk; exact ⟨_, _, hc, Or.inr rfl⟩
  · obtain ⟨cur, hc⟩ := ownsRow_block h.r2 hk; exact ⟨_, _, hc, Or.inr rfl⟩
  · obtain ⟨cur, hc⟩ := ownsRow_block h.r3 hk; exact ⟨_, _, hc, Or.inr rfl⟩
theorem Tri.kept (h : Tri w B t V nv mv lv a b c) {F : Nat → Prop} (hk : Keeps F w w') (hF : ∀ k, triHas V nv mv lv k → ¬ F k) : Tri w' B t V nv mv lv a b c where
  blk := by rw [hk.block _ (lt_of_block h.blk) (hF _ (Or.inl rfl))]; exact h.blk
  r1 := ownsRow_kept h.r1 hk (fun k e => hF k (Or.inr (Or.inl e)))
  r2 := ownsRow_kept h.r2 hk (fun k e => hF k (Or.inr (Or.inr (Or.inl e))))
  r3 := ownsRow_kept h.r3 hk (fun k e => hF k (Or.inr (Or.inr (Or.inr e))))
  d12 := h.d12
  d13 := h.d13
  d23 := h.d23
  lo := h.lo
  t4 := h.t4
theorem Tri.keepF (h : Tri w B t V nv mv lv a b c) (hk : Keeps (fun _ => False) w w') : Tri w' B t V nv mv lv a b c := h.kept hk (fun _ _ => id)
theorem Tri.neV (h : Tri w B t V nv mv lv a b c) : nv.ownBlock ≠ some V ∧ mv.ownBlock ≠ some V ∧ lv.ownBlock ≠ some V := by
  refine ⟨fun e => ?_, fun e => ?_, fun e => ?_⟩
  · obtain ⟨cur, hc⟩ := ownsRow_block h.r1 e
    exact blk_ne h.blk hc h.t4 rfl
  · obtain ⟨cur, hc⟩ := ownsRow_block h.r2 e
    exact blk_ne h.blk hc h.t4 rfl
  · obtain ⟨cur, hc⟩ := ownsRow_block h.r3 e
    exact blk_ne h.blk hc h.t4 rfl
theorem Tri.c0 (h : Tri w B t V nv mv lv a b c) : w.cell? ⟨V, 0, none⟩ = some nv := by rw [cell_of_blk h.blk]; rfl
theorem Tri.c1 (h : Tri w B t V nv mv lv a b c) : w.cell? ⟨V, 1, none⟩ = some mv := by rw [cell_of_blk h.blk]; rfl
theorem Tri.c2 (h : Tri w B t V nv mv lv a b c) : w.cell? ⟨V, 2, none⟩ = some lv := by rw [cell_of_blk h.blk]; rfl
theorem Tri.fz (h : Tri w B t V nv mv lv a b c) (o : Nat) : w.frozen? ⟨V, o, none⟩ = false := frozen_of_blk h.blk o

/-- One of the lists is another one from now on. -/
theorem Tri.set0 (h : Tri w B t V nv mv lv a b c) {v : Value} {l : List Bool} (hr : w.ownsRow B 4 1 v l.length (bl l)) (hm : ∀ k, v.ownBlock = some k → mv.ownBlock ≠ some k) (hl : ∀ k, v.ownBlock = some k → lv.ownBlock ≠ some k) :
    Tri (w.setCell ⟨V, 0, none⟩ v) B t V v mv lv l b c ∧ Keeps (fun k => k = V) w (w.setCell ⟨V, 0, none⟩ v) := by
  have hk : Keeps (fun k => k = V) w (w.setCell ⟨V, 0, none⟩ v) := Keeps.setCell (F := fun k => k = V) (Keeps.refl _ w) (p := ⟨V, 0, none⟩) (fun _ => rfl) v
  refine ⟨⟨?_, ownsRow_kept hr hk (fun k e e2 => ?_), ownsRow_kept h.r2 hk (fun k e e2 => h.neV.2.1 (by rw [← e2]; exact e)), ownsRow_kept h.r3 hk (fun k e e2 => h.neV.2.2 (by rw [← e2]; exact e)), hm, hl, h.d23, h.lo, h.t4⟩, hk⟩
  · rw [heap_setCell_at h.blk]; rfl
  · obtain ⟨cur, hc⟩ := ownsRow_block hr e
    rw [e2] at hc
    exact blk_ne h.blk hc h.t4 rfl
theorem Tri.set1 (h : Tri w B t V nv mv lv a b c) {v : Value} {l : List Bool} (hr : w.ownsRow B 4 1 v l.length (bl l)) (hm : ∀ k, v.ownBlock = some k → nv.ownBlock ≠ some k) (hl : ∀ k, v.ownBlock = some k → lv.ownBlock ≠ some k) :
    Tri (w.setCell ⟨V, 1, none⟩ v) B t V nv v lv a l c ∧ Keeps (fun k => k = V) w (w.setCell ⟨V, 1, none⟩ v) := by
  have hk : Keeps (fun k => k = V) w (w.setCell ⟨V, 1, none⟩ v) := Keeps.setCell (F := fun k => k = V) (Keeps.refl _ w) (p := ⟨V, 1, none⟩) (fun _ => rfl) v
  refine ⟨⟨?_, ownsRow_kept h.r1 hk (fun k e e2 => h.neV.1 (by rw [← e2]; exact e)), ownsRow_kept hr hk (fun k e e2 => ?_), ownsRow_kept h.r3 hk (fun k e e2 => h.neV.2.2 (by rw [← e2]; exact e)), fun k e e2 => hm k e2 e, h.d13, hl, h.lo, h.t4⟩, hk⟩
  · rw [heap_setCell_at h.blk]; rfl
  · obtain ⟨cur, hc⟩ := ownsRow_block hr e
    rw [e2] at hc
    exact blk_ne h.blk hc h.t4 rfl
theorem Tri.set2 (h : Tri w B t V nv mv lv a b c) {v : Value} {l : List Bool} (hr : w.ownsRow B 4 1 v l.length (bl l)) (hm : ∀ k, v.ownBlock = some k → nv.ownBlock ≠ some k) (hl : ∀ k, v.ownBlock = some k → mv.ownBlock ≠ some k) :
    Tri (w.setCell ⟨V, 2, none⟩ v) B t V nv mv v a b l ∧ Keeps (fun k => k = V) w (w.setCell ⟨V, 2, none⟩ v) := by
  have hk : Keeps (fun k => k = V) w (w.setCell ⟨V, 2, none⟩ v) := Keeps.setCell (F := fun k => k = V) (Keeps.refl _ w) (p := ⟨V, 2, none⟩) (fun _ => rfl) v
  refine ⟨⟨?_, ownsRow_kept h.r1 hk (fun k e e2 => h.neV.1 (by rw [← e2]; exact e)), ownsRow_kept h.r2 hk (fun k e e2 => h.neV.2.1 (by rw [← e2]; exact e)), ownsRow_kept hr hk (fun k e e2 => ?_), h.d12, fun k e e2 => hm k e2 e, fun k e e2 => hl k e2 e, h.lo, h.t4⟩, hk⟩
  · rw [heap_setCell_at h.blk]; rfl
  · obtain ⟨cur, hc⟩ := ownsRow_block hr e
    rw [e2] at hc
    exact blk_ne h.blk hc h.t4 rfl

/-- An element of the first list is turned. -/
theorem Tri.turn {g cap : Nat} (h : Tri w B t V (.slice (some ⟨g, 0, none⟩) a.length cap) mv lv a b c) (i : Nat) (x : Bool) :
    Tri (w.setCell ⟨g, i, none⟩ (.bool x)) B t V (.slice (some ⟨g, 0, none⟩) a.length cap) mv lv (a.set i x) b c ∧ Keeps (fun k => k = g) w (w.setCell ⟨g, i, none⟩ (.bool x)) := by
  have hk : Keeps (fun k => k = g) w (w.setCell ⟨g, i, none⟩ (.bool x)) := Keeps.setCell (F := fun k => k = g) (Keeps.refl _ w) (p := ⟨g, i, none⟩) (fun _ => rfl) _
  have hr := (h.r1.stored i (.bool x)).1
  have e : (bl a).set i (.bool x) = bl (a.set i x) := by simp [bl, List.map_set]
  rw [e] at hr
  have e2 : (a.set i x).length = a.length := by simp
  refine ⟨⟨?_, by rw [e2]; exact hr, ownsRow_kept h.r2 hk (fun k e e2 => h.d12 g rfl (by rw [← e2]; exact e)), ownsRow_kept h.r3 hk (fun k e e2 => h.d13 g rfl (by rw [← e2]; exact e)), h.d12, h.d13, h.d23, h.lo, h.t4⟩, hk⟩
  rw [Below.heap_setCell _ _ _ _ (fun e => h.neV.1 (by rw [e]; rfl))]
  exact h.blk
end

theorem row_form {w : World} {B : Nat} {v : Value} {l : List Bool} (h : w.ownsRow B 4 1 v l.length (bl l)) (hl : 0 < l.length) : ∃ g cap, v = .slice (some ⟨g, 0, none⟩) l.length cap := by
  obtain ⟨g, cap, e, _⟩ := h.form hl
  exact ⟨g, cap, e⟩
theorem row_cell {w : World} {B : Nat} {g cap : Nat} {l : List Bool} (h : w.ownsRow B 4 1 (.slice (some ⟨g, 0, none⟩) l.length cap) l.length (bl l)) {i : Nat} (hi : i < l.length) : w.cell? ⟨g, i, none⟩ = some (.bool (on l i)) := by
  rw [h.cellAt i (by omega), bl_get, get_on hi]; rfl

end Go.Proofs.Ytdkihkgmldnpmab
