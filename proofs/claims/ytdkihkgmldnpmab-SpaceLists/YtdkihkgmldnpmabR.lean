import Derived.Test.YtdkihkgmldnpmabQ
namespace Go.Proofs.Ytdkihkgmldnpmab
open Go.RowKit Go.Maps

theorem Tri.grow0 {w w1 : World} {B t V : Nat} {nv mv lv v : Value} {a b c l : List Bool} (h : Tri w B t V nv mv lv a b c) (hk : Keeps (fun k => nv.ownBlock = some k) w w1) (hr : w1.ownsRow B 4 1 v l.length (bl l)) (hv : ∀ k, v.ownBlock = some k → nv.ownBlock = some k ∨ w.heap.size ≤ k) :
    Tri (w1.setCell ⟨V, 0, none⟩ v) B t V v mv lv l b c ∧ Keeps (triHas V nv mv lv) w (w1.setCell ⟨V, 0, none⟩ v) := by
  have hb : w1.heap[V]? = some (.cells #[nv, mv, lv] t (0, 0)) := by rw [hk.block _ (lt_of_block h.blk) h.neV.1]; exact h.blk
  have h2 : Keeps (fun k => k = V) w1 (w1.setCell ⟨V, 0, none⟩ v) := Keeps.setCell (F := fun k => k = V) (Keeps.refl _ w1) (p := ⟨V, 0, none⟩) (fun _ => rfl) v
  have r2 := ownsRow_kept h.r2 hk (fun k e e2 => h.d12 k e2 e)
  have r3 := ownsRow_kept h.r3 hk (fun k e e2 => h.d13 k e2 e)
  refine ⟨⟨?_, ownsRow_kept hr h2 (fun k e e2 => ?_), ownsRow_kept r2 h2 (fun k e e2 => h.neV.2.1 (by rw [← e2]; exact e)), ownsRow_kept r3 h2 (fun k e e2 => h.neV.2.2 (by rw [← e2]; exact e)), ?_, ?_, h.d23, h.lo, h.t4⟩, (hk.mono (fun k _ e => Or.inr (Or.inl e))).trans (h2.mono (fun k _ e => Or.inl e))⟩
  · rw [heap_setCell_at hb]; rfl
  · obtain ⟨cur, hc⟩ := ownsRow_block hr e
    rw [e2] at hc
    exact blk_ne hb hc h.t4 rfl
  · intro k e e2
    rcases hv k e with h3 | h3
    · exact h.d12 k h3 e2
    · have := (h.r2.lt k e2).2; omega
  · intro k e e2
    rcases hv k e with h3 | h3
    · exact h.d13 k h3 e2
    · have := (h.r3.lt k e2).2; omega

theorem apart_kinds {w : World} {B0 B t V : Nat} {nv mv lv : Value} {a b c : List Bool} {s : SP} (hs : SpaceAt w B0 s) (ht : Tri w B t V nv mv lv a b c) (h44 : t = 44 ∨ t = 73) {k : Nat} (h1 : s.has k) (h2 : triHas V nv mv lv k) : False := by
  obtain ⟨c1, t1, p1, e1, k1⟩ := hs.has_kind h1
  obtain ⟨c2, t2, e2, k2⟩ := ht.has_kind h2
  rw [e1] at e2
  simp at e2
  have e3 := e2.2.1
  rcases h44 with rfl | rfl <;> rcases k1 with rfl | rfl | rfl <;> rcases k2 with rfl | rfl <;> exact absurd e3 (by decide)

/-- A space and what its caller knows of it. -/
structure HI (w0 w : World) (B n : Nat) (T : TR) (b : Bk) : Prop where
  one : One w0 w B n b
  tri : TriBk w w0.heap.size 44 T b

section
variable {w0 w w' : World} {B n : Nat} {T T' : TR} {b b' c : Bk}
theorem one_tri (h1 : One w0 w B n c) (h2 : TriBk w w0.heap.size 44 T b) (hk : Keeps T.has w w') : One w0 w' B n c :=
  ⟨h1.one.kept hk (fun _ e1 e2 => apart_kinds h1.one h2.tri (Or.inl rfl) e1 (TR.has_of e2)), h1.bn, h1.below.trans (hk.below h1.below.size h2.has_lo)⟩
theorem tri_one (h1 : One w0 w B n c) (h2 : TriBk w w0.heap.size 44 T b) (hk : Keeps (newSP B n).own w w') : TriBk w' w0.heap.size 44 T b :=
  h2.kept hk (fun _ e1 e2 => apart_kinds h1.one h2.tri (Or.inl rfl) (SP.own_has e2) (TR.has_of e1))

theorem HI.give (h : HI w0 w B n T b) (k : Int) : Calls Try.prog 38 #[.pointer (some ⟨B + 6, 0, none⟩), .int .i64 k] w fun e w' => e = .returned (.int .i64 (b.giveE k)) ∧ One w0 w' B n (b.give k) ∧ TriBk w' w0.heap.size 44 T b := by
  refine (give_any w _ _ h.one.one k).mono ?_
  rintro e w' ⟨rfl, h1, h2⟩
  rw [h.one.bk1] at h1 ⊢
  exact ⟨rfl, h.one.upd (by rw [Bk.give_n, h.one.bn]) h1 h2, tri_one h.one h.tri h2⟩
theorem HI.take (h : HI w0 w B n T b) : Calls Try.prog 36 #[.pointer (some ⟨B + 6, 0, none⟩)] w fun e w' => e = .returned (.tuple #[.int .i64 b.takeN, .int .i64 b.takeE]) ∧ One w0 w' B n b.take ∧ TriBk w' w0.heap.size 44 T b := by
  refine (take_any w _ _ h.one.one).mono ?_
  rintro e w' ⟨rfl, h1, h2⟩
  rw [h.one.bk1] at h1 ⊢
  exact ⟨rfl, h.one.upd (by rw [Bk.take_n, h.one.bn]) h1 h2, tri_one h.one h.tri h2⟩
theorem HI.settle (h : HI w0 w B n T b) : Calls Try.prog 27 #[.pointer (some ⟨B + 6, 0, none⟩)] w fun e w' => e = .returned (.tuple #[]) ∧ One w0 w' B n b.settle ∧ TriBk w' w0.heap.size 44 T b := by
  refine (settle_bk w _ _ h.one.one).mono ?_
  rintro e w' ⟨rfl, h1, h2⟩
  rw [h.one.bk1] at h1
  exact ⟨rfl, h.one.upd h.one.bn h1 h2, tri_one h.one h.tri h2⟩
theorem HI.mark (h : HI w0 w B n T b) : Calls Try.prog 40 #[.pointer (some ⟨B + 6, 0, none⟩)] w fun e w' => e = .returned (.tuple #[]) ∧ One w0 w' B n b.setMark ∧ TriBk w' w0.heap.size 44 T b := by
  refine (mark_bk w _ _ h.one.one).mono ?_
  rintro e w' ⟨rfl, h1, h2⟩
  rw [h.one.bk1] at h1
  exact ⟨rfl, h.one.upd h.one.bn h1 h2, tri_one h.one h.tri h2⟩
theorem HI.undo (h : HI w0 w B n T b) : Calls Try.prog 42 #[.pointer (some ⟨B + 6, 0, none⟩)] w fun e w' => e = .returned (.tuple #[]) ∧ One w0 w' B n b.undo ∧ TriBk w' w0.heap.size 44 T b := by
  refine (undo_bk w _ _ h.one.one).mono ?_
  rintro e w' ⟨rfl, h1, h2⟩
  rw [h.one.bk1] at h1
  exact ⟨rfl, h.one.upd h.one.bn h1 h2, tri_one h.one h.tri h2⟩

end
end Go.Proofs.Ytdkihkgmldnpmab
