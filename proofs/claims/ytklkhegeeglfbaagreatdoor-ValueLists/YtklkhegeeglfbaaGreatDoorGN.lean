import Derived.Test.YtklkhegeeglfbaaGreatDoorGM
namespace Go.Proofs.YtklkhegeeglfbaaGreatDoor
open Go.RowKit Go.Maps

section
variable {w wx w' : World} {B b : Nat} {a : BookA} {P R : List Rowp}
theorem Mid.start0 {e : TypeId} {z n : Nat} {v : Value} {X : List Value} {E its : List Rowp} (hA : BookAt w B b a (solo e z n v X :: E) its) (hk : ∀ p ∈ E ++ its, p.e ≠ 46) (he : e ≠ 46) (hB : B ≤ w.heap.size) : Mid w w B b a [solo e z n v X] (E ++ its) := by
  have hkk : ∀ p ∈ a.rows ++ (solo e z n v X :: E ++ its), p.e ≠ 46 := fun p hp => by
    rcases List.mem_append.1 hp with hp | hp
    · exact rows_kind a p hp
    · rcases List.mem_cons.1 hp with rfl | hp
      · exact he
      · exact hk p hp
  have hp : (a.rows ++ (solo e z n v X :: E ++ its)).Perm ([solo e z n v X] ++ (a.rows ++ (E ++ its))) := List.perm_middle
  exact ⟨hA.box, hA.sack.perm hp, Keeps.refl _ _, fun p hq => hkk p (hp.mem_iff.2 hq), hA.new, hB⟩
theorem Mid.setN (h : Mid w wx B b a P R) : Mid w (wx.setCell ⟨b, 6, none⟩ (.int .i64 ((a.N : Int) + 1))) B b { a with N := a.N + 1 } P R := by
  have hk1 := keeps_set wx b 6 (.int .i64 ((a.N : Int) + 1))
  exact ⟨heap_setCell_at h.box _, h.sack.book h.box h.kinds hk1, h.keeps.trans (hk1.mono (fun q _ e => by rw [e]; exact h.new)), h.kinds, h.new, Nat.le_trans h.base (by simp)⟩
theorem Mid.putAt {e : TypeId} {z n j : Nat} {v : Value} {X X' : List Value} (h : Mid w wx B b a P R) (hj : P[j]? = some (solo e z n v X)) (h' : w'.ownsRow B e z v n X') (hk : Keeps (fun q => v.ownBlock = some q) wx w') : Mid w w' B b a (P.set j (solo e z n v X')) R := by
  have hm := List.mem_of_getElem? hj
  have ho := (h.ahead hm).x
  have he : e ≠ 46 := h.kinds _ (List.mem_append_left _ hm)
  have hlt := get_lt hj
  have hs := h.sack.putAt (i := j) (by rw [List.getElem?_append_left hlt]; exact hj) h' hk
  rw [List.set_append_left _ _ hlt] at hs
  refine ⟨own_box ho h.box he hk, hs, h.keeps.trans (hk.mono (fun q _ e' => own_geO ho e')), fun p hp => ?_, h.new, Nat.le_trans h.base hk.size⟩
  rcases List.mem_append.1 hp with hp | hp
  · rcases List.mem_or_eq_of_mem_set hp with hp | rfl
    · exact h.kinds p (List.mem_append_left _ hp)
    · exact he
  · exact h.kinds p (List.mem_append_right _ hp)
end
theorem one_box (w : World) (u : Value) (t : TypeId) : (w.alloc (.cells #[u] t)).ownsRow w.heap.size t 1 (.slice (some ⟨w.heap.size, 0, none⟩) 1 1) 1 [u] :=
  World.ownsRow_lit (base := w.heap.size) (e := t) (size := 1) w #[u] 1 (Nat.le_refl _) (by unfold maxLen; omega) (by simp)
theorem fld_own (w : World) (m : FieldA) : (w.alloc (.cells #[str m.name, .int .i64 m.type, .bool m.opt] 69)).ownsRow w.heap.size 69 3 (.slice (some ⟨w.heap.size, 0, none⟩) 1 1) 1 (fcs [m]) :=
  World.ownsRow_lit (base := w.heap.size) (e := 69) (size := 3) w #[str m.name, .int .i64 m.type, .bool m.opt] 1 (Nat.le_refl _) (by unfold maxLen; omega) (by simp)
def mF (N : Nat) : FieldA := ⟨markT, 100 + ((N : Int) + 1), false⟩
/-- The rows that Book.fields lays ahead: the mark, the list's box. -/
def aheadF (h : Nat) (v : Value) (m : FieldA) : List Rowp := [solo 69 3 1 (.slice (some ⟨h + 1, 0, none⟩) 1 1) (fcs [m]), solo 26 1 1 (.slice (some ⟨h, 0, none⟩) 1 1) [v]]
theorem Mid.startF {w : World} {B b : Nat} {a : BookA} {n : Nat} {v : Value} {X : List Value} {E its : List Rowp} (hA : BookAt w B b a (solo 69 3 n v X :: E) its) (hk : ∀ p ∈ E ++ its, p.e ≠ 46) (hB : B ≤ w.heap.size) :
    Mid w (((w.setCell ⟨b, 6, none⟩ (.int .i64 ((a.N : Int) + 1))).alloc (.cells #[v] 26)).alloc (.cells #[str markT, .int .i64 (100 + ((a.N : Int) + 1)), .bool false] 69)) B b { a with N := a.N + 1 } (aheadF w.heap.size v (mF a.N) ++ [solo 69 3 n v X]) (E ++ its) := by
  have h1 := (Mid.start0 hA hk (by decide) hB).setN
  have h2 := h1.newRow ((Keeps.refl (fun _ => False) _).alloc _) (one_box _ v 26) (by decide) (by decide)
  have hs1 : (w.setCell ⟨b, 6, none⟩ (.int .i64 ((a.N : Int) + 1))).heap.size = w.heap.size := by simp
  have hsz : ((w.setCell ⟨b, 6, none⟩ (.int .i64 ((a.N : Int) + 1))).alloc (.cells #[v] 26)).heap.size = w.heap.size + 1 := by simp
  have ho := fld_own ((w.setCell ⟨b, 6, none⟩ (.int .i64 ((a.N : Int) + 1))).alloc (.cells #[v] 26)) (mF a.N)
  have h3 := h2.newRow ((Keeps.refl (fun _ => False) _).alloc _) ho (by decide) (by decide)
  rw [hsz, hs1] at h3
  exact h3
theorem markF_cells {w : World} {B h : Nat} {v : Value} {m : FieldA} {L : List Rowp} (hs : ∀ p ∈ aheadF h v m ++ L, p.at_ w B) : w.cell? ⟨h, 0, none⟩ = some v ∧ w.cell? ⟨h + 1, 0, none⟩ = some (str m.name) ∧ w.cell? ⟨h + 1, 1, none⟩ = some (.int .i64 m.type) ∧ w.cell? ⟨h + 1, 2, none⟩ = some (.bool m.opt) := by
  have h1 := (hs _ (List.mem_append_left _ (List.mem_cons_self ..))).x
  have h2 := (hs _ (List.mem_append_left _ (List.mem_cons_of_mem _ (List.mem_cons_self ..)))).x
  exact ⟨own_at h2 rfl, own_at h1 rfl, own_at h1 rfl, own_at h1 rfl⟩
end Go.Proofs.YtklkhegeeglfbaaGreatDoor
