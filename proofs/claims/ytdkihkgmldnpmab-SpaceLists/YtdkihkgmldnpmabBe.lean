import Derived.Test.YtdkihkgmldnpmabBd
namespace Go.Proofs.Ytdkihkgmldnpmab
open Go.RowKit Go.Maps

theorem kD (w : World) (V j : Nat) (v : Value) : Keeps (fun k => k = V) w (w.setCell ⟨V, j, none⟩ v) := Keeps.setCell (F := fun k => k = V) (Keeps.refl _ w) (p := ⟨V, j, none⟩) (fun _ => rfl) v
theorem is_append (a b : List Int) : is (a ++ b) = is a ++ is b := by simp [is]
theorem bs_append (a b : List Int) : bs (a ++ b) = bs a ++ bs b := by simp [bs]

theorem own_form {w : World} {B : Nat} {e : TypeId} {z : Nat} {v : Value} {n : Nat} {xs : List Value} (h : w.ownsRow B e z v n xs) : ∃ ao cap, v = .slice ao n cap ∧ ∀ a, ao = some a → a.off = 0 ∧ a.spot = none := by
  rcases h.2 with ⟨rfl, rfl⟩ | ⟨g, cap, cur, rfl, _⟩
  · exact ⟨_, _, rfl, fun _ h => by cases h⟩
  · exact ⟨_, _, rfl, fun _ h => by cases h; exact ⟨rfl, rfl⟩⟩

/-- A slice whose row has grown, in place or not, reads as it did. -/
theorem cells_grown {w w' : World} {B e : Nat} {ao : Option Addr} {n cap : Nat} {L : List Value} (hR : Cells w (.slice ao n cap) L) (ho : ∀ a, ao = some a → a.off = 0 ∧ a.block < w.heap.size) {g' cap' k : Nat} {more : List Value}
    (hrow' : w'.ownsRow B e 1 (.slice (some ⟨g', 0, none⟩) k cap') k (L ++ more)) {row : Option Nat} (hg : w.grownBy w' row) (hr : ∀ q, row = some q → q = g') : Cells w' (.slice ao n cap) L := by
  refine ⟨hR.form, fun h0 => ?_⟩
  obtain ⟨b, off, cap1, e, hb, hc⟩ := hR.cells h0
  refine ⟨b, off, cap1, e, Nat.lt_of_lt_of_le hb hg.size, fun j x hx => ?_⟩
  have e' := e
  simp at e'
  obtain ⟨h1, h2⟩ := ho _ e'.1
  simp only at h1 h2
  subst h1
  by_cases hb' : b = g'
  · subst hb'
    have := (rowC hrow').2.2 j x (by
      have hj := (List.getElem?_eq_some_iff.1 hx).1
      rw [List.getElem?_append_left hj]; exact hx)
    simpa using this
  · rw [hg.cell_far ⟨b, 0 + j, none⟩ h2 (fun e => hb' (hr b e.symm))]
    exact hc j x hx
theorem ownsRow_grown {w w' : World} {base : Nat} {e : TypeId} {size : Nat} {v : Value} {n : Nat} {xs : List Value} (h : w.ownsRow base e size v n xs) {row : Option Nat} (hg : w.grownBy w' row) (hr : ∀ q, v.ownBlock = some q → row ≠ some q) : w'.ownsRow base e size v n xs := by
  refine ⟨h.1, ?_⟩
  rcases h.2 with hn | ⟨g, cap, cur, rfl, hb, hgg, hrest⟩
  · exact Or.inl hn
  · exact Or.inr ⟨g, cap, cur, rfl, hb, (hg.block g (lt_of_block hgg) (fun e => hr g rfl e.symm)).trans hgg, hrest⟩

theorem mark_is (l : List Int) (k : Nat) (M : Int) (hk : k < l.length) : (is (List.replicate k M ++ l.drop k)).set k (.int .i64 M) = is (List.replicate (k + 1) M ++ l.drop (k + 1)) := by
  have h1 : l.drop k = l[k] :: l.drop (k + 1) := List.drop_eq_getElem_cons hk
  rw [h1, is_append, is_append, List.set_append_right _ _ (by simp [is]), List.replicate_succ']
  simp only [is, List.map_append, List.map_cons, List.map_nil, List.length_map, List.length_replicate, Nat.sub_self, List.set_cons_zero, List.append_assoc, List.cons_append, List.nil_append]
theorem mark_bs (l : List Int) (k : Nat) (M : Int) (hk : k < l.length) : (bs (List.replicate k M ++ l.drop k)).set k (.int .u8 M) = bs (List.replicate (k + 1) M ++ l.drop (k + 1)) := by
  have h1 : l.drop k = l[k] :: l.drop (k + 1) := List.drop_eq_getElem_cons hk
  rw [h1, bs_append, bs_append, List.set_append_right _ _ (by simp [bs]), List.replicate_succ']
  simp only [bs, List.map_append, List.map_cons, List.map_nil, List.length_map, List.length_replicate, Nat.sub_self, List.set_cons_zero, List.append_assoc, List.cons_append, List.nil_append]
theorem more_is (n k : Nat) (M M2 : Int) : is (List.replicate n M ++ List.replicate k M2) ++ [.int .i64 M2] = is (List.replicate n M ++ List.replicate (k + 1) M2) := by
  rw [List.replicate_succ', ← List.append_assoc, is_append (List.replicate n M ++ List.replicate k M2)]; rfl
theorem more_bs (n k : Nat) (M M2 : Int) : bs (List.replicate n M ++ List.replicate k M2) ++ [.int .u8 M2] = bs (List.replicate n M ++ List.replicate (k + 1) M2) := by
  rw [List.replicate_succ', ← List.append_assoc, bs_append (List.replicate n M ++ List.replicate k M2)]; rfl

/-- An append to one of the Book's lists, and the store behind it. -/
theorem field_step {wr w3 : World} {D : Nat} {cs : Array Value} {B : Nat} {e : TypeId} {bv : Value} {bl : List Value} {p : Value} {o : Obj} {g1 cap1 len : Nat} (j : Nat) (hD : wr.heap[D]? = some (.cells cs 35 (0, 0))) (ne : bv.ownBlock ≠ some D)
    (hrb1 : w3.ownsRow B e 1 (.slice (some ⟨g1, 0, none⟩) len cap1) len (bl ++ [p])) (hgr : (wr.alloc o).grownBy w3 bv.ownBlock) (hat : bv.ownBlock = some g1 ∨ g1 = wr.heap.size + 1) :
    w3.heap[D]? = some (.cells cs 35 (0, 0)) ∧ (w3.setCell ⟨D, j, none⟩ (.slice (some ⟨g1, 0, none⟩) len cap1)).heap[D]? = some (.cells (cs.setIfInBounds j (.slice (some ⟨g1, 0, none⟩) len cap1)) 35 (0, 0)) ∧
    (w3.setCell ⟨D, j, none⟩ (.slice (some ⟨g1, 0, none⟩) len cap1)).ownsRow B e 1 (.slice (some ⟨g1, 0, none⟩) len cap1) len (bl ++ [p]) ∧ Keeps (fun k => k = D ∨ bv.ownBlock = some k) wr (w3.setCell ⟨D, j, none⟩ (.slice (some ⟨g1, 0, none⟩) len cap1)) := by
  have hlt := lt_of_block hD
  have h3 : w3.heap[D]? = some (.cells cs 35 (0, 0)) := by
    rw [hgr.block D (by simp; omega) (fun e => ne e.symm), Below.heap_alloc _ _ _ hlt]; exact hD
  have hg1D : g1 ≠ D := by
    rcases hat with h | h
    · exact fun e => ne (e ▸ h)
    · omega
  have hk3 : Keeps (fun k => k = D ∨ bv.ownBlock = some k) wr w3 := ((Keeps.refl _ wr).alloc o).grown hgr (fun k e _ => Or.inr e)
  refine ⟨h3, heap_setCell_at h3 _, ownsRow_kept hrb1 (kD w3 D j _) (fun q hq => ?_), hk3.trans ((kD w3 D j _).mono (fun _ _ e => Or.inl e))⟩
  cases hq
  exact hg1D

end Go.Proofs.Ytdkihkgmldnpmab
