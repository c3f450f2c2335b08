import Derived.Test.YtcmlfbmecbkdoaaDoorC
namespace Go.Proofs.YtcmlfbmecbkdoaaDoor
open Go.RowKit Go.Maps

def fcs (l : List FieldA) : List Value := l.flatMap FieldA.cs
def vcs (l : List ValA) : List Value := l.flatMap ValA.cs
theorem flat_get {α : Type} (g : α → List Value) (hg : ∀ x, (g x).length = 3) : ∀ (l : List α) (i : Nat) (x : α) (j : Nat), l[i]? = some x → j < 3 → (l.flatMap g)[i * 3 + j]? = (g x)[j]?
  | [], i, x, j, h, _ => by simp at h
  | y :: r, 0, x, j, h, hj => by
    simp at h; subst h
    simp only [List.flatMap_cons, Nat.zero_mul, Nat.zero_add]
    rw [List.getElem?_append_left (by rw [hg]; exact hj)]
  | y :: r, i + 1, x, j, h, hj => by
    simp only [List.flatMap_cons]
    rw [List.getElem?_append_right (by rw [hg]; omega), hg, show (i + 1) * 3 + j - 3 = i * 3 + j by omega]
    exact flat_get g hg r i x j (by simpa using h) hj
theorem flat_length {α : Type} (g : α → List Value) (hg : ∀ x, (g x).length = 3) : ∀ l : List α, (l.flatMap g).length = l.length * 3
  | [] => rfl
  | x :: r => by simp only [List.flatMap_cons, List.length_append, List.length_cons, hg, flat_length g hg r]; omega
theorem fcs_length (l : List FieldA) : (fcs l).length = l.length * 3 := flat_length _ (fun _ => rfl) l
theorem vcs_length (l : List ValA) : (vcs l).length = l.length * 3 := flat_length _ (fun _ => rfl) l

/-- Fields, values, bytes in a slice. -/
def FldsAt (w : World) (v : Value) (l : List FieldA) : Prop := RowAt w v l.length (fcs l)
def ValsAt (w : World) (v : Value) (l : List ValA) : Prop := RowAt w v l.length (vcs l)
def BytesAt (w : World) (v : Value) (l : Txt) : Prop := RowAt w v l.length (bs l)

theorem FldsAt.cells {w : World} {v : Value} {l : List FieldA} (h : FldsAt w v l) (h0 : 0 < l.length) :
    ∃ b off cap, v = .slice (some ⟨b, off, none⟩) l.length cap ∧ b < w.heap.size ∧ ∀ i f, l[i]? = some f → w.cell? ⟨b, off + i * 3, none⟩ = some (str f.name) ∧ w.cell? ⟨b, off + i * 3 + 1, none⟩ = some (.int .i64 f.type) ∧ w.cell? ⟨b, off + i * 3 + 2, none⟩ = some (.bool f.opt) := by
  obtain ⟨b, off, cap, e, hb, hc⟩ := RowAt.cells h h0
  refine ⟨b, off, cap, e, hb, fun i f hf => ?_⟩
  have k := fun j hj => flat_get FieldA.cs (fun _ => rfl) l i f j hf hj
  have k0 := hc (i * 3 + 0) (str f.name) (k 0 (by omega))
  have k1 := hc (i * 3 + 1) (.int .i64 f.type) (k 1 (by omega))
  have k2 := hc (i * 3 + 2) (.bool f.opt) (k 2 (by omega))
  exact ⟨k0, k1, k2⟩
theorem ValsAt.cells {w : World} {v : Value} {l : List ValA} (h : ValsAt w v l) (h0 : 0 < l.length) :
    ∃ b off cap, v = .slice (some ⟨b, off, none⟩) l.length cap ∧ b < w.heap.size ∧ ∀ i f, l[i]? = some f → w.cell? ⟨b, off + i * 3, none⟩ = some (.int .i64 f.kind) ∧ w.cell? ⟨b, off + i * 3 + 1, none⟩ = some (.int .i64 f.n) ∧ w.cell? ⟨b, off + i * 3 + 2, none⟩ = some (str f.s) := by
  obtain ⟨b, off, cap, e, hb, hc⟩ := RowAt.cells h h0
  refine ⟨b, off, cap, e, hb, fun i f hf => ?_⟩
  have k := fun j hj => flat_get ValA.cs (fun _ => rfl) l i f j hf hj
  have k0 := hc (i * 3 + 0) (.int .i64 f.kind) (k 0 (by omega))
  have k1 := hc (i * 3 + 1) (.int .i64 f.n) (k 1 (by omega))
  have k2 := hc (i * 3 + 2) (str f.s) (k 2 (by omega))
  exact ⟨k0, k1, k2⟩

/-- How many optional fields there are. -/
def opts (l : List FieldA) : Nat := (l.filter FieldA.opt).length
def headB (l : List FieldA) : Nat := (opts l + 7) / 8
theorem opts_snoc (l : List FieldA) (f : FieldA) : opts (l ++ [f]) = opts l + (if f.opt then 1 else 0) := by
  unfold opts
  rw [List.filter_append, List.length_append]
  cases h : f.opt <;> simp [h]
theorem opts_le (l : List FieldA) : opts l ≤ l.length := List.length_filter_le _ _

theorem FldsAt.keepF {w w' : World} {v : Value} {l : List FieldA} (h : FldsAt w v l) (hk : Keeps (fun _ => False) w w') : FldsAt w' v l := RowAt.keepF h hk
theorem ValsAt.keepF {w w' : World} {v : Value} {l : List ValA} (h : ValsAt w v l) (hk : Keeps (fun _ => False) w w') : ValsAt w' v l := RowAt.keepF h hk
theorem BytesAt.keepF {w w' : World} {v : Value} {l : Txt} (h : BytesAt w v l) (hk : Keeps (fun _ => False) w w') : BytesAt w' v l := RowAt.keepF h hk

/-- A new block: what holds of it, whatever comes behind. -/
theorem boxed (w : World) (c : Array Value) (t : TypeId) : Hid (Keeps (fun _ => False) w (w.alloc (.cells c t))) ∧ w.heap.size < (w.alloc (.cells c t)).heap.size ∧ ∀ j x, c[j]? = some x → (w.alloc (.cells c t)).cell? ⟨w.heap.size, j, none⟩ = some x :=
  ⟨(Keeps.refl _ _).alloc _, by simp, fun j x hx => by rw [cell_of_blk (heap_alloc_new w _)]; exact hx⟩

end Go.Proofs.YtcmlfbmecbkdoaaDoor
