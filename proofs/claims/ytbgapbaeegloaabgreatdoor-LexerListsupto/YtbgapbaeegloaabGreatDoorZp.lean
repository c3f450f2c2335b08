import Derived.Test.YtbgapbaeegloaabGreatDoorZl
import Derived.Test.YtbgapbaeegloaabGreatDoorZo
import Derived.Deep.Slices
namespace Go.Proofs.YtbgapbaeegloaabGreatDoor
open Go.ChangeShapes Go.WideShapes Go.ChangeAt Go.RowKit Go.Deep

theorem bulk_one {H : Type} (d : DataW H) : 1 ≤ Rows.uptoBulk d := by
  cases d with
  | lit l => cases l <;> simp [Rows.uptoBulk]
  | nil => simp [Rows.uptoBulk]
  | ptr d => simp [Rows.uptoBulk]
  | slice elems spare => simp [Rows.uptoBulk]
  | agg parts => simp [Rows.uptoBulk]
  | iface t d => simp [Rows.uptoBulk]
  | map entries => simp [Rows.uptoBulk]
  | held h => simp [Rows.uptoBulk]
theorem bulk_mem {H : Type} : ∀ {l : List (DataW H)} {d : DataW H}, d ∈ l → Rows.uptoBulk d ≤ Rows.uptoBulkAll l
  | x :: r, d, h => by
    simp only [Rows.uptoBulkAll]
    rcases List.mem_cons.1 h with rfl | h
    · omega
    · have := bulk_mem h
      omega
theorem bulk_len {H : Type} : ∀ l : List (DataW H), l.length ≤ Rows.uptoBulkAll l
  | [] => by simp
  | d :: r => by
    have h1 := bulk_one d
    have h2 := bulk_len r
    simp only [Rows.uptoBulkAll, List.length_cons]
    omega

theorem flat_at {α : Type} (g : α → List Value) (sz : Nat) (hs : 0 < sz) (hg : ∀ x, (g x).length = sz) : ∀ (l : List α) (j : Nat), (l.flatMap g)[j]? = (l[j / sz]?).bind fun x => (g x)[j % sz]?
  | [], j => by simp
  | y :: r, j => by
    simp only [List.flatMap_cons]
    by_cases h : j < sz
    · rw [List.getElem?_append_left (by rw [hg]; exact h), Nat.div_eq_of_lt h, Nat.mod_eq_of_lt h]
      rfl
    · rw [List.getElem?_append_right (by rw [hg]; omega), hg, flat_at g sz hs hg r (j - sz)]
      have h1 : j / sz = (j - sz) / sz + 1 := by rw [Nat.div_eq j sz, if_pos ⟨hs, by omega⟩]
      have h2 : j % sz = (j - sz) % sz := Nat.mod_eq_sub_mod (by omega)
      rw [h1, h2]
      rfl

section
variable {H : Type} {enc : TypeId × Value → H} {W : World} {fuel : Nat}

/-- A slice, opened element by element. -/
theorem rows_of {α : Type} [Inhabited α] (g : α → List Value) (sz : Nat) (hs : 0 < sz) (hg : ∀ x, (g x).length = sz) {t e : TypeId} (ht : Tryz.prog.underlying t = some (.slice e)) (hc : Tryz.prog.cellsOf e = sz) {Q : α → Prop} {M : Nat}
    (el : ∀ (fuel : Nat) (cs : List Value) (x : DataW H × List MemPlace), DataW.trod enc Tryz.prog W 0 (fun _ => true) true fuel e cs = some x → Rows.uptoBulk x.1 ≤ M → ∃ a, cs = g a ∧ Q a)
    {c : Value} {x : DataW H × List MemPlace} (h : DataW.trod enc Tryz.prog W 0 (fun _ => true) true fuel t [c] = some x) (hb : Rows.uptoBulk x.1 ≤ M) :
    ∃ l : List α, RowAt W c l.length (l.flatMap g) ∧ l.length ≤ M ∧ ∀ a ∈ l, Q a := by
  rcases open_slice ht h with ⟨hcs, _⟩ | ⟨a, len, cap, m, n, D, Pl, hcs, _, hl, hm, hmm, hx, hel⟩
  · simp at hcs
    subst hcs
    exact ⟨[], ⟨⟨_, _, rfl⟩, fun h0 => by simp at h0, fun ao m cap e => by simp at e; omega⟩, by simp, fun _ h => by cases h⟩
  · simp at hcs
    subst hcs
    simp at hmm
    rw [hc] at hel
    rw [hx] at hb
    simp only [Rows.uptoBulk] at hb
    have hlenM : len ≤ M := by
      have := bulk_len ((List.range len).map D)
      simp at this
      omega
    have hev : ∀ i, i < len → ∃ p : α, (∀ j v, (g p)[j]? = some v → W.cell? ((a.add (i * sz)).add j) = some v) ∧ Q p := by
      intro i hi
      obtain ⟨cs', hcs', htr⟩ := hel i (by omega)
      have hbi : Rows.uptoBulk (D i) ≤ M := by
        have := bulk_mem (l := (List.range len).map D) (d := D i) (List.mem_map.2 ⟨i, List.mem_range.2 hi, rfl⟩)
        omega
      obtain ⟨p, rfl, hq⟩ := el _ _ _ htr hbi
      obtain ⟨_, _, hcc⟩ := World.cells?_some hcs'
      refine ⟨p, fun j v hv => ?_, hq⟩
      have hj := (List.getElem?_eq_some_iff.1 hv).1
      have := hcc j (by rw [hg] at hj; omega)
      rw [this]
      simpa using hv
    obtain ⟨f, hf⟩ := choose_lt hev
    refine ⟨(List.range len).map f, ⟨⟨_, _, by simp; exact ⟨rfl, rfl⟩⟩, fun h0 => ?_, fun ao m cap' e => by simp at e; omega⟩, by simpa using hlenM, ?_⟩
    · simp at h0
      have hg0 : 0 < (g (f 0)).length := by rw [hg]; exact hs
      have hc0 := (hf 0 h0).1 0 _ (List.getElem?_eq_getElem hg0)
      have hspot : a.spot = none := by
        have := World.cell?_spot hc0
        simpa [Addr.add] using this
      obtain ⟨b, off, spot⟩ := a
      simp at hspot
      subst hspot
      refine ⟨b, off, cap, by simp, ?_, fun j v hv => ?_⟩
      · have := World.block_lt_of_cell? W _ hc0
        simpa [Addr.add] using this
      · rw [flat_at g sz hs hg] at hv
        cases hi : ((List.range len).map f)[j / sz]? with
        | none => rw [hi] at hv; cases hv
        | some p =>
          rw [hi] at hv
          have hil : j / sz < len := by
            have := (List.getElem?_eq_some_iff.1 hi).1
            simpa using this
          have hpe : f (j / sz) = p := by simpa [hil] using hi
          have := (hf (j / sz) hil).1 (j % sz) v (by rw [hpe]; exact hv)
          simp only [Addr.add_lit] at this
          rw [show off + j = off + j / sz * sz + j % sz by have := Nat.div_add_mod j sz; rw [Nat.mul_comm] at this; omega]
          exact this
    · intro y hy
      obtain ⟨i, hi, rfl⟩ := List.mem_map.1 hy
      exact (hf i (List.mem_range.1 hi)).2
end

section
variable {H : Type} {enc : TypeId × Value → H} {W : World} {fuel : Nat}
theorem Tryz.cells9 : Tryz.prog.cellsOf 9 = 1 := by kernel_rfl
theorem str_of (s : ByteArray) : Value.string s = str s.data.toList := by cases s; simp
theorem text_of {M : Nat} {cs : List Value} {x : DataW H × List MemPlace} (h : DataW.trod enc Tryz.prog W 0 (fun _ => true) true fuel 9 cs = some x) (hb : Rows.uptoBulk x.1 ≤ M) : ∃ t : Txt, cs = [str t] ∧ t.length ≤ M := by
  obtain ⟨s, q1, hs1, _⟩ := DataW.trod_string Tryz.underlying9 h
  rw [hs1] at hb
  simp only [Rows.uptoBulk] at hb
  exact ⟨s.data.toList, by rw [q1, str_of], by simp at hb ⊢; omega⟩
theorem texts_of {c : Value} {x : DataW H × List MemPlace} (h : DataW.trod enc Tryz.prog W 0 (fun _ => true) true fuel 28 [c] = some x) (hb : Rows.uptoBulk x.1 ≤ 1048576) : ∃ l : List Txt, RowAt W c l.length (l.map str) ∧ l.length ≤ 1048576 ∧ ∀ t ∈ l, t.length ≤ 1048576 := by
  obtain ⟨l, h1, h2, h3⟩ := rows_of (α := Txt) (fun t => [str t]) 1 (by omega) (fun _ => rfl) Tryz.underlying28 Tryz.cells9 (Q := fun t => t.length ≤ 1048576) (M := 1048576) (fun _ _ _ h hb => text_of h hb) h hb
  exact ⟨l, by rw [List.map_eq_flatMap]; exact h1, h2, h3⟩
end
end Go.Proofs.YtbgapbaeegloaabGreatDoor
