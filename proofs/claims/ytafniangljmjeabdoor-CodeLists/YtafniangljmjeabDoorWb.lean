import Derived.Test.YtafniangljmjeabDoorWa
import Derived.Deep.Slices
namespace Go.Proofs.YtafniangljmjeabDoor
open Go.ChangeShapes Go.WideShapes Go.ChangeAt Go.RowKit Go.Deep

theorem i64_hi {x : Int} (h : (Lit.int .i64 x).wf = true) : -9223372036854775808 ≤ x ∧ x ≤ 9223372036854775807 := by
  simp [Lit.wf, IntKind.min, IntKind.max, IntKind.signed, IntKind.bits] at h
  omega
theorem e52 : Tryd.prog.cellsOf 54 = 3 := by kernel_rfl
theorem b52 : Tryd.prog.bytesOf 54 = 32 := by kernel_rfl
theorem b5 : Tryd.prog.bytesOf 5 = 1 := by kernel_rfl
instance : Inhabited ValA := ⟨⟨0, 0, []⟩⟩
theorem flat_at {α : Type} (g : α → List Value) (sz : Nat) (hs : 0 < sz) (hg : ∀ x, (g x).length = sz) : ∀ (l : List α) (j : Nat), (l.flatMap g)[j]? = (l[j / sz]?).bind fun x => (g x)[j % sz]?
  | [], j => by simp
  | y :: r, j => by
    simp only [List.flatMap_cons]
    by_cases h : j < sz
    · rw [List.getElem?_append_left (by rw [hg]; exact h), Nat.div_eq_of_lt h, Nat.mod_eq_of_lt h]
      rfl
    · rw [List.getElem?_append_right (by rw [hg]; omega), hg, flat_at g sz hs hg r (j - sz)]
      have h1 : j / sz = (j - sz) / sz + 1 := by rw [Nat.div_eq j sz, if_pos ⟨hs, by omega⟩]
      have h2 : j % sz = (j - sz) % sz := Nat.mod_eq_sub_mod (by omega)
      rw [h1, h2]
      rfl

section
variable {H : Type} {enc : TypeId × Value → H} {W : World} {fuel : Nat}

/-- A slice, opened element by element. -/
theorem rowsOf {α : Type} [Inhabited α] (g : α → List Value) (sz : Nat) (hs : 0 < sz) (hg : ∀ x, (g x).length = sz) {t e : TypeId} (ht : Tryd.prog.underlying t = some (.slice e)) (hc : Tryd.prog.cellsOf e = sz) {Q : α → Prop}
    (el : ∀ (fuel : Nat) (cs : List Value) (x : DataW H × List MemPlace), DataW.trod enc Tryd.prog W 0 (fun _ => true) true fuel e cs = some x → ∃ a, cs = g a ∧ Q a)
    {c : Value} {x : DataW H × List MemPlace} (h : DataW.trod enc Tryd.prog W 0 (fun _ => true) true fuel t [c] = some x) :
    ∃ l : List α, RowAt W c l.length (l.flatMap g) ∧ ∀ a ∈ l, Q a := by
  rcases open_slice ht h with ⟨hcs, _⟩ | ⟨a, len, cap, m, n, D, Pl, hcs, _, hl, hm, hmm, hx, hel⟩
  · simp at hcs
    subst hcs
    exact ⟨[], ⟨⟨_, _, rfl⟩, fun h0 => by simp at h0, fun ao m cap e => by simp at e; omega⟩, fun _ h => by cases h⟩
  · simp at hcs
    subst hcs
    simp at hmm
    rw [hc] at hel
    have hev : ∀ i, i < len → ∃ p : α, (∀ j v, (g p)[j]? = some v → W.cell? ((a.add (i * sz)).add j) = some v) ∧ Q p := by
      intro i hi
      obtain ⟨cs', hcs', htr⟩ := hel i (by omega)
      obtain ⟨p, rfl, hq⟩ := el _ _ _ htr
      obtain ⟨_, _, hcc⟩ := World.cells?_some hcs'
      refine ⟨p, fun j v hv => ?_, hq⟩
      have hj := (List.getElem?_eq_some_iff.1 hv).1
      have := hcc j (by rw [hg] at hj; omega)
      rw [this]
      simpa using hv
    obtain ⟨f, hf⟩ := choose_lt hev
    refine ⟨(List.range len).map f, ⟨⟨_, _, by simp; exact ⟨rfl, rfl⟩⟩, fun h0 => ?_, fun ao m cap' e => by simp at e; omega⟩, ?_⟩
    · simp at h0
      have hg0 : 0 < (g (f 0)).length := by rw [hg]; exact hs
      have hc0 := (hf 0 h0).1 0 _ (List.getElem?_eq_getElem hg0)
      have hspot : a.spot = none := by
        have := World.cell?_spot hc0
        simpa [Addr.add] using this
      obtain ⟨b, off, spot⟩ := a
      simp at hspot
      subst hspot
      refine ⟨b, off, cap, by simp, ?_, fun j v hv => ?_⟩
      · have := World.block_lt_of_cell? W _ hc0
        simpa [Addr.add] using this
      · rw [flat_at g sz hs hg] at hv
        cases hi : ((List.range len).map f)[j / sz]? with
        | none => rw [hi] at hv; cases hv
        | some p =>
          rw [hi] at hv
          have hil : j / sz < len := by
            have := (List.getElem?_eq_some_iff.1 hi).1
            simpa using this
          have hpe : f (j / sz) = p := by simpa [hil] using hi
          have := (hf (j / sz) hil).1 (j % sz) v (by rw [hpe]; exact hv)
          simp only [Addr.add_lit] at this
          rw [show off + j = off + j / sz * sz + j % sz by have := Nat.div_add_mod j sz; rw [Nat.mul_comm] at this; omega]
          exact this
    · intro y hy
      obtain ⟨i, hi, rfl⟩ := List.mem_map.1 hy
      exact (hf i (List.mem_range.1 hi)).2


set_option maxRecDepth 100000 in
theorem ins_read (fuel : Nat) (cs : List Value) (x : DataW H × List MemPlace) (h : DataW.trod enc Tryd.prog W 0 (fun _ => true) true fuel 54 cs = some x) : ∃ f : ValA, cs = f.cs ∧ (-9223372036854775808 ≤ f.n ∧ f.n ≤ 9223372036854775807) := by
  obtain ⟨xs, m, hm, _, hl, hlen, hf⟩ := DataW.trod_struct Tryd.underlying54 h
  have hl' : cs.length = 3 := hl.trans e52
  match xs, hlen, cs, hl' with
  | [y0, y1, y2], _, [c0, c1, c2], _ =>
    have h0 : DataW.trod enc Tryd.prog W 0 (fun _ => true) true m 3 (([c0, c1, c2].drop 0).take (Tryd.prog.cellsOf 3)) = some y0 := hf 0 _ rfl
    have h1 : DataW.trod enc Tryd.prog W 0 (fun _ => true) true m 2 (([c0, c1, c2].drop 1).take (Tryd.prog.cellsOf 2)) = some y1 := hf 1 _ rfl
    have h2 : DataW.trod enc Tryd.prog W 0 (fun _ => true) true m 9 (([c0, c1, c2].drop 2).take (Tryd.prog.cellsOf 9)) = some y2 := hf 2 _ rfl
    rw [e3] at h0
    rw [e2] at h1
    rw [e9] at h2
    simp only [List.drop_zero, List.take_succ_cons, List.take_zero, List.drop_succ_cons] at h0 h1 h2
    obtain ⟨k, q0, _, _⟩ := DataW.trod_int Tryd.underlying3 h0
    obtain ⟨i, q1, _, w1⟩ := DataW.trod_int Tryd.underlying2 h1
    obtain ⟨s, q2, _, _⟩ := DataW.trod_string Tryd.underlying9 h2
    simp at q0 q1 q2
    exact ⟨⟨k, i, s.data.toList⟩, by rw [q0, q1, q2, str_of]; rfl, i64_hi w1⟩
theorem byte_read (fuel : Nat) (cs : List Value) (x : DataW H × List MemPlace) (h : DataW.trod enc Tryd.prog W 0 (fun _ => true) true fuel 5 cs = some x) : ∃ f : UInt8, cs = [Value.int .u8 (num f)] ∧ True := by
  obtain ⟨k, q0, _, w0⟩ := DataW.trod_int Tryd.underlying5 h
  have hk : 0 ≤ k ∧ k ≤ 255 := by
    simp [Lit.wf, IntKind.min, IntKind.max, IntKind.signed, IntKind.bits] at w0
    omega
  exact ⟨u8 k, by rw [q0, u8_num hk.1 hk.2], trivial⟩
theorem flat_bs : ∀ l : Txt, l.flatMap (fun f : UInt8 => [Value.int .u8 (num f)]) = bs l
  | [] => rfl
  | a :: r => by
    have := flat_bs r
    simp only [List.flatMap_cons, this]
    rfl
theorem len32 {fuel : Nat} {c : Value} {x : DataW H × List MemPlace} (h : DataW.trod enc Tryd.prog W 0 (fun _ => true) true fuel 25 [c] = some x) (hw : ∀ n ∈ x.1.weights Tryd.prog 25, n ≤ reachBytes) {n : Nat} {xs : List Value} (hr : RowAt W c n xs) : n ≤ 4398046511104 := by
  obtain ⟨ao, cp, hform⟩ := hr.form
  rcases DataW.trod_slice Tryd.underlying25 h with ⟨hcs, _⟩ | ⟨a, len, cap, elems, rest, n', hn, hcs, hxx, _, hlc, _, hel, _, _, _⟩
  · simp at hcs
    rw [hcs] at hform
    simp at hform
    omega
  · have := hw ((elems.length + rest.length) * 32) (by
      rw [hxx]
      simp only [DataW.weights, Tryd.underlying25, List.length_map, b52]
      exact List.mem_cons_self ..)
    unfold reachBytes at this
    simp at hcs
    rw [hcs] at hform
    simp at hform
    omega
theorem len1 {fuel : Nat} {c : Value} {x : DataW H × List MemPlace} (h : DataW.trod enc Tryd.prog W 0 (fun _ => true) true fuel 38 [c] = some x) (hw : ∀ n ∈ x.1.weights Tryd.prog 38, n ≤ reachBytes) {n : Nat} {xs : List Value} (hr : RowAt W c n xs) : n ≤ 140737488355328 := by
  obtain ⟨ao, cp, hform⟩ := hr.form
  rcases DataW.trod_slice Tryd.underlying38 h with ⟨hcs, _⟩ | ⟨a, len, cap, elems, rest, n', hn, hcs, hxx, _, hlc, _, hel, _, _, _⟩
  · simp at hcs
    rw [hcs] at hform
    simp at hform
    omega
  · have := hw ((elems.length + rest.length) * 1) (by
      rw [hxx]
      simp only [DataW.weights, Tryd.underlying38, List.length_map, b5]
      exact List.mem_cons_self ..)
    unfold reachBytes at this
    simp at hcs
    rw [hcs] at hform
    simp at hform
    omega
theorem ins_in {fuel : Nat} {c : Value} {x : DataW H × List MemPlace} (h : DataW.trod enc Tryd.prog W 0 (fun _ => true) true fuel 25 [c] = some x) (hw : ∀ n ∈ x.1.weights Tryd.prog 25, n ≤ reachBytes) : ∃ l : List ValA, ValsAt W c l ∧ InR l ∧ l.length ≤ 4398046511104 := by
  obtain ⟨l, hl, hq⟩ := rowsOf ValA.cs 3 (by omega) (fun _ => rfl) Tryd.underlying25 e52 ins_read h
  exact ⟨l, hl, hq, len32 h hw hl⟩
theorem bytes_in {fuel : Nat} {c : Value} {x : DataW H × List MemPlace} (h : DataW.trod enc Tryd.prog W 0 (fun _ => true) true fuel 38 [c] = some x) (hw : ∀ n ∈ x.1.weights Tryd.prog 38, n ≤ reachBytes) : ∃ l : Txt, BytesAt W c l ∧ l.length ≤ 140737488355328 := by
  obtain ⟨l, hl, _⟩ := rowsOf (fun f : UInt8 => [Value.int .u8 (num f)]) 1 (by omega) (fun _ => rfl) Tryd.underlying38 e5 byte_read h
  rw [flat_bs] at hl
  exact ⟨l, hl, len1 h hw hl⟩
end

end Go.Proofs.YtafniangljmjeabDoor
