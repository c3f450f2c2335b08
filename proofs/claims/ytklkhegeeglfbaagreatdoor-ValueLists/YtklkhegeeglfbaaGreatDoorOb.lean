import Derived.Test.YtklkhegeeglfbaaGreatDoorJzaf
import Derived.Test.YtklkhegeeglfbaaGreatDoorJzac
import Derived.Test.YtklkhegeeglfbaaGreatDoorGT
namespace Go.Proofs.YtklkhegeeglfbaaGreatDoor
open Go.ChangeShapes Go.WideShapes Go.ChangeAt Go.RowKit Go.Deep

theorem flat_at {α : Type} (g : α → List Value) (sz : Nat) (hs : 0 < sz) (hg : ∀ x, (g x).length = sz) : ∀ (l : List α) (j : Nat), (l.flatMap g)[j]? = (l[j / sz]?).bind fun x => (g x)[j % sz]?
  | [], j => by simp
  | y :: r, j => by
    simp only [List.flatMap_cons]
    by_cases h : j < sz
    · rw [List.getElem?_append_left (by rw [hg]; exact h), Nat.div_eq_of_lt h, Nat.mod_eq_of_lt h]
      rfl
    · rw [List.getElem?_append_right (by rw [hg]; omega), hg, flat_at g sz hs hg r (j - sz)]
      have h1 : j / sz = (j - sz) / sz + 1 := by rw [Nat.div_eq j sz, if_pos ⟨hs, by omega⟩]
      have h2 : j % sz = (j - sz) % sz := Nat.mod_eq_sub_mod (by omega)
      rw [h1, h2]
      rfl

instance : Inhabited FieldA := ⟨⟨[], 0, false⟩⟩
instance : Inhabited ValA := ⟨⟨0, 0, []⟩⟩

section
variable {H : Type} {enc : TypeId × Value → H} {W : World} {fuel : Nat}

/-- A slice, opened element by element. -/
theorem rowsOf {α : Type} [Inhabited α] (g : α → List Value) (sz : Nat) (hs : 0 < sz) (hg : ∀ x, (g x).length = sz) {t e : TypeId} (ht : Tryz.prog.underlying t = some (.slice e)) (hc : Tryz.prog.cellsOf e = sz) {Q : α → Prop}
    (el : ∀ (fuel : Nat) (cs : List Value) (x : DataW H × List MemPlace), DataW.trod enc Tryz.prog W 0 (fun _ => true) true fuel e cs = some x → ∃ a, cs = g a ∧ Q a)
    {c : Value} {x : DataW H × List MemPlace} (h : DataW.trod enc Tryz.prog W 0 (fun _ => true) true fuel t [c] = some x) :
    ∃ l : List α, RowAt W c l.length (l.flatMap g) ∧ ∀ a ∈ l, Q a := by
  rcases open_slice ht h with ⟨hcs, _⟩ | ⟨a, len, cap, m, n, D, Pl, hcs, _, hl, hm, hmm, hx, hel⟩
  · simp at hcs
    subst hcs
    exact ⟨[], ⟨⟨_, _, rfl⟩, fun h0 => by simp at h0, fun ao m cap e => by simp at e; omega⟩, fun _ h => by cases h⟩
  · simp at hcs
    subst hcs
    simp at hmm
    rw [hc] at hel
    have hev : ∀ i, i < len → ∃ p : α, (∀ j v, (g p)[j]? = some v → W.cell? ((a.add (i * sz)).add j) = some v) ∧ Q p := by
      intro i hi
      obtain ⟨cs', hcs', htr⟩ := hel i (by omega)
      obtain ⟨p, rfl, hq⟩ := el _ _ _ htr
      obtain ⟨_, _, hcc⟩ := World.cells?_some hcs'
      refine ⟨p, fun j v hv => ?_, hq⟩
      have hj := (List.getElem?_eq_some_iff.1 hv).1
      have := hcc j (by rw [hg] at hj; omega)
      rw [this]
      simpa using hv
    obtain ⟨f, hf⟩ := choose_lt hev
    refine ⟨(List.range len).map f, ⟨⟨_, _, by simp; exact ⟨rfl, rfl⟩⟩, fun h0 => ?_, fun ao m cap' e => by simp at e; omega⟩, ?_⟩
    · simp at h0
      have hg0 : 0 < (g (f 0)).length := by rw [hg]; exact hs
      have hc0 := (hf 0 h0).1 0 _ (List.getElem?_eq_getElem hg0)
      have hspot : a.spot = none := by
        have := World.cell?_spot hc0
        simpa [Addr.add] using this
      obtain ⟨b, off, spot⟩ := a
      simp at hspot
      subst hspot
      refine ⟨b, off, cap, by simp, ?_, fun j v hv => ?_⟩
      · have := World.block_lt_of_cell? W _ hc0
        simpa [Addr.add] using this
      · rw [flat_at g sz hs hg] at hv
        cases hi : ((List.range len).map f)[j / sz]? with
        | none => rw [hi] at hv; cases hv
        | some p =>
          rw [hi] at hv
          have hil : j / sz < len := by
            have := (List.getElem?_eq_some_iff.1 hi).1
            simpa using this
          have hpe : f (j / sz) = p := by simpa [hil] using hi
          have := (hf (j / sz) hil).1 (j % sz) v (by rw [hpe]; exact hv)
          simp only [Addr.add_lit] at this
          rw [show off + j = off + j / sz * sz + j % sz by have := Nat.div_add_mod j sz; rw [Nat.mul_comm] at this; omega]
          exact this
    · intro y hy
      obtain ⟨i, hi, rfl⟩ := List.mem_map.1 hy
      exact (hf i (List.mem_range.1 hi)).2

theorem trod_s3 {P : Program} {t : TypeId} {f0 f1 f2 : Field} {cs : List Value} {x : DataW H × List MemPlace} (ht : P.underlying t = some (.struct #[f0, f1, f2])) (h : DataW.trod enc P W 0 (fun _ => true) true fuel t cs = some x) :
    ∃ (y0 y1 y2 : DataW H × List MemPlace) (n : Nat), x.1 = .agg [y0.1, y1.1, y2.1] ∧ cs.length = P.cellsOf t ∧ DataW.trod enc P W 0 (fun _ => true) true n f0.type ((cs.drop f0.offset).take (P.cellsOf f0.type)) = some y0 ∧
      DataW.trod enc P W 0 (fun _ => true) true n f1.type ((cs.drop f1.offset).take (P.cellsOf f1.type)) = some y1 ∧ DataW.trod enc P W 0 (fun _ => true) true n f2.type ((cs.drop f2.offset).take (P.cellsOf f2.type)) = some y2 := by
  obtain ⟨xs, n, _, rfl, hl, hlen, hf⟩ := DataW.trod_struct ht h
  match xs, hlen with
  | [y0, y1, y2], _ => exact ⟨y0, y1, y2, n, by simp, hl, by simpa using hf 0 f0 rfl, by simpa using hf 1 f1 rfl, by simpa using hf 2 f2 rfl⟩
set_option maxRecDepth 100000 in
theorem val_of {cs : List Value} {x : DataW H × List MemPlace} (h : DataW.trod enc Tryz.prog W 0 (fun _ => true) true fuel 40 cs = some x) : ∃ f : ValA, cs = f.cs ∧ (-9223372036854775808 ≤ f.n ∧ f.n ≤ 9223372036854775807) := by
  obtain ⟨y0, y1, y2, n, hx, hl, h0, h1, h2⟩ := trod_s3 Tryz.underlying40 h
  have hl' : cs.length = 3 := hl.trans e40
  clear hl
  match cs, hl' with
  | [c0, c1, c2], _ =>
    rw [show Tryz.prog.cellsOf _ = 1 from e3] at h0
    rw [show Tryz.prog.cellsOf _ = 1 from e2] at h1
    rw [show Tryz.prog.cellsOf _ = 1 from e9] at h2
    obtain ⟨k, q0, _, _⟩ := DataW.trod_int Tryz.underlying3 h0
    obtain ⟨i, q1, _, hw⟩ := DataW.trod_int Tryz.underlying2 h1
    obtain ⟨s, q2, _, _⟩ := DataW.trod_string Tryz.underlying9 h2
    simp at q0 q1 q2
    exact ⟨⟨k, i, s.data.toList⟩, by rw [q0, q1, q2, str_of]; rfl, i64_hi hw⟩
theorem byte_of {cs : List Value} {x : DataW H × List MemPlace} (h : DataW.trod enc Tryz.prog W 0 (fun _ => true) true fuel 5 cs = some x) : ∃ c : UInt8, cs = [.int .u8 (num c)] ∧ True := by
  obtain ⟨b, rfl, _, hw⟩ := DataW.trod_int Tryz.underlying5 h
  have := u8_in hw
  exact ⟨UInt8.ofNat b.toNat, by rw [num_of _ (by omega), Int.toNat_of_nonneg this.1], trivial⟩
theorem int_of {cs : List Value} {x : DataW H × List MemPlace} (h : DataW.trod enc Tryz.prog W 0 (fun _ => true) true fuel 3 cs = some x) : ∃ c : Int, cs = [.int .i64 c] ∧ True := by
  obtain ⟨b, rfl, _, hw⟩ := DataW.trod_int Tryz.underlying3 h
  exact ⟨b, rfl, trivial⟩
theorem bs_flat : ∀ l : Txt, bs l = l.flatMap (fun c : UInt8 => [Value.int .u8 (num c)])
  | [] => rfl
  | c :: r => by
    have := bs_flat r
    unfold bs at this ⊢
    simp only [List.map_cons, List.flatMap_cons, this]
    rfl

theorem slice_size {t e : TypeId} {B : Nat} {c : Value} {x : DataW H × List MemPlace} (ht : Tryz.prog.underlying t = some (.slice e)) (hb : Tryz.prog.bytesOf e = B) (hB : 0 < B) (h : DataW.trod enc Tryz.prog W 0 (fun _ => true) true fuel t [c] = some x) (hw : ∀ n ∈ x.1.weights Tryz.prog t, n ≤ reachBytes) :
    ∃ a0 len cap, c = .slice a0 len cap ∧ len ≤ 140737488351232 := by
  rcases open_slice ht h with ⟨hcs, _⟩ | ⟨a, l, cp, m, n, D, Pl, hcs, _, hl, hm, hmm, hx, hel⟩
  · simp at hcs
    exact ⟨_, _, _, hcs, by omega⟩
  · simp at hcs
    refine ⟨_, _, _, hcs, ?_⟩
    have := hw _ (by rw [hx]; simp only [DataW.weights, ht]; exact List.mem_cons_self)
    rw [hb] at this
    simp [reachBytes] at this
    have h2 := Nat.le_trans (Nat.le_mul_of_pos_right _ hB) this
    omega

theorem vals_in {c : Value} {x : DataW H × List MemPlace} (h : DataW.trod enc Tryz.prog W 0 (fun _ => true) true fuel 23 [c] = some x) : ∃ l : List ValA, ValsAt W c l ∧ ∀ y ∈ l, -9223372036854775808 ≤ y.n ∧ y.n ≤ 9223372036854775807 :=
  rowsOf ValA.cs 3 (by omega) (fun _ => rfl) Tryz.underlying23 e40 (fun _ _ _ h => val_of h) h
theorem bytes_in {c : Value} {x : DataW H × List MemPlace} (h : DataW.trod enc Tryz.prog W 0 (fun _ => true) true fuel 30 [c] = some x) : ∃ l : Txt, BytesAt W c l := by
  obtain ⟨l, hl, _⟩ := rowsOf (fun c : UInt8 => [Value.int .u8 (num c)]) 1 (by omega) (fun _ => rfl) Tryz.underlying30 e5 (Q := fun _ => True) (fun _ _ _ h => byte_of h) h
  exact ⟨l, by unfold BytesAt; rw [bs_flat]; exact hl⟩
theorem ints_in {c : Value} {x : DataW H × List MemPlace} (h : DataW.trod enc Tryz.prog W 0 (fun _ => true) true fuel 22 [c] = some x) : ∃ l : List Int, RowAt W c l.length (l.map fun n => Value.int .i64 n) := by
  obtain ⟨l, hl, _⟩ := rowsOf (fun c : Int => [Value.int .i64 c]) 1 (by omega) (fun _ => rfl) Tryz.underlying22 e3 (Q := fun _ => True) (fun _ _ _ h => int_of h) h
  refine ⟨l, ?_⟩
  have e : (l.map fun n => Value.int .i64 n) = l.flatMap (fun c : Int => [Value.int .i64 c]) := by
    clear hl
    induction l with
    | nil => rfl
    | cons a r ih => simp [ih]
  rw [e]
  exact hl
end

end Go.Proofs.YtklkhegeeglfbaaGreatDoor
