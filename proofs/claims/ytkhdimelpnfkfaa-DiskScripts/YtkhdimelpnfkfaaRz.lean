import Derived.Test.YtkhdimelpnfkfaaRy
import Derived.Test.YtkhdimelpnfkfaaS
import Derived.SizedLaws
namespace Go.Proofs.Ytkhdimelpnfkfaa
open Go.ChangeShapes Go.WideShapes Go.ChangeAt Go.RowKit Go.Deep

theorem Try.cells85 : Try.prog.cellsOf 85 = 6 := by kernel_rfl

theorem weightsAll_mem {H : Type} {P : Program} {e : TypeId} : ∀ {l : List (DataW H)} {d : DataW H}, d ∈ l → ∀ n ∈ d.weights P e, n ∈ DataW.weightsAll P e l
  | d0 :: r, d, hd, n, hn => by
    simp only [DataW.weightsAll, List.mem_append]
    rcases List.mem_cons.1 hd with rfl | hd
    · exact Or.inl hn
    · exact Or.inr (weightsAll_mem hd n hn)
  | [], _, hd, _, _ => by cases hd

section
variable {H : Type} {enc : TypeId × Value → H} {W : World} {fuel : Nat}

theorem slice_form {t e : TypeId} {c : Value} {x : DataW H × List MemPlace} (ht : Try.prog.underlying t = some (.slice e)) (hb : Try.prog.bytesOf e = 1) (h : DataW.trod enc Try.prog W 0 (fun _ => true) true fuel t [c] = some x) (hw : ∀ n ∈ x.1.weights Try.prog t, n ≤ reachBytes) :
    ∃ a0 len cap, c = .slice a0 len cap ∧ len ≤ 140737488351232 := by
  rcases open_slice ht h with ⟨hcs, _⟩ | ⟨a, l, cp, m, n, D, Pl, hcs, _, hl, hm, hmm, hx, hel⟩
  · simp at hcs
    exact ⟨_, _, _, hcs, by omega⟩
  · simp at hcs
    refine ⟨_, _, _, hcs, ?_⟩
    have := hw _ (by rw [hx]; simp only [DataW.weights, ht]; exact List.mem_cons_self)
    rw [hb] at this
    simp [reachBytes] at this
    omega

theorem trod_struct6 {P : Program} {base : Nat} {spare : Nat → Bool} {held : Bool} {t : TypeId} {f0 f1 f2 f3 f4 f5 : Field} {cs : List Value} {x : DataW H × List MemPlace} (ht : P.underlying t = some (.struct #[f0, f1, f2, f3, f4, f5])) (h : DataW.trod enc P W base spare held fuel t cs = some x) :
    ∃ (y0 y1 y2 y3 y4 y5 : DataW H × List MemPlace) (n : Nat), x.1 = .agg [y0.1, y1.1, y2.1, y3.1, y4.1, y5.1] ∧ cs.length = P.cellsOf t ∧ DataW.trod enc P W base spare held n f0.type ((cs.drop f0.offset).take (P.cellsOf f0.type)) = some y0 ∧
      DataW.trod enc P W base spare held n f1.type ((cs.drop f1.offset).take (P.cellsOf f1.type)) = some y1 ∧ DataW.trod enc P W base spare held n f2.type ((cs.drop f2.offset).take (P.cellsOf f2.type)) = some y2 ∧
      DataW.trod enc P W base spare held n f3.type ((cs.drop f3.offset).take (P.cellsOf f3.type)) = some y3 ∧ DataW.trod enc P W base spare held n f4.type ((cs.drop f4.offset).take (P.cellsOf f4.type)) = some y4 ∧
      DataW.trod enc P W base spare held n f5.type ((cs.drop f5.offset).take (P.cellsOf f5.type)) = some y5 := by
  obtain ⟨xs, n, _, rfl, hl, hlen, hf⟩ := DataW.trod_struct ht h
  match xs, hlen with
  | [y0, y1, y2, y3, y4, y5], _ => exact ⟨y0, y1, y2, y3, y4, y5, n, by simp, hl, by simpa using hf 0 f0 rfl, by simpa using hf 1 f1 rfl, by simpa using hf 2 f2 rfl, by simpa using hf 3 f3 rfl, by simpa using hf 4 f4 rfl, by simpa using hf 5 f5 rfl⟩

theorem op_of {cs : List Value} {x : DataW H × List MemPlace} (h : DataW.trod enc Try.prog W 0 (fun _ => true) true fuel 85 cs = some x) (hw : ∀ n ∈ x.1.weights Try.prog 85, n ≤ reachBytes) :
    ∃ o : OpA, cs = [.int .i64 o.who, .int .i64 o.kind, .int .i64 o.a, .int .i64 o.b, o.bv, o.kv] ∧ OpAt W W.heap.size o ∧ o.a ≤ 9223372036854775807 := by
  obtain ⟨y0, y1, y2, y3, y4, y5, n, hx, hl, h0, h1, h2, h3, h4, h5⟩ := trod_struct6 Try.underlying85 h
  rw [Try.cells85] at hl
  match cs, hl with
  | [c0, c1, c2, c3, c4, c5], _ =>
    have e3 : Try.prog.cellsOf 3 = 1 := by kernel_rfl
    have e32 : Try.prog.cellsOf 32 = 1 := by kernel_rfl
    have e51 : Try.prog.cellsOf 51 = 1 := by kernel_rfl
    rw [show Try.prog.cellsOf _ = 1 from e3] at h0 h1 h2 h3
    rw [show Try.prog.cellsOf _ = 1 from e32] at h4
    rw [show Try.prog.cellsOf _ = 1 from e51] at h5
    obtain ⟨x0, e0, _, _⟩ := DataW.trod_int Try.underlying3 h0
    obtain ⟨x1, e1, _, _⟩ := DataW.trod_int Try.underlying3 h1
    obtain ⟨x2, e2, _, w2⟩ := DataW.trod_int Try.underlying3 h2
    obtain ⟨x3, e3, _, _⟩ := DataW.trod_int Try.underlying3 h3
    simp at e0 e1 e2 e3
    have hw4 : ∀ n ∈ y4.1.weights Try.prog 32, n ≤ reachBytes := fun n hn => hw n (by
      rw [hx]; simp only [DataW.weights, Try.underlying85]
      exact DataW.weights_mem_each (j := 4) (t := 32) rfl rfl n hn)
    have hw5 : ∀ n ∈ y5.1.weights Try.prog 51, n ≤ reachBytes := fun n hn => hw n (by
      rw [hx]; simp only [DataW.weights, Try.underlying85]
      exact DataW.weights_mem_each (j := 5) (t := 51) rfl rfl n hn)
    simp at h4 h5
    obtain ⟨a4, l4, p4, rfl, b4⟩ := slice_form Try.underlying32 (by kernel_rfl) h4 hw4
    obtain ⟨a5, l5, p5, rfl, b5⟩ := slice_form Try.underlying51 (by kernel_rfl) h5 hw5
    obtain ⟨l, hr, hll, _, hsp⟩ := bytes_of h4
    obtain ⟨ks, hks, hkl, _⟩ := bools_of h5
    refine ⟨⟨x0, x1, x2, x3, .slice a4 l4 p4, .slice a5 l5 p5, l, ks⟩, by rw [e0, e1, e2, e3], ⟨hr, ?_, hks, ?_, by show l.length ≤ _; omega, by show ks.length ≤ _; omega⟩, i64_hi w2⟩
    · intro b off n c e h0
      simp only at e h0
      obtain ⟨b', off', rfl, hb⟩ := hsp (by omega)
      simp at e
      obtain ⟨⟨rfl, rfl⟩, _, _⟩ := e
      exact hb
    · intro b off n c e h0
      simp only at e h0
      obtain ⟨b', off', c', e', hb, _⟩ := hks.cells h0
      rw [e] at e'
      simp at e'
      obtain ⟨⟨rfl, rfl⟩, _, _⟩ := e'
      exact hb

theorem script_of {a0 : Option Addr} {len cap : Nat} {x : DataW H × List MemPlace} (h : DataW.trod enc Try.prog W 0 (fun _ => true) true fuel 67 [.slice a0 len cap] = some x) (hw : ∀ n ∈ x.1.weights Try.prog 67, n ≤ reachBytes) :
    ∃ ops : List OpA, Script W (.slice a0 len cap) ops ∧ ops.length = len := by
  rcases open_slice Try.underlying67 h with ⟨hcs, _⟩ | ⟨a, l, c, m, n, D, Pl, hcs, _, hl, hm, hmm, hx, hel⟩
  · simp at hcs
    obtain ⟨rfl, rfl, rfl⟩ := hcs
    exact ⟨[], ⟨⟨_, _, rfl⟩, fun h0 => by simp at h0, fun _ h => by cases h⟩, rfl⟩
  · simp at hcs
    obtain ⟨rfl, rfl, rfl⟩ := hcs
    simp at hmm
    rw [Try.cells85] at hel
    have hev : ∀ i, i < len → ∃ o : OpA, (W.cell? ((a.add (i * 6)).add 0) = some (.int .i64 o.who) ∧ W.cell? ((a.add (i * 6)).add 1) = some (.int .i64 o.kind) ∧ W.cell? ((a.add (i * 6)).add 2) = some (.int .i64 o.a) ∧ W.cell? ((a.add (i * 6)).add 3) = some (.int .i64 o.b) ∧ W.cell? ((a.add (i * 6)).add 4) = some o.bv ∧ W.cell? ((a.add (i * 6)).add 5) = some o.kv) ∧ OpAt W W.heap.size o ∧ o.a ≤ 9223372036854775807 := by
      intro i hi
      obtain ⟨cs', hcs', htr⟩ := hel i (by omega)
      obtain ⟨o, rfl, ho⟩ := op_of htr (fun k hk => hw k (by
        rw [hx]; simp only [DataW.weights, Try.underlying67]
        refine List.mem_cons_of_mem _ (List.mem_append_left _ (weightsAll_mem (d := D i) ?_ k hk))
        exact List.mem_map.2 ⟨i, List.mem_range.2 hi, rfl⟩))
      obtain ⟨_, _, hcc⟩ := World.cells?_some hcs'
      exact ⟨o, ⟨by simpa using hcc 0 (by omega), by simpa using hcc 1 (by omega), by simpa using hcc 2 (by omega), by simpa using hcc 3 (by omega), by simpa using hcc 4 (by omega), by simpa using hcc 5 (by omega)⟩, ho⟩
    obtain ⟨f, hf⟩ := @choose_lt _ ⟨(⟨0, 0, 0, 0, .slice none 0 0, .slice none 0 0, [], []⟩ : OpA)⟩ _ _ hev
    refine ⟨(List.range len).map f, ⟨⟨_, _, by simp; exact ⟨rfl, rfl⟩⟩, fun h0 => ?_, fun o ho => ?_⟩, by simp⟩
    · simp at h0
      have hc0 := (hf 0 h0).1.1
      have hspot : a.spot = none := by
        have := World.cell?_spot hc0
        simpa [Addr.add] using this
      obtain ⟨b, off, spot⟩ := a
      simp at hspot
      subst hspot
      refine ⟨b, off, cap, by simp, ?_, fun i p hp => ?_⟩
      · have := World.block_lt_of_cell? W _ hc0
        simpa [Addr.add] using this
      · have hi : i < len := by
          have := (List.getElem?_eq_some_iff.1 hp).1
          simpa using this
        have hpe : f i = p := by simpa [hi] using hp
        obtain ⟨⟨q0, q1, q2, q3, q4, q5⟩, _⟩ := hf i hi
        rw [hpe] at q0 q1 q2 q3 q4 q5
        simp only [Addr.add_lit] at q0 q1 q2 q3 q4 q5
        exact ⟨q0, q1, q2, q3, q4, q5⟩
    · obtain ⟨i, hi, rfl⟩ := List.mem_map.1 ho
      exact (hf i (List.mem_range.1 hi)).2

end
end Go.Proofs.Ytkhdimelpnfkfaa
