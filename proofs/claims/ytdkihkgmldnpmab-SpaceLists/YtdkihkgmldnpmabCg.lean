import Derived.Test.YtdkihkgmldnpmabI
import Derived.Test.YtdkihkgmldnpmabCf
namespace Go.Proofs.Ytdkihkgmldnpmab
open Go.ChangeShapes Go.WideShapes Go.ChangeAt Go.RowKit Go.Deep

theorem Try.cells39 : Try.prog.cellsOf 39 = 4 := by kernel_rfl

theorem weightsAll_mem {H : Type} {P : Program} {e : TypeId} : ∀ {l : List (DataW H)} {d : DataW H}, d ∈ l → ∀ n ∈ d.weights P e, n ∈ DataW.weightsAll P e l
  | d0 :: r, d, hd, n, hn => by
    simp only [DataW.weightsAll, List.mem_append]
    rcases List.mem_cons.1 hd with rfl | hd
    · exact Or.inl hn
    · exact Or.inr (weightsAll_mem hd n hn)
  | [], _, hd, _, _ => by cases hd

section
variable {H : Type} {enc : TypeId × Value → H} {W : World} {fuel : Nat}

theorem trod_struct4 {P : Program} {base : Nat} {spare : Nat → Bool} {held : Bool} {t : TypeId} {f0 f1 f2 f3 : Field} {cs : List Value} {x : DataW H × List MemPlace} (ht : P.underlying t = some (.struct #[f0, f1, f2, f3])) (h : DataW.trod enc P W base spare held fuel t cs = some x) :
    ∃ (y0 y1 y2 y3 : DataW H × List MemPlace) (n : Nat), x.1 = .agg [y0.1, y1.1, y2.1, y3.1] ∧ cs.length = P.cellsOf t ∧ DataW.trod enc P W base spare held n f0.type ((cs.drop f0.offset).take (P.cellsOf f0.type)) = some y0 ∧
      DataW.trod enc P W base spare held n f1.type ((cs.drop f1.offset).take (P.cellsOf f1.type)) = some y1 ∧ DataW.trod enc P W base spare held n f2.type ((cs.drop f2.offset).take (P.cellsOf f2.type)) = some y2 ∧
      DataW.trod enc P W base spare held n f3.type ((cs.drop f3.offset).take (P.cellsOf f3.type)) = some y3 := by
  obtain ⟨xs, n, _, rfl, hl, hlen, hf⟩ := DataW.trod_struct ht h
  match xs, hlen with
  | [y0, y1, y2, y3], _ => exact ⟨y0, y1, y2, y3, n, by simp, hl, by simpa using hf 0 f0 rfl, by simpa using hf 1 f1 rfl, by simpa using hf 2 f2 rfl, by simpa using hf 3 f3 rfl⟩

theorem op_of {cs : List Value} {x : DataW H × List MemPlace} (h : DataW.trod enc Try.prog W 0 (fun _ => true) true fuel 39 cs = some x) (hw : ∀ n ∈ x.1.weights Try.prog 39, n ≤ reachBytes) :
    ∃ o : OpA, cs = [.int .i64 o.who, .int .i64 o.kind, .int .i64 o.n, o.bv] ∧ OpAt W W.heap.size o ∧ o.bytes.length ≤ 140737488351232 := by
  obtain ⟨y0, y1, y2, y3, n, hx, hl, h0, h1, h2, h3⟩ := trod_struct4 Try.underlying39 h
  rw [Try.cells39] at hl
  match cs, hl with
  | [c0, c1, c2, c3], _ =>
    have e3 : Try.prog.cellsOf 3 = 1 := by kernel_rfl
    have e37 : Try.prog.cellsOf 37 = 1 := by kernel_rfl
    rw [show Try.prog.cellsOf _ = 1 from e3] at h0 h1 h2
    rw [show Try.prog.cellsOf _ = 1 from e37] at h3
    obtain ⟨x0, e0, _, _⟩ := DataW.trod_int Try.underlying3 h0
    obtain ⟨x1, e1, _, _⟩ := DataW.trod_int Try.underlying3 h1
    obtain ⟨x2, e2, _, _⟩ := DataW.trod_int Try.underlying3 h2
    simp at e0 e1 e2
    have hw3 : ∀ n ∈ y3.1.weights Try.prog 37, n ≤ reachBytes := fun n hn => hw n (by
      rw [hx]; simp only [DataW.weights, Try.underlying39]
      exact DataW.weights_mem_each (j := 3) (t := 37) rfl rfl n hn)
    simp at h3
    obtain ⟨a3, l3, p3, rfl, b3⟩ := slice_form Try.underlying37 (by kernel_rfl) h3 hw3
    obtain ⟨l, hr, hll, _, hrg⟩ := bytes_of h3
    refine ⟨⟨x0, x1, x2, .slice a3 l3 p3, l⟩, by rw [e0, e1, e2], ⟨hr, ?_, hrg, by show l.length ≤ _; omega⟩, by show l.length ≤ _; omega⟩
    intro b off n c e h0
    simp only at e h0
    obtain ⟨b', off', c', e', hb, _⟩ := hr.cells (by rw [bs_length]; exact h0)
    rw [e] at e'
    simp at e'
    obtain ⟨⟨rfl, rfl⟩, _, _⟩ := e'
    exact hb

theorem script_of {a0 : Option Addr} {len cap : Nat} {x : DataW H × List MemPlace} (h : DataW.trod enc Try.prog W 0 (fun _ => true) true fuel 22 [.slice a0 len cap] = some x) (hw : ∀ n ∈ x.1.weights Try.prog 22, n ≤ reachBytes) :
    ∃ ops : List OpA, Script W W.heap.size (.slice a0 len cap) ops ∧ ops.length = len := by
  rcases open_slice Try.underlying22 h with ⟨hcs, _⟩ | ⟨a, l, c, m, n, D, Pl, hcs, _, hl, hm, hmm, hx, hel⟩
  · simp at hcs
    obtain ⟨rfl, rfl, rfl⟩ := hcs
    exact ⟨[], ⟨⟨_, _, rfl⟩, fun h0 => by simp at h0, fun _ h => by cases h⟩, rfl⟩
  · simp at hcs
    obtain ⟨rfl, rfl, rfl⟩ := hcs
    simp at hmm
    rw [Try.cells39] at hel
    have hev : ∀ i, i < len → ∃ o : OpA, (W.cell? ((a.add (i * 4)).add 0) = some (.int .i64 o.who) ∧ W.cell? ((a.add (i * 4)).add 1) = some (.int .i64 o.kind) ∧ W.cell? ((a.add (i * 4)).add 2) = some (.int .i64 o.n) ∧ W.cell? ((a.add (i * 4)).add 3) = some o.bv) ∧ OpAt W W.heap.size o ∧ o.bytes.length ≤ 140737488351232 := by
      intro i hi
      obtain ⟨cs', hcs', htr⟩ := hel i (by omega)
      obtain ⟨o, rfl, ho⟩ := op_of htr (fun k hk => hw k (by
        rw [hx]; simp only [DataW.weights, Try.underlying22]
        refine List.mem_cons_of_mem _ (List.mem_append_left _ (weightsAll_mem (d := D i) ?_ k hk))
        exact List.mem_map.2 ⟨i, List.mem_range.2 hi, rfl⟩))
      obtain ⟨_, _, hcc⟩ := World.cells?_some hcs'
      exact ⟨o, ⟨by simpa using hcc 0 (by omega), by simpa using hcc 1 (by omega), by simpa using hcc 2 (by omega), by simpa using hcc 3 (by omega)⟩, ho⟩
    obtain ⟨f, hf⟩ := @choose_lt _ ⟨(⟨0, 0, 0, .slice none 0 0, []⟩ : OpA)⟩ _ _ hev
    refine ⟨(List.range len).map f, ⟨⟨_, _, by simp; exact ⟨rfl, rfl⟩⟩, fun h0 => ?_, fun o ho => ?_⟩, by simp⟩
    · simp at h0
      have hc0 := (hf 0 h0).1.1
      have hspot : a.spot = none := by
        have := World.cell?_spot hc0
        simpa [Addr.add] using this
      obtain ⟨b, off, spot⟩ := a
      simp at hspot
      subst hspot
      have hlt : b < W.heap.size := by
        have := World.block_lt_of_cell? W _ hc0
        simpa [Addr.add] using this
      refine ⟨b, off, cap, by simp, hlt, hlt, fun i p hp => ?_⟩
      · have hi : i < len := by
          have := (List.getElem?_eq_some_iff.1 hp).1
          simpa using this
        have hpe : f i = p := by simpa [hi] using hp
        obtain ⟨⟨q0, q1, q2, q3⟩, _⟩ := hf i hi
        rw [hpe] at q0 q1 q2 q3
        simp only [Addr.add_lit] at q0 q1 q2 q3
        exact ⟨q0, q1, q2, q3⟩
    · obtain ⟨i, hi, rfl⟩ := List.mem_map.1 ho
      exact (hf i (List.mem_range.1 hi)).2

end
end Go.Proofs.Ytdkihkgmldnpmab
