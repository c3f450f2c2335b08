import Derived.Test.YtiinohibmcefkaaGreatDoorJbb
import Derived.Test.YtiinohibmcefkaaGreatDoorJae
namespace Go.Proofs.YtiinohibmcefkaaGreatDoor
open Go.ChangeShapes Go.WideShapes Go.ChangeAt Go.RowKit Go.Deep

theorem e31 : Tryz.prog.cellsOf 31 = 2 := by kernel_rfl
theorem e29 : Tryz.prog.cellsOf 29 = 1 := by kernel_rfl
/-- Ints of 64 bits. -/
def I64 (n : Int) : Prop := -9223372036854775808 ≤ n ∧ n ≤ 9223372036854775807
theorem i64_of {n : Int} (h : (Lit.int .i64 n).wf = true) : I64 n := by
  have h2 : IntKind.i64.min ≤ n ∧ n ≤ IntKind.i64.max := by simpa [Lit.wf] using h
  have a : IntKind.i64.min = -9223372036854775808 := by decide +kernel
  have b : IntKind.i64.max = 9223372036854775807 := by decide +kernel
  rw [a, b] at h2
  exact h2
theorem e40 : Tryz.prog.cellsOf 41 = 3 := by kernel_rfl
instance : Inhabited ValA := ⟨⟨0, 0, []⟩⟩
theorem vcs_at : ∀ (l : List ValA) (j : Nat), (vcs l)[j]? = (l[j / 3]?).bind fun x => x.cs[j % 3]?
  | [], j => by simp [vcs]
  | y :: r, j => by
    have e : vcs (y :: r) = y.cs ++ vcs r := rfl
    have hy : y.cs.length = 3 := rfl
    rw [e]
    by_cases h : j < 3
    · rw [List.getElem?_append_left (by rw [hy]; exact h), Nat.div_eq_of_lt h, Nat.mod_eq_of_lt h]
      rfl
    · rw [List.getElem?_append_right (by rw [hy]; omega), hy, vcs_at r (j - 3)]
      have h1 : j / 3 = (j - 3) / 3 + 1 := by omega
      have h2 : j % 3 = (j - 3) % 3 := by omega
      rw [h1, h2]
      rfl
section
variable {H : Type} {enc : TypeId × Value → H} {W : World}
set_option maxRecDepth 100000 in
theorem val_read {fuel : Nat} {cs : List Value} {x : DataW H × List MemPlace} (h : DataW.trod enc Tryz.prog W 0 (fun _ => true) true fuel 41 cs = some x) : ∃ f : ValA, cs = f.cs ∧ I64 f.n := by
  obtain ⟨xs, m, hm, _, hl, hlen, hf⟩ := DataW.trod_struct Tryz.underlying41 h
  have hl' : cs.length = 3 := hl.trans e40
  match xs, hlen, cs, hl' with
  | [y0, y1, y2], _, [c0, c1, c2], _ =>
    have h0 : DataW.trod enc Tryz.prog W 0 (fun _ => true) true m 3 (([c0, c1, c2].drop 0).take (Tryz.prog.cellsOf 3)) = some y0 := hf 0 _ rfl
    have h1 : DataW.trod enc Tryz.prog W 0 (fun _ => true) true m 2 (([c0, c1, c2].drop 1).take (Tryz.prog.cellsOf 2)) = some y1 := hf 1 _ rfl
    have h2 : DataW.trod enc Tryz.prog W 0 (fun _ => true) true m 9 (([c0, c1, c2].drop 2).take (Tryz.prog.cellsOf 9)) = some y2 := hf 2 _ rfl
    rw [e3] at h0
    rw [e2] at h1
    rw [e9] at h2
    simp only [List.drop_zero, List.take_succ_cons, List.take_zero, List.drop_succ_cons] at h0 h1 h2
    obtain ⟨k, q0, _, _⟩ := DataW.trod_int Tryz.underlying3 h0
    obtain ⟨i, q1, _, w1⟩ := DataW.trod_int Tryz.underlying2 h1
    obtain ⟨s, q2, _, _⟩ := DataW.trod_string Tryz.underlying9 h2
    simp at q0 q1 q2
    exact ⟨⟨k, i, s.data.toList⟩, by rw [q0, q1, q2, str_of]; rfl, i64_of w1⟩
set_option maxRecDepth 100000 in
/-- The values that came in. -/
theorem vals_in {fuel : Nat} {c0 : Value} {x : DataW H × List MemPlace} (h0 : DataW.trod enc Tryz.prog W 0 (fun _ => true) true fuel 29 [c0] = some x) : ∃ l : List ValA, ValsAt W c0 l ∧ ∀ x ∈ l, I64 x.n := by
  rcases slice_read Tryz.underlying29 e40 (by omega) h0 with rfl | ⟨b, off, len, cap, n', spot, rfl, hlc, _, hels⟩
  · exact ⟨[], ⟨⟨_, _, rfl⟩, fun h0 => by simp at h0, fun ao m cap e => by simp at e; omega⟩, by simp⟩
  · have hev : ∀ i, i < len → ∃ f : ValA, (∀ j v, f.cs[j]? = some v → W.cell? ⟨b, off + i * 3 + j, none⟩ = some v) ∧ I64 f.n := fun i hi => by
      obtain ⟨_, _, cs, y, hc, ht, _⟩ := hels i hi
      obtain ⟨f, rfl, hi6⟩ := val_read ht
      exact ⟨f, hc, hi6⟩
    obtain ⟨f, hff⟩ := choose_lt hev
    refine ⟨(List.range len).map f, ⟨⟨_, _, by simp; exact ⟨rfl, rfl⟩⟩, fun h0 => ?_, fun ao m cap e => by simp at e; omega⟩, fun x hx => ?_⟩
    rotate_left
    · simp only [List.mem_map, List.mem_range] at hx
      obtain ⟨i, hi, rfl⟩ := hx
      exact (hff i hi).2
    simp at h0
    obtain ⟨rfl, hb, _⟩ := hels 0 h0
    refine ⟨b, off, cap, by simp, hb, fun j v hv => ?_⟩
    rw [vcs_at] at hv
    cases hi : ((List.range len).map f)[j / 3]? with
    | none => rw [hi] at hv; cases hv
    | some p =>
      rw [hi] at hv
      have hil : j / 3 < len := by
        have := (List.getElem?_eq_some_iff.1 hi).1
        simpa using this
      have hpe : f (j / 3) = p := by simpa [hil] using hi
      have := (hff (j / 3) hil).1 (j % 3) v (by rw [hpe]; exact hv)
      rw [show off + j = off + j / 3 * 3 + j % 3 by omega]
      exact this
set_option maxRecDepth 100000 in
/-- The row that came in. -/
theorem row_in {fuel : Nat} {cs : List Value} {x : DataW H × List MemPlace} (h : DataW.trod enc Tryz.prog W 0 (fun _ => true) true fuel 31 cs = some x) :
    ∃ (hh : Bool) (u : Value) (vals : List ValA), cs = [.bool hh, u] ∧ ValsAt W u vals ∧ ∀ x ∈ vals, I64 x.n := by
  obtain ⟨xs, m, hm, hx, hl, hlen, hf⟩ := DataW.trod_struct Tryz.underlying31 h
  have hl' : cs.length = 2 := hl.trans e31
  match xs, hlen, cs, hl' with
  | [y0, y1], _, [c0, c1], _ =>
    have h0 : DataW.trod enc Tryz.prog W 0 (fun _ => true) true m 4 (([c0, c1].drop 0).take (Tryz.prog.cellsOf 4)) = some y0 := hf 0 _ rfl
    have h1 : DataW.trod enc Tryz.prog W 0 (fun _ => true) true m 29 (([c0, c1].drop 1).take (Tryz.prog.cellsOf 29)) = some y1 := hf 1 _ rfl
    rw [e4] at h0
    rw [e29] at h1
    simp only [List.drop_zero, List.take_succ_cons, List.take_zero, List.drop_succ_cons] at h0 h1
    obtain ⟨o, q0, _⟩ := DataW.trod_bool Tryz.underlying4 h0
    simp at q0
    obtain ⟨l, hl, hi⟩ := vals_in h1
    exact ⟨o, c1, l, by rw [q0], hl, hi⟩
end
end Go.Proofs.YtiinohibmcefkaaGreatDoor
