import Derived.Test.YtafniangljmjeabDoorWb
namespace Go.Proofs.YtafniangljmjeabDoor
open Go.ChangeShapes Go.WideShapes Go.ChangeAt Go.RowKit Go.Deep

instance : Inhabited FieldA := ⟨⟨[], 0, false⟩⟩
theorem e62 : Tryd.prog.cellsOf 45 = 3 := by kernel_rfl
theorem e39 : Tryd.prog.cellsOf 24 = 1 := by kernel_rfl
theorem e37 : Tryd.prog.cellsOf 22 = 1 := by kernel_rfl
theorem b62 : Tryd.prog.bytesOf 45 = 32 := by kernel_rfl
theorem b4 : Tryd.prog.bytesOf 4 = 1 := by kernel_rfl
/-- Bools in a slice. -/
def BlsAt (w : World) (v : Value) (l : List Bool) : Prop := RowAt w v l.length (l.map Value.bool)
section
variable {H : Type} {enc : TypeId × Value → H} {W : World}
set_option maxRecDepth 100000 in
theorem field_read (fuel : Nat) (cs : List Value) (x : DataW H × List MemPlace) (h : DataW.trod enc Tryd.prog W 0 (fun _ => true) true fuel 45 cs = some x) : ∃ f : FieldA, cs = f.cs ∧ True := by
  obtain ⟨xs, m, hm, _, hl, hlen, hf⟩ := DataW.trod_struct Tryd.underlying45 h
  have hl' : cs.length = 3 := hl.trans e62
  match xs, hlen, cs, hl' with
  | [y0, y1, y2], _, [c0, c1, c2], _ =>
    have h0 : DataW.trod enc Tryd.prog W 0 (fun _ => true) true m 9 (([c0, c1, c2].drop 0).take (Tryd.prog.cellsOf 9)) = some y0 := hf 0 _ rfl
    have h1 : DataW.trod enc Tryd.prog W 0 (fun _ => true) true m 3 (([c0, c1, c2].drop 1).take (Tryd.prog.cellsOf 3)) = some y1 := hf 1 _ rfl
    have h2 : DataW.trod enc Tryd.prog W 0 (fun _ => true) true m 4 (([c0, c1, c2].drop 2).take (Tryd.prog.cellsOf 4)) = some y2 := hf 2 _ rfl
    rw [e9] at h0
    rw [e3] at h1
    rw [e4] at h2
    simp only [List.drop_zero, List.take_succ_cons, List.take_zero, List.drop_succ_cons] at h0 h1 h2
    obtain ⟨s, q0, _, _⟩ := DataW.trod_string Tryd.underlying9 h0
    obtain ⟨k, q1, _, _⟩ := DataW.trod_int Tryd.underlying3 h1
    obtain ⟨o, q2, _⟩ := DataW.trod_bool Tryd.underlying4 h2
    simp at q0 q1 q2
    exact ⟨⟨s.data.toList, k, o⟩, by rw [q0, q1, q2, str_of]; rfl, trivial⟩
theorem bool_read (fuel : Nat) (cs : List Value) (x : DataW H × List MemPlace) (h : DataW.trod enc Tryd.prog W 0 (fun _ => true) true fuel 4 cs = some x) : ∃ f : Bool, cs = [Value.bool f] ∧ True := by
  obtain ⟨o, q2, _⟩ := DataW.trod_bool Tryd.underlying4 h
  exact ⟨o, q2, trivial⟩
theorem lenF {fuel : Nat} {c : Value} {x : DataW H × List MemPlace} (h : DataW.trod enc Tryd.prog W 0 (fun _ => true) true fuel 22 [c] = some x) (hw : ∀ n ∈ x.1.weights Tryd.prog 22, n ≤ reachBytes) {n : Nat} {xs : List Value} (hr : RowAt W c n xs) : n ≤ 4398046511104 := by
  obtain ⟨ao, cp, hform⟩ := hr.form
  rcases DataW.trod_slice Tryd.underlying22 h with ⟨hcs, _⟩ | ⟨a, len, cap, elems, rest, n', hn, hcs, hxx, _, hlc, _, hel, _, _, _⟩
  · simp at hcs
    rw [hcs] at hform
    simp at hform
    omega
  · have := hw ((elems.length + rest.length) * 32) (by
      rw [hxx]
      simp only [DataW.weights, Tryd.underlying22, List.length_map, b62]
      exact List.mem_cons_self ..)
    unfold reachBytes at this
    simp at hcs
    rw [hcs] at hform
    simp at hform
    omega
theorem lenB {fuel : Nat} {c : Value} {x : DataW H × List MemPlace} (h : DataW.trod enc Tryd.prog W 0 (fun _ => true) true fuel 55 [c] = some x) (hw : ∀ n ∈ x.1.weights Tryd.prog 55, n ≤ reachBytes) {n : Nat} {xs : List Value} (hr : RowAt W c n xs) : n ≤ 140737488355328 := by
  obtain ⟨ao, cp, hform⟩ := hr.form
  rcases DataW.trod_slice Tryd.underlying55 h with ⟨hcs, _⟩ | ⟨a, len, cap, elems, rest, n', hn, hcs, hxx, _, hlc, _, hel, _, _, _⟩
  · simp at hcs
    rw [hcs] at hform
    simp at hform
    omega
  · have := hw ((elems.length + rest.length) * 1) (by
      rw [hxx]
      simp only [DataW.weights, Tryd.underlying55, List.length_map, b4]
      exact List.mem_cons_self ..)
    unfold reachBytes at this
    simp at hcs
    rw [hcs] at hform
    simp at hform
    omega
theorem flat_bools : ∀ l : List Bool, l.flatMap (fun f : Bool => [Value.bool f]) = l.map Value.bool
  | [] => rfl
  | a :: r => by
    have := flat_bools r
    simp only [List.flatMap_cons, this]
    rfl
theorem bools_in {fuel : Nat} {c : Value} {x : DataW H × List MemPlace} (h : DataW.trod enc Tryd.prog W 0 (fun _ => true) true fuel 55 [c] = some x) (hw : ∀ n ∈ x.1.weights Tryd.prog 55, n ≤ reachBytes) : ∃ l : List Bool, BlsAt W c l ∧ l.length ≤ 140737488355328 := by
  obtain ⟨l, hl, _⟩ := rowsOf (fun f : Bool => [Value.bool f]) 1 (by omega) (fun _ => rfl) Tryd.underlying55 e4 bool_read h
  rw [flat_bools] at hl
  exact ⟨l, hl, lenB h hw hl⟩
set_option maxRecDepth 100000 in
/-- The schema that came in, with a bound on its length by what it weighs. -/
theorem schema_in {fuel : Nat} {cs : List Value} {x : DataW H × List MemPlace} (h : DataW.trod enc Tryd.prog W 0 (fun _ => true) true fuel 24 cs = some x) (hw : ∀ n ∈ x.1.weights Tryd.prog 24, n ≤ reachBytes) :
    ∃ (sv : Value) (S : List FieldA), cs = [sv] ∧ FldsAt W sv S ∧ S.length ≤ 4398046511104 := by
  obtain ⟨xs, m, hm, hx, hl, hlen, hf⟩ := DataW.trod_struct Tryd.underlying24 h
  have hl' : cs.length = 1 := hl.trans e39
  match xs, hlen, cs, hl' with
  | [y0], _, [c0], _ =>
    have h0 : DataW.trod enc Tryd.prog W 0 (fun _ => true) true m 22 (([c0].drop 0).take (Tryd.prog.cellsOf 22)) = some y0 := hf 0 _ rfl
    rw [e37] at h0
    simp only [List.drop_zero, List.take_succ_cons, List.take_zero] at h0
    have hw0 : ∀ n ∈ y0.1.weights Tryd.prog 22, n ≤ reachBytes := fun n hn => hw n (by
      rw [hx]
      simp only [DataW.weights, Tryd.underlying24, List.map_cons, List.map_nil, DataW.weightsEach, List.append_nil]
      exact hn)
    obtain ⟨l, hl, _⟩ := rowsOf FieldA.cs 3 (by omega) (fun _ => rfl) Tryd.underlying22 e62 field_read h0
    exact ⟨c0, l, rfl, hl, lenF h0 hw0 hl⟩
end
end Go.Proofs.YtafniangljmjeabDoor
