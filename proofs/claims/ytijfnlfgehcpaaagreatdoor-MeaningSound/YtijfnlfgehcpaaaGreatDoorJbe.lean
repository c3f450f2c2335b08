import Derived.Test.YtijfnlfgehcpaaaGreatDoorJbd
import Derived.Test.YtijfnlfgehcpaaaGreatDoorJar
import Derived.Test.YtijfnlfgehcpaaaGreatDoorJal
import Derived.Test.YtijfnlfgehcpaaaGreatDoorJaf
import Derived.Test.YtijfnlfgehcpaaaGreatDoorJak
import Derived.Test.YtijfnlfgehcpaaaGreatDoorJaa
import Derived.Test.YtijfnlfgehcpaaaGreatDoorJan
namespace Go.Proofs.YtijfnlfgehcpaaaGreatDoor
open Go.ChangeShapes Go.WideShapes Go.ChangeAt Go.RowKit Go.Deep

instance : Inhabited FieldA := ⟨⟨[], 0, false⟩⟩
theorem fcs_at : ∀ (l : List FieldA) (j : Nat), (fcs l)[j]? = (l[j / 3]?).bind fun x => x.cs[j % 3]?
  | [], j => by simp [fcs]
  | y :: r, j => by
    have e : fcs (y :: r) = y.cs ++ fcs r := rfl
    have hy : y.cs.length = 3 := rfl
    rw [e]
    by_cases h : j < 3
    · rw [List.getElem?_append_left (by rw [hy]; exact h), Nat.div_eq_of_lt h, Nat.mod_eq_of_lt h]
      rfl
    · rw [List.getElem?_append_right (by rw [hy]; omega), hy, fcs_at r (j - 3)]
      have h1 : j / 3 = (j - 3) / 3 + 1 := by omega
      have h2 : j % 3 = (j - 3) % 3 := by omega
      rw [h1, h2]
      rfl
section
variable {H : Type} {enc : TypeId × Value → H} {W : World}
set_option maxRecDepth 100000 in
/-- The schema that came in, with a bound on its length by what it weighs. -/
theorem schema_in {fuel : Nat} {cs : List Value} {x : DataW H × List MemPlace} (h : DataW.trod enc Tryz.prog W 0 (fun _ => true) true fuel 24 cs = some x) (hw : ∀ n ∈ x.1.weights Tryz.prog 24, n ≤ reachBytes) :
    ∃ (sv : Value) (S : List FieldA), cs = [sv] ∧ FldsAt W sv S ∧ S.length ≤ 4398046511104 := by
  obtain ⟨xs, m, hm, hx, hl, hlen, hf⟩ := DataW.trod_struct Tryz.underlying24 h
  have hl' : cs.length = 1 := hl.trans e24
  match xs, hlen, cs, hl' with
  | [y0], _, [c0], _ =>
    have h0 : DataW.trod enc Tryz.prog W 0 (fun _ => true) true m 22 (([c0].drop 0).take (Tryz.prog.cellsOf 22)) = some y0 := hf 0 _ rfl
    rw [show Tryz.prog.cellsOf 22 = 1 by kernel_rfl] at h0
    simp only [List.drop_zero, List.take_succ_cons, List.take_zero] at h0
    refine ⟨c0, ?_⟩
    have hw0 : ∀ n ∈ y0.1.weights Tryz.prog 22, n ≤ reachBytes := fun n hn => hw n (by
      rw [hx]
      simp only [DataW.weights, Tryz.underlying24, List.map_cons, List.map_nil, DataW.weightsEach, List.append_nil]
      exact hn)
    have hsl := slice_read Tryz.underlying22 e43 (by omega) h0
    rcases DataW.trod_slice Tryz.underlying22 h0 with ⟨hcs, _⟩ | ⟨a, len, cap, elems, rest, n, hn, hcs, hxx, _, hlc, _, hel, _, _, _⟩
    · simp at hcs
      subst hcs
      exact ⟨[], rfl, ⟨⟨_, _, rfl⟩, fun h0 => by simp at h0, fun ao m cap e => by simp at e; omega⟩, by simp⟩
    · have hbound : len ≤ 4398046511104 := by
        have := hw0 ((elems.length + rest.length) * 32) (by
          rw [hxx]
          simp only [DataW.weights, Tryz.underlying22, List.length_map, b43]
          exact List.mem_cons_self ..)
        unfold reachBytes at this
        omega
      simp at hcs
      subst hcs
      rcases hsl with hn0 | ⟨b, off, len', cap', n', spot, he, hlc', _, hels⟩
      · cases hn0
      · obtain ⟨e1, e2, e3⟩ := Value.slice.inj he
        subst e2 e3
        have e1' := Option.some.inj e1
        subst e1'
        have hev : ∀ i, i < len → ∃ f : FieldA, ∀ j v, f.cs[j]? = some v → W.cell? ⟨b, off + i * 3 + j, none⟩ = some v := fun i hi => by
          obtain ⟨_, _, cs, y, hc, ht, _⟩ := hels i hi
          obtain ⟨f, rfl⟩ := field_read ht
          exact ⟨f, hc⟩
        obtain ⟨f, hff⟩ := choose_lt hev
        refine ⟨(List.range len).map f, rfl, ⟨⟨_, _, by simp; exact ⟨rfl, rfl⟩⟩, fun h0 => ?_, fun ao m cap e => by simp at e; omega⟩, by simpa using hbound⟩
        simp at h0
        obtain ⟨rfl, hb, _⟩ := hels 0 h0
        refine ⟨b, off, cap, by simp, hb, fun j v hv => ?_⟩
        rw [fcs_at] at hv
        cases hi : ((List.range len).map f)[j / 3]? with
        | none => rw [hi] at hv; cases hv
        | some p =>
          rw [hi] at hv
          have hil : j / 3 < len := by
            have := (List.getElem?_eq_some_iff.1 hi).1
            simpa using this
          have hpe : f (j / 3) = p := by simpa [hil] using hi
          have := hff (j / 3) hil (j % 3) v (by rw [hpe]; exact hv)
          rw [show off + j = off + j / 3 * 3 + j % 3 by omega]
          exact this
end
end Go.Proofs.YtijfnlfgehcpaaaGreatDoor
namespace Go.Proofs.YtijfnlfgehcpaaaGreatDoor
open Go.RowKit Go.Maps

theorem checkP_zero {S : List FieldA} {l : SL} (h : (checkP S l).1 = 0) : schemaB S = true ∧ checkS l = 0 := by
  unfold checkP at h
  cases hs : schemaB S with
  | false => rw [errS_bad hs, if_pos (by decide)] at h; simp at h
  | true =>
    rw [errS_good hs, if_neg (by simp)] at h
    by_cases hc : checkS l = 0
    · exact ⟨rfl, hc⟩
    · rw [if_pos hc] at h
      exact absurd h hc

end Go.Proofs.YtijfnlfgehcpaaaGreatDoor
