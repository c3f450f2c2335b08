import Derived.Test.YtbgapbaeegloaaaDoorNc
namespace Go.Proofs.YtbgapbaeegloaaaDoor
open Go.RowKit Go.Maps

theorem RowAt.first {w : World} {a : Option Addr} {n cap m : Nat} {xs ys : List Value} (h : RowAt w (.slice a n cap) n (xs ++ ys)) (hm : m ≤ n) : RowAt w (.slice a m cap) m xs := by
  refine ⟨⟨_, _, rfl⟩, fun h0 => ?_, fun ao m' cap' e => ?_⟩
  · obtain ⟨b, off, cap', e, hb, hc⟩ := h.cells (by omega)
    simp at e
    obtain ⟨rfl, rfl⟩ := e
    exact ⟨b, off, cap, rfl, hb, fun j x hx => hc j x (by rw [List.getElem?_append_left (get_lt hx)]; exact hx)⟩
  · simp at e
    obtain ⟨rfl, rfl, rfl⟩ := e
    have := h.room _ _ _ rfl
    omega
theorem FldsAt.first {w : World} {a : Option Addr} {cap : Nat} {l : List FieldA} (h : FldsAt w (.slice a l.length cap) l) (k : Nat) (hk : k ≤ l.length) : FldsAt w (.slice a k cap) (l.take k) := by
  have e : fcs l = fcs (l.take k) ++ fcs (l.drop k) := by unfold fcs; rw [← List.flatMap_append, List.take_append_drop]
  unfold FldsAt at *
  rw [e] at h
  rw [List.length_take, Nat.min_eq_left hk]
  exact h.first hk

theorem fieldOK_form (f : FieldA) : fieldOK f = (nameB f.name && decide (0 ≤ wideB f.type)) := rfl
theorem namedB_false {l : List FieldA} {nm : Txt} (h : namedB l nm = false) : ∀ g ∈ l, g.name ≠ nm := by
  intro g hg
  have := List.any_eq_false.1 h g hg
  simpa using this
theorem namedB_true {l : List FieldA} {k : Nat} {f : FieldA} (hf : l[k]? = some f) (h : namedB (l.take k) f.name = true) : schemaB l = false := by
  obtain ⟨g, hg, e⟩ := List.any_eq_true.1 h
  simp only [decide_eq_true_eq] at e
  obtain ⟨j, hj⟩ := List.getElem?_of_mem hg
  rw [List.getElem?_take] at hj
  split at hj
  · rename_i hlt
    exact schemaB_twice hf hj hlt e
  · cases hj

end Go.Proofs.YtbgapbaeegloaaaDoor
