import Derived.Test.YtbgapbaeegloaaaDoorTl
import Derived.Test.YtbgapbaeegloaaaDoorTn
namespace Go.Proofs.YtbgapbaeegloaaaDoor
open Go.ChangeShapes Go.WideShapes Go.ChangeAt Go.RowKit Go.Deep

section
variable {H : Type} {enc : TypeId × Value → H} {W : World} {fuel : Nat}
theorem slice_room {t e : TypeId} {B : Nat} {c : Value} {x : DataW H × List MemPlace} (ht : Tryd.prog.underlying t = some (.slice e)) (hb : Tryd.prog.bytesOf e = B) (h : DataW.trod enc Tryd.prog W 0 (fun _ => true) true fuel t [c] = some x) (hw : ∀ n ∈ x.1.weights Tryd.prog t, n ≤ reachBytes) :
    ∃ a0 len cap, c = .slice a0 len cap ∧ len * B ≤ 140737488351232 := by
  rcases open_slice ht h with ⟨hcs, _⟩ | ⟨a, l, cp, m, n, D, Pl, hcs, _, hl, hm, hmm, hx, hel⟩
  · simp at hcs
    exact ⟨_, _, _, hcs, by omega⟩
  · simp at hcs
    refine ⟨_, _, _, hcs, ?_⟩
    have := hw _ (by rw [hx]; simp only [DataW.weights, ht]; exact List.mem_cons_self)
    rw [hb] at this
    simp [reachBytes] at this
    exact Nat.le_trans (Nat.mul_le_mul_right B (Nat.le_add_right l _)) this
theorem int_of {cs : List Value} {x : DataW H × List MemPlace} (h : DataW.trod enc Tryd.prog W 0 (fun _ => true) true fuel 3 cs = some x) : ∃ c : Int, cs = [.int .i64 c] ∧ True := by
  obtain ⟨b, rfl, _, hw⟩ := DataW.trod_int Tryd.underlying3 h
  exact ⟨b, rfl, trivial⟩
theorem ints_in {c : Value} {x : DataW H × List MemPlace} (h : DataW.trod enc Tryd.prog W 0 (fun _ => true) true fuel 35 [c] = some x) : ∃ l : List Int, RowAt W c l.length (l.map fun n => Value.int .i64 n) := by
  obtain ⟨l, hl, _⟩ := rowsOf (fun c : Int => [Value.int .i64 c]) 1 (by omega) (fun _ => rfl) Tryd.underlying35 e3 (Q := fun _ => True) (fun _ _ _ h => int_of h) h
  refine ⟨l, ?_⟩
  have e : (l.map fun n => Value.int .i64 n) = l.flatMap (fun c : Int => [Value.int .i64 c]) := by
    clear hl
    induction l with
    | nil => rfl
    | cons a r ih => simp [ih]
  rw [e]
  exact hl
end
end Go.Proofs.YtbgapbaeegloaaaDoor
