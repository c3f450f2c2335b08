import Derived.Test.YtklkhegeeglfbaaGreatDoorJf
namespace Go.Proofs.YtklkhegeeglfbaaGreatDoor
open Go.RowKit Go.Maps

theorem flat_le {α β : Type} (g : α → List β) (m : Nat) : ∀ l : List α, (∀ x ∈ l, (g x).length ≤ m) → (l.flatMap g).length ≤ m * l.length
  | [], _ => by simp
  | x :: r, h => by
    have h1 := flat_le g m r (fun y hy => h y (List.mem_cons_of_mem _ hy))
    have h2 := h x (List.mem_cons_self ..)
    simp only [List.flatMap_cons, List.length_append, List.length_cons, Nat.mul_add]
    omega
theorem bs_append (a b : Txt) : bs (a ++ b) = bs a ++ bs b := by simp [bs]
theorem ret_vi {v u : Value} {k : IntKind} {a b : Int} (h : v = u) (h2 : a = b) : Ending.returned (.tuple #[v, .int k a]) = .returned (.tuple #[u, .int k b]) := by rw [h, h2]
/-- What Encode has written ahead of value k. -/
def encTo (l : List FieldA) (r : List ValA) (k : Nat) : Txt := headT (l.zip r) ++ (r.take k).flatMap enc1
theorem encTo_snoc {l : List FieldA} {r : List ValA} {k : Nat} {x : ValA} (h : r[k]? = some x) : encTo l r (k + 1) = encTo l r k ++ enc1 x := by
  unfold encTo
  rw [take_snoc _ _ _ h, List.flatMap_append]
  simp
theorem headT_le (z : List (FieldA × ValA)) : (headT z).length ≤ 1 := by unfold headT; split <;> simp
theorem encTo_le {l : List FieldA} {r : List ValA} (hl : r.length = l.length) (hf : fitAll l r = true) (hI : InR r) (k : Nat) : (encTo l r k).length ≤ 1 + 21 * r.length := by
  unfold encTo
  have h1 := headT_le (l.zip r)
  have h2 := flat_le enc1 21 (r.take k) (fun x hx => by
    obtain ⟨i, hi⟩ := List.mem_iff_getElem?.1 (List.mem_of_mem_take hx)
    have := get_lt hi
    exact enc1_length (fitAll_at hf (List.getElem?_eq_getElem (by omega)) hi) (hI x (List.mem_of_mem_take hx)))
  rw [List.length_take] at h2
  rw [List.length_append]
  have : 21 * min k r.length ≤ 21 * r.length := Nat.mul_le_mul_left _ (Nat.min_le_right _ _)
  omega
theorem enc1_none {x : ValA} (h : x.kind = 0) : enc1 x = [] := by simp [enc1, h]
theorem enc1_int {x : ValA} (h : x.kind = 1) : enc1 x = groups (tn x.n) := by simp [enc1, h]
theorem enc1_bool {x : ValA} (h : x.kind = 2) : enc1 x = [UInt8.ofNat x.n.toNat] := by simp [enc1, h]
theorem enc1_bytes {x : ValA} (h : x.kind = 3) : enc1 x = UInt8.ofNat x.s.length :: x.s := by simp [enc1, h]

theorem errR_cases (l : List FieldA) (r : List ValA) : errR l r = 0 ∨ errR l r = 60 ∨ errR l r = 61 := by
  unfold errR
  repeat' split
  all_goals simp

theorem Keeps.narrowS {F : Nat → Prop} {a b c : World} (h : Keeps (fun _ => False) a b) (k : Keeps F b c) (hF : ∀ i, F i → a.heap.size ≤ i) : Keeps (fun _ => False) a c := h.narrow k hF

end Go.Proofs.YtklkhegeeglfbaaGreatDoor
