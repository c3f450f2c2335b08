import Derived.Test.YtabjomgikljdhaaDoorQa
import Derived.Test.YtabjomgikljdhaaDoorQb
import Derived.Test.YtabjomgikljdhaaDoorNj
import Derived.Deep.RegionHeld3
namespace Go.Proofs.YtabjomgikljdhaaDoor
open Go.RowKit Go.Maps

theorem join_v {w : World} {B n : Nat} {v : Value} (L : List Txt) (h : w.ownsRow B 9 1 v n (L.map str)) (hn : n = L.length) (h8 : n ≤ 8) (hl : ∀ x ∈ L, x.length ≤ 200) :
    Calls Tryd.prog 46 #[v, str [44]] w fun e w' => e = .returned (str (joinB L)) ∧ Keeps (fun _ => False) w w' := by
  have hlt := h.lt
  rcases h with ⟨_, h⟩
  rcases h with ⟨rfl, h0⟩ | ⟨g, cap, cur, rfl, hB, hg, hc1, hc2, hc3, hc4⟩
  · obtain rfl : L = [] := List.eq_nil_of_length_eq_zero (by omega)
    exact join_nil none 0 w
  · have hcell : ∀ i x, L[i]? = some x → w.cell? ⟨g, i, none⟩ = some (str x) := by
      intro i x hx
      have h1 : (cur.toList.take (n * 1))[i]? = some (str x) := by rw [hc4, List.getElem?_map, hx]; rfl
      have h2 : cur[i]? = some (str x) := by
        rw [List.getElem?_take] at h1
        split at h1
        · simpa using h1
        · cases h1
      simp [World.cell?, hg, h2]
    have hgl : g < w.heap.size := (hlt g rfl).2
    match L, hn, hl, hcell with
    | [], hn, _, _ => subst hn; exact join_nil _ _ w
    | [a], hn, _, hcell => subst hn; simpa [joinB] using join_one g 0 cap a w (hcell 0 a rfl)
    | a :: b :: r, hn, hl, hcell =>
      subst hn
      exact join_more g 0 cap _ a (b :: r) w rfl (by simp) (by simp at h8 ⊢; omega) hgl hc1 (hcell 0 a rfl) (fun i x hx => by have := hcell (i + 1) x (by simpa using hx); rwa [show 0 + 1 + i = i + 1 by omega]) (hl a (by simp)) (fun x hx => hl x (List.mem_cons_of_mem _ hx))

/-- The texts of the fields that hold a value. -/
def items (z : List (FieldA × ValA)) : List Txt := z.flatMap fun p => if p.2.kind = 0 then [] else [p.1.name ++ [61] ++ shownB p.2]
theorem items_snoc (z : List (FieldA × ValA)) (p : FieldA × ValA) : items (z ++ [p]) = items z ++ (if p.2.kind = 0 then [] else [p.1.name ++ [61] ++ shownB p.2]) := by
  unfold items
  rw [List.flatMap_append]
  simp
theorem items_len (z : List (FieldA × ValA)) : (items z).length ≤ z.length := by
  induction z with
  | nil => simp [items]
  | cons p r ih =>
    have e : items (p :: r) = (if p.2.kind = 0 then [] else [p.1.name ++ [61] ++ shownB p.2]) ++ items r := by simp [items]
    rw [e]
    split <;> simp <;> omega
theorem items_mem {z : List (FieldA × ValA)} {x : Txt} (h : x ∈ items z) : ∃ p ∈ z, x = p.1.name ++ [61] ++ shownB p.2 := by
  unfold items at h
  obtain ⟨p, hp, hx⟩ := List.mem_flatMap.1 h
  split at hx
  · simp at hx
  · exact ⟨p, hp, by simpa using hx⟩
def printP (l : List FieldA) (r : List ValA) : Txt := if errR l r = 0 then [123] ++ joinB (items (l.zip r)) ++ [125] else []
end Go.Proofs.YtabjomgikljdhaaDoor
