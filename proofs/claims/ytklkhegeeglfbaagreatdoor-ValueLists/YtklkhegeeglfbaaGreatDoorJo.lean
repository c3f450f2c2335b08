import Derived.Test.YtklkhegeeglfbaaGreatDoorJk
import Derived.Test.YtklkhegeeglfbaaGreatDoorJn
import Derived.Test.YtklkhegeeglfbaaGreatDoorJg
import Derived.Deep.RegionHeld3
namespace Go.Proofs.YtklkhegeeglfbaaGreatDoor
open Go.RowKit Go.Maps

/-- Texts with a comma between them. -/
def joinB : List Txt → Txt
  | [] => []
  | a :: r => a ++ r.flatMap (fun x => 44 :: x)
def joinTo (a : Txt) (r : List Txt) (k : Nat) : Txt := a ++ (r.take k).flatMap (fun x => 44 :: x)
theorem joinTo_snoc {a x : Txt} {r : List Txt} {k : Nat} (h : r[k]? = some x) : joinTo a r (k + 1) = joinTo a r k ++ [44] ++ x := by
  unfold joinTo
  rw [take_snoc _ _ _ h, List.flatMap_append]
  simp
theorem joinTo_le {a : Txt} {r : List Txt} (ha : a.length ≤ 200) (hr : ∀ x ∈ r, x.length ≤ 200) (k : Nat) : (joinTo a r k).length ≤ 200 + 201 * r.length := by
  have h2 : ∀ l : List Txt, (∀ x ∈ l, x.length ≤ 200) → (l.flatMap (fun x => 44 :: x)).length ≤ 201 * l.length := by
    intro l
    induction l with
    | nil => simp
    | cons y s ih =>
      intro h
      have h3 := ih (fun x hx => h x (List.mem_cons_of_mem _ hx))
      have h4 := h y (List.mem_cons_self ..)
      simp only [List.flatMap_cons, List.length_append, List.length_cons]
      omega
  have h3 := h2 (r.take k) (fun x hx => hr x (List.mem_of_mem_take hx))
  rw [List.length_take] at h3
  have : 201 * min k r.length ≤ 201 * r.length := Nat.mul_le_mul_left _ (Nat.min_le_right _ _)
  unfold joinTo
  rw [List.length_append]
  omega

set_option maxRecDepth 100000 in
theorem join_nil (ao : Option Addr) (cap : Nat) (w : World) : Calls Tryz.prog 57 #[.slice ao 0 cap, str [44]] w fun e w' => e = .returned (str []) ∧ Keeps (fun _ => False) w w' := by
  go_enter Tryz.func57, Tryz.ntmps57
  go_wp2_with fail
  go_ret
  exact ⟨rfl, Keeps.refl _ _⟩
set_option maxRecDepth 100000 in
theorem join_one (g off cap : Nat) (a : Txt) (w : World) (h : w.cell? ⟨g, off, none⟩ = some (str a)) : Calls Tryz.prog 57 #[.slice (some ⟨g, off, none⟩) 1 cap, str [44]] w fun e w' => e = .returned (str a) ∧ Keeps (fun _ => False) w w' := by
  go_enter Tryz.func57, Tryz.ntmps57
  go_wp2_with fail
  go_ret
  exact ⟨rfl, Keeps.refl _ _⟩

set_option maxRecDepth 100000 in
set_option maxHeartbeats 1000000 in
theorem join_more (g off cap m : Nat) (a : Txt) (r : List Txt) (w : World) (hm : m = r.length + 1) (hr1 : 1 ≤ r.length) (hr8 : r.length ≤ 7) (hg : g < w.heap.size) (hcap : m ≤ cap) (h0 : w.cell? ⟨g, off, none⟩ = some (str a)) (h : ∀ i x, r[i]? = some x → w.cell? ⟨g, off + 1 + i, none⟩ = some (str x)) (ha : a.length ≤ 200) (hr : ∀ x ∈ r, x.length ≤ 200) :
    Calls Tryz.prog 57 #[.slice (some ⟨g, off, none⟩) m cap, str [44]] w fun e w' => e = .returned (str (a ++ r.flatMap (fun x => 44 :: x))) ∧ Keeps (fun _ => False) w w' := by
  have HH := hide h
  have HR := hide hr
  obtain ⟨n, hn⟩ : ∃ n, n = r.length := ⟨_, rfl⟩
  rw [← hn] at hm hr1 hr8
  have HN := hide hn
  have hq : ¬ ((9223372036854775807 : Int) / (n : Int) ≤ 1) := by
    rcases (by omega : n = 1 ∨ n = 2 ∨ n = 3 ∨ n = 4 ∨ n = 5 ∨ n = 6 ∨ n = 7) with rfl | rfl | rfl | rfl | rfl | rfl | rfl <;> omega
  clear h hr hn
  go_enter Tryz.func57, Tryz.ntmps57
  go_wp2_with fail
  clear hq
  obtain ⟨D, hD⟩ : ∃ D : Int, D = 9223372036854775807 / (n : Int) := ⟨_, rfl⟩
  rw [← hD]
  clear hD
  go_loopw [5, 41] (fun t i wr => ∃ (k N : Nat), k ≤ n + 1 ∧ N ≤ 8 + 200 * k ∧ i = .int .i64 k ∧ t = .int .i64 N ∧ wr = w) (fun _ i _ => n + 1 - (intOf i).toNat)
  case atStart => exact ⟨0, n, by omega, by omega, rfl, by go_num, rfl⟩
  case round =>
    obtain ⟨k, N, hk, hN, rfl, rfl, rfl⟩ := hrel
    by_cases hlt : k < n + 1
    · obtain ⟨x, hx, hxl⟩ : ∃ x, wr.cell? ⟨g, off + k, none⟩ = some (str x) ∧ x.length ≤ 200 := by
        cases k with
        | zero => exact ⟨a, h0, ha⟩
        | succ j =>
          have hjl : j < r.length := by have := unhide HN; omega
          have hj : r[j]? = some r[j] := List.getElem?_eq_getElem hjl
          refine ⟨_, ?_, (unhide HR) _ (List.mem_of_getElem? hj)⟩
          have h := (unhide HH) j _ hj
          rwa [show off + 1 + j = off + (j + 1) by omega] at h
      go_wp2_with fail
      go_roundw
      case rel => exact ⟨k + 1, N + x.length, by omega, by omega, by go_num, by go_num, trivial⟩
      case measure => simp [intOf]; omega
    · obtain rfl : k = n + 1 := by omega
      go_wp2_with fail
      obtain ⟨hbk, hA⟩ : (wr.alloc (.cells #[.pointer none, .slice none 0 0] 123)).heap[wr.heap.size]? = some (.cells #[.pointer none, .slice none 0 0] 123 (0, 0)) ∧ Below wr.heap.size wr (wr.alloc (.cells #[.pointer none, .slice none 0 0] 123)) := ⟨heap_alloc_new wr _, (Below.refl _ _).alloc (Nat.le_refl _) _⟩
      refine (Tryz.Builder_Grow_fresh wr.heap.size wr.heap.size N _ (Nat.le_refl _) hbk hA.size (by omega)).mono ?_
      rintro e w2 ⟨rfl, hb2, hl2⟩
      have HL2 := hide (Below.trans hA hl2)
      have HB2 : Hid (Bld wr.heap.size wr.heap.size [] w2) := hb2
      have d0 : w2.cell? ⟨g, off, none⟩ = some (str a) := by rw [(Keeps.ofBelow (unhide HL2)).cell hg id]; exact h0
      clear hb2 hl2 hA hbk
      go_wp2_with fail
      refine (writeString_v _ _ _ a _ (unhide HB2) (by simp; omega) (unhide HL2).size).mono ?_
      rintro e w3 ⟨rfl, hb3, hl3⟩
      have HL3 := hide (Below.trans (unhide HL2) hl3)
      have HB3 := hide hb3
      clear hb3 hl3 HL2 HB2 d0
      go_wp2_with fail
      go_loopw [65] (fun i wq => ∃ (k : Nat) (A : Txt), k ≤ n ∧ i = .int .i64 k ∧ Hid (A = joinTo a r k) ∧ Bld wr.heap.size wr.heap.size A wq ∧ Below wr.heap.size wr wq) (fun i _ => n - (intOf i).toNat)
      case atStart => exact ⟨0, a, by omega, rfl, by simp [Hid, joinTo], unhide HB3, unhide HL3⟩
      case round =>
        clear HL3 HB3
        obtain ⟨k, A, hk, rfl, HA, hb, hl⟩ := hrel
        have HB := hide hb
        have HL := hide hl
        have s0 := hl.size
        have hAl : A.length ≤ 1607 := by rw [unhide HA]; have := joinTo_le ha (unhide HR) k; have := unhide HN; omega
        have hA0 : 0 < A.length ∨ k = 0 := by
          rcases Nat.eq_zero_or_pos k with h | h
          · exact .inr h
          · left
            obtain ⟨j, rfl⟩ : ∃ j, k = j + 1 := ⟨k - 1, by omega⟩
            have hjl : j < r.length := by have := unhide HN; omega
            rw [unhide HA, joinTo_snoc (List.getElem?_eq_getElem hjl)]
            simp only [List.length_append, List.length_cons, List.length_nil]
            omega
        clear hb hl
        by_cases hlt : k < n
        · have hkl : k < r.length := by have := unhide HN; omega
          obtain ⟨x, hx⟩ : ∃ x, r[k]? = some x := ⟨_, List.getElem?_eq_getElem hkl⟩
          have hxl := (unhide HR) x (List.mem_of_getElem? hx)
          have hc := ((Keeps.ofBelow (unhide HL)).cell hg id).trans ((unhide HH) k x hx)
          have HS := hide (joinTo_snoc (a := a) hx)
          clear hx hkl hA0
          go_wp2_with fail
          refine (writeString_v _ _ _ [44] _ (unhide HB) (by simp; omega) s0).mono ?_
          rintro e w4 ⟨rfl, hb4, hl4⟩
          have HL4 := hide (Below.trans (unhide HL) hl4)
          have HB4 := hide hb4
          clear hb4 hl4
          go_wp2_with fail
          refine (writeString_v _ _ _ x _ (unhide HB4) (by simp; omega) (unhide HL4).size).mono ?_
          rintro e w5 ⟨rfl, hb5, hl5⟩
          have HL5 := hide (Below.trans (unhide HL4) hl5)
          have HB5 := hide hb5
          clear hb5 hl5
          go_wp2_with fail
          go_roundw
          case rel => exact ⟨k + 1, _, by omega, by go_num, by show _ = _; rw [unhide HS, unhide HA], unhide HB5, unhide HL5⟩
          case measure => simp [intOf]; omega
        · obtain rfl : k = n := by omega
          have HS := hide (string_v _ _ _ _ (unhide HB) (by rintro rfl; simp at hA0; omega))
          have HQ : Hid (a ++ r.flatMap (fun x => 44 :: x) = A) := by show _ = _; rw [unhide HA, unhide HN]; unfold joinTo; rw [List.take_length]
          go_wp2_with fail
          refine (unhide HS).mono ?_
          rintro e w5 ⟨rfl, hl5⟩
          have HL5 := hide (Below.trans (unhide HL) hl5)
          clear hl5
          go_wp2_with fail
          go_ret
          exact ⟨by rw [unhide HQ]; rfl, Keeps.ofBelow (unhide HL5)⟩
end Go.Proofs.YtklkhegeeglfbaaGreatDoor
namespace Go.Proofs.YtklkhegeeglfbaaGreatDoor
open Go.RowKit Go.Maps

theorem join_v {w : World} {B n : Nat} {v : Value} (L : List Txt) (h : w.ownsRow B 9 1 v n (L.map str)) (hn : n = L.length) (h8 : n ≤ 8) (hl : ∀ x ∈ L, x.length ≤ 200) :
    Calls Tryz.prog 57 #[v, str [44]] w fun e w' => e = .returned (str (joinB L)) ∧ Keeps (fun _ => False) w w' := by
  have hlt := h.lt
  rcases h with ⟨_, h⟩
  rcases h with ⟨rfl, h0⟩ | ⟨g, cap, cur, rfl, hB, hg, hc1, hc2, hc3, hc4⟩
  · obtain rfl : L = [] := List.eq_nil_of_length_eq_zero (by omega)
    exact join_nil none 0 w
  · have hcell : ∀ i x, L[i]? = some x → w.cell? ⟨g, i, none⟩ = some (str x) := by
      intro i x hx
      have h1 : (cur.toList.take (n * 1))[i]? = some (str x) := by rw [hc4, List.getElem?_map, hx]; rfl
      have h2 : cur[i]? = some (str x) := by
        rw [List.getElem?_take] at h1
        split at h1
        · simpa using h1
        · cases h1
      simp [World.cell?, hg, h2]
    have hgl : g < w.heap.size := (hlt g rfl).2
    match L, hn, hl, hcell with
    | [], hn, _, _ => subst hn; exact join_nil _ _ w
    | [a], hn, _, hcell => subst hn; simpa [joinB] using join_one g 0 cap a w (hcell 0 a rfl)
    | a :: b :: r, hn, hl, hcell =>
      subst hn
      exact join_more g 0 cap _ a (b :: r) w rfl (by simp) (by simp at h8 ⊢; omega) hgl hc1 (hcell 0 a rfl) (fun i x hx => by have := hcell (i + 1) x (by simpa using hx); rwa [show 0 + 1 + i = i + 1 by omega]) (hl a (by simp)) (fun x hx => hl x (List.mem_cons_of_mem _ hx))

/-- The texts of the fields that hold a value. -/
def items (z : List (FieldA × ValA)) : List Txt := z.flatMap fun p => if p.2.kind = 0 then [] else [p.1.name ++ [61] ++ shownB p.2]
theorem items_snoc (z : List (FieldA × ValA)) (p : FieldA × ValA) : items (z ++ [p]) = items z ++ (if p.2.kind = 0 then [] else [p.1.name ++ [61] ++ shownB p.2]) := by
  unfold items
  rw [List.flatMap_append]
  simp
theorem items_len (z : List (FieldA × ValA)) : (items z).length ≤ z.length := by
  induction z with
  | nil => simp [items]
  | cons p r ih =>
    have e : items (p :: r) = (if p.2.kind = 0 then [] else [p.1.name ++ [61] ++ shownB p.2]) ++ items r := by simp [items]
    rw [e]
    split <;> simp <;> omega
theorem items_mem {z : List (FieldA × ValA)} {x : Txt} (h : x ∈ items z) : ∃ p ∈ z, x = p.1.name ++ [61] ++ shownB p.2 := by
  unfold items at h
  obtain ⟨p, hp, hx⟩ := List.mem_flatMap.1 h
  split at hx
  · simp at hx
  · exact ⟨p, hp, by simpa using hx⟩
def printP (l : List FieldA) (r : List ValA) : Txt := if errR l r = 0 then [123] ++ joinB (items (l.zip r)) ++ [125] else []
end Go.Proofs.YtklkhegeeglfbaaGreatDoor
