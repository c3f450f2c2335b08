import Derived.Test.YtgdabnkjipcbhaaGreatDoorPb
namespace Go.Proofs.YtgdabnkjipcbhaaGreatDoor
open Go.RowKit Go.Maps

/-- Texts with a blank between them. -/
def joinB : List Txt → Txt
  | [] => []
  | a :: r => a ++ r.flatMap (fun x => 32 :: x)
def joinTo (a : Txt) (r : List Txt) (k : Nat) : Txt := a ++ (r.take k).flatMap (fun x => 32 :: x)
theorem joinTo_snoc {a x : Txt} {r : List Txt} {k : Nat} (h : r[k]? = some x) : joinTo a r (k + 1) = joinTo a r k ++ [32] ++ x := by
  unfold joinTo
  rw [take_snoc _ _ _ h, List.flatMap_append]
  simp
theorem joinTo_le {a : Txt} {r : List Txt} (ha : a.length ≤ 700000000000) (hr : ∀ x ∈ r, x.length ≤ 700000000000) (k : Nat) : (joinTo a r k).length ≤ 700000000000 + 700000000001 * r.length := by
  have h2 : ∀ l : List Txt, (∀ x ∈ l, x.length ≤ 700000000000) → (l.flatMap (fun x => 32 :: x)).length ≤ 700000000001 * l.length := by
    intro l
    induction l with
    | nil => simp
    | cons y s ih =>
      intro h
      have h3 := ih (fun x hx => h x (List.mem_cons_of_mem _ hx))
      have h4 := h y (List.mem_cons_self ..)
      simp only [List.flatMap_cons, List.length_append, List.length_cons]
      omega
  have h3 := h2 (r.take k) (fun x hx => hr x (List.mem_of_mem_take hx))
  rw [List.length_take] at h3
  have : 700000000001 * min k r.length ≤ 700000000001 * r.length := Nat.mul_le_mul_left _ (Nat.min_le_right _ _)
  unfold joinTo
  rw [List.length_append]
  omega

set_option maxRecDepth 100000 in
theorem join_one (g off cap : Nat) (a : Txt) (w : World) (h : w.cell? ⟨g, off, none⟩ = some (str a)) : Calls Tryz.prog 16 #[.slice (some ⟨g, off, none⟩) 1 cap, str [32]] w fun e w' => e = .returned (str a) ∧ Keeps (fun _ => False) w w' := by
  go_enter Tryz.func16, Tryz.ntmps16
  go_wp2_with fail
  go_ret
  exact ⟨rfl, Keeps.refl _ _⟩

set_option maxRecDepth 100000 in
set_option maxHeartbeats 2000000 in
theorem join_more (g off cap m : Nat) (a : Txt) (r : List Txt) (w : World) (hm : m = r.length + 1) (hr1 : 1 ≤ r.length) (hr8 : r.length ≤ 7) (hg : g < w.heap.size) (hcap : m ≤ cap) (h0 : w.cell? ⟨g, off, none⟩ = some (str a)) (h : ∀ i x, r[i]? = some x → w.cell? ⟨g, off + 1 + i, none⟩ = some (str x)) (ha : a.length ≤ 700000000000) (hr : ∀ x ∈ r, x.length ≤ 700000000000) :
    Calls Tryz.prog 16 #[.slice (some ⟨g, off, none⟩) m cap, str [32]] w fun e w' => e = .returned (str (a ++ r.flatMap (fun x => 32 :: x))) ∧ Keeps (fun _ => False) w w' := by
  have HH := hide h
  have HR := hide hr
  obtain ⟨n, hn⟩ : ∃ n, n = r.length := ⟨_, rfl⟩
  rw [← hn] at hm hr1 hr8
  have HN := hide hn
  have hq : ¬ ((9223372036854775807 : Int) / (n : Int) ≤ 1) := by
    rcases (by omega : n = 1 ∨ n = 2 ∨ n = 3 ∨ n = 4 ∨ n = 5 ∨ n = 6 ∨ n = 7) with rfl | rfl | rfl | rfl | rfl | rfl | rfl <;> omega
  clear h hr hn
  go_enter Tryz.func16, Tryz.ntmps16
  go_wp2_with fail
  clear hq
  obtain ⟨D, hD⟩ : ∃ D : Int, D = 9223372036854775807 / (n : Int) := ⟨_, rfl⟩
  rw [← hD]
  clear hD
  go_loopw [5, 41] (fun t i wr => ∃ (k N : Nat), k ≤ n + 1 ∧ N ≤ 8 + 700000000000 * k ∧ i = .int .i64 k ∧ t = .int .i64 N ∧ wr = w) (fun _ i _ => n + 1 - (intOf i).toNat)
  case atStart => exact ⟨0, n, by omega, by omega, rfl, by go_num, rfl⟩
  case round =>
    obtain ⟨k, N, hk, hN, rfl, rfl, rfl⟩ := hrel
    by_cases hlt : k < n + 1
    · obtain ⟨x, hx, hxl⟩ : ∃ x, wr.cell? ⟨g, off + k, none⟩ = some (str x) ∧ x.length ≤ 700000000000 := by
        cases k with
        | zero => exact ⟨a, h0, ha⟩
        | succ j =>
          have hjl : j < r.length := by have := unhide HN; omega
          have hj : r[j]? = some r[j] := List.getElem?_eq_getElem hjl
          refine ⟨_, ?_, (unhide HR) _ (List.mem_of_getElem? hj)⟩
          have h := (unhide HH) j _ hj
          rwa [show off + 1 + j = off + (j + 1) by omega] at h
      go_wp2_with fail
      go_roundw
      case rel => exact ⟨k + 1, N + x.length, by omega, by omega, by go_num, by go_num, trivial⟩
      case measure => simp [intOf]; omega
    · obtain rfl : k = n + 1 := by omega
      have hNN : N ≤ 281474976710656 := Nat.le_trans hN (Nat.le_trans (Nat.add_le_add_left (Nat.mul_le_mul_left _ (show n + 1 ≤ 8 by omega)) 8) (by decide))
      go_wp2_with fail
      obtain ⟨hbk, hA⟩ : (wr.alloc (.cells #[.pointer none, .slice none 0 0] 64)).heap[wr.heap.size]? = some (.cells #[.pointer none, .slice none 0 0] 64 (0, 0)) ∧ Below wr.heap.size wr (wr.alloc (.cells #[.pointer none, .slice none 0 0] 64)) := ⟨heap_alloc_new wr _, (Below.refl _ _).alloc (Nat.le_refl _) _⟩
      refine (Tryz.Builder_Grow_fresh wr.heap.size wr.heap.size N _ (Nat.le_refl _) hbk hA.size hNN).mono ?_
      rintro e w2 ⟨rfl, hb2, hl2⟩
      have HL2 := hide (Below.trans hA hl2)
      have hb2' : Bld wr.heap.size wr.heap.size [] w2 := hb2
      have HB2 : Hid (Lib.IsBuilder 64 5 wr.heap.size wr.heap.size (bs []) w2) := hide (Or.inr hb2')
      have d0 : w2.cell? ⟨g, off, none⟩ = some (str a) := by rw [(Keeps.ofBelow (unhide HL2)).cell hg id]; exact h0
      clear hb2 hb2' hl2 hA hbk
      go_wp2_with fail
      refine (writeString_v _ _ _ a _ (unhide HB2) (by simp; omega) (unhide HL2).size).mono ?_
      rintro e w3 ⟨rfl, hb3, hl3⟩
      have HL3 := hide (Below.trans (unhide HL2) (below_kb hl3 (Nat.le_refl _) (unhide HL2).size))
      have HB3 := hide hb3
      clear hb3 hl3 HL2 HB2 d0
      go_wp2_with fail
      go_loopw [65] (fun i wq => ∃ (k : Nat) (A : Txt), k ≤ n ∧ i = .int .i64 k ∧ Hid (A = joinTo a r k) ∧ Lib.IsBuilder 64 5 wr.heap.size wr.heap.size (bs A) wq ∧ Below wr.heap.size wr wq) (fun i _ => n - (intOf i).toNat)
      case atStart => exact ⟨0, a, by omega, rfl, by simp [Hid, joinTo], unhide HB3, unhide HL3⟩
      case round =>
        clear HL3 HB3
        obtain ⟨k, A, hk, rfl, HA, hb, hl⟩ := hrel
        have HB := hide hb
        have HL := hide hl
        have s0 := hl.size
        have hAl : A.length ≤ 5600000000008 := by rw [unhide HA]; have := joinTo_le ha (unhide HR) k; have := unhide HN; omega
        clear hb hl
        by_cases hlt : k < n
        · have hkl : k < r.length := by have := unhide HN; omega
          obtain ⟨x, hx⟩ : ∃ x, r[k]? = some x := ⟨_, List.getElem?_eq_getElem hkl⟩
          have hxl := (unhide HR) x (List.mem_of_getElem? hx)
          have hc := ((Keeps.ofBelow (unhide HL)).cell hg id).trans ((unhide HH) k x hx)
          have HS := hide (joinTo_snoc (a := a) hx)
          clear hx hkl
          go_wp2_with fail
          refine (writeString_v _ _ _ [32] _ (unhide HB) (by simp; omega) s0).mono ?_
          rintro e w4 ⟨rfl, hb4, hl4⟩
          have HL4 := hide (Below.trans (unhide HL) (below_kb hl4 (Nat.le_refl _) s0))
          have HB4 := hide hb4
          clear hb4 hl4
          go_wp2_with fail
          refine (writeString_v _ _ _ x _ (unhide HB4) (by simp; omega) (unhide HL4).size).mono ?_
          rintro e w5 ⟨rfl, hb5, hl5⟩
          have HL5 := hide (Below.trans (unhide HL4) (below_kb hl5 (Nat.le_refl _) (unhide HL4).size))
          have HB5 := hide hb5
          clear hb5 hl5
          go_wp2_with fail
          go_roundw
          case rel => exact ⟨k + 1, _, by omega, by go_num, by show _ = _; rw [unhide HS, unhide HA], unhide HB5, unhide HL5⟩
          case measure => simp [intOf]; omega
        · obtain rfl : k = n := by omega
          have HS := hide (string_v _ _ _ _ (unhide HB) s0)
          have HQ : Hid (a ++ r.flatMap (fun x => 32 :: x) = A) := by show _ = _; rw [unhide HA, unhide HN]; unfold joinTo; rw [List.take_length]
          go_wp2_with fail
          refine (unhide HS).mono ?_
          rintro e w5 ⟨rfl, hl5⟩
          have HL5 := hide (Below.trans (unhide HL) hl5)
          clear hl5
          go_wp2_with fail
          go_ret
          exact ⟨by rw [unhide HQ]; rfl, Keeps.ofBelow (unhide HL5)⟩
end Go.Proofs.YtgdabnkjipcbhaaGreatDoor
