import Derived.Test.YtbgapbaeegloaabGreatDoorMb
import Derived.Test.YtbgapbaeegloaabGreatDoorRc
namespace Go.Proofs.YtbgapbaeegloaabGreatDoor
open Go.RowKit Go.Maps

/-- Texts in a row of a block. -/
def TxtsAt (w : World) (g : Nat) (L : List Txt) : Prop := g < w.heap.size ∧ ∀ i x, L[i]? = some x → w.cell? ⟨g, i, none⟩ = some (str x)
theorem TxtsAt.keepF {w w' : World} {g : Nat} {L : List Txt} (h : TxtsAt w g L) (k : Keeps (fun _ => False) w w') : TxtsAt w' g L := ⟨Nat.lt_of_lt_of_le h.1 k.size, fun i x hx => (k.cell h.1 id).trans (h.2 i x hx)⟩

set_option maxRecDepth 100000 in
theorem index_v (w : World) (g cap n : Nat) (L : List Txt) (h : TxtsAt w g L) (hn : n = L.length) (hl : n ≤ 1000) :
    Calls Tryz.prog 59 #[.slice (some ⟨g, 0, none⟩) n cap, str []] w fun e w' => (∃ i : Int, e = .returned (.int .i64 i) ∧ decide (0 ≤ i) = L.any (fun x => decide (x = []))) ∧ w' = w := by
  have HH := hide h
  have HN := hide hn
  clear h hn
  go_enter Tryz.func59, Tryz.ntmps59
  go_wp2_with fail
  go_loopw [8] (fun i wr => ∃ k : Nat, k ≤ n ∧ i = .int .i64 k ∧ Hid ((L.take k).any (fun x => decide (x = [])) = false) ∧ wr = w) (fun i _ => n - (intOf i).toNat)
  case atStart => exact ⟨0, Nat.zero_le _, rfl, by simp [Hid], rfl⟩
  case round =>
    obtain ⟨k, hk, rfl, HA, rfl⟩ := hrel
    by_cases hlt : k < n
    · obtain ⟨x, hx⟩ : ∃ x, L[k]? = some x := ⟨_, List.getElem?_eq_getElem (by have := unhide HN; omega)⟩
      have hc := (unhide HH).2 k x hx
      have hk1 : (k : Int) < (n : Int) := by omega
      have HX := hide hx
      clear hx
      by_cases he : x = []
      · subst he
        go_wp2_with fail
        go_ret
        refine ⟨⟨_, rfl, ?_⟩, rfl⟩
        have : L.any (fun x => decide (x = [])) = true := List.any_eq_true.2 ⟨[], List.mem_of_getElem? (unhide HX), by simp⟩
        rw [this]
        simp
      · have hs : (([] : Txt) == x) = false := by cases x with
          | nil => exact absurd rfl he
          | cons c r => rfl
        go_wp2_with fail
        go_roundw
        case rel =>
          refine ⟨k + 1, by omega, by go_num, ?_, trivial⟩
          show _ = _
          rw [take_snoc _ _ _ (unhide HX), List.any_append, unhide HA]
          simp [he]
        case measure => simp [intOf]; omega
    · obtain rfl : k = n := by omega
      go_wp2_with fail
      go_ret
      refine ⟨⟨_, rfl, ?_⟩, rfl⟩
      have := unhide HA
      rw [unhide HN, List.take_length] at this
      rw [this]
      rfl

set_option maxRecDepth 100000 in
theorem contains_v (w : World) (g cap n : Nat) (L : List Txt) (h : TxtsAt w g L) (hn : n = L.length) (hl : n ≤ 1000) :
    Calls Tryz.prog 50 #[.slice (some ⟨g, 0, none⟩) n cap, str []] w fun e w' => e = .returned (.bool (L.any (fun x => decide (x = [])))) ∧ w' = w := by
  have HQ := hide (index_v w g cap n L h hn hl)
  clear h hn
  go_enter Tryz.func50, Tryz.ntmps50
  go_wp2_with fail
  refine (unhide HQ).mono ?_
  rintro e w' ⟨⟨i, rfl, hi⟩, rfl⟩
  have HI := hide hi
  clear hi HQ
  go_wp2_with fail
  go_ret
  exact ⟨ret_bool (unhide HI), rfl⟩

theorem flatten_le : ∀ (L : List Txt), (∀ x ∈ L, x.length ≤ 256) → L.flatten.length ≤ 256 * L.length
  | [], _ => by simp
  | x :: r, h => by
    have h1 := flatten_le r (fun y hy => h y (List.mem_cons_of_mem _ hy))
    have h2 := h x (List.mem_cons_self ..)
    simp only [List.flatten_cons, List.length_append, List.length_cons]
    omega

set_option maxRecDepth 100000 in
set_option maxHeartbeats 1000000 in
/-- Texts one behind the other, none of them empty. -/
theorem joinE_v (w : World) (g cap n : Nat) (L : List Txt) (h : TxtsAt w g L) (hn : n = L.length) (h1 : 1 ≤ n) (hl : n ≤ 300) (hcap : n ≤ cap) (hr : ∀ x ∈ L, x.length ≤ 256) (hne : ∀ x ∈ L, x ≠ []) :
    Calls Tryz.prog 52 #[.slice (some ⟨g, 0, none⟩) n cap, str []] w fun e w' => e = .returned (str L.flatten) ∧ Keeps (fun _ => False) w w' := by
  have hg := h.1
  obtain ⟨a, ha⟩ : ∃ a, L[0]? = some a := ⟨_, List.getElem?_eq_getElem (by omega)⟩
  have h0 := h.2 0 a ha
  have hal := hr a (List.mem_of_getElem? ha)
  have hane := hne a (List.mem_of_getElem? ha)
  have HA := hide ha
  have HH := hide h.2
  have HR := hide hr
  have HNE := hide hane
  have HN := hide hn
  clear h hr hne ha hane
  by_cases hn1 : n = 1
  · subst hn1
    have HE : Hid (L.flatten = a) := by
      match L, unhide HN, unhide HA with
      | [x], _, e => simp at e; subst e; simp [Hid]
    clear hn
    go_enter Tryz.func52, Tryz.ntmps52
    go_wp2_with fail
    go_ret
    exact ⟨by rw [unhide HE]; rfl, Keeps.refl _ _⟩
  · have e1 : ((n : Int) == 1) = false := by simp; omega
    have e0 : ((n : Int) == 0) = false := by simp; omega
    clear hn
    go_enter Tryz.func52, Tryz.ntmps52
    go_wp2_with fail
    go_loopw [5, 41] (fun t i wr => ∃ (k N : Nat), k ≤ n ∧ N ≤ 256 * k ∧ i = .int .i64 k ∧ t = .int .i64 N ∧ wr = w) (fun _ i _ => n - (intOf i).toNat)
    case atStart => exact ⟨0, 0, by omega, by omega, rfl, rfl, rfl⟩
    case round =>
      obtain ⟨k, N, hk, hN, rfl, rfl, rfl⟩ := hrel
      by_cases hlt : k < n
      · obtain ⟨x, hx⟩ : ∃ x, L[k]? = some x := ⟨_, List.getElem?_eq_getElem (by have := unhide HN; omega)⟩
        have hc := (unhide HH) k x hx
        have hxl := (unhide HR) x (List.mem_of_getElem? hx)
        clear hx
        go_wp2_with fail
        go_roundw
        case rel => exact ⟨k + 1, N + x.length, by omega, by omega, by go_num, by go_num, trivial⟩
        case measure => simp [intOf]; omega
      · obtain rfl : k = n := by omega
        go_wp2_with fail
        obtain ⟨hbk, hA⟩ : (wr.alloc (.cells #[.pointer none, .slice none 0 0] 76)).heap[wr.heap.size]? = some (.cells #[.pointer none, .slice none 0 0] 76 (0, 0)) ∧ Below wr.heap.size wr (wr.alloc (.cells #[.pointer none, .slice none 0 0] 76)) := ⟨heap_alloc_new wr _, (Below.refl _ _).alloc (Nat.le_refl _) _⟩
        refine (Tryz.Builder_Grow_fresh wr.heap.size wr.heap.size N _ (Nat.le_refl _) hbk hA.size (by omega)).mono ?_
        rintro e w2 ⟨rfl, hb2, hl2⟩
        have HL2 := hide (Below.trans hA hl2)
        have HB2 : Hid (Bld wr.heap.size wr.heap.size [] w2) := hb2
        have d0 : w2.cell? ⟨g, 0, none⟩ = some (str a) := by rw [(Keeps.ofBelow (unhide HL2)).cell hg id]; exact h0
        clear hb2 hl2 hA hbk
        go_wp2_with fail
        refine (writeString_v _ _ _ a _ (unhide HB2) (by simp; omega) (unhide HL2).size).mono ?_
        rintro e w3 ⟨rfl, hb3, hl3⟩
        have HL3 := hide (Below.trans (unhide HL2) hl3)
        have HB3 := hide hb3
        clear hb3 hl3 HL2 HB2 d0
        go_wp2_with fail
        go_loopw [65] (fun i wq => ∃ (j : Nat) (A : Txt), j + 1 ≤ k ∧ i = .int .i64 j ∧ Hid (A = (L.take (j + 1)).flatten) ∧ Bld wr.heap.size wr.heap.size A wq ∧ Below wr.heap.size wr wq) (fun i _ => k - (intOf i).toNat)
        case atStart =>
          refine ⟨0, a, by omega, rfl, ?_, unhide HB3, unhide HL3⟩
          show _ = _
          rw [take_snoc _ _ _ (unhide HA)]
          simp
        case round =>
          clear HL3 HB3
          obtain ⟨j, A, hj, rfl, HAA, hb, hl'⟩ := hrel
          have HB := hide hb
          have HL := hide hl'
          have s0 := hl'.size
          have hAl : A.length ≤ 256 * (j + 1) := by
            have h2 := flatten_le (L.take (j + 1)) (fun x hx => (unhide HR) x (List.mem_of_mem_take hx))
            rw [← unhide HAA, List.length_take] at h2
            have : 256 * min (j + 1) L.length ≤ 256 * (j + 1) := Nat.mul_le_mul_left _ (Nat.min_le_left _ _)
            omega
          have HA0 : Hid (A ≠ []) := by
            intro e
            have h2 := unhide HAA
            rw [e] at h2
            have : a ∈ L.take (j + 1) := List.mem_of_getElem? (i := 0) (by rw [List.getElem?_take_of_lt (by omega)]; exact unhide HA)
            exact (unhide HNE) (List.flatten_eq_nil_iff.1 h2.symm a this)
          clear hb hl'
          by_cases hlt : j + 1 < k
          · obtain ⟨x, hx⟩ : ∃ x, L[j + 1]? = some x := ⟨_, List.getElem?_eq_getElem (by have := unhide HN; omega)⟩
            have hxl := (unhide HR) x (List.mem_of_getElem? hx)
            have hc := ((Keeps.ofBelow (unhide HL)).cell hg id).trans ((unhide HH) (j + 1) x hx)
            rw [Nat.add_comm j 1] at hc
            have HS : Hid ((L.take (j + 1 + 1)).flatten = (L.take (j + 1)).flatten ++ [] ++ x) := by
              show _ = _
              rw [take_snoc _ _ _ hx]
              simp
            clear hx HA0
            go_wp2_with fail
            refine (writeString_v _ _ _ [] _ (unhide HB) (by simp; omega) s0).mono ?_
            rintro e w4 ⟨rfl, hb4, hl4⟩
            have HL4 := hide (Below.trans (unhide HL) hl4)
            have HB4 := hide hb4
            clear hb4 hl4
            go_wp2_with fail
            refine (writeString_v _ _ _ x _ (unhide HB4) (by simp; omega) (unhide HL4).size).mono ?_
            rintro e w5 ⟨rfl, hb5, hl5⟩
            have HL5 := hide (Below.trans (unhide HL4) hl5)
            have HB5 := hide hb5
            clear hb5 hl5
            go_wp2_with fail
            go_roundw
            case rel => exact ⟨j + 1, _, by omega, by go_num, by show _ = _; rw [unhide HS, unhide HAA], unhide HB5, unhide HL5⟩
            case measure => simp [intOf]; omega
          · obtain rfl : k = j + 1 := by omega
            have HS := hide (string_v _ _ _ _ (unhide HB) (unhide HA0))
            have HQ : Hid (L.flatten = A) := by show _ = _; rw [unhide HAA, unhide HN, List.take_length]
            go_wp2_with fail
            refine (unhide HS).mono ?_
            rintro e w5 ⟨rfl, hl5⟩
            have HL5 := hide (Below.trans (unhide HL) hl5)
            clear hl5
            go_wp2_with fail
            go_ret
            exact ⟨by rw [unhide HQ]; rfl, Keeps.ofBelow (unhide HL5)⟩
end Go.Proofs.YtbgapbaeegloaabGreatDoor
