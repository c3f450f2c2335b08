import Derived.Test.YtbgapbaeegloaaaDoorLk
namespace Go.Proofs.YtbgapbaeegloaaaDoor
open Go.RowKit Go.Maps

/-- Tokens from a block's first cell on. -/
structure Rw (w : World) (g : Nat) (L : List TokA) : Prop where
  lt : g < w.heap.size
  cell : ∀ i t, L[i]? = some t → w.cell? ⟨g, i * 4, none⟩ = some (.int .i64 t.kind) ∧ w.cell? ⟨g, i * 4 + 1, none⟩ = some (str t.text) ∧ w.cell? ⟨g, i * 4 + 2, none⟩ = some (.int .i64 t.n) ∧ w.cell? ⟨g, i * 4 + 3, none⟩ = some (.int .i64 t.pos)
  fz : ∀ o, w.frozen? ⟨g, o, none⟩ = false
theorem tcs_at {L : List TokA} {j : Nat} {x : Value} (h : (tcs L)[j]? = some x) : ∃ t, L[j / 4]? = some t ∧ t.cs[j % 4]? = some x := by
  have hj := (List.getElem?_eq_some_iff.1 h).1
  rw [tcs_length] at hj
  have hi : j / 4 < L.length := by omega
  refine ⟨L[j / 4], List.getElem?_eq_getElem hi, ?_⟩
  have := tcs_get L (j / 4) L[j / 4] (j % 4) (List.getElem?_eq_getElem hi) (by omega)
  rw [show j / 4 * 4 + j % 4 = j by omega, h] at this
  exact this.symm
theorem Rw.toks {w : World} {g : Nat} {L M : List TokA} (h : Rw w g (L ++ M)) (cap : Nat) (hcap : L.length ≤ cap) : ToksAt w (.slice (some ⟨g, 0, none⟩) L.length cap) L := by
  refine ⟨⟨_, _, rfl⟩, fun _ => ⟨g, 0, cap, rfl, h.lt, fun j x hx => ?_⟩, fun ao m c e => by simp at e; omega⟩
  obtain ⟨t, h1, h2⟩ := tcs_at hx
  have hlt := get_lt h1
  obtain ⟨k0, k1, k2, k3⟩ := h.cell (j / 4) t (by rw [List.getElem?_append_left hlt]; exact h1)
  rw [Nat.zero_add]
  have hr : j % 4 = 0 ∨ j % 4 = 1 ∨ j % 4 = 2 ∨ j % 4 = 3 := by omega
  unfold TokA.cs at h2
  rcases hr with e | e | e | e
  · rw [e] at h2; simp at h2; subst h2; rw [show j = j / 4 * 4 by omega]; exact k0
  · rw [e] at h2; simp at h2; subst h2; rw [show j = j / 4 * 4 + 1 by omega]; exact k1
  · rw [e] at h2; simp at h2; subst h2; rw [show j = j / 4 * 4 + 2 by omega]; exact k2
  · rw [e] at h2; simp at h2; subst h2; rw [show j = j / 4 * 4 + 3 by omega]; exact k3
theorem Rw.toks0 {w : World} {g : Nat} {L : List TokA} (h : Rw w g L) (cap : Nat) (hcap : L.length ≤ cap) : ToksAt w (.slice (some ⟨g, 0, none⟩) L.length cap) L := Rw.toks (M := []) (by rw [List.append_nil]; exact h) cap hcap
theorem Rw.keepF {w w' : World} {g : Nat} {L : List TokA} (h : Rw w g L) (hk : Keeps (fun _ => False) w w') : Rw w' g L := by
  refine ⟨Nat.lt_of_lt_of_le h.lt hk.size, fun i t ht => ?_, fun o => ?_⟩
  · obtain ⟨k0, k1, k2, k3⟩ := h.cell i t ht
    exact ⟨(hk.cell h.lt id).trans k0, (hk.cell h.lt id).trans k1, (hk.cell h.lt id).trans k2, (hk.cell h.lt id).trans k3⟩
  · have := h.fz o
    unfold World.frozen? at this ⊢
    rw [hk.block g h.lt id]
    exact this
theorem Rw.head {w : World} {g : Nat} {L M : List TokA} (h : Rw w g (L ++ M)) : Rw w g L :=
  ⟨h.lt, fun i t ht => h.cell i t (by rw [List.getElem?_append_left (get_lt ht)]; exact ht), h.fz⟩
theorem ownsRow_block {w : World} {B e size n : Nat} {v : Value} {xs : List Value} (h : w.ownsRow B e size v n xs) {k : Nat} (hk : v.ownBlock = some k) : ∃ cur, w.heap[k]? = some (.cells cur e (0, 0)) := by
  rcases h.2 with ⟨hv, _⟩ | ⟨g, cap, cur, hv, hb, hg, rest⟩
  · rw [hv] at hk; cases hk
  · rw [hv] at hk
    simp [Value.ownBlock] at hk
    subst hk
    exact ⟨cur, hg⟩
theorem rw_own {w : World} {B g n cap : Nat} {L : List TokA} (h : w.ownsRow B 25 4 (.slice (some ⟨g, 0, none⟩) n cap) L.length (tcs L)) (h0 : 0 < L.length) : Rw w g L := by
  obtain ⟨b, off, c, e, hb, hc⟩ := ToksAt.cells (rowAt_own h) h0
  simp at e
  obtain ⟨⟨rfl, rfl⟩, _, _⟩ := e
  refine ⟨hb, fun i t ht => ?_, fun o => ?_⟩
  · have := hc i t ht
    simpa using this
  · obtain ⟨c', hblk⟩ := ownsRow_block h rfl
    exact frozen_of_blk hblk o
/-- One token is written over. -/
theorem Rw.set {w : World} {g : Nat} {L : List TokA} (h : Rw w g L) {i : Nat} {x : TokA} (hx : L[i]? = some x) (t : TokA) :
    Rw ((((w.setCell ⟨g, i * 4, none⟩ (.int .i64 t.kind)).setCell ⟨g, i * 4 + 1, none⟩ (str t.text)).setCell ⟨g, i * 4 + 2, none⟩ (.int .i64 t.n)).setCell ⟨g, i * 4 + 3, none⟩ (.int .i64 t.pos)) g (L.set i t) := by
  obtain ⟨k0, k1, k2, k3⟩ := h.cell i x hx
  have hi := get_lt hx
  have ne : ∀ {a b : Nat}, a ≠ b → (⟨g, a, none⟩ : Addr) ≠ ⟨g, b, none⟩ := fun h e => h (congrArg Addr.off e)
  refine ⟨by simp; exact h.lt, fun j y hy => ?_, fun o => ?_⟩
  · by_cases e : j = i
    · subst e
      rw [List.getElem?_set_self hi] at hy
      simp at hy
      subst hy
      refine ⟨?_, ?_, ?_, ?_⟩
      · rw [World.cell?_setCell_other _ _ _ _ (ne (by omega)), World.cell?_setCell_other _ _ _ _ (ne (by omega)), World.cell?_setCell_other _ _ _ _ (ne (by omega))]
        exact World.cell?_setCell_same _ _ _ k0
      · rw [World.cell?_setCell_other _ _ _ _ (ne (by omega)), World.cell?_setCell_other _ _ _ _ (ne (by omega))]
        exact World.cell?_setCell_same _ _ _ (by rw [World.cell?_setCell_other _ _ _ _ (ne (by omega))]; exact k1)
      · rw [World.cell?_setCell_other _ _ _ _ (ne (by omega))]
        exact World.cell?_setCell_same _ _ _ (by rw [World.cell?_setCell_other _ _ _ _ (ne (by omega)), World.cell?_setCell_other _ _ _ _ (ne (by omega))]; exact k2)
      · exact World.cell?_setCell_same _ _ _ (by rw [World.cell?_setCell_other _ _ _ _ (ne (by omega)), World.cell?_setCell_other _ _ _ _ (ne (by omega)), World.cell?_setCell_other _ _ _ _ (ne (by omega))]; exact k3)
    · rw [List.getElem?_set_ne (fun h => e h.symm)] at hy
      obtain ⟨m0, m1, m2, m3⟩ := h.cell j y hy
      refine ⟨?_, ?_, ?_, ?_⟩
      all_goals
        rw [World.cell?_setCell_other _ _ _ _ (ne (by omega)), World.cell?_setCell_other _ _ _ _ (ne (by omega)), World.cell?_setCell_other _ _ _ _ (ne (by omega)), World.cell?_setCell_other _ _ _ _ (ne (by omega))]
        assumption
  · rw [World.frozen?_setCell, World.frozen?_setCell, World.frozen?_setCell, World.frozen?_setCell]
    exact h.fz o
end Go.Proofs.YtbgapbaeegloaaaDoor
