import Derived.Test.YtlcfdfcnijjkiaaH
namespace Go.Proofs.Ytlcfdfcnijjkiaa
open Go.RowKit Go.Maps

theorem perm_at {α : Type} : ∀ {l : List α} {i : Nat} {x : α}, l[i]? = some x → (x :: l.eraseIdx i).Perm l
  | [], i, x, h => by simp at h
  | y :: r, 0, x, h => by
    simp at h
    subst h
    exact List.Perm.refl _
  | y :: r, i + 1, x, h => by
    have := perm_at (l := r) (i := i) (x := x) (by simpa using h)
    exact (List.Perm.swap y x _).trans (List.Perm.cons y this)
theorem perm_set {α : Type} {l : List α} {i : Nat} (y : α) (h : i < l.length) : (y :: l.eraseIdx i).Perm (l.set i y) := by
  have := perm_at (l := l.set i y) (i := i) (x := y) (by rw [List.getElem?_set_self h])
  rwa [List.eraseIdx_set_eq] at this
section
variable {w w' : World} {B : Nat} {L M : List Itm}
theorem Bag.left (h : Bag w B (L ++ M)) : Bag w B L :=
  ⟨fun p hp => h.all p (List.mem_append_left _ hp), (List.pairwise_append.1 h.apart).1⟩
theorem Bag.right (h : Bag w B (L ++ M)) : Bag w B M :=
  ⟨fun p hp => h.all p (List.mem_append_right _ hp), (List.pairwise_append.1 h.apart).2.1⟩
theorem Bag.setAt {i g n c j : Nat} {X : Txt} {m : UInt8} (h : Bag w B L) (hi : L[i]? = some (lone1 (.slice (some ⟨g, 0, none⟩) n c) X)) : Bag (w.setCell ⟨g, j, none⟩ (.int .u8 (num m))) B (L.set i (lone1 (.slice (some ⟨g, 0, none⟩) n c) (X.set j m))) :=
  ((h.perm (perm_at hi).symm).set (j := j) (m := m)).perm (perm_set _ (get_lt hi))
theorem Bag.growAt {i m g cap : Nat} {vx vm : Value} {X Y Z : Txt} (h : Bag w B L) (hi : L[i]? = some ⟨vx, X, vm, Y⟩) (hm : m = Z.length) (hG : GrewL w w' B 5 (X ++ Y).length m vm g cap (bs (X ++ Y)) (bs Z)) : Bag w' B (L.set i ⟨vx, X, .slice (some ⟨g, 0, none⟩) ((X ++ Y).length + m) cap, Y ++ Z⟩) := by
  subst hm
  exact ((h.perm (perm_at hi).symm).grow hG.own hG.how).perm (perm_set _ (get_lt hi))
end
/-- The mark of a list. -/
def markB (i : Nat) : UInt8 := UInt8.ofNat (1 + i % 250)
theorem mark_num (i : Nat) : num (markB i) = 1 + (i : Int) % 250 := by
  unfold num markB
  rw [UInt8.toNat_ofNat']
  omega
theorem overL_at {l : Txt} {c : UInt8} {k j : Nat} (hj : j < k) : (overL l c k)[j]? = some c := by
  unfold overL
  rw [List.getElem?_append_left (by simpa using hj), List.getElem?_replicate, if_pos hj]

/-- Lists, each with a mark in its first bytes. -/
structure Mk (w wr : World) (B : Nat) (v : Value) (hs : List Value) (ps : List Txt) (t : Nat → Nat) (its : List Itm) : Prop where
  row : wr.ownsRow B 27 1 v ps.length hs
  bag : Bag wr B its
  each : ∀ (j : Nat) (h : Value) (p : Txt), hs[j]? = some h → ps[j]? = some p → its[j]? = some (lone1 h (overL p (markB j) (t j)))
  keeps : Keeps (fun q => B ≤ q) w wr
  len : its.length = ps.length
theorem lones_get {hs : List Value} {ps : List Txt} {j : Nat} {h : Value} {p : Txt} (h1 : hs[j]? = some h) (h2 : ps[j]? = some p) : (lones hs ps)[j]? = some (lone1 h p) := by
  unfold lones
  rw [List.getElem?_zipWith, h1, h2]
theorem Mk.start {w : World} {B : Nat} {v : Value} {hs : List Value} {ps : List Txt} {L : List Itm} (hr : w.ownsRow B 27 1 v ps.length hs) (hb : Bag w B (lones hs ps ++ L)) : Mk w w B v hs ps (fun _ => 0) (lones hs ps) :=
  ⟨hr, hb.left, fun j h p h1 h2 => by rw [lones_get h1 h2, overL_zero], Keeps.refl _ _, by
    have := hr.1
    unfold lones
    rw [List.length_zipWith]
    omega⟩
section
variable {w wr : World} {B : Nat} {v : Value} {hs : List Value} {ps : List Txt} {t t' : Nat → Nat} {its : List Itm}
theorem Mk.same (h : Mk w wr B v hs ps t its) (ht : ∀ j p, ps[j]? = some p → overL p (markB j) (t j) = overL p (markB j) (t' j)) : Mk w wr B v hs ps t' its :=
  ⟨h.row, h.bag, fun j x p h1 h2 => by rw [← ht j p h2]; exact h.each j x p h1 h2, h.keeps, h.len⟩
theorem Mk.lens (h : Mk w wr B v hs ps t its) : hs.length = ps.length := by have := h.row.1; omega
theorem Mk.head (h : Mk w wr B v hs ps t its) {i : Nat} {x : Value} {p : Txt} (h1 : hs[i]? = some x) (h2 : ps[i]? = some p) (ht : t i ≤ p.length) : BtAt wr B x (overL p (markB i) (t i)) ∧ (overL p (markB i) (t i)).length = p.length :=
  ⟨(h.bag.all _ (List.mem_of_getElem? (h.each i x p h1 h2))).1, overL_len ht⟩
/-- The list's own head stands in the row of lists. -/
theorem Mk.cell (h : Mk w wr B v hs ps t its) {g c i : Nat} {x : Value} (hv : v = .slice (some ⟨g, 0, none⟩) ps.length c) (h1 : hs[i]? = some x) : wr.cell? ⟨g, i, none⟩ = some x := by
  subst hv
  have hi := get_lt h1
  have := h.lens
  exact (h.row.cellAt i (by omega)).trans h1
theorem Mk.put (h : Mk w wr B v hs ps t its) {i g n c : Nat} {p : Txt} (h1 : hs[i]? = some (.slice (some ⟨g, 0, none⟩) n c)) (h2 : ps[i]? = some p) (ht : t i < p.length) (ht' : t' i = t i + 1) (hto : ∀ j, j ≠ i → t' j = t j) :
    Mk w (wr.setCell ⟨g, t i, none⟩ (.int .u8 (num (markB i)))) B v hs ps t' (its.set i (lone1 (.slice (some ⟨g, 0, none⟩) n c) (overL p (markB i) (t i + 1)))) := by
  have he := h.each i _ p h1 h2
  have hb := h.bag.setAt (j := t i) (m := markB i) he
  rw [overL_set ht] at hb
  have hB : B ≤ g := own_geO (h.bag.all _ (List.mem_of_getElem? he)).1 rfl
  have hil := get_lt he
  refine ⟨ownsRow_kept h.row (keeps_set wr g (t i) _) (fun q e f => ?_), hb, fun j x p' h3 h4 => ?_, h.keeps.trans ((keeps_set wr g (t i) _).mono (fun q _ e => by rw [e]; exact hB)), by rw [List.length_set]; exact h.len⟩
  · subst f
    exact own_apart (h.bag.all _ (List.mem_of_getElem? he)).1 h.row (by decide) q rfl e
  · by_cases hj : j = i
    · subst hj
      rw [h1] at h3
      rw [h2] at h4
      cases h3
      cases h4
      rw [List.getElem?_set_self hil, ht']
    · rw [List.getElem?_set_ne (fun e => hj e.symm), hto j hj]
      exact h.each j x p' h3 h4
end
end Go.Proofs.Ytlcfdfcnijjkiaa
