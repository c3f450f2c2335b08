import Derived.Test.YtjmbcelkhiopeaaRm
namespace Go.Proofs.Ytjmbcelkhiopeaa
open Go.RowKit Go.Maps

theorem ownsRow_lower {w : World} {b b' : Nat} {e : TypeId} {z : Nat} {v : Value} {n : Nat} {xs : List Value} (h : w.ownsRow b' e z v n xs) (hb : b ≤ b') : w.ownsRow b e z v n xs := by
  refine ⟨h.1, ?_⟩
  rcases h.2 with hn | ⟨g, cap, cur, hv, hg, rest⟩
  · exact Or.inl hn
  · exact Or.inr ⟨g, cap, cur, hv, Nat.le_trans hb hg, rest⟩

theorem DiskAt.lower {w : World} {B B' : Nat} {S : DS} (h : DiskAt w B' S) (hb : B ≤ B') : DiskAt w B S :=
  ⟨h.blk, h.dblk, h.dlen, ownsRow_lower h.row hb, h.each, h.map, h.says, ⟨by have := h.lo; omega, by have := h.lo; omega, by have := h.lo; omega⟩, h.secs1, h.secs2, h.size1, h.size2⟩
theorem RefAt.lower {w : World} {B B' : Nat} {R : RS} (h : RefAt w B' R) (hb : B ≤ B') : RefAt w B R :=
  ⟨h.blk, h.base.imp id (fun h => ownsRow_lower h hb), h.blen, ownsRow_lower h.row hb, fun x hx => ⟨(h.each x hx).1, (h.each x hx).2.1, ownsRow_lower (h.each x hx).2.2 hb⟩, h.firm, Nat.le_trans hb h.lo, h.secs1, h.secs2, h.size1, h.size2⟩

/-- One of the three places: a disk and the document's, or neither. -/
abbrev Slot := Option (DS × RS)
def slotP (s : Slot) : Value := .pointer (s.map fun d => ⟨d.1.D, 0, none⟩)
def slotR (s : Slot) : Value := .pointer (s.map fun d => ⟨d.2.D, 0, none⟩)
def vcells (st : Nat → Slot) : Array Value := #[slotP (st 0), slotP (st 1), slotP (st 2), slotR (st 0), slotR (st 1), slotR (st 2)]
def setSlot (st : Nat → Slot) (i : Nat) (s : Slot) (j : Nat) : Slot := if j = i then s else st j

structure Trio (w : World) (X : Nat → Prop) (V B N : Nat) (st : Nat → Slot) : Prop where
  blk : w.heap[V]? = some (.cells (vcells st) 73 (0, 0))
  duo : ∀ i S R, st i = some (S, R) → Duo w B N S R
  free : ∀ i S R, st i = some (S, R) → ∀ k, S.foot k ∨ R.foot k → k ≠ V
  apart : ∀ i j S R S' R', i ≠ j → st i = some (S, R) → st j = some (S', R') → ∀ k, S.foot k ∨ R.foot k → ¬ (S'.foot k ∨ R'.foot k)
  av : ∀ i S R, st i = some (S, R) → ∀ k, S.foot k ∨ R.foot k → ¬ X k
  xlt : ∀ k, X k → k < w.heap.size

theorem Trio.foot_lt {X : Nat → Prop} {w : World} {V B N : Nat} {st : Nat → Slot} (t : Trio w X V B N st) {i : Nat} {S : DS} {R : RS} (h : st i = some (S, R)) {k : Nat} (hk : S.foot k ∨ R.foot k) : k < w.heap.size :=
  hk.elim (t.duo i S R h).p.foot_lt (t.duo i S R h).r.foot_lt

theorem Trio.keep {X : Nat → Prop} {w w' : World} {V B N : Nat} {st : Nat → Slot} (t : Trio w X V B N st) (hk : Keeps (fun _ => False) w w') : Trio w' X V B N st :=
  ⟨(hk.block _ (lt_of_block t.blk) id).trans t.blk, fun i S R h => (t.duo i S R h).keepFoot hk (fun _ _ => id), t.free, t.apart, t.av, fun k h => Nat.lt_of_lt_of_le (t.xlt k h) hk.size⟩

/-- A call at the pair of one place. -/
theorem Trio.step {X : Nat → Prop} {w w' : World} {V B N N' : Nat} {st : Nat → Slot} (t : Trio w X V B N st) {i : Nat} {S S' : DS} {R R' : RS} (hi : st i = some (S, R)) (hN : N ≤ N') (d : Duo w' B N' S' R') (hk : Keeps (fun k => S.own k ∨ R.own k) w w')
    (hf : ∀ k, S'.foot k ∨ R'.foot k → (S.foot k ∨ R.foot k) ∨ w.heap.size ≤ k) (e1 : S'.D = S.D) (e2 : R'.D = R.D) : Trio w' X V B N' (setSlot st i (some (S', R'))) := by
  have hV := lt_of_block t.blk
  have hown : ∀ k, S.own k ∨ R.own k → S.foot k ∨ R.foot k := fun k h => h.imp Or.inl Or.inl
  have hcells : vcells (setSlot st i (some (S', R'))) = vcells st := by
    have hp : ∀ j, slotP (setSlot st i (some (S', R')) j) = slotP (st j) := fun j => by
      unfold setSlot; split
      · rename_i e; rw [e, hi]; simp [slotP, e1]
      · rfl
    have hr : ∀ j, slotR (setSlot st i (some (S', R')) j) = slotR (st j) := fun j => by
      unfold setSlot; split
      · rename_i e; rw [e, hi]; simp [slotR, e2]
      · rfl
    simp only [vcells, hp, hr]
  have hget : ∀ j S1 R1, setSlot st i (some (S', R')) j = some (S1, R1) → (j = i ∧ S1 = S' ∧ R1 = R') ∨ (j ≠ i ∧ st j = some (S1, R1)) := by
    intro j S1 R1 h
    unfold setSlot at h; split at h
    · simp at h; exact Or.inl ⟨by assumption, h.1.symm, h.2.symm⟩
    · exact Or.inr ⟨by assumption, h⟩
  refine ⟨?_, ?_, ?_, ?_, ?_, fun k h => Nat.lt_of_lt_of_le (t.xlt k h) hk.size⟩
  · rw [hcells, hk.block V hV (fun h => t.free i S R hi V (hown V h) rfl)]; exact t.blk
  · intro j S1 R1 h
    rcases hget j S1 R1 h with ⟨_, rfl, rfl⟩ | ⟨hne, h⟩
    · exact d
    · exact ((t.duo j S1 R1 h).keepFoot hk (fun k hk1 hk2 => t.apart j i S1 R1 S R hne h hi k hk1 (hown k hk2))).mono hN
  · intro j S1 R1 h k hk1 e
    rcases hget j S1 R1 h with ⟨_, rfl, rfl⟩ | ⟨hne, h⟩
    · rcases hf k hk1 with h1 | h1
      · exact t.free i S R hi k h1 e
      · omega
    · exact t.free j S1 R1 h k hk1 e
  · intro j l S1 R1 S2 R2 hjl h1 h2 k hk1 hk2
    rcases hget j S1 R1 h1 with ⟨ej, rfl, rfl⟩ | ⟨hne, g1⟩
    · rcases hget l S2 R2 h2 with ⟨el, rfl, rfl⟩ | ⟨hne2, h2⟩
      · exact hjl (ej.trans el.symm)
      · rcases hf k hk1 with h | h
        · exact t.apart i l S R S2 R2 (Ne.symm hne2) hi h2 k h hk2
        · have := t.foot_lt h2 hk2; omega
    · rcases hget l S2 R2 h2 with ⟨el, rfl, rfl⟩ | ⟨hne2, h2⟩
      · rcases hf k hk2 with h | h
        · exact t.apart j i S1 R1 S R hne g1 hi k hk1 h
        · have := t.foot_lt g1 hk1; omega
      · exact t.apart j l S1 R1 S2 R2 hjl g1 h2 k hk1 hk2
  · intro j S1 R1 h k hk1 hX
    rcases hget j S1 R1 h with ⟨_, rfl, rfl⟩ | ⟨hne, h⟩
    · rcases hf k hk1 with h1 | h1
      · exact t.av i S R hi k h1 hX
      · have := t.xlt k hX; omega
    · exact t.av j S1 R1 h k hk1 hX

/-- A new pair, or none, is put into a place. -/
theorem Trio.put {X : Nat → Prop} {w w' w'' : World} {V B N N' : Nat} {st : Nat → Slot} (t : Trio w X V B N st) (i : Nat) (s : Slot) (hN : N ≤ N') (hk : Keeps (fun _ => False) w w') (d : ∀ S R, s = some (S, R) → Duo w' B N' S R ∧ ∀ k, S.foot k ∨ R.foot k → w.heap.size ≤ k)
    (hk2 : Keeps (fun k => k = V) w' w'') (hb : w''.heap[V]? = some (.cells (vcells (setSlot st i s)) 73 (0, 0))) : Trio w'' X V B N' (setSlot st i s) := by
  have hV := lt_of_block t.blk
  have hget : ∀ j S1 R1, setSlot st i s j = some (S1, R1) → (j = i ∧ s = some (S1, R1)) ∨ (j ≠ i ∧ st j = some (S1, R1)) := by
    intro j S1 R1 h
    unfold setSlot at h; split at h
    · exact Or.inl ⟨by assumption, h⟩
    · exact Or.inr ⟨by assumption, h⟩
  refine ⟨hb, ?_, ?_, ?_, ?_, fun k h => Nat.lt_of_lt_of_le (t.xlt k h) (Nat.le_trans hk.size hk2.size)⟩
  · intro j S1 R1 h
    rcases hget j S1 R1 h with ⟨_, h⟩ | ⟨_, h⟩
    · exact (d S1 R1 h).1.keepFoot hk2 (fun k h1 e => by have := (d S1 R1 h).2 k h1; omega)
    · exact (((t.duo j S1 R1 h).keepFoot hk (fun _ _ => id)).keepFoot hk2 (fun k h1 e => t.free j S1 R1 h k h1 e)).mono hN
  · intro j S1 R1 h k hk1 e
    rcases hget j S1 R1 h with ⟨_, h⟩ | ⟨_, h⟩
    · have := (d S1 R1 h).2 k hk1; omega
    · exact t.free j S1 R1 h k hk1 e
  · intro j l S1 R1 S2 R2 hjl h1 h2 k hk1 hk2
    rcases hget j S1 R1 h1 with ⟨ej, h1⟩ | ⟨hne, h1⟩
    · rcases hget l S2 R2 h2 with ⟨el, h2⟩ | ⟨hne2, h2⟩
      · exact hjl (ej.trans el.symm)
      · have := (d S1 R1 h1).2 k hk1
        have := t.foot_lt h2 hk2; omega
    · rcases hget l S2 R2 h2 with ⟨el, h2⟩ | ⟨hne2, h2⟩
      · have := (d S2 R2 h2).2 k hk2
        have := t.foot_lt h1 hk1; omega
      · exact t.apart j l S1 R1 S2 R2 hjl h1 h2 k hk1 hk2
  · intro j S1 R1 h k hk1 hX
    rcases hget j S1 R1 h with ⟨_, h⟩ | ⟨_, h⟩
    · have := (d S1 R1 h).2 k hk1
      have := t.xlt k hX; omega
    · exact t.av j S1 R1 h k hk1 hX

end Go.Proofs.Ytjmbcelkhiopeaa
