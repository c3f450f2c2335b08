import Derived.Test.YtafniangljmjeabDoorJk
import Derived.Test.YtafniangljmjeabDoorFd
namespace Go.Proofs.YtafniangljmjeabDoor
open Go.RowKit Go.Maps

/-- A place of a code: does a run come by, with what stack, with two unlike ones? -/
structure PlA where
  r : Bool
  st : List Int
  u : Bool
def plZ : PlA := ⟨false, [], false⟩
def bringA (p : PlA) (st : List Int) : PlA := ⟨true, st, p.u || (p.r && !decide (p.st = st))⟩
def bringAt (ps : List PlA) (t : Nat) (st : List Int) : List PlA := ps.set t (bringA ((ps[t]?).getD plZ) st)
def stepA (S : List FieldA) (k : Nat) (i : ValA) (ps : List PlA) : Option (List PlA) :=
  if ((ps[k]?).getD plZ).r = false then some ps
  else if ((ps[k]?).getD plZ).u = true then none
  else match behB S i ((ps[k]?).getD plZ).st with
    | none => none
    | some st =>
      let ps1 := if (opA i.kind).opd = 6 then bringAt ps (k + 1 + i.n.toNat) st else ps
      some (if i.kind ≠ 25 then bringAt ps1 (k + 1) st else ps1)
def runA (S : List FieldA) : Nat → List ValA → List PlA → Option (List PlA) × Nat × Int
  | k, [], ps => if ((ps[k]?).getD plZ).u = true ∨ 0 < ((ps[k]?).getD plZ).st.length then (none, k, 112) else (some ps, 0, 0)
  | k, i :: r, ps => match stepA S k i ps with
    | none => (none, k, 112)
    | some ps' => runA S (k + 1) r ps'
theorem bringAt_length (ps : List PlA) (t : Nat) (st : List Int) : (bringAt ps t st).length = ps.length := by simp [bringAt]
theorem runA_drop {S : List FieldA} {l : List ValA} {k : Nat} {x : ValA} {ps : List PlA} (h : l[k]? = some x) : runA S k (l.drop k) ps = match stepA S k x ps with
    | none => (none, k, 112)
    | some ps' => runA S (k + 1) (l.drop (k + 1)) ps' := by
  obtain ⟨hk, hx⟩ := List.getElem?_eq_some_iff.1 h
  rw [List.drop_eq_getElem_cons hk, hx, runA]

/-- Places in memory. -/
structure PlsAt (w : World) (pb : Nat) (ps : List PlA) : Prop where
  blk : ∃ cur : Array Value, w.heap[pb]? = some (.cells cur 51 (0, 0)) ∧ cur.size = ps.length * 3
  at' : ∀ t p, ps[t]? = some p → p.st.length ≤ 16 ∧ w.cell? ⟨pb, t * 3, none⟩ = some (.bool p.r) ∧ w.cell? ⟨pb, t * 3 + 2, none⟩ = some (.bool p.u) ∧ ∃ v, w.cell? ⟨pb, t * 3 + 1, none⟩ = some v ∧ w.ownsRow 0 72 1 v p.st.length (ks p.st)
theorem PlsAt.lt {w : World} {pb : Nat} {ps : List PlA} (h : PlsAt w pb ps) : pb < w.heap.size := by
  obtain ⟨cur, hb, _⟩ := h.blk
  exact lt_of_block hb
theorem PlsAt.keepF {w w' : World} {pb : Nat} {ps : List PlA} (h : PlsAt w pb ps) (hk : Keeps (fun _ => False) w w') : PlsAt w' pb ps := by
  obtain ⟨cur, hb, hs⟩ := h.blk
  refine ⟨⟨cur, (hk.block pb h.lt id).trans hb, hs⟩, fun t p hp => ?_⟩
  obtain ⟨h0, h1, h2, v, h3, h4⟩ := h.at' t p hp
  exact ⟨h0, (hk.cell h.lt id).trans h1, (hk.cell h.lt id).trans h2, v, (hk.cell h.lt id).trans h3, ownsRow_kept h4 hk (fun _ _ => id)⟩
theorem keeps_bring (w : World) (b o1 o2 o3 : Nat) (x y z : Value) : Keeps (fun q => q = b) w (((w.setCell ⟨b, o1, none⟩ x).setCell ⟨b, o2, none⟩ y).setCell ⟨b, o3, none⟩ z) :=
  Keeps.setCell (F := fun q => q = b) (p := ⟨b, o3, none⟩) (Keeps.setCell (F := fun q => q = b) (p := ⟨b, o2, none⟩) (Keeps.setCell (F := fun q => q = b) (p := ⟨b, o1, none⟩) (Keeps.refl (fun q => q = b) w) (fun _ => rfl) x) (fun _ => rfl) y) (fun _ => rfl) z
theorem PlsAt.bring {w : World} {pb t : Nat} {ps : List PlA} {p : PlA} {vb : Value} {lb : List Int} (h : PlsAt w pb ps) (hp : ps[t]? = some p) (hb : w.ownsRow 0 72 1 vb lb.length (ks lb)) (hl : lb.length ≤ 16) :
    PlsAt (((w.setCell ⟨pb, t * 3 + 2, none⟩ (.bool (p.u || (p.r && !decide (p.st = lb))))).setCell ⟨pb, t * 3, none⟩ (.bool true)).setCell ⟨pb, t * 3 + 1, none⟩ vb) pb (bringAt ps t lb) := by
  obtain ⟨cur, hB, hs⟩ := h.blk
  have ht := (List.getElem?_eq_some_iff.1 hp).1
  have hE := heap_setCell_at (o := t * 3 + 1) (heap_setCell_at (o := t * 3) (heap_setCell_at (o := t * 3 + 2) hB (.bool (p.u || (p.r && !decide (p.st = lb))))) (.bool true)) vb
  have hk := keeps_bring w pb (t * 3 + 2) (t * 3) (t * 3 + 1) (.bool (p.u || (p.r && !decide (p.st = lb)))) (.bool true) vb
  have hown : ∀ {v : Value} {l : List Int}, w.ownsRow 0 72 1 v l.length (ks l) → (((w.setCell ⟨pb, t * 3 + 2, none⟩ (.bool (p.u || (p.r && !decide (p.st = lb))))).setCell ⟨pb, t * 3, none⟩ (.bool true)).setCell ⟨pb, t * 3 + 1, none⟩ vb).ownsRow 0 72 1 v l.length (ks l) := fun ho => ownsRow_kept ho hk (fun q e hq => ownsRow_ne ho hB (by decide) (by rw [e, hq]))
  refine ⟨⟨_, hE, by simpa [bringAt_length] using hs⟩, fun t' p' hp' => ?_⟩
  unfold bringAt at hp'
  by_cases he : t' = t
  · subst he
    rw [List.getElem?_set_self ht, hp] at hp'
    simp only [Option.getD_some, Option.some.injEq] at hp'
    subst hp'
    refine ⟨hl, ?_, ?_, vb, ?_, hown hb⟩
    · rw [cell_of_blk hE]; simp [Array.getElem?_setIfInBounds, bringA]; omega
    · rw [cell_of_blk hE]; simp [Array.getElem?_setIfInBounds, bringA]; omega
    · rw [cell_of_blk hE]; simp [Array.getElem?_setIfInBounds]; omega
  · rw [List.getElem?_set_ne (Ne.symm he)] at hp'
    obtain ⟨h0, h1, h2, v, h3, h4⟩ := h.at' t' p' hp'
    rw [cell_of_blk hB] at h1 h2 h3
    refine ⟨h0, ?_, ?_, v, ?_, hown h4⟩
    · rw [cell_of_blk hE, Array.getElem?_setIfInBounds_ne (by omega), Array.getElem?_setIfInBounds_ne (by omega), Array.getElem?_setIfInBounds_ne (by omega)]; exact h1
    · rw [cell_of_blk hE, Array.getElem?_setIfInBounds_ne (by omega), Array.getElem?_setIfInBounds_ne (by omega), Array.getElem?_setIfInBounds_ne (by omega)]; exact h2
    · rw [cell_of_blk hE, Array.getElem?_setIfInBounds_ne (by omega), Array.getElem?_setIfInBounds_ne (by omega), Array.getElem?_setIfInBounds_ne (by omega)]; exact h3

end Go.Proofs.YtafniangljmjeabDoor
