import Derived.Test.YtafniangljmjeabDoorJr
import Derived.Test.YtafniangljmjeabDoorU
namespace Go.Proofs.YtafniangljmjeabDoor
open Go.RowKit Go.Maps

/-- Decoding, by the program's own looking. -/
def decP : List FieldA → Nat → Txt → Option (List ValA × Nat × Txt)
  | [], m, t => some ([], m, t)
  | f :: l, m, t =>
    if f.opt = true ∧ m % 2 ≠ 1 then (decP l (m / 2) t).map (fun q => (⟨0, 0, []⟩ :: q.1, q.2))
    else (takeP f.type t).bind fun p => (decP l (if f.opt then m / 2 else m) p.2).map (fun q => (p.1 :: q.1, q.2))
def decodeP (l : List FieldA) (t : Txt) : Option (List ValA) :=
  if t.length < headB l then none else (decP l (head0 l t) (t.drop (headB l))).bind fun q => if q.2.1 = 0 ∧ q.2.2 = [] then some q.1 else none
/-- What decode's two answers tell. -/
def DecM (w' : World) (B : Nat) (v : Value) (ok : Bool) : Option (List ValA) → Prop
  | none => ok = false
  | some r => ok = true ∧ w'.ownsRow B 129 3 v r.length (vcs r)

def zeroVal : ValA := ⟨0, 0, []⟩
theorem run_mkv (n : Nat) (hn : n ≤ 1024) (w : World) : (Instr.makeSlice 130 (.int .i64 (n : Int)) (.int .i64 (n : Int))).run Tryd.prog w = .ok (.slice (some ⟨w.heap.size, 0, none⟩) n n) (w.alloc (.cells (vcs (List.replicate n zeroVal)).toArray 129)) := by
  obtain ⟨i0, hi, hz0, hz1, hz2⟩ := info_parts Tryd.info129
  have q := run_make (P := Tryd.prog) w 130 129 i0 (.agg #[.int .i64 0, .int .i64 0, .string ⟨#[]⟩]) Tryd.underlying130 hi hz0 .i64 .i64 (n : Int) (n : Int) (by omega) (by omega) (by rw [hz2]; omega) (by omega)
  rw [hz1] at q
  have e : madeCells (Value.agg #[.int .i64 0, .int .i64 0, .string ⟨#[]⟩]).cells (n * 3) = (vcs (List.replicate n zeroVal)).toArray := by
    apply Array.ext_getElem?
    intro i
    have h3 : (Value.agg #[Value.int .i64 0, .int .i64 0, .string ⟨#[]⟩]).cells = #[.int .i64 0, .int .i64 0, .string ⟨#[]⟩] := rfl
    rw [h3]
    simp only [madeCells, Array.getElem?_map, Array.getElem?_range, List.getElem?_toArray]
    by_cases h : i < n * 3
    · have hl : (List.replicate n zeroVal)[i / 3]? = some zeroVal := by rw [List.getElem?_replicate, if_pos (by omega)]
      have hf := flat_get ValA.cs (fun _ => rfl) (List.replicate n zeroVal) (i / 3) zeroVal (i % 3) hl (by omega)
      rw [show i / 3 * 3 + i % 3 = i by omega] at hf
      unfold vcs
      rw [hf, if_pos h]
      have : i % 3 = 0 ∨ i % 3 = 1 ∨ i % 3 = 2 := by omega
      rcases this with h | h | h <;> simp [h, zeroVal, ValA.cs]
    · rw [if_neg h, List.getElem?_eq_none (by rw [vcs_length, List.length_replicate]; omega)]
      rfl
  simpa [e] using q

/-- One value of a row of values, written. -/
theorem vcs_set {R : List ValA} {x y : ValA} {Z : List ValA} : (((vcs (R ++ y :: Z)).toArray.setIfInBounds (R.length * 3) (.int .i64 x.kind)).setIfInBounds (R.length * 3 + 1) (.int .i64 x.n)).setIfInBounds (R.length * 3 + 2) (.string ⟨x.s.toArray⟩) = (vcs (R ++ x :: Z)).toArray := by
  have hv : ∀ y : ValA, vcs (R ++ y :: Z) = vcs R ++ (y.cs ++ vcs Z) := fun y => by simp [vcs]
  have hl := vcs_length R
  rw [hv, hv, ← hl]
  apply Array.ext'
  simp [ValA.cs]

theorem vcs_kind (l : List ValA) (k : Nat) (c : Int) : (vcs l).toArray[k]? ≠ some (Value.int .u8 c) := by
  intro h
  rw [List.getElem?_toArray] at h
  have := List.mem_of_getElem? h
  unfold vcs at this
  obtain ⟨x, _, hx⟩ := List.mem_flatMap.1 this
  simp [ValA.cs] at hx
theorem owns_vals {w : World} {B g n : Nat} {R : List ValA} (hB : B ≤ g) (hn : n ≤ 1024) (hl : R.length = n) (h : w.heap[g]? = some (.cells (vcs R).toArray 129 (0, 0))) : w.ownsRow B 129 3 (.slice (some ⟨g, 0, none⟩) n n) R.length (vcs R) := by
  subst hl
  refine ⟨vcs_length R, Or.inr ⟨g, _, _, rfl, hB, h, Nat.le_refl _, by unfold maxLen; omega, by simp [vcs_length], ?_⟩⟩
  simp only
  rw [List.take_of_length_le (by rw [vcs_length]; exact Nat.le_refl _)]
theorem map_cons_snoc {q : Option (List ValA × Nat × Txt)} (R : List ValA) (x : ValA) : (q.map (fun q => (x :: q.1, q.2))).map (fun q => (R ++ q.1, q.2)) = q.map (fun q => (R ++ [x] ++ q.1, q.2)) := by
  cases q <;> simp

theorem takeG_len : ∀ (t : Txt) (k U U' : Nat) (r : Txt), takeG k t U = some (U', r) → r.length ≤ t.length
  | [], k, U, U', r, h => by simp [takeG] at h
  | c :: t, k, U, U', r, h => by
    rw [takeG] at h
    repeat' split at h
    · cases h
    · cases h
    · simp at h
      rw [h.2]; simp
    · have := takeG_len t _ _ _ _ h
      simp only [List.length_cons]
      omega
theorem takeP_len {ty : Int} {t r : Txt} {x : ValA} (h : takeP ty t = some (x, r)) : r.length ≤ t.length := by
  unfold takeP at h
  split at h
  · unfold takeIntP at h
    cases hg : takeG 0 t 0 with
    | none => rw [hg] at h; cases h
    | some p =>
      rw [hg] at h
      simp at h
      have := takeG_len _ _ _ _ _ (show takeG 0 t 0 = some (p.1, p.2) from hg)
      rw [← h.2]; exact this
  · split at h
    · cases t with
      | nil => cases h
      | cons c r' =>
        simp only [takeBoolP] at h
        split at h
        · cases h
        · simp at h
          rw [h.2]; simp
    · cases t with
      | nil => cases h
      | cons c r' =>
        simp only [takeBytesP] at h
        repeat' split at h
        · cases h
        · cases h
        · simp at h
          rw [← h.2]
          simp only [List.length_drop, List.length_cons]
          omega
/-- The cells of one value in a row of values. -/
theorem cells3 {w : World} {g k : Nat} {R Z : List ValA} {y : ValA} (h : w.heap[g]? = some (.cells (vcs (R ++ y :: Z)).toArray 129 (0, 0))) (hk : R.length = k) :
    w.cell? ⟨g, k * 3, none⟩ = some (.int .i64 y.kind) ∧ w.cell? ⟨g, k * 3 + 1, none⟩ = some (.int .i64 y.n) ∧ w.cell? ⟨g, k * 3 + 2, none⟩ = some (str y.s) ∧ w.frozen? ⟨g, k * 3, none⟩ = false ∧ w.frozen? ⟨g, k * 3 + 1, none⟩ = false ∧ w.frozen? ⟨g, k * 3 + 2, none⟩ = false := by
  have hy : (R ++ y :: Z)[k]? = some y := by rw [← hk]; simp
  have f := fun j hj => flat_get ValA.cs (fun _ => rfl) (R ++ y :: Z) k y j hy hj
  refine ⟨?_, ?_, ?_, frozen_of_blk h _, frozen_of_blk h _, frozen_of_blk h _⟩
  · rw [cell_of_blk h, List.getElem?_toArray]; exact f 0 (by omega)
  · rw [cell_of_blk h, List.getElem?_toArray]; exact f 1 (by omega)
  · rw [cell_of_blk h, List.getElem?_toArray]; exact f 2 (by omega)
theorem stored_end {w2 : World} {S k : Nat} {R Z : List ValA} {z x : ValA} {y : Value} {ok : Bool} {o : Option (ValA × Txt)} (hb : w2.heap[S]? = some (.cells (vcs (R ++ z :: Z)).toArray 129 (0, 0))) (hm : TookM w2 x y ok o) (hk : R.length = k) :
    Keeps (fun q => q = S) w2 (((w2.setCell ⟨S, k * 3, none⟩ (.int .i64 x.kind)).setCell ⟨S, k * 3 + 1, none⟩ (.int .i64 x.n)).setCell ⟨S, k * 3 + 2, none⟩ (.string ⟨x.s.toArray⟩)) ∧
    TookM (((w2.setCell ⟨S, k * 3, none⟩ (.int .i64 x.kind)).setCell ⟨S, k * 3 + 1, none⟩ (.int .i64 x.n)).setCell ⟨S, k * 3 + 2, none⟩ (.string ⟨x.s.toArray⟩)) x y ok o ∧
    (((w2.setCell ⟨S, k * 3, none⟩ (.int .i64 x.kind)).setCell ⟨S, k * 3 + 1, none⟩ (.int .i64 x.n)).setCell ⟨S, k * 3 + 2, none⟩ (.string ⟨x.s.toArray⟩)).heap[S]? = some (.cells (vcs (R ++ x :: Z)).toArray 129 (0, 0)) := by
  subst hk
  have hb3 := heap_setCell_at (o := R.length * 3 + 2) (heap_setCell_at (o := R.length * 3 + 1) (heap_setCell_at (o := R.length * 3) hb (.int .i64 x.kind)) (.int .i64 x.n)) (.string ⟨x.s.toArray⟩)
  rw [vcs_set] at hb3
  have hs : ∀ (a : World) (o : Nat) (v : Value), Keeps (fun q => q = S) w2 a → Keeps (fun q => q = S) w2 (a.setCell ⟨S, o, none⟩ v) := fun a o v h => h.setCell (fun _ => rfl) v
  have hk3 := hs _ (R.length * 3 + 2) (.string ⟨x.s.toArray⟩) (hs _ (R.length * 3 + 1) (.int .i64 x.n) (hs _ (R.length * 3) (.int .i64 x.kind) (Keeps.refl _ w2)))
  refine ⟨hk3, ?_, hb3⟩
  cases o with
  | none => exact hm
  | some p => exact ⟨hm.1, hm.2.1, bytes_apart hm.2.2 hb (vcs_kind _) hk3⟩

end Go.Proofs.YtafniangljmjeabDoor
