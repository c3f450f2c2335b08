import Derived.Test.YtklkhegeeglfbaaGreatDoorJe
namespace Go.Proofs.YtklkhegeeglfbaaGreatDoor
open Go.RowKit Go.Maps

/-- The value of a field at a place of some bytes, and the place behind it (-1: the bytes end too early). -/
def readB (f : FieldA) (t : Txt) (a : Nat) : ValA × Int :=
  if f.type = 1 then (⟨1, (readIntB t a).1, []⟩, (readIntB t a).2)
  else match t[a]? with
    | none => (⟨0, 0, []⟩, -1)
    | some c =>
      if f.type = 2 then (⟨2, num c, []⟩, (a + 1 : Nat))
      else if t.length < a + 1 + c.toNat then (⟨0, 0, []⟩, -1)
      else (⟨3, 0, (t.drop (a + 1)).take c.toNat⟩, (a + 1 + c.toNat : Nat))

theorem conv_at (w : World) (b off cap : Nat) (l : Txt) (h : ∀ j c, l[j]? = some c → w.cell? ⟨b, off + j, none⟩ = some (.int .u8 (num c))) :
    (convert 30 9 (.slice (some ⟨b, off, none⟩) l.length cap)).run Tryz.prog w = .ok (str l) w :=
  run_convert_bytes_back w 30 9 5 ⟨b, off, none⟩ cap l Tryz.underlying30 Tryz.underlying5 Tryz.underlying9 (fun j hj => by
    have := h j l[j] (List.getElem?_eq_getElem hj)
    rw [Addr.add_lit]
    simpa [num] using this)

end Go.Proofs.YtklkhegeeglfbaaGreatDoor
namespace Go.Proofs.YtklkhegeeglfbaaGreatDoor
open Go.RowKit Go.Maps

/-- Bits as a number, the lowest first. -/
def headN : List Bool → Nat
  | [] => 0
  | b :: r => (if b then 1 else 0) + 2 * headN r
theorem headN_snoc : ∀ (l : List Bool) (b : Bool), headN (l ++ [b]) = headN l + (if b then 2 ^ l.length else 0)
  | [], b => by cases b <;> simp [headN]
  | c :: r, b => by
    simp only [List.cons_append, headN, headN_snoc r b, List.length_cons, Nat.pow_succ]
    cases b <;> cases c <;> simp <;> omega
theorem headN_lt : ∀ l : List Bool, headN l < 2 ^ l.length
  | [] => by simp [headN]
  | b :: r => by
    have := headN_lt r
    simp only [headN, List.length_cons, Nat.pow_succ]
    cases b <;> simp <;> omega
/-- Which of the optional fields are present. -/
def bitsOf (z : List (FieldA × ValA)) : List Bool := (z.filter fun p => p.1.opt).map fun p => decide (p.2.kind ≠ 0)
theorem bitsOf_snoc (z : List (FieldA × ValA)) (f : FieldA) (x : ValA) : bitsOf (z ++ [(f, x)]) = bitsOf z ++ (if f.opt then [decide (x.kind ≠ 0)] else []) := by
  unfold bitsOf
  rw [List.filter_append, List.map_append]
  cases h : f.opt <;> simp [h]
theorem bitsOf_le (z : List (FieldA × ValA)) : (bitsOf z).length ≤ z.length := by
  unfold bitsOf
  rw [List.length_map]
  exact List.length_filter_le _ _
/-- The bytes of a value that is present. -/
def enc1 (x : ValA) : Txt :=
  if x.kind = 1 then groups (tn x.n) else if x.kind = 2 then [UInt8.ofNat x.n.toNat] else if x.kind = 3 then UInt8.ofNat x.s.length :: x.s else []
def headT (z : List (FieldA × ValA)) : Txt := if 0 < (bitsOf z).length then [UInt8.ofNat (headN (bitsOf z))] else []
def encB (l : List FieldA) (r : List ValA) : Txt := headT (l.zip r) ++ r.flatMap enc1
def encodeB (l : List FieldA) (r : List ValA) : Txt := if errR l r = 0 then encB l r else []
/-- The ints of values are ints. -/
def InR (r : List ValA) : Prop := ∀ x ∈ r, -9223372036854775808 ≤ x.n ∧ x.n ≤ 9223372036854775807

theorem pow2_le {k : Nat} (h : k ≤ 8) : 2 ^ k ≤ 256 := by
  have : 2 ^ k ≤ 2 ^ 8 := Nat.pow_le_pow_right (by omega) h
  omega
theorem fitsB_kind {f : FieldA} {x : ValA} (h : fitsB f x = true) : x.kind = 0 ∨ x.kind = 1 ∨ (x.kind = 2 ∧ 0 ≤ x.n ∧ x.n ≤ 1) ∨ (x.kind = 3 ∧ x.s.length ≤ 20) := by
  unfold fitsB at h
  repeat' split at h
  all_goals simp_all
  rcases h.1 with h | h <;> simp [h]
theorem fitAll_at {l : List FieldA} {r : List ValA} (h : fitAll l r = true) {k : Nat} {f : FieldA} {x : ValA} (hf : l[k]? = some f) (hx : r[k]? = some x) : fitsB f x = true := by
  have := List.all_eq_true.1 h (f, x) (List.mem_of_getElem? (zip_get hf hx))
  exact this
theorem errR_zero {l : List FieldA} {r : List ValA} (h : errR l r = 0) : schemaB l = true ∧ r.length = l.length ∧ fitAll l r = true := by
  unfold errR at h
  split at h
  · rename_i hs
    split at h
    · rename_i hr
      unfold recB at hr
      rw [Bool.and_eq_true, decide_eq_true_eq] at hr
      exact ⟨hs, hr⟩
    · cases h
  · cases h
theorem enc1_length {f : FieldA} {x : ValA} (h : fitsB f x = true) (hx : -9223372036854775808 ≤ x.n ∧ x.n ≤ 9223372036854775807) : (enc1 x).length ≤ 21 := by
  unfold enc1
  have hg := groups_10 (tn x.n) (tn_le _ hx.1 hx.2)
  rcases fitsB_kind h with h | h | ⟨h, _⟩ | ⟨h, h2⟩ <;> simp [h] <;> omega

end Go.Proofs.YtklkhegeeglfbaaGreatDoor
