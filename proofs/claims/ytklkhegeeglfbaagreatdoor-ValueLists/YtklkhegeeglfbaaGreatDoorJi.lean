import Derived.Test.YtklkhegeeglfbaaGreatDoorT
import Derived.Test.YtklkhegeeglfbaaGreatDoorJh
namespace Go.Proofs.YtklkhegeeglfbaaGreatDoor
open Go.RowKit Go.Maps

/-- Reading leniently, field by field. -/
def decLoop : List FieldA → Txt → Nat → Nat → Option (List ValA)
  | [], _, _, _ => some []
  | f :: rest, t, h, a =>
    if f.opt = true ∧ h % 2 ≠ 1 then (decLoop rest t (h / 2) a).map (⟨0, 0, []⟩ :: ·)
    else if (readB f t a).2 < 0 then none
    else (decLoop rest t (if f.opt then h / 2 else h) (readB f t a).2.toNat).map ((readB f t a).1 :: ·)
def head0 (l : List FieldA) (t : Txt) : Nat := if 0 < headB l then (t.getD 0 0).toNat else 0
def decodeB (l : List FieldA) (t : Txt) : List ValA × Int :=
  if schemaB l = false then ([], 60)
  else if t.length < headB l ∨ 64 < t.length then ([], 62)
  else match decLoop l t (head0 l t) (headB l) with
    | none => ([], 62)
    | some r => if errR l r = 0 ∧ encB l r = t then (r, 0) else ([], 62)

theorem readG_len : ∀ (f : Nat) (l : Txt) (u k u' k' : Nat), readG f l u k = some (u', k') → k' ≤ k + l.length ∧ k + 1 ≤ k' ∧ u' < 18446744073709551616
  | 0, _, _, _, _, _, h => by simp [readG] at h
  | _ + 1, [], _, _, _, _, h => by simp [readG] at h
  | f + 1, c :: r, u, k, u', k', h => by
    rw [readG] at h
    split at h
    · simp at h
      obtain ⟨rfl, rfl⟩ := h
      exact ⟨by simp, by omega, Nat.mod_lt _ (by omega)⟩
    · have := readG_len f r _ _ _ _ h
      simp only [List.length_cons]
      omega
theorem backB_range (u : Nat) (h : u < 18446744073709551616) : -9223372036854775808 ≤ backB u ∧ backB u ≤ 9223372036854775807 := by
  unfold backB
  split <;> omega
theorem readB_facts (f : FieldA) (t : Txt) (a : Nat) (ha : a ≤ t.length) : (readB f t a).2 ≤ (t.length : Int) ∧ -9223372036854775808 ≤ (readB f t a).1.n ∧ (readB f t a).1.n ≤ 9223372036854775807 := by
  unfold readB
  split
  · unfold readIntB
    cases h : readG 10 (t.drop a) 0 0 with
    | none => simp
    | some p =>
      obtain ⟨u, k⟩ := p
      have h1 := readG_len _ _ _ _ _ _ h
      rw [List.length_drop] at h1
      have h2 := backB_range u h1.2.2
      simp only
      omega
  · cases h : t[a]? with
    | none => simp
    | some c =>
      have h1 := get_lt h
      have h2 := num_range c
      simp only
      split
      · simp only; omega
      · split
        · simp only; omega
        · simp only; omega
theorem readB_pos (f : FieldA) (t : Txt) (a : Nat) : -1 ≤ (readB f t a).2 := by
  unfold readB
  split
  · unfold readIntB
    cases h : readG 10 (t.drop a) 0 0 with
    | none => simp
    | some p => simp only; omega
  · cases h : t[a]? with
    | none => simp
    | some c =>
      simp only
      split
      · simp only; omega
      · split
        · simp
        · simp only; omega

end Go.Proofs.YtklkhegeeglfbaaGreatDoor
namespace Go.Proofs.YtklkhegeeglfbaaGreatDoor
open Go.RowKit Go.Maps

/-- Decoding, by the program's own looking. -/
def decP : List FieldA → Nat → Txt → Option (List ValA × Nat × Txt)
  | [], m, t => some ([], m, t)
  | f :: l, m, t =>
    if f.opt = true ∧ m % 2 ≠ 1 then (decP l (m / 2) t).map (fun q => (⟨0, 0, []⟩ :: q.1, q.2))
    else (takeP f.type t).bind fun p => (decP l (if f.opt then m / 2 else m) p.2).map (fun q => (p.1 :: q.1, q.2))
def decodeP (l : List FieldA) (t : Txt) : Option (List ValA) :=
  if t.length < headB l then none else (decP l (head0 l t) (t.drop (headB l))).bind fun q => if q.2.1 = 0 ∧ q.2.2 = [] then some q.1 else none
/-- What decode's two answers tell. -/
def DecM (w' : World) (B : Nat) (v : Value) (ok : Bool) : Option (List ValA) → Prop
  | none => ok = false
  | some r => ok = true ∧ w'.ownsRow B 40 3 v r.length (vcs r)

def zeroVal : ValA := ⟨0, 0, []⟩
theorem run_mkv (n : Nat) (hn : n ≤ 1024) (w : World) : (Instr.makeSlice 23 (.int .i64 (n : Int)) (.int .i64 (n : Int))).run Tryz.prog w = .ok (.slice (some ⟨w.heap.size, 0, none⟩) n n) (w.alloc (.cells (vcs (List.replicate n zeroVal)).toArray 40)) := by
  obtain ⟨i0, hi, hz0, hz1, hz2⟩ := info_parts Tryz.info40
  have q := run_make (P := Tryz.prog) w 23 40 i0 (.agg #[.int .i64 0, .int .i64 0, .string ⟨#[]⟩]) Tryz.underlying23 hi hz0 .i64 .i64 (n : Int) (n : Int) (by omega) (by omega) (by rw [hz2]; omega) (by omega)
  rw [hz1] at q
  have e : madeCells (Value.agg #[.int .i64 0, .int .i64 0, .string ⟨#[]⟩]).cells (n * 3) = (vcs (List.replicate n zeroVal)).toArray := by
    apply Array.ext_getElem?
    intro i
    have h3 : (Value.agg #[Value.int .i64 0, .int .i64 0, .string ⟨#[]⟩]).cells = #[.int .i64 0, .int .i64 0, .string ⟨#[]⟩] := rfl
    rw [h3]
    simp only [madeCells, Array.getElem?_map, Array.getElem?_range, List.getElem?_toArray]
    by_cases h : i < n * 3
    · have hl : (List.replicate n zeroVal)[i / 3]? = some zeroVal := by rw [List.getElem?_replicate, if_pos (by omega)]
      have hf := flat_get ValA.cs (fun _ => rfl) (List.replicate n zeroVal) (i / 3) zeroVal (i % 3) hl (by omega)
      rw [show i / 3 * 3 + i % 3 = i by omega] at hf
      unfold vcs
      rw [hf, if_pos h]
      have : i % 3 = 0 ∨ i % 3 = 1 ∨ i % 3 = 2 := by omega
      rcases this with h | h | h <;> simp [h, zeroVal, ValA.cs]
    · rw [if_neg h, List.getElem?_eq_none (by rw [vcs_length, List.length_replicate]; omega)]
      rfl
  simpa [e] using q

/-- One value of a row of values, written. -/
theorem vcs_set {R : List ValA} {x y : ValA} {Z : List ValA} : (((vcs (R ++ y :: Z)).toArray.setIfInBounds (R.length * 3) (.int .i64 x.kind)).setIfInBounds (R.length * 3 + 1) (.int .i64 x.n)).setIfInBounds (R.length * 3 + 2) (.string ⟨x.s.toArray⟩) = (vcs (R ++ x :: Z)).toArray := by
  have hv : ∀ y : ValA, vcs (R ++ y :: Z) = vcs R ++ (y.cs ++ vcs Z) := fun y => by simp [vcs]
  have hl := vcs_length R
  rw [hv, hv, ← hl]
  apply Array.ext'
  simp [ValA.cs]

theorem vcs_kind (l : List ValA) (k : Nat) (c : Int) : (vcs l).toArray[k]? ≠ some (Value.int .u8 c) := by
  intro h
  rw [List.getElem?_toArray] at h
  have := List.mem_of_getElem? h
  unfold vcs at this
  obtain ⟨x, _, hx⟩ := List.mem_flatMap.1 this
  simp [ValA.cs] at hx
theorem owns_vals {w : World} {B g n : Nat} {R : List ValA} (hB : B ≤ g) (hn : n ≤ 1024) (hl : R.length = n) (h : w.heap[g]? = some (.cells (vcs R).toArray 40 (0, 0))) : w.ownsRow B 40 3 (.slice (some ⟨g, 0, none⟩) n n) R.length (vcs R) := by
  subst hl
  refine ⟨vcs_length R, Or.inr ⟨g, _, _, rfl, hB, h, Nat.le_refl _, by unfold maxLen; omega, by simp [vcs_length], ?_⟩⟩
  simp only
  rw [List.take_of_length_le (by rw [vcs_length]; exact Nat.le_refl _)]
theorem map_cons_snoc {q : Option (List ValA × Nat × Txt)} (R : List ValA) (x : ValA) : (q.map (fun q => (x :: q.1, q.2))).map (fun q => (R ++ q.1, q.2)) = q.map (fun q => (R ++ [x] ++ q.1, q.2)) := by
  cases q <;> simp

theorem takeG_len : ∀ (t : Txt) (k U U' : Nat) (r : Txt), takeG k t U = some (U', r) → r.length ≤ t.length
  | [], k, U, U', r, h => by simp [takeG] at h
  | c :: t, k, U, U', r, h => by
    rw [takeG] at h
    repeat' split at h
    · cases h
    · cases h
    · simp at h
      rw [h.2]; simp
    · have := takeG_len t _ _ _ _ h
      simp only [List.length_cons]
      omega
theorem takeP_len {ty : Int} {t r : Txt} {x : ValA} (h : takeP ty t = some (x, r)) : r.length ≤ t.length := by
  unfold takeP at h
  split at h
  · unfold takeIntP at h
    cases hg : takeG 0 t 0 with
    | none => rw [hg] at h; cases h
    | some p =>
      rw [hg] at h
      simp at h
      have := takeG_len _ _ _ _ _ (show takeG 0 t 0 = some (p.1, p.2) from hg)
      rw [← h.2]; exact this
  · split at h
    · cases t with
      | nil => cases h
      | cons c r' =>
        simp only [takeBoolP] at h
        split at h
        · cases h
        · simp at h
          rw [h.2]; simp
    · cases t with
      | nil => cases h
      | cons c r' =>
        simp only [takeBytesP] at h
        repeat' split at h
        · cases h
        · cases h
        · simp at h
          rw [← h.2]
          simp only [List.length_drop, List.length_cons]
          omega
/-- The cells of one value in a row of values. -/
theorem cells3 {w : World} {g k : Nat} {R Z : List ValA} {y : ValA} (h : w.heap[g]? = some (.cells (vcs (R ++ y :: Z)).toArray 40 (0, 0))) (hk : R.length = k) :
    w.cell? ⟨g, k * 3, none⟩ = some (.int .i64 y.kind) ∧ w.cell? ⟨g, k * 3 + 1, none⟩ = some (.int .i64 y.n) ∧ w.cell? ⟨g, k * 3 + 2, none⟩ = some (str y.s) ∧ w.frozen? ⟨g, k * 3, none⟩ = false ∧ w.frozen? ⟨g, k * 3 + 1, none⟩ = false ∧ w.frozen? ⟨g, k * 3 + 2, none⟩ = false := by
  have hy : (R ++ y :: Z)[k]? = some y := by rw [← hk]; simp
  have f := fun j hj => flat_get ValA.cs (fun _ => rfl) (R ++ y :: Z) k y j hy hj
  refine ⟨?_, ?_, ?_, frozen_of_blk h _, frozen_of_blk h _, frozen_of_blk h _⟩
  · rw [cell_of_blk h, List.getElem?_toArray]; exact f 0 (by omega)
  · rw [cell_of_blk h, List.getElem?_toArray]; exact f 1 (by omega)
  · rw [cell_of_blk h, List.getElem?_toArray]; exact f 2 (by omega)
theorem stored_end {w2 : World} {S k : Nat} {R Z : List ValA} {z x : ValA} {y : Value} {ok : Bool} {o : Option (ValA × Txt)} (hb : w2.heap[S]? = some (.cells (vcs (R ++ z :: Z)).toArray 40 (0, 0))) (hm : TookM w2 x y ok o) (hk : R.length = k) :
    Keeps (fun q => q = S) w2 (((w2.setCell ⟨S, k * 3, none⟩ (.int .i64 x.kind)).setCell ⟨S, k * 3 + 1, none⟩ (.int .i64 x.n)).setCell ⟨S, k * 3 + 2, none⟩ (.string ⟨x.s.toArray⟩)) ∧
    TookM (((w2.setCell ⟨S, k * 3, none⟩ (.int .i64 x.kind)).setCell ⟨S, k * 3 + 1, none⟩ (.int .i64 x.n)).setCell ⟨S, k * 3 + 2, none⟩ (.string ⟨x.s.toArray⟩)) x y ok o ∧
    (((w2.setCell ⟨S, k * 3, none⟩ (.int .i64 x.kind)).setCell ⟨S, k * 3 + 1, none⟩ (.int .i64 x.n)).setCell ⟨S, k * 3 + 2, none⟩ (.string ⟨x.s.toArray⟩)).heap[S]? = some (.cells (vcs (R ++ x :: Z)).toArray 40 (0, 0)) := by
  subst hk
  have hb3 := heap_setCell_at (o := R.length * 3 + 2) (heap_setCell_at (o := R.length * 3 + 1) (heap_setCell_at (o := R.length * 3) hb (.int .i64 x.kind)) (.int .i64 x.n)) (.string ⟨x.s.toArray⟩)
  rw [vcs_set] at hb3
  have hs : ∀ (a : World) (o : Nat) (v : Value), Keeps (fun q => q = S) w2 a → Keeps (fun q => q = S) w2 (a.setCell ⟨S, o, none⟩ v) := fun a o v h => h.setCell (fun _ => rfl) v
  have hk3 := hs _ (R.length * 3 + 2) (.string ⟨x.s.toArray⟩) (hs _ (R.length * 3 + 1) (.int .i64 x.n) (hs _ (R.length * 3) (.int .i64 x.kind) (Keeps.refl _ w2)))
  refine ⟨hk3, ?_, hb3⟩
  cases o with
  | none => exact hm
  | some p => exact ⟨hm.1, hm.2.1, bytes_apart hm.2.2 hb (vcs_kind _) hk3⟩

set_option maxRecDepth 100000 in
set_option maxHeartbeats 8000000 in
theorem decode_v (l : List FieldA) (v : Value) (t : Txt) (u : Value) (w : World) (h : FldsAt w v l) (hu : BytesAt w u t) (hl : l.length ≤ 8) (ht : t.length ≤ 140737488355328) (hform : (u = .slice none 0 0 ∧ t = []) ∨ ∃ b off cap, u = .slice (some ⟨b, off, none⟩) t.length cap) :
    Calls Tryz.prog 37 #[.agg #[v], u] w fun e w' => Keeps (fun _ => False) w w' ∧ ∃ v' ok, e = .returned (.tuple #[v', .bool ok]) ∧ DecM w' w.heap.size v' ok (decodeP l t) := by
  obtain ⟨ao, cap, rfl⟩ := RowAt.form h
  obtain ⟨HB, hb, hbc⟩ := boxed w #[.slice ao l.length cap] 26
  have hp := hbc 0 (.slice ao l.length cap) rfl
  have HF := hide (h.keepF (unhide HB))
  have HU := hide (hu.keepF (unhide HB))
  have HH := hide (head_v l _ _ (unhide HF) hl)
  have hHB : headB l ≤ 1 := by have := opts_le l; unfold headB; omega
  have HD : Hid (decodeP l t = if t.length < headB l then none else (decP l (head0 l t) (t.drop (headB l))).bind fun q => if q.2.1 = 0 ∧ q.2.2 = [] then some q.1 else none) := rfl
  have HH0 : Hid (head0 l t = if 0 < headB l then (t.getD 0 0).toNat else 0) := rfl
  generalize decodeP l t = D at *
  generalize head0 l t = M0 at *
  generalize headB l = H at *
  obtain ⟨ub, ul, uc, rfl, hul⟩ : ∃ ub ul uc, u = .slice ub ul uc ∧ ul = t.length := by
    rcases hform with ⟨rfl, rfl⟩ | ⟨b, off, cap, rfl⟩
    · exact ⟨_, _, _, rfl, rfl⟩
    · exact ⟨_, _, _, rfl, rfl⟩
  subst hul
  have HFM := hide hform
  clear hbc h hu hform
  go_enter Tryz.func37, Tryz.ntmps37
  go_wp2_with fail
  refine (unhide HH).mono ?_
  rintro e w2 ⟨rfl, hk2⟩
  have hp2 := (hk2.cell (o := 0) hb id).trans hp
  have hb2 := Nat.lt_of_lt_of_le hb hk2.size
  have HF2 := hide ((unhide HF).keepF hk2)
  have HU2 := hide ((unhide HU).keepF hk2)
  have HB2 := hide ((unhide HB).trans hk2)
  clear HH HF HU HB hk2 hp hb
  generalize w.alloc (.cells #[.slice ao l.length cap] 26) = w1 at *
  by_cases hlt : (t.length : Int) < (H : Int)
  · have HE : Hid (D = none) := by show _ = _; rw [unhide HD, if_pos (by omega)]
    go_wp2_with fail
    go_ret2
    refine ⟨unhide HB2, _, _, rfl, ?_⟩
    rw [unhide HE]
    rfl
  have hge : (H : Int) ≤ (t.length : Int) := by omega
  have HD2 : Hid (D = (decP l M0 (t.drop H)).bind fun q => if q.2.1 = 0 ∧ q.2.2 = [] then some q.1 else none) := by show _ = _; rw [unhide HD, if_neg (by omega)]
  have hS2 : w.heap.size < w2.heap.size := hb2
  clear hlt HD
  have hM255 : M0 ≤ 255 := by
    rw [unhide HH0]
    split
    · have := (t.getD 0 0).toNat_lt; omega
    · omega
  obtain hc3 : (H = 0 ∧ ub = none ∧ uc = 0 ∧ t = []) ∨ (H = 0 ∧ ∃ b off, ub = some ⟨b, off, none⟩) ∨ (H = 1 ∧ (∃ b off, ub = some ⟨b, off, none⟩) ∧ ∃ c r', t = c :: r') := by
    have hH2 : H = 0 ∨ H = 1 := by omega
    rcases unhide HFM with ⟨hx, rfl⟩ | ⟨b, off, cc, hx⟩
    · simp only [Value.slice.injEq] at hx
      rcases hH2 with h | h
      · exact Or.inl ⟨h, hx.1, hx.2.2, rfl⟩
      · subst h; simp at hge
    · simp only [Value.slice.injEq] at hx
      rcases hH2 with h | h
      · exact Or.inr (Or.inl ⟨h, b, off, hx.1⟩)
      · refine Or.inr (Or.inr ⟨h, ⟨b, off, hx.1⟩, ?_⟩)
        subst h
        cases t with
        | nil => simp at hge
        | cons c r => exact ⟨c, r, rfl⟩
  have hroom : t.length ≤ uc := RowAt.room (unhide HU2) _ _ _ rfl
  rcases hc3 with ⟨rfl, rfl, rfl, rfl⟩ | ⟨rfl, b, off, rfl⟩ | ⟨rfl, ⟨b, off, rfl⟩, c, r', rfl⟩
  case' inl =>
    have HM0 : Hid (M0 = 0) := by show _ = _; rw [unhide HH0]; rfl
    obtain ⟨T, HTL, HY, HD3⟩ : ∃ T : Txt, Hid (T.length ≤ 140737488355328) ∧ Hid (BytesAt w2 (Value.slice none 0 0) T) ∧ Hid (D = (decP l M0 T).bind (fun q => if q.2.1 = 0 ∧ q.2.2 = [] then some q.1 else none)) := ⟨[], by simp [Hid], unhide HU2, unhide HD2⟩
    have HV7 : Hid (Value.int .u64 0 = Value.int .u64 (M0 : Int)) := by show _ = _; rw [unhide HM0]; rfl
    clear HU2 HD2 HFM
    go_wp2_with fail
    go_quiet ((go_at_call 62; exact Calls.quiet_of_same (number_none _ _ _)))
  case' inr.inl =>
    have HM0 : Hid (M0 = 0) := by show _ = _; rw [unhide HH0]; rfl
    have i0 : (0 : Int) ≤ (uc : Int) := by omega
    have i1 : (t.length : Int) ≤ (uc : Int) := by omega
    obtain ⟨T, HTL, HY, HD3⟩ : ∃ T : Txt, Hid (T.length ≤ 140737488355328) ∧ Hid (BytesAt w2 (Value.slice (some ⟨b, off, none⟩) t.length uc) T) ∧ Hid (D = (decP l M0 T).bind (fun q => if q.2.1 = 0 ∧ q.2.2 = [] then some q.1 else none)) := ⟨t, ht, unhide HU2, unhide HD2⟩
    have HV7 : Hid (Value.int .u64 0 = Value.int .u64 (M0 : Int)) := by show _ = _; rw [unhide HM0]; rfl
    clear HU2 HD2 HFM
    go_wp2_with fail
    go_quiet ((go_at_call 62; exact Calls.quiet_of_same (number_none _ _ _)))
  case' inr.inr =>
    have HM0 : Hid (M0 = c.toNat) := by show _ = _; rw [unhide HH0]; rfl
    have c0 : w2.cell? ⟨b, off, none⟩ = some (.int .u8 (num c)) := by
      obtain ⟨b', off', cc, e1, hblt, hc⟩ := RowAt.cells (unhide HU2) (by simp)
      simp only [Value.slice.injEq, Option.some.injEq, Addr.mk.injEq] at e1
      obtain ⟨⟨rfl, rfl, _⟩, _, _⟩ := e1
      have := hc 0 (.int .u8 (num c)) rfl
      rw [Nat.add_zero] at this
      exact this
    have i1 : (1 : Int) ≤ (uc : Int) := by omega
    have i2 : ((c :: r').length : Int) ≤ (uc : Int) := by omega
    obtain ⟨T, HTL, HY, HD3⟩ : ∃ T : Txt, Hid (T.length ≤ 140737488355328) ∧ Hid (BytesAt w2 (Value.slice (if uc = 1 then some ⟨b, off, none⟩ else some ⟨b, off + 1, none⟩) ((c :: r').length - 1) (uc - 1)) T) ∧ Hid (D = (decP l M0 T).bind (fun q => if q.2.1 = 0 ∧ q.2.2 = [] then some q.1 else none)) := ⟨(c :: r').drop 1, by show _ ≤ _; rw [List.length_drop]; omega, rest_bytes (unhide HU2) (k := 1) (by simp), unhide HD2⟩
    have HV7 : Hid (Value.int .u64 (num c) = Value.int .u64 (M0 : Int)) := by show _ = _; rw [unhide HM0]; rfl
    clear HU2 HD2 HFM
    generalize (c :: r').length = L at *
    go_wp2_with fail
    go_quiet ((go_at_call 62; exact Calls.quiet_of (((number_one b off uc c _ (by simpa using c0))).mono (fun e w' h => ⟨h.1, 0, h.2⟩))))
    generalize (if uc = 1 then some (⟨b, off, none⟩ : Addr) else some ⟨b, off + 1, none⟩) = A at *
    clear c0 i1 i2
  all_goals
    have KD := keeps_drewN w2 nq
    have hp3 := (KD.cell (o := 0) hb2 id).trans hp2
    have HB3 := hide ((unhide HB2).trans KD)
    have HF3 := hide ((unhide HF2).keepF KD)
    have HY3 := hide ((unhide HY).keepF KD)
    have hb3 : w.heap.size < (w2.drewN nq).heap.size := Nat.lt_of_lt_of_le hb2 KD.size
    clear KD HB2 HF2 HY hp2 hb2 hS2 HM0 HH0
    generalize w2.drewN nq = w3 at *
    have hmk := run_mkv l.length (by omega) w3
    have HG := hide (heap_alloc_new w3 (.cells (vcs (List.replicate l.length zeroVal)).toArray 40))
    have HA : Hid (Keeps (fun q => w3.heap.size ≤ q) w3 (w3.alloc (.cells (vcs (List.replicate l.length zeroVal)).toArray 40))) := (Keeps.refl _ _).alloc _
    have HYA := hide ((unhide HY3).keepF ((Keeps.refl _ w3).alloc (.cells (vcs (List.replicate l.length zeroVal)).toArray 40)))
    have hp4 := ((unhide HA).cell (o := 0) hb3 (by omega)).trans hp3
    have hS4 : w3.heap.size < (w3.alloc (.cells (vcs (List.replicate l.length zeroVal)).toArray 40)).heap.size := by simp
    go_wp2_with fail
    generalize w3.alloc (.cells (vcs (List.replicate l.length zeroVal)).toArray 40) = w4 at *
    clear hmk
    go_loopw [4, 5, 7, 8, 32] (fun rr okk mm yy i wr => ∃ (k M : Nat) (R : List ValA) (T' : Txt), k ≤ l.length ∧ Hid (R.length = k) ∧ i = .int .i64 k ∧ rr = .slice (some ⟨w3.heap.size, 0, none⟩) l.length l.length ∧ (∃ o, okk = .bool o) ∧ mm = .int .u64 M ∧ M ≤ 255 ∧ Hid (BytesAt wr yy T') ∧ Hid (T'.length ≤ 140737488355328) ∧ Hid (decP l M0 T = (decP (l.drop k) M T').map (fun q => (R ++ q.1, q.2))) ∧ Hid (wr.heap[w3.heap.size]? = some (.cells (vcs (R ++ List.replicate (l.length - k) zeroVal)).toArray 40 (0, 0))) ∧ Keeps (fun q => w3.heap.size ≤ q) w4 wr) (fun _ _ _ _ i _ => l.length - (intOf i).toNat)
    case atStart => exact ⟨0, M0, [], T, Nat.zero_le _, rfl, rfl, rfl, ⟨_, rfl⟩, unhide HV7, hM255, unhide HYA, unhide HTL, by simp [Hid], by show _ = _; simpa using unhide HG, Keeps.refl _ _⟩
    case round =>
      obtain ⟨k, M, R, T', hk, HRL, rfl, rfl, ⟨o, rfl⟩, rfl, hM, HYk, HTk, HDk, HBk, hkp⟩ := hrel
      have HK := hide ((unhide HA).trans hkp)
      have hp5 := (hkp.cell (o := 0) (Nat.lt_of_lt_of_le hb3 (unhide HA).size) (by omega)).trans hp4
      have HKP := hide hkp
      have hS5 : w3.heap.size < wr.heap.size := Nat.lt_of_lt_of_le hS4 hkp.size
      clear hkp
      by_cases hlt : k < l.length
      · obtain ⟨f, hf⟩ : ∃ f, l[k]? = some f := ⟨_, List.getElem?_eq_getElem hlt⟩
        obtain ⟨b5, off5, c5, e5, hbl, hc⟩ := (unhide HF3).cells (by omega)
        simp at e5
        obtain ⟨rfl, rfl⟩ := e5
        have c0 := ((unhide HK).cell hbl (by omega)).trans (hc k f hf).1
        have c1 := ((unhide HK).cell hbl (by omega)).trans (hc k f hf).2.1
        have c2 := ((unhide HK).cell hbl (by omega)).trans (hc k f hf).2.2
        have HDR : Hid (l.drop k = f :: l.drop (k + 1)) := drop_at hf
        have HKN := hide ((unhide HKP).alloc (.cells #[str f.name, .int .i64 f.type, .bool f.opt] 69))
        have HYN := hide ((unhide HYk).keepF ((Keeps.refl _ wr).alloc (.cells #[str f.name, .int .i64 f.type, .bool f.opt] 69)))
        have HBN : Hid ((wr.alloc (.cells #[str f.name, .int .i64 f.type, .bool f.opt] 69)).heap[w3.heap.size]? = some (.cells (vcs (R ++ List.replicate (l.length - k) zeroVal)).toArray 40 (0, 0))) := (Below.heap_alloc _ _ _ hS5).trans (unhide HBk)
        have HQ := hide (takeValue_v f.type _ _ T' (unhide HYN) (unhide HTk))
        have hRP : Hid (List.replicate (l.length - k) zeroVal = zeroVal :: List.replicate (l.length - (k + 1)) zeroVal) := by
          show _ = _
          rw [show l.length - k = (l.length - (k + 1)) + 1 by omega, List.replicate_succ]
        have hand : bits .and .u64 (M : Int) 1 = (M : Int) % 2 := by rw [and_one64 M (by omega)]; omega
        have i5 : (k : Int) < (l.length : Int) := by omega
        clear hc hf HKP HYk
        cases hfo : f.opt with
        | true =>
          rw [hfo] at c2 HKN HYN HBN HQ
          by_cases hm2 : M % 2 = 1
          · have hm2' : ((M : Int) % 2 == 1) = true := by rw [beq_iff_eq]; omega
            have HDN : Hid (decP (l.drop k) M T' = (takeP f.type T').bind fun p => (decP (l.drop (k + 1)) (M / 2) p.2).map (fun q => (p.1 :: q.1, q.2))) := by
              show _ = _
              rw [unhide HDR, decP, if_neg (by omega), if_pos hfo]
            obtain ⟨M2, HM2⟩ : ∃ M2, Hid (M2 = M / 2) := ⟨_, rfl⟩
            rw [← unhide HM2] at HDN
            have HM2v : Hid ((M2 : Int) = (M : Int) / 2) := by show _ = _; rw [unhide HM2]; omega
            have hM2 : M2 ≤ 255 := by rw [unhide HM2]; omega
            clear hm2
            go_wp2_with fail
            refine (unhide HQ).mono ?_
            rintro e w5 ⟨hk5, hT5⟩
            obtain ⟨x, y5, ok5, rfl, hm5⟩ := hT5.form
            have hblk : w5.heap[w3.heap.size]? = some (.cells (vcs (R ++ zeroVal :: List.replicate (l.length - (k + 1)) zeroVal)).toArray 40 (0, 0)) := by
              rw [hk5.block _ (Nat.lt_trans hS5 (by simp)) id, unhide HBN, unhide hRP]
            obtain ⟨d0, d1, d2, g0, g1, g2⟩ := cells3 hblk (unhide HRL)
            have HEND := hide (stored_end hblk hm5 (k := k) (x := x) (unhide HRL))
            have HK5 := hide ((unhide HKN).trans hk5.any)
            cases hpt : takeP f.type T' with
            | none =>
              rw [hpt] at hm5
              obtain rfl : ok5 = false := hm5
              have HE : Hid (D = none) := by
                show _ = _
                rw [unhide HD3, unhide HDk, unhide HDN, hpt]
                rfl
              clear hblk hk5 hT5 HQ hpt
              unfold ValA.v
              go_wp2_with fail
              go_ret2
              refine ⟨(unhide HB3).narrowS (((unhide HA).trans (unhide HK5)).then (unhide HEND).1 (fun i _ e => by omega)) (fun i hi => by omega), _, _, rfl, ?_⟩
              rw [unhide HE]
              rfl
            | some p =>
              rw [hpt] at hm5 HEND
              obtain ⟨rfl, rfl, _⟩ := hm5
              have HE : Hid (decP l M0 T = (decP (l.drop (k + 1)) M2 p.2).map (fun q => (R ++ [p.1] ++ q.1, q.2))) := by
                show _ = _
                rw [unhide HDk, unhide HDN, hpt]
                exact map_cons_snoc R p.1
              have HTN : Hid (p.2.length ≤ 140737488355328) := Nat.le_trans (takeP_len (show takeP f.type T' = some (p.1, p.2) from hpt)) (unhide HTk)
              clear hblk hk5 hT5 HQ hpt
              unfold ValA.v
              go_wp2_with fail
              go_roundw
              case rel =>
                refine ⟨k + 1, M2, R ++ [p.1], p.2, by omega, by show _ = _; rw [List.length_append, unhide HRL]; rfl, by go_num, rfl, ⟨_, rfl⟩, congrArg (Value.int .u64) (unhide HM2v).symm, hM2, (unhide HEND).2.1.2.2, HTN, HE, ?_, (unhide HK5).then (unhide HEND).1 (fun i _ e => by omega)⟩
                show _ = _
                rw [(unhide HEND).2.2, List.append_assoc]
                rfl
              case measure => simp [intOf]; omega
          · have hm2' : ((M : Int) % 2 == 1) = false := beq_eq_false_iff_ne.2 (by omega)
            have HDN : Hid (decP (l.drop k) M T' = (decP (l.drop (k + 1)) (M / 2) T').map (fun q => (⟨0, 0, []⟩ :: q.1, q.2))) := by
              show _ = _
              rw [unhide HDR, decP, if_pos ⟨hfo, hm2⟩]
            clear hm2 HQ
            go_wp2_with fail
            go_roundw
            case rel =>
              refine ⟨k + 1, M / 2, R ++ [zeroVal], T', by omega, by show _ = _; rw [List.length_append, unhide HRL]; rfl, by go_num, rfl, ⟨_, rfl⟩, by go_num, by omega, unhide HYN, unhide HTk, ?_, ?_, unhide HKN⟩
              · show _ = _
                rw [unhide HDk, unhide HDN, map_cons_snoc]
                rfl
              · show _ = _
                rw [unhide HBN, unhide hRP, List.append_assoc]
                rfl
            case measure => simp [intOf]; omega
        | false =>
          rw [hfo] at c2 HKN HYN HBN HQ
          obtain ⟨M2, HM2⟩ : ∃ M2, Hid (M2 = M) := ⟨_, rfl⟩
          have HDN : Hid (decP (l.drop k) M T' = (takeP f.type T').bind fun p => (decP (l.drop (k + 1)) M2 p.2).map (fun q => (p.1 :: q.1, q.2))) := by
            show _ = _
            rw [unhide HM2, unhide HDR, decP, if_neg (by simp [hfo]), if_neg (by simp [hfo])]
          have HM2v : Hid ((M2 : Int) = (M : Int)) := by show _ = _; rw [unhide HM2]
          have hM2 : M2 ≤ 255 := by rw [unhide HM2]; omega
          clear hand
          go_wp2_with fail
          refine (unhide HQ).mono ?_
          rintro e w5 ⟨hk5, hT5⟩
          obtain ⟨x, y5, ok5, rfl, hm5⟩ := hT5.form
          have hblk : w5.heap[w3.heap.size]? = some (.cells (vcs (R ++ zeroVal :: List.replicate (l.length - (k + 1)) zeroVal)).toArray 40 (0, 0)) := by
            rw [hk5.block _ (Nat.lt_trans hS5 (by simp)) id, unhide HBN, unhide hRP]
          obtain ⟨d0, d1, d2, g0, g1, g2⟩ := cells3 hblk (unhide HRL)
          have HEND := hide (stored_end hblk hm5 (k := k) (x := x) (unhide HRL))
          have HK5 := hide ((unhide HKN).trans hk5.any)
          cases hpt : takeP f.type T' with
          | none =>
            rw [hpt] at hm5
            obtain rfl : ok5 = false := hm5
            have HE : Hid (D = none) := by
              show _ = _
              rw [unhide HD3, unhide HDk, unhide HDN, hpt]
              rfl
            clear hblk hk5 hT5 HQ hpt
            unfold ValA.v
            go_wp2_with fail
            go_ret2
            refine ⟨(unhide HB3).narrowS (((unhide HA).trans (unhide HK5)).then (unhide HEND).1 (fun i _ e => by omega)) (fun i hi => by omega), _, _, rfl, ?_⟩
            rw [unhide HE]
            rfl
          | some p =>
            rw [hpt] at hm5 HEND
            obtain ⟨rfl, rfl, _⟩ := hm5
            have HE : Hid (decP l M0 T = (decP (l.drop (k + 1)) M2 p.2).map (fun q => (R ++ [p.1] ++ q.1, q.2))) := by
              show _ = _
              rw [unhide HDk, unhide HDN, hpt]
              exact map_cons_snoc R p.1
            have HTN : Hid (p.2.length ≤ 140737488355328) := Nat.le_trans (takeP_len (show takeP f.type T' = some (p.1, p.2) from hpt)) (unhide HTk)
            clear hblk hk5 hT5 HQ hpt
            unfold ValA.v
            go_wp2_with fail
            go_roundw
            case rel =>
              refine ⟨k + 1, M2, R ++ [p.1], p.2, by omega, by show _ = _; rw [List.length_append, unhide HRL]; rfl, by go_num, rfl, ⟨_, rfl⟩, congrArg (Value.int .u64) (unhide HM2v).symm, hM2, (unhide HEND).2.1.2.2, HTN, HE, ?_, (unhide HK5).then (unhide HEND).1 (fun i _ e => by omega)⟩
              show _ = _
              rw [(unhide HEND).2.2, List.append_assoc]
              rfl
            case measure => simp [intOf]; omega
      · obtain rfl : k = l.length := by omega
        obtain ⟨ya, yc, rfl⟩ := RowAt.form (unhide HYk)
        have HDF : Hid (D = if M = 0 ∧ T' = [] then some R else none) := by
          show _ = _
          rw [unhide HD3, unhide HDk, List.drop_length]
          simp [decP]
        have HOW : Hid (wr.ownsRow w.heap.size 40 3 (.slice (some ⟨w3.heap.size, 0, none⟩) l.length l.length) R.length (vcs R)) := by
          refine owns_vals (by omega) (by omega) (unhide HRL) ?_
          have := unhide HBk
          simpa using this
        have HKF := hide ((unhide HB3).narrowS (unhide HK) (fun i hi => by omega))
        by_cases hM0 : M = 0
        · have hM0' : ((M : Int) == 0) = true := by rw [beq_iff_eq]; omega
          by_cases hT0 : T' = []
          · have hT0' : ((T'.length : Int) == 0) = true := by rw [beq_iff_eq, hT0]; rfl
            have HE : Hid (D = some R) := by show _ = _; rw [unhide HDF, if_pos ⟨hM0, hT0⟩]
            clear hM0 hT0
            go_wp2_with fail
            go_ret2
            refine ⟨unhide HKF, _, _, rfl, ?_⟩
            rw [unhide HE]
            exact ⟨rfl, unhide HOW⟩
          · have hT0' : ((T'.length : Int) == 0) = false := beq_eq_false_iff_ne.2 (fun e => hT0 (List.eq_nil_of_length_eq_zero (by omega)))
            have HE : Hid (D = none) := by show _ = _; rw [unhide HDF, if_neg (fun e => hT0 e.2)]
            clear hM0 hT0
            go_wp2_with fail
            go_ret2
            refine ⟨unhide HKF, _, _, rfl, ?_⟩
            rw [unhide HE]
            rfl
        · have hM0' : ((M : Int) == 0) = false := beq_eq_false_iff_ne.2 (by omega)
          have HE : Hid (D = none) := by show _ = _; rw [unhide HDF, if_neg (fun e => hM0 e.1)]
          clear hM0
          go_wp2_with fail
          go_ret2
          refine ⟨unhide HKF, _, _, rfl, ?_⟩
          rw [unhide HE]
          rfl

end Go.Proofs.YtklkhegeeglfbaaGreatDoor
