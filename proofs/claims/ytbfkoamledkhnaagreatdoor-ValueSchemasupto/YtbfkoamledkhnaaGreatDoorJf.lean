import Derived.Test.YtbfkoamledkhnaaGreatDoorJe
namespace Go.Proofs.YtbfkoamledkhnaaGreatDoor
open Go.RowKit Go.Maps

/-- The value of a field at a place of some bytes, and the place behind it (-1: the bytes end too early). -/
def readB (f : FieldA) (t : Txt) (a : Nat) : ValA × Int :=
  if f.type = 1 then (⟨1, (readIntB t a).1, []⟩, (readIntB t a).2)
  else match t[a]? with
    | none => (⟨0, 0, []⟩, -1)
    | some c =>
      if f.type = 2 then (⟨2, num c, []⟩, (a + 1 : Nat))
      else if t.length < a + 1 + c.toNat then (⟨0, 0, []⟩, -1)
      else (⟨3, 0, (t.drop (a + 1)).take c.toNat⟩, (a + 1 + c.toNat : Nat))

theorem conv_at (w : World) (b off cap : Nat) (l : Txt) (h : ∀ j c, l[j]? = some c → w.cell? ⟨b, off + j, none⟩ = some (.int .u8 (num c))) :
    (convert 30 9 (.slice (some ⟨b, off, none⟩) l.length cap)).run Tryz.prog w = .ok (str l) w :=
  run_convert_bytes_back w 30 9 5 ⟨b, off, none⟩ cap l Tryz.underlying30 Tryz.underlying5 Tryz.underlying9 (fun j hj => by
    have := h j l[j] (List.getElem?_eq_getElem hj)
    rw [Addr.add_lit]
    simpa [num] using this)

set_option maxRecDepth 100000 in
set_option maxHeartbeats 2000000 in
theorem read_any (f : FieldA) (w : World) (v : Value) (t : Txt) (a : Nat) (h : BytesAt w v t) (ha : a ≤ 1099511627776) (ht : t.length ≤ 1099511627776) :
    Calls Tryz.prog 66 #[f.v, v, .int .i64 a] w fun e w' => e = .returned (.tuple #[(readB f t a).1.v, .int .i64 (readB f t a).2]) ∧ Keeps (fun _ => False) w w' := by
  obtain ⟨ao, cap, rfl⟩ := RowAt.form h
  have HF := hide h
  clear h
  unfold FieldA.v ValA.v
  by_cases h1 : f.type = 1
  · have HR : Hid (readB f t a = (⟨1, (readIntB t a).1, []⟩, (readIntB t a).2)) := by show _ = _; unfold readB; rw [if_pos h1]
    rw [unhide HR, h1]
    have hk : Keeps (fun _ => False) w ((w.alloc (.cells #[str f.name, .int .i64 1, .bool f.opt] 56)).alloc (.cells #[.int .i64 0, .int .i64 0, str []] 69)) := ((Keeps.refl _ _).alloc _).alloc _
    have HI := hide (readInt_any _ _ t a ((unhide HF).keepF hk) ha ht)
    generalize readIntB t a = R at *
    clear hk
    go_enter Tryz.func66, Tryz.ntmps66
    go_wp2_with fail
    refine (unhide HI).mono ?_
    rintro e w2 ⟨rfl, rfl⟩
    go_wp2_with fail
    refine bodyPost_ret (v := .tuple #[.agg #[.int .i64 1, .int .i64 R.1, str []], .int .i64 R.2]) (by simp [results, go_sem]) rfl ?_
    exact ⟨rfl, ((Keeps.refl _ _).alloc _).alloc _⟩
  have hne1 : (f.type == 1) = false := by simpa using h1
  cases hx : t[a]? with
  | none =>
    have h2 := get_ge hx
    have HR : Hid (readB f t a = (⟨0, 0, []⟩, -1)) := by show _ = _; unfold readB; rw [if_neg h1, hx]
    rw [unhide HR]
    clear hx h1
    go_enter Tryz.func66, Tryz.ntmps66
    go_wp2_with fail
    refine bodyPost_ret (v := .tuple #[.agg #[.int .i64 0, .int .i64 0, str []], .int .i64 (-1)]) (by simp [results, go_sem]) rfl ?_
    exact ⟨rfl, ((Keeps.refl _ _).alloc _).alloc _⟩
  | some c =>
    have h2 := get_lt hx
    obtain ⟨b, off, cc, e1, hblt, hc⟩ := (unhide HF).cells (by omega)
    simp at e1
    obtain ⟨rfl, rfl⟩ := e1
    have c0 := hc a c hx
    have hcr := num_range c
    have HC := hide hc
    have HN : Hid (num c = (c.toNat : Int)) := rfl
    by_cases h3 : f.type = 2
    · have HR : Hid (readB f t a = (⟨2, num c, []⟩, ((a + 1 : Nat) : Int))) := by show _ = _; unfold readB; rw [if_neg h1, hx]; simp only; rw [if_pos h3]
      rw [unhide HR, h3]
      clear hx h1 hc hne1
      generalize num c = x at *
      go_enter Tryz.func66, Tryz.ntmps66
      go_wp2_with fail
      refine bodyPost_ret (v := .tuple #[.agg #[.int .i64 2, .int .i64 x, str []], .int .i64 ((a + 1 : Nat) : Int)]) (by simp [results, go_sem]) rfl ?_
      exact ⟨rfl, ((Keeps.refl _ _).alloc _).alloc _⟩
    have hne2 : (f.type == 2) = false := by simpa using h3
    by_cases h4 : t.length < a + 1 + c.toNat
    · have HR : Hid (readB f t a = (⟨0, 0, []⟩, -1)) := by show _ = _; unfold readB; rw [if_neg h1, hx]; simp only; rw [if_neg h3, if_pos h4]
      rw [unhide HR]
      have h4' : (t.length : Int) < (a : Int) + 1 + num c := by have := unhide HN; omega
      clear hx h1 h3 hc h4
      generalize num c = x at *
      go_enter Tryz.func66, Tryz.ntmps66
      go_wp2_with fail
      refine bodyPost_ret (v := .tuple #[.agg #[.int .i64 0, .int .i64 0, str []], .int .i64 (-1)]) (by simp [results, go_sem]) rfl ?_
      exact ⟨rfl, ((Keeps.refl _ _).alloc _).alloc _⟩
    · have HR : Hid (readB f t a = (⟨3, 0, (t.drop (a + 1)).take c.toNat⟩, ((a + 1 + c.toNat : Nat) : Int))) := by show _ = _; unfold readB; rw [if_neg h1, hx]; simp only; rw [if_neg h3, if_neg h4]
      rw [unhide HR]
      obtain ⟨s, hs⟩ : ∃ s, s = (t.drop (a + 1)).take c.toNat := ⟨_, rfl⟩
      have hsl : s.length = c.toNat := by rw [hs]; simp; omega
      have HS : Hid (∀ (w : World) (cap : Nat), (∀ j x, t[j]? = some x → w.cell? ⟨b, off + j, none⟩ = some (.int .u8 (num x))) → (convert 30 9 (.slice (some ⟨b, off + (a + 1), none⟩) c.toNat cap)).run Tryz.prog w = .ok (str s) w) := by
        intro w cap hw
        rw [← hsl]
        refine conv_at w b (off + (a + 1)) cap s (fun j x hj => ?_)
        rw [Nat.add_assoc]
        apply hw
        rw [hs, List.getElem?_take] at hj
        split at hj
        · rwa [List.getElem?_drop] at hj
        · cases hj
      rw [← hs]
      have h4' : (a : Int) + 1 + num c ≤ (t.length : Int) := by have := unhide HN; omega
      obtain ⟨n, hn⟩ : ∃ n, n = c.toNat := ⟨_, rfl⟩
      rw [← hn] at HS HN h4 hsl ⊢
      have hnl : n ≤ 255 := by have := unhide HN; omega
      rw [unhide HN] at c0 h4' hcr
      have hcap : t.length ≤ cap := RowAt.room (unhide HF) _ _ _ rfl
      have hk : Keeps (fun _ => False) w ((w.alloc (.cells #[str f.name, .int .i64 f.type, .bool f.opt] 56)).alloc (.cells #[.int .i64 0, .int .i64 0, str []] 69)) := ((Keeps.refl _ _).alloc _).alloc _
      have hcw : ∀ j x, t[j]? = some x → ((w.alloc (.cells #[str f.name, .int .i64 f.type, .bool f.opt] 56)).alloc (.cells #[.int .i64 0, .int .i64 0, str []] 69)).cell? ⟨b, off + j, none⟩ = some (.int .u8 (num x)) := fun j x hj => (hk.cell hblt id).trans (hc j x hj)
      have hcv := unhide HS _ (cap - (a + 1)) hcw
      clear hx h1 h3 hc hs hn hk
      by_cases hca : cap = a + 1
      · subst hca
        obtain rfl : n = 0 := by omega
        obtain rfl : s = [] := List.eq_nil_of_length_eq_zero hsl
        have hcv0 := conv_at ((w.alloc (.cells #[str f.name, .int .i64 f.type, .bool f.opt] 56)).alloc (.cells #[.int .i64 0, .int .i64 0, str []] 69)) b off 0 [] (fun j c hj => by simp at hj)
        simp only [List.length_nil] at hcv0
        clear hcw HS
        go_enter Tryz.func66, Tryz.ntmps66
        go_wp2_with fail
        refine bodyPost_ret (v := .tuple #[.agg #[.int .i64 3, .int .i64 0, str []], .int .i64 ((a + 1 + 0 : Nat) : Int)]) (by simp [results, go_sem]) rfl ?_
        exact ⟨rfl, ((Keeps.refl _ _).alloc _).alloc _⟩
      · clear hcw HS hsl
        go_enter Tryz.func66, Tryz.ntmps66
        go_wp2_with fail
        refine bodyPost_ret (v := .tuple #[.agg #[.int .i64 3, .int .i64 0, str s], .int .i64 ((a + 1 + n : Nat) : Int)]) (by simp [results, go_sem]) rfl ?_
        exact ⟨rfl, ((Keeps.refl _ _).alloc _).alloc _⟩

end Go.Proofs.YtbfkoamledkhnaaGreatDoor
namespace Go.Proofs.YtbfkoamledkhnaaGreatDoor
open Go.RowKit Go.Maps

/-- Bits as a number, the lowest first. -/
def headN : List Bool → Nat
  | [] => 0
  | b :: r => (if b then 1 else 0) + 2 * headN r
theorem headN_snoc : ∀ (l : List Bool) (b : Bool), headN (l ++ [b]) = headN l + (if b then 2 ^ l.length else 0)
  | [], b => by cases b <;> simp [headN]
  | c :: r, b => by
    simp only [List.cons_append, headN, headN_snoc r b, List.length_cons, Nat.pow_succ]
    cases b <;> cases c <;> simp <;> omega
theorem headN_lt : ∀ l : List Bool, headN l < 2 ^ l.length
  | [] => by simp [headN]
  | b :: r => by
    have := headN_lt r
    simp only [headN, List.length_cons, Nat.pow_succ]
    cases b <;> simp <;> omega
/-- Which of the optional fields are present. -/
def bitsOf (z : List (FieldA × ValA)) : List Bool := (z.filter fun p => p.1.opt).map fun p => decide (p.2.kind ≠ 0)
theorem bitsOf_snoc (z : List (FieldA × ValA)) (f : FieldA) (x : ValA) : bitsOf (z ++ [(f, x)]) = bitsOf z ++ (if f.opt then [decide (x.kind ≠ 0)] else []) := by
  unfold bitsOf
  rw [List.filter_append, List.map_append]
  cases h : f.opt <;> simp [h]
theorem bitsOf_le (z : List (FieldA × ValA)) : (bitsOf z).length ≤ z.length := by
  unfold bitsOf
  rw [List.length_map]
  exact List.length_filter_le _ _
/-- The bytes of a value that is present. -/
def enc1 (x : ValA) : Txt :=
  if x.kind = 1 then groups (tn x.n) else if x.kind = 2 then [UInt8.ofNat x.n.toNat] else if x.kind = 3 then UInt8.ofNat x.s.length :: x.s else []
def headT (z : List (FieldA × ValA)) : Txt := if 0 < (bitsOf z).length then [UInt8.ofNat (headN (bitsOf z))] else []
def encB (l : List FieldA) (r : List ValA) : Txt := headT (l.zip r) ++ r.flatMap enc1
def encodeB (l : List FieldA) (r : List ValA) : Txt := if errR l r = 0 then encB l r else []
/-- The ints of values are ints. -/
def InR (r : List ValA) : Prop := ∀ x ∈ r, -9223372036854775808 ≤ x.n ∧ x.n ≤ 9223372036854775807

theorem pow2_le {k : Nat} (h : k ≤ 8) : 2 ^ k ≤ 256 := by
  have : 2 ^ k ≤ 2 ^ 8 := Nat.pow_le_pow_right (by omega) h
  omega
theorem fitsB_kind {f : FieldA} {x : ValA} (h : fitsB f x = true) : x.kind = 0 ∨ x.kind = 1 ∨ (x.kind = 2 ∧ 0 ≤ x.n ∧ x.n ≤ 1) ∨ (x.kind = 3 ∧ x.s.length ≤ 20) := by
  unfold fitsB at h
  repeat' split at h
  all_goals simp_all
  rcases h.1 with h | h <;> simp [h]
theorem fitAll_at {l : List FieldA} {r : List ValA} (h : fitAll l r = true) {k : Nat} {f : FieldA} {x : ValA} (hf : l[k]? = some f) (hx : r[k]? = some x) : fitsB f x = true := by
  have := List.all_eq_true.1 h (f, x) (List.mem_of_getElem? (zip_get hf hx))
  exact this
theorem errR_zero {l : List FieldA} {r : List ValA} (h : errR l r = 0) : schemaB l = true ∧ r.length = l.length ∧ fitAll l r = true := by
  unfold errR at h
  split at h
  · rename_i hs
    split at h
    · rename_i hr
      unfold recB at hr
      rw [Bool.and_eq_true, decide_eq_true_eq] at hr
      exact ⟨hs, hr⟩
    · cases h
  · cases h
theorem enc1_length {f : FieldA} {x : ValA} (h : fitsB f x = true) (hx : -9223372036854775808 ≤ x.n ∧ x.n ≤ 9223372036854775807) : (enc1 x).length ≤ 21 := by
  unfold enc1
  have hg := groups_10 (tn x.n) (tn_le _ hx.1 hx.2)
  rcases fitsB_kind h with h | h | ⟨h, _⟩ | ⟨h, h2⟩ <;> simp [h] <;> omega

end Go.Proofs.YtbfkoamledkhnaaGreatDoor
