import Derived.Test.YtafniangljmjeabDoorNj
import Derived.Test.YtafniangljmjeabDoorJc
namespace Go.Proofs.YtafniangljmjeabDoor
open Go.RowKit Go.Maps

/-- The groups of an int at the head of some bytes, by the program's own looking. -/
def takeG : Nat → Txt → Nat → Option (Nat × Txt)
  | _, [], _ => none
  | k, c :: r, U =>
    if k = 9 ∧ 1 < c.toNat then none
    else if c.toNat < 128 then (if c.toNat = 0 ∧ 0 < k then none else some (U + 128 ^ k * (c.toNat % 128), r))
    else takeG (k + 1) r (U + 128 ^ k * (c.toNat % 128))

theorem and_127 : ∀ x : Fin 256, bits .and .u8 (x.1 : Int) 127 = ((x.1 % 128 : Nat) : Int) := by decide +kernel
theorem or_add64 (U X : Nat) (k : Nat) (hU : U < 2 ^ k) (hX : 2 ^ k * X < 18446744073709551616) (hk : k ≤ 64) : bits .or .u64 (U : Int) ((2 ^ k * X : Nat) : Int) = ((U + 2 ^ k * X : Nat) : Int) := by
  have h64 : (2 : Nat) ^ k ≤ 2 ^ 64 := Nat.pow_le_pow_right (by omega) hk
  have hU2 : U < 18446744073709551616 := by omega
  show IntKind.u64.wrap ((BitVec.ofInt 64 (U : Int) ||| BitVec.ofInt 64 ((2 ^ k * X : Nat) : Int)).toNat : Int) = _
  rw [BitVec.toNat_or, BitVec.toNat_ofInt, BitVec.toNat_ofInt]
  have e1 : ((U : Int) % ((2 ^ 64 : Nat) : Int)).toNat = U := by omega
  have e2 : (((2 ^ k * X : Nat) : Int) % ((2 ^ 64 : Nat) : Int)).toNat = 2 ^ k * X := by omega
  rw [e1, e2, Nat.or_comm, ← Nat.two_pow_add_eq_or_of_lt hU, Nat.add_comm, IntKind.wrap_u64]
  have hor : U + 2 ^ k * X < 18446744073709551616 := by
    have h := Nat.or_lt_two_pow (x := 2 ^ k * X) (y := U) (n := 64) (by omega) (by omega)
    rw [← Nat.two_pow_add_eq_or_of_lt hU] at h
    omega
  omega
theorem group_or (U k : Nat) (c : UInt8) (hU : U < 128 ^ k) (hk : k ≤ 9) (h9 : k = 9 → c.toNat ≤ 1) : bits .or .u64 (U : Int) (IntKind.u64.wrap (IntKind.u64.wrap (bits .and .u8 (num c) 127) * 2 ^ (7 * k))) = ((U + 128 ^ k * (c.toNat % 128) : Nat) : Int) := by
  have ha : bits .and .u8 (num c) 127 = ((c.toNat % 128 : Nat) : Int) := and_127 ⟨c.toNat, c.toNat_lt⟩
  have hp : (128 : Nat) ^ k = 2 ^ (7 * k) := by rw [Nat.pow_mul]
  have hX : 2 ^ (7 * k) * (c.toNat % 128) < 18446744073709551616 := by
    rw [← hp]
    by_cases h : k = 9
    · have := h9 h
      subst h
      omega
    · have h8 : 128 ^ k ≤ 128 ^ 8 := Nat.pow_le_pow_right (by omega) (by omega)
      have h1 : c.toNat % 128 ≤ 127 := by omega
      have := Nat.mul_le_mul h8 h1
      omega
  rw [ha, show IntKind.u64.wrap ((c.toNat % 128 : Nat) : Int) = ((c.toNat % 128 : Nat) : Int) by rw [IntKind.wrap_u64]; omega]
  have e : ((c.toNat % 128 : Nat) : Int) * 2 ^ (7 * k) = ((2 ^ (7 * k) * (c.toNat % 128) : Nat) : Int) := by
    rw [Int.natCast_mul, Int.mul_comm]
    congr 1
  rw [e, show IntKind.u64.wrap ((2 ^ (7 * k) * (c.toNat % 128) : Nat) : Int) = ((2 ^ (7 * k) * (c.toNat % 128) : Nat) : Int) by rw [IntKind.wrap_u64]; omega]
  rw [hp]
  exact or_add64 U _ (7 * k) (by rw [← hp]; exact hU) hX (by omega)
theorem group_lt (U k : Nat) (c : UInt8) (hU : U < 128 ^ k) (hk : k ≤ 9) (h9 : k = 9 → c.toNat ≤ 1) : U + 128 ^ k * (c.toNat % 128) < 128 ^ (k + 1) ∧ U + 128 ^ k * (c.toNat % 128) < 18446744073709551616 := by
  have h1 : c.toNat % 128 ≤ 127 := by omega
  have h2 := Nat.mul_le_mul_left (128 ^ k) h1
  refine ⟨by rw [Nat.pow_succ]; omega, ?_⟩
  by_cases h : k = 9
  · have := h9 h
    subst h
    omega
  · have h8 : 128 ^ k ≤ 128 ^ 8 := Nat.pow_le_pow_right (by omega) (by omega)
    omega

theorem and_one64 (V : Nat) (h : V ≤ 18446744073709551615) : bits .and .u64 (V : Int) 1 = ((V % 2 : Nat) : Int) := by
  show IntKind.u64.wrap ((BitVec.ofInt 64 (V : Int) &&& BitVec.ofInt 64 1).toNat : Int) = _
  rw [BitVec.toNat_and, BitVec.toNat_ofInt, BitVec.toNat_ofInt]
  have e1 : ((V : Int) % ((2 ^ 64 : Nat) : Int)).toNat = V := by omega
  have e2 : ((1 : Int) % ((2 ^ 64 : Nat) : Int)).toNat = 1 := by omega
  rw [e1, e2, Nat.and_one_is_mod, IntKind.wrap_u64]
  omega
theorem xor_back (V : Nat) (h : V ≤ 18446744073709551615) : bits .xor .i64 ((V : Int) / 2) (wrap64 (-wrap64 (bits .and .u64 (V : Int) 1))) = backB V := by
  rw [and_one64 V h]
  unfold backB
  by_cases h2 : (V : Int) % 2 = 0
  · have e : wrap64 (-wrap64 ((V % 2 : Nat) : Int)) = 0 := by
      have : ((V % 2 : Nat) : Int) = 0 := by omega
      rw [this]
      unfold wrap64
      omega
    rw [e, if_pos h2]
    show IntKind.i64.wrap ((BitVec.ofInt 64 ((V : Int) / 2) ^^^ BitVec.ofInt 64 0).toNat : Int) = _
    rw [show BitVec.ofInt 64 0 = 0#64 from rfl, BitVec.xor_zero, BitVec.toNat_ofInt, IntKind.wrap_i64]
    omega
  · have e : wrap64 (-wrap64 ((V % 2 : Nat) : Int)) = -1 := by
      have : ((V % 2 : Nat) : Int) = 1 := by omega
      rw [this]
      unfold wrap64
      omega
    rw [e, if_neg h2]
    show IntKind.i64.wrap ((BitVec.ofInt 64 ((V : Int) / 2) ^^^ BitVec.ofInt 64 (-1)).toNat : Int) = _
    rw [show BitVec.ofInt 64 (-1) = BitVec.allOnes 64 from rfl, BitVec.xor_allOnes, BitVec.toNat_not, BitVec.toNat_ofInt, IntKind.wrap_i64]
    omega

/-- What stands behind the first k of a row. -/
theorem rest_row {w : World} {b off n cap k : Nat} {xs : List Value} (h : RowAt w (.slice (some ⟨b, off, none⟩) n cap) n xs) (hk : k ≤ n) (hl : xs.length = n) :
    RowAt w (.slice (if cap = k then some ⟨b, off, none⟩ else some ⟨b, off + k, none⟩) (n - k) (cap - k)) (n - k) (xs.drop k) := by
  have hroom := h.room _ _ _ rfl
  refine ⟨⟨_, _, rfl⟩, fun h0 => ?_, fun ao m cap' e => ?_⟩
  · obtain ⟨b', off', cap', e, hb, hc⟩ := h.cells (by omega)
    simp at e
    obtain ⟨⟨rfl, rfl⟩, rfl⟩ := e
    rw [if_neg (by omega)]
    refine ⟨b, off + k, cap - k, rfl, hb, fun j x hx => ?_⟩
    rw [List.getElem?_drop] at hx
    rw [Nat.add_assoc]
    exact hc (k + j) x hx
  · simp at e
    omega
theorem rest_bytes {w : World} {b off cap k : Nat} {t : Txt} (h : BytesAt w (.slice (some ⟨b, off, none⟩) t.length cap) t) (hk : k ≤ t.length) :
    BytesAt w (.slice (if cap = k then some ⟨b, off, none⟩ else some ⟨b, off + k, none⟩) (t.length - k) (cap - k)) (t.drop k) := by
  have := rest_row h hk (bs_length t)
  unfold BytesAt
  rw [List.length_drop]
  have e : bs (t.drop k) = (bs t).drop k := by simp [bs, List.map_drop]
  rw [e]
  exact this

end Go.Proofs.YtafniangljmjeabDoor
namespace Go.Proofs.YtafniangljmjeabDoor
open Go.RowKit Go.Maps

def takeBoolP : Txt → Option (ValA × Txt)
  | [] => none
  | c :: r => if 1 < c.toNat then none else some (⟨2, num c, []⟩, r)
def takeBytesP : Txt → Option (ValA × Txt)
  | [] => none
  | c :: r => if 20 < c.toNat then none else if r.length < c.toNat then none else some (⟨3, 0, r.take c.toNat⟩, r.drop c.toNat)
def takeIntP (t : Txt) : Option (ValA × Txt) := (takeG 0 t 0).map fun p => (⟨1, backB p.1, []⟩, p.2)
def takeP (ty : Int) (t : Txt) : Option (ValA × Txt) := if ty = 1 then takeIntP t else if ty = 2 then takeBoolP t else takeBytesP t

/-- What a taking answers. -/
def Took (w' : World) (e : Ending) : Option (ValA × Txt) → Prop
  | none => ∃ (x : ValA) (y : Value), e = .returned (.tuple #[x.v, y, .bool false])
  | some (x, r) => ∃ y, e = .returned (.tuple #[x.v, y, .bool true]) ∧ BytesAt w' y r

theorem conv_row {w : World} {b off cap : Nat} {l : Txt} (h : BytesAt w (.slice (some ⟨b, off, none⟩) l.length cap) l) :
    (convert 38 9 (.slice (some ⟨b, off, none⟩) l.length cap)).run Tryd.prog w = .ok (str l) w := by
  refine conv_at w b off cap l (fun j c hc => ?_)
  obtain ⟨b', off', cc, e1, _, hh⟩ := RowAt.cells h (by have := get_lt hc; omega)
  simp only [Value.slice.injEq, Option.some.injEq, Addr.mk.injEq] at e1
  obtain ⟨⟨rfl, rfl, _⟩, _, _⟩ := e1
  exact hh j _ (by rw [bs_get, hc]; rfl)
theorem first_bytes {w : World} {a : Option Addr} {cap n : Nat} {t : Txt} (h : BytesAt w (.slice a t.length cap) t) (hn : n ≤ t.length) : BytesAt w (.slice a n cap) (t.take n) := by
  have e : bs t = bs (t.take n) ++ bs (t.drop n) := by rw [← bs_append, List.take_append_drop]
  unfold BytesAt at *
  rw [e] at h
  rw [List.length_take, Nat.min_eq_left hn]
  exact h.first hn

end Go.Proofs.YtafniangljmjeabDoor
namespace Go.Proofs.YtafniangljmjeabDoor
open Go.RowKit Go.Maps

theorem or_zero64 (a : Int) (h0 : 0 ≤ a) (h1 : a ≤ 255) : bits .or .u64 0 a = a := by
  show IntKind.u64.wrap ((BitVec.ofInt 64 0 ||| BitVec.ofInt 64 a).toNat : Int) = a
  rw [show BitVec.ofInt 64 0 = 0#64 from rfl, BitVec.zero_or, BitVec.toNat_ofInt, IntKind.wrap_u64]
  omega

/-- What a taking's three answers tell. -/
def TookM (w' : World) (x : ValA) (y : Value) (ok : Bool) : Option (ValA × Txt) → Prop
  | none => ok = false
  | some p => ok = true ∧ x = p.1 ∧ BytesAt w' y p.2
theorem Took.form {w' : World} {e : Ending} {o : Option (ValA × Txt)} (h : Took w' e o) : ∃ (x : ValA) (y : Value) (ok : Bool), e = .returned (.tuple #[x.v, y, .bool ok]) ∧ TookM w' x y ok o := by
  cases o with
  | none =>
    obtain ⟨x, y, rfl⟩ := h
    exact ⟨x, y, false, rfl, rfl⟩
  | some p =>
    obtain ⟨y, rfl, hb⟩ := h
    exact ⟨p.1, y, true, rfl, rfl, rfl, hb⟩
theorem TookM.took {w' : World} {o : Option (ValA × Txt)} {x : ValA} {y : Value} {ok : Bool} (h : TookM w' x y ok o) : Took w' (.returned (.tuple #[x.v, y, .bool ok])) o := by
  cases o with
  | none =>
    obtain rfl : ok = false := h
    exact ⟨x, y, rfl⟩
  | some p =>
    obtain ⟨rfl, rfl, hb⟩ := h
    exact ⟨y, rfl, hb⟩
theorem TookM.keep {F : Nat → Prop} {w w' : World} {o : Option (ValA × Txt)} {x : ValA} {y : Value} {ok : Bool} (h : TookM w x y ok o) (hk : Keeps F w w') (hF : ∀ k, y.ownBlock = some k → ¬ F k) : TookM w' x y ok o := by
  cases o with
  | none => exact h
  | some p => exact ⟨h.1, h.2.1, RowAt.kept h.2.2 hk hF⟩

theorem bytes_apart {w w' : World} {y : Value} {r : Txt} {B : Nat} {cs : Array Value} {t : TypeId} (h : BytesAt w y r) (hb : w.heap[B]? = some (.cells cs t (0, 0))) (hcs : ∀ (k : Nat) (c : Int), cs[k]? ≠ some (Value.int .u8 c)) (hk : Keeps (fun q => q = B) w w') : BytesAt w' y r := by
  refine ⟨RowAt.form h, fun h0 => ?_, RowAt.room h⟩
  obtain ⟨b, off, cap, e, hlt, hc⟩ := RowAt.cells h h0
  refine ⟨b, off, cap, e, Nat.lt_of_lt_of_le hlt hk.size, fun j x hx => ?_⟩
  have hne : b ≠ B := by
    rintro rfl
    cases r with
    | nil => simp at h0
    | cons c r =>
      have := hc 0 (.int .u8 (num c)) rfl
      rw [cell_of_blk hb] at this
      exact hcs _ _ this
  rw [hk.cell hlt hne]
  exact hc j x hx
theorem taken_end {w w2 : World} {x : ValA} {y : Value} {ok : Bool} {o : Option (ValA × Txt)} (hk : Keeps (fun _ => False) w w2) (hb : w2.heap[w.heap.size]? = some (.cells #[.int .i64 0, .int .i64 0, .string ⟨#[]⟩] 129 (0, 0))) (hm : TookM w2 x y ok o) :
    Keeps (fun _ => False) w (((w2.setCell ⟨w.heap.size, 0, none⟩ (.int .i64 x.kind)).setCell ⟨w.heap.size, 1, none⟩ (.int .i64 x.n)).setCell ⟨w.heap.size, 2, none⟩ (.string ⟨x.s.toArray⟩)) ∧
    TookM (((w2.setCell ⟨w.heap.size, 0, none⟩ (.int .i64 x.kind)).setCell ⟨w.heap.size, 1, none⟩ (.int .i64 x.n)).setCell ⟨w.heap.size, 2, none⟩ (.string ⟨x.s.toArray⟩)) x y ok o ∧
    (((w2.setCell ⟨w.heap.size, 0, none⟩ (.int .i64 x.kind)).setCell ⟨w.heap.size, 1, none⟩ (.int .i64 x.n)).setCell ⟨w.heap.size, 2, none⟩ (.string ⟨x.s.toArray⟩)).cell? ⟨w.heap.size, 0, none⟩ = some (.int .i64 x.kind) ∧
    (((w2.setCell ⟨w.heap.size, 0, none⟩ (.int .i64 x.kind)).setCell ⟨w.heap.size, 1, none⟩ (.int .i64 x.n)).setCell ⟨w.heap.size, 2, none⟩ (.string ⟨x.s.toArray⟩)).cell? ⟨w.heap.size, 1, none⟩ = some (.int .i64 x.n) ∧
    (((w2.setCell ⟨w.heap.size, 0, none⟩ (.int .i64 x.kind)).setCell ⟨w.heap.size, 1, none⟩ (.int .i64 x.n)).setCell ⟨w.heap.size, 2, none⟩ (.string ⟨x.s.toArray⟩)).cell? ⟨w.heap.size, 2, none⟩ = some (.string ⟨x.s.toArray⟩) := by
  have hb3 := heap_setCell_at (o := 2) (heap_setCell_at (o := 1) (heap_setCell_at (o := 0) hb (.int .i64 x.kind)) (.int .i64 x.n)) (.string ⟨x.s.toArray⟩)
  have hs : ∀ (a : World) (o : Nat) (v : Value), Keeps (fun q => q = w.heap.size) w2 a → Keeps (fun q => q = w.heap.size) w2 (a.setCell ⟨w.heap.size, o, none⟩ v) := fun a o v h => h.setCell (fun _ => rfl) v
  have hk3 := hs _ 2 (.string ⟨x.s.toArray⟩) (hs _ 1 (.int .i64 x.n) (hs _ 0 (.int .i64 x.kind) (Keeps.refl _ w2)))
  refine ⟨hk.narrowS hk3 (fun i e => by omega), ?_, ?_, ?_, ?_⟩
  · cases o with
    | none => exact hm
    | some p =>
      refine ⟨hm.1, hm.2.1, bytes_apart hm.2.2 hb (fun k c => ?_) hk3⟩
      match k with
      | 0 => simp
      | 1 => simp
      | 2 => simp
      | k + 3 => simp
  · rw [cell_of_blk hb3]; rfl
  · rw [cell_of_blk hb3]; rfl
  · rw [cell_of_blk hb3]; rfl

end Go.Proofs.YtafniangljmjeabDoor
