import Derived.Test.YtafniangljmjeabDoorK
import Derived.Test.YtafniangljmjeabDoorJb
import Derived.Test.YtafniangljmjeabDoorJa
namespace Go.Proofs.YtafniangljmjeabDoor
open Go.RowKit Go.Maps

/-- The zero record. -/
def zeros (l : List FieldA) : List ValA := l.map zeroV
def zeroB (l : List FieldA) : List ValA := if schemaB l then zeros l else []
theorem zeros_snoc (l : List FieldA) (f : FieldA) : zeros (l ++ [f]) = zeros l ++ [zeroV f] := by simp [zeros]
theorem vcs_snoc (l : List ValA) (x : ValA) : vcs (l ++ [x]) = vcs l ++ x.cs := by simp [vcs]
theorem zeros_length (l : List FieldA) : (zeros l).length = l.length := by simp [zeros]

end Go.Proofs.YtafniangljmjeabDoor
namespace Go.Proofs.YtafniangljmjeabDoor
open Go.RowKit Go.Maps

def decN (u : Nat) : Txt := if _h : u = 0 then [] else decN (u / 10) ++ [UInt8.ofNat (48 + u % 10)]
def decimal (n : Int) : Txt := if n = 0 then [48] else if n < 0 then 45 :: decN n.natAbs else decN n.natAbs

theorem decN_zero : decN 0 = [] := by unfold decN; simp
theorem decN_pos {u : Nat} (h : 0 < u) : decN u = decN (u / 10) ++ [UInt8.ofNat (48 + u % 10)] := by
  rw [decN, dif_neg (by omega)]
theorem decN_length (k : Nat) : ∀ u, u < 10 ^ k → (decN u).length ≤ k := by
  induction k with
  | zero => intro u h; simp at h; subst h; simp [decN_zero]
  | succ k ih =>
    intro u h
    by_cases h0 : u = 0
    · subst h0; simp [decN_zero]
    · rw [decN_pos (by omega)]
      have := ih (u / 10) (by rw [Nat.pow_succ] at h; omega)
      simp; omega
theorem decN_20 (u : Nat) (h : u ≤ 9223372036854775808) : (decN u).length ≤ 19 := decN_length 19 u (by omega)

theorem conv_bytes (w : World) (b cap : Nat) (l : Txt) (h : ∀ j c, l[j]? = some c → w.cell? ⟨b, j, none⟩ = some (.int .u8 (num c))) :
    (convert 38 9 (.slice (some ⟨b, 0, none⟩) l.length cap)).run Tryd.prog w = .ok (str l) w :=
  run_convert_bytes_back w 38 9 5 ⟨b, 0, none⟩ cap l Tryd.underlying38 Tryd.underlying5 Tryd.underlying9 (fun j hj => by
    have := h j l[j] (List.getElem?_eq_getElem hj)
    rw [Addr.add_lit]
    simpa [num] using this)

theorem add_str (w : World) (a b : Txt) (h : a.length + b.length ≤ 9223372036854775807) : (Op.stringOp .add ⟨a.toArray⟩ ⟨b.toArray⟩).run Tryd.prog w = .ok (str (a ++ b)) w := by
  have ha : (ByteArray.mk a.toArray).size = a.length := rfl
  have hb : (ByteArray.mk b.toArray).size = b.length := rfl
  rw [run_string_add_sum w _ _ (by omega), ByteArray.mk_append_mk]

theorem digit_num (u : Nat) : num (UInt8.ofNat (48 + u % 10)) = 48 + (u : Int) % 10 := by
  unfold num
  rw [UInt8.toNat_ofNat']
  have : u % 10 < 10 := Nat.mod_lt _ (by decide)
  omega
theorem decN_digit {u : Nat} (h : 0 < u) : ∃ c, num c = 48 + (u : Int) % 10 ∧ decN u = decN (u / 10) ++ [c] := ⟨_, digit_num u, decN_pos h⟩

/-- The start of a decimal's loop. -/
def startU (n : Int) : Int := if n < 0 then IntKind.u64.wrap (-IntKind.u64.wrap n) else IntKind.u64.wrap n
theorem startU_eq (n : Int) (h0 : -9223372036854775808 ≤ n) (h1 : n ≤ 9223372036854775807) : startU n = (n.natAbs : Int) := by
  unfold startU
  rw [IntKind.wrap_u64, IntKind.wrap_u64]
  split <;> omega

end Go.Proofs.YtafniangljmjeabDoor
namespace Go.Proofs.YtafniangljmjeabDoor
open Go.RowKit Go.Maps

/-- The value of a field at a place of some bytes, and the place behind it (-1: the bytes end too early). -/
def readB (f : FieldA) (t : Txt) (a : Nat) : ValA × Int :=
  if f.type = 1 then (⟨1, (readIntB t a).1, []⟩, (readIntB t a).2)
  else match t[a]? with
    | none => (⟨0, 0, []⟩, -1)
    | some c =>
      if f.type = 2 then (⟨2, num c, []⟩, (a + 1 : Nat))
      else if t.length < a + 1 + c.toNat then (⟨0, 0, []⟩, -1)
      else (⟨3, 0, (t.drop (a + 1)).take c.toNat⟩, (a + 1 + c.toNat : Nat))

theorem conv_at (w : World) (b off cap : Nat) (l : Txt) (h : ∀ j c, l[j]? = some c → w.cell? ⟨b, off + j, none⟩ = some (.int .u8 (num c))) :
    (convert 38 9 (.slice (some ⟨b, off, none⟩) l.length cap)).run Tryd.prog w = .ok (str l) w :=
  run_convert_bytes_back w 38 9 5 ⟨b, off, none⟩ cap l Tryd.underlying38 Tryd.underlying5 Tryd.underlying9 (fun j hj => by
    have := h j l[j] (List.getElem?_eq_getElem hj)
    rw [Addr.add_lit]
    simpa [num] using this)

end Go.Proofs.YtafniangljmjeabDoor
namespace Go.Proofs.YtafniangljmjeabDoor
open Go.RowKit Go.Maps

/-- Bits as a number, the lowest first. -/
def headN : List Bool → Nat
  | [] => 0
  | b :: r => (if b then 1 else 0) + 2 * headN r
theorem headN_snoc : ∀ (l : List Bool) (b : Bool), headN (l ++ [b]) = headN l + (if b then 2 ^ l.length else 0)
  | [], b => by cases b <;> simp [headN]
  | c :: r, b => by
    simp only [List.cons_append, headN, headN_snoc r b, List.length_cons, Nat.pow_succ]
    cases b <;> cases c <;> simp <;> omega
theorem headN_lt : ∀ l : List Bool, headN l < 2 ^ l.length
  | [] => by simp [headN]
  | b :: r => by
    have := headN_lt r
    simp only [headN, List.length_cons, Nat.pow_succ]
    cases b <;> simp <;> omega
/-- Which of the optional fields are present. -/
def bitsOf (z : List (FieldA × ValA)) : List Bool := (z.filter fun p => p.1.opt).map fun p => decide (p.2.kind ≠ 0)
theorem bitsOf_snoc (z : List (FieldA × ValA)) (f : FieldA) (x : ValA) : bitsOf (z ++ [(f, x)]) = bitsOf z ++ (if f.opt then [decide (x.kind ≠ 0)] else []) := by
  unfold bitsOf
  rw [List.filter_append, List.map_append]
  cases h : f.opt <;> simp [h]
theorem bitsOf_le (z : List (FieldA × ValA)) : (bitsOf z).length ≤ z.length := by
  unfold bitsOf
  rw [List.length_map]
  exact List.length_filter_le _ _
/-- The bytes of a value that is present. -/
def enc1 (x : ValA) : Txt :=
  if x.kind = 1 then groups (tn x.n) else if x.kind = 2 then [UInt8.ofNat x.n.toNat] else if x.kind = 3 then UInt8.ofNat x.s.length :: x.s else []
def headT (z : List (FieldA × ValA)) : Txt := if 0 < (bitsOf z).length then [UInt8.ofNat (headN (bitsOf z))] else []
def encB (l : List FieldA) (r : List ValA) : Txt := headT (l.zip r) ++ r.flatMap enc1
def encodeB (l : List FieldA) (r : List ValA) : Txt := if errR l r = 0 then encB l r else []
/-- The ints of values are ints. -/
def InR (r : List ValA) : Prop := ∀ x ∈ r, -9223372036854775808 ≤ x.n ∧ x.n ≤ 9223372036854775807

theorem pow2_le {k : Nat} (h : k ≤ 8) : 2 ^ k ≤ 256 := by
  have : 2 ^ k ≤ 2 ^ 8 := Nat.pow_le_pow_right (by omega) h
  omega
theorem fitsB_kind {f : FieldA} {x : ValA} (h : fitsB f x = true) : x.kind = 0 ∨ x.kind = 1 ∨ (x.kind = 2 ∧ 0 ≤ x.n ∧ x.n ≤ 1) ∨ (x.kind = 3 ∧ x.s.length ≤ 20) := by
  unfold fitsB at h
  repeat' split at h
  all_goals simp_all
  rcases h.1 with h | h <;> simp [h]
theorem fitAll_at {l : List FieldA} {r : List ValA} (h : fitAll l r = true) {k : Nat} {f : FieldA} {x : ValA} (hf : l[k]? = some f) (hx : r[k]? = some x) : fitsB f x = true := by
  have := List.all_eq_true.1 h (f, x) (List.mem_of_getElem? (zip_get hf hx))
  exact this
theorem errR_zero {l : List FieldA} {r : List ValA} (h : errR l r = 0) : schemaB l = true ∧ r.length = l.length ∧ fitAll l r = true := by
  unfold errR at h
  split at h
  · rename_i hs
    split at h
    · rename_i hr
      unfold recB at hr
      rw [Bool.and_eq_true, decide_eq_true_eq] at hr
      exact ⟨hs, hr⟩
    · cases h
  · cases h
theorem enc1_length {f : FieldA} {x : ValA} (h : fitsB f x = true) (hx : -9223372036854775808 ≤ x.n ∧ x.n ≤ 9223372036854775807) : (enc1 x).length ≤ 21 := by
  unfold enc1
  have hg := groups_10 (tn x.n) (tn_le _ hx.1 hx.2)
  rcases fitsB_kind h with h | h | ⟨h, _⟩ | ⟨h, h2⟩ <;> simp [h] <;> omega

end Go.Proofs.YtafniangljmjeabDoor
namespace Go.Proofs.YtafniangljmjeabDoor
open Go.RowKit Go.Maps

theorem flat_le {α β : Type} (g : α → List β) (m : Nat) : ∀ l : List α, (∀ x ∈ l, (g x).length ≤ m) → (l.flatMap g).length ≤ m * l.length
  | [], _ => by simp
  | x :: r, h => by
    have h1 := flat_le g m r (fun y hy => h y (List.mem_cons_of_mem _ hy))
    have h2 := h x (List.mem_cons_self ..)
    simp only [List.flatMap_cons, List.length_append, List.length_cons, Nat.mul_add]
    omega
theorem bs_append (a b : Txt) : bs (a ++ b) = bs a ++ bs b := by simp [bs]
theorem ret_vi {v u : Value} {k : IntKind} {a b : Int} (h : v = u) (h2 : a = b) : Ending.returned (.tuple #[v, .int k a]) = .returned (.tuple #[u, .int k b]) := by rw [h, h2]
/-- What Encode has written ahead of value k. -/
def encTo (l : List FieldA) (r : List ValA) (k : Nat) : Txt := headT (l.zip r) ++ (r.take k).flatMap enc1
theorem encTo_snoc {l : List FieldA} {r : List ValA} {k : Nat} {x : ValA} (h : r[k]? = some x) : encTo l r (k + 1) = encTo l r k ++ enc1 x := by
  unfold encTo
  rw [take_snoc _ _ _ h, List.flatMap_append]
  simp
theorem headT_le (z : List (FieldA × ValA)) : (headT z).length ≤ 1 := by unfold headT; split <;> simp
theorem encTo_le {l : List FieldA} {r : List ValA} (hl : r.length = l.length) (hf : fitAll l r = true) (hI : InR r) (k : Nat) : (encTo l r k).length ≤ 1 + 21 * r.length := by
  unfold encTo
  have h1 := headT_le (l.zip r)
  have h2 := flat_le enc1 21 (r.take k) (fun x hx => by
    obtain ⟨i, hi⟩ := List.mem_iff_getElem?.1 (List.mem_of_mem_take hx)
    have := get_lt hi
    exact enc1_length (fitAll_at hf (List.getElem?_eq_getElem (by omega)) hi) (hI x (List.mem_of_mem_take hx)))
  rw [List.length_take] at h2
  rw [List.length_append]
  have : 21 * min k r.length ≤ 21 * r.length := Nat.mul_le_mul_left _ (Nat.min_le_right _ _)
  omega
theorem enc1_none {x : ValA} (h : x.kind = 0) : enc1 x = [] := by simp [enc1, h]
theorem enc1_int {x : ValA} (h : x.kind = 1) : enc1 x = groups (tn x.n) := by simp [enc1, h]
theorem enc1_bool {x : ValA} (h : x.kind = 2) : enc1 x = [UInt8.ofNat x.n.toNat] := by simp [enc1, h]
theorem enc1_bytes {x : ValA} (h : x.kind = 3) : enc1 x = UInt8.ofNat x.s.length :: x.s := by simp [enc1, h]

theorem errR_cases (l : List FieldA) (r : List ValA) : errR l r = 0 ∨ errR l r = 60 ∨ errR l r = 61 := by
  unfold errR
  repeat' split
  all_goals simp

theorem Keeps.narrowS {F : Nat → Prop} {a b c : World} (h : Keeps (fun _ => False) a b) (k : Keeps F b c) (hF : ∀ i, F i → a.heap.size ≤ i) : Keeps (fun _ => False) a c := h.narrow k hF

end Go.Proofs.YtafniangljmjeabDoor
