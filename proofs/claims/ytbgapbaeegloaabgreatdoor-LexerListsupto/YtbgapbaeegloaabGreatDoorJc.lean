import Derived.Test.YtbgapbaeegloaabGreatDoorJa
import Derived.Test.YtbgapbaeegloaabGreatDoorJb
import Derived.Laws.BitsLemmas
import Derived.Lib.AppendStr
namespace Go.Proofs.YtbgapbaeegloaabGreatDoor
open Go.RowKit Go.Maps

def namedB (l : List FieldA) (nm : Txt) : Bool := l.any fun f => decide (f.name = nm)
theorem namedB_snoc (l : List FieldA) (f : FieldA) (nm : Txt) : namedB (l ++ [f]) nm = (namedB l nm || decide (f.name = nm)) := by simp [namedB]

/-- The table of package value's types lies as its initialiser lays it. -/
def typesC : Array Value := #[str [], .int .i64 0, str [105, 110, 116], .int .i64 10, str [98, 111, 111, 108], .int .i64 1, str [98, 121, 116, 101, 115], .int .i64 21]
structure Types (w : World) : Prop where
  lt : 0 < w.heap.size
  cell : ∀ j x, typesC[j]? = some x → w.cell? ⟨0, j, none⟩ = some x
theorem Types.keep {F : Nat → Prop} {w w' : World} (h : Types w) (hk : Keeps F w w') (hF : ¬ F 0) : Types w' :=
  ⟨Nat.lt_of_lt_of_le h.lt hk.size, fun j x hx => by rw [hk.cell h.lt hF]; exact h.cell j x hx⟩
theorem Types.keepF {w w' : World} (h : Types w) (hk : Keeps (fun _ => False) w w') : Types w' := h.keep hk id
theorem Types.width {w : World} (h : Types w) {t : Int} (ht : 0 ≤ wideB t) : ∃ n : Nat, t = n ∧ n < 4 ∧ w.cell? ⟨0, n * 2 + 1, none⟩ = some (.int .i64 (wideB t)) := by
  by_cases h1 : t = 1
  · subst h1; exact ⟨1, rfl, by omega, h.cell 3 _ rfl⟩
  by_cases h2 : t = 2
  · subst h2; exact ⟨2, rfl, by omega, h.cell 5 _ rfl⟩
  by_cases h3 : t = 3
  · subst h3; exact ⟨3, rfl, by omega, h.cell 7 _ rfl⟩
  · simp [wideB, h1, h2, h3] at ht

end Go.Proofs.YtbgapbaeegloaabGreatDoor
namespace Go.Proofs.YtbgapbaeegloaabGreatDoor
open Go.RowKit Go.Maps

theorem RowAt.first {w : World} {a : Option Addr} {n cap m : Nat} {xs ys : List Value} (h : RowAt w (.slice a n cap) n (xs ++ ys)) (hm : m ≤ n) : RowAt w (.slice a m cap) m xs := by
  refine ⟨⟨_, _, rfl⟩, fun h0 => ?_, fun ao m' cap' e => ?_⟩
  · obtain ⟨b, off, cap', e, hb, hc⟩ := h.cells (by omega)
    simp at e
    obtain ⟨rfl, rfl⟩ := e
    exact ⟨b, off, cap, rfl, hb, fun j x hx => hc j x (by rw [List.getElem?_append_left (get_lt hx)]; exact hx)⟩
  · simp at e
    obtain ⟨rfl, rfl, rfl⟩ := e
    have := h.room _ _ _ rfl
    omega
theorem FldsAt.first {w : World} {a : Option Addr} {cap : Nat} {l : List FieldA} (h : FldsAt w (.slice a l.length cap) l) (k : Nat) (hk : k ≤ l.length) : FldsAt w (.slice a k cap) (l.take k) := by
  have e : fcs l = fcs (l.take k) ++ fcs (l.drop k) := by unfold fcs; rw [← List.flatMap_append, List.take_append_drop]
  unfold FldsAt at *
  rw [e] at h
  rw [List.length_take, Nat.min_eq_left hk]
  exact h.first hk

theorem fieldOK_form (f : FieldA) : fieldOK f = (nameB f.name && decide (0 ≤ wideB f.type)) := rfl
theorem namedB_false {l : List FieldA} {nm : Txt} (h : namedB l nm = false) : ∀ g ∈ l, g.name ≠ nm := by
  intro g hg
  have := List.any_eq_false.1 h g hg
  simpa using this
theorem namedB_true {l : List FieldA} {k : Nat} {f : FieldA} (hf : l[k]? = some f) (h : namedB (l.take k) f.name = true) : schemaB l = false := by
  obtain ⟨g, hg, e⟩ := List.any_eq_true.1 h
  simp only [decide_eq_true_eq] at e
  obtain ⟨j, hj⟩ := List.getElem?_of_mem hg
  rw [List.getElem?_take] at hj
  split at hj
  · rename_i hlt
    exact schemaB_twice hf hj hlt e
  · cases hj

end Go.Proofs.YtbgapbaeegloaabGreatDoor
namespace Go.Proofs.YtbgapbaeegloaabGreatDoor
open Go.RowKit Go.Maps

/-- Is it a record of the fields? -/
def fitAll (l : List FieldA) (r : List ValA) : Bool := (l.zip r).all fun p => fitsB p.1 p.2
def recB (l : List FieldA) (r : List ValA) : Bool := decide (r.length = l.length) && fitAll l r
def errR (l : List FieldA) (r : List ValA) : Int := if schemaB l then (if recB l r then 0 else 61) else 60

theorem zip_get {l : List FieldA} {r : List ValA} {k : Nat} {f : FieldA} {x : ValA} (h : l[k]? = some f) (g : r[k]? = some x) : (l.zip r)[k]? = some (f, x) := by
  simp [List.getElem?_zip_eq_some, h, g]
theorem schemaB_len {l : List FieldA} (h : schemaB l = true) : 1 ≤ l.length ∧ l.length ≤ 8 := by
  unfold schemaB at h
  simp only [Bool.and_eq_true, decide_eq_true_eq] at h
  exact ⟨h.1.1.1.1, h.1.1.1.2⟩
theorem errS_eq (l : List FieldA) : (schemaB l = true ∧ errS l = 0) ∨ (schemaB l = false ∧ errS l = 60) := by
  unfold errS
  cases h : schemaB l <;> simp

end Go.Proofs.YtbgapbaeegloaabGreatDoor
namespace Go.Proofs.YtbgapbaeegloaabGreatDoor
open Go.RowKit Go.Maps

end Go.Proofs.YtbgapbaeegloaabGreatDoor
namespace Go.Proofs.YtbgapbaeegloaabGreatDoor
open Go.RowKit Go.Maps

theorem type_of {f : FieldA} (h : fieldOK f = true) : f.type = 1 ∨ f.type = 2 ∨ f.type = 3 := by
  unfold fieldOK at h
  simp only [Bool.and_eq_true, decide_eq_true_eq] at h
  have h2 := h.2
  unfold wideB at h2
  repeat' split at h2
  all_goals omega
theorem schemaB_ok {l : List FieldA} (h : schemaB l = true) : l.all fieldOK = true := by
  unfold schemaB at h
  simp only [Bool.and_eq_true, decide_eq_true_eq] at h
  exact h.1.1.2

end Go.Proofs.YtbgapbaeegloaabGreatDoor
namespace Go.Proofs.YtbgapbaeegloaabGreatDoor
open Go.RowKit Go.Maps

theorem xor_zero64 (a : Int) (h0 : 0 ≤ a) (h1 : a < 18446744073709551616) : bits .xor .u64 a 0 = a := by
  show IntKind.u64.wrap ((BitVec.ofInt 64 a ^^^ BitVec.ofInt 64 0).toNat : Int) = a
  rw [show BitVec.ofInt 64 0 = 0#64 from rfl, BitVec.xor_zero, BitVec.toNat_ofInt, IntKind.wrap_u64]
  omega
theorem xor_ones64 (a : Int) (h0 : 0 ≤ a) (h1 : a < 18446744073709551616) : bits .xor .u64 a 18446744073709551615 = 18446744073709551615 - a := by
  show IntKind.u64.wrap ((BitVec.ofInt 64 a ^^^ BitVec.ofInt 64 18446744073709551615).toNat : Int) = _
  rw [show BitVec.ofInt 64 18446744073709551615 = BitVec.allOnes 64 from rfl, BitVec.xor_allOnes, BitVec.toNat_not, BitVec.toNat_ofInt, IntKind.wrap_u64]
  omega
theorem turn_xor (n : Int) (h0 : -9223372036854775808 ≤ n) (h1 : n ≤ 9223372036854775807) : bits .xor .u64 (IntKind.u64.wrap (wrap64 (n * 2))) (IntKind.u64.wrap (n / 9223372036854775808)) = (tn n : Int) := by
  have e : IntKind.u64.wrap (wrap64 (n * 2)) = (n * 2) % 18446744073709551616 := by
    rw [IntKind.wrap_u64]
    unfold wrap64
    omega
  rw [e, ← tn_eq]
  unfold turned
  by_cases h : 0 ≤ n
  · rw [show IntKind.u64.wrap (n / 9223372036854775808) = 0 by rw [IntKind.wrap_u64]; omega, xor_zero64 _ (by omega) (by omega), if_pos h]
    omega
  · rw [show IntKind.u64.wrap (n / 9223372036854775808) = 18446744073709551615 by rw [IntKind.wrap_u64]; omega, xor_ones64 _ (by omega) (by omega), if_neg h]
    omega
theorem or_128 : ∀ x : Fin 256, bits .or .u8 (x.1 : Int) 128 = (x.1 : Int) % 128 + 128 := by decide +kernel
theorem or_group (k : Nat) : bits .or .u8 ((k : Int) % 256) 128 = (k : Int) % 128 + 128 := by
  have := or_128 ⟨k % 256, Nat.mod_lt _ (by omega)⟩
  rw [show (k : Int) % 256 = ((k % 256 : Nat) : Int) by omega]
  simp only at this
  rw [this]
  omega

end Go.Proofs.YtbgapbaeegloaabGreatDoor
namespace Go.Proofs.YtbgapbaeegloaabGreatDoor
open Go.RowKit Go.Maps

/-- The zero record. -/
def zeros (l : List FieldA) : List ValA := l.map zeroV
def zeroB (l : List FieldA) : List ValA := if schemaB l then zeros l else []
theorem zeros_snoc (l : List FieldA) (f : FieldA) : zeros (l ++ [f]) = zeros l ++ [zeroV f] := by simp [zeros]
theorem vcs_snoc (l : List ValA) (x : ValA) : vcs (l ++ [x]) = vcs l ++ x.cs := by simp [vcs]
theorem zeros_length (l : List FieldA) : (zeros l).length = l.length := by simp [zeros]

end Go.Proofs.YtbgapbaeegloaabGreatDoor
namespace Go.Proofs.YtbgapbaeegloaabGreatDoor
open Go.RowKit Go.Maps

/-- Bits as a number, the lowest first. -/
def headN : List Bool → Nat
  | [] => 0
  | b :: r => (if b then 1 else 0) + 2 * headN r
theorem headN_snoc : ∀ (l : List Bool) (b : Bool), headN (l ++ [b]) = headN l + (if b then 2 ^ l.length else 0)
  | [], b => by cases b <;> simp [headN]
  | c :: r, b => by
    simp only [List.cons_append, headN, headN_snoc r b, List.length_cons, Nat.pow_succ]
    cases b <;> cases c <;> simp <;> omega
theorem headN_lt : ∀ l : List Bool, headN l < 2 ^ l.length
  | [] => by simp [headN]
  | b :: r => by
    have := headN_lt r
    simp only [headN, List.length_cons, Nat.pow_succ]
    cases b <;> simp <;> omega
/-- Which of the optional fields are present. -/
def bitsOf (z : List (FieldA × ValA)) : List Bool := (z.filter fun p => p.1.opt).map fun p => decide (p.2.kind ≠ 0)
theorem bitsOf_snoc (z : List (FieldA × ValA)) (f : FieldA) (x : ValA) : bitsOf (z ++ [(f, x)]) = bitsOf z ++ (if f.opt then [decide (x.kind ≠ 0)] else []) := by
  unfold bitsOf
  rw [List.filter_append, List.map_append]
  cases h : f.opt <;> simp [h]
theorem bitsOf_le (z : List (FieldA × ValA)) : (bitsOf z).length ≤ z.length := by
  unfold bitsOf
  rw [List.length_map]
  exact List.length_filter_le _ _
/-- The bytes of a value that is present. -/
def enc1 (x : ValA) : Txt :=
  if x.kind = 1 then groups (tn x.n) else if x.kind = 2 then [UInt8.ofNat x.n.toNat] else if x.kind = 3 then UInt8.ofNat x.s.length :: x.s else []
def headT (z : List (FieldA × ValA)) : Txt := if 0 < (bitsOf z).length then [UInt8.ofNat (headN (bitsOf z))] else []
def encB (l : List FieldA) (r : List ValA) : Txt := headT (l.zip r) ++ r.flatMap enc1
def encodeB (l : List FieldA) (r : List ValA) : Txt := if errR l r = 0 then encB l r else []
/-- The ints of values are ints. -/
def InR (r : List ValA) : Prop := ∀ x ∈ r, -9223372036854775808 ≤ x.n ∧ x.n ≤ 9223372036854775807

theorem pow2_le {k : Nat} (h : k ≤ 8) : 2 ^ k ≤ 256 := by
  have : 2 ^ k ≤ 2 ^ 8 := Nat.pow_le_pow_right (by omega) h
  omega
theorem fitsB_kind {f : FieldA} {x : ValA} (h : fitsB f x = true) : x.kind = 0 ∨ x.kind = 1 ∨ (x.kind = 2 ∧ 0 ≤ x.n ∧ x.n ≤ 1) ∨ (x.kind = 3 ∧ x.s.length ≤ 20) := by
  unfold fitsB at h
  repeat' split at h
  all_goals simp_all
  rcases h.1 with h | h <;> simp [h]
theorem fitAll_at {l : List FieldA} {r : List ValA} (h : fitAll l r = true) {k : Nat} {f : FieldA} {x : ValA} (hf : l[k]? = some f) (hx : r[k]? = some x) : fitsB f x = true := by
  have := List.all_eq_true.1 h (f, x) (List.mem_of_getElem? (zip_get hf hx))
  exact this
theorem errR_zero {l : List FieldA} {r : List ValA} (h : errR l r = 0) : schemaB l = true ∧ r.length = l.length ∧ fitAll l r = true := by
  unfold errR at h
  split at h
  · rename_i hs
    split at h
    · rename_i hr
      unfold recB at hr
      rw [Bool.and_eq_true, decide_eq_true_eq] at hr
      exact ⟨hs, hr⟩
    · cases h
  · cases h
theorem enc1_length {f : FieldA} {x : ValA} (h : fitsB f x = true) (hx : -9223372036854775808 ≤ x.n ∧ x.n ≤ 9223372036854775807) : (enc1 x).length ≤ 21 := by
  unfold enc1
  have hg := groups_10 (tn x.n) (tn_le _ hx.1 hx.2)
  rcases fitsB_kind h with h | h | ⟨h, _⟩ | ⟨h, h2⟩ <;> simp [h] <;> omega

end Go.Proofs.YtbgapbaeegloaabGreatDoor
namespace Go.Proofs.YtbgapbaeegloaabGreatDoor
open Go.RowKit Go.Maps

theorem flat_le {α β : Type} (g : α → List β) (m : Nat) : ∀ l : List α, (∀ x ∈ l, (g x).length ≤ m) → (l.flatMap g).length ≤ m * l.length
  | [], _ => by simp
  | x :: r, h => by
    have h1 := flat_le g m r (fun y hy => h y (List.mem_cons_of_mem _ hy))
    have h2 := h x (List.mem_cons_self ..)
    simp only [List.flatMap_cons, List.length_append, List.length_cons, Nat.mul_add]
    omega
theorem bs_append (a b : Txt) : bs (a ++ b) = bs a ++ bs b := by simp [bs]
theorem ret_vi {v u : Value} {k : IntKind} {a b : Int} (h : v = u) (h2 : a = b) : Ending.returned (.tuple #[v, .int k a]) = .returned (.tuple #[u, .int k b]) := by rw [h, h2]
/-- What Encode has written ahead of value k. -/
def encTo (l : List FieldA) (r : List ValA) (k : Nat) : Txt := headT (l.zip r) ++ (r.take k).flatMap enc1
theorem encTo_snoc {l : List FieldA} {r : List ValA} {k : Nat} {x : ValA} (h : r[k]? = some x) : encTo l r (k + 1) = encTo l r k ++ enc1 x := by
  unfold encTo
  rw [take_snoc _ _ _ h, List.flatMap_append]
  simp
theorem headT_le (z : List (FieldA × ValA)) : (headT z).length ≤ 1 := by unfold headT; split <;> simp
theorem encTo_le {l : List FieldA} {r : List ValA} (hl : r.length = l.length) (hf : fitAll l r = true) (hI : InR r) (k : Nat) : (encTo l r k).length ≤ 1 + 21 * r.length := by
  unfold encTo
  have h1 := headT_le (l.zip r)
  have h2 := flat_le enc1 21 (r.take k) (fun x hx => by
    obtain ⟨i, hi⟩ := List.mem_iff_getElem?.1 (List.mem_of_mem_take hx)
    have := get_lt hi
    exact enc1_length (fitAll_at hf (List.getElem?_eq_getElem (by omega)) hi) (hI x (List.mem_of_mem_take hx)))
  rw [List.length_take] at h2
  rw [List.length_append]
  have : 21 * min k r.length ≤ 21 * r.length := Nat.mul_le_mul_left _ (Nat.min_le_right _ _)
  omega
theorem enc1_none {x : ValA} (h : x.kind = 0) : enc1 x = [] := by simp [enc1, h]
theorem enc1_int {x : ValA} (h : x.kind = 1) : enc1 x = groups (tn x.n) := by simp [enc1, h]
theorem enc1_bool {x : ValA} (h : x.kind = 2) : enc1 x = [UInt8.ofNat x.n.toNat] := by simp [enc1, h]
theorem enc1_bytes {x : ValA} (h : x.kind = 3) : enc1 x = UInt8.ofNat x.s.length :: x.s := by simp [enc1, h]

theorem errR_cases (l : List FieldA) (r : List ValA) : errR l r = 0 ∨ errR l r = 60 ∨ errR l r = 61 := by
  unfold errR
  repeat' split
  all_goals simp

theorem Keeps.narrowS {F : Nat → Prop} {a b c : World} (h : Keeps (fun _ => False) a b) (k : Keeps F b c) (hF : ∀ i, F i → a.heap.size ≤ i) : Keeps (fun _ => False) a c := h.narrow k hF

end Go.Proofs.YtbgapbaeegloaabGreatDoor
namespace Go.Proofs.YtbgapbaeegloaabGreatDoor
open Go.RowKit Go.Maps

/-- 'append(b, s...)' at a step of a region that draws its order. -/
theorem step_append_str {P : Program} {w : World} {ops : Array Oper} {o : Oper} {a : Act} {K : Act → World → Prop} {Q : Exit → Act → World → Prop} {E : Prop} (hgd : o.guard = none) (s x : Operand) (t u : TypeId)
    (ho : o.op = .call { callee := .builtin .append, args := #[s, x], argTypes := #[t, u] })
    (base : Nat) (e : TypeId) (i : TypeInfo) (ht : P.underlying t = some (.slice e)) (hu : P.underlying u = some .string) (hi : P.info? e = some i) (hz : i.zero = some (.int .u8 0))
    (hsize : i.size = 1) (hby : i.bytes = 1)
    (v : Value) (n : Nat) (xs : List Value) (hs : a.eval s = v) (hown : w.ownsRow base e 1 v n xs) (sb : ByteArray) (hx : a.eval x = .string sb)
    (h63 : n + sb.size ≤ maxLen) (hbytes : n + sb.size ≤ 140737488355328) (hbase : base ≤ w.heap.size)
    (h : ∀ v' w', w'.ownsRow base e 1 v' (n + sb.size) (xs ++ Lib.strCells sb) → w.grownBy w' v.ownBlock → K (a.put o.dst v') w') :
    if Region.wanted o (yielded ops a.tmps) = true then Oper.wp P o a w K Q else E := by
  have hw : Region.wanted o (yielded ops a.tmps) = true := by simp [Region.wanted, hgd]
  rw [if_pos hw]
  obtain ⟨v', w', hr, h2, h3, _⟩ := Lib.run_append_own_string (P := P) w base t u o.type e i ht hu hi hz hsize hby v n xs hown sb h63 hbytes hbase
  unfold Oper.wp execOp
  simp only [ho, resolve, invoke, builtin, Sem.run_bind, Sem.run_pure, Result.andThen_ok, List.map_toArray, List.map_cons, List.map_nil, hs, hx, hr]
  exact h v' w' h2 h3
theorem strCells_bs (s : Txt) : Lib.strCells ⟨s.toArray⟩ = bs s := by simp [Lib.strCells, bs, num]

end Go.Proofs.YtbgapbaeegloaabGreatDoor
