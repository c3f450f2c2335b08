import Derived.Test.YtajklagdjokojaaGreatDoorJd
import Derived.Test.YtajklagdjokojaaGreatDoorJf
import Derived.Laws.BitsLemmas
import Derived.Test.YtajklagdjokojaaGreatDoorJc
import Derived.Test.YtajklagdjokojaaGreatDoorJa
namespace Go.Proofs.YtajklagdjokojaaGreatDoor
open Go.RowKit Go.Maps

theorem xor_zero64 (a : Int) (h0 : 0 ≤ a) (h1 : a < 18446744073709551616) : bits .xor .u64 a 0 = a := by
  show IntKind.u64.wrap ((BitVec.ofInt 64 a ^^^ BitVec.ofInt 64 0).toNat : Int) = a
  rw [show BitVec.ofInt 64 0 = 0#64 from rfl, BitVec.xor_zero, BitVec.toNat_ofInt, IntKind.wrap_u64]
  omega
theorem xor_ones64 (a : Int) (h0 : 0 ≤ a) (h1 : a < 18446744073709551616) : bits .xor .u64 a 18446744073709551615 = 18446744073709551615 - a := by
  show IntKind.u64.wrap ((BitVec.ofInt 64 a ^^^ BitVec.ofInt 64 18446744073709551615).toNat : Int) = _
  rw [show BitVec.ofInt 64 18446744073709551615 = BitVec.allOnes 64 from rfl, BitVec.xor_allOnes, BitVec.toNat_not, BitVec.toNat_ofInt, IntKind.wrap_u64]
  omega
theorem turn_xor (n : Int) (h0 : -9223372036854775808 ≤ n) (h1 : n ≤ 9223372036854775807) : bits .xor .u64 (IntKind.u64.wrap (wrap64 (n * 2))) (IntKind.u64.wrap (n / 9223372036854775808)) = (tn n : Int) := by
  have e : IntKind.u64.wrap (wrap64 (n * 2)) = (n * 2) % 18446744073709551616 := by
    rw [IntKind.wrap_u64]
    unfold wrap64
    omega
  rw [e, ← tn_eq]
  unfold turned
  by_cases h : 0 ≤ n
  · rw [show IntKind.u64.wrap (n / 9223372036854775808) = 0 by rw [IntKind.wrap_u64]; omega, xor_zero64 _ (by omega) (by omega), if_pos h]
    omega
  · rw [show IntKind.u64.wrap (n / 9223372036854775808) = 18446744073709551615 by rw [IntKind.wrap_u64]; omega, xor_ones64 _ (by omega) (by omega), if_neg h]
    omega
theorem or_128 : ∀ x : Fin 256, bits .or .u8 (x.1 : Int) 128 = (x.1 : Int) % 128 + 128 := by decide +kernel
theorem or_group (k : Nat) : bits .or .u8 ((k : Int) % 256) 128 = (k : Int) % 128 + 128 := by
  have := or_128 ⟨k % 256, Nat.mod_lt _ (by omega)⟩
  rw [show (k : Int) % 256 = ((k % 256 : Nat) : Int) by omega]
  simp only at this
  rw [this]
  omega

set_option maxRecDepth 100000 in
set_option maxHeartbeats 2000000 in
theorem appendInt_v (w : World) (B : Nat) (v : Value) (m : Nat) (xs : List Value) (n : Int) (h0 : -9223372036854775808 ≤ n) (h1 : n ≤ 9223372036854775807) (hv : w.ownsRow B 5 1 v m xs) (hm : m ≤ 1099511627776) (hB : B ≤ w.heap.size) :
    Calls Tryz.prog 80 #[v, .int .i64 n] w fun e w' => ∃ v', e = .returned v' ∧ w'.ownsRow B 5 1 v' (m + (groups (tn n)).length) (xs ++ bs (groups (tn n))) ∧ Keeps (fun q => v.ownBlock = some q) w w' ∧ (v'.ownBlock = v.ownBlock ∨ ∀ q, v'.ownBlock = some q → w.heap.size ≤ q) := by
  obtain ⟨i0, hi, hz0, hz1, hz2⟩ := info_parts Tryz.info5
  have HV := hide hv
  have HT := hide (turn_xor n h0 h1)
  have hu := tn_le n h0 h1
  have HG := hide (groups_10 _ hu)
  clear hv
  generalize tn n = U at *
  go_enter Tryz.func80, Tryz.ntmps80
  go_wp2_with fail
  rw [unhide HT]
  go_loopw [0, 5] (fun o u wr => ∃ (k : Nat) (d : Txt), u = .int .u64 k ∧ k ≤ U ∧ Hid (groups U = d ++ groups k) ∧ wr.ownsRow B 5 1 o (m + d.length) (xs ++ bs d) ∧ Keeps (fun q => v.ownBlock = some q) w wr ∧ (o.ownBlock = v.ownBlock ∨ ∀ q, o.ownBlock = some q → w.heap.size ≤ q)) (fun _ u _ => (intOf u).toNat)
  case atStart => exact ⟨U, [], rfl, Nat.le_refl _, rfl, by simpa [bs] using unhide HV, Keeps.refl _ _, Or.inl rfl⟩
  case round =>
    obtain ⟨k, d, rfl, hk, HD, hown, hkp, hat0⟩ := hrel
    have HO := hide hown
    have HK := hide hkp
    have HA := hide hat0
    have hd : d.length ≤ 10 := by have h := congrArg List.length (unhide HD); have := unhide HG; simp at h; omega
    clear hown hkp hat0
    by_cases hge : 128 ≤ k
    · have HC : Hid (num (UInt8.ofNat (k % 128 + 128)) = (k : Int) % 128 + 128) := by show _ = _; rw [num_of _ (by omega)]; omega
      generalize hc : UInt8.ofNat (k % 128 + 128) = c at *
      have HCC := hide hc
      clear hc
      have hge' : (128 : Int) ≤ (k : Int) := by omega
      have hor := or_group k
      go_wp2_with (at_builtin; refine wpList_append_lies _ rfl _ _ _ rfl B 5 i0 _ 1 1 Tryz.underlying29 hi hz0 hz1 hz2 rfl (by omega) u0 (m + d.length) (xs ++ bs d) rfl ((unhide HO).alloc _) ⟨wr.heap.size, 0, none⟩ 1 1 [.int .u8 ((k : Int) % 128 + 128)] rfl rfl (World.news_of_block (cs := #[.int .u8 ((k : Int) % 128 + 128)]) (t := 5) (fr := (0, 0)) (heap_alloc_new wr _)) (by simp [Value.oneCell']) (by omega) (by unfold maxLen; omega) (by omega) (by have := (unhide HK).size; simp; omega) (wr.heap.size + 1) (by simp) ?_; intro g cap w2 hown1 hgrow hat hlt1)
      go_roundw
      case rel =>
        refine ⟨k / 128, d ++ [c], by go_num, by omega, ?_, ?_, ?_, ?_⟩
        · show _ = _
          rw [unhide HD, groups_big hge, unhide HCC]; simp
        · have h := hown1
          rw [List.append_assoc] at h
          simp only [List.length_append, List.length_singleton, bs, List.map_append, List.map_cons, List.map_nil, unhide HC] at h ⊢
          exact h
        · exact ((unhide HK).alloc _).grown hgrow (fun q e hq => by
            rcases unhide HA with h | h
            · rw [← h]; exact e
            · have := h q e; omega)
        · exact own_step (unhide HA) hat (by have := (unhide HK).size; omega) rfl
      case measure => simp [intOf]; omega
    · have HC : Hid (num (UInt8.ofNat k) = (k : Int)) := num_of k (by omega)
      generalize hc : UInt8.ofNat k = c at *
      have HCC := hide hc
      clear hc
      have hge' : (k : Int) < 128 := by omega
      go_wp2_with (at_builtin; refine wpList_append_lies _ rfl _ _ _ rfl B 5 i0 _ 1 1 Tryz.underlying29 hi hz0 hz1 hz2 rfl (by omega) u0 (m + d.length) (xs ++ bs d) rfl ((unhide HO).alloc _) ⟨wr.heap.size, 0, none⟩ 1 1 [.int .u8 (k : Int)] rfl rfl (World.news_of_block (cs := #[.int .u8 (k : Int)]) (t := 5) (fr := (0, 0)) (heap_alloc_new wr _)) (by simp [Value.oneCell']) (by omega) (by unfold maxLen; omega) (by omega) (by have := (unhide HK).size; simp; omega) (wr.heap.size + 1) (by simp) ?_; intro g cap w2 hown1 hgrow hat hlt1)
      go_ret
      refine ⟨_, rfl, ?_, ?_, ?_⟩
      · have h := hown1
        rw [unhide HD, groups_small (by omega), unhide HCC]
        rw [List.append_assoc] at h
        simp only [List.length_append, List.length_singleton, bs, List.map_append, List.map_cons, List.map_nil, unhide HC] at h ⊢
        exact h
      · exact ((unhide HK).alloc _).grown hgrow (fun q e hq => by
          rcases unhide HA with h | h
          · rw [← h]; exact e
          · have := h q e; omega)
      · exact own_step (unhide HA) hat (by have := (unhide HK).size; omega) rfl
end Go.Proofs.YtajklagdjokojaaGreatDoor
namespace Go.Proofs.YtajklagdjokojaaGreatDoor
open Go.RowKit Go.Maps

/-- The zero record. -/
def zeros (l : List FieldA) : List ValA := l.map zeroV
def zeroB (l : List FieldA) : List ValA := if schemaB l then zeros l else []
theorem zeros_snoc (l : List FieldA) (f : FieldA) : zeros (l ++ [f]) = zeros l ++ [zeroV f] := by simp [zeros]
theorem vcs_snoc (l : List ValA) (x : ValA) : vcs (l ++ [x]) = vcs l ++ x.cs := by simp [vcs]
theorem zeros_length (l : List FieldA) : (zeros l).length = l.length := by simp [zeros]

end Go.Proofs.YtajklagdjokojaaGreatDoor
namespace Go.Proofs.YtajklagdjokojaaGreatDoor
open Go.RowKit Go.Maps

def decN (u : Nat) : Txt := if _h : u = 0 then [] else decN (u / 10) ++ [UInt8.ofNat (48 + u % 10)]
def decimal (n : Int) : Txt := if n = 0 then [48] else if n < 0 then 45 :: decN n.natAbs else decN n.natAbs

theorem decN_zero : decN 0 = [] := by unfold decN; simp
theorem decN_pos {u : Nat} (h : 0 < u) : decN u = decN (u / 10) ++ [UInt8.ofNat (48 + u % 10)] := by
  rw [decN, dif_neg (by omega)]
theorem decN_length (k : Nat) : ∀ u, u < 10 ^ k → (decN u).length ≤ k := by
  induction k with
  | zero => intro u h; simp at h; subst h; simp [decN_zero]
  | succ k ih =>
    intro u h
    by_cases h0 : u = 0
    · subst h0; simp [decN_zero]
    · rw [decN_pos (by omega)]
      have := ih (u / 10) (by rw [Nat.pow_succ] at h; omega)
      simp; omega
theorem decN_20 (u : Nat) (h : u ≤ 9223372036854775808) : (decN u).length ≤ 19 := decN_length 19 u (by omega)

theorem conv_bytes (w : World) (b cap : Nat) (l : Txt) (h : ∀ j c, l[j]? = some c → w.cell? ⟨b, j, none⟩ = some (.int .u8 (num c))) :
    (convert 29 9 (.slice (some ⟨b, 0, none⟩) l.length cap)).run Tryz.prog w = .ok (str l) w :=
  run_convert_bytes_back w 29 9 5 ⟨b, 0, none⟩ cap l Tryz.underlying29 Tryz.underlying5 Tryz.underlying9 (fun j hj => by
    have := h j l[j] (List.getElem?_eq_getElem hj)
    rw [Addr.add_lit]
    simpa [num] using this)

theorem add_str (w : World) (a b : Txt) (h : a.length + b.length ≤ 9223372036854775807) : (Op.stringOp .add ⟨a.toArray⟩ ⟨b.toArray⟩).run Tryz.prog w = .ok (str (a ++ b)) w := by
  have ha : (ByteArray.mk a.toArray).size = a.length := rfl
  have hb : (ByteArray.mk b.toArray).size = b.length := rfl
  rw [run_string_add_sum w _ _ (by omega), ByteArray.mk_append_mk]

theorem digit_num (u : Nat) : num (UInt8.ofNat (48 + u % 10)) = 48 + (u : Int) % 10 := by
  unfold num
  rw [UInt8.toNat_ofNat']
  have : u % 10 < 10 := Nat.mod_lt _ (by decide)
  omega
theorem decN_digit {u : Nat} (h : 0 < u) : ∃ c, num c = 48 + (u : Int) % 10 ∧ decN u = decN (u / 10) ++ [c] := ⟨_, digit_num u, decN_pos h⟩

/-- The start of a decimal's loop. -/
def startU (n : Int) : Int := if n < 0 then IntKind.u64.wrap (-IntKind.u64.wrap n) else IntKind.u64.wrap n
theorem startU_eq (n : Int) (h0 : -9223372036854775808 ≤ n) (h1 : n ≤ 9223372036854775807) : startU n = (n.natAbs : Int) := by
  unfold startU
  rw [IntKind.wrap_u64, IntKind.wrap_u64]
  split <;> omega

end Go.Proofs.YtajklagdjokojaaGreatDoor
namespace Go.Proofs.YtajklagdjokojaaGreatDoor
open Go.RowKit Go.Maps

/-- The value of a field at a place of some bytes, and the place behind it (-1: the bytes end too early). -/
def readB (f : FieldA) (t : Txt) (a : Nat) : ValA × Int :=
  if f.type = 1 then (⟨1, (readIntB t a).1, []⟩, (readIntB t a).2)
  else match t[a]? with
    | none => (⟨0, 0, []⟩, -1)
    | some c =>
      if f.type = 2 then (⟨2, num c, []⟩, (a + 1 : Nat))
      else if t.length < a + 1 + c.toNat then (⟨0, 0, []⟩, -1)
      else (⟨3, 0, (t.drop (a + 1)).take c.toNat⟩, (a + 1 + c.toNat : Nat))

theorem conv_at (w : World) (b off cap : Nat) (l : Txt) (h : ∀ j c, l[j]? = some c → w.cell? ⟨b, off + j, none⟩ = some (.int .u8 (num c))) :
    (convert 29 9 (.slice (some ⟨b, off, none⟩) l.length cap)).run Tryz.prog w = .ok (str l) w :=
  run_convert_bytes_back w 29 9 5 ⟨b, off, none⟩ cap l Tryz.underlying29 Tryz.underlying5 Tryz.underlying9 (fun j hj => by
    have := h j l[j] (List.getElem?_eq_getElem hj)
    rw [Addr.add_lit]
    simpa [num] using this)

end Go.Proofs.YtajklagdjokojaaGreatDoor
namespace Go.Proofs.YtajklagdjokojaaGreatDoor
open Go.RowKit Go.Maps

/-- Bits as a number, the lowest first. -/
def headN : List Bool → Nat
  | [] => 0
  | b :: r => (if b then 1 else 0) + 2 * headN r
theorem headN_snoc : ∀ (l : List Bool) (b : Bool), headN (l ++ [b]) = headN l + (if b then 2 ^ l.length else 0)
  | [], b => by cases b <;> simp [headN]
  | c :: r, b => by
    simp only [List.cons_append, headN, headN_snoc r b, List.length_cons, Nat.pow_succ]
    cases b <;> cases c <;> simp <;> omega
theorem headN_lt : ∀ l : List Bool, headN l < 2 ^ l.length
  | [] => by simp [headN]
  | b :: r => by
    have := headN_lt r
    simp only [headN, List.length_cons, Nat.pow_succ]
    cases b <;> simp <;> omega
/-- Which of the optional fields are present. -/
def bitsOf (z : List (FieldA × ValA)) : List Bool := (z.filter fun p => p.1.opt).map fun p => decide (p.2.kind ≠ 0)
theorem bitsOf_snoc (z : List (FieldA × ValA)) (f : FieldA) (x : ValA) : bitsOf (z ++ [(f, x)]) = bitsOf z ++ (if f.opt then [decide (x.kind ≠ 0)] else []) := by
  unfold bitsOf
  rw [List.filter_append, List.map_append]
  cases h : f.opt <;> simp [h]
theorem bitsOf_le (z : List (FieldA × ValA)) : (bitsOf z).length ≤ z.length := by
  unfold bitsOf
  rw [List.length_map]
  exact List.length_filter_le _ _
/-- The bytes of a value that is present. -/
def enc1 (x : ValA) : Txt :=
  if x.kind = 1 then groups (tn x.n) else if x.kind = 2 then [UInt8.ofNat x.n.toNat] else if x.kind = 3 then UInt8.ofNat x.s.length :: x.s else []
def headT (z : List (FieldA × ValA)) : Txt := if 0 < (bitsOf z).length then [UInt8.ofNat (headN (bitsOf z))] else []
def encB (l : List FieldA) (r : List ValA) : Txt := headT (l.zip r) ++ r.flatMap enc1
def encodeB (l : List FieldA) (r : List ValA) : Txt := if errR l r = 0 then encB l r else []
/-- The ints of values are ints. -/
def InR (r : List ValA) : Prop := ∀ x ∈ r, -9223372036854775808 ≤ x.n ∧ x.n ≤ 9223372036854775807

theorem pow2_le {k : Nat} (h : k ≤ 8) : 2 ^ k ≤ 256 := by
  have : 2 ^ k ≤ 2 ^ 8 := Nat.pow_le_pow_right (by omega) h
  omega
theorem fitsB_kind {f : FieldA} {x : ValA} (h : fitsB f x = true) : x.kind = 0 ∨ x.kind = 1 ∨ (x.kind = 2 ∧ 0 ≤ x.n ∧ x.n ≤ 1) ∨ (x.kind = 3 ∧ x.s.length ≤ 20) := by
  unfold fitsB at h
  repeat' split at h
  all_goals simp_all
  rcases h.1 with h | h <;> simp [h]
theorem fitAll_at {l : List FieldA} {r : List ValA} (h : fitAll l r = true) {k : Nat} {f : FieldA} {x : ValA} (hf : l[k]? = some f) (hx : r[k]? = some x) : fitsB f x = true := by
  have := List.all_eq_true.1 h (f, x) (List.mem_of_getElem? (zip_get hf hx))
  exact this
theorem errR_zero {l : List FieldA} {r : List ValA} (h : errR l r = 0) : schemaB l = true ∧ r.length = l.length ∧ fitAll l r = true := by
  unfold errR at h
  split at h
  · rename_i hs
    split at h
    · rename_i hr
      unfold recB at hr
      rw [Bool.and_eq_true, decide_eq_true_eq] at hr
      exact ⟨hs, hr⟩
    · cases h
  · cases h
theorem enc1_length {f : FieldA} {x : ValA} (h : fitsB f x = true) (hx : -9223372036854775808 ≤ x.n ∧ x.n ≤ 9223372036854775807) : (enc1 x).length ≤ 21 := by
  unfold enc1
  have hg := groups_10 (tn x.n) (tn_le _ hx.1 hx.2)
  rcases fitsB_kind h with h | h | ⟨h, _⟩ | ⟨h, h2⟩ <;> simp [h] <;> omega

end Go.Proofs.YtajklagdjokojaaGreatDoor
