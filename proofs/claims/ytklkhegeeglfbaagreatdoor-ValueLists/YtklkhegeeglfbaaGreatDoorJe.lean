import Derived.Test.YtklkhegeeglfbaaGreatDoorJd
import Derived.Test.YtklkhegeeglfbaaGreatDoorJc
import Derived.Laws.BitsLemmas
import Derived.Test.YtklkhegeeglfbaaGreatDoorJa
namespace Go.Proofs.YtklkhegeeglfbaaGreatDoor
open Go.RowKit Go.Maps

/-- The groups of a number. -/
def groups (u : Nat) : Txt := if _h : u < 128 then [UInt8.ofNat u] else UInt8.ofNat (u % 128 + 128) :: groups (u / 128)
theorem groups_small {u : Nat} (h : u < 128) : groups u = [UInt8.ofNat u] := by rw [groups, dif_pos h]
theorem groups_big {u : Nat} (h : 128 ≤ u) : groups u = UInt8.ofNat (u % 128 + 128) :: groups (u / 128) := by rw [groups, dif_neg (by omega)]
theorem groups_length (k : Nat) : ∀ u, u < 128 ^ (k + 1) → (groups u).length ≤ k + 1 := by
  induction k with
  | zero => intro u h; rw [groups_small (by simpa using h)]; simp
  | succ k ih =>
    intro u h
    by_cases h0 : u < 128
    · rw [groups_small h0]; simp
    · rw [groups_big (by omega)]
      have := ih (u / 128) (by rw [Nat.pow_succ] at h; omega)
      simp; omega
theorem groups_10 (u : Nat) (h : u ≤ 18446744073709551615) : (groups u).length ≤ 10 := groups_length 9 u (by omega)
theorem num_of (u : Nat) (h : u < 256) : num (UInt8.ofNat u) = u := by unfold num; rw [UInt8.toNat_ofNat']; omega

/-- A slice that is appended to: its own block is the old one, or a new one. -/
theorem own_step {S' : Nat} {v o o' : Value} {S g : Nat} {n c : Nat} (h : o.ownBlock = v.ownBlock ∨ ∀ q, o.ownBlock = some q → S ≤ q) (hat : o.ownBlock = some g ∨ g = S') (hS : S ≤ S') (e : o' = .slice (some ⟨g, 0, none⟩) n c) : o'.ownBlock = v.ownBlock ∨ ∀ q, o'.ownBlock = some q → S ≤ q := by
  subst e
  have e1 : (Value.slice (some ⟨g, 0, none⟩) n c).ownBlock = some g := rfl
  rw [e1]
  rcases hat with hat | rfl
  · rcases h with h | h
    · left; rw [← h, hat]
    · right; intro q hq; simp at hq; subst hq; exact h _ hat
  · right; intro q hq; simp at hq; omega

def tn (n : Int) : Nat := (turned n).toNat
theorem tn_eq (n : Int) : turned n = (tn n : Int) := by unfold tn turned; split <;> omega
theorem tn_le (n : Int) (h0 : -9223372036854775808 ≤ n) (h1 : n ≤ 9223372036854775807) : tn n ≤ 18446744073709551615 := by unfold tn turned; split <;> omega

/-- The int at a place of some bytes, and the place behind it (-1: none). -/
def readG : Nat → Txt → Nat → Nat → Option (Nat × Nat)
  | 0, _, _, _ => none
  | _ + 1, [], _, _ => none
  | f + 1, c :: r, u, k =>
    if c.toNat < 128 then some ((u + 128 ^ k * (c.toNat % 128)) % 18446744073709551616, k + 1)
    else readG f r ((u + 128 ^ k * (c.toNat % 128)) % 18446744073709551616) (k + 1)
def readIntB (t : Txt) (a : Nat) : Int × Int := match readG 10 (t.drop a) 0 0 with
  | none => (0, -1)
  | some (u, k) => (backB u, (a + k : Nat))
theorem pow128 (k : Nat) (h : k ≤ 9) : 128 ^ k ≤ 9223372036854775808 := by
  have : 128 ^ k ≤ 128 ^ 9 := Nat.pow_le_pow_right (by omega) h
  omega
theorem wrapU_add (U X : Int) : IntKind.u64.wrap (U + IntKind.u64.wrap X) = (U + X) % 18446744073709551616 := by
  rw [IntKind.wrap_u64, IntKind.wrap_u64]; omega

theorem ret_ii {k j : IntKind} {a b c d : Int} (h : a = b) (h2 : c = d) : Ending.returned (.tuple #[.int k a, .int j c]) = .returned (.tuple #[.int k b, .int j d]) := by rw [h, h2]

end Go.Proofs.YtklkhegeeglfbaaGreatDoor
namespace Go.Proofs.YtklkhegeeglfbaaGreatDoor
open Go.RowKit Go.Maps

theorem xor_zero64 (a : Int) (h0 : 0 ≤ a) (h1 : a < 18446744073709551616) : bits .xor .u64 a 0 = a := by
  show IntKind.u64.wrap ((BitVec.ofInt 64 a ^^^ BitVec.ofInt 64 0).toNat : Int) = a
  rw [show BitVec.ofInt 64 0 = 0#64 from rfl, BitVec.xor_zero, BitVec.toNat_ofInt, IntKind.wrap_u64]
  omega
theorem xor_ones64 (a : Int) (h0 : 0 ≤ a) (h1 : a < 18446744073709551616) : bits .xor .u64 a 18446744073709551615 = 18446744073709551615 - a := by
  show IntKind.u64.wrap ((BitVec.ofInt 64 a ^^^ BitVec.ofInt 64 18446744073709551615).toNat : Int) = _
  rw [show BitVec.ofInt 64 18446744073709551615 = BitVec.allOnes 64 from rfl, BitVec.xor_allOnes, BitVec.toNat_not, BitVec.toNat_ofInt, IntKind.wrap_u64]
  omega
theorem turn_xor (n : Int) (h0 : -9223372036854775808 ≤ n) (h1 : n ≤ 9223372036854775807) : bits .xor .u64 (IntKind.u64.wrap (wrap64 (n * 2))) (IntKind.u64.wrap (n / 9223372036854775808)) = (tn n : Int) := by
  have e : IntKind.u64.wrap (wrap64 (n * 2)) = (n * 2) % 18446744073709551616 := by
    rw [IntKind.wrap_u64]
    unfold wrap64
    omega
  rw [e, ← tn_eq]
  unfold turned
  by_cases h : 0 ≤ n
  · rw [show IntKind.u64.wrap (n / 9223372036854775808) = 0 by rw [IntKind.wrap_u64]; omega, xor_zero64 _ (by omega) (by omega), if_pos h]
    omega
  · rw [show IntKind.u64.wrap (n / 9223372036854775808) = 18446744073709551615 by rw [IntKind.wrap_u64]; omega, xor_ones64 _ (by omega) (by omega), if_neg h]
    omega
theorem or_128 : ∀ x : Fin 256, bits .or .u8 (x.1 : Int) 128 = (x.1 : Int) % 128 + 128 := by decide +kernel
theorem or_group (k : Nat) : bits .or .u8 ((k : Int) % 256) 128 = (k : Int) % 128 + 128 := by
  have := or_128 ⟨k % 256, Nat.mod_lt _ (by omega)⟩
  rw [show (k : Int) % 256 = ((k % 256 : Nat) : Int) by omega]
  simp only at this
  rw [this]
  omega

set_option maxRecDepth 100000 in
set_option maxHeartbeats 2000000 in
theorem appendInt_v (w : World) (B : Nat) (v : Value) (m : Nat) (xs : List Value) (n : Int) (h0 : -9223372036854775808 ≤ n) (h1 : n ≤ 9223372036854775807) (hv : w.ownsRow B 5 1 v m xs) (hm : m ≤ 1099511627776) (hB : B ≤ w.heap.size) :
    Calls Tryz.prog 66 #[v, .int .i64 n] w fun e w' => ∃ v', e = .returned v' ∧ w'.ownsRow B 5 1 v' (m + (groups (tn n)).length) (xs ++ bs (groups (tn n))) ∧ Keeps (fun q => v.ownBlock = some q) w w' ∧ (v'.ownBlock = v.ownBlock ∨ ∀ q, v'.ownBlock = some q → w.heap.size ≤ q) := by
  obtain ⟨i0, hi, hz0, hz1, hz2⟩ := info_parts Tryz.info5
  have HV := hide hv
  have HT := hide (turn_xor n h0 h1)
  have hu := tn_le n h0 h1
  have HG := hide (groups_10 _ hu)
  clear hv
  generalize tn n = U at *
  go_enter Tryz.func66, Tryz.ntmps66
  go_wp2_with fail
  rw [unhide HT]
  go_loopw [0, 5] (fun o u wr => ∃ (k : Nat) (d : Txt), u = .int .u64 k ∧ k ≤ U ∧ Hid (groups U = d ++ groups k) ∧ wr.ownsRow B 5 1 o (m + d.length) (xs ++ bs d) ∧ Keeps (fun q => v.ownBlock = some q) w wr ∧ (o.ownBlock = v.ownBlock ∨ ∀ q, o.ownBlock = some q → w.heap.size ≤ q)) (fun _ u _ => (intOf u).toNat)
  case atStart => exact ⟨U, [], rfl, Nat.le_refl _, rfl, by simpa [bs] using unhide HV, Keeps.refl _ _, Or.inl rfl⟩
  case round =>
    obtain ⟨k, d, rfl, hk, HD, hown, hkp, hat0⟩ := hrel
    have HO := hide hown
    have HK := hide hkp
    have HA := hide hat0
    have hd : d.length ≤ 10 := by have h := congrArg List.length (unhide HD); have := unhide HG; simp at h; omega
    clear hown hkp hat0
    by_cases hge : 128 ≤ k
    · have HC : Hid (num (UInt8.ofNat (k % 128 + 128)) = (k : Int) % 128 + 128) := by show _ = _; rw [num_of _ (by omega)]; omega
      generalize hc : UInt8.ofNat (k % 128 + 128) = c at *
      have HCC := hide hc
      clear hc
      have hge' : (128 : Int) ≤ (k : Int) := by omega
      have hor := or_group k
      go_wp2_with (at_builtin; refine wpList_append_lies _ rfl _ _ _ rfl B 5 i0 _ 1 1 Tryz.underlying30 hi hz0 hz1 hz2 rfl (by omega) u0 (m + d.length) (xs ++ bs d) rfl ((unhide HO).alloc _) ⟨wr.heap.size, 0, none⟩ 1 1 [.int .u8 ((k : Int) % 128 + 128)] rfl rfl (World.news_of_block (cs := #[.int .u8 ((k : Int) % 128 + 128)]) (t := 5) (fr := (0, 0)) (heap_alloc_new wr _)) (by simp [Value.oneCell']) (by omega) (by unfold maxLen; omega) (by omega) (by have := (unhide HK).size; simp; omega) (wr.heap.size + 1) (by simp) ?_; intro g cap w2 hown1 hgrow hat hlt1)
      go_roundw
      case rel =>
        refine ⟨k / 128, d ++ [c], by go_num, by omega, ?_, ?_, ?_, ?_⟩
        · show _ = _
          rw [unhide HD, groups_big hge, unhide HCC]; simp
        · have h := hown1
          rw [List.append_assoc] at h
          simp only [List.length_append, List.length_singleton, bs, List.map_append, List.map_cons, List.map_nil, unhide HC] at h ⊢
          exact h
        · exact ((unhide HK).alloc _).grown hgrow (fun q e hq => by
            rcases unhide HA with h | h
            · rw [← h]; exact e
            · have := h q e; omega)
        · exact own_step (unhide HA) hat (by have := (unhide HK).size; omega) rfl
      case measure => simp [intOf]; omega
    · have HC : Hid (num (UInt8.ofNat k) = (k : Int)) := num_of k (by omega)
      generalize hc : UInt8.ofNat k = c at *
      have HCC := hide hc
      clear hc
      have hge' : (k : Int) < 128 := by omega
      go_wp2_with (at_builtin; refine wpList_append_lies _ rfl _ _ _ rfl B 5 i0 _ 1 1 Tryz.underlying30 hi hz0 hz1 hz2 rfl (by omega) u0 (m + d.length) (xs ++ bs d) rfl ((unhide HO).alloc _) ⟨wr.heap.size, 0, none⟩ 1 1 [.int .u8 (k : Int)] rfl rfl (World.news_of_block (cs := #[.int .u8 (k : Int)]) (t := 5) (fr := (0, 0)) (heap_alloc_new wr _)) (by simp [Value.oneCell']) (by omega) (by unfold maxLen; omega) (by omega) (by have := (unhide HK).size; simp; omega) (wr.heap.size + 1) (by simp) ?_; intro g cap w2 hown1 hgrow hat hlt1)
      go_ret
      refine ⟨_, rfl, ?_, ?_, ?_⟩
      · have h := hown1
        rw [unhide HD, groups_small (by omega), unhide HCC]
        rw [List.append_assoc] at h
        simp only [List.length_append, List.length_singleton, bs, List.map_append, List.map_cons, List.map_nil, unhide HC] at h ⊢
        exact h
      · exact ((unhide HK).alloc _).grown hgrow (fun q e hq => by
          rcases unhide HA with h | h
          · rw [← h]; exact e
          · have := h q e; omega)
      · exact own_step (unhide HA) hat (by have := (unhide HK).size; omega) rfl
end Go.Proofs.YtklkhegeeglfbaaGreatDoor
namespace Go.Proofs.YtklkhegeeglfbaaGreatDoor
open Go.RowKit Go.Maps

/-- The zero record. -/
def zeros (l : List FieldA) : List ValA := l.map zeroV
def zeroB (l : List FieldA) : List ValA := if schemaB l then zeros l else []
theorem zeros_snoc (l : List FieldA) (f : FieldA) : zeros (l ++ [f]) = zeros l ++ [zeroV f] := by simp [zeros]
theorem vcs_snoc (l : List ValA) (x : ValA) : vcs (l ++ [x]) = vcs l ++ x.cs := by simp [vcs]
theorem zeros_length (l : List FieldA) : (zeros l).length = l.length := by simp [zeros]

end Go.Proofs.YtklkhegeeglfbaaGreatDoor
namespace Go.Proofs.YtklkhegeeglfbaaGreatDoor
open Go.RowKit Go.Maps

def decN (u : Nat) : Txt := if _h : u = 0 then [] else decN (u / 10) ++ [UInt8.ofNat (48 + u % 10)]
def decimal (n : Int) : Txt := if n = 0 then [48] else if n < 0 then 45 :: decN n.natAbs else decN n.natAbs

theorem decN_zero : decN 0 = [] := by unfold decN; simp
theorem decN_pos {u : Nat} (h : 0 < u) : decN u = decN (u / 10) ++ [UInt8.ofNat (48 + u % 10)] := by
  rw [decN, dif_neg (by omega)]
theorem decN_length (k : Nat) : ∀ u, u < 10 ^ k → (decN u).length ≤ k := by
  induction k with
  | zero => intro u h; simp at h; subst h; simp [decN_zero]
  | succ k ih =>
    intro u h
    by_cases h0 : u = 0
    · subst h0; simp [decN_zero]
    · rw [decN_pos (by omega)]
      have := ih (u / 10) (by rw [Nat.pow_succ] at h; omega)
      simp; omega
theorem decN_20 (u : Nat) (h : u ≤ 9223372036854775808) : (decN u).length ≤ 19 := decN_length 19 u (by omega)

theorem conv_bytes (w : World) (b cap : Nat) (l : Txt) (h : ∀ j c, l[j]? = some c → w.cell? ⟨b, j, none⟩ = some (.int .u8 (num c))) :
    (convert 30 9 (.slice (some ⟨b, 0, none⟩) l.length cap)).run Tryz.prog w = .ok (str l) w :=
  run_convert_bytes_back w 30 9 5 ⟨b, 0, none⟩ cap l Tryz.underlying30 Tryz.underlying5 Tryz.underlying9 (fun j hj => by
    have := h j l[j] (List.getElem?_eq_getElem hj)
    rw [Addr.add_lit]
    simpa [num] using this)

theorem add_str (w : World) (a b : Txt) (h : a.length + b.length ≤ 9223372036854775807) : (Op.stringOp .add ⟨a.toArray⟩ ⟨b.toArray⟩).run Tryz.prog w = .ok (str (a ++ b)) w := by
  have ha : (ByteArray.mk a.toArray).size = a.length := rfl
  have hb : (ByteArray.mk b.toArray).size = b.length := rfl
  rw [run_string_add_sum w _ _ (by omega), ByteArray.mk_append_mk]

theorem digit_num (u : Nat) : num (UInt8.ofNat (48 + u % 10)) = 48 + (u : Int) % 10 := by
  unfold num
  rw [UInt8.toNat_ofNat']
  have : u % 10 < 10 := Nat.mod_lt _ (by decide)
  omega
theorem decN_digit {u : Nat} (h : 0 < u) : ∃ c, num c = 48 + (u : Int) % 10 ∧ decN u = decN (u / 10) ++ [c] := ⟨_, digit_num u, decN_pos h⟩

/-- The start of a decimal's loop. -/
def startU (n : Int) : Int := if n < 0 then IntKind.u64.wrap (-IntKind.u64.wrap n) else IntKind.u64.wrap n
theorem startU_eq (n : Int) (h0 : -9223372036854775808 ≤ n) (h1 : n ≤ 9223372036854775807) : startU n = (n.natAbs : Int) := by
  unfold startU
  rw [IntKind.wrap_u64, IntKind.wrap_u64]
  split <;> omega

end Go.Proofs.YtklkhegeeglfbaaGreatDoor
