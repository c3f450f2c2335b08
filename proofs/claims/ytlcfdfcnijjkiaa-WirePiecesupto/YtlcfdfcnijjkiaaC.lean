import Derived.Test.YtlcfdfcnijjkiaaB
namespace Go.Proofs.Ytlcfdfcnijjkiaa
open Go.RowKit Go.Maps

/-- The byte at a place (0 beyond the end). -/
def byteP (l : Txt) (k : Nat) : Nat := (l.getD k 0).toNat
theorem byteP_lt (l : Txt) (k : Nat) : byteP l k < 256 := UInt8.toNat_lt _
theorem byteP_num {l : Txt} {k : Nat} {c : UInt8} (h : l[k]? = some c) : num c = (byteP l k : Int) := by
  unfold byteP num
  rw [List.getD_eq_getElem?_getD, h]
  rfl
theorem byteP_drop (l : Txt) (a k : Nat) : byteP (l.drop a) k = byteP l (a + k) := by
  unfold byteP
  rw [List.getD_eq_getElem?_getD, List.getD_eq_getElem?_getD, List.getElem?_drop]
theorem byteP_app {l m : Txt} {k : Nat} (h : k < l.length) : byteP (l ++ m) k = byteP l k := by
  unfold byteP
  rw [List.getD_eq_getElem?_getD, List.getD_eq_getElem?_getD, List.getElem?_append_left h]
theorem bytes_cell {w : World} {v : Value} {l : Txt} {b off cap : Nat} (h : BytesAt w v l) (e : v = .slice (some ⟨b, off, none⟩) l.length cap) {k : Nat} (hk : k < l.length) : w.cell? ⟨b, off + k, none⟩ = some (.int .u8 (byteP l k)) := by
  obtain ⟨b', off', cap', e', hb, hc⟩ := h.cells (by omega)
  rw [e] at e'
  simp at e'
  obtain ⟨⟨rfl, rfl⟩, rfl⟩ := e'
  obtain ⟨x, hx⟩ : ∃ x, l[k]? = some x := ⟨_, List.getElem?_eq_getElem hk⟩
  rw [hc k x hx, byteP_num hx]

set_option maxRecDepth 100000 in
set_option maxHeartbeats 1000000 in
theorem u16_v (w : World) (v : Value) (l : Txt) (h : BytesAt w v l) (at_ : Nat) (k : Int) (hk : k = (at_ : Int)) (ha : at_ + 2 ≤ l.length) (hl : l.length ≤ 140737488355328) :
    Calls Try.prog 16 #[v, .int .i64 k] w fun e w' => e = .returned (.int .i64 ((byteP l at_ + 256 * byteP l (at_ + 1) : Nat) : Int)) ∧ ∃ n, w' = w.drewN n := by
  subst hk
  obtain ⟨b, off, cap, rfl, hb, _⟩ := h.cells (by omega)
  have c0 := bytes_cell h rfl (show at_ < l.length by omega)
  have c1 := bytes_cell h rfl (show at_ + 1 < l.length by omega)
  have b0 := byteP_lt l at_
  have b1 := byteP_lt l (at_ + 1)
  generalize byteP l at_ = x0 at *
  generalize byteP l (at_ + 1) = x1 at *
  have i0 : (0 : Int) ≤ (at_ : Int) := by omega
  have i1 : (at_ : Int) < (l.length : Int) := by omega
  have i2 : (at_ : Int) + 1 < (l.length : Int) := by omega
  clear h
  go_enter Try.func16, Try.ntmps16
  go_wp2_with fail
  go_quiet (fail)
  go_wp2
  go_ret
  exact ⟨ret_int (by go_num), nq, rfl⟩


theorem or_add64 (U X : Nat) (k : Nat) (hU : U < 2 ^ k) (hX : 2 ^ k * X < 18446744073709551616) (hk : k ≤ 64) : bits .or .u64 (U : Int) ((2 ^ k * X : Nat) : Int) = ((U + 2 ^ k * X : Nat) : Int) := by
  have h64 : (2 : Nat) ^ k ≤ 2 ^ 64 := Nat.pow_le_pow_right (by omega) hk
  have hU2 : U < 18446744073709551616 := by omega
  show IntKind.u64.wrap ((BitVec.ofInt 64 (U : Int) ||| BitVec.ofInt 64 ((2 ^ k * X : Nat) : Int)).toNat : Int) = _
  rw [BitVec.toNat_or, BitVec.toNat_ofInt, BitVec.toNat_ofInt]
  have e1 : ((U : Int) % ((2 ^ 64 : Nat) : Int)).toNat = U := by omega
  have e2 : (((2 ^ k * X : Nat) : Int) % ((2 ^ 64 : Nat) : Int)).toNat = 2 ^ k * X := by omega
  rw [e1, e2, Nat.or_comm, ← Nat.two_pow_add_eq_or_of_lt hU, Nat.add_comm, IntKind.wrap_u64]
  have hor : U + 2 ^ k * X < 18446744073709551616 := by
    have h := Nat.or_lt_two_pow (x := 2 ^ k * X) (y := U) (n := 64) (by omega) (by omega)
    rw [← Nat.two_pow_add_eq_or_of_lt hU] at h
    omega
  omega
/-- What the first bytes tell, the lowest first. -/
def numP (l : Txt) (k : Nat) : Nat := if k = 0 then 0 else if k = 1 then byteP l 0 else if k = 2 then byteP l 0 + 256 * byteP l 1 else if k = 3 then byteP l 0 + 256 * byteP l 1 + 65536 * byteP l 2 else byteP l 0 + 256 * byteP l 1 + 65536 * byteP l 2 + 16777216 * byteP l 3

/-- The length that a part's first four bytes tell. -/
def lenP (l : Txt) : Nat := byteP l 0 + 256 * byteP l 1 + 65536 * byteP l 2 + 16777216 * byteP l 3
theorem num4 (l : Txt) : numP l 4 = lenP l := rfl
theorem num_step (l : Txt) (k x : Nat) (hk : k < 4) (hb : byteP l k = x) : bits .or .u64 (numP l k : Int) (IntKind.u64.wrap ((x : Int) * 2 ^ (8 * k))) = (numP l (k + 1) : Int) := by
  subst hb
  have b0 := byteP_lt l 0
  have b1 := byteP_lt l 1
  have b2 := byteP_lt l 2
  have b3 := byteP_lt l 3
  have go : ∀ X, X < 256 → numP l k < 2 ^ (8 * k) → numP l (k + 1) = numP l k + 2 ^ (8 * k) * X → bits .or .u64 (numP l k : Int) (IntKind.u64.wrap ((X : Int) * 2 ^ (8 * k))) = (numP l (k + 1) : Int) := by
    intro X hX h1 h2
    have h3 : (2 : Nat) ^ (8 * k) ≤ 2 ^ 24 := Nat.pow_le_pow_right (by omega) (by omega)
    have h4 : 2 ^ (8 * k) * X < 18446744073709551616 := by
      have := Nat.mul_le_mul h3 (show X ≤ 256 by omega)
      omega
    have e : ((X : Int) * 2 ^ (8 * k)) = ((2 ^ (8 * k) * X : Nat) : Int) := by
      rw [Int.natCast_mul, Int.mul_comm]
      congr 1
    rw [e, show IntKind.u64.wrap ((2 ^ (8 * k) * X : Nat) : Int) = ((2 ^ (8 * k) * X : Nat) : Int) by rw [IntKind.wrap_u64]; omega, or_add64 _ _ _ h1 h4 (by omega), h2]
  match k, hk with
  | 0, _ => exact go _ b0 (by simp [numP]) (by simp [numP])
  | 1, _ => exact go _ b1 (by simp [numP]; omega) (by simp [numP])
  | 2, _ => exact go _ b2 (by simp [numP]; omega) (by simp [numP])
  | 3, _ => exact go _ b3 (by simp [numP]; omega) (by simp [numP])

set_option maxRecDepth 100000 in
set_option maxHeartbeats 1000000 in
theorem number4_v (w : World) (b off cap : Nat) (l : Txt) (h : ∀ k, k < 4 → w.cell? ⟨b, off + k, none⟩ = some (.int .u8 (byteP l k))) :
    Calls Try.prog 18 #[.slice (some ⟨b, off, none⟩) 4 cap] w fun e w' => e = .returned (.int .u64 (numP l 4 : Int)) ∧ ∃ n, w' = w.drewN n := by
  have HC := hide h
  clear h
  go_enter Try.func18, Try.ntmps18
  go_wp2_with fail
  go_loopw [3, 8] (fun a i wr => ∃ k : Nat, k ≤ 4 ∧ i = .int .i64 k ∧ a = .int .u64 (numP l k : Int) ∧ ∃ n, wr = w.drewN n) (fun _ i _ => 4 - (intOf i).toNat)
  case atStart => exact ⟨0, by omega, rfl, rfl, 0, rfl⟩
  case round =>
    obtain ⟨k, hk, rfl, rfl, n, rfl⟩ := hrel
    by_cases hlt : k < 4
    · have c0 := (unhide HC) k hlt
      have b0 := byteP_lt l k
      have i0 : (0 : Int) ≤ (k : Int) := by omega
      have i1 : (k : Int) < 4 := by omega
      generalize hb : byteP l k = x at *
      go_wp2_with fail
      refine ⟨⟨k + 1, by omega, by go_num, ?_, n, rfl⟩, by simp [intOf]; omega⟩
      rw [num_step l k x hlt hb]
    · obtain rfl : k = 4 := by omega
      go_wp2
      go_ret
      exact ⟨rfl, n, rfl⟩

set_option maxRecDepth 100000 in
set_option maxHeartbeats 1000000 in
theorem length_v (w : World) (sb g n cap : Nat) (bb : Bool) (l : Txt) (hs : w.heap[sb]? = some (.cells #[.slice (some ⟨g, 0, none⟩) n cap, .bool bb] 37 (0, 0))) (h : BytesAt w (.slice (some ⟨g, 0, none⟩) n cap) l) (hl : 4 ≤ l.length) :
    Calls Try.prog 17 #[.pointer (some ⟨sb, 0, none⟩)] w fun e w' => e = .returned (.int .i64 (lenP l : Int)) ∧ ∃ n, w' = w.drewN n := by
  obtain ⟨_, _, _, e, _⟩ := h.cells (by omega)
  obtain rfl : n = l.length := by simp at e; omega
  have p0 := cell_of_blk hs 0
  simp at p0
  have hc : l.length ≤ cap := RowAt.room h _ _ _ rfl
  have i0 : (4 : Int) ≤ (cap : Int) := by omega
  have HQ := hide (number4_v w g 0 cap l (fun k hk => bytes_cell h rfl (by omega)))
  have b0 := byteP_lt l 0
  have b1 := byteP_lt l 1
  have b2 := byteP_lt l 2
  have b3 := byteP_lt l 3
  have HL : Hid (lenP l < 4294967296) := by show _ < _; unfold lenP; omega
  clear h hs
  go_enter Try.func17, Try.ntmps17
  go_wp2_with fail
  refine (unhide HQ).mono ?_
  rintro e w' ⟨rfl, n, rfl⟩
  have hL := unhide HL
  rw [num4]
  go_wp2_with fail
  go_ret
  exact ⟨rfl, n, rfl⟩
end Go.Proofs.Ytlcfdfcnijjkiaa
