import Derived.Test.YtajklagdjokojaaGreatDoorNj
import Derived.Test.YtajklagdjokojaaGreatDoorJg
namespace Go.Proofs.YtajklagdjokojaaGreatDoor
open Go.RowKit Go.Maps

/-- The groups of an int at the head of some bytes, by the program's own looking. -/
def takeG : Nat → Txt → Nat → Option (Nat × Txt)
  | _, [], _ => none
  | k, c :: r, U =>
    if k = 9 ∧ 1 < c.toNat then none
    else if c.toNat < 128 then (if c.toNat = 0 ∧ 0 < k then none else some (U + 128 ^ k * (c.toNat % 128), r))
    else takeG (k + 1) r (U + 128 ^ k * (c.toNat % 128))

theorem and_127 : ∀ x : Fin 256, bits .and .u8 (x.1 : Int) 127 = ((x.1 % 128 : Nat) : Int) := by decide +kernel
theorem or_add64 (U X : Nat) (k : Nat) (hU : U < 2 ^ k) (hX : 2 ^ k * X < 18446744073709551616) (hk : k ≤ 64) : bits .or .u64 (U : Int) ((2 ^ k * X : Nat) : Int) = ((U + 2 ^ k * X : Nat) : Int) := by
  have h64 : (2 : Nat) ^ k ≤ 2 ^ 64 := Nat.pow_le_pow_right (by omega) hk
  have hU2 : U < 18446744073709551616 := by omega
  show IntKind.u64.wrap ((BitVec.ofInt 64 (U : Int) ||| BitVec.ofInt 64 ((2 ^ k * X : Nat) : Int)).toNat : Int) = _
  rw [BitVec.toNat_or, BitVec.toNat_ofInt, BitVec.toNat_ofInt]
  have e1 : ((U : Int) % ((2 ^ 64 : Nat) : Int)).toNat = U := by omega
  have e2 : (((2 ^ k * X : Nat) : Int) % ((2 ^ 64 : Nat) : Int)).toNat = 2 ^ k * X := by omega
  rw [e1, e2, Nat.or_comm, ← Nat.two_pow_add_eq_or_of_lt hU, Nat.add_comm, IntKind.wrap_u64]
  have hor : U + 2 ^ k * X < 18446744073709551616 := by
    have h := Nat.or_lt_two_pow (x := 2 ^ k * X) (y := U) (n := 64) (by omega) (by omega)
    rw [← Nat.two_pow_add_eq_or_of_lt hU] at h
    omega
  omega
theorem group_or (U k : Nat) (c : UInt8) (hU : U < 128 ^ k) (hk : k ≤ 9) (h9 : k = 9 → c.toNat ≤ 1) : bits .or .u64 (U : Int) (IntKind.u64.wrap (IntKind.u64.wrap (bits .and .u8 (num c) 127) * 2 ^ (7 * k))) = ((U + 128 ^ k * (c.toNat % 128) : Nat) : Int) := by
  have ha : bits .and .u8 (num c) 127 = ((c.toNat % 128 : Nat) : Int) := and_127 ⟨c.toNat, c.toNat_lt⟩
  have hp : (128 : Nat) ^ k = 2 ^ (7 * k) := by rw [Nat.pow_mul]
  have hX : 2 ^ (7 * k) * (c.toNat % 128) < 18446744073709551616 := by
    rw [← hp]
    by_cases h : k = 9
    · have := h9 h
      subst h
      omega
    · have h8 : 128 ^ k ≤ 128 ^ 8 := Nat.pow_le_pow_right (by omega) (by omega)
      have h1 : c.toNat % 128 ≤ 127 := by omega
      have := Nat.mul_le_mul h8 h1
      omega
  rw [ha, show IntKind.u64.wrap ((c.toNat % 128 : Nat) : Int) = ((c.toNat % 128 : Nat) : Int) by rw [IntKind.wrap_u64]; omega]
  have e : ((c.toNat % 128 : Nat) : Int) * 2 ^ (7 * k) = ((2 ^ (7 * k) * (c.toNat % 128) : Nat) : Int) := by
    rw [Int.natCast_mul, Int.mul_comm]
    congr 1
  rw [e, show IntKind.u64.wrap ((2 ^ (7 * k) * (c.toNat % 128) : Nat) : Int) = ((2 ^ (7 * k) * (c.toNat % 128) : Nat) : Int) by rw [IntKind.wrap_u64]; omega]
  rw [hp]
  exact or_add64 U _ (7 * k) (by rw [← hp]; exact hU) hX (by omega)
theorem group_lt (U k : Nat) (c : UInt8) (hU : U < 128 ^ k) (hk : k ≤ 9) (h9 : k = 9 → c.toNat ≤ 1) : U + 128 ^ k * (c.toNat % 128) < 128 ^ (k + 1) ∧ U + 128 ^ k * (c.toNat % 128) < 18446744073709551616 := by
  have h1 : c.toNat % 128 ≤ 127 := by omega
  have h2 := Nat.mul_le_mul_left (128 ^ k) h1
  refine ⟨by rw [Nat.pow_succ]; omega, ?_⟩
  by_cases h : k = 9
  · have := h9 h
    subst h
    omega
  · have h8 : 128 ^ k ≤ 128 ^ 8 := Nat.pow_le_pow_right (by omega) (by omega)
    omega

theorem and_one64 (V : Nat) (h : V ≤ 18446744073709551615) : bits .and .u64 (V : Int) 1 = ((V % 2 : Nat) : Int) := by
  show IntKind.u64.wrap ((BitVec.ofInt 64 (V : Int) &&& BitVec.ofInt 64 1).toNat : Int) = _
  rw [BitVec.toNat_and, BitVec.toNat_ofInt, BitVec.toNat_ofInt]
  have e1 : ((V : Int) % ((2 ^ 64 : Nat) : Int)).toNat = V := by omega
  have e2 : ((1 : Int) % ((2 ^ 64 : Nat) : Int)).toNat = 1 := by omega
  rw [e1, e2, Nat.and_one_is_mod, IntKind.wrap_u64]
  omega
theorem xor_back (V : Nat) (h : V ≤ 18446744073709551615) : bits .xor .i64 ((V : Int) / 2) (wrap64 (-wrap64 (bits .and .u64 (V : Int) 1))) = backB V := by
  rw [and_one64 V h]
  unfold backB
  by_cases h2 : (V : Int) % 2 = 0
  · have e : wrap64 (-wrap64 ((V % 2 : Nat) : Int)) = 0 := by
      have : ((V % 2 : Nat) : Int) = 0 := by omega
      rw [this]
      unfold wrap64
      omega
    rw [e, if_pos h2]
    show IntKind.i64.wrap ((BitVec.ofInt 64 ((V : Int) / 2) ^^^ BitVec.ofInt 64 0).toNat : Int) = _
    rw [show BitVec.ofInt 64 0 = 0#64 from rfl, BitVec.xor_zero, BitVec.toNat_ofInt, IntKind.wrap_i64]
    omega
  · have e : wrap64 (-wrap64 ((V % 2 : Nat) : Int)) = -1 := by
      have : ((V % 2 : Nat) : Int) = 1 := by omega
      rw [this]
      unfold wrap64
      omega
    rw [e, if_neg h2]
    show IntKind.i64.wrap ((BitVec.ofInt 64 ((V : Int) / 2) ^^^ BitVec.ofInt 64 (-1)).toNat : Int) = _
    rw [show BitVec.ofInt 64 (-1) = BitVec.allOnes 64 from rfl, BitVec.xor_allOnes, BitVec.toNat_not, BitVec.toNat_ofInt, IntKind.wrap_i64]
    omega

/-- What stands behind the first k of a row. -/
theorem rest_row {w : World} {b off n cap k : Nat} {xs : List Value} (h : RowAt w (.slice (some ⟨b, off, none⟩) n cap) n xs) (hk : k ≤ n) (hl : xs.length = n) :
    RowAt w (.slice (if cap = k then some ⟨b, off, none⟩ else some ⟨b, off + k, none⟩) (n - k) (cap - k)) (n - k) (xs.drop k) := by
  have hroom := h.room _ _ _ rfl
  refine ⟨⟨_, _, rfl⟩, fun h0 => ?_, fun ao m cap' e => ?_⟩
  · obtain ⟨b', off', cap', e, hb, hc⟩ := h.cells (by omega)
    simp at e
    obtain ⟨⟨rfl, rfl⟩, rfl⟩ := e
    rw [if_neg (by omega)]
    refine ⟨b, off + k, cap - k, rfl, hb, fun j x hx => ?_⟩
    rw [List.getElem?_drop] at hx
    rw [Nat.add_assoc]
    exact hc (k + j) x hx
  · simp at e
    omega
theorem rest_bytes {w : World} {b off cap k : Nat} {t : Txt} (h : BytesAt w (.slice (some ⟨b, off, none⟩) t.length cap) t) (hk : k ≤ t.length) :
    BytesAt w (.slice (if cap = k then some ⟨b, off, none⟩ else some ⟨b, off + k, none⟩) (t.length - k) (cap - k)) (t.drop k) := by
  have := rest_row h hk (bs_length t)
  unfold BytesAt
  rw [List.length_drop]
  have e : bs (t.drop k) = (bs t).drop k := by simp [bs, List.map_drop]
  rw [e]
  exact this

set_option maxRecDepth 100000 in
set_option maxHeartbeats 2000000 in
theorem takeInt_v (w : World) (v : Value) (t : Txt) (h : BytesAt w v t) (ht : t.length ≤ 140737488355328) :
    Calls Tryz.prog 99 #[v] w fun e w' => Keeps (fun _ => False) w w' ∧ match takeG 0 t 0 with
      | none => ∃ (x : ValA) (y : Value), e = .returned (.tuple #[x.v, y, .bool false])
      | some (U, r) => ∃ y, e = .returned (.tuple #[ValA.v ⟨1, backB U, []⟩, y, .bool true]) ∧ BytesAt w' y r := by
  obtain ⟨ao, cap, rfl⟩ := RowAt.form h
  have HF := hide h
  obtain ⟨R, HR⟩ : ∃ R, Hid (takeG 0 t 0 = R) := ⟨_, rfl⟩
  rw [unhide HR]
  clear h
  go_enter Tryz.func99, Tryz.ntmps99
  go_wp2_with fail
  go_loopw [5, 11] (fun u i wr => ∃ (k U : Nat), k ≤ 9 ∧ k ≤ t.length ∧ i = .int .i64 k ∧ u = .int .u64 U ∧ U ≤ 18446744073709551615 ∧ Hid (U < 128 ^ k) ∧ Hid (R = takeG k (t.drop k) U) ∧ wr = w.alloc (.cells #[.int .i64 0, .int .i64 0, str []] 50)) (fun _ i _ => 10 - (intOf i).toNat)
  case atStart => exact ⟨0, 0, by omega, by omega, rfl, rfl, by omega, by simp [Hid], (unhide HR).symm, rfl⟩
  case round =>
    obtain ⟨k, U, hk, hkt, rfl, rfl, hU, HU, HG, rfl⟩ := hrel
    cases hx : t[k]? with
    | none =>
      have h1 := get_ge hx
      obtain rfl : k = t.length := by omega
      have HE : Hid (R = none) := by
        show _ = _
        rw [unhide HG, List.drop_length]
        rfl
      clear hx
      obtain rfl : R = none := unhide HE
      go_wp2_with fail
      refine bodyPost_ret (v := .tuple #[ValA.v ⟨0, 0, []⟩, .slice none 0 0, .bool false]) (by simp [results, go_sem, ValA.v]) rfl ?_
      exact ⟨(Keeps.refl _ _).alloc _, ⟨0, 0, []⟩, _, rfl⟩
    | some c =>
      have h1 := get_lt hx
      obtain ⟨b, off, cc, e1, hblt, hc⟩ := RowAt.cells (unhide HF) (by omega)
      simp at e1
      obtain ⟨rfl, rfl⟩ := e1
      have c0 := ((((Keeps.refl (fun _ => False) w).alloc (.cells #[.int .i64 0, .int .i64 0, str []] 50))).cell hblt id).trans (hc k _ (by rw [bs_get, hx]; rfl))
      have hcr := num_range c
      have HD : Hid (t.drop k = c :: t.drop (k + 1)) := drop_at hx
      clear hx hc
      by_cases h9 : k = 9 ∧ 1 < num c
      · obtain ⟨rfl, h9⟩ := h9
        have HE : Hid (R = none) := by
          show _ = _
          rw [unhide HG, unhide HD, takeG, if_pos ⟨rfl, by unfold num at h9; omega⟩]
        obtain rfl : R = none := unhide HE
        go_wp2_with fail
        refine bodyPost_ret (v := .tuple #[ValA.v ⟨0, 0, []⟩, .slice none 0 0, .bool false]) (by simp [results, go_sem, ValA.v]) rfl ?_
        exact ⟨(Keeps.refl _ _).alloc _, ⟨0, 0, []⟩, _, rfl⟩
      · have H9 := hide h9
        have HC9 : Hid (k = 9 → c.toNat ≤ 1) := fun e => by unfold num at h9; omega
        have HOR := hide (group_or U k c (unhide HU) hk (unhide HC9))
        have HLT := hide (group_lt U k c (unhide HU) hk (unhide HC9))
        have hg : (((k : Int) == 9) && decide (1 < num c)) = false := by
          apply Bool.eq_false_iff.2
          simp only [ne_eq, Bool.and_eq_true, beq_iff_eq, decide_eq_true_eq]
          intro h
          exact h9 ⟨by omega, h.2⟩
        have i1 : (k : Int) + 1 ≤ (t.length : Int) := by omega
        have i2 : (t.length : Int) ≤ (cap : Int) := by have := RowAt.room (unhide HF) _ _ _ rfl; omega
        obtain ⟨V, HV⟩ : ∃ V, Hid (U + 128 ^ k * (c.toNat % 128) = V) := ⟨_, rfl⟩
        rw [unhide HV] at HOR HLT
        have hV : V ≤ 18446744073709551615 := by have := (unhide HLT).2; omega
        clear h9
        have HXB := hide (xor_back V hV)
        have HRB := hide (rest_bytes (unhide HF) (k := k + 1) (by omega))
        by_cases hlt : num c < 128
        · by_cases hz : num c = 0 ∧ 0 < k
          · have HE : Hid (R = none) := by
              show _ = _
              rw [unhide HG, unhide HD, takeG, if_neg (by have := unhide HC9; omega), if_pos (by unfold num at hlt; omega), if_pos (by unfold num at hz; omega)]
            obtain rfl : R = none := unhide HE
            have hz1 : (num c == 0) = true := by rw [beq_iff_eq]; exact hz.1
            have hz2 : (0 : Int) < (k : Int) := by omega
            have hz3 : 0 < k := hz.2
            clear hz
            cases hb9 : ((k : Int) == 9) with
            | true =>
              rw [hb9] at hg
              have hc1 : num c ≤ 1 := by simpa using hg
              clear hg
              go_wp2_with fail
              rw [unhide HOR]
              go_region
              generalize (if cap = k + 1 then some (⟨b, off, none⟩ : Addr) else some ⟨b, off + (k + 1), none⟩) = A at *
              rw [unhide HXB]
              go_wp2_with fail
              refine bodyPost_ret (v := .tuple #[ValA.v ⟨1, backB V, []⟩, .slice A (t.length - (k + 1)) (cap - (k + 1)), .bool false]) (by simp [results, go_sem, ValA.v]) rfl ?_
              exact ⟨((Keeps.refl _ _).alloc _).drew, _, _, rfl⟩
            | false =>
              clear hg
              go_wp2_with fail
              rw [unhide HOR]
              go_region
              generalize (if cap = k + 1 then some (⟨b, off, none⟩ : Addr) else some ⟨b, off + (k + 1), none⟩) = A at *
              rw [unhide HXB]
              go_wp2_with fail
              refine bodyPost_ret (v := .tuple #[ValA.v ⟨1, backB V, []⟩, .slice A (t.length - (k + 1)) (cap - (k + 1)), .bool false]) (by simp [results, go_sem, ValA.v]) rfl ?_
              exact ⟨((Keeps.refl _ _).alloc _).drew, _, _, rfl⟩
          · have HE : Hid (R = some (V, t.drop (k + 1))) := by
              show _ = _
              rw [unhide HG, unhide HD, takeG, if_neg (by have := unhide HC9; omega), if_pos (by unfold num at hlt; omega), if_neg (by unfold num at hz; omega), unhide HV]
            obtain rfl : R = some (V, t.drop (k + 1)) := unhide HE
            by_cases hz0 : num c = 0
            · have hk0 : (k : Int) ≤ 0 := by omega
              have hz1 : (num c == 0) = true := by rw [beq_iff_eq]; exact hz0
              have hb9 : ((k : Int) == 9) = false := beq_eq_false_iff_ne.2 (by omega)
              clear hz hz0
              clear hg
              go_wp2_with fail
              rw [unhide HOR]
              go_region
              generalize (if cap = k + 1 then some (⟨b, off, none⟩ : Addr) else some ⟨b, off + (k + 1), none⟩) = A at *
              rw [unhide HXB]
              go_wp2_with fail
              refine bodyPost_ret (v := .tuple #[ValA.v ⟨1, backB V, []⟩, .slice A (t.length - (k + 1)) (cap - (k + 1)), .bool true]) (by simp [results, go_sem, ValA.v]; omega) rfl ?_
              exact ⟨((Keeps.refl _ _).alloc _).drew, _, rfl, (unhide HRB).keepF (((Keeps.refl _ _).alloc _).drew)⟩
            · have hz1 : (num c == 0) = false := beq_eq_false_iff_ne.2 hz0
              clear hz hz0
              cases hb9 : ((k : Int) == 9) with
              | true =>
                rw [hb9] at hg
                have hc1 : num c ≤ 1 := by simpa using hg
                clear hg
                go_wp2_with fail
                rw [unhide HOR]
                go_region
                generalize (if cap = k + 1 then some (⟨b, off, none⟩ : Addr) else some ⟨b, off + (k + 1), none⟩) = A at *
                rw [unhide HXB]
                go_wp2_with fail
                refine bodyPost_ret (v := .tuple #[ValA.v ⟨1, backB V, []⟩, .slice A (t.length - (k + 1)) (cap - (k + 1)), .bool true]) (by simp [results, go_sem, ValA.v]) rfl ?_
                exact ⟨((Keeps.refl _ _).alloc _).drew, _, rfl, (unhide HRB).keepF (((Keeps.refl _ _).alloc _).drew)⟩
              | false =>
                clear hg
                go_wp2_with fail
                rw [unhide HOR]
                go_region
                generalize (if cap = k + 1 then some (⟨b, off, none⟩ : Addr) else some ⟨b, off + (k + 1), none⟩) = A at *
                rw [unhide HXB]
                go_wp2_with fail
                refine bodyPost_ret (v := .tuple #[ValA.v ⟨1, backB V, []⟩, .slice A (t.length - (k + 1)) (cap - (k + 1)), .bool true]) (by simp [results, go_sem, ValA.v]) rfl ?_
                exact ⟨((Keeps.refl _ _).alloc _).drew, _, rfl, (unhide HRB).keepF (((Keeps.refl _ _).alloc _).drew)⟩
        · have hge : 128 ≤ num c := by omega
          have hk9 : k < 9 := by
            rcases Nat.lt_or_ge k 9 with h | h
            · exact h
            · have := unhide HC9 (by omega)
              unfold num at hge
              omega
          have hb9 : ((k : Int) == 9) = false := beq_eq_false_iff_ne.2 (by omega)
          have HE : Hid (R = takeG (k + 1) (t.drop (k + 1)) V) := by
            show _ = _
            rw [unhide HG, unhide HD, takeG, if_neg (by omega), if_neg (by unfold num at hge; omega), unhide HV]
          clear hg
          go_wp2_with fail
          go_roundw
          case rel => exact ⟨k + 1, V, by omega, by omega, by go_num, congrArg (Value.int .u64) (unhide HOR), hV, (unhide HLT).1, HE, trivial⟩
          case measure => simp [intOf]; omega
end Go.Proofs.YtajklagdjokojaaGreatDoor
