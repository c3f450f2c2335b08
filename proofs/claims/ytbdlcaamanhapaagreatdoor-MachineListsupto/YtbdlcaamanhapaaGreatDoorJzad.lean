import Derived.Test.YtbdlcaamanhapaaGreatDoorJzac
import Derived.Test.YtbdlcaamanhapaaGreatDoorJzab
namespace Go.Proofs.YtbdlcaamanhapaaGreatDoor
open Go.RowKit Go.Maps
set_option maxRecDepth 100000
set_option maxHeartbeats 2000000
def takeG : Nat → Txt → Nat → Option (Nat × Txt)
 | _, [], _ => none
 | k, c :: r, U =>
  if k = 9 ∧ 1 < c.toNat then none
  else if c.toNat < 128 then (if c.toNat = 0 ∧ 0 < k then none else some (U + 128 ^ k * (c.toNat % 128), r))
  else takeG (k + 1) r (U + 128 ^ k * (c.toNat % 128))
theorem and_127 : ∀ x : Fin 256, bits .and .u8 (x.1 : Int) 127 = ((x.1 % 128 : Nat) : Int) := by decide +kernel
theorem or_add64 (U X : Nat) (k : Nat) (hU : U < 2 ^ k) (hX : 2 ^ k * X < 18446744073709551616) (hk : k ≤ 64) : bits .or .u64 (U : Int) ((2 ^ k * X : Nat) : Int) = ((U + 2 ^ k * X : Nat) : Int) := by
 have h64 : (2 : Nat) ^ k ≤ 2 ^ 64 := Nat.pow_le_pow_right (by omega) hk
 have hU2 : U < 18446744073709551616 := by omega
 show IntKind.u64.wrap ((BitVec.ofInt 64 (U : Int) ||| BitVec.ofInt 64 ((2 ^ k * X : Nat) : Int)).toNat : Int) = _
 rw [BitVec.toNat_or, BitVec.toNat_ofInt, BitVec.toNat_ofInt]
 have e1 : ((U : Int) % ((2 ^ 64 : Nat) : Int)).toNat = U := by omega
 have e2 : (((2 ^ k * X : Nat) : Int) % ((2 ^ 64 : Nat) : Int)).toNat = 2 ^ k * X := by omega
 rw [e1, e2, Nat.or_comm, ← Nat.two_pow_add_eq_or_of_lt hU, Nat.add_comm, IntKind.wrap_u64]
 have hor : U + 2 ^ k * X < 18446744073709551616 := by
  have h := Nat.or_lt_two_pow (x := 2 ^ k * X) (y := U) (n := 64) (by omega) (by omega)
  rw [← Nat.two_pow_add_eq_or_of_lt hU] at h
  omega
 omega
theorem group_or (U k : Nat) (c : UInt8) (hU : U < 128 ^ k) (hk : k ≤ 9) (h9 : k = 9 → c.toNat ≤ 1) : bits .or .u64 (U : Int) (IntKind.u64.wrap (IntKind.u64.wrap (bits .and .u8 (num c) 127) * 2 ^ (7 * k))) = ((U + 128 ^ k * (c.toNat % 128) : Nat) : Int) := by
 have ha : bits .and .u8 (num c) 127 = ((c.toNat % 128 : Nat) : Int) := and_127 ⟨c.toNat, c.toNat_lt⟩
 have hp : (128 : Nat) ^ k = 2 ^ (7 * k) := by rw [Nat.pow_mul]
 have hX : 2 ^ (7 * k) * (c.toNat % 128) < 18446744073709551616 := by
  rw [← hp]
  by_cases h : k = 9
  ·have := h9 h
   subst h
   omega
  ·have h8 : 128 ^ k ≤ 128 ^ 8 := Nat.pow_le_pow_right (by omega) (by omega)
   have h1 : c.toNat % 128 ≤ 127 := by omega
   have := Nat.mul_le_mul h8 h1
   omega
 rw [ha, show IntKind.u64.wrap ((c.toNat % 128 : Nat) : Int) = ((c.toNat % 128 : Nat) : Int) by rw [IntKind.wrap_u64]; omega]
 have e : ((c.toNat % 128 : Nat) : Int) * 2 ^ (7 * k) = ((2 ^ (7 * k) * (c.toNat % 128) : Nat) : Int) := by
  rw [Int.natCast_mul, Int.mul_comm]
  congr 1
 rw [e, show IntKind.u64.wrap ((2 ^ (7 * k) * (c.toNat % 128) : Nat) : Int) = ((2 ^ (7 * k) * (c.toNat % 128) : Nat) : Int) by rw [IntKind.wrap_u64]; omega]
 rw [hp]
 exact or_add64 U _ (7 * k) (by rw [← hp]; exact hU) hX (by omega)
theorem group_lt (U k : Nat) (c : UInt8) (hU : U < 128 ^ k) (hk : k ≤ 9) (h9 : k = 9 → c.toNat ≤ 1) : U + 128 ^ k * (c.toNat % 128) < 128 ^ (k + 1) ∧ U + 128 ^ k * (c.toNat % 128) < 18446744073709551616 := by
 have h1 : c.toNat % 128 ≤ 127 := by omega
 have h2 := Nat.mul_le_mul_left (128 ^ k) h1
 refine ⟨by rw [Nat.pow_succ]; omega, ?_⟩
 by_cases h : k = 9
 ·have := h9 h
  subst h
  omega
 ·have h8 : 128 ^ k ≤ 128 ^ 8 := Nat.pow_le_pow_right (by omega) (by omega)
  omega
theorem and_one64 (V : Nat) (h : V ≤ 18446744073709551615) : bits .and .u64 (V : Int) 1 = ((V % 2 : Nat) : Int) := by
 show IntKind.u64.wrap ((BitVec.ofInt 64 (V : Int) &&& BitVec.ofInt 64 1).toNat : Int) = _
 rw [BitVec.toNat_and, BitVec.toNat_ofInt, BitVec.toNat_ofInt]
 have e1 : ((V : Int) % ((2 ^ 64 : Nat) : Int)).toNat = V := by omega
 have e2 : ((1 : Int) % ((2 ^ 64 : Nat) : Int)).toNat = 1 := by omega
 rw [e1, e2, Nat.and_one_is_mod, IntKind.wrap_u64]
 omega
theorem xor_back (V : Nat) (h : V ≤ 18446744073709551615) : bits .xor .i64 ((V : Int) / 2) (wrap64 (-wrap64 (bits .and .u64 (V : Int) 1))) = backB V := by
 rw [and_one64 V h]
 unfold backB
 by_cases h2 : (V : Int) % 2 = 0
 ·have e : wrap64 (-wrap64 ((V % 2 : Nat) : Int)) = 0 := by
   have : ((V % 2 : Nat) : Int) = 0 := by omega
   rw [this]
   unfold wrap64
   omega
  rw [e, if_pos h2]
  show IntKind.i64.wrap ((BitVec.ofInt 64 ((V : Int) / 2) ^^^ BitVec.ofInt 64 0).toNat : Int) = _
  rw [show BitVec.ofInt 64 0 = 0#64 from rfl, BitVec.xor_zero, BitVec.toNat_ofInt, IntKind.wrap_i64]
  omega
 ·have e : wrap64 (-wrap64 ((V % 2 : Nat) : Int)) = -1 := by
   have : ((V % 2 : Nat) : Int) = 1 := by omega
   rw [this]
   unfold wrap64
   omega
  rw [e, if_neg h2]
  show IntKind.i64.wrap ((BitVec.ofInt 64 ((V : Int) / 2) ^^^ BitVec.ofInt 64 (-1)).toNat : Int) = _
  rw [show BitVec.ofInt 64 (-1) = BitVec.allOnes 64 from rfl, BitVec.xor_allOnes, BitVec.toNat_not, BitVec.toNat_ofInt, IntKind.wrap_i64]
  omega
theorem rest_row {w : World} {b off n cap k : Nat} {xs : List Value} (h : Ws w (.slice (some ⟨b, off, none⟩) n cap) n xs) (hk : k ≤ n) (hl : xs.length = n) :
  Ws w (.slice (if cap = k then some ⟨b, off, none⟩ else some ⟨b, off + k, none⟩) (n - k) (cap - k)) (n - k) (xs.drop k) := by
 have hroom := h.room _ _ _ rfl
 refine ⟨⟨_, _, rfl⟩, fun h0 => ?_, fun ao m cap' e => ?_⟩
 ·obtain ⟨b', off', cap', e, hb, hc⟩ := h.cells (by omega)
  simp at e
  obtain ⟨⟨rfl, rfl⟩, rfl⟩ := e
  rw [if_neg (by omega)]
  refine ⟨b, off + k, cap - k, rfl, hb, fun j x hx => ?_⟩
  rw [List.getElem?_drop] at hx
  rw [Nat.add_assoc]
  exact hc (k + j) x hx
 ·simp at e
  omega
theorem rest_bytes {w : World} {b off cap k : Nat} {t : Txt} (h : Wv w (.slice (some ⟨b, off, none⟩) t.length cap) t) (hk : k ≤ t.length) :
  Wv w (.slice (if cap = k then some ⟨b, off, none⟩ else some ⟨b, off + k, none⟩) (t.length - k) (cap - k)) (t.drop k) := by
 have := rest_row h hk (bs_length t)
 unfold Wv
 rw [List.length_drop]
 have e : bs (t.drop k) = (bs t).drop k := by simp [bs, List.map_drop]
 rw [e]
 exact this
theorem takeInt_v (w : World) (v : Value) (t : Txt) (h : Wv w v t) (ht : t.length ≤ 140737488355328) :
  Calls Tryz.prog 152 #[v] w fun e w' => Wp (fun _ => False) w w' ∧ match takeG 0 t 0 with
   | none => ∃ (x : ValA) (y : Value), e = .returned (.tuple #[x.v, y, .bool false])
   | some (U, r) => ∃ y, e = .returned (.tuple #[ValA.v ⟨1, backB U, []⟩, y, .bool true]) ∧ Wv w' y r := by
 obtain ⟨ao, cap, rfl⟩ := Ws.form h
 have HF := zB h
 obtain ⟨R, HR⟩ : ∃ R, Hid (takeG 0 t 0 = R) := ⟨_, rfl⟩
 rw [zA HR]
 clear h
 go_enter Tryz.func152, Tryz.ntmps152
 go_wp2_with fail
 go_loopw [5, 11] (fun u i wr => ∃ (k U : Nat), k ≤ 9 ∧ k ≤ t.length ∧ i = .int .i64 k ∧ u = .int .u64 U ∧ U ≤ 18446744073709551615 ∧ Hid (U < 128 ^ k) ∧ Hid (R = takeG k (t.drop k) U) ∧ wr = w.alloc (.cells #[.int .i64 0, .int .i64 0, str []] 51)) (fun _ i _ => 10 - (intOf i).toNat)
 case atStart => exact ⟨0, 0, by omega, by omega, rfl, rfl, by omega, by simp [Hid], (zA HR).symm, rfl⟩
 case round =>
  obtain ⟨k, U, hk, hkt, rfl, rfl, hU, HU, HG, rfl⟩ := hrel
  cases hx : t[k]? with
  | none =>
   have h1 := get_ge hx
   obtain rfl : k = t.length := by omega
   have HE : Hid (R = none) := by
    show _ = _
    rw [zA HG, List.drop_length]
    rfl
   clear hx
   obtain rfl : R = none := zA HE
   go_wp2_with fail
   refine bodyPost_ret (v := .tuple #[ValA.v ⟨0, 0, []⟩, .slice none 0 0, .bool false]) (by simp [results, go_sem, ValA.v]) rfl ?_
   exact ⟨(Wp.refl _ _).alloc _, ⟨0, 0, []⟩, _, rfl⟩
  | some c =>
   have h1 := get_lt hx
   obtain ⟨b, off, cc, e1, hblt, hc⟩ := Ws.cells (zA HF) (by omega)
   simp at e1
   obtain ⟨rfl, rfl⟩ := e1
   have c0 := ((((Wp.refl (fun _ => False) w).alloc (.cells #[.int .i64 0, .int .i64 0, str []] 51))).cell hblt id).trans (hc k _ (by rw [bs_get, hx]; rfl))
   have hcr := num_range c
   have HD : Hid (t.drop k = c :: t.drop (k + 1)) := drop_at hx
   clear hx hc
   by_cases h9 : k = 9 ∧ 1 < num c
   ·obtain ⟨rfl, h9⟩ := h9
    have HE : Hid (R = none) := by
     show _ = _
     rw [zA HG, zA HD, takeG, if_pos ⟨rfl, by unfold num at h9; omega⟩]
    obtain rfl : R = none := zA HE
    go_wp2_with fail
    refine bodyPost_ret (v := .tuple #[ValA.v ⟨0, 0, []⟩, .slice none 0 0, .bool false]) (by simp [results, go_sem, ValA.v]) rfl ?_
    exact ⟨(Wp.refl _ _).alloc _, ⟨0, 0, []⟩, _, rfl⟩
   ·have H9 := zB h9
    have HC9 : Hid (k = 9 → c.toNat ≤ 1) := fun e => by unfold num at h9; omega
    have HOR := zB (group_or U k c (zA HU) hk (zA HC9))
    have HLT := zB (group_lt U k c (zA HU) hk (zA HC9))
    have hg : (((k : Int) == 9) && decide (1 < num c)) = false := by
     apply Bool.eq_false_iff.2
     simp only [ne_eq, Bool.and_eq_true, beq_iff_eq, decide_eq_true_eq]
     intro h
     exact h9 ⟨by omega, h.2⟩
    have i1 : (k : Int) + 1 ≤ (t.length : Int) := by omega
    have i2 : (t.length : Int) ≤ (cap : Int) := by have := Ws.room (zA HF) _ _ _ rfl; omega
    obtain ⟨V, HV⟩ : ∃ V, Hid (U + 128 ^ k * (c.toNat % 128) = V) := ⟨_, rfl⟩
    rw [zA HV] at HOR HLT
    have hV : V ≤ 18446744073709551615 := by have := (zA HLT).2; omega
    clear h9
    have HXB := zB (xor_back V hV)
    have HRB := zB (rest_bytes (zA HF) (k := k + 1) (by omega))
    by_cases hlt : num c < 128
    ·by_cases hz : num c = 0 ∧ 0 < k
     ·have HE : Hid (R = none) := by
       show _ = _
       rw [zA HG, zA HD, takeG, if_neg (by have := zA HC9; omega), if_pos (by unfold num at hlt; omega), if_pos (by unfold num at hz; omega)]
      obtain rfl : R = none := zA HE
      have hz1 : (num c == 0) = true := by rw [beq_iff_eq]; exact hz.1
      have hz2 : (0 : Int) < (k : Int) := by omega
      have hz3 : 0 < k := hz.2
      clear hz
      cases hb9 : ((k : Int) == 9) with
      | true =>
       rw [hb9] at hg
       have hc1 : num c ≤ 1 := by simpa using hg
       clear hg
       go_wp2_with fail
       rw [zA HOR]
       go_region
       generalize (if cap = k + 1 then some (⟨b, off, none⟩ : Addr) else some ⟨b, off + (k + 1), none⟩) = A at *
       rw [zA HXB]
       go_wp2_with fail
       refine bodyPost_ret (v := .tuple #[ValA.v ⟨1, backB V, []⟩, .slice A (t.length - (k + 1)) (cap - (k + 1)), .bool false]) (by simp [results, go_sem, ValA.v]) rfl ?_
       exact ⟨((Wp.refl _ _).alloc _).drew, _, _, rfl⟩
      | false =>
       clear hg
       go_wp2_with fail
       rw [zA HOR]
       go_region
       generalize (if cap = k + 1 then some (⟨b, off, none⟩ : Addr) else some ⟨b, off + (k + 1), none⟩) = A at *
       rw [zA HXB]
       go_wp2_with fail
       refine bodyPost_ret (v := .tuple #[ValA.v ⟨1, backB V, []⟩, .slice A (t.length - (k + 1)) (cap - (k + 1)), .bool false]) (by simp [results, go_sem, ValA.v]) rfl ?_
       exact ⟨((Wp.refl _ _).alloc _).drew, _, _, rfl⟩
     ·have HE : Hid (R = some (V, t.drop (k + 1))) := by
       show _ = _
       rw [zA HG, zA HD, takeG, if_neg (by have := zA HC9; omega), if_pos (by unfold num at hlt; omega), if_neg (by unfold num at hz; omega), zA HV]
      obtain rfl : R = some (V, t.drop (k + 1)) := zA HE
      by_cases hz0 : num c = 0
      ·have hk0 : (k : Int) ≤ 0 := by omega
       have hz1 : (num c == 0) = true := by rw [beq_iff_eq]; exact hz0
       have hb9 : ((k : Int) == 9) = false := beq_eq_false_iff_ne.2 (by omega)
       clear hz hz0
       clear hg
       go_wp2_with fail
       rw [zA HOR]
       go_region
       generalize (if cap = k + 1 then some (⟨b, off, none⟩ : Addr) else some ⟨b, off + (k + 1), none⟩) = A at *
       rw [zA HXB]
       go_wp2_with fail
       refine bodyPost_ret (v := .tuple #[ValA.v ⟨1, backB V, []⟩, .slice A (t.length - (k + 1)) (cap - (k + 1)), .bool true]) (by simp [results, go_sem, ValA.v]; omega) rfl ?_
       exact ⟨((Wp.refl _ _).alloc _).drew, _, rfl, (zA HRB).keepF (((Wp.refl _ _).alloc _).drew)⟩
      ·have hz1 : (num c == 0) = false := beq_eq_false_iff_ne.2 hz0
       clear hz hz0
       cases hb9 : ((k : Int) == 9) with
       | true =>
        rw [hb9] at hg
        have hc1 : num c ≤ 1 := by simpa using hg
        clear hg
        go_wp2_with fail
        rw [zA HOR]
        go_region
        generalize (if cap = k + 1 then some (⟨b, off, none⟩ : Addr) else some ⟨b, off + (k + 1), none⟩) = A at *
        rw [zA HXB]
        go_wp2_with fail
        refine bodyPost_ret (v := .tuple #[ValA.v ⟨1, backB V, []⟩, .slice A (t.length - (k + 1)) (cap - (k + 1)), .bool true]) (by simp [results, go_sem, ValA.v]) rfl ?_
        exact ⟨((Wp.refl _ _).alloc _).drew, _, rfl, (zA HRB).keepF (((Wp.refl _ _).alloc _).drew)⟩
       | false =>
        clear hg
        go_wp2_with fail
        rw [zA HOR]
        go_region
        generalize (if cap = k + 1 then some (⟨b, off, none⟩ : Addr) else some ⟨b, off + (k + 1), none⟩) = A at *
        rw [zA HXB]
        go_wp2_with fail
        refine bodyPost_ret (v := .tuple #[ValA.v ⟨1, backB V, []⟩, .slice A (t.length - (k + 1)) (cap - (k + 1)), .bool true]) (by simp [results, go_sem, ValA.v]) rfl ?_
        exact ⟨((Wp.refl _ _).alloc _).drew, _, rfl, (zA HRB).keepF (((Wp.refl _ _).alloc _).drew)⟩
    ·have hge : 128 ≤ num c := by omega
     have hk9 : k < 9 := by
      rcases Nat.lt_or_ge k 9 with h | h
      ·exact h
      ·have := zA HC9 (by omega)
       unfold num at hge
       omega
     have hb9 : ((k : Int) == 9) = false := beq_eq_false_iff_ne.2 (by omega)
     have HE : Hid (R = takeG (k + 1) (t.drop (k + 1)) V) := by
      show _ = _
      rw [zA HG, zA HD, takeG, if_neg (by omega), if_neg (by unfold num at hge; omega), zA HV]
     clear hg
     go_wp2_with fail
     go_roundw
     case rel => exact ⟨k + 1, V, by omega, by omega, by go_num, congrArg (Value.int .u64) (zA HOR), hV, (zA HLT).1, HE, trivial⟩
     case measure => simp [intOf]; omega
def takeBoolP : Txt → Option (ValA × Txt)
 | [] => none
 | c :: r => if 1 < c.toNat then none else some (⟨2, num c, []⟩, r)
def takeBytesP : Txt → Option (ValA × Txt)
 | [] => none
 | c :: r => if 20 < c.toNat then none else if r.length < c.toNat then none else some (⟨3, 0, r.take c.toNat⟩, r.drop c.toNat)
def takeIntP (t : Txt) : Option (ValA × Txt) := (takeG 0 t 0).map fun p => (⟨1, backB p.1, []⟩, p.2)
def takeP (ty : Int) (t : Txt) : Option (ValA × Txt) := if ty = 1 then takeIntP t else if ty = 2 then takeBoolP t else takeBytesP t
def Took (w' : World) (e : Ending) : Option (ValA × Txt) → Prop
 | none => ∃ (x : ValA) (y : Value), e = .returned (.tuple #[x.v, y, .bool false])
 | some (x, r) => ∃ y, e = .returned (.tuple #[x.v, y, .bool true]) ∧ Wv w' y r
theorem takeInt_took (w : World) (v : Value) (t : Txt) (h : Wv w v t) (ht : t.length ≤ 140737488355328) :
  Calls Tryz.prog 152 #[v] w fun e w' => Wp (fun _ => False) w w' ∧ Took w' e (takeIntP t) := by
 refine (takeInt_v w v t h ht).mono ?_
 rintro e w' ⟨hk, hm⟩
 refine ⟨hk, ?_⟩
 unfold takeIntP
 cases hg : takeG 0 t 0 with
 | none => rw [hg] at hm; exact hm
 | some p => rw [hg] at hm; exact hm
theorem takeBool_v (w : World) (v : Value) (t : Txt) (h : Wv w v t) (ht : t.length ≤ 140737488355328) :
  Calls Tryz.prog 153 #[v] w fun e w' => Wp (fun _ => False) w w' ∧ Took w' e (takeBoolP t) := by
 obtain ⟨ao, cap, rfl⟩ := Ws.form h
 have HF := zB h
 cases t with
 | nil =>
  clear h
  go_enter Tryz.func153, Tryz.ntmps153
  go_wp2_with fail
  refine bodyPost_ret (v := .tuple #[ValA.v ⟨0, 0, []⟩, .slice none 0 0, .bool false]) (by simp [results, go_sem, ValA.v]) rfl ?_
  exact ⟨(Wp.refl _ _).alloc _, ⟨0, 0, []⟩, _, rfl⟩
 | cons c r =>
  obtain ⟨b, off, cc, e1, hblt, hc⟩ := Ws.cells (zA HF) (by simp)
  simp only [Value.slice.injEq] at e1
  obtain ⟨rfl, _, rfl⟩ := e1
  have c0 := ((((Wp.refl (fun _ => False) w).alloc (.cells #[.int .i64 0, .int .i64 0, str []] 51))).cell hblt id).trans (hc 0 (.int .u8 (num c)) rfl)
  rw [Nat.add_zero] at c0
  have hcr := num_range c
  have hroom := Ws.room h _ _ _ rfl
  have HRB := zB (rest_bytes (zA HF) (k := 1) (by simp))
  have hlen : ((c :: r).length : Int) = (r.length : Int) + 1 := by simp
  have i1 : (1 : Int) ≤ (cap : Int) := by simp at hroom; omega
  generalize hL : (c :: r).length = L at *
  have HLL := zB hL
  have i2 : (L : Int) ≤ (cap : Int) := by omega
  have i3 : (1 : Int) ≤ (L : Int) := by omega
  clear h hc hlen hroom hL
  by_cases hc1 : 1 < num c
  ·have HE : Hid (takeBoolP (c :: r) = none) := if_pos (by unfold num at hc1; omega)
   rw [zA HE]
   go_enter Tryz.func153, Tryz.ntmps153
   go_wp2_with fail
   refine bodyPost_ret (v := .tuple #[ValA.v ⟨0, 0, []⟩, .slice none 0 0, .bool false]) (by simp [results, go_sem, ValA.v]) rfl ?_
   exact ⟨(Wp.refl _ _).alloc _, ⟨0, 0, []⟩, _, rfl⟩
  ·have HE : Hid (takeBoolP (c :: r) = some (⟨2, num c, []⟩, r)) := if_neg (by unfold num at hc1; omega)
   rw [zA HE]
   have hc2 : num c ≤ 1 := by omega
   go_enter Tryz.func153, Tryz.ntmps153
   go_wp2_with fail
   go_region
   generalize (if cap = 1 then some (⟨b, off, none⟩ : Addr) else some ⟨b, off + 1, none⟩) = A at *
   go_wp2_with fail
   refine bodyPost_ret (v := .tuple #[ValA.v ⟨2, num c, []⟩, .slice A (L - 1) (cap - 1), .bool true]) (by simp [results, go_sem, ValA.v]) rfl ?_
   exact ⟨((Wp.refl _ _).alloc _).drew, _, rfl, (zA HRB).keepF (((Wp.refl _ _).alloc _).drew)⟩
theorem conv_row {w : World} {b off cap : Nat} {l : Txt} (h : Wv w (.slice (some ⟨b, off, none⟩) l.length cap) l) :
  (convert 42 9 (.slice (some ⟨b, off, none⟩) l.length cap)).run Tryz.prog w = .ok (str l) w := by
 refine conv_at w b off cap l (fun j c hc => ?_)
 obtain ⟨b', off', cc, e1, _, hh⟩ := Ws.cells h (by have := get_lt hc; omega)
 simp only [Value.slice.injEq, Option.some.injEq, Addr.mk.injEq] at e1
 obtain ⟨⟨rfl, rfl, _⟩, _, _⟩ := e1
 exact hh j _ (by rw [bs_get, hc]; rfl)
theorem first_bytes {w : World} {a : Option Addr} {cap n : Nat} {t : Txt} (h : Wv w (.slice a t.length cap) t) (hn : n ≤ t.length) : Wv w (.slice a n cap) (t.take n) := by
 have e : bs t = bs (t.take n) ++ bs (t.drop n) := by rw [← bs_append, List.take_append_drop]
 unfold Wv at *
 rw [e] at h
 rw [List.length_take, Nat.min_eq_left hn]
 exact h.first hn
def textP : Txt → Option (Txt × Txt)
 | [] => none
 | c :: r => if r.length < c.toNat then none else some (r.take c.toNat, r.drop c.toNat)
def TookP (w' : World) (x y : Value) (ok : Bool) (bk : Option Nat) : Option (Txt × Txt) → Prop
 | none => ok = false ∧ x = .slice none 0 0 ∧ y = .slice none 0 0
 | some (p, r) => ok = true ∧ (∃ b off c, x = .slice (some ⟨b, off, none⟩) p.length c ∧ some b = bk) ∧ (∃ b off c, y = .slice (some ⟨b, off, none⟩) r.length c ∧ some b = bk) ∧ Wv w' x p ∧ Wv w' y r
theorem short_v (w : World) (v : Value) (t : Txt) (h : Wv w v t) (ht : t.length ≤ 140737488355328) :
  Calls Tryz.prog 133 #[v] w fun e w' => Wp (fun _ => False) w w' ∧ ∃ x y ok, e = .returned (.tuple #[x, y, .bool ok]) ∧ TookP w' x y ok v.ownBlock (textP t) := by
 obtain ⟨ao, cap, rfl⟩ := Ws.form h
 have HF := zB h
 cases t with
 | nil =>
  clear h
  go_enter Tryz.func133, Tryz.ntmps133
  go_wp2_with fail
  go_ret3
  exact ⟨Wp.refl _ _, _, _, _, rfl, rfl, rfl, rfl⟩
 | cons c r =>
  obtain ⟨b, off, cc, e1, hblt, hc⟩ := Ws.cells (zA HF) (by simp)
  simp only [Value.slice.injEq] at e1
  obtain ⟨rfl, _, rfl⟩ := e1
  have c0 := hc 0 (.int .u8 (num c)) rfl
  rw [Nat.add_zero] at c0
  have hroom := Ws.room h _ _ _ rfl
  obtain ⟨C, hC⟩ : ∃ C, c.toNat = C := ⟨_, rfl⟩
  have hCn : num c = (C : Int) := by unfold num; omega
  rw [hCn] at c0
  have hC255 : (C : Int) ≤ 255 := by have := c.toNat_lt; omega
  have HRB1 := zB (rest_bytes (zA HF) (k := 1) (by simp))
  have HRBF : Hid (∀ k, k ≤ (c :: r).length → Wv w (.slice (if cap = k then some ⟨b, off, none⟩ else some ⟨b, off + k, none⟩) ((c :: r).length - k) (cap - k)) ((c :: r).drop k)) := fun k hk => rest_bytes (zA HF) hk
  have HLR : Hid ((c :: r).length = r.length + 1) := by simp [Hid]
  have HTK : Hid (textP (c :: r) = if r.length < C then none else some (r.take C, r.drop C)) := by show _ = _; rw [← hC]; rfl
  have i1 : (1 : Int) ≤ (cap : Int) := by have := zA HLR; omega
  have HRL : Hid (r.length = (c :: r).length - 1) := by simp [Hid]
  generalize hL : (c :: r).length = L at *
  have HLL := zB hL
  have i2 : (L : Int) ≤ (cap : Int) := by omega
  have i3 : (1 : Int) ≤ (L : Int) := by have := zA HLR; omega
  clear h hc hroom hCn hL hC
  by_cases hc3 : r.length < C
  ·have HE : Hid (textP (c :: r) = none) := by show _ = _; rw [zA HTK, if_pos hc3]
   rw [zA HE]
   have hc2' : (L : Int) < (C : Int) + 1 := by have := zA HLR; omega
   have hc3' : (L : Int) < 1 + (C : Int) := by omega
   go_enter Tryz.func133, Tryz.ntmps133
   go_wp2_with fail
   go_ret3
   exact ⟨Wp.refl _ _, _, _, _, rfl, rfl, rfl, rfl⟩
  ·have HE : Hid (textP (c :: r) = some (r.take C, r.drop C)) := by show _ = _; rw [zA HTK, if_neg hc3]
   rw [zA HE]
   have hc3' : 1 + (C : Int) ≤ (L : Int) := by have := zA HLR; omega
   have HRB2 := zB ((zA HRBF) (C + 1) (by have := zA HLR; omega))
   have hlt : (r.take C).length = C := by rw [List.length_take]; omega
   have hld : (r.drop C).length = L - (C + 1) := by rw [List.length_drop]; have := zA HLR; omega
   have HP : Hid (Wv w.drew (.slice (if cap = 1 then some ⟨b, off, none⟩ else some ⟨b, off + 1, none⟩) C (cap - 1)) (r.take C)) := by
    have h1 := zA HRB1
    simp only [List.drop_one, List.tail_cons] at h1
    rw [← zA HRL] at h1
    exact (first_bytes h1 (n := C) (by omega)).keepF ((Wp.refl _ _).drew)
   have HFX : Hid (∃ b' off' c', (Value.slice (if cap = 1 then some (⟨b, off, none⟩ : Addr) else some ⟨b, off + 1, none⟩) C (cap - 1)) = .slice (some ⟨b', off', none⟩) (r.take C).length c' ∧ some b' = (Value.slice (some ⟨b, off, none⟩) L cap).ownBlock) := by
    rw [hlt]
    by_cases h : cap = 1
    ·exact ⟨b, off, _, by rw [if_pos h], rfl⟩
    ·exact ⟨b, off + 1, _, by rw [if_neg h], rfl⟩
   have HFY : Hid (∃ b' off' c', (Value.slice (if cap = C + 1 then some (⟨b, off, none⟩ : Addr) else some ⟨b, off + (C + 1), none⟩) (L - (C + 1)) (cap - (C + 1))) = .slice (some ⟨b', off', none⟩) (r.drop C).length c' ∧ some b' = (Value.slice (some ⟨b, off, none⟩) L cap).ownBlock) := by
    rw [hld]
    by_cases h : cap = C + 1
    ·exact ⟨b, off, _, by rw [if_pos h], rfl⟩
    ·exact ⟨b, off + (C + 1), _, by rw [if_neg h], rfl⟩
   have i5 : (C : Int) + 1 ≤ (cap : Int) := by omega
   have i6 : ((C + 1 : Nat) : Int) ≤ (L : Int) := by omega
   clear hlt hld
   go_enter Tryz.func133, Tryz.ntmps133
   go_wp2_with fail
   rw [show (1 : Int) + (C : Int) = ((C + 1 : Nat) : Int) by omega]
   go_region
   generalize (if cap = 1 then some (⟨b, off, none⟩ : Addr) else some ⟨b, off + 1, none⟩) = A1 at *
   generalize (if cap = C + 1 then some (⟨b, off, none⟩ : Addr) else some ⟨b, off + (C + 1), none⟩) = A at *
   go_wp2_with fail
   go_ret3
   exact ⟨(Wp.refl _ _).drew, _, _, _, rfl, rfl, zA HFX, zA HFY, zA HP, by have h := (zA HRB2).keepF ((Wp.refl _ _).drew); simpa using h⟩
theorem nlKeeps3 (w4 : World) (b : Nat) (x y z : Value) : Wp (fun q => q = b) w4 (((w4.setCell ⟨b, 0, none⟩ x).setCell ⟨b, 1, none⟩ y).setCell ⟨b, 2, none⟩ z) :=
 Wp.setCell (F := fun q => q = b) (p := ⟨b, 2, none⟩) (Wp.setCell (F := fun q => q = b) (p := ⟨b, 1, none⟩) (Wp.setCell (F := fun q => q = b) (p := ⟨b, 0, none⟩) (Wp.refl (fun q => q = b) w4) (fun _ => rfl) x) (fun _ => rfl) y) (fun _ => rfl) z
theorem nlSet3 {w w4 : World} {t : TypeId} (hk : Wp (fun _ => False) w w4) (h : w4.heap[w.heap.size]? = some (.cells #[.int .i64 0, .int .i64 0, .string ⟨#[]⟩] t (0, 0))) (x y z : Value) {W : World} (hW : (((w4.setCell ⟨w.heap.size, 0, none⟩ x).setCell ⟨w.heap.size, 1, none⟩ y).setCell ⟨w.heap.size, 2, none⟩ z) = W) :
  Wp (fun _ => False) w W ∧ W.cell? ⟨w.heap.size, 0, none⟩ = some x ∧ W.cell? ⟨w.heap.size, 1, none⟩ = some y ∧ W.cell? ⟨w.heap.size, 2, none⟩ = some z ∧ ∀ u l, Wv w4 u l → Wv W u l := by
 subst hW
 have hb := zH (o := 2) (zH (o := 1) (zH (o := 0) h x) y) z
 refine ⟨hk.then (nlKeeps3 w4 w.heap.size x y z) (fun i hi e => by omega), ?_, ?_, ?_, fun u r hu => ?_⟩
 ·rw [zC hb]; rfl
 ·rw [zC hb]; rfl
 ·rw [zC hb]; rfl
 ·refine ⟨Ws.form hu, fun h0 => ?_, Ws.room hu⟩
  obtain ⟨b, off, cap, e, hlt, hc⟩ := Ws.cells hu h0
  have k3 := nlKeeps3 w4 w.heap.size x y z
  refine ⟨b, off, cap, e, Nat.lt_of_lt_of_le hlt k3.size, fun j q hq => ?_⟩
  have hne : b ≠ w.heap.size := by
   rintro rfl
   cases r with
   | nil => simp at h0
   | cons c r =>
    have h3 := hc 0 (.int .u8 (num c)) rfl
    rw [zC h] at h3
    have h4 := List.mem_of_getElem? (by simpa using h3)
    simp at h4
  rw [k3.cell hlt hne]
  exact hc j q hq
theorem takeBytesP_text (t : Txt) : takeBytesP t = match textP t with
  | none => none
  | some (p, r) => if 20 < p.length then none else some (⟨3, 0, p⟩, r) := by
 cases t with
 | nil => rfl
 | cons c r =>
  unfold takeBytesP textP
  by_cases h : r.length < c.toNat
  ·simp only [h, if_true]
   split <;> rfl
  ·have e : (r.take c.toNat).length = c.toNat := by rw [List.length_take]; omega
   simp only [h, if_false, e]
theorem takeBytes_v (w : World) (v : Value) (t : Txt) (h : Wv w v t) (ht : t.length ≤ 140737488355328) :
  Calls Tryz.prog 154 #[v] w fun e w' => Wp (fun _ => False) w w' ∧ Took w' e (takeBytesP t) := by
 have HK0 : Hid (Wp (fun _ => False) w (w.alloc (.cells #[.int .i64 0, .int .i64 0, .string ⟨#[]⟩] 51))) := (Wp.refl _ _).alloc _
 have HQ := zB (short_v _ v t (h.keepF (zA HK0)) ht)
 obtain ⟨ao, cap, rfl⟩ := Ws.form h
 have HR0 := zB (takeBytesP_text t)
 obtain ⟨R, HRR⟩ : ∃ R, Hid (takeBytesP t = R) := ⟨_, rfl⟩
 rw [zA HRR] at HR0 ⊢
 generalize textP t = T at *
 clear HRR
 generalize t.length = L at *
 clear h
 go_enter Tryz.func154, Tryz.ntmps154
 go_wp2_with fail
 refine (zA HQ).mono ?_
 rintro e w2 ⟨hk, x, y, ok, rfl, hT⟩
 have hB := (hk.block w.heap.size (by simp) id).trans (heap_alloc_new w (.cells #[.int .i64 0, .int .i64 0, .string ⟨#[]⟩] 51))
 have HK := zB ((zA HK0).trans hk)
 have HB := zB hB
 have z0 := zF hB 0
 have z1 := zF hB 1
 have z2 := zF hB 2
 have p0 := (zC hB 0).trans (show (#[.int .i64 0, .int .i64 0, .string ⟨#[]⟩] : Array Value)[0]? = some (.int .i64 0) from rfl)
 have p1 := (zC hB 1).trans (show (#[.int .i64 0, .int .i64 0, .string ⟨#[]⟩] : Array Value)[1]? = some (.int .i64 0) from rfl)
 have p2 := (zC hB 2).trans (show (#[.int .i64 0, .int .i64 0, .string ⟨#[]⟩] : Array Value)[2]? = some (.string ⟨#[]⟩) from rfl)
 clear HQ hk HK0 hB
 rcases T with _ | ⟨p, r⟩
 ·obtain ⟨rfl, rfl, rfl⟩ := hT
  obtain rfl : R = none := zA HR0
  go_wp2_with fail
  obtain ⟨hk9, s0, s1, s2, _⟩ := nlSet3 (zA HK) (zA HB) (.int .i64 0) (.int .i64 0) (.string ⟨#[]⟩) rfl
  refine bodyPost_ret (v := .tuple #[ValA.v ⟨0, 0, []⟩, .slice none 0 0, .bool false]) (by simp [results, go_sem, ValA.v, s0, s1, s2]) rfl ?_
  exact ⟨hk9, ⟨0, 0, []⟩, _, rfl⟩
 ·obtain ⟨rfl, ⟨b, off, c, rfl, _⟩, ⟨b2, off2, c2, rfl, _⟩, hp, hr⟩ := hT
  have HR := zB hr
  have HR1 : Hid (R = if 20 < p.length then none else some (⟨3, 0, p⟩, r)) := zA HR0
  clear HR0
  by_cases h20 : 20 < p.length
  ·obtain rfl : R = none := (zA HR1).trans (if_pos h20)
   have h20' : (20 : Int) < (p.length : Int) := by omega
   clear hp hr HR1
   generalize p.length = PL at *
   generalize r.length = RL at *
   go_wp2_with fail
   obtain ⟨hk9, s0, s1, s2, _⟩ := nlSet3 (zA HK) (zA HB) (.int .i64 0) (.int .i64 0) (.string ⟨#[]⟩) rfl
   refine bodyPost_ret (v := .tuple #[ValA.v ⟨0, 0, []⟩, .slice none 0 0, .bool false]) (by simp [results, go_sem, ValA.v, s0, s1, s2]) rfl ?_
   exact ⟨hk9, ⟨0, 0, []⟩, _, rfl⟩
  ·obtain rfl : R = some (⟨3, 0, p⟩, r) := (zA HR1).trans (if_neg h20)
   have h20' : (p.length : Int) ≤ 20 := by omega
   have hconv := conv_row hp
   have hconv2 := conv_row (hp.keepF (Wp.refl _ w2).drew)
   clear hp hr HR1
   generalize p.length = PL at *
   generalize r.length = RL at *
   go_wp2_with fail
   obtain ⟨hk9, s0, s1, s2, hby⟩ := nlSet3 (zA HK) (zA HB) (.int .i64 3) (.int .i64 0) (str p) rfl
   refine bodyPost_ret (v := .tuple #[ValA.v ⟨3, 0, p⟩, .slice (some ⟨b2, off2, none⟩) RL c2, .bool true]) (by simp [results, go_sem, ValA.v, s0, s1, s2]) rfl ?_
   exact ⟨hk9, _, rfl, hby _ _ (zA HR)⟩
theorem number_none (a : Option Addr) (cap : Nat) (w : World) : Calls Tryz.prog 148 #[.slice a 0 cap] w fun e w' => e = .returned (.int .u64 0) ∧ w' = w := by
 go_enter Tryz.func148, Tryz.ntmps148
 go_wp2
 go_loopw [3, 8] (fun n i wr => n = .int .u64 0 ∧ i = .int .i64 0 ∧ wr = w) (fun _ _ _ => 0)
 case atStart => exact ⟨rfl, rfl, rfl⟩
 case round =>
  obtain ⟨rfl, rfl, rfl⟩ := hrel
  go_wp2
  go_ret
  exact ⟨rfl, rfl⟩
theorem or_zero64 (a : Int) (h0 : 0 ≤ a) (h1 : a ≤ 255) : bits .or .u64 0 a = a := by
 show IntKind.u64.wrap ((BitVec.ofInt 64 0 ||| BitVec.ofInt 64 a).toNat : Int) = a
 rw [show BitVec.ofInt 64 0 = 0#64 from rfl, BitVec.zero_or, BitVec.toNat_ofInt, IntKind.wrap_u64]
 omega
theorem number_one (b off cap : Nat) (c : UInt8) (w : World) (hc : w.cell? ⟨b, off, none⟩ = some (.int .u8 (num c))) :
  Calls Tryz.prog 148 #[.slice (some ⟨b, off, none⟩) 1 cap] w fun e w' => e = .returned (.int .u64 (num c)) ∧ w' = w := by
 have hcr := num_range c
 have HO := zB (or_zero64 (num c) hcr.1 hcr.2)
 go_enter Tryz.func148, Tryz.ntmps148
 go_wp2
 go_loopw [3, 8] (fun n i wr => (n = .int .u64 0 ∧ i = .int .i64 0 ∧ wr = w) ∨ (n = .int .u64 (num c) ∧ i = .int .i64 1 ∧ wr = w)) (fun _ i _ => 1 - (intOf i).toNat)
 case atStart => exact Or.inl ⟨rfl, rfl, rfl⟩
 case round =>
  rcases hrel with ⟨rfl, rfl, rfl⟩ | ⟨rfl, rfl, rfl⟩
  ·go_wp2
   go_roundw
   case rel => exact Or.inr ⟨congrArg (Value.int .u64) (zA HO), rfl, trivial⟩
   case measure => simp [intOf]
  ·go_wp2
   go_ret
   exact ⟨rfl, rfl⟩
def TookM (w' : World) (x : ValA) (y : Value) (ok : Bool) : Option (ValA × Txt) → Prop
 | none => ok = false
 | some p => ok = true ∧ x = p.1 ∧ Wv w' y p.2
theorem Took.form {w' : World} {e : Ending} {o : Option (ValA × Txt)} (h : Took w' e o) : ∃ (x : ValA) (y : Value) (ok : Bool), e = .returned (.tuple #[x.v, y, .bool ok]) ∧ TookM w' x y ok o := by
 cases o with
 | none =>
  obtain ⟨x, y, rfl⟩ := h
  exact ⟨x, y, false, rfl, rfl⟩
 | some p =>
  obtain ⟨y, rfl, hb⟩ := h
  exact ⟨p.1, y, true, rfl, rfl, rfl, hb⟩
theorem TookM.took {w' : World} {o : Option (ValA × Txt)} {x : ValA} {y : Value} {ok : Bool} (h : TookM w' x y ok o) : Took w' (.returned (.tuple #[x.v, y, .bool ok])) o := by
 cases o with
 | none =>
  obtain rfl : ok = false := h
  exact ⟨x, y, rfl⟩
 | some p =>
  obtain ⟨rfl, rfl, hb⟩ := h
  exact ⟨y, rfl, hb⟩
theorem bytes_apart {w w' : World} {y : Value} {r : Txt} {B : Nat} {cs : Array Value} {t : TypeId} (h : Wv w y r) (hb : w.heap[B]? = some (.cells cs t (0, 0))) (hcs : ∀ (k : Nat) (c : Int), cs[k]? ≠ some (Value.int .u8 c)) (hk : Wp (fun q => q = B) w w') : Wv w' y r := by
 refine ⟨Ws.form h, fun h0 => ?_, Ws.room h⟩
 obtain ⟨b, off, cap, e, hlt, hc⟩ := Ws.cells h h0
 refine ⟨b, off, cap, e, Nat.lt_of_lt_of_le hlt hk.size, fun j x hx => ?_⟩
 have hne : b ≠ B := by
  rintro rfl
  cases r with
  | nil => simp at h0
  | cons c r =>
   have := hc 0 (.int .u8 (num c)) rfl
   rw [zC hb] at this
   exact hcs _ _ this
 rw [hk.cell hlt hne]
 exact hc j x hx
theorem taken_end {w w2 : World} {x : ValA} {y : Value} {ok : Bool} {o : Option (ValA × Txt)} (hk : Wp (fun _ => False) w w2) (hb : w2.heap[w.heap.size]? = some (.cells #[.int .i64 0, .int .i64 0, .string ⟨#[]⟩] 51 (0, 0))) (hm : TookM w2 x y ok o) :
  Wp (fun _ => False) w (((w2.setCell ⟨w.heap.size, 0, none⟩ (.int .i64 x.kind)).setCell ⟨w.heap.size, 1, none⟩ (.int .i64 x.n)).setCell ⟨w.heap.size, 2, none⟩ (.string ⟨x.s.toArray⟩)) ∧
  TookM (((w2.setCell ⟨w.heap.size, 0, none⟩ (.int .i64 x.kind)).setCell ⟨w.heap.size, 1, none⟩ (.int .i64 x.n)).setCell ⟨w.heap.size, 2, none⟩ (.string ⟨x.s.toArray⟩)) x y ok o ∧
  (((w2.setCell ⟨w.heap.size, 0, none⟩ (.int .i64 x.kind)).setCell ⟨w.heap.size, 1, none⟩ (.int .i64 x.n)).setCell ⟨w.heap.size, 2, none⟩ (.string ⟨x.s.toArray⟩)).cell? ⟨w.heap.size, 0, none⟩ = some (.int .i64 x.kind) ∧
  (((w2.setCell ⟨w.heap.size, 0, none⟩ (.int .i64 x.kind)).setCell ⟨w.heap.size, 1, none⟩ (.int .i64 x.n)).setCell ⟨w.heap.size, 2, none⟩ (.string ⟨x.s.toArray⟩)).cell? ⟨w.heap.size, 1, none⟩ = some (.int .i64 x.n) ∧
  (((w2.setCell ⟨w.heap.size, 0, none⟩ (.int .i64 x.kind)).setCell ⟨w.heap.size, 1, none⟩ (.int .i64 x.n)).setCell ⟨w.heap.size, 2, none⟩ (.string ⟨x.s.toArray⟩)).cell? ⟨w.heap.size, 2, none⟩ = some (.string ⟨x.s.toArray⟩) := by
 have hb3 := zH (o := 2) (zH (o := 1) (zH (o := 0) hb (.int .i64 x.kind)) (.int .i64 x.n)) (.string ⟨x.s.toArray⟩)
 have hs : ∀ (a : World) (o : Nat) (v : Value), Wp (fun q => q = w.heap.size) w2 a → Wp (fun q => q = w.heap.size) w2 (a.setCell ⟨w.heap.size, o, none⟩ v) := fun a o v h => h.setCell (fun _ => rfl) v
 have hk3 := hs _ 2 (.string ⟨x.s.toArray⟩) (hs _ 1 (.int .i64 x.n) (hs _ 0 (.int .i64 x.kind) (Wp.refl _ w2)))
 refine ⟨hk.narrowS hk3 (fun i e => by omega), ?_, ?_, ?_, ?_⟩
 ·cases o with
  | none => exact hm
  | some p =>
   refine ⟨hm.1, hm.2.1, bytes_apart hm.2.2 hb (fun k c => ?_) hk3⟩
   match k with
   | 0 => simp
   | 1 => simp
   | 2 => simp
   | k + 3 => simp
 ·rw [zC hb3]; rfl
 ·rw [zC hb3]; rfl
 ·rw [zC hb3]; rfl
theorem takeValue_v (ty : Int) (w : World) (v : Value) (t : Txt) (h : Wv w v t) (ht : t.length ≤ 140737488355328) :
  Calls Tryz.prog 149 #[.int .i64 ty, v] w fun e w' => Wp (fun _ => False) w w' ∧ Took w' e (takeP ty t) := by
 obtain ⟨ao, cap, rfl⟩ := Ws.form h
 obtain ⟨HB, hb, hbc⟩ := boxed w #[.int .i64 0, .int .i64 0, .string ⟨#[]⟩] 51
 have HF := zB (h.keepF (zA HB))
 have HN := zB (heap_alloc_new w (.cells #[.int .i64 0, .int .i64 0, .string ⟨#[]⟩] 51))
 clear h hbc
 by_cases h1 : ty = 1
 ·subst h1
  have HE : Hid (takeP 1 t = takeIntP t) := rfl
  have HQ := zB (takeInt_took _ _ t (zA HF) ht)
  rw [zA HE]
  go_enter Tryz.func149, Tryz.ntmps149
  go_wp2_with fail
  refine (zA HQ).mono ?_
  rintro e w2 ⟨hk, hT⟩
  obtain ⟨x, y, ok, rfl, hm⟩ := hT.form
  have hblk : w2.heap[w.heap.size]? = some (.cells #[.int .i64 0, .int .i64 0, .string ⟨#[]⟩] 51 (0, 0)) := (hk.block _ hb id).trans (zA HN)
  have c0 := zC hblk 0
  have c1 := zC hblk 1
  have c2 := zC hblk 2
  have f0 := zF hblk 0
  have f1 := zF hblk 1
  have f2 := zF hblk 2
  have HEND := zB (taken_end ((zA HB).trans hk) hblk hm)
  clear hblk hm hk hT HQ
  unfold ValA.v
  go_wp2_with fail
  obtain ⟨hK, hM, e0, e1, e2⟩ := zA HEND
  generalize ((w2.setCell ⟨w.heap.size, 0, none⟩ (.int .i64 x.kind)).setCell ⟨w.heap.size, 1, none⟩ (.int .i64 x.n)).setCell ⟨w.heap.size, 2, none⟩ (.string ⟨x.s.toArray⟩) = w3 at *
  refine bodyPost_ret (v := .tuple #[x.v, y, .bool ok]) (by simp [results, go_sem, ValA.v, e0, e1, e2]) rfl ?_
  exact ⟨hK, hM.took⟩
 by_cases h2 : ty = 2
 ·subst h2
  have HE : Hid (takeP 2 t = takeBoolP t) := rfl
  have HQ := zB (takeBool_v _ _ t (zA HF) ht)
  rw [zA HE]
  clear h1
  go_enter Tryz.func149, Tryz.ntmps149
  go_wp2_with fail
  refine (zA HQ).mono ?_
  rintro e w2 ⟨hk, hT⟩
  obtain ⟨x, y, ok, rfl, hm⟩ := hT.form
  have hblk : w2.heap[w.heap.size]? = some (.cells #[.int .i64 0, .int .i64 0, .string ⟨#[]⟩] 51 (0, 0)) := (hk.block _ hb id).trans (zA HN)
  have c0 := zC hblk 0
  have c1 := zC hblk 1
  have c2 := zC hblk 2
  have f0 := zF hblk 0
  have f1 := zF hblk 1
  have f2 := zF hblk 2
  have HEND := zB (taken_end ((zA HB).trans hk) hblk hm)
  clear hblk hm hk hT HQ
  unfold ValA.v
  go_wp2_with fail
  obtain ⟨hK, hM, e0, e1, e2⟩ := zA HEND
  generalize ((w2.setCell ⟨w.heap.size, 0, none⟩ (.int .i64 x.kind)).setCell ⟨w.heap.size, 1, none⟩ (.int .i64 x.n)).setCell ⟨w.heap.size, 2, none⟩ (.string ⟨x.s.toArray⟩) = w3 at *
  refine bodyPost_ret (v := .tuple #[x.v, y, .bool ok]) (by simp [results, go_sem, ValA.v, e0, e1, e2]) rfl ?_
  exact ⟨hK, hM.took⟩
 ·have HE : Hid (takeP ty t = takeBytesP t) := by show _ = _; unfold takeP; rw [if_neg h1, if_neg h2]
  have HQ := zB (takeBytes_v _ _ t (zA HF) ht)
  rw [zA HE]
  have h1' : (ty == 1) = false := beq_eq_false_iff_ne.2 h1
  have h2' : (ty == 2) = false := beq_eq_false_iff_ne.2 h2
  clear h1 h2
  go_enter Tryz.func149, Tryz.ntmps149
  go_wp2_with fail
  refine (zA HQ).mono ?_
  rintro e w2 ⟨hk, hT⟩
  obtain ⟨x, y, ok, rfl, hm⟩ := hT.form
  have hblk : w2.heap[w.heap.size]? = some (.cells #[.int .i64 0, .int .i64 0, .string ⟨#[]⟩] 51 (0, 0)) := (hk.block _ hb id).trans (zA HN)
  have c0 := zC hblk 0
  have c1 := zC hblk 1
  have c2 := zC hblk 2
  have f0 := zF hblk 0
  have f1 := zF hblk 1
  have f2 := zF hblk 2
  have HEND := zB (taken_end ((zA HB).trans hk) hblk hm)
  clear hblk hm hk hT HQ
  unfold ValA.v
  go_wp2_with fail
  obtain ⟨hK, hM, e0, e1, e2⟩ := zA HEND
  generalize ((w2.setCell ⟨w.heap.size, 0, none⟩ (.int .i64 x.kind)).setCell ⟨w.heap.size, 1, none⟩ (.int .i64 x.n)).setCell ⟨w.heap.size, 2, none⟩ (.string ⟨x.s.toArray⟩) = w3 at *
  refine bodyPost_ret (v := .tuple #[x.v, y, .bool ok]) (by simp [results, go_sem, ValA.v, e0, e1, e2]) rfl ?_
  exact ⟨hK, hM.took⟩
def head0 (l : List Wq) (t : Txt) : Nat := if 0 < headB l then (t.getD 0 0).toNat else 0
theorem backB_range (u : Nat) (h : u < 18446744073709551616) : -9223372036854775808 ≤ backB u ∧ backB u ≤ 9223372036854775807 := by
 unfold backB
 split <;> omega
end Go.Proofs.YtbdlcaamanhapaaGreatDoor
