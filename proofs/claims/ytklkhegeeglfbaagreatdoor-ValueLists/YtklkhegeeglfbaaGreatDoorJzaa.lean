import Derived.Test.YtklkhegeeglfbaaGreatDoorJi
namespace Go.Proofs.YtklkhegeeglfbaaGreatDoor
open Go.RowKit Go.Maps

/-- What Decode answers. -/
def decodeV (l : List FieldA) (t : Txt) : List ValA × Int := if schemaB l = false then ([], 60) else match decodeP l t with
  | none => ([], 62)
  | some r => (r, 0)

set_option maxRecDepth 100000 in
set_option maxHeartbeats 2000000 in
theorem val_decode (l : List FieldA) (v : Value) (t : Txt) (u : Value) (w : World) (hT : Types w) (h : FldsAt w v l) (hr : BytesAt w u t) (htl : t.length ≤ 140737488355328) (hform : (u = .slice none 0 0 ∧ t = []) ∨ ∃ b off cap, u = .slice (some ⟨b, off, none⟩) t.length cap) :
    Calls Tryz.prog 15 #[.agg #[v], u] w fun e w' => ∃ r', e = .returned (.tuple #[r', .int .i64 (decodeV l t).2]) ∧ w'.ownsRow w.heap.size 40 3 r' (decodeV l t).1.length (vcs (decodeV l t).1) ∧ Keeps (fun _ => False) w w' := by
  obtain ⟨ao, cap, rfl⟩ := RowAt.form h
  obtain ⟨HB, hb, hbc⟩ := boxed w #[.slice ao l.length cap] 26
  have hp := hbc 0 (.slice ao l.length cap) rfl
  have HF := hide (h.keepF (unhide HB))
  have HU := hide (hr.keepF (unhide HB))
  have HS := hide (checkSchema_v l _ _ (hT.keepF (unhide HB)) (unhide HF))
  have HFM := hide hform
  have HV : Hid (decodeV l t = if schemaB l = false then (([], 60) : List ValA × Int) else match decodeP l t with | none => (([], 62) : List ValA × Int) | some r => (r, 0)) := rfl
  generalize decodeV l t = D at *
  clear hbc h hr hT hform
  obtain ⟨bo, cbp, rfl⟩ := RowAt.form (unhide HU)
  go_enter Tryz.func15, Tryz.ntmps15
  go_wp2_with fail
  refine (unhide HS).mono ?_
  rintro e w2 ⟨rfl, hk2⟩
  have hp2 := (hk2.cell (o := 0) hb id).trans hp
  have HF2 := hide ((unhide HF).keepF hk2)
  have HU2 := hide ((unhide HU).keepF hk2)
  have HB2 := hide ((unhide HB).trans hk2)
  clear HS HF HU HB hk2 hp hb
  generalize w.alloc (.cells #[.slice ao l.length cap] 26) = w1 at *
  rcases errS_eq l with ⟨hs, he⟩ | ⟨hs, he⟩
  · rw [he]
    have HQ := hide (decode_v l _ t _ _ (unhide HF2) (unhide HU2) (schemaB_len hs).2 htl (unhide HFM))
    rw [hs, if_neg (by simp)] at HV
    clear hs he
    go_wp2_with fail
    refine (unhide HQ).mono ?_
    rintro e w3 ⟨hk3, v', ok, rfl, hD⟩
    have HK3 := hide ((unhide HB2).trans hk3)
    have hsz := (unhide HB2).size
    clear HQ hk3
    cases hdp : decodeP l t with
    | none =>
      rw [hdp] at hD HV
      obtain rfl : ok = false := hD
      obtain rfl : D = ([], 62) := unhide HV
      go_wp2_with fail
      go_ret2
      exact ⟨_, rfl, World.ownsRow_nil _ w.heap.size 40 3, unhide HK3⟩
    | some r =>
      rw [hdp] at hD HV
      obtain ⟨rfl, ho⟩ := hD
      have HO := hide (ownsRow_lower ho hsz)
      obtain rfl : D = (r, 0) := unhide HV
      clear ho
      go_wp2_with fail
      go_ret2
      exact ⟨_, rfl, unhide HO, unhide HK3⟩
  · rw [he]
    rw [hs, if_pos rfl] at HV
    obtain rfl : D = ([], 60) := unhide HV
    clear hs he
    go_wp2_with fail
    go_ret2
    exact ⟨_, rfl, World.ownsRow_nil _ w.heap.size 40 3, unhide HB2⟩

end Go.Proofs.YtklkhegeeglfbaaGreatDoor
namespace Go.Proofs.YtklkhegeeglfbaaGreatDoor
open Go.RowKit Go.Maps

theorem tn_back (U : Nat) (h : U < 18446744073709551616) : tn (backB U) = U := by
  unfold tn backB turned
  split <;> split <;> omega
theorem back_tn (n : Int) : backB (tn n) = n := by
  unfold tn backB turned
  split <;> split <;> omega
theorem ofNat_lt {v : Nat} (h : v < 256) : (UInt8.ofNat v).toNat = v := by rw [UInt8.toNat_ofNat']; omega
theorem ofNat_toNat (c : UInt8) : UInt8.ofNat c.toNat = c := by simp
theorem pow9 : (128 : Nat) ^ 9 = 9223372036854775808 := by decide

theorem takeG_groups : ∀ (v k U : Nat) (e : Txt), k ≤ 9 → U + 128 ^ k * v < 18446744073709551616 → (k = 0 ∨ v ≠ 0) → takeG k (groups v ++ e) U = some (U + 128 ^ k * v, e) := by
  intro v
  induction v using Nat.strongRecOn with
  | ind v ih =>
    intro k U e hk hlt hv
    have h9 : k = 9 → v ≤ 1 := by
      rintro rfl
      rw [pow9] at hlt
      omega
    by_cases h : v < 128
    · rw [groups_small h]
      simp only [List.singleton_append, takeG]
      rw [ofNat_lt (by omega), if_neg (by omega), if_pos h, if_neg (by omega), Nat.mod_eq_of_lt h]
    · rw [groups_big (by omega)]
      simp only [List.cons_append, takeG]
      rw [ofNat_lt (by omega), if_neg (by omega), if_neg (by omega)]
      have hk9 : k < 9 := by
        rcases Nat.lt_or_ge k 9 with h' | h'
        · exact h'
        · have := h9 (by omega); omega
      have hm : (v % 128 + 128) % 128 = v % 128 := by omega
      have hdm : 128 ^ k * v = 128 ^ k * (v % 128) + 128 ^ (k + 1) * (v / 128) := by
        rw [Nat.pow_succ, Nat.mul_assoc, ← Nat.mul_add]
        congr 1
        omega
      rw [hm, ih (v / 128) (by omega) (k + 1) _ e (by omega) (by rw [hdm] at hlt; omega) (Or.inr (by omega)), hdm, Nat.add_assoc]

theorem takeG_sound : ∀ (t : Txt) (k U U' : Nat) (e : Txt), k ≤ 9 → U < 128 ^ k → takeG k t U = some (U', e) → ∃ v, U' = U + 128 ^ k * v ∧ t = groups v ++ e ∧ (k = 0 ∨ v ≠ 0) ∧ U' < 18446744073709551616
  | [], k, U, U', e, _, _, h => by simp [takeG] at h
  | c :: t, k, U, U', e, hk, hU, h => by
    have hc := c.toNat_lt
    rw [takeG] at h
    split at h
    · cases h
    · rename_i h9
      have hb := group_lt U k c hU hk (by omega)
      split at h
      · rename_i hlt
        split at h
        · cases h
        · rename_i hz
          simp only [Option.some.injEq, Prod.mk.injEq] at h
          obtain ⟨rfl, rfl⟩ := h
          refine ⟨c.toNat, by rw [Nat.mod_eq_of_lt hlt], ?_, by omega, hb.2⟩
          rw [groups_small hlt, ofNat_toNat]
          rfl
      · rename_i hge
        have hk9 : k < 9 := by
          rcases Nat.lt_or_ge k 9 with h' | h'
          · exact h'
          · exfalso; exact h9 ⟨by omega, by omega⟩
        obtain ⟨v, rfl, rfl, hv, hlt⟩ := takeG_sound t (k + 1) _ _ _ (by omega) hb.1 h
        have hv0 : v ≠ 0 := by omega
        refine ⟨c.toNat % 128 + 128 * v, ?_, ?_, Or.inr (by omega), hlt⟩
        · rw [Nat.pow_succ, Nat.mul_add, Nat.mul_assoc, Nat.add_assoc]
        · rw [groups_big (u := c.toNat % 128 + 128 * v) (by omega)]
          have e1 : (c.toNat % 128 + 128 * v) % 128 + 128 = c.toNat := by omega
          have e2 : (c.toNat % 128 + 128 * v) / 128 = v := by omega
          rw [e1, e2, ofNat_toNat]
          rfl

theorem takeG_app : ∀ (t : Txt) (k U U' : Nat) (e x : Txt), takeG k t U = some (U', e) → takeG k (t ++ x) U = some (U', e ++ x)
  | [], k, U, U', e, x, h => by simp [takeG] at h
  | c :: t, k, U, U', e, x, h => by
    rw [List.cons_append, takeG]
    rw [takeG] at h
    split at h
    · cases h
    · rename_i h9
      rw [if_neg h9]
      split at h
      · rename_i hlt
        rw [if_pos hlt]
        split at h
        · cases h
        · rename_i hz
          rw [if_neg hz]
          simp only [Option.some.injEq, Prod.mk.injEq] at h ⊢
          exact ⟨h.1, by rw [h.2]⟩
      · rename_i hge
        rw [if_neg hge]
        exact takeG_app t _ _ _ _ _ h

/-- What taking answers, said without looking. -/
theorem takeP_sound {f : FieldA} {t e : Txt} {x : ValA} (hf : f.type = 1 ∨ f.type = 2 ∨ f.type = 3) (h : takeP f.type t = some (x, e)) : x.kind = f.type ∧ fitsB f x = true ∧ (-9223372036854775808 ≤ x.n ∧ x.n ≤ 9223372036854775807) ∧ t = enc1 x ++ e := by
  rcases hf with hf | hf | hf
  · rw [hf] at h
    unfold takeP takeIntP at h
    simp only [if_true] at h
    cases hg : takeG 0 t 0 with
    | none => rw [hg] at h; cases h
    | some p =>
      rw [hg] at h
      simp only [Option.map_some, Option.some.injEq, Prod.mk.injEq] at h
      obtain ⟨rfl, rfl⟩ := h
      obtain ⟨v, hv, ht, _, hlt⟩ := takeG_sound t 0 0 p.1 p.2 (by omega) (by simp) hg
      simp only [Nat.pow_zero, Nat.one_mul, Nat.zero_add] at hv
      subst hv
      refine ⟨hf.symm, ?_, backB_range _ hlt, ?_⟩
      · simp [fitsB, hf]
      · rw [ht]
        simp [enc1, tn_back _ hlt]
  · rw [hf] at h
    unfold takeP at h
    rw [if_neg (by decide), if_pos rfl] at h
    cases t with
    | nil => cases h
    | cons c r =>
      simp only [takeBoolP] at h
      split at h
      · cases h
      · rename_i hc
        simp only [Option.some.injEq, Prod.mk.injEq] at h
        obtain ⟨rfl, rfl⟩ := h
        have h01 : num c = 0 ∨ num c = 1 := by unfold num; omega
        refine ⟨hf.symm, ?_, by have := num_range c; simp only; omega, ?_⟩
        · rcases h01 with h | h <;> simp [fitsB, hf, h]
        · simp [enc1, num]
  · rw [hf] at h
    unfold takeP at h
    rw [if_neg (by decide), if_neg (by decide)] at h
    cases t with
    | nil => cases h
    | cons c r =>
      simp only [takeBytesP] at h
      split at h
      · cases h
      · split at h
        · cases h
        · rename_i hc hl
          simp only [Option.some.injEq, Prod.mk.injEq] at h
          obtain ⟨rfl, rfl⟩ := h
          have hlen : (r.take c.toNat).length = c.toNat := by rw [List.length_take]; omega
          refine ⟨hf.symm, ?_, by simp, ?_⟩
          · simp [fitsB, hf]; omega
          · have : enc1 ⟨3, 0, r.take c.toNat⟩ = UInt8.ofNat (r.take c.toNat).length :: r.take c.toNat := enc1_bytes rfl
            rw [this, hlen, ofNat_toNat, List.cons_append, List.take_append_drop]
theorem fits_type {f : FieldA} {x : ValA} (h : fitsB f x = true) (hk : x.kind ≠ 0) : x.kind = f.type := by
  unfold fitsB at h
  rw [if_neg hk] at h
  split at h
  · cases h
  · rename_i hn
    exact Classical.not_not.1 hn
theorem takeP_enc {f : FieldA} {x : ValA} (h : fitsB f x = true) (hk : x.kind ≠ 0) (hI : -9223372036854775808 ≤ x.n ∧ x.n ≤ 9223372036854775807) (e : Txt) : takeP f.type (enc1 x ++ e) = some (x, e) := by
  have ht := fits_type h hk
  obtain ⟨k, n, s⟩ := x
  simp only at hk ht hI
  have hf := h
  unfold fitsB at hf
  simp only at hf
  rw [if_neg hk, if_neg (by simp [ht])] at hf
  rcases fitsB_kind h with h1 | h1 | ⟨h1, hb⟩ | ⟨h1, hb⟩
  · exact absurd h1 hk
  · simp only at h1
    subst h1
    have hs : s = [] := by simpa using hf
    subst hs
    have hle := tn_le n hI.1 hI.2
    unfold takeP takeIntP
    rw [← ht, if_pos rfl, enc1_int rfl]
    have := takeG_groups (tn n) 0 0 e (by omega) (by simp; omega) (Or.inl rfl)
    simp only at this ⊢
    rw [this]
    simp [back_tn]
  · simp only at h1 hb
    subst h1
    simp only [show ¬ (2 : Int) = 1 by decide, if_false, if_true] at hf
    have hs : s = [] := by simp at hf; exact hf.2
    subst hs
    unfold takeP
    rw [← ht, if_neg (by decide), if_pos rfl, enc1_bool rfl]
    have hn : (UInt8.ofNat n.toNat).toNat = n.toNat := ofNat_lt (by omega)
    simp only [List.singleton_append, takeBoolP]
    rw [hn, if_neg (by omega)]
    simp only [num, hn, Option.some.injEq, Prod.mk.injEq, and_true]
    rw [show ((n.toNat : Nat) : Int) = n by omega]
  · simp only at h1 hb
    subst h1
    simp only [show ¬ (3 : Int) = 1 by decide, show ¬ (3 : Int) = 2 by decide, if_false, if_true] at hf
    have hn0 : n = 0 := by simp at hf; exact hf.1
    subst hn0
    unfold takeP
    rw [← ht, if_neg (by decide), if_neg (by decide), enc1_bytes rfl]
    have hn : (UInt8.ofNat s.length).toNat = s.length := ofNat_lt (by omega)
    simp only [List.cons_append, takeBytesP]
    rw [hn, if_neg (by omega), if_neg (by simp)]
    simp
theorem takeP_app {ty : Int} {t e : Txt} {x : ValA} (h : takeP ty t = some (x, e)) (y : Txt) : takeP ty (t ++ y) = some (x, e ++ y) := by
  unfold takeP at *
  split at h
  · rename_i h1
    rw [if_pos h1]
    unfold takeIntP at *
    cases hg : takeG 0 t 0 with
    | none => rw [hg] at h; cases h
    | some p =>
      rw [hg] at h
      rw [takeG_app t 0 0 p.1 p.2 y hg]
      simp only [Option.map_some, Option.some.injEq, Prod.mk.injEq] at h ⊢
      exact ⟨h.1, by rw [h.2]⟩
  · rename_i h1
    rw [if_neg h1]
    split at h
    · rename_i h2
      rw [if_pos h2]
      cases t with
      | nil => cases h
      | cons c r =>
        simp only [List.cons_append, takeBoolP] at *
        split at h
        · cases h
        · rename_i hc
          rw [if_neg hc]
          simp only [Option.some.injEq, Prod.mk.injEq] at h ⊢
          exact ⟨h.1, by rw [h.2]⟩
    · rename_i h2
      rw [if_neg h2]
      cases t with
      | nil => cases h
      | cons c r =>
        simp only [List.cons_append, takeBytesP] at *
        split at h
        · cases h
        · split at h
          · cases h
          · rename_i hc hl
            rw [if_neg hc, if_neg (by rw [List.length_append]; omega)]
            simp only [Option.some.injEq, Prod.mk.injEq] at h ⊢
            refine ⟨?_, ?_⟩
            · rw [← h.1, List.take_append_of_le_length (by omega)]
            · rw [← h.2, List.drop_append_of_le_length (by omega)]

end Go.Proofs.YtklkhegeeglfbaaGreatDoor
namespace Go.Proofs.YtklkhegeeglfbaaGreatDoor
open Go.RowKit Go.Maps

theorem bitsOf_cons (f : FieldA) (x : ValA) (z : List (FieldA × ValA)) : bitsOf ((f, x) :: z) = if f.opt then decide (x.kind ≠ 0) :: bitsOf z else bitsOf z := by
  unfold bitsOf
  cases h : f.opt <;> simp [h]
theorem fits_absent {f : FieldA} {x : ValA} (h : fitsB f x = true) (hk : x.kind = 0) : f.opt = true ∧ x = ⟨0, 0, []⟩ := by
  obtain ⟨k, n, s⟩ := x
  simp only at hk
  subst hk
  simp [fitsB] at h
  simp [h]

theorem decP_enc : ∀ (l : List FieldA) (r : List ValA) (m : Nat) (e : Txt), r.length = l.length → fitAll l r = true → InR r → decP l (headN (bitsOf (l.zip r)) + 2 ^ (bitsOf (l.zip r)).length * m) (r.flatMap enc1 ++ e) = some (r, m, e)
  | [], r, m, e, hl, _, _ => by
    have : r = [] := List.eq_nil_of_length_eq_zero (by simpa using hl)
    subst this
    simp [bitsOf, headN, decP]
  | f :: l, [], m, e, hl, _, _ => by simp at hl
  | f :: l, x :: r, m, e, hl, hf, hI => by
    have hfx : fitsB f x = true := by
      unfold fitAll at hf
      simp only [List.zip_cons_cons, List.all_cons, Bool.and_eq_true] at hf
      exact hf.1
    have hfr : fitAll l r = true := by
      unfold fitAll at hf ⊢
      simp only [List.zip_cons_cons, List.all_cons, Bool.and_eq_true] at hf
      exact hf.2
    have hIx := hI x (List.mem_cons_self ..)
    have hIr : InR r := fun y hy => hI y (List.mem_cons_of_mem _ hy)
    have ih := fun m e => decP_enc l r m e (by simpa using hl) hfr hIr
    simp only [List.zip_cons_cons, bitsOf_cons, List.flatMap_cons, List.append_assoc]
    by_cases hk : x.kind = 0
    · obtain ⟨ho, rfl⟩ := fits_absent hfx hk
      rw [if_pos ho, enc1_none rfl, List.nil_append]
      simp only [headN, List.length_cons]
      have e1 : (if decide ((⟨0, 0, []⟩ : ValA).kind ≠ 0) = true then 1 else 0) + 2 * headN (bitsOf (l.zip r)) + 2 ^ ((bitsOf (l.zip r)).length + 1) * m = 2 * (headN (bitsOf (l.zip r)) + 2 ^ (bitsOf (l.zip r)).length * m) := by
        rw [Nat.pow_succ, Nat.mul_add, Nat.mul_comm (2 ^ _) 2, Nat.mul_assoc]
        simp
      rw [e1, decP, if_pos ⟨ho, by omega⟩, show 2 * (headN (bitsOf (l.zip r)) + 2 ^ (bitsOf (l.zip r)).length * m) / 2 = headN (bitsOf (l.zip r)) + 2 ^ (bitsOf (l.zip r)).length * m by omega, ih m e]
      rfl
    · have htk := fun e => takeP_enc hfx hk hIx e
      cases ho : f.opt with
      | true =>
        rw [if_pos rfl]
        simp only [headN, List.length_cons]
        have e1 : (if decide (x.kind ≠ 0) = true then 1 else 0) + 2 * headN (bitsOf (l.zip r)) + 2 ^ ((bitsOf (l.zip r)).length + 1) * m = 2 * (headN (bitsOf (l.zip r)) + 2 ^ (bitsOf (l.zip r)).length * m) + 1 := by
          rw [Nat.pow_succ, Nat.mul_add, Nat.mul_comm (2 ^ _) 2, Nat.mul_assoc, if_pos (by simp [hk])]
          omega
        rw [e1, decP, if_neg (by omega), htk]
        simp only [Option.bind_some, ho, if_true]
        rw [show (2 * (headN (bitsOf (l.zip r)) + 2 ^ (bitsOf (l.zip r)).length * m) + 1) / 2 = headN (bitsOf (l.zip r)) + 2 ^ (bitsOf (l.zip r)).length * m by omega, ih m e]
        rfl
      | false =>
        rw [if_neg (by simp), decP, if_neg (by simp [ho]), htk]
        simp only [Option.bind_some, ho]
        have := ih m e
        simp only [Bool.false_eq_true, if_false]
        rw [this]
        rfl

theorem decP_sound : ∀ (l : List FieldA) (m : Nat) (t : Txt) (r : List ValA) (m' : Nat) (e : Txt), l.all fieldOK = true → decP l m t = some (r, m', e) → r.length = l.length ∧ fitAll l r = true ∧ InR r ∧ t = r.flatMap enc1 ++ e ∧ m = headN (bitsOf (l.zip r)) + 2 ^ (bitsOf (l.zip r)).length * m'
  | [], m, t, r, m', e, _, h => by
    simp only [decP, Option.some.injEq, Prod.mk.injEq] at h
    obtain ⟨rfl, rfl, rfl⟩ := h
    simp [fitAll, InR, bitsOf, headN]
  | f :: l, m, t, r, m', e, hok, h => by
    simp only [List.all_cons, Bool.and_eq_true] at hok
    rw [decP] at h
    split at h
    · rename_i ho
      cases hd : decP l (m / 2) t with
      | none => rw [hd] at h; cases h
      | some q =>
        rw [hd] at h
        simp only [Option.map_some, Option.some.injEq, Prod.mk.injEq] at h
        obtain ⟨rfl, h2⟩ := h
        obtain ⟨h1, h3, h4, h5, h6⟩ := decP_sound l (m / 2) t q.1 m' e hok.2 (by rw [hd, ← h2])
        refine ⟨by simp [h1], ?_, ?_, ?_, ?_⟩
        · unfold fitAll at *
          simp only [List.zip_cons_cons, List.all_cons, Bool.and_eq_true]
          exact ⟨by simp [fitsB, ho.1], h3⟩
        · intro y hy
          simp only [List.mem_cons] at hy
          rcases hy with rfl | hy
          · simp
          · exact h4 y hy
        · simp only [List.flatMap_cons]
          rw [enc1_none rfl]
          exact h5
        · simp only [List.zip_cons_cons, bitsOf_cons]
          rw [if_pos ho.1]
          simp only [headN, List.length_cons, Nat.pow_succ]
          rw [Nat.mul_comm (2 ^ _) 2, Nat.mul_assoc]
          simp
          omega
    · rename_i ho
      cases htk : takeP f.type t with
      | none => rw [htk] at h; cases h
      | some p =>
        rw [htk] at h
        simp only [Option.bind_some] at h
        cases hd : decP l (if f.opt then m / 2 else m) p.2 with
        | none => rw [hd] at h; cases h
        | some q =>
          rw [hd] at h
          simp only [Option.map_some, Option.some.injEq, Prod.mk.injEq] at h
          obtain ⟨rfl, h2⟩ := h
          obtain ⟨h1, h3, h4, h5, h6⟩ := decP_sound l _ p.2 q.1 m' e hok.2 (by rw [hd, ← h2])
          obtain ⟨g1, g2, g3, g4⟩ := takeP_sound (type_of hok.1) (show takeP f.type t = some (p.1, p.2) from htk)
          have hk0 : p.1.kind ≠ 0 := by rw [g1]; have := type_of hok.1; omega
          refine ⟨by simp [h1], ?_, ?_, ?_, ?_⟩
          · unfold fitAll at *
            simp only [List.zip_cons_cons, List.all_cons, Bool.and_eq_true]
            exact ⟨g2, h3⟩
          · intro y hy
            simp only [List.mem_cons] at hy
            rcases hy with rfl | hy
            · exact g3
            · exact h4 y hy
          · simp only [List.flatMap_cons, List.append_assoc]
            rw [← h5]
            exact g4
          · simp only [List.zip_cons_cons, bitsOf_cons]
            cases hfo : f.opt with
            | true =>
              rw [hfo] at h6
              rw [if_pos rfl]
              simp only [headN, List.length_cons, Nat.pow_succ]
              rw [Nat.mul_comm (2 ^ _) 2, Nat.mul_assoc, if_pos (by simp [hk0])]
              simp only [if_true] at h6
              have hm1 : m % 2 = 1 := by
                rcases Nat.mod_two_eq_zero_or_one m with h | h
                · exact absurd ⟨hfo, by omega⟩ ho
                · exact h
              omega
            | false =>
              rw [hfo] at h6
              rw [if_neg (by simp)]
              simpa using h6

theorem decP_app : ∀ (l : List FieldA) (m : Nat) (t : Txt) (r : List ValA) (m' : Nat) (e x : Txt), decP l m t = some (r, m', e) → decP l m (t ++ x) = some (r, m', e ++ x)
  | [], m, t, r, m', e, x, h => by
    simp only [decP, Option.some.injEq, Prod.mk.injEq] at h ⊢
    exact ⟨h.1, h.2.1, by rw [h.2.2]⟩
  | f :: l, m, t, r, m', e, x, h => by
    rw [decP] at h ⊢
    split at h
    · rename_i ho
      rw [if_pos ho]
      cases hd : decP l (m / 2) t with
      | none => rw [hd] at h; cases h
      | some q =>
        rw [hd] at h
        simp only [Option.map_some, Option.some.injEq, Prod.mk.injEq] at h
        rw [decP_app l (m / 2) t q.1 m' e x (by rw [hd, ← h.2])]
        simp [h.1]
    · rename_i ho
      rw [if_neg ho]
      cases htk : takeP f.type t with
      | none => rw [htk] at h; cases h
      | some p =>
        rw [htk] at h
        rw [takeP_app (show takeP f.type t = some (p.1, p.2) from htk) x]
        simp only [Option.bind_some] at h ⊢
        cases hd : decP l (if f.opt then m / 2 else m) p.2 with
        | none => rw [hd] at h; cases h
        | some q =>
          rw [hd] at h
          simp only [Option.map_some, Option.some.injEq, Prod.mk.injEq] at h
          rw [decP_app l _ p.2 q.1 m' e x (by rw [hd, ← h.2])]
          simp [h.1]

end Go.Proofs.YtklkhegeeglfbaaGreatDoor
namespace Go.Proofs.YtklkhegeeglfbaaGreatDoor
open Go.RowKit Go.Maps

theorem mod6 (n : Int) : (if n.tmod 6 < 0 then n.tmod 6 + 6 else n.tmod 6) = n % 6 := by
  rw [Int.tmod_eq_emod]
  split <;> split <;> simp at * <;> omega

set_option maxRecDepth 100000 in
theorem mod_v (n : Int) (w : World) : Calls Tryz.prog 6 #[.int .i64 n, .int .i64 6] w fun e w' => e = .returned (.int .i64 (n % 6)) ∧ w' = w := by
  have HM := hide (mod6 n)
  have hb : -6 < n.tmod 6 ∧ n.tmod 6 < 6 := by
    rw [Int.tmod_eq_emod]
    split <;> simp at * <;> omega
  go_enter Tryz.func6, Tryz.ntmps6
  go_wp2
  all_goals (rename_i h; go_ret; refine ⟨ret_int ?_, rfl⟩; have := unhide HM; split at this <;> omega)

def fittedB (f : FieldA) (x : ValA) : ValA :=
  if f.opt = true ∧ x.kind = 0 then ⟨0, 0, []⟩ else if f.type = 1 then ⟨1, x.n, []⟩ else if f.type = 2 then ⟨2, x.n % 2, []⟩ else ⟨3, 0, x.s.take 20⟩

set_option maxRecDepth 100000 in
set_option maxHeartbeats 2000000 in
theorem fitted_v (f : FieldA) (x : ValA) (w : World) : Calls Tryz.prog 30 #[f.v, x.v] w fun e w' => e = .returned (fittedB f x).v ∧ Keeps (fun _ => False) w w' := by
  obtain ⟨nm, t, o⟩ := f
  obtain ⟨k, n, s⟩ := x
  unfold FieldA.v ValA.v
  simp only at *
  have hk : Keeps (fun _ => False) w w := Keeps.refl _ _
  by_cases h : o = true ∧ k = 0
  · obtain ⟨rfl, rfl⟩ := h
    have HE : Hid (fittedB ⟨nm, t, true⟩ ⟨0, n, s⟩ = ⟨0, 0, []⟩) := rfl
    go_enter Tryz.func30, Tryz.ntmps30
    go_wp2
    refine bodyPost_ret (v := ValA.v ⟨0, 0, []⟩) (by simp [results, go_sem, ValA.v]) rfl ?_
    rw [unhide HE]
    exact ⟨rfl, ((hk.alloc _).alloc _).alloc _⟩
  · have hg : (o && (k == 0)) = false := by
      apply Bool.eq_false_iff.2
      simp only [ne_eq, Bool.and_eq_true, beq_iff_eq]
      exact h
    have hcase : o = false ∨ (o = true ∧ (k == 0) = false) := by
      cases o with
      | false => exact Or.inl rfl
      | true => exact Or.inr ⟨rfl, by simpa using hg⟩
    by_cases h1' : t = 1
    · subst h1'
      have HE : Hid (fittedB ⟨nm, 1, o⟩ ⟨k, n, s⟩ = ⟨1, n, []⟩) := by show _ = _; unfold fittedB; rw [if_neg h, if_pos rfl]
      rw [unhide HE]
      clear h hg
      rcases hcase with rfl | ⟨rfl, hk0⟩
      all_goals
        go_enter Tryz.func30, Tryz.ntmps30
        go_wp2
        refine bodyPost_ret (v := ValA.v ⟨1, n, []⟩) (by simp [results, go_sem, ValA.v]) rfl ?_
        exact ⟨rfl, ((hk.alloc _).alloc _).alloc _⟩
    by_cases h2' : t = 2
    · subst h2'
      have HE : Hid (fittedB ⟨nm, 2, o⟩ ⟨k, n, s⟩ = ⟨2, n % 2, []⟩) := by show _ = _; unfold fittedB; rw [if_neg h, if_neg h1', if_pos rfl]
      rw [unhide HE]
      clear h hg
      have e2 : wrap64 ((IntKind.u64.wrap n).tmod 2) = n % 2 := by
        rw [IntKind.wrap_u64, Int.tmod_eq_emod_of_nonneg (by omega)]
        unfold wrap64
        omega
      rcases hcase with rfl | ⟨rfl, hk0⟩
      all_goals
        go_enter Tryz.func30, Tryz.ntmps30
        go_wp2
        refine bodyPost_ret (v := ValA.v ⟨2, n % 2, []⟩) (by simp [results, go_sem, ValA.v, e2]) rfl ?_
        exact ⟨rfl, ((hk.alloc _).alloc _).alloc _⟩
    · have HE : Hid (fittedB ⟨nm, t, o⟩ ⟨k, n, s⟩ = ⟨3, 0, s.take 20⟩) := by show _ = _; unfold fittedB; rw [if_neg h, if_neg h1', if_neg h2']
      rw [unhide HE]
      have h1b : (t == 1) = false := beq_eq_false_iff_ne.2 h1'
      have h2b : (t == 2) = false := beq_eq_false_iff_ne.2 h2'
      clear h hg h1' h2'
      by_cases hs : (20 : Int) < (s.length : Int)
      · have HX : Hid ((ByteArray.mk s.toArray).extract 0 20 = ⟨(s.take 20).toArray⟩) := by show _ = _; rw [ext_str]; rfl
        rcases hcase with rfl | ⟨rfl, hk0⟩
        all_goals
          go_enter Tryz.func30, Tryz.ntmps30
          go_wp2
          rw [unhide HX]
          refine bodyPost_ret (v := ValA.v ⟨3, 0, s.take 20⟩) (by simp [results, go_sem, ValA.v]) rfl ?_
          exact ⟨rfl, ((hk.alloc _).alloc _).alloc _⟩
      · have HX : Hid (s.take 20 = s) := List.take_of_length_le (by omega)
        rw [unhide HX]
        rcases hcase with rfl | ⟨rfl, hk0⟩
        all_goals
          go_enter Tryz.func30, Tryz.ntmps30
          go_wp2
          refine bodyPost_ret (v := ValA.v ⟨3, 0, s⟩) (by simp [results, go_sem, ValA.v]) rfl ?_
          exact ⟨rfl, ((hk.alloc _).alloc _).alloc _⟩

end Go.Proofs.YtklkhegeeglfbaaGreatDoor
