import Derived.Test.YtcicaifioghciaaGreatDoorJzak
import Derived.Test.YtcicaifioghciaaGreatDoorJzad
import Derived.Test.YtcicaifioghciaaGreatDoorJzag
namespace Go.Proofs.YtcicaifioghciaaGreatDoor
open Go.RowKit Go.Maps

theorem headN_8 {l : List FieldA} {r : List ValA} (hl : l.length ≤ 8) (hr : r.length = l.length) : headN (bitsOf (l.zip r)) < 256 := by
  have h1 := headN_lt (bitsOf (l.zip r))
  have h2 : (bitsOf (l.zip r)).length ≤ 8 := by rw [bitsOf_length l r hr]; exact Nat.le_trans (opts_le l) hl
  have := pow2_le h2
  omega
theorem decP_of_enc {l : List FieldA} {r : List ValA} (hs : schemaB l = true) (he : errR l r = 0) (hI : InR r) : (encB l r).length ≥ headB l ∧ decP l (head0 l (encB l r)) ((encB l r).drop (headB l)) = some (r, 0, []) := by
  obtain ⟨_, hr, hf⟩ := errR_zero he
  have hl := (schemaB_len hs).2
  have hd := decP_enc l r 0 [] hr hf hI
  rw [Nat.mul_zero, Nat.add_zero, List.append_nil] at hd
  rcases headT_cases l r hr hl with ⟨hH, hT⟩ | ⟨hH, hT⟩
  · have hb0 : bitsOf (l.zip r) = [] := by
      unfold headT at hT
      split at hT
      · cases hT
      · rename_i h; exact List.eq_nil_of_length_eq_zero (by omega)
    have e : encB l r = r.flatMap enc1 := by unfold encB; rw [hT]; rfl
    have h0 : head0 l (encB l r) = headN (bitsOf (l.zip r)) := by unfold head0; rw [hH, hb0]; rfl
    rw [h0, hH, e]
    exact ⟨by omega, hd⟩
  · have e : encB l r = UInt8.ofNat (headN (bitsOf (l.zip r))) :: r.flatMap enc1 := by unfold encB; rw [hT]; rfl
    have h0 : head0 l (encB l r) = headN (bitsOf (l.zip r)) := by
      unfold head0
      rw [hH, e]
      simp only [Nat.zero_lt_one, if_true]
      exact ofNat_lt (headN_8 hl hr)
    rw [h0, hH, e]
    exact ⟨by simp, hd⟩
theorem decodeP_enc {l : List FieldA} {r : List ValA} (hs : schemaB l = true) (he : errR l r = 0) (hI : InR r) : decodeP l (encB l r) = some r := by
  obtain ⟨h1, h2⟩ := decP_of_enc hs he hI
  unfold decodeP
  rw [if_neg (by omega), h2]
  simp
theorem decodeP_some {l : List FieldA} {t : Txt} {r : List ValA} (h : decodeP l t = some r) : headB l ≤ t.length ∧ decP l (head0 l t) (t.drop (headB l)) = some (r, 0, []) := by
  unfold decodeP at h
  split at h
  · cases h
  · rename_i hl
    cases hd : decP l (head0 l t) (t.drop (headB l)) with
    | none => rw [hd] at h; cases h
    | some q =>
      rw [hd] at h
      simp only [Option.bind_some] at h
      split at h
      · rename_i hq
        simp only [Option.some.injEq] at h
        obtain ⟨q1, q2, q3⟩ := q
        simp only at hq h
        refine ⟨by omega, ?_⟩
        rw [hq.1, hq.2, h]
      · cases h
theorem errR_of {l : List FieldA} {r : List ValA} (hs : schemaB l = true) (hr : r.length = l.length) (hf : fitAll l r = true) : errR l r = 0 := by
  unfold errR recB
  rw [hs, if_pos rfl, decide_eq_true hr, hf]
  rfl
theorem decodeP_sound {l : List FieldA} {t : Txt} {r : List ValA} (hs : schemaB l = true) (h : decodeP l t = some r) : errR l r = 0 ∧ InR r ∧ encB l r = t := by
  obtain ⟨hH, hd⟩ := decodeP_some h
  obtain ⟨h1, h2, h3, h4, h5⟩ := decP_sound l _ _ r 0 [] (schemaB_ok hs) hd
  rw [Nat.mul_zero, Nat.add_zero] at h5
  rw [List.append_nil] at h4
  refine ⟨errR_of hs h1 h2, h3, ?_⟩
  unfold encB
  rcases headT_cases l r h1 (schemaB_len hs).2 with ⟨hh, hT⟩ | ⟨hh, hT⟩
  · rw [hT, ← h4, hh]
    rfl
  · rw [hT, ← h5]
    rw [hh] at hH h4
    cases t with
    | nil => simp at hH
    | cons c t' =>
      have : head0 l (c :: t') = c.toNat := by unfold head0; rw [hh]; rfl
      rw [this, ofNat_toNat, ← h4]
      rfl
theorem head0_app {l : List FieldA} {t x : Txt} (h : headB l ≤ t.length) : head0 l (t ++ x) = head0 l t := by
  unfold head0
  split
  · rename_i hp
    cases t with
    | nil => simp at h; omega
    | cons c t => rfl
  · rfl
theorem decodeP_more {l : List FieldA} {r : List ValA} (hs : schemaB l = true) (he : errR l r = 0) (hI : InR r) (x : UInt8) : decodeP l (encB l r ++ [x]) = none := by
  obtain ⟨h1, h2⟩ := decP_of_enc hs he hI
  have h3 := decP_app _ _ _ _ _ _ [x] h2
  unfold decodeP
  rw [if_neg (by rw [List.length_append]; omega), head0_app h1, List.drop_append_of_le_length h1, h3]
  simp
theorem decodeP_less {l : List FieldA} {r : List ValA} (hs : schemaB l = true) (he : errR l r = 0) (hI : InR r) {n : Nat} (hn : n < (encB l r).length) : decodeP l ((encB l r).take n) = none := by
  obtain ⟨h1, h2⟩ := decP_of_enc hs he hI
  cases hd : decodeP l ((encB l r).take n) with
  | none => rfl
  | some r' =>
    exfalso
    obtain ⟨hH, hd'⟩ := decodeP_some hd
    have h3 := decP_app _ _ _ _ _ _ ((encB l r).drop n) hd'
    have e1 : head0 l ((encB l r).take n) = head0 l (encB l r) := by
      have := head0_app (l := l) (t := (encB l r).take n) (x := (encB l r).drop n) hH
      rw [List.take_append_drop] at this
      exact this.symm
    rw [e1, ← List.drop_append_of_le_length hH, List.take_append_drop, h2] at h3
    simp only [Option.some.injEq, Prod.mk.injEq, List.nil_append] at h3
    have := congrArg List.length h3.2.2
    simp at this
    omega

/-- Schemas as Shaped makes them. -/
structure ShapeOK (L : List FieldA) (W : Int) : Prop where
  len : L.length ≤ 8
  fld : ∀ (j : Nat) (f : FieldA), L[j]? = some f → f.name = [102, UInt8.ofNat (97 + j)] ∧ (f.type = 1 ∨ f.type = 2 ∨ f.type = 3)
  wid : W = 1 + wides L
  le : W ≤ 64
end Go.Proofs.YtcicaifioghciaaGreatDoor
namespace Go.Proofs.YtcicaifioghciaaGreatDoor
open Go.RowKit Go.Maps

/-- How many bytes there are up to the first group that no other follows; 0: no such group. -/
def endG : Txt → Nat
  | [] => 0
  | c :: r => if c.toNat < 128 then 1 else if endG r = 0 then 0 else endG r + 1
theorem endG_le : ∀ t : Txt, endG t ≤ t.length
  | [] => by simp [endG]
  | c :: r => by
    have := endG_le r
    rw [endG]
    simp only [List.length_cons]
    repeat' split
    all_goals omega
theorem endG_groups : ∀ (v : Nat) (e : Txt), endG (groups v ++ e) = (groups v).length := by
  intro v
  induction v using Nat.strongRecOn with
  | ind v ih =>
    intro e
    by_cases h : v < 128
    · rw [groups_small h]
      simp only [List.singleton_append, endG, List.length_singleton]
      rw [ofNat_lt (by omega), if_pos h]
    · rw [groups_big (by omega)]
      simp only [List.cons_append, endG, List.length_cons]
      have hp : 0 < (groups (v / 128)).length := by
        by_cases hg : v / 128 < 128
        · rw [groups_small hg]; simp
        · rw [groups_big (by omega)]; simp
      rw [ofNat_lt (by omega), if_neg (by omega), ih (v / 128) (by omega) e, if_neg (by omega)]
theorem decodeP_int (s : Txt) : decodeP intS s = (takeG 0 s 0).bind fun p => if p.2 = [] then some [⟨1, backB p.1, []⟩] else none := by
  have hh : headB intS = 0 := by decide
  have h0 : head0 intS s = 0 := by unfold head0; rw [hh]; simp
  have hd : s.drop 0 = s := rfl
  have ho : opts intS = 0 := by decide
  unfold decodeP
  rw [hh, h0, hd, if_neg (by omega)]
  simp only [intS, decP]
  cases hg : takeG 0 s 0 with
  | none => simp [takeP, takeIntP, hg]
  | some p =>
    obtain ⟨U, r⟩ := p
    cases r <;> simp [takeP, takeIntP, hg]
theorem decV_int (s : Txt) : decodeV intS s = match (takeG 0 s 0).bind (fun p => if p.2 = [] then some ([⟨1, backB p.1, []⟩] : List ValA) else none) with
    | none => ([], 62)
    | some r => (r, 0) := by
  unfold decodeV
  rw [intS_ok, decodeP_int]
  rfl
theorem int_some {t r : Txt} {U : Nat} (h : takeG 0 t 0 = some (U, r)) : decodeV intS (t.take (endG t)) = ([⟨1, backB U, []⟩], 0) ∧ t.drop (endG t) = r ∧ -9223372036854775808 ≤ backB U ∧ backB U ≤ 9223372036854775807 := by
  obtain ⟨v, hv, ht, _, hU⟩ := takeG_sound t 0 0 U r (by omega) (by simp) h
  simp at hv
  subst hv
  subst ht
  rw [endG_groups, List.take_left, List.drop_left, decV_int]
  have := takeG_groups U 0 0 [] (by omega) (by simp; omega) (Or.inl rfl)
  simp at this
  rw [this]
  have h1 := backB_range U hU
  exact ⟨rfl, rfl, h1⟩
theorem int_none {t : Txt} (h : takeG 0 t 0 = none) : decodeV intS (t.take (endG t)) = ([], 62) := by
  rw [decV_int]
  cases hg : takeG 0 (t.take (endG t)) 0 with
  | none => rfl
  | some p =>
    obtain ⟨U, r⟩ := p
    have := takeG_app _ _ _ _ _ (t.drop (endG t)) hg
    rw [List.take_append_drop, h] at this
    cases this
theorem endG_drop {t : Txt} {k : Nat} {c : UInt8} (h : t[k]? = some c) : endG (t.drop k) = if c.toNat < 128 then 1 else if endG (t.drop (k + 1)) = 0 then 0 else endG (t.drop (k + 1)) + 1 := by
  obtain ⟨hk, hx⟩ := List.getElem?_eq_some_iff.1 h
  rw [List.drop_eq_getElem_cons hk, hx, endG]

theorem lastGroup_v (c : UInt8) (w : World) : Calls Tryz.prog 81 #[.int .u8 (num c)] w fun e w' => e = .returned (.bool (decide (num c < 128))) ∧ w' = w := by
  go_enter Tryz.func81, Tryz.ntmps81
  go_wp2
  all_goals (go_ret; refine ⟨ret_bool ?_, rfl⟩; simp_all)

set_option maxRecDepth 100000 in
set_option maxHeartbeats 1000000 in
theorem indexFunc_v (t : Txt) (v : Value) (w : World) (h : BytesAt w v t) (ht : t.length ≤ 4096) :
    Calls Tryz.prog 80 #[v, .func (.func 81) #[] #[]] w fun e w' => e = .returned (.int .i64 ((endG t : Int) - 1)) ∧ w' = w := by
  obtain ⟨ao, cap, rfl⟩ := RowAt.form h
  have HV := hide h
  have HL := hide (endG_le t)
  clear h
  go_enter Tryz.func80, Tryz.ntmps80
  go_wp2_with fail
  go_loopw [8] (fun i wr => ∃ k : Nat, k ≤ t.length ∧ i = .int .i64 k ∧ Hid (endG t = if endG (t.drop k) = 0 then 0 else endG (t.drop k) + k) ∧ wr = w) (fun i _ => t.length - (intOf i).toNat)
  case atStart => exact ⟨0, Nat.zero_le _, rfl, by show _ = _; simp, rfl⟩
  case round =>
    obtain ⟨k, hk, rfl, HS, rfl⟩ := hrel
    by_cases hlt : k < t.length
    · obtain ⟨x, hx⟩ : ∃ x, t[k]? = some x := ⟨_, List.getElem?_eq_getElem hlt⟩
      obtain ⟨b, off, c, e, hbl, hc⟩ := (unhide HV).cells (by omega)
      simp at e
      obtain ⟨rfl, rfl⟩ := e
      have c0 := hc k x hx
      have HD := hide (endG_drop hx)
      have HQ := hide (lastGroup_v x wr)
      have i2 : (k : Int) < (t.length : Int) := by omega
      have i0' : (0 : Int) ≤ (k : Int) := by omega
      clear hc hx
      go_wp2_with fail
      refine (unhide HQ).mono ?_
      rintro e w2 ⟨rfl, rfl⟩
      by_cases hf : num x < 128
      · rw [decide_eq_true hf]
        have HE : Hid ((k : Int) = (endG t : Int) - 1) := by
          have h1 := unhide HS
          have h2 := unhide HD
          rw [if_pos (by unfold num at hf; omega)] at h2
          rw [h2] at h1
          simp at h1
          show _ = _
          omega
        clear hf HQ
        go_wp2_with fail
        go_ret
        exact ⟨ret_int (unhide HE), rfl⟩
      · rw [decide_eq_false hf]
        have HE : Hid (endG t = if endG (t.drop (k + 1)) = 0 then 0 else endG (t.drop (k + 1)) + (k + 1)) := by
          have h1 := unhide HS
          have h2 := unhide HD
          rw [if_neg (by unfold num at hf; omega)] at h2
          show _ = _
          rw [h1, h2]
          repeat' split
          all_goals omega
        clear hf HQ
        go_wp2_with fail
        go_roundw
        case rel => exact ⟨k + 1, by omega, by go_num, HE, by trivial⟩
        case measure => simp [intOf]; omega
    · obtain rfl : k = t.length := by omega
      have i2 : ¬ (t.length : Int) < (t.length : Int) := by omega
      have HE : Hid ((-1 : Int) = (endG t : Int) - 1) := by
        have h1 := unhide HS
        rw [List.drop_length] at h1
        simp [endG] at h1
        show _ = _
        omega
      clear hlt
      go_wp2_with fail
      go_ret
      exact ⟨ret_int (unhide HE), rfl⟩

end Go.Proofs.YtcicaifioghciaaGreatDoor
namespace Go.Proofs.YtcicaifioghciaaGreatDoor
open Go.RowKit Go.Maps

/-- What a taking's three answers tell. -/
def TookI (w' : World) (n : Int) (y : Value) (ok : Bool) (bk : Option Nat) : Option (Int × Txt) → Prop
  | none => ok = false
  | some (m, r) => ok = true ∧ n = m ∧ BytesAt w' y r ∧ y.ownBlock = bk
def TookS (w' : World) (s : Txt) (y : Value) (ok : Bool) (bk : Option Nat) : Option (Txt × Txt) → Prop
  | none => ok = false
  | some (m, r) => ok = true ∧ s = m ∧ BytesAt w' y r ∧ y.ownBlock = bk
def byteP : Txt → Option (Int × Txt)
  | [] => none
  | c :: r => some (num c, r)
def intP (t : Txt) : Option (Int × Txt) := (takeG 0 t 0).map fun p => (backB p.1, p.2)

set_option maxRecDepth 100000 in
set_option maxHeartbeats 1000000 in
theorem takeByte_v (w : World) (v : Value) (t : Txt) (h : BytesAt w v t) (ht : t.length ≤ 4096) :
    Calls Tryz.prog 57 #[v] w fun e w' => Keeps (fun _ => False) w w' ∧ ∃ n y ok, e = .returned (.tuple #[.int .i64 n, y, .bool ok]) ∧ TookI w' n y ok v.ownBlock (byteP t) := by
  obtain ⟨ao, cap, rfl⟩ := RowAt.form h
  have HF := hide h
  cases t with
  | nil =>
    clear h
    go_enter Tryz.func57, Tryz.ntmps57
    go_wp2_with fail
    go_ret3
    exact ⟨Keeps.refl _ _, _, _, _, rfl, rfl⟩
  | cons c r =>
    obtain ⟨b, off, cc, e1, hblt, hc⟩ := RowAt.cells (unhide HF) (by simp)
    simp only [Value.slice.injEq] at e1
    obtain ⟨rfl, _, rfl⟩ := e1
    have c0 := hc 0 (.int .u8 (num c)) rfl
    rw [Nat.add_zero] at c0
    have hcr := num_range c
    have hroom := RowAt.room h _ _ _ rfl
    have HRB := hide (rest_bytes (unhide HF) (k := 1) (by simp))
    have hlen : ((c :: r).length : Int) = (r.length : Int) + 1 := by simp
    have i1 : (1 : Int) ≤ (cap : Int) := by simp at hroom; omega
    generalize hL : (c :: r).length = L at *
    have HLL := hide hL
    have i2 : (L : Int) ≤ (cap : Int) := by omega
    have i3 : (1 : Int) ≤ (L : Int) := by omega
    clear h hc hlen hroom hL
    go_enter Tryz.func57, Tryz.ntmps57
    go_wp2_with fail
    go_region
    have HAB : Hid ((Value.slice (if cap = 1 then some (⟨b, off, none⟩ : Addr) else some ⟨b, off + 1, none⟩) (L - 1) (cap - 1)).ownBlock = some b) := by show _ = _; split <;> rfl
    generalize (if cap = 1 then some (⟨b, off, none⟩ : Addr) else some ⟨b, off + 1, none⟩) = A at *
    go_wp2_with fail
    go_ret3
    exact ⟨(Keeps.refl _ _).drew, _, _, _, rfl, rfl, rfl, (unhide HRB).keepF ((Keeps.refl _ _).drew), unhide HAB⟩

set_option maxRecDepth 100000 in
set_option maxHeartbeats 2000000 in
theorem takeText_v (w : World) (v : Value) (t : Txt) (h : BytesAt w v t) (ht : t.length ≤ 4096) :
    Calls Tryz.prog 56 #[v] w fun e w' => Keeps (fun _ => False) w w' ∧ ∃ s y ok, e = .returned (.tuple #[str s, y, .bool ok]) ∧ TookS w' s y ok v.ownBlock (textP t) := by
  have HQ := hide (short_v w v t h (by omega))
  obtain ⟨ao, cap, rfl⟩ := RowAt.form h
  generalize textP t = T at *
  generalize t.length = L at *
  clear h
  go_enter Tryz.func56, Tryz.ntmps56
  go_wp2_with fail
  refine (unhide HQ).mono ?_
  rintro e w2 ⟨hk, x, y, ok, rfl, hT⟩
  have HK := hide hk
  clear HQ hk
  rcases T with _ | ⟨p, r⟩
  · obtain ⟨rfl, rfl, rfl⟩ := hT
    have hconv : (convert 29 9 (.slice none 0 0)).run Tryz.prog w2 = .ok (str []) w2 := by rfl
    go_wp2_with fail
    go_ret3
    exact ⟨unhide HK, [], _, _, rfl, rfl⟩
  · obtain ⟨rfl, ⟨b, off, c, rfl, _⟩, ⟨b2, off2, c2, rfl, hbk⟩, hp, hr⟩ := hT
    have HR := hide hr
    have HBK := hide hbk
    have hconv := conv_row hp
    clear hp hr hbk
    generalize p.length = PL at *
    generalize r.length = RL at *
    go_wp2_with fail
    go_ret3
    exact ⟨unhide HK, p, _, _, rfl, rfl, rfl, unhide HR, unhide HBK⟩

end Go.Proofs.YtcicaifioghciaaGreatDoor
namespace Go.Proofs.YtcicaifioghciaaGreatDoor
open Go.RowKit Go.Maps

set_option maxRecDepth 100000 in
set_option maxHeartbeats 2000000 in
theorem codeInt_v (w : World) (b off cap : Nat) (t : Txt) (hT : Types w) (h : BytesAt w (.slice (some ⟨b, off, none⟩) t.length cap) t) (ht : t.length ≤ 4096) :
    Calls Tryz.prog 55 #[.slice (some ⟨b, off, none⟩) t.length cap] w fun e w' => Keeps (fun _ => False) w w' ∧ ∃ n y ok, e = .returned (.tuple #[.int .i64 n, y, .bool ok]) ∧ TookI w' n y ok (some b) (intP t) := by
  have HF := hide h
  have HT := hide hT
  have hroom := RowAt.room h _ _ _ rfl
  have HQ := hide (indexFunc_v t _ w h ht)
  have hle := endG_le t
  have HRB := hide (rest_bytes h (k := endG t) hle)
  have HFB := hide (first_bytes h (n := endG t) hle)
  have HI : Hid (intP t = (takeG 0 t 0).map fun p => (backB p.1, p.2)) := rfl
  have HN : Hid (takeG 0 t 0 = none → decodeV intS (t.take (endG t)) = ([], 62)) := int_none
  have HS : Hid (∀ U r, takeG 0 t 0 = some (U, r) → decodeV intS (t.take (endG t)) = ([⟨1, backB U, []⟩], 0) ∧ t.drop (endG t) = r ∧ -9223372036854775808 ≤ backB U ∧ backB U ≤ 9223372036854775807) := fun U r => int_some
  have HTL : Hid ((t.take (endG t)).length = endG t) := by show _ = _; rw [List.length_take]; omega
  clear h hT
  generalize endG t = E at *
  have i1 : (E : Int) ≤ (cap : Int) := by omega
  have i2 : (E : Int) ≤ (t.length : Int) := by omega
  have i3 : (t.length : Int) ≤ (cap : Int) := by omega
  have i4 : (0 : Int) ≤ (E : Int) := by omega
  go_enter Tryz.func55, Tryz.ntmps55
  go_wp2_with fail
  refine (unhide HQ).mono ?_
  rintro e w2 ⟨rfl, rfl⟩
  have HSC := fun w3 => hide (intSchema_v w3)
  go_wp2_with fail
  rw [show (1 : Int) + ((E : Int) - 1) = (E : Int) by omega]
  go_region_with (first
    | (go_at_call 66; refine (unhide (HSC _)).mono ?_; rintro e w4 ⟨sv, rfl, hsf, hk4⟩)
    | (go_at_call 82; refine (val_decode intS sv (t.take E) (.slice (some ⟨b, off, none⟩) E cap) w4 (((unhide HT).keepF (Keeps.refl _ w2).drew).keepF hk4) hsf (by have h := ((unhide HFB).keepF (Keeps.refl _ w2).drew).keepF hk4; exact h) (by have := unhide HTL; omega) (Or.inr ⟨b, off, cap, by rw [unhide HTL]⟩)).mono ?_; rintro e w5 ⟨r5, rfl, ho5, hk5⟩))
  have HK5 := hide (((Keeps.refl (fun _ => False) w2).drew.trans hk4).trans hk5)
  have HW5 := hide ho5
  clear HQ HSC hsf hk4 ho5 hk5
  cases hg : takeG 0 t 0 with
  | none =>
    have hd := (unhide HN) hg
    have he := unhide HI
    rw [hg] at he
    simp only [Option.map_none] at he
    rw [hd] at HW5 ⊢
    have HE0 := hide he
    simp only at HW5 ⊢
    clear hg hd he HI HN HS
    go_wp2_with fail
    go_ret3
    rw [unhide HE0]
    exact ⟨unhide HK5, _, _, _, rfl, rfl⟩
  | some p =>
    obtain ⟨U, r⟩ := p
    obtain ⟨hd, hr, hu0, hu1⟩ := (unhide HS) U r hg
    have he := unhide HI
    rw [hg] at he
    simp only [Option.map_some] at he
    rw [hd] at HW5 ⊢
    have HE0 := hide he
    simp only at HW5 ⊢
    rw [hr] at HRB
    clear hg hd he hr HI HN HS
    obtain ⟨g5, cap5, rfl, hg51, hg52⟩ := (unhide HW5).form (by simp)
    obtain ⟨b6, off6, cap6, e6, _, hc6⟩ := (rowAt_own (unhide HW5)).cells (by simp)
    simp at e6
    obtain ⟨⟨rfl, rfl⟩, rfl⟩ := e6
    have q1 := hc6 1 (.int .i64 (backB U)) rfl
    rw [Nat.zero_add] at q1
    have HRB5 := hide ((unhide HRB).keepF (unhide HK5))
    clear hc6 HRB
    simp only [List.length_singleton]
    generalize backB U = n at *
    go_wp2_with fail
    go_region
    have HAB : Hid ((Value.slice (if cap = E then some (⟨b, off, none⟩ : Addr) else some ⟨b, off + E, none⟩) (t.length - E) (cap - E)).ownBlock = some b) := by show _ = _; split <;> rfl
    generalize (if cap = E then some (⟨b, off, none⟩ : Addr) else some ⟨b, off + E, none⟩) = A at *
    go_wp2_with fail
    go_ret3
    rw [unhide HE0]
    exact ⟨(unhide HK5).drew, _, _, _, rfl, rfl, rfl, (unhide HRB5).keepF (Keeps.refl _ _).drew, unhide HAB⟩

end Go.Proofs.YtcicaifioghciaaGreatDoor
namespace Go.Proofs.YtcicaifioghciaaGreatDoor
open Go.RowKit Go.Maps

def TookC (w' : World) (x : ValA) (y : Value) (ok : Bool) (bk : Nat) : Option (ValA × Txt) → Prop
  | none => ok = false
  | some (i, r) => ok = true ∧ x = i ∧ BytesAt w' y r ∧ y.ownBlock = some bk
theorem keeps_set3 (w4 : World) (b : Nat) (x y z : Value) : Keeps (fun q => q = b) w4 (((w4.setCell ⟨b, 0, none⟩ x).setCell ⟨b, 1, none⟩ y).setCell ⟨b, 2, none⟩ z) :=
  Keeps.setCell (F := fun q => q = b) (p := ⟨b, 2, none⟩) (Keeps.setCell (F := fun q => q = b) (p := ⟨b, 1, none⟩) (Keeps.setCell (F := fun q => q = b) (p := ⟨b, 0, none⟩) (Keeps.refl (fun q => q = b) w4) (fun _ => rfl) x) (fun _ => rfl) y) (fun _ => rfl) z
theorem keeps_set1 (w4 : World) (b o : Nat) (x : Value) : Keeps (fun q => q = b) w4 (w4.setCell ⟨b, o, none⟩ x) :=
  Keeps.setCell (F := fun q => q = b) (p := ⟨b, o, none⟩) (Keeps.refl (fun q => q = b) w4) (fun _ => rfl) x
theorem set3 {w4 : World} {b : Nat} {c0 c1 c2 : Value} {t : TypeId} (h : w4.heap[b]? = some (.cells #[c0, c1, c2] t (0, 0))) (x y z : Value) :
    (((w4.setCell ⟨b, 0, none⟩ x).setCell ⟨b, 1, none⟩ y).setCell ⟨b, 2, none⟩ z).cell? ⟨b, 0, none⟩ = some x ∧ (((w4.setCell ⟨b, 0, none⟩ x).setCell ⟨b, 1, none⟩ y).setCell ⟨b, 2, none⟩ z).cell? ⟨b, 1, none⟩ = some y ∧ (((w4.setCell ⟨b, 0, none⟩ x).setCell ⟨b, 1, none⟩ y).setCell ⟨b, 2, none⟩ z).cell? ⟨b, 2, none⟩ = some z := by
  have hb := heap_setCell_at (o := 2) (heap_setCell_at (o := 1) (heap_setCell_at (o := 0) h x) y) z
  refine ⟨?_, ?_, ?_⟩
  · rw [cell_of_blk hb]; rfl
  · rw [cell_of_blk hb]; rfl
  · rw [cell_of_blk hb]; rfl
/-- A block that is new to w may be written. -/
theorem Keeps.fresh {w w4 w5 : World} {b : Nat} (h : Keeps (fun _ => False) w w4) (hb : w.heap.size ≤ b) (k : Keeps (fun q => q = b) w4 w5) : Keeps (fun _ => False) w w5 :=
  h.then k (fun i hi e => by omega)

set_option maxRecDepth 100000 in
set_option maxHeartbeats 4000000 in
theorem take_bad (w : World) (b off cap : Nat) (c : UInt8) (r : Txt) (m : Nat) (hm : num c = m) (hO : Ops w) (hT : Types w) (h : BytesAt w (.slice (some ⟨b, off, none⟩) (c :: r).length cap) (c :: r)) (ht : (c :: r).length ≤ 4096) (ho : opdB (m : Int) = -1) :
    Calls Tryz.prog 35 #[.slice (some ⟨b, off, none⟩) (c :: r).length cap] w fun e w' => Keeps (fun _ => False) w w' ∧ ∃ x y ok, e = .returned (.tuple #[ValA.v x, y, .bool ok]) ∧ TookC w' x y ok b none := by
  obtain ⟨b', off', cc, e1, hblt, hc⟩ := RowAt.cells h (by simp)
  simp only [Value.slice.injEq, Option.some.injEq, Addr.mk.injEq] at e1
  obtain ⟨⟨rfl, rfl, _⟩, _, rfl⟩ := e1
  have c0 := (((Keeps.refl (fun _ => False) w).alloc (.cells #[.int .i64 0, .int .i64 0, .string ⟨#[]⟩] 51)).cell hblt id).trans (hc 0 (.int .u8 (num c)) rfl)
  rw [Nat.add_zero, hm] at c0
  have hcr := num_range c
  have hroom := RowAt.room h _ _ _ rfl
  have HRB := hide (rest_bytes h (k := 1) (by simp))
  have hlen : ((c :: r).length : Int) = (r.length : Int) + 1 := by simp
  have i1 : (1 : Int) ≤ (cap : Int) := by simp at hroom; omega
  have m255 : (m : Int) ≤ 255 := by omega
  have m0 : (0 : Int) ≤ (m : Int) := by omega
  generalize hL : (c :: r).length = L at *
  have HLL := hide hL
  have i2 : (L : Int) ≤ (cap : Int) := by omega
  have i3 : (1 : Int) ≤ (L : Int) := by omega
  have HRL : Hid (L - 1 = r.length) := by show _ = _; omega
  clear h hc hlen hroom hL
  obtain ⟨HX, hxb, hxc⟩ := boxed w #[.int .i64 (m : Int), .int .i64 0, .string ⟨#[]⟩] 51
  have HO := hide (hO.keepF (unhide HX))
  have HT := hide (hT.keepF (unhide HX))
  have HQ := hide (isOperation_v (m : Int) (w.alloc (.cells #[.int .i64 (m : Int), .int .i64 0, .string ⟨#[]⟩] 51)))
  have f0 := hxc 0 (.int .i64 (m : Int)) rfl
  have f1 := hxc 1 (.int .i64 0) rfl
  have f2 := hxc 2 (.string ⟨#[]⟩) rfl
  have hHB := heap_alloc_new w (.cells #[.int .i64 (m : Int), .int .i64 0, .string ⟨#[]⟩] 51)
  have HHB := hide hHB
  clear hxc hO hT hHB
  rw [decide_eq_false (by simpa using ho)] at HQ
  clear ho
  go_enter Tryz.func35, Tryz.ntmps35
  go_wp2_with fail
  refine (unhide HQ).mono ?_
  rintro e w2 ⟨rfl, rfl⟩
  go_wp2_with fail
  refine bodyPost_ret (v := .tuple #[ValA.v ⟨0, 0, []⟩, .slice none 0 0, .bool false]) (by simp [results, go_sem, ValA.v]) rfl ?_
  exact ⟨(Keeps.refl _ _).alloc _, ⟨0, 0, []⟩, _, _, rfl, rfl⟩

set_option maxRecDepth 100000 in
set_option maxHeartbeats 4000000 in
theorem take_plain (w : World) (b off cap : Nat) (c : UInt8) (r : Txt) (m : Nat) (hm : num c = m) (hO : Ops w) (hT : Types w) (h : BytesAt w (.slice (some ⟨b, off, none⟩) (c :: r).length cap) (c :: r)) (ht : (c :: r).length ≤ 4096) (ho : opdB (m : Int) ≠ -1) (hopd : (opA (m : Int)).opd = 0) (ho2 : opdB (m : Int) = 0) :
    Calls Tryz.prog 35 #[.slice (some ⟨b, off, none⟩) (c :: r).length cap] w fun e w' => Keeps (fun _ => False) w w' ∧ ∃ x y ok, e = .returned (.tuple #[ValA.v x, y, .bool ok]) ∧ TookC w' x y ok b (some (⟨m, 0, []⟩, r)) := by
  obtain ⟨b', off', cc, e1, hblt, hc⟩ := RowAt.cells h (by simp)
  simp only [Value.slice.injEq, Option.some.injEq, Addr.mk.injEq] at e1
  obtain ⟨⟨rfl, rfl, _⟩, _, rfl⟩ := e1
  have c0 := (((Keeps.refl (fun _ => False) w).alloc (.cells #[.int .i64 0, .int .i64 0, .string ⟨#[]⟩] 51)).cell hblt id).trans (hc 0 (.int .u8 (num c)) rfl)
  rw [Nat.add_zero, hm] at c0
  have hcr := num_range c
  have hroom := RowAt.room h _ _ _ rfl
  have HRB := hide (rest_bytes h (k := 1) (by simp))
  have hlen : ((c :: r).length : Int) = (r.length : Int) + 1 := by simp
  have i1 : (1 : Int) ≤ (cap : Int) := by simp at hroom; omega
  have m255 : (m : Int) ≤ 255 := by omega
  have m0 : (0 : Int) ≤ (m : Int) := by omega
  generalize hL : (c :: r).length = L at *
  have HLL := hide hL
  have i2 : (L : Int) ≤ (cap : Int) := by omega
  have i3 : (1 : Int) ≤ (L : Int) := by omega
  have HRL : Hid (L - 1 = r.length) := by show _ = _; omega
  clear h hc hlen hroom hL
  obtain ⟨HX, hxb, hxc⟩ := boxed w #[.int .i64 (m : Int), .int .i64 0, .string ⟨#[]⟩] 51
  have HO := hide (hO.keepF (unhide HX))
  have HT := hide (hT.keepF (unhide HX))
  have HQ := hide (isOperation_v (m : Int) (w.alloc (.cells #[.int .i64 (m : Int), .int .i64 0, .string ⟨#[]⟩] 51)))
  have f0 := hxc 0 (.int .i64 (m : Int)) rfl
  have f1 := hxc 1 (.int .i64 0) rfl
  have f2 := hxc 2 (.string ⟨#[]⟩) rfl
  have hHB := heap_alloc_new w (.cells #[.int .i64 (m : Int), .int .i64 0, .string ⟨#[]⟩] 51)
  have HHB := hide hHB
  clear hxc hO hT hHB
  have g1 := ((unhide HO).at (m := m) (by have := opdB_range ho; omega)).1
  have m27 : (m : Int) < 27 := by have := opdB_range ho; omega
  rw [decide_eq_true ho] at HQ
  have HR : Hid (∀ (n : Int) (s : Txt) (w4 : World), Ops w4 → Calls Tryz.prog 43 #[.agg #[.int .i64 (m : Int), .int .i64 n, str s]] w4 _) := fun n s w4 h4 => rightOperand_v ⟨m, n, s⟩ w4 h4 ho
  rw [hopd] at g1
  have HRT : Hid (rightB ⟨m, 0, []⟩ = true) := by show _ = _; simp [rightB, ho2]
  clear ho hopd ho2
  go_enter Tryz.func35, Tryz.ntmps35
  go_wp2_with fail
  refine (unhide HQ).mono ?_
  rintro e w2 ⟨rfl, rfl⟩
  generalize w.alloc (.cells #[.int .i64 (m : Int), .int .i64 0, .string ⟨#[]⟩] 51) = w2 at f0 f1 f2 g1 HO HT HX HHB hxb ⊢
  have HRW : Hid (∀ w4, Ops w4 → Calls Tryz.prog 43 #[.agg #[.int .i64 (m : Int), .int .i64 0, .string ⟨#[]⟩]] w4 fun e w' => e = .returned (.bool true) ∧ Keeps (fun _ => False) w4 w') := fun w4 h4 => by have h := (unhide HR) 0 [] w4 h4; rw [unhide HRT] at h; exact h
  clear HR HQ
  by_cases hcap : cap = 1
  case' pos =>
    subst hcap
    rw [if_pos rfl] at HRB
  case' neg =>
    rw [if_neg hcap] at HRB
  all_goals
    go_wp2_with fail
    go_region_held3 (fun w' => w'.cell? ⟨w.heap.size, 0, none⟩ = some (.int .i64 (m : Int)) ∧ w'.cell? ⟨w.heap.size, 1, none⟩ = some (.int .i64 0) ∧ w'.cell? ⟨w.heap.size, 2, none⟩ = some (.string ⟨#[]⟩))
      (first | with_reducible exact s50 | with_reducible exact s51 | with_reducible exact s52 | (go_keep; done) | assumption)
      (first
        | (go_at_call 43; refine ((unhide HRW) _ ((unhide HO).keepF (Keeps.refl _ w2).drew)).mono ?_; rintro e w4 ⟨rfl, hk4⟩; have q0 := (hk4.cell (o := 0) hxb id).trans f0; have q1 := (hk4.cell (o := 1) hxb id).trans f1; have q2 := (hk4.cell (o := 2) hxb id).trans f2; have hB4 := (hk4.block w.heap.size hxb id).trans (unhide HHB); have z0 := frozen_of_blk hB4 0; have z1 := frozen_of_blk hB4 1; have z2 := frozen_of_blk hB4 2; obtain ⟨s50, s51, s52⟩ := set3 hB4 (.int .i64 (m : Int)) (.int .i64 0) (.string ⟨#[]⟩); have HB4 := hide hB4; clear hB4))
    have HK5 := hide (((unhide HX).drew.trans hk4).fresh (Nat.le_refl _) (keeps_set3 w4 w.heap.size (.int .i64 (m : Int)) (.int .i64 0) (.string ⟨#[]⟩)))
    generalize (((w4.setCell ⟨w.heap.size, 0, none⟩ (.int .i64 (m : Int))).setCell ⟨w.heap.size, 1, none⟩ (.int .i64 0)).setCell ⟨w.heap.size, 2, none⟩ (.string ⟨#[]⟩)) = w5 at s50 s51 s52 HK5 ⊢
    clear hk4 q0 q1 q2 z0 z1 z2 f0 f1 f2 g1
    go_wp2_with fail
    refine bodyPost_ret (v := .tuple #[ValA.v ⟨m, 0, []⟩, _, .bool true]) (by simp [results, go_sem, ValA.v, s50, s51, s52]; rfl) rfl ?_
    exact ⟨unhide HK5, ⟨m, 0, []⟩, _, _, rfl, rfl, rfl, (unhide HRB).keepF (unhide HK5), rfl⟩

end Go.Proofs.YtcicaifioghciaaGreatDoor
namespace Go.Proofs.YtcicaifioghciaaGreatDoor
open Go.RowKit Go.Maps

/-- A place of a code: does a run come by, with what stack, with two unlike ones? -/
structure PlA where
  r : Bool
  st : List Int
  u : Bool
def plZ : PlA := ⟨false, [], false⟩
def bringA (p : PlA) (st : List Int) : PlA := ⟨true, st, p.u || (p.r && !decide (p.st = st))⟩
def bringAt (ps : List PlA) (t : Nat) (st : List Int) : List PlA := ps.set t (bringA ((ps[t]?).getD plZ) st)
def stepA (S : List FieldA) (k : Nat) (i : ValA) (ps : List PlA) : Option (List PlA) :=
  if ((ps[k]?).getD plZ).r = false then some ps
  else if ((ps[k]?).getD plZ).u = true then none
  else match behB S i ((ps[k]?).getD plZ).st with
    | none => none
    | some st =>
      let ps1 := if (opA i.kind).opd = 6 then bringAt ps (k + 1 + i.n.toNat) st else ps
      some (if i.kind ≠ 25 then bringAt ps1 (k + 1) st else ps1)
def runA (S : List FieldA) : Nat → List ValA → List PlA → Option (List PlA) × Nat × Int
  | k, [], ps => if ((ps[k]?).getD plZ).u = true ∨ 0 < ((ps[k]?).getD plZ).st.length then (none, k, 112) else (some ps, 0, 0)
  | k, i :: r, ps => match stepA S k i ps with
    | none => (none, k, 112)
    | some ps' => runA S (k + 1) r ps'
theorem bringAt_length (ps : List PlA) (t : Nat) (st : List Int) : (bringAt ps t st).length = ps.length := by simp [bringAt]
theorem runA_drop {S : List FieldA} {l : List ValA} {k : Nat} {x : ValA} {ps : List PlA} (h : l[k]? = some x) : runA S k (l.drop k) ps = match stepA S k x ps with
    | none => (none, k, 112)
    | some ps' => runA S (k + 1) (l.drop (k + 1)) ps' := by
  obtain ⟨hk, hx⟩ := List.getElem?_eq_some_iff.1 h
  rw [List.drop_eq_getElem_cons hk, hx, runA]

/-- Places in memory. -/
structure PlsAt (w : World) (pb : Nat) (ps : List PlA) : Prop where
  blk : ∃ cur : Array Value, w.heap[pb]? = some (.cells cur 81 (0, 0)) ∧ cur.size = ps.length * 3
  at' : ∀ t p, ps[t]? = some p → p.st.length ≤ 16 ∧ w.cell? ⟨pb, t * 3, none⟩ = some (.bool p.r) ∧ w.cell? ⟨pb, t * 3 + 2, none⟩ = some (.bool p.u) ∧ ∃ v, w.cell? ⟨pb, t * 3 + 1, none⟩ = some v ∧ w.ownsRow 0 70 1 v p.st.length (ks p.st)
theorem PlsAt.lt {w : World} {pb : Nat} {ps : List PlA} (h : PlsAt w pb ps) : pb < w.heap.size := by
  obtain ⟨cur, hb, _⟩ := h.blk
  exact lt_of_block hb
theorem PlsAt.keepF {w w' : World} {pb : Nat} {ps : List PlA} (h : PlsAt w pb ps) (hk : Keeps (fun _ => False) w w') : PlsAt w' pb ps := by
  obtain ⟨cur, hb, hs⟩ := h.blk
  refine ⟨⟨cur, (hk.block pb h.lt id).trans hb, hs⟩, fun t p hp => ?_⟩
  obtain ⟨h0, h1, h2, v, h3, h4⟩ := h.at' t p hp
  exact ⟨h0, (hk.cell h.lt id).trans h1, (hk.cell h.lt id).trans h2, v, (hk.cell h.lt id).trans h3, ownsRow_kept h4 hk (fun _ _ => id)⟩
theorem keeps_bring (w : World) (b o1 o2 o3 : Nat) (x y z : Value) : Keeps (fun q => q = b) w (((w.setCell ⟨b, o1, none⟩ x).setCell ⟨b, o2, none⟩ y).setCell ⟨b, o3, none⟩ z) :=
  Keeps.setCell (F := fun q => q = b) (p := ⟨b, o3, none⟩) (Keeps.setCell (F := fun q => q = b) (p := ⟨b, o2, none⟩) (Keeps.setCell (F := fun q => q = b) (p := ⟨b, o1, none⟩) (Keeps.refl (fun q => q = b) w) (fun _ => rfl) x) (fun _ => rfl) y) (fun _ => rfl) z
theorem PlsAt.bring {w : World} {pb t : Nat} {ps : List PlA} {p : PlA} {vb : Value} {lb : List Int} (h : PlsAt w pb ps) (hp : ps[t]? = some p) (hb : w.ownsRow 0 70 1 vb lb.length (ks lb)) (hl : lb.length ≤ 16) :
    PlsAt (((w.setCell ⟨pb, t * 3 + 2, none⟩ (.bool (p.u || (p.r && !decide (p.st = lb))))).setCell ⟨pb, t * 3, none⟩ (.bool true)).setCell ⟨pb, t * 3 + 1, none⟩ vb) pb (bringAt ps t lb) := by
  obtain ⟨cur, hB, hs⟩ := h.blk
  have ht := (List.getElem?_eq_some_iff.1 hp).1
  have hE := heap_setCell_at (o := t * 3 + 1) (heap_setCell_at (o := t * 3) (heap_setCell_at (o := t * 3 + 2) hB (.bool (p.u || (p.r && !decide (p.st = lb))))) (.bool true)) vb
  have hk := keeps_bring w pb (t * 3 + 2) (t * 3) (t * 3 + 1) (.bool (p.u || (p.r && !decide (p.st = lb)))) (.bool true) vb
  have hown : ∀ {v : Value} {l : List Int}, w.ownsRow 0 70 1 v l.length (ks l) → (((w.setCell ⟨pb, t * 3 + 2, none⟩ (.bool (p.u || (p.r && !decide (p.st = lb))))).setCell ⟨pb, t * 3, none⟩ (.bool true)).setCell ⟨pb, t * 3 + 1, none⟩ vb).ownsRow 0 70 1 v l.length (ks l) := fun ho => ownsRow_kept ho hk (fun q e hq => ownsRow_ne ho hB (by decide) (by rw [e, hq]))
  refine ⟨⟨_, hE, by simpa [bringAt_length] using hs⟩, fun t' p' hp' => ?_⟩
  unfold bringAt at hp'
  by_cases he : t' = t
  · subst he
    rw [List.getElem?_set_self ht, hp] at hp'
    simp only [Option.getD_some, Option.some.injEq] at hp'
    subst hp'
    refine ⟨hl, ?_, ?_, vb, ?_, hown hb⟩
    · rw [cell_of_blk hE]; simp [Array.getElem?_setIfInBounds, bringA]; omega
    · rw [cell_of_blk hE]; simp [Array.getElem?_setIfInBounds, bringA]; omega
    · rw [cell_of_blk hE]; simp [Array.getElem?_setIfInBounds]; omega
  · rw [List.getElem?_set_ne (Ne.symm he)] at hp'
    obtain ⟨h0, h1, h2, v, h3, h4⟩ := h.at' t' p' hp'
    rw [cell_of_blk hB] at h1 h2 h3
    refine ⟨h0, ?_, ?_, v, ?_, hown h4⟩
    · rw [cell_of_blk hE, Array.getElem?_setIfInBounds_ne (by omega), Array.getElem?_setIfInBounds_ne (by omega), Array.getElem?_setIfInBounds_ne (by omega)]; exact h1
    · rw [cell_of_blk hE, Array.getElem?_setIfInBounds_ne (by omega), Array.getElem?_setIfInBounds_ne (by omega), Array.getElem?_setIfInBounds_ne (by omega)]; exact h2
    · rw [cell_of_blk hE, Array.getElem?_setIfInBounds_ne (by omega), Array.getElem?_setIfInBounds_ne (by omega), Array.getElem?_setIfInBounds_ne (by omega)]; exact h3

end Go.Proofs.YtcicaifioghciaaGreatDoor
