import Derived.Test.YtajklagdjokojaaGreatDoorRj
import Derived.Test.YtajklagdjokojaaGreatDoorJu
import Derived.Test.YtajklagdjokojaaGreatDoorJt
namespace Go.Proofs.YtajklagdjokojaaGreatDoor
open Go.RowKit Go.Maps

theorem piece_drop (t : Txt) (a : Nat) (c : UInt8) (ha : a ≤ t.length) : pieceB (t.drop a) 0 c = pieceB t a c := by
  unfold pieceB
  rw [escB_drop, runeB_drop t a ha, List.drop_zero]
theorem piece_le (T : Txt) (c : UInt8) (h : T[0]? = some c) : (pieceB T 0 c).2 ≤ T.length ∧ (pieceB T 0 c).1.length ≤ 4 := by
  have h1 := get_lt h
  unfold pieceB
  split
  · refine ⟨?_, by simp⟩
    show (escB T 0).2.toNat ≤ _
    cases e3 : T[0 + 3]? with
    | some x =>
      have := get_lt e3
      have := (escB_range T 0).2.2
      omega
    | none =>
      unfold escB
      cases e1 : T[0 + 1]? with
      | none => simp
      | some x =>
        have := get_lt e1
        rw [e3]
        simp only
        repeat' split
        all_goals first | (simp; omega) | simp_all
  · split
    · exact ⟨by show 1 ≤ _; omega, by simp⟩
    · rcases runeB_le T 0 with e | ⟨e2, e3, e4⟩
      · rw [e]; simp
      · refine ⟨by show (runeB T 0).toNat ≤ _; omega, ?_⟩
        simp only [List.length_take]
        omega
theorem piece_some (T : Txt) (c : UInt8) (h : T[0]? = some c) (hn : (pieceB T 0 c).2 ≠ 0) : 1 ≤ (pieceB T 0 c).1.length := by
  have h1 := get_lt h
  unfold pieceB at *
  split
  · simp
  · rename_i h2
    rw [if_neg h2] at hn
    split
    · simp
    · rename_i h3
      rw [if_neg h3] at hn
      simp only [List.length_take, List.length_drop] at hn ⊢
      omega
theorem unq_none {f : Nat} {t b : Txt} {a : Nat} (h : t[a]? = none) : unqLoop f t b a = none := by
  cases f with
  | zero => rfl
  | succ f => rw [unqLoop, h]; simp
theorem unq_long {f : Nat} {t b : Txt} {a : Nat} (h : ¬ b.length ≤ 20) : unqLoop f t b a = none := by
  cases f with
  | zero => rfl
  | succ f => rw [unqLoop, if_neg h]
theorem unq_end {f : Nat} {t b : Txt} {a : Nat} (h : t[a]? = some 34) (hb : b.length ≤ 20) : unqLoop (f + 1) t b a = some (b, a + 1) := by
  rw [unqLoop, if_pos hb, h]; simp
theorem unq_step {f : Nat} {t b : Txt} {a : Nat} {c : UInt8} (h : t[a]? = some c) (hc : c ≠ 34) (hb : b.length ≤ 20) : unqLoop (f + 1) t b a = if (pieceB t a c).2 = 0 then none else unqLoop f t (b ++ (pieceB t a c).1) (a + (pieceB t a c).2) := by
  rw [unqLoop, if_pos hb, h]
  simp only [if_neg hc]
theorem pre34 (t : Txt) : Lib.hasPrefix t [34] = decide (t[0]? = some 34) := by
  unfold Lib.hasPrefix
  cases t with
  | nil => rfl
  | cons c r =>
    by_cases hc : c = 34
    · subst hc; simp
    · have : (34 == c) = false := by simpa using fun e => hc e.symm
      simp [List.isPrefixOf, this, hc]
def unqV (p : Txt × Nat × Int) : Value := .tuple #[str p.1, .int .i64 p.2.1, .int .i64 p.2.2]

set_option maxRecDepth 100000 in
set_option maxHeartbeats 2000000 in
theorem val_unquote (t : Txt) (w : World) (hE : Env w) (ht : t.length ≤ 1099511627776) :
    Calls Tryz.prog 118 #[str t] w fun e w' => e = .returned (unqV (unquoteB t)) ∧ Keeps (fun _ => False) w w' := by
  obtain ⟨i0, hi, hz0, hz1, hz2⟩ := info_parts Tryz.info5
  obtain ⟨D, HD⟩ : ∃ D, Hid (unquoteB t = D) := ⟨_, rfl⟩
  rw [unhide HD]
  have HQ := hide (Tryz.strings_HasPrefix ⟨t.toArray⟩ ⟨#[34]⟩ w)
  have hpf : Lib.hasPrefix (ByteArray.mk t.toArray).data.toList (ByteArray.mk #[34]).data.toList = decide (t[0]? = some 34) := pre34 t
  rw [hpf] at HQ
  clear hpf
  by_cases h34 : t[0]? = some 34
  · rw [decide_eq_true h34] at HQ
    have HE : Hid (D = match unqLoop t.length t [] 1 with | some (b, n) => (b, n, 0) | none => ([], 0, 63)) := by show _ = _; rw [← unhide HD]; unfold unquoteB; rw [if_pos h34]; rfl
    have h1 := get_lt h34
    have hmk : (Instr.makeSlice 29 (.int .i64 0) (.int .i64 20)).run Tryz.prog w = _ := run_mkb 0 20 (by omega) (by omega) w
    have HOM := hide (owns_made w 0 20 (by omega) (by omega))
    have HA : Hid (Keeps (fun _ => False) w (w.alloc (.cells (madeCells #[.int .u8 0] 20) 5))) := (Keeps.refl _ _).alloc _
    have HEN := hide hE
    clear h34 hE
    go_enter Tryz.func118, Tryz.ntmps118
    go_wp2_with fail
    refine (unhide HQ).mono ?_
    rintro e w' ⟨rfl, rfl⟩
    go_wp2_with fail
    clear hmk HQ
    go_loopw [5, 6] (fun bb at' wr => ∃ (A f g cap m : Nat) (B : Txt), 1 ≤ A ∧ A ≤ t.length ∧ t.length + 1 ≤ A + f ∧ at' = .int .i64 A ∧ Hid (B.length = m) ∧ m ≤ 20 ∧ bb = .slice (some ⟨g, 0, none⟩) m cap ∧ wr.ownsRow w'.heap.size 5 1 (.slice (some ⟨g, 0, none⟩) m cap) m (bs B) ∧ Hid (unqLoop t.length t [] 1 = unqLoop f t B A) ∧ Keeps (fun _ => False) w' wr) (fun _ i _ => t.length - (intOf i).toNat)
    case atStart => exact ⟨1, t.length, _, _, 0, [], by omega, by omega, by omega, rfl, rfl, by omega, rfl, by simpa [bs] using unhide HOM, rfl, unhide HA⟩
    case round =>
      clear HOM HA
      obtain ⟨A, f, g, cap, m, B, hA1, hA2, hf, rfl, HM, hm, rfl, hown, HU, hkp⟩ := hrel
      obtain ⟨f, rfl⟩ : ∃ f', f = f' + 1 := ⟨f - 1, by omega⟩
      have HO := hide hown
      have HK := hide hkp
      have s0 := hkp.size
      clear hown hkp
      cases hx : t[A]? with
      | none =>
        have h2 := get_ge hx
        obtain rfl : A = t.length := by omega
        have HF : Hid (D = ([], 0, 63)) := by show _ = _; rw [unhide HE, unhide HU, unq_none hx]
        clear hx h2
        go_wp2_with fail
        go_ret3
        exact ⟨by rw [unhide HF]; rfl, unhide HK⟩
      | some c =>
        have h2 := get_lt hx
        have q := str_at hx
        have e1 : (c.toNat : Int) = num c := rfl
        by_cases hc : num c = 34
        · have hc2 : c = 34 := num_inj (a := c) (b := 34) hc
          have HF : Hid (D = (B, A + 1, 0)) := by show _ = _; rw [unhide HE, unhide HU, unq_end (by rw [hx, hc2]) (by rw [unhide HM]; exact hm)]
          have hcv : (convert 29 9 (.slice (some ⟨g, 0, none⟩) m cap)).run Tryz.prog wr = .ok (str B) wr := by
            have h := unhide HO
            rw [← unhide HM] at h ⊢
            exact conv_ownrow h
          have hne : ((A : Int) == (t.length : Int)) = false := by simp; omega
          rw [hc] at e1
          clear hx hc2
          go_wp2_with fail
          go_ret3
          refine ⟨?_, unhide HK⟩
          rw [unhide HF]
          show Ending.returned _ = .returned (.tuple #[str B, .int .i64 ((A + 1 : Nat) : Int), .int .i64 0])
          rw [Int.natCast_add]
          rfl
        · have d34 : (num c == 34) = false := by simpa using hc
          have hc2 : c ≠ 34 := fun e => hc (by rw [e]; rfl)
          have HST := hide ((unhide HU).trans (unq_step (f := f) hx hc2 (by rw [unhide HM]; exact hm)))
          obtain ⟨T, HT⟩ : ∃ T : Txt, Hid (t.drop A = T) := ⟨_, hide rfl⟩
          have hT0 : T[0]? = some c := by rw [← unhide HT, List.getElem?_drop]; exact hx
          have hTl : T.length = t.length - A := by rw [← unhide HT, List.length_drop]
          have HPD := hide (piece_drop t A c (by omega))
          rw [unhide HT] at HPD
          rw [← unhide HPD] at HST
          have HQ := hide (piece_all T c hT0 wr ((unhide HEN).keepF (unhide HK)) (by omega))
          obtain ⟨hp1, hp2⟩ := piece_le T c hT0
          have hp3 := piece_some T c hT0
          have hsl : (ByteArray.mk t.toArray).extract A t.length = ⟨T.toArray⟩ := by rw [ext_str, unhide HT, List.take_of_length_le (by omega)]
          generalize pieceB T 0 c = pc at HST HQ hp1 hp2 hp3
          obtain ⟨Q, n⟩ := pc
          simp only at HST HQ hp1 hp2 hp3
          have HP3 := hide hp3
          clear hp3
          have hA' : (A : Int) ≤ (t.length : Int) := by omega
          have HTl := hide hTl
          have hpn : A + n ≤ t.length := by omega
          clear hx hc hc2 hT0 HPD HU hTl
          go_wp2_with fail
          refine (unhide HQ).mono ?_
          rintro e w2 ⟨⟨P, rfl, hP⟩, hk2⟩
          have HP := hide hP
          have HO2 := hide (owns_keep (unhide HO) hk2)
          have HK2 := hide ((unhide HK).trans hk2)
          have s2 := (unhide HK2).size
          clear hk2 HO HK hP HQ
          by_cases hn : n = 0
          · have HF : Hid (D = ([], 0, 63)) := by show _ = _; rw [unhide HE, unhide HST, if_pos hn]
            subst hn
            go_wp2_with fail
            go_ret3
            exact ⟨by rw [unhide HF]; rfl, unhide HK2⟩
          · obtain rfl : P = Q := (unhide HP) (by omega)
            have dn : ((n : Int) == 0) = false := by simp; omega
            have HST2 := hide ((unhide HST).trans (if_neg hn))
            by_cases h20 : m + P.length ≤ 20
            · have h20' : ¬ (20 : Int) < (m : Int) + (P.length : Int) := by omega
              clear HST HP
              go_wp2_with (at_builtin; refine Lib.wpList_append_own_string _ rfl _ _ 29 9 rfl w'.heap.size 5 i0 Tryz.underlying29 Tryz.underlying9 hi hz0 hz1 hz2 _ _ _ rfl (unhide HO2) ⟨P.toArray⟩ rfl ?c3 ?c4 ?c5 ?_)
              case c3 => show m + P.length ≤ maxLen; unfold maxLen; omega
              case c4 => show m + P.length ≤ _; omega
              case c5 => omega
              intro v' w3 hown3 hgrow _
              have hown4 : w3.ownsRow w'.heap.size 5 1 v' (m + P.length) (bs (B ++ P)) := by
                rw [show bs (B ++ P) = bs B ++ Lib.strCells ⟨P.toArray⟩ by rw [strCells_bs]; simp [bs]]
                exact hown3
              have HK4 := hide ((unhide HK2).grown hgrow (fun q e hq => by have := ((unhide HO2).lt q e).1; omega))
              have HML : Hid ((B ++ P).length = m + P.length) := by show _ = _; rw [List.length_append, unhide HM]
              obtain ⟨g', cap', rfl⟩ : ∃ g cap, v' = .slice (some ⟨g, 0, none⟩) (m + P.length) cap := by
                rcases hown4.2 with ⟨hv, h0⟩ | ⟨g, cap, cur, hv, _⟩
                · have := (unhide HP3) hn; omega
                · exact ⟨g, cap, hv⟩
              have HO4 := hide hown4
              clear hown3 hown4 hgrow
              go_wp2_with fail
              go_roundw
              case rel => exact ⟨A + n, f, g', cap', m + P.length, B ++ P, by omega, by omega, by omega, by go_num, unhide HML, by omega, rfl, unhide HO4, unhide HST2, unhide HK4⟩
              case measure => simp [intOf]; omega
            · have HF : Hid (D = ([], 0, 63)) := by show _ = _; rw [unhide HE, unhide HST2, unq_long (by rw [List.length_append, unhide HM]; exact h20)]
              have h20' : (20 : Int) < (m : Int) + (P.length : Int) := by omega
              clear h20
              go_wp2_with fail
              go_ret3
              exact ⟨by rw [unhide HF]; rfl, unhide HK2⟩
  · rw [decide_eq_false h34] at HQ
    have HF : Hid (D = ([], 0, 63)) := by show _ = _; rw [← unhide HD]; unfold unquoteB; rw [if_neg h34]
    clear h34 hE
    go_enter Tryz.func118, Tryz.ntmps118
    go_wp2_with fail
    refine (unhide HQ).mono ?_
    rintro e w' ⟨rfl, rfl⟩
    go_wp2_with fail
    go_ret3
    exact ⟨by rw [unhide HF]; rfl, Keeps.refl _ _⟩
end Go.Proofs.YtajklagdjokojaaGreatDoor
namespace Go.Proofs.YtajklagdjokojaaGreatDoor
open Go.RowKit Go.Maps

/-- The values that a text tells, field by field, and the place behind them. -/
def prsLoop : List FieldA → Txt → Nat → Bool → Option (List ValA × Nat)
  | [], _, a, _ => some ([], a)
  | f :: rest, t, a, sm =>
    if sm = true ∧ beginsB t a [44] = false then some (zeros (f :: rest), a)
    else if beginsB t (if sm then a + 1 else a) (f.name ++ [61]) = false then (prsLoop rest t a sm).map fun p => (zeroV f :: p.1, p.2)
    else if (valueAtB f t ((if sm then a + 1 else a) + f.name.length + 1)).2 < 0 then none
    else (prsLoop rest t (valueAtB f t ((if sm then a + 1 else a) + f.name.length + 1)).2.toNat true).map fun p => ((valueAtB f t ((if sm then a + 1 else a) + f.name.length + 1)).1 :: p.1, p.2)
def parseB (l : List FieldA) (t : Txt) : List ValA × Int :=
  if schemaB l = false then ([], 60)
  else if beginsB t 0 [123] = false then ([], 63)
  else match prsLoop l t 1 false with
    | none => ([], 63)
    | some (r, a) => if t.drop a = [125] then (r, 0) else ([], 63)
/-- What stands for all, behind the values R. -/
def prsRest (l : List FieldA) (t : Txt) (k a : Nat) (sm : Bool) (R : List ValA) : Option (List ValA × Nat) := (prsLoop (l.drop k) t a sm).map fun p => (R ++ p.1, p.2)

theorem prsRest_stop {l : List FieldA} {t : Txt} {k a : Nat} {R : List ValA} {f : FieldA} (hf : l[k]? = some f) (h : beginsB t a [44] = false) : prsRest l t k a true R = some (R ++ zeros (l.drop k), a) := by
  unfold prsRest
  rw [drop_at hf, prsLoop, if_pos ⟨rfl, h⟩]
  rfl
theorem prsRest_skip {l : List FieldA} {t : Txt} {k a fr : Nat} {sm : Bool} {R : List ValA} {f : FieldA} (hf : l[k]? = some f) (h1 : ¬ (sm = true ∧ beginsB t a [44] = false)) (hfr : (if sm then a + 1 else a) = fr) (h2 : beginsB t fr (f.name ++ [61]) = false) : prsRest l t k a sm R = prsRest l t (k + 1) a sm (R ++ [zeroV f]) := by
  unfold prsRest
  rw [drop_at hf, prsLoop, if_neg h1, hfr, if_pos h2, Option.map_map]
  congr 1
  funext p
  simp
theorem prsRest_none {l : List FieldA} {t : Txt} {k a fr : Nat} {sm : Bool} {R : List ValA} {f : FieldA} (hf : l[k]? = some f) (h1 : ¬ (sm = true ∧ beginsB t a [44] = false)) (hfr : (if sm then a + 1 else a) = fr) (h2 : beginsB t fr (f.name ++ [61]) = true) (h3 : (valueAtB f t (fr + f.name.length + 1)).2 < 0) : prsRest l t k a sm R = none := by
  unfold prsRest
  rw [drop_at hf, prsLoop, if_neg h1, hfr, if_neg (by simp [h2]), if_pos h3]
  rfl
theorem prsRest_some {l : List FieldA} {t : Txt} {k a fr : Nat} {sm : Bool} {R : List ValA} {f : FieldA} (hf : l[k]? = some f) (h1 : ¬ (sm = true ∧ beginsB t a [44] = false)) (hfr : (if sm then a + 1 else a) = fr) (h2 : beginsB t fr (f.name ++ [61]) = true) (h3 : ¬ (valueAtB f t (fr + f.name.length + 1)).2 < 0) : prsRest l t k a sm R = prsRest l t (k + 1) (valueAtB f t (fr + f.name.length + 1)).2.toNat true (R ++ [(valueAtB f t (fr + f.name.length + 1)).1]) := by
  unfold prsRest
  rw [drop_at hf, prsLoop, if_neg h1, hfr, if_neg (by simp [h2]), if_neg h3, Option.map_map]
  congr 1
  funext p
  simp
theorem prsRest_zero (l : List FieldA) (t : Txt) (a : Nat) (sm : Bool) : prsRest l t 0 a sm [] = prsLoop l t a sm := by
  unfold prsRest
  rw [List.drop_zero]
  cases prsLoop l t a sm <;> simp
theorem prsRest_end (l : List FieldA) (t : Txt) (a : Nat) (sm : Bool) (R : List ValA) : prsRest l t l.length a sm R = some (R, a) := by
  unfold prsRest
  rw [List.drop_length, prsLoop]
  simp
theorem valueAtB_le (f : FieldA) (t : Txt) (a : Nat) (ha : a ≤ t.length) : -1 ≤ (valueAtB f t a).2 ∧ (valueAtB f t a).2 ≤ (t.length : Int) := by
  have h1 := unquoteB_n (t.drop a)
  rw [List.length_drop] at h1
  have h2 : endB t a ≤ t.length := scan_le _ _ _ ha
  unfold valueAtB
  repeat' split
  all_goals simp
  all_goals omega
theorem beginsB_le {t : Txt} {a : Nat} {p : Txt} (h : beginsB t a p = true) : a + p.length ≤ t.length := by
  unfold beginsB at h
  simp only [Bool.and_eq_true, decide_eq_true_eq] at h
  exact h.1

end Go.Proofs.YtajklagdjokojaaGreatDoor
