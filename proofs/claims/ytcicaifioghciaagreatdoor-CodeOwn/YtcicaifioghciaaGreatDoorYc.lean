import Derived.Test.YtcicaifioghciaaGreatDoorYb
namespace Go.Proofs.YtcicaifioghciaaGreatDoor
open Go.RowKit Go.Maps
theorem runA_len {S : List FieldA} : ∀ {rest : List ValA} {k : Nat} {ps : List PlA}, (∃ k', runA S k rest ps = (none, k', 112)) ∨ ∃ ps', runA S k rest ps = (some ps', 0, 0) ∧ ps'.length = ps.length
  | [], k, ps => by
    rw [runA]
    split
    · exact Or.inl ⟨_, rfl⟩
    · exact Or.inr ⟨_, rfl, rfl⟩
  | x :: rest, k, ps => by
    rw [runA]
    cases hs : stepA S k x ps with
    | none => exact Or.inl ⟨_, rfl⟩
    | some ps1 =>
      simp only
      have hl : ps1.length = ps.length := by
        unfold stepA at hs
        split at hs
        · cases hs; rfl
        · split at hs
          · cases hs
          · split at hs
            · cases hs
            · simp only [Option.some.injEq] at hs
              subst hs
              split <;> split <;> simp [bringAt_length]
      rcases runA_len (S := S) (rest := rest) (k := k + 1) (ps := ps1) with h | ⟨ps', h, h2⟩
      · exact Or.inl h
      · exact Or.inr ⟨ps', h, h2.trans hl⟩
/-- What look tells: what is wrong; or the places, which are right. -/
theorem look_tells (S : List FieldA) (l : List ValA) : (∃ k e, lookA S l = (none, k, e) ∧ e ≠ 0) ∨ ∃ ps, lookA S l = (some ps, 0, 0) ∧ pullA S l 0 l [] = (some (ps.map pairP), 0, 0) ∧ HvOK S l (ps.map pairP) ∧ ps.length = l.length + 1 ∧ l.length ≤ 96 ∧ (∀ f ∈ S, isK f.type) ∧ (∀ i ∈ l, formB i = 0 ∧ rightF S i = true) ∧ (∀ k i, l[k]? = some i → (opA i.kind).opd = 6 → k + 1 + i.n.toNat ≤ l.length) := by
  unfold lookA
  by_cases h1 : errS S = 0
  · rw [if_neg (show ¬ errS S ≠ 0 from fun q => q h1)]
    by_cases h2 : (checkI S l).2 = 0
    · rw [if_neg (show ¬ (checkI S l).2 ≠ 0 from fun q => q h2)]
      by_cases h3 : (checkT l).2 = 0
      · rw [if_neg (show ¬ (checkT l).2 ≠ 0 from fun q => q h3)]
        obtain ⟨hl, hF⟩ := checkI_zero h2
        have hT := checkT_zero h3
        have hS := schema_isK h1
        obtain ⟨ha, hb⟩ := run_pull S l (fun i hi => (opd_kind _ (op_cases (formB_zero (hF i hi).1).1)).2.2.1) l 0 [] (startA l) rfl (Nat.zero_le _) rfl (by unfold startA; rw [bringAt_length, List.length_replicate]) (fun t ht => startA_get S l t ht) (fun j hj => absurd hj (Nat.not_lt_zero _))
        rcases runA_len (S := S) (rest := l) (k := 0) (ps := startA l) with ⟨k', h⟩ | ⟨ps, h, hps⟩
        · exact Or.inl ⟨k', 112, h, by decide⟩
        · rw [h] at ha hb
          have hpa : pullA S l 0 l [] = (some (ps.map pairP), 0, 0) := by
            apply Prod.ext
            · exact hb.symm
            · exact ha.symm
          refine Or.inr ⟨ps, h, hpa, pullA_ok hS hF l 0 [] _ rfl (Nat.zero_le _) rfl (fun k z q => by simp at q) (fun k z q => by simp at q) (fun k z q => by simp at q) hpa, ?_, hl, hS, hF, hT⟩
          rw [hps]; unfold startA; rw [bringAt_length, List.length_replicate]
      · rw [if_pos h3]; exact Or.inl ⟨_, _, rfl, h3⟩
    · rw [if_pos h2]; exact Or.inl ⟨_, _, rfl, h2⟩
  · rw [if_pos h1]; exact Or.inl ⟨_, _, rfl, by decide⟩
def txts (ps : List PlA) : List Value := ps.map fun p => str (txtP p.r p.st)
def rowT (ps : List PlA) (k : Nat) : List Value := txts (ps.take k) ++ List.replicate (ps.length - k) (.string ⟨#[]⟩)
theorem rowT_length {ps : List PlA} {k : Nat} (h : k ≤ ps.length) : (rowT ps k).length = ps.length := by simp [rowT, txts]; omega
theorem rowT_set {ps : List PlA} {k : Nat} {x : PlA} (h : ps[k]? = some x) : (rowT ps k).set k (str (txtP x.r x.st)) = rowT ps (k + 1) := by
  have hk := (List.getElem?_eq_some_iff.1 h).1
  unfold rowT
  rw [take_snoc ps k x h, show ps.length - k = (ps.length - (k + 1)) + 1 by omega, List.replicate_succ]
  rw [List.set_append_right _ _ (by simp [txts]; omega)]
  simp [txts, Nat.min_eq_left (Nat.le_of_lt hk)]
theorem rowT_end (ps : List PlA) : rowT ps ps.length = txts ps := by
  unfold rowT
  rw [Nat.sub_self, List.take_length]
  simp
theorem run_mks (n : Nat) (hn : n ≤ 1024) (w : World) : (Instr.makeSlice 33 (.int .i64 (n : Int)) (.int .i64 (n : Int))).run Tryz.prog w = .ok (.slice (some ⟨w.heap.size, 0, none⟩) n n) (w.alloc (.cells (madeCells #[.string ⟨#[]⟩] n) 9)) := by
  obtain ⟨i0, hi, hz0, hz1, hz2⟩ := info_parts Tryz.info9s
  have q := run_make (P := Tryz.prog) w 33 9 i0 (.string ⟨#[]⟩) Tryz.underlying33 hi hz0 .i64 .i64 (n : Int) (n : Int) (by omega) (by omega) (by rw [hz2]; omega) (by omega)
  rw [hz1] at q
  simpa [Value.cells] using q
theorem owns_mks (w : World) (n : Nat) (hn : n ≤ 1024) : (w.alloc (.cells (madeCells #[.string ⟨#[]⟩] n) 9)).ownsRow w.heap.size 9 1 (.slice (some ⟨w.heap.size, 0, none⟩) n n) n (List.replicate n (.string ⟨#[]⟩)) := by
  have := World.ownsRow_lit (base := w.heap.size) (e := 9) (size := 1) w (madeCells #[.string ⟨#[]⟩] n) n (Nat.le_refl _) (by unfold maxLen; omega) (by rw [size_madeCells]; omega)
  rwa [toList_madeCells_one] at this
/-- What Types answers. -/
def Texted (w : World) (vt : Value) : Option (List PlA) → Prop
  | none => vt = .slice none 0 0
  | some ps => w.ownsRow 0 9 1 vt ps.length (txts ps)
set_option maxRecDepth 100000 in
set_option maxHeartbeats 2000000 in
theorem types_v (S : List FieldA) (so : Option Addr) (sc : Nat) (l : List ValA) (v : Value) (w : World) (hO : Ops w) (hT : Types w) (hS : FldsAt w (.slice so S.length sc) S) (h : ValsAt w v l) (hI : InR l) :
    Calls Tryz.prog 11 #[.agg #[.slice so S.length sc], v] w fun e w' => ∃ vt, e = .returned (.tuple #[vt, .int .i64 (lookA S l).2.2]) ∧ Texted w' vt (lookA S l).1 ∧ (∀ ps, (lookA S l).1 = some ps → w'.ownsRow w.heap.size 9 1 vt ps.length (txts ps)) ∧ Keeps (fun _ => False) w w' := by
  obtain ⟨ao, cap, rfl⟩ := RowAt.form h
  obtain ⟨HB, hbb, hbc⟩ := boxed w #[.slice so S.length sc] 24
  have s0 := hbc 0 (.slice so S.length sc) rfl
  have HQ := hide (look_v S so sc l _ _ (hO.keepF (unhide HB)) (hT.keepF (unhide HB)) (hS.keepF (unhide HB)) (h.keepF (unhide HB)) hI)
  have HTL := hide (look_tells S l)
  generalize lookA S l = R at *
  generalize hWb : w.alloc (.cells #[.slice so S.length sc] 24) = Wb at *
  clear hbc h hO hS hI hT
  go_enter Tryz.func11, Tryz.ntmps11
  go_wp2_with fail
  refine (unhide HQ).mono ?_
  rintro e w1 ⟨pv, rfl, hfo, hk1⟩
  have HK1 := hide ((unhide HB).trans hk1)
  clear hk1 HQ
  rcases unhide HTL with ⟨k', e', rfl, he'⟩ | ⟨ps, rfl, q1, hok, hpl, hl96, q2, q3, q4⟩
  · obtain rfl : pv = .slice none 0 0 := hfo
    have be : (e' != 0) = true := by rw [bne_iff_ne]; exact he'
    clear HTL he'
    simp only
    go_wp2_with fail
    go_ret2
    exact ⟨_, rfl, rfl, unhide HK1⟩
  · obtain ⟨pb, rfl, hpb, hpls, hpn⟩ := hfo
    have HP := hide hpls
    have HSM := hide hok.small
    have hmk := run_mks ps.length (by omega)
    have HO0 := hide (owns_mks w1 ps.length (by omega))
    have HK0 := hide ((Keeps.refl (fun _ => False) w1).alloc (.cells (madeCells #[.string ⟨#[]⟩] ps.length) 9))
    simp only
    rw [← hpl, show ((0 : Nat) : Int) = 0 from rfl]
    have hN : ps.length ≤ 97 := by omega
    have HWB : Hid (Wb.heap.size ≤ pb) := hpb
    clear HTL hok hpls hpl hpn q1 q2 q3 q4 hpb
    go_wp2_with fail
    clear hmk
    have hO1 : (w1.alloc (.cells (madeCells #[.string ⟨#[]⟩] ps.length) 9)).ownsRow w1.heap.size 9 1 (.slice (some ⟨w1.heap.size, 0, none⟩) ps.length ps.length) ps.length (rowT ps 0) := by
      have := unhide HO0
      simpa [rowT, txts] using this
    have HO1 := hide hO1
    clear hO1 HO0
    generalize hg : w1.heap.size = g at *
    generalize w1.alloc (.cells (madeCells #[.string ⟨#[]⟩] ps.length) 9) = W1 at *
    go_loopw [27] (fun i wr => ∃ k : Nat, k ≤ ps.length ∧ i = .int .i64 k ∧ wr.ownsRow g 9 1 (.slice (some ⟨g, 0, none⟩) ps.length ps.length) ps.length (rowT ps k) ∧ Keeps (fun _ => False) w1 wr) (fun i _ => ps.length - (intOf i).toNat)
    case atStart => exact ⟨0, Nat.zero_le _, rfl, unhide HO1, unhide HK0⟩
    case round =>
      obtain ⟨k, hk, rfl, ho, hkp⟩ := hrel
      by_cases hlt : k < ps.length
      · obtain ⟨P, hP⟩ : ∃ P, ps[k]? = some P := ⟨_, List.getElem?_eq_getElem hlt⟩
        obtain ⟨hP16, p0, p2, pv, p1, hown⟩ := ((unhide HP).keepF hkp).at' k P hP
        obtain ⟨po, pc, rfl⟩ := (rowAt_own hown).form
        obtain ⟨HY, hyb, hyc⟩ := boxed wr #[.bool P.r, .slice po P.st.length pc, .bool P.u] 81
        have b0 := hyc 0 (.bool P.r) rfl
        have b1 := hyc 1 (.slice po P.st.length pc) rfl
        have b2 := hyc 2 (.bool P.u) rfl
        have HKY := hide (hkp.trans (unhide HY))
        have HOY := hide (ownsRow_kept ho (unhide HY) (fun _ _ => id))
        have hsm := (unhide HSM) k (P.r, P.st) (by rw [List.getElem?_map, hP]; rfl)
        generalize hWY : wr.alloc (.cells #[.bool P.r, .slice po P.st.length pc, .bool P.u] 81) = WY at *
        have HQ := hide (typesText_v P.r P.u P.st (.slice po P.st.length pc) WY (rowAt_own (ownsRow_kept hown (unhide HY) (fun _ _ => id))) hP16 (fun _ => hsm.2))
        have HSET := hide (rowT_set hP)
        have i2 : (k : Int) < (ps.length : Int) := by omega
        have i0' : (0 : Int) ≤ (k : Int) := by omega
        generalize txtP P.r P.st = TX at *
        obtain ⟨Pr, Pst, Pu⟩ := P
        simp only at *
        clear hyc hkp hown ho HY hP hsm
        go_wp2_with fail
        refine (unhide HQ).mono ?_
        rintro e w3 ⟨rfl, hk3⟩
        have HK3 := hide ((unhide HKY).trans hk3)
        have ho3 := ownsRow_kept (unhide HOY) hk3 (fun _ _ => id)
        have f3 := ho3.frozenAt k
        obtain ⟨dd, d3⟩ : ∃ dd, w3.cell? ⟨g, k, none⟩ = some dd := ⟨_, (ho3.cellAt k (by omega)).trans (List.getElem?_eq_getElem (by rw [rowT_length hk]; exact hlt))⟩
        have HST := hide ((ho3.stored k (str TX)).1)
        rw [unhide HSET] at HST
        have HKS := hide ((unhide HK3).then (keeps_set w3 g k (str TX)) (fun i hi q => by omega))
        clear hk3 ho3 HQ HSET
        go_wp2_with fail
        go_roundw
        case rel => exact ⟨k + 1, by omega, by go_num, unhide HST, unhide HKS⟩
        case measure => simp [intOf]; omega
      · obtain rfl : k = ps.length := by omega
        have i2 : ¬ (ps.length : Int) < (ps.length : Int) := by omega
        have HE := hide ho
        have HKE := hide hkp
        rw [rowT_end] at HE
        clear hlt ho hkp
        go_wp2_with fail
        go_ret2
        first | exact ⟨_, rfl, ownsRow_lower (unhide HE) (Nat.zero_le _), ownsRow_lower (unhide HE) (by have := (unhide HK1).size; omega), (unhide HK1).trans (unhide HKE)⟩ | exact ⟨_, rfl, ownsRow_lower (unhide HE) (Nat.zero_le _), fun ps' h => by obtain rfl := Option.some.inj h; exact ownsRow_lower (unhide HE) (by have := (unhide HK1).size; omega), (unhide HK1).trans (unhide HKE)⟩ | exact ⟨_, rfl, ownsRow_lower (unhide HE) (Nat.zero_le _), fun ps' h => by subst h; exact ownsRow_lower (unhide HE) (by have := (unhide HK1).size; omega), (unhide HK1).trans (unhide HKE)⟩

end Go.Proofs.YtcicaifioghciaaGreatDoor
