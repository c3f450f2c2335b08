import Derived.Test.YtafniangljmjeabDoorJs
namespace Go.Proofs.YtafniangljmjeabDoor
open Go.RowKit Go.Maps

theorem scanI_some {S : List FieldA} : ∀ {l : List ValA} {k : Nat} {p : Nat × Int}, scanI S k l = some p → p.2 ≠ 0
  | [], _, _, h => by cases h
  | x :: r, k, p, h => by
    rw [scanI] at h
    by_cases h1 : formB x = 0
    · rw [if_neg (by simpa using h1)] at h
      cases h2 : rightF S x with
      | false => rw [if_pos h2] at h; cases h; simp
      | true => rw [if_neg (by simp [h2])] at h; exact scanI_some h
    · rw [if_pos h1] at h; cases h; exact h1
theorem checkI_zero {S : List FieldA} {l : List ValA} (h : (checkI S l).2 = 0) : l.length ≤ 96 ∧ ∀ i ∈ l, formB i = 0 ∧ rightF S i = true := by
  unfold checkI at h
  by_cases h1 : 96 < l.length
  · rw [if_pos h1] at h; cases h
  · rw [if_neg h1] at h
    cases h2 : scanI S 0 l with
    | some p => rw [h2] at h; exact absurd h (scanI_some h2)
    | none => exact ⟨by omega, scanI_none h2⟩
theorem scanT_none {N : Nat} : ∀ {l : List ValA} {k : Nat}, scanT N k l = none → ∀ j i, l[j]? = some i → (opA i.kind).opd = 6 → k + j + 1 + i.n.toNat ≤ N
  | [], _, _ => by intro j i hi; simp at hi
  | x :: r, k, h => by
    rw [scanT] at h
    by_cases h1 : (opA x.kind).opd = 6 ∧ N < k + 1 + x.n.toNat
    · rw [if_pos h1] at h; cases h
    · rw [if_neg h1] at h
      intro j i hi h6
      cases j with
      | zero => simp at hi; subst hi; have : ¬ N < k + 1 + x.n.toNat := fun q => h1 ⟨h6, q⟩; omega
      | succ j => have := scanT_none h j i (by simpa using hi) h6; omega
theorem scanT_some {N : Nat} : ∀ {l : List ValA} {k : Nat} {p : Nat × Int}, scanT N k l = some p → p.2 ≠ 0
  | [], _, _, h => by cases h
  | x :: r, k, p, h => by
    rw [scanT] at h
    split at h
    · cases h; simp
    · exact scanT_some h
theorem checkT_zero {l : List ValA} (h : (checkT l).2 = 0) : ∀ k i, l[k]? = some i → (opA i.kind).opd = 6 → k + 1 + i.n.toNat ≤ l.length := by
  unfold checkT at h
  cases h2 : scanT l.length 0 l with
  | some p => rw [h2] at h; exact absurd h (scanT_some h2)
  | none => intro k i hi h6; have := scanT_none h2 k i hi h6; omega

def startA (l : List ValA) : List PlA := bringAt (List.replicate (l.length + 1) plZ) 0 []
/-- The places of a code that may be run, or what is wrong, and where. -/
def lookA (S : List FieldA) (l : List ValA) : Option (List PlA) × Nat × Int :=
  if errS S ≠ 0 then (none, 0, 60) else if (checkI S l).2 ≠ 0 then (none, checkI S l) else if (checkT l).2 ≠ 0 then (none, checkT l) else runA S 0 l (startA l)

set_option maxRecDepth 100000 in
set_option maxHeartbeats 2000000 in
theorem look_v (S : List FieldA) (so : Option Addr) (sc : Nat) (l : List ValA) (v : Value) (w : World) (hO : Ops w) (hT : Types w) (hS : FldsAt w (.slice so S.length sc) S) (h : ValsAt w v l) (hI : InR l) :
    Calls Tryd.prog 18 #[.agg #[.slice so S.length sc], v] w fun e w' => ∃ pv, e = .returned (.tuple #[pv, .int .i64 ((lookA S l).2.1 : Int), .int .i64 (lookA S l).2.2]) ∧ Followed w w' (l.length + 1) pv (lookA S l).1 ∧ Keeps (fun _ => False) w w' := by
  obtain ⟨ao, cap, rfl⟩ := RowAt.form h
  obtain ⟨HB, hbb, hbc⟩ := boxed w #[.slice so S.length sc] 24
  have s0 := hbc 0 (.slice so S.length sc) rfl
  have HO := hide (hO.keepF (unhide HB))
  have HT := hide (hT.keepF (unhide HB))
  have HS := hide (hS.keepF (unhide HB))
  have HV := hide (h.keepF (unhide HB))
  have HI := hide hI
  have HL : Hid (lookA S l = if errS S ≠ 0 then (none, 0, 60) else if (checkI S l).2 ≠ 0 then (none, checkI S l) else if (checkT l).2 ≠ 0 then (none, checkT l) else runA S 0 l (startA l)) := rfl
  generalize lookA S l = R at *
  have HQ := hide (checkSchema_v S _ _ (unhide HT) (unhide HS))
  generalize hWb : w.alloc (.cells #[.slice so S.length sc] 24) = Wb at *
  clear hbc h hO hS hI hT
  go_enter Tryd.func18, Tryd.ntmps18
  go_wp2_with fail
  refine (unhide HQ).mono ?_
  rintro e w1 ⟨rfl, hk1⟩
  have s1 := (hk1.cell hbb id).trans s0
  have hb1 := Nat.lt_of_lt_of_le hbb hk1.size
  have HK1 := hide ((unhide HB).trans hk1)
  have HO1 := hide ((unhide HO).keepF hk1)
  have HT1 := hide ((unhide HT).keepF hk1)
  have HS1 := hide ((unhide HS).keepF hk1)
  have HV1 := hide ((unhide HV).keepF hk1)
  clear hk1 HQ HO HT HS HV
  by_cases he : errS S = 0
  · rw [he]
    rw [if_neg (by simpa using he)] at HL
    have HC := hide (checkInstructions_v S so sc l _ w1 (unhide HO1) (unhide HT1) (unhide HS1) (unhide HV1) (unhide HI))
    have hz := fun q => checkI_zero (S := S) (l := l) q
    generalize checkI S l = CI at *
    go_wp2_with fail
    refine (unhide HC).mono ?_
    rintro e w2 ⟨rfl, hk2⟩
    have s2 := (hk2.cell hb1 id).trans s1
    have hb2 := Nat.lt_of_lt_of_le hb1 hk2.size
    have HK2 := hide ((unhide HK1).trans hk2)
    have HO2 := hide ((unhide HO1).keepF hk2)
    have HS2 := hide ((unhide HS1).keepF hk2)
    have HV2 := hide ((unhide HV1).keepF hk2)
    clear hk2 HC HO1 HT1 HS1 HV1 HK1 s1
    by_cases hc : CI.2 = 0
    · rw [hc]
      rw [if_neg (by simpa using hc)] at HL
      obtain ⟨hl, hF⟩ := hz hc
      have HC := hide (checkTargets_v l _ w2 (unhide HO2) (unhide HV2) hl (fun i hi => (hF i hi).1))
      have hz2 := fun q => checkT_zero (l := l) q
      generalize checkT l = CT at *
      have HF := hide hF
      clear hF hz
      go_wp2_with fail
      refine (unhide HC).mono ?_
      rintro e w3 ⟨rfl, hk3⟩
      have s3 := (hk3.cell hb2 id).trans s2
      have HK3 := hide ((unhide HK2).trans hk3)
      have HO3 := hide ((unhide HO2).keepF hk3)
      have HS3 := hide ((unhide HS2).keepF hk3)
      have HV3 := hide ((unhide HV2).keepF hk3)
      clear hk3 HC HO2 HS2 HV2 HK2 s2
      by_cases ht : CT.2 = 0
      · rw [ht]
        rw [if_neg (by simpa using ht)] at HL
        have HC := hide (follow_v S so sc l _ w3 (unhide HO3) (unhide HS3) (unhide HV3) hl (unhide HF) (hz2 ht))
        have HL2 : Hid (runA S 0 l (bringAt (List.replicate (l.length + 1) plZ) 0 []) = R) := (unhide HL).symm
        rw [unhide HL2] at HC
        have hs3 := (unhide HK3).size
        clear hz2 ht
        go_wp2_with fail
        refine (unhide HC).mono ?_
        rintro e w4 ⟨pv, rfl, hfo, hk4⟩
        have HK4 := hide ((unhide HK3).trans hk4)
        have HFO : Hid (Followed w w4 (l.length + 1) pv R.1) := by
          show Followed _ _ _ _ _
          cases hr : R.1 with
          | none => rw [hr] at hfo; exact hfo
          | some ps => rw [hr] at hfo; obtain ⟨pb, h1, h2, h3⟩ := hfo; exact ⟨pb, h1, by omega, h3⟩
        clear hfo hk4 HC
        go_wp2_with fail
        go_ret3
        exact ⟨_, rfl, unhide HFO, unhide HK4⟩
      · have bt : (CT.2 != 0) = true := by simpa using ht
        rw [if_pos ht] at HL
        obtain ⟨ca, ce⟩ := CT
        simp only at *
        clear ht hz2
        go_wp2_with fail
        go_ret3
        rw [unhide HL]
        exact ⟨_, rfl, rfl, unhide HK3⟩
    · have bc : (CI.2 != 0) = true := by simpa using hc
      rw [if_pos hc] at HL
      obtain ⟨ca, ce⟩ := CI
      simp only at *
      clear hc hz
      go_wp2_with fail
      go_ret3
      rw [unhide HL]
      exact ⟨_, rfl, rfl, unhide HK2⟩
  · have be : (errS S != 0) = true := by simpa using he
    rw [if_pos he] at HL
    generalize errS S = E at *
    clear he
    go_wp2_with fail
    go_ret3
    rw [unhide HL]
    exact ⟨_, rfl, rfl, unhide HK1⟩

end Go.Proofs.YtafniangljmjeabDoor
namespace Go.Proofs.YtafniangljmjeabDoor
open Go.RowKit Go.Maps

/-- The most values that stand on the stack at a place. -/
def deepA (ps : List PlA) : Nat := ps.foldl (fun d p => max d p.st.length) 0
def verifyA (S : List FieldA) (l : List ValA) : Nat × Nat × Int := (((lookA S l).1.map deepA).getD 0, (lookA S l).2)
theorem deepA_snoc {ps : List PlA} {k : Nat} {P : PlA} (h : ps[k]? = some P) : deepA (ps.take (k + 1)) = max (deepA (ps.take k)) P.st.length := by
  rw [take_snoc ps k P h]
  unfold deepA
  rw [List.foldl_append]
  rfl
theorem deepA_le {ps : List PlA} (h : ∀ p ∈ ps, p.st.length ≤ 16) : deepA ps ≤ 16 := by
  have : ∀ (q : List PlA) (d : Nat), (∀ p ∈ q, p.st.length ≤ 16) → d ≤ 16 → q.foldl (fun d p => max d p.st.length) d ≤ 16 := by
    intro q
    induction q with
    | nil => intro d _ hd; exact hd
    | cons a r ih => intro d hq hd; exact ih _ (fun p hp => hq p (List.mem_cons_of_mem _ hp)) (Nat.max_le.2 ⟨hd, hq a List.mem_cons_self⟩)
  exact this ps 0 h (by omega)

theorem lookA_some {S : List FieldA} {l : List ValA} {ps : List PlA} (h : (lookA S l).1 = some ps) : l.length ≤ 96 := by
  unfold lookA at h
  split at h
  · cases h
  · split at h
    · cases h
    · rename_i h2
      exact (checkI_zero (by simpa using h2)).1

set_option maxRecDepth 100000 in
set_option maxHeartbeats 2000000 in
theorem verify_v (S : List FieldA) (so : Option Addr) (sc : Nat) (l : List ValA) (v : Value) (w : World) (hO : Ops w) (hT : Types w) (hS : FldsAt w (.slice so S.length sc) S) (h : ValsAt w v l) (hI : InR l) :
    Calls Tryd.prog 13 #[.agg #[.slice so S.length sc], v] w fun e w' => e = .returned (.tuple #[.int .i64 ((verifyA S l).1 : Int), .int .i64 ((verifyA S l).2.1 : Int), .int .i64 (verifyA S l).2.2]) ∧ Keeps (fun _ => False) w w' := by
  obtain ⟨ao, cap, rfl⟩ := RowAt.form h
  obtain ⟨HB, hbb, hbc⟩ := boxed w #[.slice so S.length sc] 24
  have s0 := hbc 0 (.slice so S.length sc) rfl
  have HQ := hide (look_v S so sc l _ _ (hO.keepF (unhide HB)) (hT.keepF (unhide HB)) (hS.keepF (unhide HB)) (h.keepF (unhide HB)) hI)
  have HL : Hid (verifyA S l = (((lookA S l).1.map deepA).getD 0, (lookA S l).2)) := rfl
  have hll := fun ps q => lookA_some (S := S) (l := l) (ps := ps) q
  generalize verifyA S l = V at *
  generalize lookA S l = R at *
  generalize hWb : w.alloc (.cells #[.slice so S.length sc] 24) = Wb at *
  obtain ⟨ro, ra, re⟩ := R
  simp only at *
  clear hbc h hO hS hI hT
  go_enter Tryd.func13, Tryd.ntmps13
  go_wp2_with fail
  refine (unhide HQ).mono ?_
  rintro e w1 ⟨pv, rfl, hfo, hk1⟩
  have HK1 := hide ((unhide HB).trans hk1)
  clear hk1 HQ
  cases ro with
  | none =>
    obtain rfl : pv = .slice none 0 0 := hfo
    have HE : Hid (V = (0, ra, re)) := unhide HL
    clear HL
    go_wp2_with fail
    go_loopw [4, 19] (fun d i wr => d = .int .i64 0 ∧ i = .int .i64 0 ∧ wr = w1) (fun _ _ _ => 0)
    case atStart => exact ⟨rfl, rfl, rfl⟩
    case round =>
      obtain ⟨rfl, rfl, rfl⟩ := hrel
      go_wp2_with fail
      go_ret3
      rw [unhide HE]
      exact ⟨rfl, unhide HK1⟩
  | some ps =>
    obtain ⟨pb, rfl, hpb, hpl, hpn⟩ := hfo
    have HE : Hid (V = (deepA ps, ra, re)) := unhide HL
    have HP := hide hpl
    clear HL hpl
    have hl96 := hll ps rfl
    have hN : (ps.length : Int) ≤ 97 := by omega
    rw [← hpn]
    go_wp2_with fail
    go_loopw [4, 19] (fun d i wr => ∃ k : Nat, k ≤ ps.length ∧ i = .int .i64 k ∧ d = .int .i64 ((deepA (ps.take k) : Nat) : Int) ∧ Keeps (fun _ => False) w1 wr) (fun d i _ => ps.length - (intOf i).toNat)
    case atStart => exact ⟨0, Nat.zero_le _, rfl, rfl, Keeps.refl _ _⟩
    case round =>
      obtain ⟨k, hk, rfl, rfl, hkp⟩ := hrel
      by_cases hlt : k < ps.length
      · obtain ⟨P, hP⟩ : ∃ P, ps[k]? = some P := ⟨_, List.getElem?_eq_getElem hlt⟩
        obtain ⟨hP16, p0, p2, pv, p1, hown⟩ := ((unhide HP).keepF hkp).at' k P hP
        obtain ⟨po, pc, rfl⟩ := (rowAt_own hown).form
        obtain ⟨HY, hyb, hyc⟩ := boxed wr #[.bool P.r, .slice po P.st.length pc, .bool P.u] 51
        have b1 := hyc 1 (.slice po P.st.length pc) rfl
        have HKY := hide (hkp.trans (unhide HY))
        have HS := hide (deepA_snoc hP)
        have i2 : (k : Int) < (ps.length : Int) := by omega
        have i0' : (0 : Int) ≤ (k : Int) := by omega
        clear hyc hkp hown HY
        generalize deepA (ps.take k) = D at *
        go_wp2_with fail
        go_roundw
        case rel => exact ⟨k + 1, by omega, by go_num, by rw [unhide HS]; congr 1; split <;> omega, unhide HKY⟩
        case measure => simp [intOf]; omega
      · obtain rfl : k = ps.length := by omega
        have i2 : ¬ (ps.length : Int) < (ps.length : Int) := by omega
        have HKE := hide ((unhide HK1).trans hkp)
        rw [List.take_length]
        clear hkp hlt
        go_wp2_with fail
        go_ret3
        rw [unhide HE]
        exact ⟨rfl, unhide HKE⟩

end Go.Proofs.YtafniangljmjeabDoor
