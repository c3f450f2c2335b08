import Derived.Test.YtcicaifioghciaaGreatDoorVz
namespace Go.Proofs.YtcicaifioghciaaGreatDoor
open Go.RowKit Go.Maps
theorem pullA_tells (S : List FieldA) (l : List ValA) : ∀ (rest : List ValA) (k : Nat) (hv : List (Bool × List Int)), (∃ k', pullA S l k rest hv = (none, k', 112)) ∨ ∃ hv', pullA S l k rest hv = (some hv', 0, 0) ∧ hv'.length = hv.length + rest.length + 1
  | [], k, hv => by
    rw [pullA_nil]
    cases pullB S l hv k k with
    | none => exact Or.inl ⟨_, rfl⟩
    | some z =>
      simp only
      split
      · exact Or.inl ⟨_, rfl⟩
      · exact Or.inr ⟨_, rfl, by simp⟩
  | x :: rest, k, hv => by
    rw [pullA_cons]
    cases pullB S l hv k k with
    | none => exact Or.inl ⟨_, rfl⟩
    | some z =>
      simp only
      split
      · exact Or.inl ⟨_, rfl⟩
      · rcases pullA_tells S l rest (k + 1) (hv ++ [z]) with h | ⟨hv', h, h2⟩
        · exact Or.inl h
        · exact Or.inr ⟨hv', h, by rw [h2]; simp; omega⟩
def deepH (hv : List (Bool × List Int)) : Nat := hv.foldl (fun d z => max d z.2.length) 0
theorem deepH_snoc {hv : List (Bool × List Int)} {k : Nat} {z : Bool × List Int} (h : hv[k]? = some z) : deepH (hv.take (k + 1)) = max (deepH (hv.take k)) z.2.length := by
  rw [take_snoc hv k z h]
  unfold deepH
  rw [List.foldl_append]
  rfl
theorem deepH_map (ps : List PlA) : deepH (ps.map pairP) = deepA ps := by
  unfold deepH deepA
  rw [List.foldl_map]
  rfl
/-- The reference's answer. -/
def refA (S : List FieldA) (l : List ValA) : Nat × Nat × Int :=
  if (soundA S l).2 ≠ 0 then (0, soundA S l) else (((pullA S l 0 l []).1.map deepH).getD 0, (pullA S l 0 l []).2)
theorem startA_get (S : List FieldA) (l : List ValA) (t : Nat) (ht : t ≤ l.length) : (startA l)[t]? = some (pushB S l [] t 0) := by
  unfold startA
  rw [bringAt_get (P := plZ) (by rw [List.getElem?_replicate, if_pos (by omega)]), pushB]
  by_cases h : t = 0
  · subst h; rfl
  · rw [if_neg (fun q => h q.symm), if_neg h]
theorem verify_ref (S : List FieldA) (l : List ValA) : verifyA S l = refA S l := by
  unfold verifyA refA lookA soundA
  by_cases h1 : errS S = 0
  · rw [if_neg (show ¬ errS S ≠ 0 from fun q => q h1), if_neg (show ¬ errS S ≠ 0 from fun q => q h1)]
    by_cases h2 : (checkI S l).2 = 0
    · rw [if_neg (show ¬ (checkI S l).2 ≠ 0 from fun q => q h2), if_neg (show ¬ (checkI S l).2 ≠ 0 from fun q => q h2)]
      by_cases h3 : (checkT l).2 = 0
      · rw [if_neg (show ¬ (checkT l).2 ≠ 0 from fun q => q h3), if_neg (show ¬ (checkT l).2 ≠ 0 from fun q => q h3)]
        obtain ⟨hl, hF⟩ := checkI_zero h2
        obtain ⟨ha, hb⟩ := run_pull S l (fun i hi => (opd_kind _ (op_cases (formB_zero (hF i hi).1).1)).2.2.1) l 0 [] (startA l) rfl (Nat.zero_le _) rfl (by unfold startA; rw [bringAt_length, List.length_replicate]) (fun t ht => startA_get S l t ht) (fun j hj => absurd hj (Nat.not_lt_zero _))
        rw [ha, ← hb, Option.map_map]
        congr 2
        cases (runA S 0 l (startA l)).1 with
        | none => rfl
        | some ps => simp [deepH_map]
      · rw [if_pos h3, if_pos h3]; rfl
    · rw [if_pos h2, if_pos h2, if_pos h2]; rfl
  · rw [if_pos h1, if_pos h1]
    simp
set_option maxRecDepth 100000 in
set_option maxHeartbeats 2000000 in
theorem refVerify_v (S : List FieldA) (so : Option Addr) (sc : Nat) (l : List ValA) (v : Value) (w : World) (hS : FldsAt w (.slice so S.length sc) S) (h : ValsAt w v l) (hI : InR l) :
    Calls Tryz.prog 25 #[.agg #[.slice so S.length sc], v] w fun e w' => e = .returned (.tuple #[.int .i64 ((refA S l).1 : Int), .int .i64 ((refA S l).2.1 : Int), .int .i64 (refA S l).2.2]) ∧ Keeps (fun _ => False) w w' := by
  obtain ⟨ao, cap, rfl⟩ := RowAt.form h
  obtain ⟨HB, hbb, hbc⟩ := boxed w #[.slice so S.length sc] 24
  have s0 := hbc 0 (.slice so S.length sc) rfl
  have HQ := hide (sound_v S so sc l _ _ (hS.keepF (unhide HB)) (h.keepF (unhide HB)) hI)
  have HS := hide (hS.keepF (unhide HB))
  have HV := hide (h.keepF (unhide HB))
  have HL : Hid (refA S l = if (soundA S l).2 ≠ 0 then (0, soundA S l) else (((pullA S l 0 l []).1.map deepH).getD 0, (pullA S l 0 l []).2)) := rfl
  have HSO : Hid ((soundA S l).2 = 0 → (l.length ≤ 96 ∧ ∀ i ∈ l, formB i = 0 ∧ rightF S i = true) ∧ ∀ f ∈ S, isK f.type) := by
    intro hz
    unfold soundA at hz
    by_cases h1 : errS S = 0
    · rw [if_neg (show ¬ errS S ≠ 0 from fun q => q h1)] at hz
      refine ⟨?_, schema_isK h1⟩
      by_cases h2 : (checkI S l).2 = 0
      · exact checkI_zero h2
      · rw [if_pos h2] at hz; exact absurd hz h2
    · rw [if_pos h1] at hz; cases hz
  generalize refA S l = V at *
  generalize soundA S l = R at *
  generalize hWb : w.alloc (.cells #[.slice so S.length sc] 24) = Wb at *
  obtain ⟨ra, re⟩ := R
  simp only at *
  clear hbc h hS hI
  go_enter Tryz.func25, Tryz.ntmps25
  go_wp2_with fail
  refine (unhide HQ).mono ?_
  rintro e w1 ⟨rfl, hk1⟩
  have HK1 := hide ((unhide HB).trans hk1)
  have s1 := (hk1.cell hbb id).trans s0
  have HS1 := hide ((unhide HS).keepF hk1)
  have HV1 := hide ((unhide HV).keepF hk1)
  clear hk1 HQ HS HV
  by_cases hre : re = 0
  · obtain ⟨⟨hl, hF⟩, hK⟩ := (unhide HSO) hre
    rw [if_neg (show ¬ re ≠ 0 from fun q => q hre)] at HL
    have HQ := hide (stacks_v S so sc l _ w1 (unhide HS1) (unhide HV1) hl hK hF)
    have HT := hide (pullA_tells S l l 0 [])
    generalize pullA S l 0 l [] = PA at *
    subst hre
    clear HSO hF hK HS1 HV1
    go_wp2_with fail
    refine (unhide HQ).mono ?_
    rintro e w2 ⟨vb, vs, bad, rfl, hst, hk2⟩
    have HK2 := hide ((unhide HK1).trans hk2)
    clear hk2 HQ
    rcases unhide HT with ⟨k', rfl⟩ | ⟨hv, rfl, hvl⟩
    · obtain ⟨rfl, rfl, rfl⟩ := hst
      have HE : Hid (V = (0, k', 112)) := unhide HL
      have i1 : (0 : Int) ≤ (k' : Int) := by omega
      clear HL HT
      go_wp2_with fail
      go_ret3
      rw [unhide HE]
      exact ⟨rfl, unhide HK2⟩
    · obtain ⟨rfl, ho1, ho2⟩ := hst
      have HE : Hid (V = (deepH hv, 0, 0)) := unhide HL
      simp only [List.length_nil, Nat.zero_add] at hvl
      have hpos : 0 < hv.length := by omega
      obtain ⟨g1, c1, rfl, _, _⟩ := World.ownsRow.form ho1 hpos
      obtain ⟨g2, c2, rfl, _, hg2⟩ := World.ownsRow.form ho2 hpos
      have HO2 := hide ho2
      have hN : (hv.length : Int) ≤ 97 := by omega
      clear HL HT ho1 ho2 hvl
      go_wp2_with fail
      go_loopw [12, 13] (fun d i wr => ∃ k : Nat, k ≤ hv.length ∧ i = .int .i64 k ∧ d = .int .i64 ((deepH (hv.take k) : Nat) : Int) ∧ wr = w2) (fun d i _ => hv.length - (intOf i).toNat)
      case atStart => exact ⟨0, Nat.zero_le _, rfl, rfl, rfl⟩
      case round =>
        obtain ⟨k, hk, rfl, rfl, rfl⟩ := hrel
        by_cases hlt : k < hv.length
        · obtain ⟨z, hz⟩ : ∃ z, hv[k]? = some z := ⟨_, List.getElem?_eq_getElem hlt⟩
          have c0 := ((unhide HO2).cellAt k (by omega)).trans (rss_get hz)
          have HD := hide (deepH_snoc hz)
          have hll : (z.2.map letR).length = z.2.length := List.length_map ..
          generalize z.2.map letR = q at *
          generalize z.2.length = ZL at *
          have i2 : (k : Int) < (hv.length : Int) := by omega
          have i0' : (0 : Int) ≤ (k : Int) := by omega
          generalize deepH (hv.take k) = D at *
          clear hz
          by_cases hd : D < ZL
          · have id1 : (D : Int) < (ZL : Int) := by omega
            clear hd
            go_wp2_with fail
            go_roundw
            case rel => exact ⟨k + 1, by omega, by go_num, by rw [unhide HD]; congr 1; omega, by first | rfl | trivial⟩
            case measure => simp [intOf]; omega
          · have id1 : ¬ (D : Int) < (ZL : Int) := by omega
            clear hd
            go_wp2_with fail
            go_roundw
            case rel => exact ⟨k + 1, by omega, by go_num, by rw [unhide HD]; congr 1; omega, by first | rfl | trivial⟩
            case measure => simp [intOf]; omega
        · obtain rfl : k = hv.length := by omega
          have i2 : ¬ (hv.length : Int) < (hv.length : Int) := by omega
          rw [List.take_length]
          clear hlt
          go_wp2_with fail
          go_ret3
          rw [unhide HE]
          exact ⟨rfl, unhide HK2⟩
  · have bre : (re != 0) = true := by rw [bne_iff_ne]; exact hre
    rw [if_pos hre] at HL
    have HE : Hid (V = (0, ra, re)) := unhide HL
    clear HL hre HSO
    go_wp2_with fail
    go_ret3
    rw [unhide HE]
    exact ⟨rfl, unhide HK1⟩

end Go.Proofs.YtcicaifioghciaaGreatDoor
