import Derived.Test.YtafniangljmjeabDoorVz
namespace Go.Proofs.YtafniangljmjeabDoor
open Go.RowKit Go.Maps
theorem pullA_tells (S : List FieldA) (l : List ValA) : ∀ (rest : List ValA) (k : Nat) (hv : List (Bool × List Int)), (∃ k', pullA S l k rest hv = (none, k', 112)) ∨ ∃ hv', pullA S l k rest hv = (some hv', 0, 0) ∧ hv'.length = hv.length + rest.length + 1
  | [], k, hv => by
    rw [pullA_nil]
    cases pullB S l hv k k with
    | none => exact Or.inl ⟨_, rfl⟩
    | some z =>
      simp only
      split
      · exact Or.inl ⟨_, rfl⟩
      · exact Or.inr ⟨_, rfl, by simp⟩
  | x :: rest, k, hv => by
    rw [pullA_cons]
    cases pullB S l hv k k with
    | none => exact Or.inl ⟨_, rfl⟩
    | some z =>
      simp only
      split
      · exact Or.inl ⟨_, rfl⟩
      · rcases pullA_tells S l rest (k + 1) (hv ++ [z]) with h | ⟨hv', h, h2⟩
        · exact Or.inl h
        · exact Or.inr ⟨hv', h, by rw [h2]; simp; omega⟩
def deepH (hv : List (Bool × List Int)) : Nat := hv.foldl (fun d z => max d z.2.length) 0
theorem deepH_snoc {hv : List (Bool × List Int)} {k : Nat} {z : Bool × List Int} (h : hv[k]? = some z) : deepH (hv.take (k + 1)) = max (deepH (hv.take k)) z.2.length := by
  rw [take_snoc hv k z h]
  unfold deepH
  rw [List.foldl_append]
  rfl
theorem deepH_map (ps : List PlA) : deepH (ps.map pairP) = deepA ps := by
  unfold deepH deepA
  rw [List.foldl_map]
  rfl
/-- The reference's answer. -/
def refA (S : List FieldA) (l : List ValA) : Nat × Nat × Int :=
  if (soundA S l).2 ≠ 0 then (0, soundA S l) else (((pullA S l 0 l []).1.map deepH).getD 0, (pullA S l 0 l []).2)
theorem startA_get (S : List FieldA) (l : List ValA) (t : Nat) (ht : t ≤ l.length) : (startA l)[t]? = some (pushB S l [] t 0) := by
  unfold startA
  rw [bringAt_get (P := plZ) (by rw [List.getElem?_replicate, if_pos (by omega)]), pushB]
  by_cases h : t = 0
  · subst h; rfl
  · rw [if_neg (fun q => h q.symm), if_neg h]
theorem verify_ref (S : List FieldA) (l : List ValA) : verifyA S l = refA S l := by
  unfold verifyA refA lookA soundA
  by_cases h1 : errS S = 0
  · rw [if_neg (show ¬ errS S ≠ 0 from fun q => q h1), if_neg (show ¬ errS S ≠ 0 from fun q => q h1)]
    by_cases h2 : (checkI S l).2 = 0
    · rw [if_neg (show ¬ (checkI S l).2 ≠ 0 from fun q => q h2), if_neg (show ¬ (checkI S l).2 ≠ 0 from fun q => q h2)]
      by_cases h3 : (checkT l).2 = 0
      · rw [if_neg (show ¬ (checkT l).2 ≠ 0 from fun q => q h3), if_neg (show ¬ (checkT l).2 ≠ 0 from fun q => q h3)]
        obtain ⟨hl, hF⟩ := checkI_zero h2
        obtain ⟨ha, hb⟩ := run_pull S l (fun i hi => (opd_kind _ (op_cases (formB_zero (hF i hi).1).1)).2.2.1) l 0 [] (startA l) rfl (Nat.zero_le _) rfl (by unfold startA; rw [bringAt_length, List.length_replicate]) (fun t ht => startA_get S l t ht) (fun j hj => absurd hj (Nat.not_lt_zero _))
        rw [ha, ← hb, Option.map_map]
        congr 2
        cases (runA S 0 l (startA l)).1 with
        | none => rfl
        | some ps => simp [deepH_map]
      · rw [if_pos h3, if_pos h3]; rfl
    · rw [if_pos h2, if_pos h2, if_pos h2]; rfl
  · rw [if_pos h1, if_pos h1]
    simp
set_option maxRecDepth 100000 in
set_option maxHeartbeats 2000000 in
theorem refVerify_v (S : List FieldA) (so : Option Addr) (sc : Nat) (l : List ValA) (v : Value) (w : World) (hS : FldsAt w (.slice so S.length sc) S) (h : ValsAt w v l) (hI : InR l) :
    Calls Tryd.prog 12 #[.agg #[.slice so S.length sc], v] w fun e w' => e = .returned (.tuple #[.int .i64 ((refA S l).1 : Int), .int .i64 ((refA S l).2.1 : Int), .int .i64 (refA S l).2.2]) ∧ Keeps (fun _ => False) w w' := by
  obtain ⟨ao, cap, rfl⟩ := RowAt.form h
  obtain ⟨HB, hbb, hbc⟩ := boxed w #[.slice so S.length sc] 24
  have s0 := hbc 0 (.slice so S.length sc) rfl
  have HQ := hide (sound_v S so sc l _ _ (hS.keepF (unhide HB)) (h.keepF (unhide HB)) hI)
  have HS := hide (hS.keepF (unhide HB))
  have HV := hide (h.keepF (unhide HB))
  have HL : Hid (refA S l = if (soundA S l).2 ≠ 0 then (0, soundA S l) else (((pullA S l 0 l []).1.map deepH).getD 0, (pullA S l 0 l []).2)) := rfl
  have HSO : Hid ((soundA S l).2 = 0 → (l.length ≤ 96 ∧ ∀ i ∈ l, formB i = 0 ∧ rightF S i = true) ∧ ∀ f ∈ S, isK f.type) := by
    intro hz
    unfold soundA at hz
    by_cases h1 : errS S = 0
    · rw [if_neg (show ¬ errS S ≠ 0 from fun q => q h1)] at hz
      refine ⟨?_, schema_isK h1⟩
      by_cases h2 : (checkI S l).2 = 0
      · exact checkI_zero h2
      · rw [if_pos h2] at hz; exact absurd hz h2
    · rw [if_pos h1] at hz; cases hz
  generalize refA S l = V at *
  generalize soundA S l = R at *
  generalize hWb : w.alloc (.cells #[.slice so S.length sc] 24) = Wb at *
  obtain ⟨ra, re⟩ := R
  simp only at *
  clear hbc h hS hI
  go_enter Tryd.func12, Tryd.ntmps12
  go_wp2_with fail
  refine (unhide HQ).mono ?_
  rintro e w1 ⟨rfl, hk1⟩
  have HK1 := hide ((unhide HB).trans hk1)
  have s1 := (hk1.cell hbb id).trans s0
  have HS1 := hide ((unhide HS).keepF hk1)
  have HV1 := hide ((unhide HV).keepF hk1)
  clear hk1 HQ HS HV
  by_cases hre : re = 0
  · obtain ⟨⟨hl, hF⟩, hK⟩ := (unhide HSO) hre
    rw [if_neg (show ¬ re ≠ 0 from fun q => q hre)] at HL
    have HQ := hide (stacks_v S so sc l _ w1 (unhide HS1) (unhide HV1) hl hK hF)
    have HT := hide (pullA_tells S l l 0 [])
    generalize pullA S l 0 l [] = PA at *
    subst hre
    clear HSO hF hK HS1 HV1
    go_wp2_with fail
    refine (unhide HQ).mono ?_
    rintro e w2 ⟨vb, vs, bad, rfl, hst, hk2⟩
    have HK2 := hide ((unhide HK1).trans hk2)
    clear hk2 HQ
    rcases unhide HT with ⟨k', rfl⟩ | ⟨hv, rfl, hvl⟩
    · obtain ⟨rfl, rfl, rfl⟩ := hst
      have HE : Hid (V = (0, k', 112)) := unhide HL
      have i1 : (0 : Int) ≤ (k' : Int) := by omega
      clear HL HT
      go_wp2_with fail
      go_ret3
      rw [unhide HE]
      exact ⟨rfl, unhide HK2⟩
    · obtain ⟨rfl, ho1, ho2⟩ := hst
      have HE : Hid (V = (deepH hv, 0, 0)) := unhide HL
      simp only [List.length_nil, Nat.zero_add] at hvl
      have hpos : 0 < hv.length := by omega
      obtain ⟨g1, c1, rfl, _, _⟩ := World.ownsRow.form ho1 hpos
      obtain ⟨g2, c2, rfl, _, hg2⟩ := World.ownsRow.form ho2 hpos
      have HO2 := hide ho2
      have hN : (hv.length : Int) ≤ 97 := by omega
      clear HL HT ho1 ho2 hvl
      go_wp2_with fail
      go_loopw [12, 13] (fun d i wr => ∃ k : Nat, k ≤ hv.length ∧ i = .int .i64 k ∧ d = .int .i64 ((deepH (hv.take k) : Nat) : Int) ∧ wr = w2) (fun d i _ => hv.length - (intOf i).toNat)
      case atStart => exact ⟨0, Nat.zero_le _, rfl, rfl, rfl⟩
      case round =>
        obtain ⟨k, hk, rfl, rfl, rfl⟩ := hrel
        by_cases hlt : k < hv.length
        · obtain ⟨z, hz⟩ : ∃ z, hv[k]? = some z := ⟨_, List.getElem?_eq_getElem hlt⟩
          have c0 := ((unhide HO2).cellAt k (by omega)).trans (rss_get hz)
          have HD := hide (deepH_snoc hz)
          have hll : (z.2.map letR).length = z.2.length := List.length_map ..
          generalize z.2.map letR = q at *
          generalize z.2.length = ZL at *
          have i2 : (k : Int) < (hv.length : Int) := by omega
          have i0' : (0 : Int) ≤ (k : Int) := by omega
          generalize deepH (hv.take k) = D at *
          clear hz
          by_cases hd : D < ZL
          · have id1 : (D : Int) < (ZL : Int) := by omega
            clear hd
            go_wp2_with fail
            go_roundw
            case rel => exact ⟨k + 1, by omega, by go_num, by rw [unhide HD]; congr 1; omega, by first | rfl | trivial⟩
            case measure => simp [intOf]; omega
          · have id1 : ¬ (D : Int) < (ZL : Int) := by omega
            clear hd
            go_wp2_with fail
            go_roundw
            case rel => exact ⟨k + 1, by omega, by go_num, by rw [unhide HD]; congr 1; omega, by first | rfl | trivial⟩
            case measure => simp [intOf]; omega
        · obtain rfl : k = hv.length := by omega
          have i2 : ¬ (hv.length : Int) < (hv.length : Int) := by omega
          rw [List.take_length]
          clear hlt
          go_wp2_with fail
          go_ret3
          rw [unhide HE]
          exact ⟨rfl, unhide HK2⟩
  · have bre : (re != 0) = true := by rw [bne_iff_ne]; exact hre
    rw [if_pos hre] at HL
    have HE : Hid (V = (0, ra, re)) := unhide HL
    clear HL hre HSO
    go_wp2_with fail
    go_ret3
    rw [unhide HE]
    exact ⟨rfl, unhide HK1⟩

end Go.Proofs.YtafniangljmjeabDoor
namespace Go.Proofs.YtafniangljmjeabDoor
open Go.RowKit Go.Maps

set_option maxRecDepth 100000 in
set_option maxHeartbeats 2000000 in
theorem twin_v (w : World) (v : Value) (l : List FieldA) (h : FldsAt w v l) (hl : l.length ≤ 4398046511104) :
    Calls Tryd.prog 6 #[.agg #[v]] w fun e w' => ∃ v', e = .returned (.agg #[v']) ∧ w'.ownsRow w.heap.size 45 3 v' l.length (fcs l) ∧ Keeps (fun _ => False) w w' := by
  obtain ⟨i0, hi, hz0, hz1, hz2⟩ := info_parts Tryd.info45
  obtain ⟨ao, cap, rfl⟩ := RowAt.form h
  obtain ⟨w3, hw3⟩ : ∃ w3, w3 = ((w.alloc (.cells #[.slice ao l.length cap] 24)).alloc (.cells #[.slice none 0 0] 24)).alloc (.cells #[.slice none 0 0] 24) := ⟨_, rfl⟩
  have hK : Keeps (fun _ => False) w w3 := by rw [hw3]; exact (((Keeps.refl _ _).alloc _).alloc _).alloc _
  have hs3 : w3.heap.size = w.heap.size + 3 := by rw [hw3]; simp
  have b0 : w3.heap[w.heap.size]? = some (.cells #[.slice ao l.length cap] 24 (0, 0)) := by
    rw [hw3, Below.heap_alloc _ _ _ (by simp; omega), Below.heap_alloc _ _ _ (by simp)]
    exact heap_alloc_new w _
  have b1 : w3.heap[w.heap.size + 1]? = some (.cells #[.slice none 0 0] 24 (0, 0)) := by
    rw [hw3, Below.heap_alloc _ _ _ (by simp)]
    have := heap_alloc_new (w.alloc (.cells #[.slice ao l.length cap] 24)) (.cells #[.slice none 0 0] 24)
    simpa using this
  have b2 : w3.heap[w.heap.size + 1 + 1]? = some (.cells #[.slice none 0 0] 24 (0, 0)) := by
    rw [hw3]
    have := heap_alloc_new ((w.alloc (.cells #[.slice ao l.length cap] 24)).alloc (.cells #[.slice none 0 0] 24)) (.cells #[.slice none 0 0] 24)
    simpa using this
  have HF := hide (h.keepF hK)
  have HW := hide hw3
  have HK := hide hK
  have HL := hide hl
  have B0 := hide b0
  have B1 := hide b1
  have B2 := hide b2
  have HS := hide hs3
  clear h hw3 hK b0 b1 b2 hs3 hl
  have hl' : l.length ≤ 9223372036854775807 := by have := unhide HL; omega
  go_enter Tryd.func6, Tryd.ntmps6
  go_wp2
  rw [← unhide HW]
  go_loopw [4] (fun i wr => ∃ (k : Nat) (o : Value), k ≤ l.length ∧ i = .int .i64 k ∧ wr.heap[w.heap.size + 1 + 1]? = some (.cells #[o] 24 (0, 0)) ∧ wr.ownsRow w3.heap.size 45 3 o k (fcs (l.take k)) ∧ Keeps (fun q => q = w.heap.size + 1 + 1) w3 wr) (fun i _ => l.length - (intOf i).toNat)
  case atStart => exact ⟨0, _, Nat.zero_le _, rfl, unhide B2, by simpa [fcs] using World.ownsRow_nil w3 w3.heap.size 45 3, Keeps.refl _ _⟩
  case round =>
    obtain ⟨k, o, hk, rfl, hbo, hown, hkp⟩ := hrel
    obtain ⟨oo, oc, rfl⟩ := (rowAt_own hown).form
    have HBo := hide hbo
    have HO := hide hown
    have HP := hide hkp
    have p0 : wr.cell? ⟨w.heap.size, 0, none⟩ = some (.slice ao l.length cap) := (hkp.cell (lt_of_block (unhide B0)) (by show ¬ _ = _; omega)).trans (by rw [cell_of_blk (unhide B0)]; rfl)
    have p2 : wr.cell? ⟨w.heap.size + 1 + 1, 0, none⟩ = some (.slice oo k oc) := by rw [cell_of_blk hbo]; rfl
    have f2 := frozen_of_blk hbo 0
    have z2 := lt_of_block hbo
    have z0 : w.heap.size < wr.heap.size := by omega
    by_cases hlt : k < l.length
    · obtain ⟨b, off, c1, e1, hbl, hc⟩ := (unhide HF).cells (by omega)
      simp at e1
      obtain ⟨rfl, rfl⟩ := e1
      obtain ⟨f, hf⟩ : ∃ f, l[k]? = some f := ⟨_, List.getElem?_eq_getElem hlt⟩
      have hbne : b ≠ w.heap.size + 1 + 1 := by
        rintro rfl
        have h1 := (hc k f hf).2.1
        have h2 := (hc k f hf).2.2
        rw [cell_of_blk (unhide B2)] at h1 h2
        rw [Array.getElem?_eq_none (by simp)] at h2
        cases h2
      have c0 := (hkp.cell hbl (by show ¬ _ = _; omega)).trans (hc k f hf).1
      have c1 := (hkp.cell hbl (by show ¬ _ = _; omega)).trans (hc k f hf).2.1
      have c2 := (hkp.cell hbl (by show ¬ _ = _; omega)).trans (hc k f hf).2.2
      have z1 : b < wr.heap.size := Nat.lt_of_lt_of_le hbl hkp.size
      have HX := hide hf
      have HN := hide (ownsRow_ne hown hbo (by decide))
      have i1 : (k : Int) < (l.length : Int) := by omega
      have i0' : (0 : Int) ≤ (k : Int) := by omega
      clear hc hf hbo hown hkp
      go_wp2_with fail
      go_region_law (first
        | (refine step_append_lies _ (by rfl) _ _ _ (by rfl) w3.heap.size 45 i0 _ 3 32 Tryd.underlying22 hi hz0 hz1 hz2 rfl (by omega) (.slice oo k oc) k (fcs (l.take k)) (by rfl) (((unhide HO).alloc _).drew)
            ⟨wr.heap.size, 0, none⟩ 1 1 f.cs (by rfl) (by rfl) (World.news_of_block (cs := #[str f.name, .int .i64 f.type, .bool f.opt]) (t := 45) (fr := (0, 0)) (by exact heap_alloc_new wr _)) (by simp [Value.oneCell', FieldA.cs])
            (by omega) (by unfold maxLen; omega) (by have := unhide HL; omega) (by have := (unhide HP).size; simp; omega) (wr.heap.size + 1) (by simp) ?_; intro g cap' w5 hown2 hgrow hat hlt2
           have f2' : w5.frozen? ⟨w.heap.size + 1 + 1, 0, none⟩ = false := by (rw [hgrow.frozen_far _ (by simp; omega) (Ne.symm (unhide HN))]; simpa [World.frozen?_alloc_past, z2] using f2)
           have p2' : w5.cell? ⟨w.heap.size + 1 + 1, 0, none⟩ = some (.slice oo k oc) := by (rw [hgrow.cell_far _ (by simp; omega) (Ne.symm (unhide HN))]; simpa [World.cell?_alloc_past, z2] using p2)))
      all_goals
        have hb5 : w5.heap[w.heap.size + 1 + 1]? = some (.cells #[.slice oo k oc] 24 (0, 0)) := by
          rw [hgrow.block (w.heap.size + 1 + 1) (by simp; omega) (Ne.symm (unhide HN))]
          show (wr.alloc _).heap[w.heap.size + 1 + 1]? = _
          rw [Below.heap_alloc _ _ _ z2]
          exact unhide HBo
        have H5 := hide hb5
        have HO2 := hide hown2
        have HG2 := hide hgrow
        clear hb5 hown2 hgrow
        go_wp2
        go_roundw
        case rel =>
          refine ⟨k + 1, .slice (some ⟨g, 0, none⟩) (k + 1) cap', by omega, by go_num, ?_, ?_, ?_⟩
          · rw [heap_setCell_at (unhide H5)]; rfl
          · rw [take_snoc _ _ _ (unhide HX)]
            have h1 : w5.ownsRow w3.heap.size 45 3 (.slice (some ⟨g, 0, none⟩) (k + 1) cap') (k + 1) (fcs (l.take k ++ [f])) := by simpa [fcs] using unhide HO2
            exact ownsRow_kept (F := fun q => q = w.heap.size + 1 + 1) h1 (keeps_set w5 _ 0 _) (fun q e e2 => by subst e2; exact ownsRow_ne h1 (unhide H5) (by decide) e)
          · exact ((((unhide HP).alloc _).drew).grown (unhide HG2) (fun q e hq => by have := ((unhide HO).lt q e).1; omega)).setCell (fun _ => rfl) _
        case measure => simp [intOf]; omega
    · obtain rfl : k = l.length := by omega
      have hb1 : wr.heap[w.heap.size + 1]? = some (.cells #[.slice none 0 0] 24 (0, 0)) := by rw [hkp.block _ (lt_of_block (unhide B1)) (by show ¬ _ = _; omega)]; exact unhide B1
      have p1 : wr.cell? ⟨w.heap.size + 1, 0, none⟩ = some (.slice none 0 0) := by rw [cell_of_blk hb1]; rfl
      have f1 := frozen_of_blk hb1 0
      have H1 := hide hb1
      have HN1 := hide (ownsRow_ne hown hb1 (by decide))
      clear hb1 hown hkp hbo
      go_wp2
      have hq : (wr.setCell ⟨w.heap.size + 1, 0, none⟩ (.slice oo l.length oc)).cell? ⟨w.heap.size + 1, 0, none⟩ = some (.slice oo l.length oc) := by rw [cell_of_blk (heap_setCell_at (unhide H1) _)]; rfl
      refine bodyPost_ret (v := .agg #[.slice oo l.length oc]) (by simp [results, go_sem, hq]) rfl ?_
      refine ⟨.slice oo l.length oc, rfl, ?_, ?_⟩
      · have h1 := unhide HO
        rw [List.take_length] at h1
        exact ownsRow_lower (ownsRow_kept (F := fun q => q = w.heap.size + 1) h1 (keeps_set wr _ 0 _) (fun q e e2 => unhide HN1 (by rw [← e2]; exact e))) (unhide HK).size
      · exact (unhide HK).narrow (F := fun q => q = w.heap.size + 1 + 1 ∨ q = w.heap.size + 1) (((unhide HP).mono (fun q _ h => Or.inl h)).then (keeps_set wr (w.heap.size + 1) 0 _) (fun q _ h => Or.inr h)) (fun q h => by omega)

end Go.Proofs.YtafniangljmjeabDoor
