import Derived.Test.YtbokbdcjpbnodaaGreatDoorLm
import Derived.Test.YtbokbdcjpbnodaaGreatDoorZc1
import Derived.Test.YtbokbdcjpbnodaaGreatDoorLj
import Derived.Test.YtbokbdcjpbnodaaGreatDoorKg
import Derived.Test.YtbokbdcjpbnodaaGreatDoorLh
import Derived.Deep.DeepCutAuto
namespace Go.Proofs.YtbokbdcjpbnodaaGreatDoor
open Go.RowKit Go.Maps
set_option maxRecDepth 100000
set_option maxHeartbeats 20000000
theorem chains_walk (S : List FieldA) (sv u vm : Value) (hh : Bool) (vals : List ValA) (L : List MsgC) (cut : Int) (w : World) (hE : EnvM w) (hS : FldsAt w sv S) (hr : ValsAt w u vals) (hm : MsgsAt w vm L) (hSL : S.length ≤ 4398046511104) (hVL : vals.length ≤ 4398046511104) (hL : L.length * 72 ≤ 140737488355328) :
  Calls Tryz.prog 8 #[.agg #[sv], .agg #[.bool hh, u], vm, .int .i64 cut] w fun e w' => e = .returned (.bool true) ∧ Keeps (fun _ => False) w w' := by
 have HAL : Hid ((applyA S hh vals (L.map MsgC.m)).vals.length ≤ maxLen) := Nat.le_trans (apply_len (M := 4398046511104) (by omega) hVL (fun m hm' => by obtain ⟨x, hx, rfl⟩ := List.mem_map.1 hm'; exact (hm.ok x hx).lv)) (by unfold maxLen; omega)
 have hvl : vals.length ≤ maxLen := by unfold maxLen; omega
 have hLL : L.length ≤ 4398046511104 := by omega
 have hml : (L.map MsgC.m).length ≤ 4398046511104 := by simpa using hLL
 obtain ⟨so, sc, rfl⟩ := RowAt.form hS
 obtain ⟨uo, uc, rfl⟩ := RowAt.form hr
 obtain ⟨mo, mc, rfl⟩ := RowAt.form hm.row
 obtain ⟨X0, hX0, hkW, g0, g1⟩ := boxes2 w #[.slice so S.length sc] #[.bool hh, .slice uo vals.length uc] 24 28
 have PE := hide (hE.keepF hkW)
 have PS := hide (hS.keepF hkW)
 have PR := hide (hr.keepF hkW)
 have PM := hide (hm.keepF hkW)
 have HK := hide hkW
 have BS := hide g0
 have BR := hide g1
 obtain ⟨AO, HAA⟩ : ∃ AO, Hid (applyA S hh vals (L.map MsgC.m) = AO) := ⟨_, rfl⟩
 rw [uh HAA] at HAL
 have hee : (AO.e != AO.e) = false := by simp
 clear hE hS hr hm hkW g0 g1
 have cc1 := cl1 (uh BS)
 obtain ⟨cc2, cc3⟩ := cl2 (uh BR)
 have HQ := hide (copyMsgs_v X0 _ L (uh PM) hL)
 go_enter Tryz.func8, Tryz.ntmps8
 go_wp2_with fail
 refine (uh HQ).mono ?_
 rintro e w1 ⟨no, nc, N, rfl, hN1, hN2, hk⟩
 clear HQ
 clear cc1 cc2 cc3
 replace BS := hide (blk_keep (uh BS) hk)
 replace BR := hide (blk_keep (uh BR) hk)
 replace PE := hide ((uh PE).keepF hk)
 replace PS := hide ((uh PS).keepF hk)
 replace PR := hide ((uh PR).keepF hk)
 replace PM := hide ((uh PM).keepF hk)
 replace HK := hide ((uh HK).trans hk)
 have PN := hide hN2
 have HNM := hide hN1
 clear hN1 hN2 hk
 obtain ⟨cc4, cc5⟩ := cl2 (uh BR)
 have HQ := hide (copyRowL_v w1 hh _ vals (uh PR) hVL)
 go_wp2_with fail
 refine (uh HQ).mono ?_
 rintro e w2 ⟨qo, qc, rfl, hoq, hk⟩
 clear HQ
 clear cc4 cc5
 replace BS := hide (blk_keep (uh BS) hk)
 replace BR := hide (blk_keep (uh BR) hk)
 replace PE := hide ((uh PE).keepF hk)
 replace PS := hide ((uh PS).keepF hk)
 replace PR := hide ((uh PR).keepF hk)
 replace PM := hide ((uh PM).keepF hk)
 replace PN := hide ((uh PN).keepF hk)
 replace HK := hide ((uh HK).trans hk)
 have PQ : Hid (ValsAt w2 (.slice qo vals.length qc) vals) := rowAt_own hoq
 clear hoq hk
 have kN := kAlloc w2 (.cells #[.bool hh, .slice qo vals.length qc] 28)
 have hN := heap_alloc_new w2 (.cells #[.bool hh, .slice qo vals.length qc] 28)
 generalize hXX2 : w2.alloc (.cells #[.bool hh, .slice qo vals.length qc] 28) = X2 at *
 replace BS := hide (blk_keep (uh BS) kN)
 replace BR := hide (blk_keep (uh BR) kN)
 replace PE := hide ((uh PE).keepF kN)
 replace PS := hide ((uh PS).keepF kN)
 replace PR := hide ((uh PR).keepF kN)
 replace PM := hide ((uh PM).keepF kN)
 replace PN := hide ((uh PN).keepF kN)
 replace PQ := hide ((uh PQ).keepF kN)
 replace HK := hide ((uh HK).trans kN)
 have BQ := hide hN
 clear kN hN
 go_upto_region 3 with fail
 go_cut [11, 12] (fun p e wx => ∃ R o c, p = .pointer (some ⟨R, 0, none⟩) ∧ e = .int .i64 AO.e ∧ Hid (Ans X2 AO R o c wx))
 case first =>
  have HSK : Hid (∀ w', Keeps (fun q => X2.heap.size ≤ q) X2 w' → w'.cell? ⟨w.heap.size, 0, none⟩ = some (.slice so S.length sc) ∧ w'.cell? ⟨w2.heap.size, 0, none⟩ = some (.bool hh) ∧ w'.cell? ⟨w2.heap.size, 1, none⟩ = some (.slice qo vals.length qc)) := fun w' hk => by
   have x1 := (hk.block _ (lt_of_block (uh BS)) (by have := lt_of_block (uh BS); omega)).trans (uh BS)
   have x2 := (hk.block _ (lt_of_block (uh BQ)) (by have := lt_of_block (uh BQ); omega)).trans (uh BQ)
   exact ⟨cl1 x1, cl2 x2⟩
  obtain ⟨fa0, fa1, fa2⟩ := uh HSK X2 (Keeps.refl _ _)
  have HL := hide ((⟨Keeps.refl _ _, fun _ e => (by cases e), fun _ e => (by cases e; exact uh PQ), fun _ e => (by cases e; exact ⟨N, uh HNM, uh PN⟩), fun _ e => (by cases e), fun _ e => (by cases e)⟩ : Stt X2 S vals (L.map MsgC.m) AO none (some (.slice qo vals.length qc)) (some (.slice no L.length nc)) none none X2))
  go_region_held3 (fun w' => w'.cell? ⟨w.heap.size, 0, none⟩ = some (.slice so S.length sc) ∧ w'.cell? ⟨w2.heap.size, 0, none⟩ = some (.bool hh) ∧ w'.cell? ⟨w2.heap.size, 1, none⟩ = some (.slice qo vals.length qc))
   (first | with_reducible exact uh HSK _ (uh HL).kept.any | with_reducible exact uh HSK _ (uh HL).kept.any.drew | with_reducible exact uh HSK _ ((uh HL).kept.any.alloc _) | with_reducible exact uh HSK _ ((uh HL).kept.any.alloc _).drew | with_reducible exact uh HSK _ ((uh HL).kept.any.trans (kset2N ((uh HL).z _ rfl).2 _ _)) | with_reducible exact uh HSK _ (((uh HL).kept.any.alloc _).trans (kset2N (uh HL).kept.size _ _)))
   ((first
   | (go_at_call 19; refine (stt_twin (by first | with_reducible exact uh HL | with_reducible exact (uh HL).drew | with_reducible exact (uh HL).alloc | with_reducible exact (uh HL).alloc.drew) (uh PS) hSL).mono ?_; rintro e w3 ⟨t1o, t1c, rfl, hl3⟩; have HL := hide hl3; clear hl3)
   | (go_at_call 28; refine (stt_all (by first | with_reducible exact uh HL | with_reducible exact (uh HL).drew | with_reducible exact (uh HL).alloc | with_reducible exact (uh HL).alloc.drew) (uh PE) (uh HAA) hml).mono ?_; rintro e w3 ⟨ro, rc, rfl, hl3⟩; (try (have hz5 := (hl3.z _ rfl).1; obtain ⟨m0, m1⟩ := cl2 hz5; obtain ⟨z0, z1⟩ := fz2 hz5; clear hz5)); have HL := hide hl3; clear hl3)
   ))
  all_goals go_wp2_with fail
  all_goals go_meet
  all_goals first | exact ⟨_, _, _, rfl, rfl, (uh HL).late⟩ | exact ⟨_, _, _, rfl, rfl, (uh HL).early⟩
 case rest =>
  obtain ⟨R3, ro3, rc3, rfl, rfl, HAN⟩ := hcut
  obtain ⟨hb, hv, hk⟩ := uh HAN
  replace BS := hide (blk_keep (uh BS) hk)
  replace BR := hide (blk_keep (uh BR) hk)
  replace BQ := hide (blk_keep (uh BQ) hk)
  replace PE := hide ((uh PE).keepF hk)
  replace PS := hide ((uh PS).keepF hk)
  replace PR := hide ((uh PR).keepF hk)
  replace PM := hide ((uh PM).keepF hk)
  replace PN := hide ((uh PN).keepF hk)
  replace PQ := hide ((uh PQ).keepF hk)
  replace HK := hide ((uh HK).trans hk)
  have BG := hide hb
  have PG := hide hv
  clear hb hv hk HAN
  have cc201 := cl1 (uh BS)
  obtain ⟨cc202, cc203⟩ := cl2 (uh BR)
  have HQ := hide (applyAllR_v S _ _ _ hh vals L wc (uh PS) (uh PR) (uh PM) hLL hVL)
  rw [uh HAA] at HQ
  go_wp2_with fail
  refine (uh HQ).mono ?_
  rintro e w4 ⟨ho, hc, rfl, hv4, hk⟩
  clear HQ
  clear cc201 cc202 cc203
  replace BS := hide (blk_keep (uh BS) hk)
  replace BR := hide (blk_keep (uh BR) hk)
  replace BQ := hide (blk_keep (uh BQ) hk)
  replace BG := hide (blk_keep (uh BG) hk)
  replace PE := hide ((uh PE).keepF hk)
  replace PS := hide ((uh PS).keepF hk)
  replace PR := hide ((uh PR).keepF hk)
  replace PM := hide ((uh PM).keepF hk)
  replace PN := hide ((uh PN).keepF hk)
  replace PQ := hide ((uh PQ).keepF hk)
  replace PG := hide ((uh PG).keepF hk)
  replace HK := hide ((uh HK).trans hk)
  have PH := hide hv4
  clear hv4 hk
  have kN := kAlloc w4 (.cells #[.bool AO.here, .slice ho AO.vals.length hc] 28)
  have hN := heap_alloc_new w4 (.cells #[.bool AO.here, .slice ho AO.vals.length hc] 28)
  generalize hXX5 : w4.alloc (.cells #[.bool AO.here, .slice ho AO.vals.length hc] 28) = X5 at *
  replace BS := hide (blk_keep (uh BS) kN)
  replace BR := hide (blk_keep (uh BR) kN)
  replace BQ := hide (blk_keep (uh BQ) kN)
  replace BG := hide (blk_keep (uh BG) kN)
  replace PE := hide ((uh PE).keepF kN)
  replace PS := hide ((uh PS).keepF kN)
  replace PR := hide ((uh PR).keepF kN)
  replace PM := hide ((uh PM).keepF kN)
  replace PN := hide ((uh PN).keepF kN)
  replace PQ := hide ((uh PQ).keepF kN)
  replace PG := hide ((uh PG).keepF kN)
  replace PH := hide ((uh PH).keepF kN)
  replace HK := hide ((uh HK).trans kN)
  have BH := hide hN
  clear kN hN
  obtain ⟨cc204, cc205⟩ := cl2 (uh BG)
  obtain ⟨cc206, cc207⟩ := cl2 (uh BH)
  have HQ := hide (eqRow_v X5 AO.here AO.here _ _ AO.vals AO.vals (uh PG) (uh PH) (uh HAL))
  rw [decide_eq_true (show AO.here = AO.here from rfl), decide_eq_true (show AO.vals = AO.vals from rfl)] at HQ
  simp only [Bool.and_true] at HQ
  go_wp2_with fail
  refine (uh HQ).mono ?_
  rintro e w6 ⟨rfl, hk⟩
  clear HQ
  clear cc204 cc205 cc206 cc207
  replace BS := hide (blk_keep (uh BS) hk)
  replace BR := hide (blk_keep (uh BR) hk)
  replace BQ := hide (blk_keep (uh BQ) hk)
  replace BG := hide (blk_keep (uh BG) hk)
  replace BH := hide (blk_keep (uh BH) hk)
  replace PE := hide ((uh PE).keepF hk)
  replace PS := hide ((uh PS).keepF hk)
  replace PR := hide ((uh PR).keepF hk)
  replace PM := hide ((uh PM).keepF hk)
  replace PN := hide ((uh PN).keepF hk)
  replace PQ := hide ((uh PQ).keepF hk)
  replace PG := hide ((uh PG).keepF hk)
  replace PH := hide ((uh PH).keepF hk)
  replace HK := hide ((uh HK).trans hk)
  clear hk
  obtain ⟨cc208, cc209⟩ := cl2 (uh BQ)
  obtain ⟨cc210, cc211⟩ := cl2 (uh BR)
  have HQ := hide (eqRow_v w6 hh hh _ _ vals vals (uh PQ) (uh PR) hvl)
  rw [decide_eq_true (show hh = hh from rfl), decide_eq_true (show vals = vals from rfl)] at HQ
  simp only [Bool.and_true] at HQ
  go_wp2_with fail
  refine (uh HQ).mono ?_
  rintro e w7 ⟨rfl, hk⟩
  clear HQ
  clear cc208 cc209 cc210 cc211
  replace BS := hide (blk_keep (uh BS) hk)
  replace BR := hide (blk_keep (uh BR) hk)
  replace BQ := hide (blk_keep (uh BQ) hk)
  replace BG := hide (blk_keep (uh BG) hk)
  replace BH := hide (blk_keep (uh BH) hk)
  replace PE := hide ((uh PE).keepF hk)
  replace PS := hide ((uh PS).keepF hk)
  replace PR := hide ((uh PR).keepF hk)
  replace PM := hide ((uh PM).keepF hk)
  replace PN := hide ((uh PN).keepF hk)
  replace PQ := hide ((uh PQ).keepF hk)
  replace PG := hide ((uh PG).keepF hk)
  replace PH := hide ((uh PH).keepF hk)
  replace HK := hide ((uh HK).trans hk)
  clear hk
  have HQ := hide (eqMsgs_v w7 _ _ N L (uh PN) (uh PM) (uh HNM) (by have := congrArg List.length (uh HNM); simp at this; omega))
  go_wp2_with fail
  refine (uh HQ).mono ?_
  rintro e w8 ⟨rfl, hk⟩
  clear HQ
  replace BS := hide (blk_keep (uh BS) hk)
  replace BR := hide (blk_keep (uh BR) hk)
  replace BQ := hide (blk_keep (uh BQ) hk)
  replace BG := hide (blk_keep (uh BG) hk)
  replace BH := hide (blk_keep (uh BH) hk)
  replace PE := hide ((uh PE).keepF hk)
  replace PS := hide ((uh PS).keepF hk)
  replace PR := hide ((uh PR).keepF hk)
  replace PM := hide ((uh PM).keepF hk)
  replace PN := hide ((uh PN).keepF hk)
  replace PQ := hide ((uh PQ).keepF hk)
  replace PG := hide ((uh PG).keepF hk)
  replace PH := hide ((uh PH).keepF hk)
  replace HK := hide ((uh HK).trans hk)
  clear hk
  by_cases hz : ¬ AO.e = 0
  ·have e1 : (AO.e != 0) = true := by simpa using hz
   go_wp2_with fail
   go_ret
   exact ⟨rfl, uh HK⟩
  replace hz : AO.e = 0 := Classical.byContradiction hz
  have e1 : (AO.e != 0) = false := by simpa using hz
  have HBD : Hid (∀ b : Bool, b = (decide (cut < 0) || decide ((L.length : Int) < cut)) → True) := fun _ _ => trivial
  clear HBD
  obtain ⟨cN, hcN, hcE⟩ : ∃ cN : Nat, cN ≤ L.length ∧ ((cut < 0 ∨ (L.length : Int) < cut) ∧ cN = L.length / 2 ∨ ¬ (cut < 0 ∨ (L.length : Int) < cut) ∧ cut = (cN : Int)) := by
   by_cases hb : cut < 0 ∨ (L.length : Int) < cut
   ·exact ⟨L.length / 2, by omega, Or.inl ⟨hb, rfl⟩⟩
   ·exact ⟨cut.toNat, by omega, Or.inr ⟨hb, by omega⟩⟩
  have hq2 : ((L.length : Int)).tdiv 2 = ((L.length / 2 : Nat) : Int) := by rw [Int.tdiv_eq_ediv_of_nonneg (by omega)]; omega
  go_upto_region 9 with fail
  go_cut [72] (fun b wx => b = .bool (decide (cut < 0 ∨ (L.length : Int) < cut)) ∧ wx = w8)
  case first =>
   by_cases h1 : cut < 0
   ·have d1 : decide (cut < 0) = true := decide_eq_true h1
    go_wp2_with fail
    go_meet
    exact ⟨congrArg Value.bool (decide_eq_true (p := cut < 0 ∨ (L.length : Int) < cut) (Or.inl h1)).symm, rfl⟩
   ·have d1 : decide (cut < 0) = false := decide_eq_false h1
    go_wp2_with fail
    go_meet
    refine ⟨?_, rfl⟩
    by_cases h2 : (L.length : Int) < cut
    ·simp [h2]
    ·simp [h1, h2]
  case rest =>
   obtain ⟨rfl, rfl⟩ := hcut
   go_upto_if 72 with fail
   go_cut [3] (fun x wx => x = .int .i64 (cN : Int) ∧ wx = wc)
   case first =>
    rcases hcE with ⟨h1, h2⟩ | ⟨h1, h2⟩
    ·have d1 := decide_eq_true h1
     go_wp2_with fail
     go_meet
     exact ⟨by rw [h2]; exact congrArg (Value.int IntKind.i64) (by omega), rfl⟩
    ·have d1 := decide_eq_false h1
     go_wp2_with fail
     go_meet
     exact ⟨by rw [← h2], rfl⟩
   case rest =>
    obtain ⟨rfl, rfl⟩ := hcut
    have hroom : L.length ≤ mc := (uh PM).row.room _ _ _ rfl
    have hz0 : (applyA S hh vals (L.map MsgC.m)).e = 0 := by rw [uh HAA]; exact hz
    obtain ⟨A1, hA1, hA1e, hA2⟩ := chain_two (a := (L.take cN).map MsgC.m) (b := (L.drop cN).map MsgC.m) (S := S) (hh := hh) (vals := vals) (by rw [← List.map_append, List.take_append_drop]; exact hz0)
    rw [← List.map_append, List.take_append_drop, uh HAA] at hA2
    have HA1 := hide hA1
    have HA2 := hide hA2
    have HA1E := hide hA1e
    have HZ := hide hz
    have HZ0 := hide hz0
    have i0c : (0 : Int) ≤ (cN : Int) := by omega
    have i1c : (cN : Int) ≤ (mc : Int) := by omega
    have i2c : cN ≤ mc := by omega
    have i3c : (cN : Int) ≤ (L.length : Int) := by omega
    have i4c : (L.length : Int) ≤ (mc : Int) := by omega
    have htl : (L.take cN).length = cN := by rw [List.length_take]; omega
    have HT2 : Hid (MsgsAt wc (.slice mo cN mc) (L.take cN)) := by have := msgs_take (uh PM) hcN; rw [htl] at this; exact this
    have HTL : Hid ((L.take cN).length * 72 ≤ 140737488355328) := by show _ ≤ _; omega
    have HTM : Hid (((L.take cN).map MsgC.m).length ≤ 4398046511104) := by show _ ≤ _; rw [List.length_map]; omega
    have HDL : Hid ((L.drop cN).length * 72 ≤ 140737488355328) := by show _ ≤ _; rw [List.length_drop]; omega
    have HDM : Hid (((L.drop cN).map MsgC.m).length ≤ 4398046511104) := by show _ ≤ _; rw [List.length_map, List.length_drop]; omega
    have hPD : ∀ a : Addr, mo = some a → MsgsAt wc (.slice (some (a.add (cN * 4))) (L.length - cN) (mc - cN)) (L.drop cN) := fun a e => by subst e; exact msgs_drop2 (uh PM) hcN
    have HPD := hide hPD
    have HPN : Hid (mo = none → MsgsAt wc (.slice none (L.length - cN) (mc - cN)) (L.drop cN)) := fun e => by
     subst e
     have h0 := msgs_nil (uh PM)
     rw [h0]
     simp only [List.length_nil, Nat.zero_sub, List.drop_nil]
     exact ⟨⟨⟨_, _, rfl⟩, fun h => absurd h (by simp), fun ao m c e => by simp at e; omega⟩, fun x hx => by cases hx⟩
    have HPZ : Hid (cN = mc → ∀ (ao : Option Addr) (c : Nat), MsgsAt wc (.slice ao 0 c) (L.drop cN)) := fun e ao c => by
     have h0 : L.drop cN = [] := List.drop_eq_nil_of_le (by omega)
     rw [h0]
     exact ⟨⟨⟨_, _, rfl⟩, fun h => absurd h (by simp), fun ao m c e => by simp at e; omega⟩, fun x hx => by cases hx⟩
    generalize L.take cN = TK at *
    generalize L.drop cN = DK at *
    clear hA1 hA2 hA1e hz hz0 e1 htl hq2 hcE hPD
    go_upto_region 11 with fail
    go_cut [15, 16] (fun p e wx => ∃ R o c, p = .pointer (some ⟨R, 0, none⟩) ∧ e = .int .i64 A1.e ∧ Hid (Ans wc A1 R o c wx))
    case first =>
     have HSK : Hid (∀ w', Keeps (fun q => wc.heap.size ≤ q) wc w' → w'.cell? ⟨w.heap.size, 0, none⟩ = some (.slice so S.length sc) ∧ w'.cell? ⟨w.heap.size + 1, 0, none⟩ = some (.bool hh) ∧ w'.cell? ⟨w.heap.size + 1, 1, none⟩ = some (.slice uo vals.length uc)) := fun w' hk => by
      have x1 := (hk.block _ (lt_of_block (uh BS)) (by have := lt_of_block (uh BS); omega)).trans (uh BS)
      have x2 := (hk.block _ (lt_of_block (uh BR)) (by have := lt_of_block (uh BR); omega)).trans (uh BR)
      exact ⟨cl1 x1, cl2 x2⟩
     obtain ⟨fa0, fa1, fa2⟩ := uh HSK wc (Keeps.refl _ _)
     have HL := hide (Stt.first wc S vals (TK.map MsgC.m) A1)
     go_region_held3 (fun w' => w'.cell? ⟨w.heap.size, 0, none⟩ = some (.slice so S.length sc) ∧ w'.cell? ⟨w.heap.size + 1, 0, none⟩ = some (.bool hh) ∧ w'.cell? ⟨w.heap.size + 1, 1, none⟩ = some (.slice uo vals.length uc))
      (first | with_reducible exact uh HSK _ (uh HL).kept.any | with_reducible exact uh HSK _ (uh HL).kept.any.drew | with_reducible exact uh HSK _ ((uh HL).kept.any.alloc _) | with_reducible exact uh HSK _ ((uh HL).kept.any.alloc _).drew | with_reducible exact uh HSK _ ((uh HL).kept.any.trans (kset2N ((uh HL).z _ rfl).2 _ _)) | with_reducible exact uh HSK _ (((uh HL).kept.any.alloc _).trans (kset2N (uh HL).kept.size _ _)))
      ((first
      | (go_at_call 19; refine (stt_twin (by first | with_reducible exact uh HL | with_reducible exact (uh HL).drew | with_reducible exact (uh HL).alloc | with_reducible exact (uh HL).alloc.drew) (uh PS) hSL).mono ?_; rintro e w3 ⟨t1o, t1c, rfl, hl3⟩; have HL := hide hl3; clear hl3)
      | (go_at_call 20; refine (stt_row (by first | with_reducible exact uh HL | with_reducible exact (uh HL).drew | with_reducible exact (uh HL).alloc | with_reducible exact (uh HL).alloc.drew) (uh PR) hVL).mono ?_; rintro e w3 ⟨t2o, t2c, rfl, hl3⟩; have HL := hide hl3; clear hl3)
      | (go_at_call 27; refine (stt_msgs (by first | with_reducible exact uh HL | with_reducible exact (uh HL).drew | with_reducible exact (uh HL).alloc | with_reducible exact (uh HL).alloc.drew) (uh HT2) (uh HTL) rfl).mono ?_; rintro e w3 ⟨t3o, t3c, rfl, hl3⟩; have HL := hide hl3; clear hl3)
      | (go_at_call 28; refine (stt_all (by first | with_reducible exact uh HL | with_reducible exact (uh HL).drew | with_reducible exact (uh HL).alloc | with_reducible exact (uh HL).alloc.drew) (uh PE) (uh HA1) (uh HTM)).mono ?_; rintro e w3 ⟨ro, rc, rfl, hl3⟩; (try (have hz5 := (hl3.z _ rfl).1; obtain ⟨m0, m1⟩ := cl2 hz5; obtain ⟨z0, z1⟩ := fz2 hz5; clear hz5)); have HL := hide hl3; clear hl3)
      ))
     all_goals go_wp2_with fail
     all_goals go_meet
     all_goals first | exact ⟨_, _, _, rfl, rfl, (uh HL).late⟩ | exact ⟨_, _, _, rfl, rfl, (uh HL).early⟩
    case rest =>
     obtain ⟨R11, o11, c11, rfl, rfl, HAN⟩ := hcut
     obtain ⟨hb, hv, hk⟩ := uh HAN
     replace BS := hide (blk_keep (uh BS) hk)
     replace BR := hide (blk_keep (uh BR) hk)
     replace BQ := hide (blk_keep (uh BQ) hk)
     replace BG := hide (blk_keep (uh BG) hk)
     replace BH := hide (blk_keep (uh BH) hk)
     replace PE := hide ((uh PE).keepF hk)
     replace PS := hide ((uh PS).keepF hk)
     replace PR := hide ((uh PR).keepF hk)
     replace PM := hide ((uh PM).keepF hk)
     replace PN := hide ((uh PN).keepF hk)
     replace PQ := hide ((uh PQ).keepF hk)
     replace PG := hide ((uh PG).keepF hk)
     replace PH := hide ((uh PH).keepF hk)
     replace HK := hide ((uh HK).trans hk)
     replace HPD := hide (fun a e => (uh HPD a e).keepF hk)
     replace HPN := hide (fun e => (uh HPN e).keepF hk)
     replace HPZ := hide (fun e ao c => (uh HPZ e ao c).keepF hk)
     have BV := hide hb
     have PV := hide hv
     clear hb hv hk HAN HT2
     go_upto_region 12 with fail
     go_cut [17, 18] (fun p e wx => ∃ R o c, p = .pointer (some ⟨R, 0, none⟩) ∧ e = .int .i64 AO.e ∧ Hid (Ans wc AO R o c wx))
     case first =>
      rcases mo with _ | ⟨mb, mof, msub⟩
      ·have HPM := hide (uh HPN rfl)
       clear HPD HPN HPZ
       have HSK : Hid (∀ w', Keeps (fun q => wc.heap.size ≤ q) wc w' → w'.cell? ⟨w.heap.size, 0, none⟩ = some (.slice so S.length sc) ∧ w'.cell? ⟨R11, 0, none⟩ = some (.bool A1.here) ∧ w'.cell? ⟨R11, 1, none⟩ = some (.slice o11 A1.vals.length c11)) := fun w' hk => by
        have x1 := (hk.block _ (lt_of_block (uh BS)) (by have := lt_of_block (uh BS); omega)).trans (uh BS)
        have x2 := (hk.block _ (lt_of_block (uh BV)) (by have := lt_of_block (uh BV); omega)).trans (uh BV)
        exact ⟨cl1 x1, cl2 x2⟩
       obtain ⟨fa0, fa1, fa2⟩ := uh HSK wc (Keeps.refl _ _)
       have HL := hide ((⟨Keeps.refl _ _, fun _ e => (by cases e), fun _ e => (by cases e; exact uh PV), fun _ e => (by cases e), fun _ e => (by cases e), fun _ e => (by cases e)⟩ : Stt wc S A1.vals (DK.map MsgC.m) AO none (some (.slice o11 A1.vals.length c11)) none none none wc))
       go_region_held3 (fun w' => w'.cell? ⟨w.heap.size, 0, none⟩ = some (.slice so S.length sc) ∧ w'.cell? ⟨R11, 0, none⟩ = some (.bool A1.here) ∧ w'.cell? ⟨R11, 1, none⟩ = some (.slice o11 A1.vals.length c11))
        (first | with_reducible exact uh HSK _ (uh HL).kept.any | with_reducible exact uh HSK _ (uh HL).kept.any.drew | with_reducible exact uh HSK _ ((uh HL).kept.any.alloc _) | with_reducible exact uh HSK _ ((uh HL).kept.any.alloc _).drew | with_reducible exact uh HSK _ ((uh HL).kept.any.trans (kset2N ((uh HL).z _ rfl).2 _ _)) | with_reducible exact uh HSK _ (((uh HL).kept.any.alloc _).trans (kset2N (uh HL).kept.size _ _)))
        ((first
        | (go_at_call 19; refine (stt_twin (by first | with_reducible exact uh HL | with_reducible exact (uh HL).drew | with_reducible exact (uh HL).alloc | with_reducible exact (uh HL).alloc.drew) (uh PS) hSL).mono ?_; rintro e w3 ⟨t1o, t1c, rfl, hl3⟩; have HL := hide hl3; clear hl3)
        | (go_at_call 27; refine (stt_msgs (L := DK) (by first | with_reducible exact uh HL | with_reducible exact (uh HL).drew | with_reducible exact (uh HL).alloc | with_reducible exact (uh HL).alloc.drew) (uh HPM) (uh HDL) rfl).mono ?_; rintro e w3 ⟨t3o, t3c, rfl, hl3⟩; have HL := hide hl3; clear hl3)
        | (go_at_call 28; refine (stt_all (by first | with_reducible exact uh HL | with_reducible exact (uh HL).drew | with_reducible exact (uh HL).alloc | with_reducible exact (uh HL).alloc.drew) (uh PE) (uh HA2) (uh HDM)).mono ?_; rintro e w3 ⟨ro, rc, rfl, hl3⟩; (try (have hz5 := (hl3.z _ rfl).1; obtain ⟨m0, m1⟩ := cl2 hz5; obtain ⟨z0, z1⟩ := fz2 hz5; clear hz5)); have HL := hide hl3; clear hl3)
        ))
       all_goals go_wp2_with fail
       all_goals go_meet
       all_goals first | exact ⟨_, _, _, rfl, rfl, (uh HL).late⟩ | exact ⟨_, _, _, rfl, rfl, (uh HL).early⟩
      ·by_cases hcm : cN = mc
       ·subst hcm
        have HPM := hide (uh HPZ rfl (some ⟨mb, mof, msub⟩) 0)
        clear HPD HPN HPZ
        have HSK : Hid (∀ w', Keeps (fun q => wc.heap.size ≤ q) wc w' → w'.cell? ⟨w.heap.size, 0, none⟩ = some (.slice so S.length sc) ∧ w'.cell? ⟨R11, 0, none⟩ = some (.bool A1.here) ∧ w'.cell? ⟨R11, 1, none⟩ = some (.slice o11 A1.vals.length c11)) := fun w' hk => by
         have x1 := (hk.block _ (lt_of_block (uh BS)) (by have := lt_of_block (uh BS); omega)).trans (uh BS)
         have x2 := (hk.block _ (lt_of_block (uh BV)) (by have := lt_of_block (uh BV); omega)).trans (uh BV)
         exact ⟨cl1 x1, cl2 x2⟩
        obtain ⟨fa0, fa1, fa2⟩ := uh HSK wc (Keeps.refl _ _)
        have HL := hide ((⟨Keeps.refl _ _, fun _ e => (by cases e), fun _ e => (by cases e; exact uh PV), fun _ e => (by cases e), fun _ e => (by cases e), fun _ e => (by cases e)⟩ : Stt wc S A1.vals (DK.map MsgC.m) AO none (some (.slice o11 A1.vals.length c11)) none none none wc))
        go_region_held3 (fun w' => w'.cell? ⟨w.heap.size, 0, none⟩ = some (.slice so S.length sc) ∧ w'.cell? ⟨R11, 0, none⟩ = some (.bool A1.here) ∧ w'.cell? ⟨R11, 1, none⟩ = some (.slice o11 A1.vals.length c11))
         (first | with_reducible exact uh HSK _ (uh HL).kept.any | with_reducible exact uh HSK _ (uh HL).kept.any.drew | with_reducible exact uh HSK _ ((uh HL).kept.any.alloc _) | with_reducible exact uh HSK _ ((uh HL).kept.any.alloc _).drew | with_reducible exact uh HSK _ ((uh HL).kept.any.trans (kset2N ((uh HL).z _ rfl).2 _ _)) | with_reducible exact uh HSK _ (((uh HL).kept.any.alloc _).trans (kset2N (uh HL).kept.size _ _)))
         ((first
         | (go_at_call 19; refine (stt_twin (by first | with_reducible exact uh HL | with_reducible exact (uh HL).drew | with_reducible exact (uh HL).alloc | with_reducible exact (uh HL).alloc.drew) (uh PS) hSL).mono ?_; rintro e w3 ⟨t1o, t1c, rfl, hl3⟩; have HL := hide hl3; clear hl3)
         | (go_at_call 27; refine (stt_msgs (L := DK) (by first | with_reducible exact uh HL | with_reducible exact (uh HL).drew | with_reducible exact (uh HL).alloc | with_reducible exact (uh HL).alloc.drew) (uh HPM) (uh HDL) rfl).mono ?_; rintro e w3 ⟨t3o, t3c, rfl, hl3⟩; have HL := hide hl3; clear hl3)
         | (go_at_call 28; refine (stt_all (by first | with_reducible exact uh HL | with_reducible exact (uh HL).drew | with_reducible exact (uh HL).alloc | with_reducible exact (uh HL).alloc.drew) (uh PE) (uh HA2) (uh HDM)).mono ?_; rintro e w3 ⟨ro, rc, rfl, hl3⟩; (try (have hz5 := (hl3.z _ rfl).1; obtain ⟨m0, m1⟩ := cl2 hz5; obtain ⟨z0, z1⟩ := fz2 hz5; clear hz5)); have HL := hide hl3; clear hl3)
         ))
        all_goals go_wp2_with fail
        all_goals go_meet
        all_goals first | exact ⟨_, _, _, rfl, rfl, (uh HL).late⟩ | exact ⟨_, _, _, rfl, rfl, (uh HL).early⟩
       ·have hcm2 : ¬ (cN : Int) = (mc : Int) := by omega
        have hcm3 : (cN : Int) < (mc : Int) := by omega
        have HPM := hide (uh HPD ⟨mb, mof, msub⟩ rfl)
        clear HPD HPN HPZ
        have HSK : Hid (∀ w', Keeps (fun q => wc.heap.size ≤ q) wc w' → w'.cell? ⟨w.heap.size, 0, none⟩ = some (.slice so S.length sc) ∧ w'.cell? ⟨R11, 0, none⟩ = some (.bool A1.here) ∧ w'.cell? ⟨R11, 1, none⟩ = some (.slice o11 A1.vals.length c11)) := fun w' hk => by
         have x1 := (hk.block _ (lt_of_block (uh BS)) (by have := lt_of_block (uh BS); omega)).trans (uh BS)
         have x2 := (hk.block _ (lt_of_block (uh BV)) (by have := lt_of_block (uh BV); omega)).trans (uh BV)
         exact ⟨cl1 x1, cl2 x2⟩
        obtain ⟨fa0, fa1, fa2⟩ := uh HSK wc (Keeps.refl _ _)
        have HL := hide ((⟨Keeps.refl _ _, fun _ e => (by cases e), fun _ e => (by cases e; exact uh PV), fun _ e => (by cases e), fun _ e => (by cases e), fun _ e => (by cases e)⟩ : Stt wc S A1.vals (DK.map MsgC.m) AO none (some (.slice o11 A1.vals.length c11)) none none none wc))
        go_region_held3 (fun w' => w'.cell? ⟨w.heap.size, 0, none⟩ = some (.slice so S.length sc) ∧ w'.cell? ⟨R11, 0, none⟩ = some (.bool A1.here) ∧ w'.cell? ⟨R11, 1, none⟩ = some (.slice o11 A1.vals.length c11))
         (first | with_reducible exact uh HSK _ (uh HL).kept.any | with_reducible exact uh HSK _ (uh HL).kept.any.drew | with_reducible exact uh HSK _ ((uh HL).kept.any.alloc _) | with_reducible exact uh HSK _ ((uh HL).kept.any.alloc _).drew | with_reducible exact uh HSK _ ((uh HL).kept.any.trans (kset2N ((uh HL).z _ rfl).2 _ _)) | with_reducible exact uh HSK _ (((uh HL).kept.any.alloc _).trans (kset2N (uh HL).kept.size _ _)))
         ((first
         | (go_at_call 19; refine (stt_twin (by first | with_reducible exact uh HL | with_reducible exact (uh HL).drew | with_reducible exact (uh HL).alloc | with_reducible exact (uh HL).alloc.drew) (uh PS) hSL).mono ?_; rintro e w3 ⟨t1o, t1c, rfl, hl3⟩; have HL := hide hl3; clear hl3)
         | (go_at_call 27; refine (stt_msgs (L := DK) (by first | with_reducible exact uh HL | with_reducible exact (uh HL).drew | with_reducible exact (uh HL).alloc | with_reducible exact (uh HL).alloc.drew) (uh HPM) (uh HDL) rfl).mono ?_; rintro e w3 ⟨t3o, t3c, rfl, hl3⟩; have HL := hide hl3; clear hl3)
         | (go_at_call 28; refine (stt_all (by first | with_reducible exact uh HL | with_reducible exact (uh HL).drew | with_reducible exact (uh HL).alloc | with_reducible exact (uh HL).alloc.drew) (uh PE) (uh HA2) (uh HDM)).mono ?_; rintro e w3 ⟨ro, rc, rfl, hl3⟩; (try (have hz5 := (hl3.z _ rfl).1; obtain ⟨m0, m1⟩ := cl2 hz5; obtain ⟨z0, z1⟩ := fz2 hz5; clear hz5)); have HL := hide hl3; clear hl3)
         ))
        all_goals go_wp2_with fail
        all_goals go_meet
        all_goals first | exact ⟨_, _, _, rfl, rfl, (uh HL).late⟩ | exact ⟨_, _, _, rfl, rfl, (uh HL).early⟩
     case rest =>
      obtain ⟨R12, o12, c12, rfl, rfl, HAN⟩ := hcut
      obtain ⟨hb, hv, hk⟩ := uh HAN
      replace BS := hide (blk_keep (uh BS) hk)
      replace BR := hide (blk_keep (uh BR) hk)
      replace BQ := hide (blk_keep (uh BQ) hk)
      replace BG := hide (blk_keep (uh BG) hk)
      replace BH := hide (blk_keep (uh BH) hk)
      replace BV := hide (blk_keep (uh BV) hk)
      replace PE := hide ((uh PE).keepF hk)
      replace PS := hide ((uh PS).keepF hk)
      replace PR := hide ((uh PR).keepF hk)
      replace PM := hide ((uh PM).keepF hk)
      replace PN := hide ((uh PN).keepF hk)
      replace PQ := hide ((uh PQ).keepF hk)
      replace PG := hide ((uh PG).keepF hk)
      replace PH := hide ((uh PH).keepF hk)
      replace PV := hide ((uh PV).keepF hk)
      replace HK := hide ((uh HK).trans hk)
      have BZ := hide hb
      have PZ := hide hv
      clear hb hv hk HAN HPD HPN HPZ
      have hA1z : (A1.e != 0) = false := by simp [uh HA1E]
      have e1 : (AO.e != 0) = false := by simp [uh HZ]
      obtain ⟨cc801, cc802⟩ := cl2 (uh BZ)
      obtain ⟨cc803, cc804⟩ := cl2 (uh BH)
      have HQ := hide (eqRow_v wc AO.here AO.here _ _ AO.vals AO.vals (uh PZ) (uh PH) (uh HAL))
      rw [decide_eq_true (show AO.here = AO.here from rfl), decide_eq_true (show AO.vals = AO.vals from rfl)] at HQ
      simp only [Bool.and_true] at HQ
      go_wp2_with fail
      refine (uh HQ).mono ?_
      rintro e w10 ⟨rfl, hk⟩
      clear HQ
      clear cc801 cc802 cc803 cc804
      replace BS := hide (blk_keep (uh BS) hk)
      replace BR := hide (blk_keep (uh BR) hk)
      replace BQ := hide (blk_keep (uh BQ) hk)
      replace BG := hide (blk_keep (uh BG) hk)
      replace BH := hide (blk_keep (uh BH) hk)
      replace BV := hide (blk_keep (uh BV) hk)
      replace BZ := hide (blk_keep (uh BZ) hk)
      replace PE := hide ((uh PE).keepF hk)
      replace PS := hide ((uh PS).keepF hk)
      replace PR := hide ((uh PR).keepF hk)
      replace PM := hide ((uh PM).keepF hk)
      replace PN := hide ((uh PN).keepF hk)
      replace PQ := hide ((uh PQ).keepF hk)
      replace PG := hide ((uh PG).keepF hk)
      replace PH := hide ((uh PH).keepF hk)
      replace PV := hide ((uh PV).keepF hk)
      replace PZ := hide ((uh PZ).keepF hk)
      replace HK := hide ((uh HK).trans hk)
      clear hk
      obtain ⟨cc805, cc806⟩ := cl2 (uh BR)
      have HQ := hide (copyRowL_v w10 hh _ vals (uh PR) hVL)
      go_wp2_with fail
      refine (uh HQ).mono ?_
      rintro e w12 ⟨yo, yc, rfl, hoy, hk⟩
      clear HQ
      clear cc805 cc806
      replace BS := hide (blk_keep (uh BS) hk)
      replace BR := hide (blk_keep (uh BR) hk)
      replace BQ := hide (blk_keep (uh BQ) hk)
      replace BG := hide (blk_keep (uh BG) hk)
      replace BH := hide (blk_keep (uh BH) hk)
      replace BV := hide (blk_keep (uh BV) hk)
      replace BZ := hide (blk_keep (uh BZ) hk)
      replace PE := hide ((uh PE).keepF hk)
      replace PS := hide ((uh PS).keepF hk)
      replace PR := hide ((uh PR).keepF hk)
      replace PM := hide ((uh PM).keepF hk)
      replace PN := hide ((uh PN).keepF hk)
      replace PQ := hide ((uh PQ).keepF hk)
      replace PG := hide ((uh PG).keepF hk)
      replace PH := hide ((uh PH).keepF hk)
      replace PV := hide ((uh PV).keepF hk)
      replace PZ := hide ((uh PZ).keepF hk)
      replace HK := hide ((uh HK).trans hk)
      have kN := kAlloc w12 (.cells #[.bool hh, .slice yo vals.length yc] 28)
      have hN := heap_alloc_new w12 (.cells #[.bool hh, .slice yo vals.length yc] 28)
      have HY0 : Hid (ValsAt (w12.alloc (.cells #[.bool hh, .slice yo vals.length yc] 28)) (.slice yo vals.length yc) vals) := (rowAt_own hoy).keepF kN
      have HKN := hide kN
      have HBN := hide hN
      generalize hX13 : w12.alloc (.cells #[.bool hh, .slice yo vals.length yc] 28) = X13 at *
      clear hoy hk kN hN
      obtain ⟨FF, HFF⟩ : ∃ FF : Nat → Bool × List ValA, Hid (∀ k, foldA S (hh, vals) ((L.map MsgC.m).take k) = FF k) := ⟨_, fun _ => rfl⟩
      have HF0 : Hid (FF 0 = (hh, vals)) := ((uh HFF) 0).symm
      have HFE : Hid (FF L.length = (AO.here, AO.vals)) := by
       have h1 := chain_end (uh HZ0)
       rw [uh HAA] at h1
       have h2 := (uh HFF) L.length
       rw [show L.length = (L.map MsgC.m).length by simp, List.take_length] at h2
       show FF L.length = _
       rw [show FF L.length = FF (L.map MsgC.m).length by simp, ← h2]
       exact Prod.ext h1.1.symm h1.2.symm
      have HFS : Hid (∀ (k : Nat) (x : MsgC), L[k]? = some x → applyA S (FF k).1 (FF k).2 [x.m] = ⟨0, (FF (k + 1)).1, (FF (k + 1)).2, 0, 0⟩) := fun k x hx => by
       have h := chain_one (uh HZ0) (k := k) (m := x.m) (by rw [List.getElem?_map, hx]; rfl)
       rw [(uh HFF) k, (uh HFF) (k + 1)] at h
       exact h
      clear HFF HA1 HA2 HA1E HZ HZ0 hA1z e1 HTL HTM HDL HDM HNM
      go_wp2_with fail
      go_loopg [20] (L.length) (fun fu i wr => ∃ (k : Nat) (o : Option Addr) (c : Nat), k ≤ L.length ∧ L.length ≤ k + fu ∧ i = .int .i64 (k : Int) ∧ Hid (wr.heap[w12.heap.size]? = some (.cells #[.bool (FF k).1, .slice o (FF k).2.length c] 28 (0, 0))) ∧ Hid (ValsAt wr (.slice o (FF k).2.length c) (FF k).2) ∧ Hid (Keeps (fun _ => False) w12 wr))
      case atStart =>
       refine ⟨0, yo, yc, Nat.zero_le _, by omega, rfl, ?_, ?_, uh HKN⟩
       ·show _ = _; rw [uh HF0]; exact uh HBN
       ·show ValsAt _ _ _; rw [uh HF0]; exact uh HY0
      case round =>
       obtain ⟨k, oo, oc, hk, hfu, rfl, HBO, HVO, HKO⟩ := hrel
       by_cases hlt : k < L.length
       ·obtain ⟨⟨⟨xk, xkey, xv, xc⟩, xvv, xcv⟩, hx⟩ : ∃ x, L[k]? = some x := ⟨_, List.getElem?_eq_getElem hlt⟩
        obtain ⟨f, rfl⟩ : ∃ f', gk = f' + 1 := ⟨gk - 1, by omega⟩
        obtain ⟨A, HAk⟩ : ∃ A : OutA, Hid (A = ⟨0, (FF (k + 1)).1, (FF (k + 1)).2, 0, 0⟩) := ⟨_, rfl⟩
        have HAp : Hid (applyA S (FF k).1 (FF k).2 [⟨xk, xkey, xv, xc⟩] = A) := by have := (uh HFS) k _ hx; show _ = _; rw [uh HAk]; exact this
        obtain ⟨mb, mof, mcp, e, hmb, hcl⟩ := msgs_cells (uh PM) (by omega)
        simp at e
        obtain ⟨rfl, rfl⟩ := e
        have hxo := ((uh PM).ok _ (List.mem_of_getElem? hx)).keepF (uh HKO)
        obtain ⟨vo, vc, ev⟩ := RowAt.form hxo.vals
        obtain ⟨co, cc, ec⟩ := RowAt.form hxo.code
        obtain rfl : xvv = .slice vo xv.length vc := ev
        obtain rfl : xcv = .slice co xc.length cc := ec
        have HXO : Hid (MsgOK wr ⟨⟨xk, xkey, xv, xc⟩, .slice vo xv.length vc, .slice co xc.length cc⟩) := hxo
        obtain ⟨q0, q1, q2, q3⟩ := hcl k _ hx
        have i1 : (k : Int) < (L.length : Int) := by omega
        have i0' : (0 : Int) ≤ (k : Int) := by omega
        have hmw : mb < wr.heap.size := Nat.lt_of_lt_of_le hmb (uh HKO).size
        have p0 : wr.cell? ⟨mb, mof + k * 4, none⟩ = some (.int .i64 xk) := ((uh HKO).cell hmb id).trans q0
        have p1 : wr.cell? ⟨mb, mof + k * 4 + 1, none⟩ = some (str xkey) := ((uh HKO).cell hmb id).trans q1
        have p2 : wr.cell? ⟨mb, mof + k * 4 + 2, none⟩ = some (.slice vo xv.length vc) := ((uh HKO).cell hmb id).trans q2
        have p3 : wr.cell? ⟨mb, mof + k * 4 + 3, none⟩ = some (.slice co xc.length cc) := ((uh HKO).cell hmb id).trans q3
        have HB1 := hide (blk_keep (uh BS) (uh HKO))
        clear hcl hx q0 q1 q2 q3 hxo
        generalize (FF k).1 = fh at HBO HVO HAp
        generalize (FF k).2 = fv at HBO HVO HAp
        go_upto_region 19 with fail
        go_cut [21, 22] (fun p e wx => ∃ R o c, p = .pointer (some ⟨R, 0, none⟩) ∧ e = .int .i64 A.e ∧ Hid (Ans wr A R o c wx))
        case first =>
         have HSK : Hid (∀ w', Keeps (fun q => wr.heap.size ≤ q) wr w' → w'.cell? ⟨w.heap.size, 0, none⟩ = some (.slice so S.length sc) ∧ w'.cell? ⟨w12.heap.size, 0, none⟩ = some (.bool fh) ∧ w'.cell? ⟨w12.heap.size, 1, none⟩ = some (.slice oo fv.length oc) ∧ w'.cell? ⟨mb, mof + k * 4, none⟩ = some (.int .i64 xk) ∧ w'.cell? ⟨mb, mof + k * 4 + 1, none⟩ = some (str xkey) ∧ w'.cell? ⟨mb, mof + k * 4 + 2, none⟩ = some (.slice vo xv.length vc) ∧ w'.cell? ⟨mb, mof + k * 4 + 3, none⟩ = some (.slice co xc.length cc)) := fun w' hk => by
          have x1 := (hk.block _ (lt_of_block (uh HB1)) (by have := lt_of_block (uh HB1); omega)).trans (uh HB1)
          have x2 := (hk.block _ (lt_of_block (uh HBO)) (by have := lt_of_block (uh HBO); omega)).trans (uh HBO)
          exact ⟨cl1 x1, (cl2 x2).1, (cl2 x2).2, (hk.cell hmw (by omega)).trans p0, (hk.cell hmw (by omega)).trans p1, (hk.cell hmw (by omega)).trans p2, (hk.cell hmw (by omega)).trans p3⟩
         obtain ⟨fa0, fa1, fa2, fa3, fa4, fa5, fa6⟩ := uh HSK wr (Keeps.refl _ _)
         have HL := hide ((⟨Keeps.refl _ _, fun _ e => (by cases e), fun _ e => (by cases e; exact uh HVO), fun _ e => (by cases e), fun _ e => (by cases e), fun _ e => (by cases e)⟩ : Sto wr S fv ⟨xk, xkey, xv, xc⟩ A none (some (.slice oo fv.length oc)) none none none wr))
         go_region_held3 (fun w' => w'.cell? ⟨w.heap.size, 0, none⟩ = some (.slice so S.length sc) ∧ w'.cell? ⟨w12.heap.size, 0, none⟩ = some (.bool fh) ∧ w'.cell? ⟨w12.heap.size, 1, none⟩ = some (.slice oo fv.length oc) ∧ w'.cell? ⟨mb, mof + k * 4, none⟩ = some (.int .i64 xk) ∧ w'.cell? ⟨mb, mof + k * 4 + 1, none⟩ = some (str xkey) ∧ w'.cell? ⟨mb, mof + k * 4 + 2, none⟩ = some (.slice vo xv.length vc) ∧ w'.cell? ⟨mb, mof + k * 4 + 3, none⟩ = some (.slice co xc.length cc))
          (first | with_reducible exact uh HSK _ (uh HL).kept.any | with_reducible exact uh HSK _ (uh HL).kept.any.drew | with_reducible exact uh HSK _ ((uh HL).kept.any.alloc _) | with_reducible exact uh HSK _ ((uh HL).kept.any.alloc _).drew | with_reducible exact uh HSK _ ((uh HL).kept.any.trans (kset2N ((uh HL).z _ rfl).2 _ _)) | with_reducible exact uh HSK _ (((uh HL).kept.any.alloc _).trans (kset2N (uh HL).kept.size _ _)))
          ((first
          | (go_at_call 19; refine (sto_twin (by first | with_reducible exact uh HL | with_reducible exact (uh HL).drew | with_reducible exact (uh HL).alloc | with_reducible exact (uh HL).alloc.drew) ((uh PS).keepF (uh HKO)) hSL).mono ?_; rintro e w3 ⟨t1o, t1c, rfl, hl3⟩; have HL := hide hl3; clear hl3)
          | (go_at_call 21; refine (sto_msg2 (by first | with_reducible exact uh HL | with_reducible exact (uh HL).drew | with_reducible exact (uh HL).alloc | with_reducible exact (uh HL).alloc.drew) (uh HXO)).mono ?_; rintro e w3 ⟨t3a, t3b, t3c, t3d, rfl, hl3⟩; have HL := hide hl3; clear hl3)
          | (go_at_call 22; refine (sto_apply (by first | with_reducible exact uh HL | with_reducible exact (uh HL).drew | with_reducible exact (uh HL).alloc | with_reducible exact (uh HL).alloc.drew) ((uh PE).keepF (uh HKO)) (uh HAp)).mono ?_; rintro e w3 ⟨ro, rc, rfl, hl3⟩; (try (have hz5 := (hl3.z _ rfl).1; obtain ⟨m0, m1⟩ := cl2 hz5; obtain ⟨z0, z1⟩ := fz2 hz5; clear hz5)); have HL := hide hl3; clear hl3)
          ))
         all_goals go_wp2_with fail
         all_goals go_meet
         all_goals first | exact ⟨_, _, _, rfl, rfl, (uh HL).late⟩ | exact ⟨_, _, _, rfl, rfl, (uh HL).early⟩
        case rest =>
         obtain ⟨R21, o21, c21, rfl, rfl, HAN⟩ := hcut
         obtain ⟨hb, hv, hk2⟩ := uh HAN
         have e1 : (A.e != 0) = false := by rw [uh HAk]; rfl
         have hbo := blk_keep (uh HBO) hk2
         obtain ⟨s0, s1⟩ := cl2 hb
         obtain ⟨y0, y1⟩ := cl2 hbo
         obtain ⟨z0, z1⟩ := fz2 hbo
         have HBO2 := hide hbo
         have HV2 := hide hv
         have HK2 := hide ((uh HKO).trans hk2)
         clear hb hv hk2 hbo HAN
         go_wp2_with fail
         go_roundg f
         case rel =>
          have k2 := keeps_set2 wc w12.heap.size (.bool A.here) (.slice o21 A.vals.length c21)
          have hA := uh HAk
          have hn := heap_setCell_at (o := 1) (heap_setCell_at (o := 0) (uh HBO2) (.bool A.here)) (.slice o21 A.vals.length c21)
          have hv := vals_off (uh HV2) (uh HBO2) (off2 (by simp)) k2
          have hkk := (uh HK2).fresh (Nat.le_refl _) k2
          subst hA
          exact ⟨k + 1, o21, c21, by omega, by omega, by go_num, hn, hv, hkk⟩
         case measure => omega
       ·obtain rfl : k = L.length := by omega
        rw [uh HFE] at HBO HVO
        simp only at HBO HVO
        have hbh := blk_keep (uh BH) (uh HKO)
        obtain ⟨s0, s1⟩ := cl2 hbh
        obtain ⟨y0, y1⟩ := cl2 (uh HBO)
        have HQ := hide (eqRow_v wr AO.here AO.here _ _ AO.vals AO.vals (uh HVO) ((uh PH).keepF (uh HKO)) (uh HAL))
        rw [decide_eq_true (show AO.here = AO.here from rfl), decide_eq_true (show AO.vals = AO.vals from rfl)] at HQ
        simp only [Bool.and_true] at HQ
        clear hbh
        go_wp2_with fail
        refine (uh HQ).mono ?_
        rintro e w20 ⟨rfl, hk20⟩
        clear HQ
        go_wp2_with fail
        go_ret
        exact ⟨rfl, (uh HK).trans ((uh HKO).trans hk20)⟩
end Go.Proofs.YtbokbdcjpbnodaaGreatDoor
