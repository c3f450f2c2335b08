import Derived.Test.YtiinohibmcefkaaGreatDoorZzam
import Derived.Test.YtiinohibmcefkaaGreatDoorZzan
namespace Go.Proofs.YtiinohibmcefkaaGreatDoor
open Go.RowKit Go.Maps

theorem OpF.form {S : List FieldA} {F : Nat → Prop} {w : World} {ov : Value} {n : Nat} {g : List ValA → ValA} (h : OpF S F w ov n g) : ∃ k cap, ov = .func (.func k) #[] cap := by
  obtain ⟨k, cap, e, _⟩ := h
  exact ⟨k, cap, e⟩
theorem OpF.congr {S : List FieldA} {F : Nat → Prop} {w w' : World} {ov : Value} {n n' : Nat} {g g' : List ValA → ValA} (h : OpF S F w ov n g) (hk : Keeps (fun _ => False) w w') (hn : n = n') (hg : ∀ ks, g ks = g' ks) : OpF S F w' ov n' g' := by
  obtain rfl : g = g' := funext hg
  subst hn
  exact h.shift hk.any (fun _ h _ => h)
set_option maxRecDepth 100000 in
set_option maxHeartbeats 4000000 in
theorem operations_v (S : List FieldA) (F : Nat → Prop) (w : World) (hF : ∀ q, F q → q < w.heap.size) :
    Calls Tryz.prog 75 #[] w fun e w' => ∃ tab, e = .returned (.slice (some ⟨tab, 0, none⟩) 26 26) ∧ w.heap.size ≤ tab ∧ tab < w'.heap.size ∧ (∀ i : Nat, 7 ≤ i → i ≤ 25 → ∃ ov, w'.cell? ⟨tab, i, none⟩ = some ov ∧ OpF S F w' ov (kidsB i).toNat (opV i)) ∧ Keeps (fun _ => False) w w' := by
  have HS : ∀ W', Keeps (fun _ => False) w W' → Hid (∀ q, F q → q < W'.heap.size) := fun W' hk q hq => Nat.lt_of_lt_of_le (hF q hq) hk.size
  have HK0 := hide (Keeps.refl (fun _ => False) w)
  clear hF
  go_enter Tryz.func75, Tryz.ntmps75
  go_wp2_with fail
  refine (one_v S F _ (unhide (HS _ (unhide HK0))) _ _ f87_v).mono ?_
  rintro e w7 ⟨ov7, rfl, ho7, hk7⟩
  have HO7 := hide ho7
  have HL7 := hide hk7
  have HK1 := hide ((unhide HK0).trans hk7)
  obtain ⟨k7, c7, rfl⟩ := ho7.form
  clear ho7 hk7
  go_wp2_with fail
  refine (one_v S F _ (unhide (HS _ (unhide HK1))) _ _ f88_v).mono ?_
  rintro e w8 ⟨ov8, rfl, ho8, hk8⟩
  have HO8 := hide ho8
  have HL8 := hide hk8
  have HK2 := hide ((unhide HK1).trans hk8)
  obtain ⟨k8, c8, rfl⟩ := ho8.form
  clear ho8 hk8
  go_wp2_with fail
  refine (two_v S F _ (unhide (HS _ (unhide HK2))) _ _ f90_v).mono ?_
  rintro e w9 ⟨ov9, rfl, ho9, hk9⟩
  have HO9 := hide ho9
  have HL9 := hide hk9
  have HK3 := hide ((unhide HK2).trans hk9)
  obtain ⟨k9, c9, rfl⟩ := ho9.form
  clear ho9 hk9
  go_wp2_with fail
  refine (two_v S F _ (unhide (HS _ (unhide HK3))) _ _ f91_v).mono ?_
  rintro e w10 ⟨ov10, rfl, ho10, hk10⟩
  have HO10 := hide ho10
  have HL10 := hide hk10
  have HK4 := hide ((unhide HK3).trans hk10)
  obtain ⟨k10, c10, rfl⟩ := ho10.form
  clear ho10 hk10
  go_wp2_with fail
  refine (two_v S F _ (unhide (HS _ (unhide HK4))) _ _ f92_v).mono ?_
  rintro e w11 ⟨ov11, rfl, ho11, hk11⟩
  have HO11 := hide ho11
  have HL11 := hide hk11
  have HK5 := hide ((unhide HK4).trans hk11)
  obtain ⟨k11, c11, rfl⟩ := ho11.form
  clear ho11 hk11
  go_wp2_with fail
  refine (two_v S F _ (unhide (HS _ (unhide HK5))) _ _ f93_v).mono ?_
  rintro e w12 ⟨ov12, rfl, ho12, hk12⟩
  have HO12 := hide ho12
  have HL12 := hide hk12
  have HK6 := hide ((unhide HK5).trans hk12)
  obtain ⟨k12, c12, rfl⟩ := ho12.form
  clear ho12 hk12
  go_wp2_with fail
  refine (two_v S F _ (unhide (HS _ (unhide HK6))) _ _ f95_v).mono ?_
  rintro e w13 ⟨ov13, rfl, ho13, hk13⟩
  have HO13 := hide ho13
  have HL13 := hide hk13
  have HK7 := hide ((unhide HK6).trans hk13)
  obtain ⟨k13, c13, rfl⟩ := ho13.form
  clear ho13 hk13
  go_wp2_with fail
  refine (two_v S F _ (unhide (HS _ (unhide HK7))) _ _ f96_v).mono ?_
  rintro e w14 ⟨ov14, rfl, ho14, hk14⟩
  have HO14 := hide ho14
  have HL14 := hide hk14
  have HK8 := hide ((unhide HK7).trans hk14)
  obtain ⟨k14, c14, rfl⟩ := ho14.form
  clear ho14 hk14
  go_wp2_with fail
  refine (two_v S F _ (unhide (HS _ (unhide HK8))) _ _ f97_v).mono ?_
  rintro e w15 ⟨ov15, rfl, ho15, hk15⟩
  have HO15 := hide ho15
  have HL15 := hide hk15
  have HK9 := hide ((unhide HK8).trans hk15)
  obtain ⟨k15, c15, rfl⟩ := ho15.form
  clear ho15 hk15
  go_wp2_with fail
  refine (two_v S F _ (unhide (HS _ (unhide HK9))) _ _ f98_v).mono ?_
  rintro e w16 ⟨ov16, rfl, ho16, hk16⟩
  have HO16 := hide ho16
  have HL16 := hide hk16
  have HK10 := hide ((unhide HK9).trans hk16)
  obtain ⟨k16, c16, rfl⟩ := ho16.form
  clear ho16 hk16
  go_wp2_with fail
  refine (two_v S F _ (unhide (HS _ (unhide HK10))) _ _ f99_v).mono ?_
  rintro e w17 ⟨ov17, rfl, ho17, hk17⟩
  have HO17 := hide ho17
  have HL17 := hide hk17
  have HK11 := hide ((unhide HK10).trans hk17)
  obtain ⟨k17, c17, rfl⟩ := ho17.form
  clear ho17 hk17
  go_wp2_with fail
  refine (two_v S F _ (unhide (HS _ (unhide HK11))) _ _ f100_v).mono ?_
  rintro e w18 ⟨ov18, rfl, ho18, hk18⟩
  have HO18 := hide ho18
  have HL18 := hide hk18
  have HK12 := hide ((unhide HK11).trans hk18)
  obtain ⟨k18, c18, rfl⟩ := ho18.form
  clear ho18 hk18
  go_wp2_with fail
  refine (two_v S F _ (unhide (HS _ (unhide HK12))) _ _ f102_v).mono ?_
  rintro e w19 ⟨ov19, rfl, ho19, hk19⟩
  have HO19 := hide ho19
  have HL19 := hide hk19
  have HK13 := hide ((unhide HK12).trans hk19)
  obtain ⟨k19, c19, rfl⟩ := ho19.form
  clear ho19 hk19
  go_wp2_with fail
  refine (two_v S F _ (unhide (HS _ (unhide HK13))) _ _ f104_v).mono ?_
  rintro e w21 ⟨ov21, rfl, ho21, hk21⟩
  have HO21 := hide ho21
  have HL21 := hide hk21
  have HK14 := hide ((unhide HK13).trans hk21)
  obtain ⟨k21, c21, rfl⟩ := ho21.form
  clear ho21 hk21
  go_wp2_with fail
  refine (two_v S F _ (unhide (HS _ (unhide HK14))) _ _ f105_v).mono ?_
  rintro e w22 ⟨ov22, rfl, ho22, hk22⟩
  have HO22 := hide ho22
  have HL22 := hide hk22
  have HK15 := hide ((unhide HK14).trans hk22)
  obtain ⟨k22, c22, rfl⟩ := ho22.form
  clear ho22 hk22
  go_wp2_with fail
  refine (one_v S F _ (unhide (HS _ (unhide HK15))) _ _ f106_v).mono ?_
  rintro e w23 ⟨ov23, rfl, ho23, hk23⟩
  have HO23 := hide ho23
  have HL23 := hide hk23
  have HK16 := hide ((unhide HK15).trans hk23)
  obtain ⟨k23, c23, rfl⟩ := ho23.form
  clear ho23 hk23
  go_wp2_with fail
  refine (two_v S F _ (unhide (HS _ (unhide HK16))) _ _ f107_v).mono ?_
  rintro e w24 ⟨ov24, rfl, ho24, hk24⟩
  have HO24 := hide ho24
  have HL24 := hide hk24
  have HK17 := hide ((unhide HK16).trans hk24)
  obtain ⟨k24, c24, rfl⟩ := ho24.form
  clear ho24 hk24
  go_wp2_with fail
  go_ret
  generalize hC : (#[.nilFunc, .nilFunc, .nilFunc, .nilFunc, .nilFunc, .nilFunc, .nilFunc, .func (.func k7) #[] c7, .func (.func k8) #[] c8, .func (.func k9) #[] c9, .func (.func k10) #[] c10, .func (.func k11) #[] c11, .func (.func k12) #[] c12, .func (.func k13) #[] c13, .func (.func k14) #[] c14, .func (.func k15) #[] c15, .func (.func k16) #[] c16, .func (.func k17) #[] c17, .func (.func k18) #[] c18, .func (.func k19) #[] c19, .func (.func 134) #[] #[], .func (.func k21) #[] c21, .func (.func k22) #[] c22, .func (.func k23) #[] c23, .func (.func k24) #[] c24, .func (.func 139) #[] #[]] : Array Value) = C
  have hk : Keeps (fun _ => False) w24 (w24.alloc (.cells C 130)) := (Keeps.refl _ _).alloc _
  have hcell : ∀ i v, C[i]? = some v → (w24.alloc (.cells C 130)).cell? ⟨w24.heap.size, i, none⟩ = some v := fun i v hv => by rw [cell_of_blk (heap_alloc_new w24 _)]; exact hv
  have l24 := hk
  have l23 := (unhide HL24).trans l24
  have l22 := (unhide HL23).trans l23
  have l21 := (unhide HL22).trans l22
  have l19 := (unhide HL21).trans l21
  have l18 := (unhide HL19).trans l19
  have l17 := (unhide HL18).trans l18
  have l16 := (unhide HL17).trans l17
  have l15 := (unhide HL16).trans l16
  have l14 := (unhide HL15).trans l15
  have l13 := (unhide HL14).trans l14
  have l12 := (unhide HL13).trans l13
  have l11 := (unhide HL12).trans l12
  have l10 := (unhide HL11).trans l11
  have l9 := (unhide HL10).trans l10
  have l8 := (unhide HL9).trans l9
  have l7 := (unhide HL8).trans l8
  refine ⟨_, rfl, (unhide HK17).size, by simp, ?_, (unhide HK17).trans hk⟩
  intro i h1 h2
  rcases (show i = 7 ∨ i = 8 ∨ i = 9 ∨ i = 10 ∨ i = 11 ∨ i = 12 ∨ i = 13 ∨ i = 14 ∨ i = 15 ∨ i = 16 ∨ i = 17 ∨ i = 18 ∨ i = 19 ∨ i = 20 ∨ i = 21 ∨ i = 22 ∨ i = 23 ∨ i = 24 ∨ i = 25 by omega) with rfl | rfl | rfl | rfl | rfl | rfl | rfl | rfl | rfl | rfl | rfl | rfl | rfl | rfl | rfl | rfl | rfl | rfl | rfl
  · exact ⟨_, hcell 7 _ (by subst hC; rfl), (unhide HO7).congr l7 rfl (fun ks => by simp [opV])⟩
  · exact ⟨_, hcell 8 _ (by subst hC; rfl), (unhide HO8).congr l8 rfl (fun ks => by simp [opV])⟩
  · exact ⟨_, hcell 9 _ (by subst hC; rfl), (unhide HO9).congr l9 rfl (fun ks => by simp [opV])⟩
  · exact ⟨_, hcell 10 _ (by subst hC; rfl), (unhide HO10).congr l10 rfl (fun ks => by simp [opV])⟩
  · exact ⟨_, hcell 11 _ (by subst hC; rfl), (unhide HO11).congr l11 rfl (fun ks => by simp [opV])⟩
  · exact ⟨_, hcell 12 _ (by subst hC; rfl), (unhide HO12).congr l12 rfl (fun ks => by simp [opV])⟩
  · exact ⟨_, hcell 13 _ (by subst hC; rfl), (unhide HO13).congr l13 rfl (fun ks => by simp [opV])⟩
  · exact ⟨_, hcell 14 _ (by subst hC; rfl), (unhide HO14).congr l14 rfl (fun ks => by simp [opV])⟩
  · exact ⟨_, hcell 15 _ (by subst hC; rfl), (unhide HO15).congr l15 rfl (fun ks => by simp [opV])⟩
  · exact ⟨_, hcell 16 _ (by subst hC; rfl), (unhide HO16).congr l16 rfl (fun ks => by simp [opV])⟩
  · exact ⟨_, hcell 17 _ (by subst hC; rfl), (unhide HO17).congr l17 rfl (fun ks => by simp [opV])⟩
  · exact ⟨_, hcell 18 _ (by subst hC; rfl), (unhide HO18).congr l18 rfl (fun ks => by simp [opV])⟩
  · exact ⟨_, hcell 19 _ (by subst hC; rfl), (unhide HO19).congr l19 rfl (fun ks => by simp [opV])⟩
  · exact ⟨_, hcell 20 _ (by subst hC; rfl), (orElse_v S F _).congr (Keeps.refl _ _) rfl (fun ks => by simp [opV])⟩
  · exact ⟨_, hcell 21 _ (by subst hC; rfl), (unhide HO21).congr l21 rfl (fun ks => by simp [opV])⟩
  · exact ⟨_, hcell 22 _ (by subst hC; rfl), (unhide HO22).congr l22 rfl (fun ks => by simp [opV])⟩
  · exact ⟨_, hcell 23 _ (by subst hC; rfl), (unhide HO23).congr l23 rfl (fun ks => by simp [opV])⟩
  · exact ⟨_, hcell 24 _ (by subst hC; rfl), (unhide HO24).congr l24 rfl (fun ks => by simp [opV])⟩
  · exact ⟨_, hcell 25 _ (by subst hC; rfl), (pick_v S F _).congr (Keeps.refl _ _) rfl (fun ks => by simp [opV])⟩
end Go.Proofs.YtiinohibmcefkaaGreatDoor
namespace Go.Proofs.YtiinohibmcefkaaGreatDoor
open Go.RowKit Go.Maps

/-- A number stored in a map. -/
theorem Cnt.put {w : World} {mb n : Nat} {c : Txt → Nat} (h : Cnt w mb n c) {nm : Txt} (hl : nm.length ≤ 1000) (hn : n ≤ 4611686018427387904) {v : Nat} (hv : v ≤ n) :
    ∃ w', (Instr.mapUpdate 94 (.map (some mb)) (str nm) (.int .i64 (v : Int))).run Tryz.prog w = .ok () w' ∧ Cnt w' mb (n + 1) (fun s => if s = nm then v else c s) ∧ Keeps (fun k => k = mb) w w' := by
  obtain ⟨D, h1, h2, h3⟩ := h
  have hw : (Lit.int .i64 (v : Int)).wf = true := by simp [Lit.wf, IntKind.min, IntKind.max, IntKind.signed, IntKind.bits]; omega
  obtain ⟨w', hrun, hm, ht⟩ := h1.store strKeyed Tryz.underlying94 (by unfold maxLen; omega) (keyStr hl) (plainElem_int Tryz.underlying3 hw)
  refine ⟨w', hrun, ⟨_, hm, fun s => ?_, fun s => ?_⟩, (Keeps.refl _ _).grown ht.grown (fun q e _ => by simpa using e.symm)⟩
  · show _ = DataW.lit (Lit.int .i64 ((if s = nm then v else c s : Nat) : Int))
    by_cases e : s = nm
    · subst e
      rw [atKey_put_same h1.isMap (isKeyStr _), if_pos rfl]
    · rw [atKey_put_other (fun h => e (by simpa using h)), if_neg e, h2 s]
  · show (if s = nm then v else c s) ≤ n + 1
    have := h3 s
    split <;> omega
/-- The places of the first k fields. -/
def placesTo (S : List FieldA) (k : Nat) (nm : Txt) : Nat := (idxF (S.take k) nm).getD 0
theorem places_step {S : List FieldA} (hS : (S.map FieldA.name).Nodup) {k : Nat} {f : FieldA} (hf : S[k]? = some f) (s : Txt) : placesTo S (k + 1) s = if s = f.name then k else placesTo S k s := by
  have hk : k < S.length := get_lt hf
  have ht : S.take (k + 1) = S.take k ++ [f] := take_snoc _ _ _ hf
  have hlen : (S.take k).length = k := by simp; omega
  unfold placesTo idxF
  rw [ht, List.findIdx?_append]
  by_cases e : s = f.name
  · subst e
    rw [if_pos rfl]
    have hno : (S.take k).findIdx? (fun g => decide (g.name = f.name)) = none := by
      rw [List.findIdx?_eq_none_iff]
      intro g hg
      rw [decide_eq_false_iff_not]
      intro he
      obtain ⟨i, hi, hgi⟩ := List.getElem_of_mem hg
      have hik : i < k := by omega
      have h1 : (S.map FieldA.name)[i]? = some f.name := by
        rw [List.getElem?_map, show S[i]? = some g by rw [← hgi]; rw [List.getElem_take]; exact List.getElem?_eq_getElem _]
        simp [he]
      have h2 : (S.map FieldA.name)[k]? = some f.name := by rw [List.getElem?_map, hf]; rfl
      obtain ⟨hi1, e1⟩ := List.getElem?_eq_some_iff.1 h1
      obtain ⟨hk1, e2⟩ := List.getElem?_eq_some_iff.1 h2
      exact (List.pairwise_iff_getElem.1 hS) i k hi1 hk1 hik (e1.trans e2.symm)
    rw [hno]
    simp [hlen]
  · rw [if_neg e]
    cases h : (S.take k).findIdx? (fun g => decide (g.name = s)) with
    | some i => rfl
    | none =>
      have : ([f].findIdx? fun g => decide (g.name = s)) = none := by simp [Ne.symm e]
      rw [this]
      rfl
theorem places_zero (S : List FieldA) (s : Txt) : placesTo S 0 s = 0 := by simp [placesTo, idxF]
theorem places_full (S : List FieldA) (s : Txt) : placesTo S S.length s = placeP S s := by simp [placesTo, placeP]
theorem field_short {S : List FieldA} (h : schemaB S = true) {k : Nat} {f : FieldA} (hf : S[k]? = some f) : f.name.length ≤ 1000 := by
  have := List.all_eq_true.1 (schemaB_ok h) f (List.mem_of_getElem? hf)
  unfold fieldOK at this
  simp only [Bool.and_eq_true] at this
  have := name_short this.1
  omega
theorem schema_nodup {S : List FieldA} (hS : schemaB S = true) : (S.map FieldA.name).Nodup := by
  unfold schemaB at hS
  simp only [Bool.and_eq_true, decide_eq_true_eq] at hS
  exact hS.1.2
/-- What newMaker answers. -/
def MadeM (S : List FieldA) (F : Nat → Prop) (w : World) (e : Ending) (w' : World) : Prop := ∃ m mb n tab zv, e = .returned (.pointer (some ⟨m, 0, none⟩)) ∧ MkAt S F w' m mb n tab zv ∧ Keeps (fun _ => False) w w'
set_option maxRecDepth 100000 in
set_option maxHeartbeats 4000000 in
theorem newMaker_v (S : List FieldA) (F : Nat → Prop) (sv : Value) (w : World) (hF : ∀ q, F q → q < w.heap.size) (hT : Types w) (hf : FldsAt w sv S) (hS : schemaB S = true) :
    Calls Tryz.prog 42 #[.agg #[sv]] w (MadeM S F w) := by
  obtain ⟨so, sc, rfl⟩ := RowAt.form hf
  obtain ⟨hl1, hl8⟩ := schemaB_len hS
  have hnd := schema_nodup hS
  have hzB : zeroB S = zeros S := by simp [zeroB, hS]
  obtain ⟨HB, hxb, hxc⟩ := boxed w #[.slice so S.length sc] 24
  have x0 := hxc 0 (.slice so S.length sc) rfl
  generalize hX0 : w.alloc (.cells #[.slice so S.length sc] 24) = X0 at *
  have hK1 : Keeps (fun _ => False) X0 (X0.alloc (.map #[] 0)) := (Keeps.refl _ _).alloc _
  have hC0 := Cnt.made X0
  have hs1 : (X0.alloc (.map #[] 0)).heap.size = X0.heap.size + 1 := by simp
  have x1 := (hK1.cell (o := 0) hxb id).trans x0
  generalize hX1 : X0.alloc (.map #[] 0) = X1 at *
  have HZ := hide (val_zero S (.slice so S.length sc) X1 (hT.keepF ((unhide HB).trans hK1)) (hf.keepF ((unhide HB).trans hK1)))
  rw [hzB] at HZ
  have HFA := hide hf
  have HK1 := hide ((unhide HB).trans hK1)
  have HC0 := hide hC0
  have HND := hide hnd
  have HSS := hide hS
  have hmm := @run_makeMap Tryz.prog
  have HFF := hide hF
  have hX0w : w.heap.size < X0.heap.size := hxb
  have HS1 := hide hs1
  clear hxc hT hf hnd hS hK1 hC0 hF hzB x0 hs1
  go_enter Tryz.func42, Tryz.ntmps42
  go_wp2_with fail
  refine (unhide HZ).mono ?_
  rintro e w1 ⟨zv, rfl, hzo, hk1⟩
  have HZO := hide hzo
  have HL1 := hide hk1
  obtain ⟨zo, zc, rfl⟩ := (rowAt_own hzo).form
  have HF1 : Hid (∀ q, (F q ∨ q = X0.heap.size) → q < w1.heap.size) := fun q hq => by
    have h1 := hk1.size
    have h2 := unhide HS1
    rcases hq with hq | hq
    · have h3 := unhide HFF q hq
      omega
    · omega
  clear hzo hk1 HZ
  go_wp2_with fail
  refine (operations_v S (fun q => F q ∨ q = X0.heap.size) w1 (unhide HF1)).mono ?_
  rintro e w2 ⟨tab, rfl, ht1, ht2, hops, hk2⟩
  have HOPS := hide hops
  have HL2 := hide hk2
  have hK3 : Keeps (fun _ => False) w2 (w2.alloc (.cells #[.map (some X0.heap.size), .slice zo (zeros S).length zc, .slice (some ⟨tab, 0, none⟩) 26 26] 123)) := (Keeps.refl _ _).alloc _
  obtain ⟨_, hyb, hyc⟩ := boxed w2 #[.map (some X0.heap.size), .slice zo (zeros S).length zc, .slice (some ⟨tab, 0, none⟩) 26 26] 123
  have y0 := hyc 0 (.map (some X0.heap.size)) rfl
  have y1 := hyc 1 (.slice zo (zeros S).length zc) rfl
  have y2 := hyc 2 (.slice (some ⟨tab, 0, none⟩) 26 26) rfl
  have hKX : Keeps (fun _ => False) X1 (w2.alloc (.cells #[.map (some X0.heap.size), .slice zo (zeros S).length zc, .slice (some ⟨tab, 0, none⟩) 26 26] 123)) := ((unhide HL1).trans hk2).trans hK3
  have x3 := (hKX.cell (o := 0) (by have := unhide HS1; omega) id).trans x1
  have h2s : X0.heap.size + 1 ≤ w2.heap.size := by have := unhide HS1; have := (unhide HL1).size; have := hk2.size; omega
  have HTS := hide (show w1.heap.size ≤ tab ∧ tab < w2.heap.size from ⟨ht1, ht2⟩)
  generalize hX3 : w2.alloc (.cells #[.map (some X0.heap.size), .slice zo (zeros S).length zc, .slice (some ⟨tab, 0, none⟩) 26 26] 123) = X3 at *
  have HCN := hide ((unhide HC0).keep hKX id)
  have HKX := hide hKX
  have HK3 := hide hK3
  have HY1 := hide y1
  have HY2 := hide y2
  have hmne : ¬ w2.heap.size = X0.heap.size := by omega
  clear hops hk2 hyc hKX hK3 x1 HC0 ht1 ht2 y1 y2 HF1
  go_wp2_with fail
  go_loopw [15] (fun i wr => ∃ (k : Nat), k ≤ S.length ∧ i = .int .i64 k ∧ Hid (Cnt wr X0.heap.size k (placesTo S k)) ∧ Keeps (fun q => q = X0.heap.size) X3 wr) (fun i _ => S.length - (intOf i).toNat)
  case atStart => exact ⟨0, Nat.zero_le _, rfl, (unhide HCN).congr (fun s => (places_zero S s).symm), Keeps.refl _ _⟩
  case round =>
    obtain ⟨k, hk, rfl, HC, hkp⟩ := hrel
    have HK := hide hkp
    have z0 := (hkp.cell (o := 0) hyb hmne).trans y0
    have z3 := (hkp.cell (o := 0) (by omega) (by omega)).trans x3
    clear hkp
    by_cases hlt : k < S.length
    · obtain ⟨f, hf⟩ : ∃ f, S[k]? = some f := ⟨_, List.getElem?_eq_getElem hlt⟩
      obtain ⟨b, off, cp, ef, hbl, hc⟩ := (unhide HFA).cells (by omega)
      simp at ef
      obtain ⟨rfl, rfl⟩ := ef
      have hKw : Keeps (fun q => q = X0.heap.size) w wr := ((unhide HK1).trans (unhide HKX)).any.trans (unhide HK)
      have c0 := (hKw.cell hbl (by omega)).trans (hc k f hf).1
      have c1 := (hKw.cell hbl (by omega)).trans (hc k f hf).2.1
      have c2 := (hKw.cell hbl (by omega)).trans (hc k f hf).2.2
      have i1 : (k : Int) < (S.length : Int) := by omega
      have i0 : (0 : Int) ≤ (k : Int) := by omega
      have hnm := field_short (unhide HSS) hf
      have HF := hide hf
      obtain ⟨HBf, hfb, hfc⟩ := boxed wr #[str f.name, .int .i64 f.type, .bool f.opt] 47
      have f0 := hfc 0 (str f.name) rfl
      have v0 := ((unhide HBf).cell (o := 0) (World.block_lt_of_cell? wr ⟨w2.heap.size, 0, none⟩ z0) id).trans z0
      have HCf := hide ((unhide HC).keep (unhide HBf) id)
      clear hc hf hfc hKw z3
      go_wp2_with fail
      generalize hY : wr.alloc (.cells #[str f.name, .int .i64 f.type, .bool f.opt] 47) = Y at *
      obtain ⟨Y2, hrun, hc2, hk2⟩ := ((unhide HCf).keep (Keeps.refl (fun _ => False) Y).drew id).put hnm (by omega) (Nat.le_refl k)
      have HC2 := hide hc2
      have HK2 := hide (((unhide HK).trans (unhide HBf).any).drew.trans hk2)
      clear hc2 hk2
      go_region
      go_wp2_with fail
      go_roundw
      case rel => exact ⟨k + 1, by omega, by go_num, (unhide HC2).congr (fun s => (places_step (unhide HND) (unhide HF) s).symm), unhide HK2⟩
      case measure => simp [intOf]; omega
    · obtain rfl : k = S.length := by omega
      have i1 : ¬ (S.length : Int) < (S.length : Int) := by omega
      clear z0 z3
      go_wp2_with fail
      go_ret
      have hkk := unhide HK
      have hl3 := unhide HK3
      have t1 := (unhide HTS).1
      have t2 := (unhide HTS).2
      have s1 := (unhide HL1).size
      have s2 := (unhide HL2).size
      have sS := unhide HS1
      have hlow : ∀ q, F q → q < w.heap.size := unhide HFF
      have hzown := unhide HZO
      have hzb : ∀ q, (Value.slice zo (zeros S).length zc).ownBlock = some q → X1.heap.size ≤ q := fun q e => (hzown.lt q e).1
      have hops : ∀ i : Nat, 7 ≤ i → i ≤ 25 → ∃ ov, wr.cell? ⟨tab, i, none⟩ = some ov ∧ OpF S F wr ov (kidsB i).toNat (opV i) := fun i a b => by
        obtain ⟨ov, ho, hof⟩ := unhide HOPS i a b
        refine ⟨ov, (hkk.cell (Nat.lt_of_lt_of_le t2 hl3.size) (by omega)).trans ((hl3.cell t2 id).trans ho), hof.shift (hl3.any.trans (hkk.mono (fun q _ e => Or.inr e))) (fun q h _ => Or.inl h)⟩
      have hz3 : ValsAt wr (.slice zo (zeros S).length zc) (zeros S) := by
        have h1 : ValsAt w1 (.slice zo (zeros S).length zc) (zeros S) := rowAt_own hzown
        have h2 := (h1.keepF (unhide HL2)).keepF hl3
        exact RowAt.kept h2 hkk (fun q e => by have := hzb q e; omega)
      refine ⟨w2.heap.size, X0.heap.size, S.length, tab, _, rfl, ⟨Nat.lt_of_lt_of_le hyb hkk.size, fun h => by have := hlow _ h; omega, (hkk.cell hyb hmne).trans y0, (hkk.cell hyb hmne).trans (unhide HY1), (hkk.cell hyb hmne).trans (unhide HY2), (unhide HC).congr (places_full S), fun h => by have := hlow _ h; omega, hz3, fun q e h => by have := hlow _ h; have := hzb q e; omega, Nat.lt_of_lt_of_le (Nat.lt_of_lt_of_le t2 hl3.size) hkk.size, fun h => by have := hlow _ h; omega, hops⟩, ?_⟩
      exact ((unhide HK1).trans (unhide HKX)).narrow hkk (fun q e => by omega)
end Go.Proofs.YtiinohibmcefkaaGreatDoor
