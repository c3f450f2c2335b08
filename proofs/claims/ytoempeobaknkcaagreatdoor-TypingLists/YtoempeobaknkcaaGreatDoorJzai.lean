import Derived.Test.YtoempeobaknkcaaGreatDoorKf
import Derived.StringKeys
import Derived.Test.YtoempeobaknkcaaGreatDoorKg
import Derived.Test.YtoempeobaknkcaaGreatDoorJzaf
namespace Go.Proofs.YtoempeobaknkcaaGreatDoor
open Go.RowKit Go.Maps

def kD (k : KA) : DataW Unit := .agg [.lit (.int .i64 k.t), .lit (.bool k.o)]
/-- How an element of the map of fields reads. -/
def kindElem (v : Value) : Option (DataW Unit × List MemPlace) := match v with
  | .agg a => match a.toList with
    | [.int .i64 t, .bool o] => some (kD ⟨t, o⟩, [])
    | _ => none
  | _ => none
theorem kindElem_mk (k : KA) : kindElem (kindV k) = some (kD k, []) := rfl
theorem kindElem_inv {v : Value} {k : KA} {ps : List MemPlace} (h : kindElem v = some (kD k, ps)) : v = kindV k := by
  unfold kindElem at h
  split at h
  · rename_i a
    split at h
    · rename_i t o e
      simp [kD] at h
      obtain ⟨⟨h1, h2⟩, _⟩ := h
      obtain ⟨l⟩ := a
      simp at e
      rw [e, h1, h2]
    · cases h
  · cases h
theorem strKeyed : Keyed Tryz.prog 9 := string_keyed Tryz.underlying9
theorem keyStr {s : Txt} (h : s.length ≤ 1000) : keyOf Tryz.prog 9 (str s) = some (.string s) := by
  have := WideMaps.keyOf_string_mk (P := Tryz.prog) (k := 9) Tryz.underlying9 (s := ⟨s.toArray⟩) (by show s.toArray.size ≤ maxLen; unfold maxLen; simp; omega)
  simpa using this
/-- The map of fields. -/
def mapD (m : DataW Unit) (l : List FieldA) : DataW Unit := l.foldl (fun m f => m.put (.string f.name) (kD ⟨f.type, f.opt⟩)) m
theorem mapD_snoc (m : DataW Unit) (l : List FieldA) (f : FieldA) : mapD m (l ++ [f]) = (mapD m l).put (.string f.name) (kD ⟨f.type, f.opt⟩) := by simp [mapD, List.foldl_append]
theorem isKeyStr (s : Txt) : WideAt.IsKeyLit (.string s) := by simp [WideAt.IsKeyLit]
theorem fieldOf_none {l : List FieldA} {nm : Txt} (h : ∀ g ∈ l, g.name ≠ nm) : fieldOf l nm = none := by
  unfold fieldOf
  rw [List.find?_eq_none]
  intro g hg
  simpa using h g hg
theorem mapD_at (nm : Txt) (z : DataW Unit) : ∀ (l : List FieldA) (m : DataW Unit), IsMap m → (l.map FieldA.name).Nodup → (mapD m l).atKey (.string nm) z = (match fieldOf l nm with | some f => kD ⟨f.type, f.opt⟩ | none => m.atKey (.string nm) z) ∧ Maps.has (mapD m l) (.string nm) = ((fieldOf l nm).isSome || Maps.has m (.string nm))
  | [], m, _, _ => by simp [mapD, fieldOf]
  | f :: r, m, hm, hn => by
    have hn2 : (r.map FieldA.name).Nodup ∧ ∀ g ∈ r, g.name ≠ f.name := by
      simp only [List.map_cons, List.nodup_cons, List.mem_map, not_exists, not_and] at hn
      exact ⟨hn.2, fun g hg => hn.1 g hg⟩
    have ih := mapD_at nm z r (m.put (.string f.name) (kD ⟨f.type, f.opt⟩)) (hm.put _ _) hn2.1
    have e : mapD m (f :: r) = mapD (m.put (.string f.name) (kD ⟨f.type, f.opt⟩)) r := rfl
    rw [e, ih.1, ih.2]
    by_cases h : f.name = nm
    · subst h
      have e1 : fieldOf r f.name = none := fieldOf_none hn2.2
      have e2 : fieldOf (f :: r) f.name = some f := by simp [fieldOf]
      rw [e1, e2]
      exact ⟨atKey_put_same hm (isKeyStr _) _ _, by simp [has_put_same hm (isKeyStr f.name)]⟩
    · have e2 : fieldOf (f :: r) nm = fieldOf r nm := by simp [fieldOf, h]
      have hne : (Lit.string nm) ≠ .string f.name := fun e => h (by simpa using e.symm)
      rw [e2, atKey_put_other hne, has_put_other hne]
      exact ⟨rfl, rfl⟩
theorem zero90 (w : World) : (zeroValue 80).run Tryz.prog w = .ok (kindV ⟨0, false⟩) w := by kernel_rfl
/-- A judge's map lies so. -/
structure MapAt (w : World) (j mb n : Nat) (S : List FieldA) : Prop where
  lt : j < w.heap.size
  cell : w.cell? ⟨j, 0, none⟩ = some (.map (some mb))
  map : w.ownsMap Tryz.prog 9 kindElem mb n (mapD (.map []) S)
theorem ownsMap_keep {w w' : World} {mb n : Nat} {D : DataW Unit} (h : w.ownsMap Tryz.prog 9 kindElem mb n D) {F : Nat → Prop} (hk : Keeps F w w') (hF : ¬ F mb) : w'.ownsMap Tryz.prog 9 kindElem mb n D := by
  obtain ⟨es, clock, hb, r⟩ := h
  exact ⟨es, clock, (hk.block _ (lt_of_block hb) hF).trans hb, r⟩
theorem MapAt.keepF {w w' : World} {j mb n : Nat} {S : List FieldA} (h : MapAt w j mb n S) (hk : Keeps (fun _ => False) w w') : MapAt w' j mb n S :=
  ⟨Nat.lt_of_lt_of_le h.lt hk.size, (hk.cell h.lt id).trans h.cell, ownsMap_keep h.map hk id⟩
theorem MapAt.look {w : World} {j mb n : Nat} {S : List FieldA} (h : MapAt w j mb n S) (hS : (S.map FieldA.name).Nodup) {nm : Txt} (hl : nm.length ≤ 1000) :
    (Instr.lookup 92 (.map (some mb)) (str nm) true).run Tryz.prog w = .ok (.tuple #[kindV (namedK S nm).1, .bool (fieldOf S nm).isSome]) w := by
  obtain ⟨v, ps, hrun, hv⟩ := h.map.look_ok strKeyed Tryz.underlying92 (zero90 w) (kindElem_mk ⟨0, false⟩) (keyStr hl)
  obtain ⟨h1, h2⟩ := mapD_at nm (kD ⟨0, false⟩) S (.map []) ⟨[], rfl⟩ hS
  have e2 : Maps.has (DataW.map ([] : List (Lit × DataW Unit))) (.string nm) = false := rfl
  rw [h2, e2, Bool.or_false] at hrun
  rw [h1] at hv
  have e3 : kindElem v = some (kD (namedK S nm).1, ps) := by
    rw [hv]
    unfold namedK
    cases fieldOf S nm <;> rfl
  rw [kindElem_inv e3] at hrun
  exact hrun
set_option maxRecDepth 100000 in
set_option maxHeartbeats 1000000 in
theorem namedJ_core (j mb : Nat) (nm : Txt) (w : World) (T E : Int) (O I : Bool) (hE : unlessI I 90 = E) (c0 : (w.alloc (.cells #[.int .i64 0, .bool false] 80)).cell? ⟨j, 0, none⟩ = some (.map (some mb)))
    (hrun : (Instr.lookup 92 (.map (some mb)) (str nm) true).run Tryz.prog (w.alloc (.cells #[.int .i64 0, .bool false] 80)) = .ok (.tuple #[.agg #[.int .i64 T, .bool O], .bool I]) (w.alloc (.cells #[.int .i64 0, .bool false] 80))) :
    Calls Tryz.prog 95 #[.pointer (some ⟨j, 0, none⟩), str nm] w fun e w' => e = .returned (.tuple #[.agg #[.int .i64 T, .bool O], .int .i64 E]) ∧ Keeps (fun _ => False) w w' := by
  have HU := fun w' => hide (unless_v I 90 w')
  rw [hE] at HU
  have HK0 : Hid (Keeps (fun _ => False) w (w.alloc (.cells #[.int .i64 0, .bool false] 80))) := (Keeps.refl _ w).alloc _
  obtain ⟨HB, hxb, hxc⟩ := boxed (w.alloc (.cells #[.int .i64 0, .bool false] 80)) #[.int .i64 T, .bool O] 80
  have hsz : (w.alloc (.cells #[.int .i64 0, .bool false] 80)).heap.size = w.heap.size + 1 := by simp
  have d0 : ((w.alloc (.cells #[.int .i64 0, .bool false] 80)).alloc (.cells #[.int .i64 T, .bool O] 80)).drew.cell? ⟨w.heap.size + 1, 0, none⟩ = some (.int .i64 T) := by have := hxc 0 (.int .i64 T) rfl; rw [hsz] at this; exact this
  have d1 : ((w.alloc (.cells #[.int .i64 0, .bool false] 80)).alloc (.cells #[.int .i64 T, .bool O] 80)).drew.cell? ⟨w.heap.size + 1, 1, none⟩ = some (.bool O) := by have := hxc 1 (.bool O) rfl; rw [hsz] at this; exact this
  rw [hsz] at hxb
  have HX : Hid (((w.alloc (.cells #[.int .i64 0, .bool false] 80)).alloc (.cells #[.int .i64 T, .bool O] 80)).heap[w.heap.size]? = some (.cells #[.int .i64 0, .bool false] 80 (0, 0))) := ((unhide HB).block _ (by simp) id).trans (heap_alloc_new w _)
  have HUK := fun w' => hide ((unhide (HU w')).mono (fun e w2 ⟨he, hw⟩ => (⟨he, by rw [hw]; exact Keeps.refl _ _⟩ : e = Ending.returned (.int .i64 E) ∧ Keeps (fun _ => False) w' w2)))
  have hne : ¬ w.heap.size + 1 = w.heap.size := by omega
  clear hxc hE HU
  go_enter Tryz.func95, Tryz.ntmps95
  go_wp2_with fail
  go_region_held3 (fun w' => w'.cell? ⟨w.heap.size + 1, 0, none⟩ = some (.int .i64 T) ∧ w'.cell? ⟨w.heap.size + 1, 1, none⟩ = some (.bool O)) (first | with_reducible exact ⟨d0, d1⟩ | with_reducible exact ⟨r0, r1⟩ | with_reducible exact ⟨t0, t1⟩)
    ((go_at_call 100; refine (unhide (HUK _)).mono ?_; rintro e w1 ⟨rfl, hk1⟩; have r0 := (hk1.cell (o := 0) hxb id).trans d0; have r1 := (hk1.cell (o := 1) hxb id).trans d1; have hb1 := (hk1.block w.heap.size (Nat.lt_trans (Nat.lt_succ_self _) hxb) id).trans (unhide HX); have t0 := ((keeps_set2 w1 w.heap.size (.int .i64 T) (.bool O)).cell (Nat.lt_of_lt_of_le hxb hk1.size) hne).trans r0; have t1 := ((keeps_set2 w1 w.heap.size (.int .i64 T) (.bool O)).cell (Nat.lt_of_lt_of_le hxb hk1.size) hne).trans r1; have m0 := cell_of_blk hb1 0; have m1 := cell_of_blk hb1 1; simp at m0 m1; have g0 := frozen_of_blk hb1 0; have g1 := frozen_of_blk hb1 1; have HB1 := hide hb1; have HK1 := hide (((unhide HK0).trans (unhide HB)).trans ((Keeps.refl _ _).drew.trans hk1)); clear hk1 hb1))
  all_goals go_wp2_with fail
  all_goals (obtain ⟨⟨s0, s1, _⟩, hks2⟩ := set2 (unhide HB1) (.int .i64 T) (.bool O); refine bodyPost_ret (v := .tuple #[.agg #[.int .i64 T, .bool O], .int .i64 E]) (by simp [results, go_sem, s0, s1]) rfl ?_; exact ⟨rfl, (unhide HK1).narrow hks2 (fun q e => by omega)⟩)
theorem namedJ_v (j mb n : Nat) (S : List FieldA) (hS : (S.map FieldA.name).Nodup) (nm : Txt) (hl : nm.length ≤ 1000) (w : World) (h : MapAt w j mb n S) :
    Calls Tryz.prog 95 #[.pointer (some ⟨j, 0, none⟩), str nm] w fun e w' => e = .returned (kerV (namedK S nm)) ∧ Keeps (fun _ => False) w w' := by
  have h0 := h.keepF ((Keeps.refl _ w).alloc (.cells #[.int .i64 0, .bool false] 80))
  have e90 : unlessI (fieldOf S nm).isSome 90 = (namedK S nm).2 := by unfold namedK unlessI; cases fieldOf S nm <;> rfl
  exact namedJ_core j mb nm w _ _ _ _ e90 h0.cell (h0.look hS hl)
end Go.Proofs.YtoempeobaknkcaaGreatDoor
namespace Go.Proofs.YtoempeobaknkcaaGreatDoor
open Go.RowKit Go.Maps

theorem namedJ_led (j mb n : Nat) (S : List FieldA) (hS : (S.map FieldA.name).Nodup) (nm : Txt) (hl : nm.length ≤ 1000) {w : World} (h : MapAt w j mb n S) {R : Nat} {L : List (Nat × Int)} {cur : World} (hL : Led w R L cur) :
    Calls Tryz.prog 95 #[.pointer (some ⟨j, 0, none⟩), str nm] cur fun e w' => e = .returned (.tuple #[.agg #[.int .i64 (namedK S nm).1.t, .bool (namedK S nm).1.o], .int .i64 (namedK S nm).2]) ∧ Led w R L w' :=
  (namedJ_v j mb n S hS nm hl cur (h.keepF hL.kept)).mono fun _ _ ⟨he, hk⟩ => ⟨he, hL.keep hk⟩

set_option maxRecDepth 100000 in
set_option maxHeartbeats 1000000 in
theorem fieldF_v (j mb nn : Nat) (S : List FieldA) (hS : (S.map FieldA.name).Nodup) (op n : Int) (s : Txt) (hl : s.length ≤ 1000) (ao : Option Addr) (xn xc : Nat) (ko : Option Addr) (kn kc : Nat) (w : World) (h : MapAt w j mb nn S) :
    Calls Tryz.prog 72 #[.pointer (some ⟨j, 0, none⟩), .agg #[.int .i64 op, .int .i64 n, str s, .slice ao xn xc], .slice ko kn kc] w fun e w' => e = .returned (kerV (namedK S s)) ∧ Keeps (fun _ => False) w w' := by
  have HL := hide (led_start w #[.int .i64 op, .int .i64 n, str s, .slice ao xn xc] 57)
  have HN := hide (namedJ_led j mb nn S hS s hl h (unhide HL))
  have hk2 : kerV (namedK S s) = .tuple #[.agg #[.int .i64 (namedK S s).1.t, .bool (namedK S s).1.o], .int .i64 (namedK S s).2] := rfl
  rw [hk2]
  generalize (namedK S s).1.t = T at *
  generalize (namedK S s).1.o = O at *
  generalize (namedK S s).2 = E at *
  clear hk2 h
  go_enter Tryz.func72, Tryz.ntmps72
  go_wp2_with (go_at_call 95; refine (unhide HN).mono ?_; rintro e w1 ⟨rfl, hl1⟩; have m0 := cell_of_blk hl1.res 0; have m1 := cell_of_blk hl1.res 1; simp at m0 m1; have g0 := frozen_of_blk hl1.res 0; have g1 := frozen_of_blk hl1.res 1; have HL := hide hl1; clear hl1)
  obtain ⟨⟨s0, s1, _⟩, _⟩ := set2 (unhide HL).res (.int .i64 T) (.bool O)
  refine bodyPost_ret (v := .tuple #[.agg #[.int .i64 T, .bool O], .int .i64 E]) (by simp [results, go_sem, s0, s1]) rfl ?_
  exact ⟨rfl, (unhide HL).done (by omega) _ _⟩

theorem or_keep (es : List Int) (n : Nat) (hn : n = es.length) (hl : es.length ≤ 1000) (cur : World) : Calls Tryz.prog 96 #[.slice (some ⟨cur.heap.size, 0, none⟩) n n] (cur.alloc (.cells (ints es).toArray 30)) fun e w' => e = .returned (.int .i64 (orL es)) ∧ Keeps (fun _ => False) cur w' :=
  (or_v es _ _ (ints_new cur es 30 n hn) hl).mono fun _ _ ⟨he, hw⟩ => ⟨he, by subst hw; exact (Keeps.refl _ _).alloc _⟩
set_option maxRecDepth 100000 in
set_option maxHeartbeats 2000000 in
theorem hasF_v (j mb nn : Nat) (S : List FieldA) (hS : (S.map FieldA.name).Nodup) (op n : Int) (s : Txt) (hl : s.length ≤ 1000) (ao : Option Addr) (xn xc : Nat) (ko : Option Addr) (kn kc : Nat) (w : World) (h : MapAt w j mb nn S) :
    Calls Tryz.prog 73 #[.pointer (some ⟨j, 0, none⟩), .agg #[.int .i64 op, .int .i64 n, str s, .slice ao xn xc], .slice ko kn kc] w fun e w' => e = .returned (kerV (hasK S s)) ∧ Keeps (fun _ => False) w w' := by
  have HL := hide (led_start w #[.int .i64 op, .int .i64 n, str s, .slice ao xn xc] 57)
  have HN := hide (namedJ_led j mb nn S hS s hl h (unhide HL))
  have hk2 : kerV (hasK S s) = .tuple #[.agg #[.int .i64 2, .bool false], .int .i64 (orI (namedK S s).2 (optI ⟨(namedK S s).1.t, (namedK S s).1.o⟩))] := rfl
  rw [hk2]
  generalize (namedK S s).1.t = T at *
  generalize (namedK S s).1.o = O at *
  generalize (namedK S s).2 = E at *
  have hR : w.heap.size ≤ w.heap.size + 1 := Nat.le_succ _
  rw [← orL_two]
  clear hk2 h
  go_enter Tryz.func73, Tryz.ntmps73
  go_wp2_with (go_at_call 95; refine (unhide HN).mono ?_; rintro e w1 ⟨rfl, hl1⟩; have HLO := hide (lt_of_block hl1.res); have HB0 := hide (boxed w1 #[.int .i64 T, .bool O] 80); have HL := hide (hl1.keep ((Keeps.refl _ w1).alloc (.cells #[.int .i64 T, .bool O] 80))); clear hl1)
  have hb0 := unhide HB0
  have hxb := hb0.2.1
  have SK : ∀ w' : World, Keeps (fun _ => False) (w1.alloc (.cells #[.int .i64 T, .bool O] 80)) w' → w'.cell? ⟨w1.heap.size, 0, none⟩ = some (.int .i64 T) ∧ w'.cell? ⟨w1.heap.size, 1, none⟩ = some (.bool O) := fun w' hk =>
    ⟨(hk.cell hxb id).trans (hb0.2.2 0 (.int .i64 T) rfl), (hk.cell hxb id).trans (hb0.2.2 1 (.bool O) rfl)⟩
  have HSK := hide SK
  have HKB : Hid (Keeps (fun _ => False) (w1.alloc (.cells #[.int .i64 T, .bool O] 80)) (w1.alloc (.cells #[.int .i64 T, .bool O] 80))) := Keeps.refl _ _
  have hlo : w.heap.size + 1 < w1.heap.size := unhide HLO
  have hlo2 : w.heap.size + 1 < (w1.alloc (.cells #[.int .i64 T, .bool O] 80)).heap.size := Nat.lt_trans hlo hxb
  have hne : ¬ w1.heap.size = w.heap.size + 1 := by omega
  have d := unhide HSK (w1.alloc (.cells #[.int .i64 T, .bool O] 80)).drew (unhide HKB).drew
  clear SK hb0 HB0 HN
  go_region_held3 (fun w' => w'.cell? ⟨w1.heap.size, 0, none⟩ = some (.int .i64 T) ∧ w'.cell? ⟨w1.heap.size, 1, none⟩ = some (.bool O)) (first | with_reducible exact d | with_reducible exact unhide HSK _ (unhide HKB) | with_reducible exact unhide HSK _ ((unhide HKB).alloc _) | with_reducible exact t0)
    ((first
    | (go_at_call 94; refine (plain_v 2 _).mono ?_; rintro e w2 ⟨rfl, hk1⟩; have HL := hide ((unhide HL).keep ((Keeps.refl _ _).drew.trans hk1)); have HKB := hide ((unhide HKB).trans ((Keeps.refl _ _).drew.trans hk1)); clear hk1)
    | (go_at_call 97; refine (isOptional_v ⟨T, O⟩ _).mono ?_; rintro e w3 ⟨rfl, hk1⟩; have HL := hide ((unhide HL).keep hk1); have HKB := hide ((unhide HKB).trans hk1); clear hk1)
    | (go_at_call 96; refine (or_keep [E, optI ⟨T, O⟩] 2 rfl (by simp) _).mono ?_; rintro e w4 ⟨rfl, hk1⟩; have HL := hide ((unhide HL).keep hk1); have HKB := hide ((unhide HKB).trans hk1); have m0 := cell_of_blk (unhide HL).res 0; have m1 := cell_of_blk (unhide HL).res 1; simp at m0 m1; have g0 := frozen_of_blk (unhide HL).res 0; have g1 := frozen_of_blk (unhide HL).res 1; have hx4 := Nat.lt_of_lt_of_le hxb (unhide HKB).size; have t0 : ((w4.setCell ⟨w.heap.size + 1, 0, none⟩ (.int .i64 2)).setCell ⟨w.heap.size + 1, 1, none⟩ (.bool false)).cell? ⟨w1.heap.size, 0, none⟩ = some (.int .i64 T) ∧ ((w4.setCell ⟨w.heap.size + 1, 0, none⟩ (.int .i64 2)).setCell ⟨w.heap.size + 1, 1, none⟩ (.bool false)).cell? ⟨w1.heap.size, 1, none⟩ = some (.bool O) := ⟨((keeps_set2 w4 (w.heap.size + 1) _ _).cell hx4 hne).trans (unhide HSK _ (unhide HKB)).1, ((keeps_set2 w4 (w.heap.size + 1) _ _).cell hx4 hne).trans (unhide HSK _ (unhide HKB)).2⟩; clear hk1)))
  all_goals go_wp2_with fail
  all_goals (obtain ⟨⟨s0, s1, _⟩, _⟩ := set2 (unhide HL).res (.int .i64 2) (.bool false); refine bodyPost_ret (v := .tuple #[.agg #[.int .i64 2, .bool false], .int .i64 (orL [E, optI ⟨T, O⟩])]) (by simp [results, go_sem, s0, s1]) rfl ?_; exact ⟨rfl, (unhide HL).done (by omega) _ _⟩)
end Go.Proofs.YtoempeobaknkcaaGreatDoor
namespace Go.Proofs.YtoempeobaknkcaaGreatDoor
open Go.RowKit Go.Maps

theorem Tryz.info80 : (Tryz.prog.info? 80).map (fun i => (i.zero, i.size, i.bytes)) = some (some (kindV ⟨0, false⟩), 2, 16) := by kernel_rfl
/-- A list of kinds, made new. -/
theorem run_mkK (n : Nat) (hn : n ≤ 1000) (w : World) : ∃ c : Array Value, c.size = n * 2 ∧ (Instr.makeSlice 103 (.int .i64 (n : Int)) (.int .i64 (n : Int))).run Tryz.prog w = .ok (.slice (some ⟨w.heap.size, 0, none⟩) n n) (w.alloc (.cells c 80)) := by
  obtain ⟨i0, hi, hz0, hz1, hz2⟩ := info_parts Tryz.info80
  have q := run_make (P := Tryz.prog) w 103 80 i0 _ Tryz.underlying103 hi hz0 .i64 .i64 (n : Int) (n : Int) (by omega) (by omega) (by rw [hz2]; omega) (by omega)
  rw [hz1] at q
  have e : ((n : Int)).toNat = n := by omega
  rw [e] at q
  exact ⟨_, by rw [size_madeCells], q⟩
/-- This function value is that rule. -/
def RuleV (w : World) (j : Nat) (r : RuleA) (fv : Value) : Prop := match r with
  | .takes is ts => ∃ tb ib tv, fv = .func (.func 92) #[] #[.pointer (some ⟨tb, 0, none⟩), .pointer (some ⟨ib, 0, none⟩)] ∧ ib < w.heap.size ∧ tb < w.heap.size ∧ w.cell? ⟨ib, 0, none⟩ = some (.int .i64 is) ∧ w.cell? ⟨tb, 0, none⟩ = some tv ∧ IntsAt w tv ts
  | .compares ts => ∃ tb tv, fv = .func (.func 98) #[] #[.pointer (some ⟨tb, 0, none⟩)] ∧ tb < w.heap.size ∧ w.cell? ⟨tb, 0, none⟩ = some tv ∧ IntsAt w tv ts
  | .field => fv = .func (.func 72) #[.pointer (some ⟨j, 0, none⟩)] #[]
  | .has => fv = .func (.func 73) #[.pointer (some ⟨j, 0, none⟩)] #[]
  | .orElse => fv = .func (.func 75) #[] #[]
  | .pick => fv = .func (.func 76) #[] #[]
theorem RuleV.keepF {w w' : World} {j : Nat} {r : RuleA} {fv : Value} (h : RuleV w j r fv) (hk : Keeps (fun _ => False) w w') : RuleV w' j r fv := by
  cases r with
  | takes is ts =>
    obtain ⟨tb, ib, tv, e, h1, h2, h3, h4, h5⟩ := h
    exact ⟨tb, ib, tv, e, Nat.lt_of_lt_of_le h1 hk.size, Nat.lt_of_lt_of_le h2 hk.size, (hk.cell h1 id).trans h3, (hk.cell h2 id).trans h4, h5.keepF hk⟩
  | compares ts =>
    obtain ⟨tb, tv, e, h2, h4, h5⟩ := h
    exact ⟨tb, tv, e, Nat.lt_of_lt_of_le h2 hk.size, (hk.cell h2 id).trans h4, h5.keepF hk⟩
  | field => exact h
  | has => exact h
  | orElse => exact h
  | pick => exact h
/-- A judge over a schema. -/
structure JudgeAt (w : World) (j mb nn tab : Nat) (S : List FieldA) : Prop where
  map : MapAt w j mb nn S
  lt : tab < w.heap.size
  exprs : w.cell? ⟨j, 1, none⟩ = some (.slice (some ⟨tab, 0, none⟩) 26 26)
  rules : ∀ (m : Nat) (r : RuleA), (ruleL[m]?).join = some r → ∃ fv, w.cell? ⟨tab, m, none⟩ = some fv ∧ RuleV w j r fv
theorem JudgeAt.keepF {w w' : World} {j mb nn tab : Nat} {S : List FieldA} (h : JudgeAt w j mb nn tab S) (hk : Keeps (fun _ => False) w w') : JudgeAt w' j mb nn tab S :=
  ⟨h.map.keepF hk, Nat.lt_of_lt_of_le h.lt hk.size, (hk.cell h.map.lt id).trans h.exprs, fun m r hr => by
    obtain ⟨fv, h1, h2⟩ := h.rules m r hr
    exact ⟨fv, (hk.cell h.lt id).trans h1, h2.keepF hk⟩⟩
/-- The kinds of the kids, so far. -/
theorem kindsP_step (S : List FieldA) (op n : Int) (s : Txt) (kids rest : EL) (done : List KA) (all : List KA × Int)
    (h : all = if (kindsP S (.cons op n s kids rest)).2 ≠ 0 then ([], (kindsP S (.cons op n s kids rest)).2) else (done ++ (kindsP S (.cons op n s kids rest)).1, 0)) :
    ((kindP S op s kids).2 ≠ 0 → all = ([], (kindP S op s kids).2)) ∧ ((kindP S op s kids).2 = 0 → all = if (kindsP S rest).2 ≠ 0 then ([], (kindsP S rest).2) else (done ++ [(kindP S op s kids).1] ++ (kindsP S rest).1, 0)) := by
  rw [kindsP_cons] at h
  constructor
  · intro h0
    rw [if_pos h0] at h
    simpa [h0] using h
  · intro h0
    have e : ∀ A B : List KA × Int, (if (kindP S op s kids).2 ≠ 0 then A else B) = B := fun A B => if_neg (by simp [h0])
    simp only [e] at h
    by_cases h1 : (kindsP S rest).2 = 0
    · simp [h1] at h ⊢
      exact h
    · rw [if_pos h1]
      simpa [h1] using h
end Go.Proofs.YtoempeobaknkcaaGreatDoor
namespace Go.Proofs.YtoempeobaknkcaaGreatDoor
open Go.RowKit Go.Maps

set_option maxRecDepth 100000 in
theorem takes_v (j : Nat) (is : Int) (ts : List Int) (tv : Value) (w : World) (h : IntsAt w tv ts) :
    Calls Tryz.prog 71 #[.int .i64 is, tv] w fun e w' => ∃ fv, e = .returned fv ∧ RuleV w' j (.takes is ts) fv ∧ Keeps (fun _ => False) w w' := by
  obtain ⟨to, tc, rfl⟩ := RowAt.form h
  have hk : Keeps (fun _ => False) w ((w.alloc (.cells #[.int .i64 is] 3)).alloc (.cells #[.slice to ts.length tc] 45)) := ((Keeps.refl _ w).alloc _).alloc _
  have h1 : ((w.alloc (.cells #[.int .i64 is] 3)).alloc (.cells #[.slice to ts.length tc] 45)).cell? ⟨w.heap.size, 0, none⟩ = some (.int .i64 is) :=
    cell_past (by simp) (by rw [cell_of_blk (heap_alloc_new w _)]; rfl) _
  have e1 : (w.alloc (.cells #[.int .i64 is] 3)).heap.size = w.heap.size + 1 := by simp
  have h2 : ((w.alloc (.cells #[.int .i64 is] 3)).alloc (.cells #[.slice to ts.length tc] 45)).cell? ⟨w.heap.size + 1, 0, none⟩ = some (.slice to ts.length tc) := by
    have := heap_alloc_new (w.alloc (.cells #[.int .i64 is] 3)) (.cells #[.slice to ts.length tc] 45)
    rw [e1] at this
    rw [cell_of_blk this]; rfl
  have HR : Hid (RuleV ((w.alloc (.cells #[.int .i64 is] 3)).alloc (.cells #[.slice to ts.length tc] 45)) j (.takes is ts) (.func (.func 92) #[] #[.pointer (some ⟨w.heap.size + 1, 0, none⟩), .pointer (some ⟨w.heap.size, 0, none⟩)])) :=
    ⟨_, _, _, rfl, by simp; omega, by simp, h1, h2, h.keepF hk⟩
  have HK := hide hk
  have hmf : ∀ (fn : Fn) (first cap : Array Value) (w : World), (Instr.makeFunc fn first cap).run Tryz.prog w = .ok (.func fn first cap) w := fun _ _ _ _ => rfl
  clear h h1 h2 hk e1
  go_enter Tryz.func71, Tryz.ntmps71
  go_wp2_with fail
  go_ret
  exact ⟨_, rfl, unhide HR, unhide HK⟩
set_option maxRecDepth 100000 in
theorem compares_v (j : Nat) (ts : List Int) (tv : Value) (w : World) (h : IntsAt w tv ts) :
    Calls Tryz.prog 74 #[tv] w fun e w' => ∃ fv, e = .returned fv ∧ RuleV w' j (.compares ts) fv ∧ Keeps (fun _ => False) w w' := by
  obtain ⟨to, tc, rfl⟩ := RowAt.form h
  have hk : Keeps (fun _ => False) w (w.alloc (.cells #[.slice to ts.length tc] 45)) := (Keeps.refl _ w).alloc _
  have h1 : (w.alloc (.cells #[.slice to ts.length tc] 45)).cell? ⟨w.heap.size, 0, none⟩ = some (.slice to ts.length tc) := by rw [cell_of_blk (heap_alloc_new w _)]; rfl
  have HR : Hid (RuleV (w.alloc (.cells #[.slice to ts.length tc] 45)) j (.compares ts) (.func (.func 98) #[] #[.pointer (some ⟨w.heap.size, 0, none⟩)])) :=
    ⟨_, _, rfl, by simp, h1, h.keepF hk⟩
  have HK := hide hk
  have hmf : ∀ (fn : Fn) (first cap : Array Value) (w : World), (Instr.makeFunc fn first cap).run Tryz.prog w = .ok (.func fn first cap) w := fun _ _ _ _ => rfl
  clear h h1 hk
  go_enter Tryz.func74, Tryz.ntmps74
  go_wp2_with fail
  go_ret
  exact ⟨_, rfl, unhide HR, unhide HK⟩
/-- Rules that were made so far. -/
structure Bun (W0 : World) (j : Nat) (L : List (RuleA × Value)) (w : World) : Prop where
  kept : Keeps (fun _ => False) W0 w
  all : ∀ p ∈ L, RuleV w j p.1 p.2
theorem Bun.snoc {W0 : World} {j : Nat} {L : List (RuleA × Value)} {w w' : World} (h : Bun W0 j L w) (hk : Keeps (fun _ => False) w w') {r : RuleA} {fv : Value} (hr : RuleV w' j r fv) : Bun W0 j (L ++ [(r, fv)]) w' :=
  ⟨h.kept.trans hk, fun p hp => by
    rcases List.mem_append.1 hp with hp | hp
    · exact (h.all p hp).keepF hk
    · obtain rfl : p = (r, fv) := by simpa using hp
      exact hr⟩
theorem takes_named {W0 w' : World} {j : Nat} {L : List (RuleA × Value)} {is : Int} {ts : List Int} {fv : Value} {e : Ending} (he : e = .returned fv) (hr : RuleV w' j (.takes is ts) fv) (h : Bun W0 j (L ++ [(.takes is ts, fv)]) w') :
    ∃ tb ib, e = .returned (.func (.func 92) #[] #[.pointer (some ⟨tb, 0, none⟩), .pointer (some ⟨ib, 0, none⟩)]) ∧ Bun W0 j (L ++ [(.takes is ts, (.func (.func 92) #[] #[.pointer (some ⟨tb, 0, none⟩), .pointer (some ⟨ib, 0, none⟩)]))]) w' := by
  obtain ⟨tb, ib, _, rfl, _⟩ := hr
  exact ⟨tb, ib, he, h⟩
theorem compares_named {W0 w' : World} {j : Nat} {L : List (RuleA × Value)} {ts : List Int} {fv : Value} {e : Ending} (he : e = .returned fv) (hr : RuleV w' j (.compares ts) fv) (h : Bun W0 j (L ++ [(.compares ts, fv)]) w') :
    ∃ tb, e = .returned (.func (.func 98) #[] #[.pointer (some ⟨tb, 0, none⟩)]) ∧ Bun W0 j (L ++ [(.compares ts, (.func (.func 98) #[] #[.pointer (some ⟨tb, 0, none⟩)]))]) w' := by
  obtain ⟨tb, _, rfl, _⟩ := hr
  exact ⟨tb, he, h⟩
section
variable {W0 : World} {j : Nat} {L : List (RuleA × Value)} {w : World}
theorem takes0 (h : Bun W0 j L w) (is : Int) : Calls Tryz.prog 71 #[.int .i64 is, .slice none 0 0] w fun e w' => ∃ tb ib, e = .returned (.func (.func 92) #[] #[.pointer (some ⟨tb, 0, none⟩), .pointer (some ⟨ib, 0, none⟩)]) ∧ Bun W0 j (L ++ [(.takes is [], (.func (.func 92) #[] #[.pointer (some ⟨tb, 0, none⟩), .pointer (some ⟨ib, 0, none⟩)]))]) w' :=
  (takes_v j is [] _ w (ints_nil w)).mono fun _ _ ⟨_, he, hr, hk⟩ => takes_named he hr (h.snoc hk hr)
theorem takes1 (h : Bun W0 j L w) (is t : Int) : Calls Tryz.prog 71 #[.int .i64 is, .slice (some ⟨w.heap.size, 0, none⟩) 1 1] (w.alloc (.cells #[.int .i64 t] 3)) fun e w' => ∃ tb ib, e = .returned (.func (.func 92) #[] #[.pointer (some ⟨tb, 0, none⟩), .pointer (some ⟨ib, 0, none⟩)]) ∧ Bun W0 j (L ++ [(.takes is [t], (.func (.func 92) #[] #[.pointer (some ⟨tb, 0, none⟩), .pointer (some ⟨ib, 0, none⟩)]))]) w' :=
  (takes_v j is [t] _ _ (ints_new w [t] 3 1 rfl)).mono fun _ _ ⟨_, he, hr, hk⟩ => takes_named he hr (h.snoc (((Keeps.refl _ w).alloc _).trans hk) hr)
theorem takes2 (h : Bun W0 j L w) (is t u : Int) : Calls Tryz.prog 71 #[.int .i64 is, .slice (some ⟨w.heap.size, 0, none⟩) 2 2] (w.alloc (.cells #[.int .i64 t, .int .i64 u] 3)) fun e w' => ∃ tb ib, e = .returned (.func (.func 92) #[] #[.pointer (some ⟨tb, 0, none⟩), .pointer (some ⟨ib, 0, none⟩)]) ∧ Bun W0 j (L ++ [(.takes is [t, u], (.func (.func 92) #[] #[.pointer (some ⟨tb, 0, none⟩), .pointer (some ⟨ib, 0, none⟩)]))]) w' :=
  (takes_v j is [t, u] _ _ (ints_new w [t, u] 3 2 rfl)).mono fun _ _ ⟨_, he, hr, hk⟩ => takes_named he hr (h.snoc (((Keeps.refl _ w).alloc _).trans hk) hr)
theorem compares2 (h : Bun W0 j L w) (t u : Int) : Calls Tryz.prog 74 #[.slice (some ⟨w.heap.size, 0, none⟩) 2 2] (w.alloc (.cells #[.int .i64 t, .int .i64 u] 3)) fun e w' => ∃ tb, e = .returned (.func (.func 98) #[] #[.pointer (some ⟨tb, 0, none⟩)]) ∧ Bun W0 j (L ++ [(.compares [t, u], (.func (.func 98) #[] #[.pointer (some ⟨tb, 0, none⟩)]))]) w' :=
  (compares_v j [t, u] _ _ (ints_new w [t, u] 3 2 rfl)).mono fun _ _ ⟨_, he, hr, hk⟩ => compares_named he hr (h.snoc (((Keeps.refl _ w).alloc _).trans hk) hr)
theorem compares3 (h : Bun W0 j L w) (t u v : Int) : Calls Tryz.prog 74 #[.slice (some ⟨w.heap.size, 0, none⟩) 3 3] (w.alloc (.cells #[.int .i64 t, .int .i64 u, .int .i64 v] 3)) fun e w' => ∃ tb, e = .returned (.func (.func 98) #[] #[.pointer (some ⟨tb, 0, none⟩)]) ∧ Bun W0 j (L ++ [(.compares [t, u, v], (.func (.func 98) #[] #[.pointer (some ⟨tb, 0, none⟩)]))]) w' :=
  (compares_v j [t, u, v] _ _ (ints_new w [t, u, v] 3 3 rfl)).mono fun _ _ ⟨_, he, hr, hk⟩ => compares_named he hr (h.snoc (((Keeps.refl _ w).alloc _).trans hk) hr)
end
/-- A table of rules, as a judge keeps it. -/
def RulesAt (w : World) (j tab : Nat) : Prop := ∀ (m : Nat) (r : RuleA), (ruleL[m]?).join = some r → ∃ fv, w.cell? ⟨tab, m, none⟩ = some fv ∧ RuleV w j r fv
theorem rules_of {w : World} {j : Nat} {Ps : List (RuleA × Value)} {z : Value} (h : ∀ p ∈ Ps, RuleV w j p.1 p.2) (e : ruleL = none :: Ps.map (fun p => some p.1)) (t : TypeId) :
    RulesAt (w.alloc (.cells (z :: Ps.map Prod.snd).toArray t)) j w.heap.size := by
  intro m r hr
  rw [e] at hr
  cases m with
  | zero => simp at hr
  | succ i =>
    simp only [List.getElem?_cons_succ, List.getElem?_map] at hr
    cases hp : Ps[i]? with
    | none => rw [hp] at hr; cases hr
    | some p =>
      rw [hp] at hr
      have hr' : p.1 = r := by simpa using hr
      refine ⟨p.2, ?_, ?_⟩
      · rw [cell_of_blk (heap_alloc_new w _)]
        simp [hp]
      · rw [← hr']
        exact (h p (List.mem_of_getElem? hp)).keepF ((Keeps.refl _ w).alloc _)

theorem rules_cells {w : World} {j : Nat} {cs : Array Value} (h : ∀ (m : Nat) (r : RuleA), (ruleL[m]?).join = some r → ∃ fv, cs[m]? = some fv ∧ RuleV w j r fv) (t : TypeId) : RulesAt (w.alloc (.cells cs t)) j w.heap.size := by
  intro m r hr
  obtain ⟨fv, h1, h2⟩ := h m r hr
  exact ⟨fv, by rw [cell_of_blk (heap_alloc_new w _)]; exact h1, h2.keepF ((Keeps.refl _ w).alloc _)⟩
end Go.Proofs.YtoempeobaknkcaaGreatDoor
namespace Go.Proofs.YtoempeobaknkcaaGreatDoor
open Go.RowKit Go.Maps

set_option maxRecDepth 100000 in
set_option maxHeartbeats 4000000 in
theorem stmtRules_v (j : Nat) (w : World) :
    Calls Tryz.prog 54 #[.pointer (some ⟨j, 0, none⟩)] w fun e w' => e = .returned (.slice (some ⟨w.heap.size, 0, none⟩) 9 9) ∧ w' = w.alloc (.cells #[.nilFunc, .func (.func 77) #[.pointer (some ⟨j, 0, none⟩)] #[], .func (.func 78) #[.pointer (some ⟨j, 0, none⟩)] #[], .func (.func 78) #[.pointer (some ⟨j, 0, none⟩)] #[], .func (.func 78) #[.pointer (some ⟨j, 0, none⟩)] #[], .func (.func 79) #[.pointer (some ⟨j, 0, none⟩)] #[], .func (.func 80) #[] #[], .func (.func 80) #[] #[], .func (.func 81) #[.pointer (some ⟨j, 0, none⟩)] #[]] 100) := by
  have hmf : ∀ (fn : Fn) (first cap : Array Value) (w : World), (Instr.makeFunc fn first cap).run Tryz.prog w = .ok (.func fn first cap) w := fun _ _ _ _ => rfl
  go_enter Tryz.func54, Tryz.ntmps54
  go_wp2_with fail
  go_ret
  exact ⟨rfl, rfl⟩
end Go.Proofs.YtoempeobaknkcaaGreatDoor
