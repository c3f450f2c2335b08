import Derived.Test.YtiinohibmcefkaaGreatDoorKf
import Derived.StringKeys
namespace Go.Proofs.YtiinohibmcefkaaGreatDoor
open Go.RowKit Go.Maps

set_option maxRecDepth 100000 in
set_option maxHeartbeats 4000000 in
theorem orElseF_v (op n : Int) (s : Txt) (ao : Option Addr) (xn xc : Nat) (k0 k1 : KA) (kv : Value) (w : World) (hks : KsAt w kv [k0, k1]) :
    Calls Tryz.prog 179 #[.agg #[.int .i64 op, .int .i64 n, str s, .slice ao xn xc], kv] w fun e w' => e = .returned (kerV (⟨k0.t, false⟩, orI (optI k0) (plainI k1 [k0.t]))) ∧ Keeps (fun _ => False) w w' := by
  obtain ⟨b, off, c, rfl, hbl, hc⟩ := hks.cells (by simp)
  have a0 := (hc 0 k0 rfl).1
  have a1 := (hc 0 k0 rfl).2
  have a2 := (hc 1 k1 rfl).1
  have a3 := (hc 1 k1 rfl).2
  simp only [Nat.zero_mul, Nat.add_zero, Nat.one_mul] at a0 a1 a2 a3
  have SK : ∀ w' : World, Keeps (fun _ => False) w w' → w'.cell? ⟨b, off, none⟩ = some (.int .i64 k0.t) ∧ w'.cell? ⟨b, off + 1, none⟩ = some (.bool k0.o) ∧ w'.cell? ⟨b, off + 2, none⟩ = some (.int .i64 k1.t) ∧ w'.cell? ⟨b, off + 2 + 1, none⟩ = some (.bool k1.o) := fun w' hk =>
    ⟨(hk.cell hbl id).trans a0, (hk.cell hbl id).trans a1, (hk.cell hbl id).trans a2, (hk.cell hbl id).trans a3⟩
  have HSK := hide SK
  have hR : w.heap.size ≤ w.heap.size + 1 := Nat.le_succ _
  have HL := hide (led_start w #[.int .i64 op, .int .i64 n, str s, .slice ao xn xc] 27)
  rw [← orL_two]
  clear hks hc a0 a1 a2 a3 SK
  go_enter Tryz.func179, Tryz.ntmps179
  go_wp2_with fail
  go_region_held3 (fun w' => w'.cell? ⟨b, off, none⟩ = some (.int .i64 k0.t) ∧ w'.cell? ⟨b, off + 1, none⟩ = some (.bool k0.o) ∧ w'.cell? ⟨b, off + 2, none⟩ = some (.int .i64 k1.t) ∧ w'.cell? ⟨b, off + 2 + 1, none⟩ = some (.bool k1.o))
    (first | with_reducible exact unhide HSK _ (unhide HL).kept | with_reducible exact unhide HSK _ ((unhide HL).lay _).kept | with_reducible exact unhide HSK _ (unhide HL).kept.drew | with_reducible exact unhide HSK _ ((unhide HL).lay _).kept.drew | with_reducible exact unhide HSK _ ((unhide HL).kept.alloc _) | with_reducible exact unhide HSK _ ((unhide HL).done hR _ _))
    ((first
    | (go_at_call 209; refine (plain_led k0.t (by first | with_reducible exact unhide HL | with_reducible exact (unhide HL).lay _ | with_reducible exact (unhide HL).drew | with_reducible exact ((unhide HL).lay _).drew)).mono ?_; rintro e w1 ⟨rfl, hl1⟩; have HL := hide hl1; clear hl1)
    | (go_at_call 212; refine (isOpt_led k0 (by first | with_reducible exact unhide HL | with_reducible exact (unhide HL).lay _)).mono ?_; rintro e w1 ⟨rfl, hl1⟩; have HL := hide hl1; clear hl1)
    | (go_at_call 208; refine (isPlain_led k1 (by first | with_reducible exact unhide HL | with_reducible exact (unhide HL).lay _) (t := k0.t) (by simp)).mono ?_; rintro e w1 ⟨rfl, hl1⟩; have HL := hide hl1; clear hl1)
    | (go_at_call 211; refine (or_led [optI k0, plainI k1 [k0.t]] 2 rfl (by simp) (unhide HL)).mono ?_; rintro e w1 ⟨rfl, hl1⟩; have m0 := cell_of_blk hl1.res 0; have m1 := cell_of_blk hl1.res 1; simp at m0 m1; have g0 := frozen_of_blk hl1.res 0; have g1 := frozen_of_blk hl1.res 1; have HL := hide hl1; clear hl1)))
  all_goals go_wp2_with fail
  all_goals (obtain ⟨⟨s0, s1, _⟩, _⟩ := set2 (unhide HL).res (.int .i64 k0.t) (.bool false); refine bodyPost_ret (v := kerV (⟨k0.t, false⟩, orL [optI k0, plainI k1 [k0.t]])) (by simp [results, go_sem, s0, s1]) rfl ?_; exact ⟨rfl, (unhide HL).done (by omega) _ _⟩)
end Go.Proofs.YtiinohibmcefkaaGreatDoor
namespace Go.Proofs.YtiinohibmcefkaaGreatDoor
open Go.RowKit Go.Maps

def kD (k : KA) : DataW Unit := .agg [.lit (.int .i64 k.t), .lit (.bool k.o)]
/-- How an element of the map of fields reads. -/
def kindElem (v : Value) : Option (DataW Unit × List MemPlace) := match v with
  | .agg a => match a.toList with
    | [.int .i64 t, .bool o] => some (kD ⟨t, o⟩, [])
    | _ => none
  | _ => none
theorem kindElem_mk (k : KA) : kindElem (kindV k) = some (kD k, []) := rfl
theorem kindElem_inv {v : Value} {k : KA} {ps : List MemPlace} (h : kindElem v = some (kD k, ps)) : v = kindV k := by
  unfold kindElem at h
  split at h
  · rename_i a
    split at h
    · rename_i t o e
      simp [kD] at h
      obtain ⟨⟨h1, h2⟩, _⟩ := h
      obtain ⟨l⟩ := a
      simp at e
      rw [e, h1, h2]
    · cases h
  · cases h
theorem strKeyed : Keyed Tryz.prog 9 := string_keyed Tryz.underlying9
theorem keyStr {s : Txt} (h : s.length ≤ 1000) : keyOf Tryz.prog 9 (str s) = some (.string s) := by
  have := WideMaps.keyOf_string_mk (P := Tryz.prog) (k := 9) Tryz.underlying9 (s := ⟨s.toArray⟩) (by show s.toArray.size ≤ maxLen; unfold maxLen; simp; omega)
  simpa using this
/-- The map of fields. -/
def mapD (m : DataW Unit) (l : List FieldA) : DataW Unit := l.foldl (fun m f => m.put (.string f.name) (kD ⟨f.type, f.opt⟩)) m
theorem mapD_snoc (m : DataW Unit) (l : List FieldA) (f : FieldA) : mapD m (l ++ [f]) = (mapD m l).put (.string f.name) (kD ⟨f.type, f.opt⟩) := by simp [mapD, List.foldl_append]
theorem isKeyStr (s : Txt) : WideAt.IsKeyLit (.string s) := by simp [WideAt.IsKeyLit]
theorem fieldOf_none {l : List FieldA} {nm : Txt} (h : ∀ g ∈ l, g.name ≠ nm) : fieldOf l nm = none := by
  unfold fieldOf
  rw [List.find?_eq_none]
  intro g hg
  simpa using h g hg
theorem mapD_at (nm : Txt) (z : DataW Unit) : ∀ (l : List FieldA) (m : DataW Unit), IsMap m → (l.map FieldA.name).Nodup → (mapD m l).atKey (.string nm) z = (match fieldOf l nm with | some f => kD ⟨f.type, f.opt⟩ | none => m.atKey (.string nm) z) ∧ Maps.has (mapD m l) (.string nm) = ((fieldOf l nm).isSome || Maps.has m (.string nm))
  | [], m, _, _ => by simp [mapD, fieldOf]
  | f :: r, m, hm, hn => by
    have hn2 : (r.map FieldA.name).Nodup ∧ ∀ g ∈ r, g.name ≠ f.name := by
      simp only [List.map_cons, List.nodup_cons, List.mem_map, not_exists, not_and] at hn
      exact ⟨hn.2, fun g hg => hn.1 g hg⟩
    have ih := mapD_at nm z r (m.put (.string f.name) (kD ⟨f.type, f.opt⟩)) (hm.put _ _) hn2.1
    have e : mapD m (f :: r) = mapD (m.put (.string f.name) (kD ⟨f.type, f.opt⟩)) r := rfl
    rw [e, ih.1, ih.2]
    by_cases h : f.name = nm
    · subst h
      have e1 : fieldOf r f.name = none := fieldOf_none hn2.2
      have e2 : fieldOf (f :: r) f.name = some f := by simp [fieldOf]
      rw [e1, e2]
      exact ⟨atKey_put_same hm (isKeyStr _) _ _, by simp [has_put_same hm (isKeyStr f.name)]⟩
    · have e2 : fieldOf (f :: r) nm = fieldOf r nm := by simp [fieldOf, h]
      have hne : (Lit.string nm) ≠ .string f.name := fun e => h (by simpa using e.symm)
      rw [e2, atKey_put_other hne, has_put_other hne]
      exact ⟨rfl, rfl⟩
theorem zero90 (w : World) : (zeroValue 113).run Tryz.prog w = .ok (kindV ⟨0, false⟩) w := by kernel_rfl
/-- A judge's map lies so. -/
structure MapAt (w : World) (j mb n : Nat) (S : List FieldA) : Prop where
  lt : j < w.heap.size
  cell : w.cell? ⟨j, 0, none⟩ = some (.map (some mb))
  map : w.ownsMap Tryz.prog 9 kindElem mb n (mapD (.map []) S)
theorem ownsMap_keep {w w' : World} {mb n : Nat} {D : DataW Unit} (h : w.ownsMap Tryz.prog 9 kindElem mb n D) {F : Nat → Prop} (hk : Keeps F w w') (hF : ¬ F mb) : w'.ownsMap Tryz.prog 9 kindElem mb n D := by
  obtain ⟨es, clock, hb, r⟩ := h
  exact ⟨es, clock, (hk.block _ (lt_of_block hb) hF).trans hb, r⟩
theorem MapAt.keepF {w w' : World} {j mb n : Nat} {S : List FieldA} (h : MapAt w j mb n S) (hk : Keeps (fun _ => False) w w') : MapAt w' j mb n S :=
  ⟨Nat.lt_of_lt_of_le h.lt hk.size, (hk.cell h.lt id).trans h.cell, ownsMap_keep h.map hk id⟩
theorem MapAt.look {w : World} {j mb n : Nat} {S : List FieldA} (h : MapAt w j mb n S) (hS : (S.map FieldA.name).Nodup) {nm : Txt} (hl : nm.length ≤ 1000) :
    (Instr.lookup 152 (.map (some mb)) (str nm) true).run Tryz.prog w = .ok (.tuple #[kindV (namedK S nm).1, .bool (fieldOf S nm).isSome]) w := by
  obtain ⟨v, ps, hrun, hv⟩ := h.map.look_ok strKeyed Tryz.underlying152 (zero90 w) (kindElem_mk ⟨0, false⟩) (keyStr hl)
  obtain ⟨h1, h2⟩ := mapD_at nm (kD ⟨0, false⟩) S (.map []) ⟨[], rfl⟩ hS
  have e2 : Maps.has (DataW.map ([] : List (Lit × DataW Unit))) (.string nm) = false := rfl
  rw [h2, e2, Bool.or_false] at hrun
  rw [h1] at hv
  have e3 : kindElem v = some (kD (namedK S nm).1, ps) := by
    rw [hv]
    unfold namedK
    cases fieldOf S nm <;> rfl
  rw [kindElem_inv e3] at hrun
  exact hrun
set_option maxRecDepth 100000 in
set_option maxHeartbeats 1000000 in
theorem namedJ_core (j mb : Nat) (nm : Txt) (w : World) (T E : Int) (O I : Bool) (hE : unlessI I 90 = E) (c0 : (w.alloc (.cells #[.int .i64 0, .bool false] 113)).cell? ⟨j, 0, none⟩ = some (.map (some mb)))
    (hrun : (Instr.lookup 152 (.map (some mb)) (str nm) true).run Tryz.prog (w.alloc (.cells #[.int .i64 0, .bool false] 113)) = .ok (.tuple #[.agg #[.int .i64 T, .bool O], .bool I]) (w.alloc (.cells #[.int .i64 0, .bool false] 113))) :
    Calls Tryz.prog 210 #[.pointer (some ⟨j, 0, none⟩), str nm] w fun e w' => e = .returned (.tuple #[.agg #[.int .i64 T, .bool O], .int .i64 E]) ∧ Keeps (fun _ => False) w w' := by
  have HU := fun w' => hide (unless_v I 90 w')
  rw [hE] at HU
  have HK0 : Hid (Keeps (fun _ => False) w (w.alloc (.cells #[.int .i64 0, .bool false] 113))) := (Keeps.refl _ w).alloc _
  obtain ⟨HB, hxb, hxc⟩ := boxed (w.alloc (.cells #[.int .i64 0, .bool false] 113)) #[.int .i64 T, .bool O] 113
  have hsz : (w.alloc (.cells #[.int .i64 0, .bool false] 113)).heap.size = w.heap.size + 1 := by simp
  have d0 : ((w.alloc (.cells #[.int .i64 0, .bool false] 113)).alloc (.cells #[.int .i64 T, .bool O] 113)).drew.cell? ⟨w.heap.size + 1, 0, none⟩ = some (.int .i64 T) := by have := hxc 0 (.int .i64 T) rfl; rw [hsz] at this; exact this
  have d1 : ((w.alloc (.cells #[.int .i64 0, .bool false] 113)).alloc (.cells #[.int .i64 T, .bool O] 113)).drew.cell? ⟨w.heap.size + 1, 1, none⟩ = some (.bool O) := by have := hxc 1 (.bool O) rfl; rw [hsz] at this; exact this
  rw [hsz] at hxb
  have HX : Hid (((w.alloc (.cells #[.int .i64 0, .bool false] 113)).alloc (.cells #[.int .i64 T, .bool O] 113)).heap[w.heap.size]? = some (.cells #[.int .i64 0, .bool false] 113 (0, 0))) := ((unhide HB).block _ (by simp) id).trans (heap_alloc_new w _)
  have HUK := fun w' => hide ((unhide (HU w')).mono (fun e w2 ⟨he, hw⟩ => (⟨he, by rw [hw]; exact Keeps.refl _ _⟩ : e = Ending.returned (.int .i64 E) ∧ Keeps (fun _ => False) w' w2)))
  have hne : ¬ w.heap.size + 1 = w.heap.size := by omega
  clear hxc hE HU
  go_enter Tryz.func210, Tryz.ntmps210
  go_wp2_with fail
  go_region_held3 (fun w' => w'.cell? ⟨w.heap.size + 1, 0, none⟩ = some (.int .i64 T) ∧ w'.cell? ⟨w.heap.size + 1, 1, none⟩ = some (.bool O)) (first | with_reducible exact ⟨d0, d1⟩ | with_reducible exact ⟨r0, r1⟩ | with_reducible exact ⟨t0, t1⟩)
    ((go_at_call 215; refine (unhide (HUK _)).mono ?_; rintro e w1 ⟨rfl, hk1⟩; have r0 := (hk1.cell (o := 0) hxb id).trans d0; have r1 := (hk1.cell (o := 1) hxb id).trans d1; have hb1 := (hk1.block w.heap.size (Nat.lt_trans (Nat.lt_succ_self _) hxb) id).trans (unhide HX); have t0 := ((keeps_set2 w1 w.heap.size (.int .i64 T) (.bool O)).cell (Nat.lt_of_lt_of_le hxb hk1.size) hne).trans r0; have t1 := ((keeps_set2 w1 w.heap.size (.int .i64 T) (.bool O)).cell (Nat.lt_of_lt_of_le hxb hk1.size) hne).trans r1; have m0 := cell_of_blk hb1 0; have m1 := cell_of_blk hb1 1; simp at m0 m1; have g0 := frozen_of_blk hb1 0; have g1 := frozen_of_blk hb1 1; have HB1 := hide hb1; have HK1 := hide (((unhide HK0).trans (unhide HB)).trans ((Keeps.refl _ _).drew.trans hk1)); clear hk1 hb1))
  all_goals go_wp2_with fail
  all_goals (obtain ⟨⟨s0, s1, _⟩, hks2⟩ := set2 (unhide HB1) (.int .i64 T) (.bool O); refine bodyPost_ret (v := .tuple #[.agg #[.int .i64 T, .bool O], .int .i64 E]) (by simp [results, go_sem, s0, s1]) rfl ?_; exact ⟨rfl, (unhide HK1).narrow hks2 (fun q e => by omega)⟩)
theorem namedJ_v (j mb n : Nat) (S : List FieldA) (hS : (S.map FieldA.name).Nodup) (nm : Txt) (hl : nm.length ≤ 1000) (w : World) (h : MapAt w j mb n S) :
    Calls Tryz.prog 210 #[.pointer (some ⟨j, 0, none⟩), str nm] w fun e w' => e = .returned (kerV (namedK S nm)) ∧ Keeps (fun _ => False) w w' := by
  have h0 := h.keepF ((Keeps.refl _ w).alloc (.cells #[.int .i64 0, .bool false] 113))
  have e90 : unlessI (fieldOf S nm).isSome 90 = (namedK S nm).2 := by unfold namedK unlessI; cases fieldOf S nm <;> rfl
  exact namedJ_core j mb nm w _ _ _ _ e90 h0.cell (h0.look hS hl)
end Go.Proofs.YtiinohibmcefkaaGreatDoor
namespace Go.Proofs.YtiinohibmcefkaaGreatDoor
open Go.RowKit Go.Maps

theorem namedJ_led (j mb n : Nat) (S : List FieldA) (hS : (S.map FieldA.name).Nodup) (nm : Txt) (hl : nm.length ≤ 1000) {w : World} (h : MapAt w j mb n S) {R : Nat} {L : List (Nat × Int)} {cur : World} (hL : Led w R L cur) :
    Calls Tryz.prog 210 #[.pointer (some ⟨j, 0, none⟩), str nm] cur fun e w' => e = .returned (.tuple #[.agg #[.int .i64 (namedK S nm).1.t, .bool (namedK S nm).1.o], .int .i64 (namedK S nm).2]) ∧ Led w R L w' :=
  (namedJ_v j mb n S hS nm hl cur (h.keepF hL.kept)).mono fun _ _ ⟨he, hk⟩ => ⟨he, hL.keep hk⟩

set_option maxRecDepth 100000 in
set_option maxHeartbeats 1000000 in
theorem fieldF_v (j mb nn : Nat) (S : List FieldA) (hS : (S.map FieldA.name).Nodup) (op n : Int) (s : Txt) (hl : s.length ≤ 1000) (ao : Option Addr) (xn xc : Nat) (ko : Option Addr) (kn kc : Nat) (w : World) (h : MapAt w j mb nn S) :
    Calls Tryz.prog 176 #[.pointer (some ⟨j, 0, none⟩), .agg #[.int .i64 op, .int .i64 n, str s, .slice ao xn xc], .slice ko kn kc] w fun e w' => e = .returned (kerV (namedK S s)) ∧ Keeps (fun _ => False) w w' := by
  have HL := hide (led_start w #[.int .i64 op, .int .i64 n, str s, .slice ao xn xc] 27)
  have HN := hide (namedJ_led j mb nn S hS s hl h (unhide HL))
  have hk2 : kerV (namedK S s) = .tuple #[.agg #[.int .i64 (namedK S s).1.t, .bool (namedK S s).1.o], .int .i64 (namedK S s).2] := rfl
  rw [hk2]
  generalize (namedK S s).1.t = T at *
  generalize (namedK S s).1.o = O at *
  generalize (namedK S s).2 = E at *
  clear hk2 h
  go_enter Tryz.func176, Tryz.ntmps176
  go_wp2_with (go_at_call 210; refine (unhide HN).mono ?_; rintro e w1 ⟨rfl, hl1⟩; have m0 := cell_of_blk hl1.res 0; have m1 := cell_of_blk hl1.res 1; simp at m0 m1; have g0 := frozen_of_blk hl1.res 0; have g1 := frozen_of_blk hl1.res 1; have HL := hide hl1; clear hl1)
  obtain ⟨⟨s0, s1, _⟩, _⟩ := set2 (unhide HL).res (.int .i64 T) (.bool O)
  refine bodyPost_ret (v := .tuple #[.agg #[.int .i64 T, .bool O], .int .i64 E]) (by simp [results, go_sem, s0, s1]) rfl ?_
  exact ⟨rfl, (unhide HL).done (by omega) _ _⟩

theorem or_keep (es : List Int) (n : Nat) (hn : n = es.length) (hl : es.length ≤ 1000) (cur : World) : Calls Tryz.prog 211 #[.slice (some ⟨cur.heap.size, 0, none⟩) n n] (cur.alloc (.cells (ints es).toArray 35)) fun e w' => e = .returned (.int .i64 (orL es)) ∧ Keeps (fun _ => False) cur w' :=
  (or_v es _ _ (ints_new cur es 35 n hn) hl).mono fun _ _ ⟨he, hw⟩ => ⟨he, by subst hw; exact (Keeps.refl _ _).alloc _⟩
set_option maxRecDepth 100000 in
set_option maxHeartbeats 2000000 in
theorem hasF_v (j mb nn : Nat) (S : List FieldA) (hS : (S.map FieldA.name).Nodup) (op n : Int) (s : Txt) (hl : s.length ≤ 1000) (ao : Option Addr) (xn xc : Nat) (ko : Option Addr) (kn kc : Nat) (w : World) (h : MapAt w j mb nn S) :
    Calls Tryz.prog 177 #[.pointer (some ⟨j, 0, none⟩), .agg #[.int .i64 op, .int .i64 n, str s, .slice ao xn xc], .slice ko kn kc] w fun e w' => e = .returned (kerV (hasK S s)) ∧ Keeps (fun _ => False) w w' := by
  have HL := hide (led_start w #[.int .i64 op, .int .i64 n, str s, .slice ao xn xc] 27)
  have HN := hide (namedJ_led j mb nn S hS s hl h (unhide HL))
  have hk2 : kerV (hasK S s) = .tuple #[.agg #[.int .i64 2, .bool false], .int .i64 (orI (namedK S s).2 (optI ⟨(namedK S s).1.t, (namedK S s).1.o⟩))] := rfl
  rw [hk2]
  generalize (namedK S s).1.t = T at *
  generalize (namedK S s).1.o = O at *
  generalize (namedK S s).2 = E at *
  have hR : w.heap.size ≤ w.heap.size + 1 := Nat.le_succ _
  rw [← orL_two]
  clear hk2 h
  go_enter Tryz.func177, Tryz.ntmps177
  go_wp2_with (go_at_call 210; refine (unhide HN).mono ?_; rintro e w1 ⟨rfl, hl1⟩; have HLO := hide (lt_of_block hl1.res); have HB0 := hide (boxed w1 #[.int .i64 T, .bool O] 113); have HL := hide (hl1.keep ((Keeps.refl _ w1).alloc (.cells #[.int .i64 T, .bool O] 113))); clear hl1)
  have hb0 := unhide HB0
  have hxb := hb0.2.1
  have SK : ∀ w' : World, Keeps (fun _ => False) (w1.alloc (.cells #[.int .i64 T, .bool O] 113)) w' → w'.cell? ⟨w1.heap.size, 0, none⟩ = some (.int .i64 T) ∧ w'.cell? ⟨w1.heap.size, 1, none⟩ = some (.bool O) := fun w' hk =>
    ⟨(hk.cell hxb id).trans (hb0.2.2 0 (.int .i64 T) rfl), (hk.cell hxb id).trans (hb0.2.2 1 (.bool O) rfl)⟩
  have HSK := hide SK
  have HKB : Hid (Keeps (fun _ => False) (w1.alloc (.cells #[.int .i64 T, .bool O] 113)) (w1.alloc (.cells #[.int .i64 T, .bool O] 113))) := Keeps.refl _ _
  have hlo : w.heap.size + 1 < w1.heap.size := unhide HLO
  have hlo2 : w.heap.size + 1 < (w1.alloc (.cells #[.int .i64 T, .bool O] 113)).heap.size := Nat.lt_trans hlo hxb
  have hne : ¬ w1.heap.size = w.heap.size + 1 := by omega
  have d := unhide HSK (w1.alloc (.cells #[.int .i64 T, .bool O] 113)).drew (unhide HKB).drew
  clear SK hb0 HB0 HN
  go_region_held3 (fun w' => w'.cell? ⟨w1.heap.size, 0, none⟩ = some (.int .i64 T) ∧ w'.cell? ⟨w1.heap.size, 1, none⟩ = some (.bool O)) (first | with_reducible exact d | with_reducible exact unhide HSK _ (unhide HKB) | with_reducible exact unhide HSK _ ((unhide HKB).alloc _) | with_reducible exact t0)
    ((first
    | (go_at_call 209; refine (plain_v 2 _).mono ?_; rintro e w2 ⟨rfl, hk1⟩; have HL := hide ((unhide HL).keep ((Keeps.refl _ _).drew.trans hk1)); have HKB := hide ((unhide HKB).trans ((Keeps.refl _ _).drew.trans hk1)); clear hk1)
    | (go_at_call 212; refine (isOptional_v ⟨T, O⟩ _).mono ?_; rintro e w3 ⟨rfl, hk1⟩; have HL := hide ((unhide HL).keep hk1); have HKB := hide ((unhide HKB).trans hk1); clear hk1)
    | (go_at_call 211; refine (or_keep [E, optI ⟨T, O⟩] 2 rfl (by simp) _).mono ?_; rintro e w4 ⟨rfl, hk1⟩; have HL := hide ((unhide HL).keep hk1); have HKB := hide ((unhide HKB).trans hk1); have m0 := cell_of_blk (unhide HL).res 0; have m1 := cell_of_blk (unhide HL).res 1; simp at m0 m1; have g0 := frozen_of_blk (unhide HL).res 0; have g1 := frozen_of_blk (unhide HL).res 1; have hx4 := Nat.lt_of_lt_of_le hxb (unhide HKB).size; have t0 : ((w4.setCell ⟨w.heap.size + 1, 0, none⟩ (.int .i64 2)).setCell ⟨w.heap.size + 1, 1, none⟩ (.bool false)).cell? ⟨w1.heap.size, 0, none⟩ = some (.int .i64 T) ∧ ((w4.setCell ⟨w.heap.size + 1, 0, none⟩ (.int .i64 2)).setCell ⟨w.heap.size + 1, 1, none⟩ (.bool false)).cell? ⟨w1.heap.size, 1, none⟩ = some (.bool O) := ⟨((keeps_set2 w4 (w.heap.size + 1) _ _).cell hx4 hne).trans (unhide HSK _ (unhide HKB)).1, ((keeps_set2 w4 (w.heap.size + 1) _ _).cell hx4 hne).trans (unhide HSK _ (unhide HKB)).2⟩; clear hk1)))
  all_goals go_wp2_with fail
  all_goals (obtain ⟨⟨s0, s1, _⟩, _⟩ := set2 (unhide HL).res (.int .i64 2) (.bool false); refine bodyPost_ret (v := .tuple #[.agg #[.int .i64 2, .bool false], .int .i64 (orL [E, optI ⟨T, O⟩])]) (by simp [results, go_sem, s0, s1]) rfl ?_; exact ⟨rfl, (unhide HL).done (by omega) _ _⟩)
end Go.Proofs.YtiinohibmcefkaaGreatDoor
