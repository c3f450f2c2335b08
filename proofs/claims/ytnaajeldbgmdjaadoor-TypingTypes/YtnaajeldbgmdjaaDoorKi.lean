import Derived.Test.YtnaajeldbgmdjaaDoorKf
import Derived.StringKeys
namespace Go.Proofs.YtnaajeldbgmdjaaDoor
open Go.RowKit Go.Maps

def kD (k : KA) : DataW Unit := .agg [.lit (.int .i64 k.t), .lit (.bool k.o)]
/-- How an element of the map of fields reads. -/
def kindElem (v : Value) : Option (DataW Unit × List MemPlace) := match v with
  | .agg a => match a.toList with
    | [.int .i64 t, .bool o] => some (kD ⟨t, o⟩, [])
    | _ => none
  | _ => none
theorem kindElem_mk (k : KA) : kindElem (kindV k) = some (kD k, []) := rfl
theorem kindElem_inv {v : Value} {k : KA} {ps : List MemPlace} (h : kindElem v = some (kD k, ps)) : v = kindV k := by
  unfold kindElem at h
  split at h
  · rename_i a
    split at h
    · rename_i t o e
      simp [kD] at h
      obtain ⟨⟨h1, h2⟩, _⟩ := h
      obtain ⟨l⟩ := a
      simp at e
      rw [e, h1, h2]
    · cases h
  · cases h
theorem strKeyed : Keyed Tryd.prog 9 := string_keyed Tryd.underlying9
theorem keyStr {s : Txt} (h : s.length ≤ 1000) : keyOf Tryd.prog 9 (str s) = some (.string s) := by
  have := WideMaps.keyOf_string_mk (P := Tryd.prog) (k := 9) Tryd.underlying9 (s := ⟨s.toArray⟩) (by show s.toArray.size ≤ maxLen; unfold maxLen; simp; omega)
  simpa using this
/-- The map of fields. -/
def mapD (m : DataW Unit) (l : List FieldA) : DataW Unit := l.foldl (fun m f => m.put (.string f.name) (kD ⟨f.type, f.opt⟩)) m
theorem mapD_snoc (m : DataW Unit) (l : List FieldA) (f : FieldA) : mapD m (l ++ [f]) = (mapD m l).put (.string f.name) (kD ⟨f.type, f.opt⟩) := by simp [mapD, List.foldl_append]
theorem isKeyStr (s : Txt) : WideAt.IsKeyLit (.string s) := by simp [WideAt.IsKeyLit]
theorem fieldOf_none {l : List FieldA} {nm : Txt} (h : ∀ g ∈ l, g.name ≠ nm) : fieldOf l nm = none := by
  unfold fieldOf
  rw [List.find?_eq_none]
  intro g hg
  simpa using h g hg
theorem mapD_at (nm : Txt) (z : DataW Unit) : ∀ (l : List FieldA) (m : DataW Unit), IsMap m → (l.map FieldA.name).Nodup → (mapD m l).atKey (.string nm) z = (match fieldOf l nm with | some f => kD ⟨f.type, f.opt⟩ | none => m.atKey (.string nm) z) ∧ Maps.has (mapD m l) (.string nm) = ((fieldOf l nm).isSome || Maps.has m (.string nm))
  | [], m, _, _ => by simp [mapD, fieldOf]
  | f :: r, m, hm, hn => by
    have hn2 : (r.map FieldA.name).Nodup ∧ ∀ g ∈ r, g.name ≠ f.name := by
      simp only [List.map_cons, List.nodup_cons, List.mem_map, not_exists, not_and] at hn
      exact ⟨hn.2, fun g hg => hn.1 g hg⟩
    have ih := mapD_at nm z r (m.put (.string f.name) (kD ⟨f.type, f.opt⟩)) (hm.put _ _) hn2.1
    have e : mapD m (f :: r) = mapD (m.put (.string f.name) (kD ⟨f.type, f.opt⟩)) r := rfl
    rw [e, ih.1, ih.2]
    by_cases h : f.name = nm
    · subst h
      have e1 : fieldOf r f.name = none := fieldOf_none hn2.2
      have e2 : fieldOf (f :: r) f.name = some f := by simp [fieldOf]
      rw [e1, e2]
      exact ⟨atKey_put_same hm (isKeyStr _) _ _, by simp [has_put_same hm (isKeyStr f.name)]⟩
    · have e2 : fieldOf (f :: r) nm = fieldOf r nm := by simp [fieldOf, h]
      have hne : (Lit.string nm) ≠ .string f.name := fun e => h (by simpa using e.symm)
      rw [e2, atKey_put_other hne, has_put_other hne]
      exact ⟨rfl, rfl⟩
theorem zero90 (w : World) : (zeroValue 90).run Tryd.prog w = .ok (kindV ⟨0, false⟩) w := by kernel_rfl
/-- A judge's map lies so. -/
structure MapAt (w : World) (j mb n : Nat) (S : List FieldA) : Prop where
  lt : j < w.heap.size
  cell : w.cell? ⟨j, 0, none⟩ = some (.map (some mb))
  map : w.ownsMap Tryd.prog 9 kindElem mb n (mapD (.map []) S)
theorem ownsMap_keep {w w' : World} {mb n : Nat} {D : DataW Unit} (h : w.ownsMap Tryd.prog 9 kindElem mb n D) {F : Nat → Prop} (hk : Keeps F w w') (hF : ¬ F mb) : w'.ownsMap Tryd.prog 9 kindElem mb n D := by
  obtain ⟨es, clock, hb, r⟩ := h
  exact ⟨es, clock, (hk.block _ (lt_of_block hb) hF).trans hb, r⟩
theorem MapAt.keepF {w w' : World} {j mb n : Nat} {S : List FieldA} (h : MapAt w j mb n S) (hk : Keeps (fun _ => False) w w') : MapAt w' j mb n S :=
  ⟨Nat.lt_of_lt_of_le h.lt hk.size, (hk.cell h.lt id).trans h.cell, ownsMap_keep h.map hk id⟩
theorem MapAt.look {w : World} {j mb n : Nat} {S : List FieldA} (h : MapAt w j mb n S) (hS : (S.map FieldA.name).Nodup) {nm : Txt} (hl : nm.length ≤ 1000) :
    (Instr.lookup 112 (.map (some mb)) (str nm) true).run Tryd.prog w = .ok (.tuple #[kindV (namedK S nm).1, .bool (fieldOf S nm).isSome]) w := by
  obtain ⟨v, ps, hrun, hv⟩ := h.map.look_ok strKeyed Tryd.underlying112 (zero90 w) (kindElem_mk ⟨0, false⟩) (keyStr hl)
  obtain ⟨h1, h2⟩ := mapD_at nm (kD ⟨0, false⟩) S (.map []) ⟨[], rfl⟩ hS
  have e2 : Maps.has (DataW.map ([] : List (Lit × DataW Unit))) (.string nm) = false := rfl
  rw [h2, e2, Bool.or_false] at hrun
  rw [h1] at hv
  have e3 : kindElem v = some (kD (namedK S nm).1, ps) := by
    rw [hv]
    unfold namedK
    cases fieldOf S nm <;> rfl
  rw [kindElem_inv e3] at hrun
  exact hrun
set_option maxRecDepth 100000 in
set_option maxHeartbeats 1000000 in
theorem namedJ_core (j mb : Nat) (nm : Txt) (w : World) (T E : Int) (O I : Bool) (hE : unlessI I 90 = E) (c0 : (w.alloc (.cells #[.int .i64 0, .bool false] 90)).cell? ⟨j, 0, none⟩ = some (.map (some mb)))
    (hrun : (Instr.lookup 112 (.map (some mb)) (str nm) true).run Tryd.prog (w.alloc (.cells #[.int .i64 0, .bool false] 90)) = .ok (.tuple #[.agg #[.int .i64 T, .bool O], .bool I]) (w.alloc (.cells #[.int .i64 0, .bool false] 90))) :
    Calls Tryd.prog 106 #[.pointer (some ⟨j, 0, none⟩), str nm] w fun e w' => e = .returned (.tuple #[.agg #[.int .i64 T, .bool O], .int .i64 E]) ∧ Keeps (fun _ => False) w w' := by
  have HU := fun w' => hide (unless_v I 90 w')
  rw [hE] at HU
  have HK0 : Hid (Keeps (fun _ => False) w (w.alloc (.cells #[.int .i64 0, .bool false] 90))) := (Keeps.refl _ w).alloc _
  obtain ⟨HB, hxb, hxc⟩ := boxed (w.alloc (.cells #[.int .i64 0, .bool false] 90)) #[.int .i64 T, .bool O] 90
  have hsz : (w.alloc (.cells #[.int .i64 0, .bool false] 90)).heap.size = w.heap.size + 1 := by simp
  have d0 : ((w.alloc (.cells #[.int .i64 0, .bool false] 90)).alloc (.cells #[.int .i64 T, .bool O] 90)).drew.cell? ⟨w.heap.size + 1, 0, none⟩ = some (.int .i64 T) := by have := hxc 0 (.int .i64 T) rfl; rw [hsz] at this; exact this
  have d1 : ((w.alloc (.cells #[.int .i64 0, .bool false] 90)).alloc (.cells #[.int .i64 T, .bool O] 90)).drew.cell? ⟨w.heap.size + 1, 1, none⟩ = some (.bool O) := by have := hxc 1 (.bool O) rfl; rw [hsz] at this; exact this
  rw [hsz] at hxb
  have HX : Hid (((w.alloc (.cells #[.int .i64 0, .bool false] 90)).alloc (.cells #[.int .i64 T, .bool O] 90)).heap[w.heap.size]? = some (.cells #[.int .i64 0, .bool false] 90 (0, 0))) := ((unhide HB).block _ (by simp) id).trans (heap_alloc_new w _)
  have HUK := fun w' => hide ((unhide (HU w')).mono (fun e w2 ⟨he, hw⟩ => (⟨he, by rw [hw]; exact Keeps.refl _ _⟩ : e = Ending.returned (.int .i64 E) ∧ Keeps (fun _ => False) w' w2)))
  have hne : ¬ w.heap.size + 1 = w.heap.size := by omega
  clear hxc hE HU
  go_enter Tryd.func106, Tryd.ntmps106
  go_wp2_with fail
  go_region_held3 (fun w' => w'.cell? ⟨w.heap.size + 1, 0, none⟩ = some (.int .i64 T) ∧ w'.cell? ⟨w.heap.size + 1, 1, none⟩ = some (.bool O)) (first | with_reducible exact ⟨d0, d1⟩ | with_reducible exact ⟨r0, r1⟩ | with_reducible exact ⟨t0, t1⟩)
    ((go_at_call 111; refine (unhide (HUK _)).mono ?_; rintro e w1 ⟨rfl, hk1⟩; have r0 := (hk1.cell (o := 0) hxb id).trans d0; have r1 := (hk1.cell (o := 1) hxb id).trans d1; have hb1 := (hk1.block w.heap.size (Nat.lt_trans (Nat.lt_succ_self _) hxb) id).trans (unhide HX); have t0 := ((keeps_set2 w1 w.heap.size (.int .i64 T) (.bool O)).cell (Nat.lt_of_lt_of_le hxb hk1.size) hne).trans r0; have t1 := ((keeps_set2 w1 w.heap.size (.int .i64 T) (.bool O)).cell (Nat.lt_of_lt_of_le hxb hk1.size) hne).trans r1; have m0 := cell_of_blk hb1 0; have m1 := cell_of_blk hb1 1; simp at m0 m1; have g0 := frozen_of_blk hb1 0; have g1 := frozen_of_blk hb1 1; have HB1 := hide hb1; have HK1 := hide (((unhide HK0).trans (unhide HB)).trans ((Keeps.refl _ _).drew.trans hk1)); clear hk1 hb1))
  all_goals go_wp2_with fail
  all_goals (obtain ⟨⟨s0, s1, _⟩, hks2⟩ := set2 (unhide HB1) (.int .i64 T) (.bool O); refine bodyPost_ret (v := .tuple #[.agg #[.int .i64 T, .bool O], .int .i64 E]) (by simp [results, go_sem, s0, s1]) rfl ?_; exact ⟨rfl, (unhide HK1).narrow hks2 (fun q e => by omega)⟩)
theorem namedJ_v (j mb n : Nat) (S : List FieldA) (hS : (S.map FieldA.name).Nodup) (nm : Txt) (hl : nm.length ≤ 1000) (w : World) (h : MapAt w j mb n S) :
    Calls Tryd.prog 106 #[.pointer (some ⟨j, 0, none⟩), str nm] w fun e w' => e = .returned (kerV (namedK S nm)) ∧ Keeps (fun _ => False) w w' := by
  have h0 := h.keepF ((Keeps.refl _ w).alloc (.cells #[.int .i64 0, .bool false] 90))
  have e90 : unlessI (fieldOf S nm).isSome 90 = (namedK S nm).2 := by unfold namedK unlessI; cases fieldOf S nm <;> rfl
  exact namedJ_core j mb nm w _ _ _ _ e90 h0.cell (h0.look hS hl)
end Go.Proofs.YtnaajeldbgmdjaaDoor
