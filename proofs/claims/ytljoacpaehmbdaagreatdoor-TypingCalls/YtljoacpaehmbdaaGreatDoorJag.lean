import Derived.Test.YtljoacpaehmbdaaGreatDoorJab
import Derived.Test.YtljoacpaehmbdaaGreatDoorKf
import Derived.StringKeys
namespace Go.Proofs.YtljoacpaehmbdaaGreatDoor
open Go.RowKit Go.Maps

theorem SlE.open {Z : Zone} {w : World} {up : Nat} {v : Value} {l : EL} (h : SlE Z w up v l) : ∃ ao cap b off, v = .slice ao l.len cap ∧ l.len ≤ cap ∧ (l.len ≠ 0 → ao = some ⟨b, off, none⟩ ∧ Z.P up b) ∧ ExIn Z w l b off := by
  obtain ⟨ao, cap, e, hc, hr⟩ := h
  by_cases h0 : l.len = 0
  · exact ⟨ao, cap, 0, 0, e, hc, fun h => absurd h0 h, by rw [EL.len0 h0]; trivial⟩
  · obtain ⟨b, o, e1, hp, hx⟩ := hr h0
    exact ⟨ao, cap, b, o, e, hc, fun _ => ⟨e1, hp⟩, hx⟩
theorem SlS.open {Z : Zone} {w : World} {up : Nat} {v : Value} {l : SL} (h : SlS Z w up v l) : ∃ ao cap b off, v = .slice ao l.len cap ∧ l.len ≤ cap ∧ (l.len ≠ 0 → ao = some ⟨b, off, none⟩ ∧ Z.P up b) ∧ StIn Z w l b off := by
  obtain ⟨ao, cap, e, hc, hr⟩ := h
  by_cases h0 : l.len = 0
  · exact ⟨ao, cap, 0, 0, e, hc, fun h => absurd h0 h, by rw [SL.len0 h0]; trivial⟩
  · obtain ⟨b, o, e1, hp, hx⟩ := hr h0
    exact ⟨ao, cap, b, o, e, hc, fun _ => ⟨e1, hp⟩, hx⟩
/-- What came in: all blocks below B. -/
def argZ (B : Nat) : Zone := ⟨fun _ _ k => k < B, fun _ _ => True, fun _ _ h => h⟩
section
variable {B c : Nat} {w w' : World} {F : Nat → Prop}
theorem ExIn.argKeep {l : EL} {b o : Nat} (h : ExIn (argZ B) w l b o) (hk : Keeps F w w') (hF : ∀ k, F k → B ≤ k) : ExIn (argZ B) w' l b o :=
  ExIn.keep (Q := fun _ => True) (fun _ _ _ _ => trivial) hk (fun s k _ _ (hg : k < B) => ⟨fun f => by have := hF k f; omega, hg⟩) trivial h
theorem SlE.argKeep {up : Nat} {v : Value} {l : EL} (h : SlE (argZ B) w up v l) (hk : Keeps F w w') (hF : ∀ k, F k → B ≤ k) : SlE (argZ B) w' up v l :=
  SlE.keep (Q := fun _ => True) (fun _ _ _ _ => trivial) hk (fun s k _ _ (hg : k < B) => ⟨fun f => by have := hF k f; omega, hg⟩) trivial h
theorem StIn.argKeep {l : SL} {b o : Nat} (h : StIn (argZ B) w l b o) (hk : Keeps F w w') (hF : ∀ k, F k → B ≤ k) : StIn (argZ B) w' l b o :=
  StIn.keep (Q := fun _ => True) (fun _ _ _ _ => trivial) hk (fun s k _ _ (hg : k < B) => ⟨fun f => by have := hF k f; omega, hg⟩) trivial h
theorem SlS.argKeep {up : Nat} {v : Value} {l : SL} (h : SlS (argZ B) w up v l) (hk : Keeps F w w') (hF : ∀ k, F k → B ≤ k) : SlS (argZ B) w' up v l :=
  SlS.keep (Q := fun _ => True) (fun _ _ _ _ => trivial) hk (fun s k _ _ (hg : k < B) => ⟨fun f => by have := hF k f; omega, hg⟩) trivial h
end

/-- What counting parts leaves: the count, or that there are too many. -/
def PPost (c : Nat) (n : Int) (sz : Nat) (w : World) (e : Ending) (w' : World) : Prop :=
  ∃ (r : Bool) (n' : Int), e = .returned (.bool r) ∧ w'.heap[c]? = some (.cells #[.int .i64 n'] 49 (0, 0)) ∧ Keeps (fun k => k = c) w w' ∧ 0 ≤ n' ∧ (r = false → n' = n + sz ∧ n' ≤ 2147483647)

set_option maxRecDepth 100000 in
set_option maxHeartbeats 800000 in
theorem parts_exprs (B c : Nat) (hBc : B ≤ c) (N : Nat) : ∀ (l : EL), l.size < N → ∀ (w : World) (up : Nat) (v : Value) (n left : Int), SlE (argZ B) w up v l → w.heap[c]? = some (.cells #[.int .i64 n] 49 (0, 0)) → 0 ≤ n → n ≤ 2147483647 → 0 ≤ left → left ≤ 65536 →
    Calls Tryz.prog 17 #[.pointer (some ⟨c, 0, none⟩), v, .int .i64 left] w (PPost c n l.size w) := by
  induction N with
  | zero => intro l h; omega
  | succ N ih =>
    intro l hsz w up v n left hS hb hn0 hn1 hl0 hl1
    obtain ⟨ao, cap, b, off, rfl, hcap, ha, hx⟩ := hS.open
    have IH := hide ih
    have HX := hide hx
    have HA := hide ha
    have HB := hide hb
    clear hS ih hx ha hb
    go_enter Tryz.func17, Tryz.ntmps17
    go_wp2_with fail
    go_loopw [7] (fun i wr => ∃ (rest : EL) (k : Nat) (m : Int), i = .int .i64 k ∧ k + rest.len = l.len ∧ rest.size ≤ l.size ∧ m + rest.size = n + l.size ∧ n + k ≤ m ∧ m ≤ 2147483647 ∧ wr.heap[c]? = some (.cells #[.int .i64 m] 49 (0, 0)) ∧ Keeps (fun k => k = c) w wr ∧ ExIn (argZ B) wr rest b (off + k * 4)) (fun i _ => l.len - (intOf i).toNat)
    case atStart => exact ⟨l, 0, n, rfl, by omega, Nat.le_refl _, rfl, by omega, hn1, unhide HB, Keeps.refl _ _, by simpa using unhide HX⟩
    case round =>
      obtain ⟨rest, k, m, rfl, hkl, hrs, hm, hnk, hm1, hc, hkeep, hr⟩ := hrel
      cases rest with
      | nil =>
        simp only [EL.len, EL.size] at hkl hm hrs
        have HC := hide hc
        have HK := hide hkeep
        clear hc hkeep hr
        have i1 : ¬ (k : Int) < (l.len : Int) := by omega
        go_wp2_with fail
        go_ret
        exact ⟨_, _, rfl, unhide HC, unhide HK, by omega, fun _ => ⟨by omega, hm1⟩⟩
      | cons op nn s kids rest =>
        obtain ⟨h1, h2, h3, h4, h5, ⟨kao, kcap, h6, h7, h8⟩, h9⟩ := hr
        simp only [EL.len, EL.size] at hkl hm hrs
        obtain ⟨rfl, hp⟩ := (unhide HA) (by omega)
        have HKID : Hid (SlE (argZ B) wr b (.slice kao kids.len kcap) kids) := ⟨kao, kcap, rfl, h7, h8⟩
        have HR := hide h9
        have HK := hide hkeep
        have HC := hide hc
        have hcc := cell_of_blk hc 0
        have hfz := frozen_of_blk hc 0
        simp at hcc
        have i1 : (k : Int) < (l.len : Int) := by omega
        have i0 : (0 : Int) ≤ (k : Int) := by omega
        clear hc hkeep h3 h4 h5 h8 h9
        have hbc : b ≠ c := by have : b < B := h2; omega
        have hcb : c ≠ b := fun e => hbc e.symm
        have HC1 : Hid ((wr.setCell ⟨c, 0, none⟩ (.int .i64 (m + 1))).heap[c]? = some (.cells #[.int .i64 (m + 1)] 49 (0, 0))) := by
          have := heap_setCell_at (unhide HC) (o := 0) (.int .i64 (m + 1))
          exact hide (by simpa using this)
        have HK1 : Hid (Keeps (fun k => k = c) w (wr.setCell ⟨c, 0, none⟩ (.int .i64 (m + 1)))) := (unhide HK).setCell (fun _ => rfl) _
        have HKS : Hid (Keeps (fun k => k = c) wr (wr.setCell ⟨c, 0, none⟩ (.int .i64 (m + 1)))) := (Keeps.refl (fun k => k = c) wr).setCell (fun _ => rfl) _
        clear h2
        by_cases hq : left = 0
        · subst hq
          go_wp2_with fail
          go_ret
          exact ⟨true, _, rfl, unhide HC1, unhide HK1, by omega, fun h => by cases h⟩
        · have hq' : (left == 0) = false := by simpa using hq
          by_cases hm2 : m = 2147483647
          · subst hm2
            go_wp2_with fail
            go_ret
            exact ⟨true, _, rfl, unhide HC1, unhide HK1, by omega, fun h => by cases h⟩
          · have hm3 : ¬ (2147483647 : Int) < m + 1 := by omega
            have HCALL := hide (unhide IH kids (by omega) _ b (.slice kao kids.len kcap) (m + 1) (left - 1) ((unhide HKID).argKeep (unhide HKS) (fun k e => by omega)) (unhide HC1) (by omega) (by omega) (by omega) (by omega))
            go_wp2_with (go_at_call 17; refine (unhide HCALL).mono ?_; rintro e w1 ⟨r, n1, rfl, hc1, hk1, hn1, hr1⟩)
            · go_ret
              exact ⟨true, _, rfl, hc1, (unhide HK1).trans hk1, hn1, fun h => by cases h⟩
            · obtain ⟨e1, e2⟩ := hr1 (by cases r <;> simp_all)
              go_roundw
              case rel =>
                refine ⟨rest, k + 1, n1, by go_num, by omega, by omega, by omega, by omega, e2, hc1, (unhide HK1).trans hk1, ?_⟩
                rw [show off + (k + 1) * 4 = off + k * 4 + 4 by omega]
                exact (unhide HR).argKeep ((unhide HKS).trans hk1) (fun k e => by omega)
              case measure => simp [intOf]; omega
end Go.Proofs.YtljoacpaehmbdaaGreatDoor
namespace Go.Proofs.YtljoacpaehmbdaaGreatDoor
open Go.RowKit Go.Maps

def kD (k : KA) : DataW Unit := .agg [.lit (.int .i64 k.t), .lit (.bool k.o)]
/-- How an element of the map of fields reads. -/
def kindElem (v : Value) : Option (DataW Unit × List MemPlace) := match v with
  | .agg a => match a.toList with
    | [.int .i64 t, .bool o] => some (kD ⟨t, o⟩, [])
    | _ => none
  | _ => none
theorem kindElem_mk (k : KA) : kindElem (kindV k) = some (kD k, []) := rfl
theorem kindElem_inv {v : Value} {k : KA} {ps : List MemPlace} (h : kindElem v = some (kD k, ps)) : v = kindV k := by
  unfold kindElem at h
  split at h
  · rename_i a
    split at h
    · rename_i t o e
      simp [kD] at h
      obtain ⟨⟨h1, h2⟩, _⟩ := h
      obtain ⟨l⟩ := a
      simp at e
      rw [e, h1, h2]
    · cases h
  · cases h
theorem strKeyed : Keyed Tryz.prog 9 := string_keyed Tryz.underlying9
theorem keyStr {s : Txt} (h : s.length ≤ 1000) : keyOf Tryz.prog 9 (str s) = some (.string s) := by
  have := WideMaps.keyOf_string_mk (P := Tryz.prog) (k := 9) Tryz.underlying9 (s := ⟨s.toArray⟩) (by show s.toArray.size ≤ maxLen; unfold maxLen; simp; omega)
  simpa using this
/-- The map of fields. -/
def mapD (m : DataW Unit) (l : List FieldA) : DataW Unit := l.foldl (fun m f => m.put (.string f.name) (kD ⟨f.type, f.opt⟩)) m
theorem mapD_snoc (m : DataW Unit) (l : List FieldA) (f : FieldA) : mapD m (l ++ [f]) = (mapD m l).put (.string f.name) (kD ⟨f.type, f.opt⟩) := by simp [mapD, List.foldl_append]
theorem isKeyStr (s : Txt) : WideAt.IsKeyLit (.string s) := by simp [WideAt.IsKeyLit]
theorem fieldOf_none {l : List FieldA} {nm : Txt} (h : ∀ g ∈ l, g.name ≠ nm) : fieldOf l nm = none := by
  unfold fieldOf
  rw [List.find?_eq_none]
  intro g hg
  simpa using h g hg
theorem mapD_at (nm : Txt) (z : DataW Unit) : ∀ (l : List FieldA) (m : DataW Unit), IsMap m → (l.map FieldA.name).Nodup → (mapD m l).atKey (.string nm) z = (match fieldOf l nm with | some f => kD ⟨f.type, f.opt⟩ | none => m.atKey (.string nm) z) ∧ Maps.has (mapD m l) (.string nm) = ((fieldOf l nm).isSome || Maps.has m (.string nm))
  | [], m, _, _ => by simp [mapD, fieldOf]
  | f :: r, m, hm, hn => by
    have hn2 : (r.map FieldA.name).Nodup ∧ ∀ g ∈ r, g.name ≠ f.name := by
      simp only [List.map_cons, List.nodup_cons, List.mem_map, not_exists, not_and] at hn
      exact ⟨hn.2, fun g hg => hn.1 g hg⟩
    have ih := mapD_at nm z r (m.put (.string f.name) (kD ⟨f.type, f.opt⟩)) (hm.put _ _) hn2.1
    have e : mapD m (f :: r) = mapD (m.put (.string f.name) (kD ⟨f.type, f.opt⟩)) r := rfl
    rw [e, ih.1, ih.2]
    by_cases h : f.name = nm
    · subst h
      have e1 : fieldOf r f.name = none := fieldOf_none hn2.2
      have e2 : fieldOf (f :: r) f.name = some f := by simp [fieldOf]
      rw [e1, e2]
      exact ⟨atKey_put_same hm (isKeyStr _) _ _, by simp [has_put_same hm (isKeyStr f.name)]⟩
    · have e2 : fieldOf (f :: r) nm = fieldOf r nm := by simp [fieldOf, h]
      have hne : (Lit.string nm) ≠ .string f.name := fun e => h (by simpa using e.symm)
      rw [e2, atKey_put_other hne, has_put_other hne]
      exact ⟨rfl, rfl⟩
theorem zero90 (w : World) : (zeroValue 73).run Tryz.prog w = .ok (kindV ⟨0, false⟩) w := by kernel_rfl
/-- A judge's map lies so. -/
structure MapAt (w : World) (j mb n : Nat) (S : List FieldA) : Prop where
  lt : j < w.heap.size
  cell : w.cell? ⟨j, 0, none⟩ = some (.map (some mb))
  map : w.ownsMap Tryz.prog 9 kindElem mb n (mapD (.map []) S)
theorem ownsMap_keep {w w' : World} {mb n : Nat} {D : DataW Unit} (h : w.ownsMap Tryz.prog 9 kindElem mb n D) {F : Nat → Prop} (hk : Keeps F w w') (hF : ¬ F mb) : w'.ownsMap Tryz.prog 9 kindElem mb n D := by
  obtain ⟨es, clock, hb, r⟩ := h
  exact ⟨es, clock, (hk.block _ (lt_of_block hb) hF).trans hb, r⟩
theorem MapAt.keepF {w w' : World} {j mb n : Nat} {S : List FieldA} (h : MapAt w j mb n S) (hk : Keeps (fun _ => False) w w') : MapAt w' j mb n S :=
  ⟨Nat.lt_of_lt_of_le h.lt hk.size, (hk.cell h.lt id).trans h.cell, ownsMap_keep h.map hk id⟩
theorem MapAt.look {w : World} {j mb n : Nat} {S : List FieldA} (h : MapAt w j mb n S) (hS : (S.map FieldA.name).Nodup) {nm : Txt} (hl : nm.length ≤ 1000) :
    (Instr.lookup 101 (.map (some mb)) (str nm) true).run Tryz.prog w = .ok (.tuple #[kindV (namedK S nm).1, .bool (fieldOf S nm).isSome]) w := by
  obtain ⟨v, ps, hrun, hv⟩ := h.map.look_ok strKeyed Tryz.underlying101 (zero90 w) (kindElem_mk ⟨0, false⟩) (keyStr hl)
  obtain ⟨h1, h2⟩ := mapD_at nm (kD ⟨0, false⟩) S (.map []) ⟨[], rfl⟩ hS
  have e2 : Maps.has (DataW.map ([] : List (Lit × DataW Unit))) (.string nm) = false := rfl
  rw [h2, e2, Bool.or_false] at hrun
  rw [h1] at hv
  have e3 : kindElem v = some (kD (namedK S nm).1, ps) := by
    rw [hv]
    unfold namedK
    cases fieldOf S nm <;> rfl
  rw [kindElem_inv e3] at hrun
  exact hrun
set_option maxRecDepth 100000 in
set_option maxHeartbeats 1000000 in
theorem namedJ_core (j mb : Nat) (nm : Txt) (w : World) (T E : Int) (O I : Bool) (hE : unlessI I 90 = E) (c0 : (w.alloc (.cells #[.int .i64 0, .bool false] 73)).cell? ⟨j, 0, none⟩ = some (.map (some mb)))
    (hrun : (Instr.lookup 101 (.map (some mb)) (str nm) true).run Tryz.prog (w.alloc (.cells #[.int .i64 0, .bool false] 73)) = .ok (.tuple #[.agg #[.int .i64 T, .bool O], .bool I]) (w.alloc (.cells #[.int .i64 0, .bool false] 73))) :
    Calls Tryz.prog 99 #[.pointer (some ⟨j, 0, none⟩), str nm] w fun e w' => e = .returned (.tuple #[.agg #[.int .i64 T, .bool O], .int .i64 E]) ∧ Keeps (fun _ => False) w w' := by
  have HU := fun w' => hide (unless_v I 90 w')
  rw [hE] at HU
  have HK0 : Hid (Keeps (fun _ => False) w (w.alloc (.cells #[.int .i64 0, .bool false] 73))) := (Keeps.refl _ w).alloc _
  obtain ⟨HB, hxb, hxc⟩ := boxed (w.alloc (.cells #[.int .i64 0, .bool false] 73)) #[.int .i64 T, .bool O] 73
  have hsz : (w.alloc (.cells #[.int .i64 0, .bool false] 73)).heap.size = w.heap.size + 1 := by simp
  have d0 : ((w.alloc (.cells #[.int .i64 0, .bool false] 73)).alloc (.cells #[.int .i64 T, .bool O] 73)).drew.cell? ⟨w.heap.size + 1, 0, none⟩ = some (.int .i64 T) := by have := hxc 0 (.int .i64 T) rfl; rw [hsz] at this; exact this
  have d1 : ((w.alloc (.cells #[.int .i64 0, .bool false] 73)).alloc (.cells #[.int .i64 T, .bool O] 73)).drew.cell? ⟨w.heap.size + 1, 1, none⟩ = some (.bool O) := by have := hxc 1 (.bool O) rfl; rw [hsz] at this; exact this
  rw [hsz] at hxb
  have HX : Hid (((w.alloc (.cells #[.int .i64 0, .bool false] 73)).alloc (.cells #[.int .i64 T, .bool O] 73)).heap[w.heap.size]? = some (.cells #[.int .i64 0, .bool false] 73 (0, 0))) := ((unhide HB).block _ (by simp) id).trans (heap_alloc_new w _)
  have HUK := fun w' => hide ((unhide (HU w')).mono (fun e w2 ⟨he, hw⟩ => (⟨he, by rw [hw]; exact Keeps.refl _ _⟩ : e = Ending.returned (.int .i64 E) ∧ Keeps (fun _ => False) w' w2)))
  have hne : ¬ w.heap.size + 1 = w.heap.size := by omega
  clear hxc hE HU
  go_enter Tryz.func99, Tryz.ntmps99
  go_wp2_with fail
  go_region_held3 (fun w' => w'.cell? ⟨w.heap.size + 1, 0, none⟩ = some (.int .i64 T) ∧ w'.cell? ⟨w.heap.size + 1, 1, none⟩ = some (.bool O)) (first | with_reducible exact ⟨d0, d1⟩ | with_reducible exact ⟨r0, r1⟩ | with_reducible exact ⟨t0, t1⟩)
    ((go_at_call 104; refine (unhide (HUK _)).mono ?_; rintro e w1 ⟨rfl, hk1⟩; have r0 := (hk1.cell (o := 0) hxb id).trans d0; have r1 := (hk1.cell (o := 1) hxb id).trans d1; have hb1 := (hk1.block w.heap.size (Nat.lt_trans (Nat.lt_succ_self _) hxb) id).trans (unhide HX); have t0 := ((keeps_set2 w1 w.heap.size (.int .i64 T) (.bool O)).cell (Nat.lt_of_lt_of_le hxb hk1.size) hne).trans r0; have t1 := ((keeps_set2 w1 w.heap.size (.int .i64 T) (.bool O)).cell (Nat.lt_of_lt_of_le hxb hk1.size) hne).trans r1; have m0 := cell_of_blk hb1 0; have m1 := cell_of_blk hb1 1; simp at m0 m1; have g0 := frozen_of_blk hb1 0; have g1 := frozen_of_blk hb1 1; have HB1 := hide hb1; have HK1 := hide (((unhide HK0).trans (unhide HB)).trans ((Keeps.refl _ _).drew.trans hk1)); clear hk1 hb1))
  all_goals go_wp2_with fail
  all_goals (obtain ⟨⟨s0, s1, _⟩, hks2⟩ := set2 (unhide HB1) (.int .i64 T) (.bool O); refine bodyPost_ret (v := .tuple #[.agg #[.int .i64 T, .bool O], .int .i64 E]) (by simp [results, go_sem, s0, s1]) rfl ?_; exact ⟨rfl, (unhide HK1).narrow hks2 (fun q e => by omega)⟩)
theorem namedJ_v (j mb n : Nat) (S : List FieldA) (hS : (S.map FieldA.name).Nodup) (nm : Txt) (hl : nm.length ≤ 1000) (w : World) (h : MapAt w j mb n S) :
    Calls Tryz.prog 99 #[.pointer (some ⟨j, 0, none⟩), str nm] w fun e w' => e = .returned (kerV (namedK S nm)) ∧ Keeps (fun _ => False) w w' := by
  have h0 := h.keepF ((Keeps.refl _ w).alloc (.cells #[.int .i64 0, .bool false] 73))
  have e90 : unlessI (fieldOf S nm).isSome 90 = (namedK S nm).2 := by unfold namedK unlessI; cases fieldOf S nm <;> rfl
  exact namedJ_core j mb nm w _ _ _ _ e90 h0.cell (h0.look hS hl)
end Go.Proofs.YtljoacpaehmbdaaGreatDoor
namespace Go.Proofs.YtljoacpaehmbdaaGreatDoor
open Go.RowKit Go.Maps

theorem namedJ_led (j mb n : Nat) (S : List FieldA) (hS : (S.map FieldA.name).Nodup) (nm : Txt) (hl : nm.length ≤ 1000) {w : World} (h : MapAt w j mb n S) {R : Nat} {L : List (Nat × Int)} {cur : World} (hL : Led w R L cur) :
    Calls Tryz.prog 99 #[.pointer (some ⟨j, 0, none⟩), str nm] cur fun e w' => e = .returned (.tuple #[.agg #[.int .i64 (namedK S nm).1.t, .bool (namedK S nm).1.o], .int .i64 (namedK S nm).2]) ∧ Led w R L w' :=
  (namedJ_v j mb n S hS nm hl cur (h.keepF hL.kept)).mono fun _ _ ⟨he, hk⟩ => ⟨he, hL.keep hk⟩

set_option maxRecDepth 100000 in
set_option maxHeartbeats 1000000 in
theorem fieldF_v (j mb nn : Nat) (S : List FieldA) (hS : (S.map FieldA.name).Nodup) (op n : Int) (s : Txt) (hl : s.length ≤ 1000) (ao : Option Addr) (xn xc : Nat) (ko : Option Addr) (kn kc : Nat) (w : World) (h : MapAt w j mb nn S) :
    Calls Tryz.prog 82 #[.pointer (some ⟨j, 0, none⟩), .agg #[.int .i64 op, .int .i64 n, str s, .slice ao xn xc], .slice ko kn kc] w fun e w' => e = .returned (kerV (namedK S s)) ∧ Keeps (fun _ => False) w w' := by
  have HL := hide (led_start w #[.int .i64 op, .int .i64 n, str s, .slice ao xn xc] 29)
  have HN := hide (namedJ_led j mb nn S hS s hl h (unhide HL))
  have hk2 : kerV (namedK S s) = .tuple #[.agg #[.int .i64 (namedK S s).1.t, .bool (namedK S s).1.o], .int .i64 (namedK S s).2] := rfl
  rw [hk2]
  generalize (namedK S s).1.t = T at *
  generalize (namedK S s).1.o = O at *
  generalize (namedK S s).2 = E at *
  clear hk2 h
  go_enter Tryz.func82, Tryz.ntmps82
  go_wp2_with (go_at_call 99; refine (unhide HN).mono ?_; rintro e w1 ⟨rfl, hl1⟩; have m0 := cell_of_blk hl1.res 0; have m1 := cell_of_blk hl1.res 1; simp at m0 m1; have g0 := frozen_of_blk hl1.res 0; have g1 := frozen_of_blk hl1.res 1; have HL := hide hl1; clear hl1)
  obtain ⟨⟨s0, s1, _⟩, _⟩ := set2 (unhide HL).res (.int .i64 T) (.bool O)
  refine bodyPost_ret (v := .tuple #[.agg #[.int .i64 T, .bool O], .int .i64 E]) (by simp [results, go_sem, s0, s1]) rfl ?_
  exact ⟨rfl, (unhide HL).done (by omega) _ _⟩

theorem or_keep (es : List Int) (n : Nat) (hn : n = es.length) (hl : es.length ≤ 1000) (cur : World) : Calls Tryz.prog 100 #[.slice (some ⟨cur.heap.size, 0, none⟩) n n] (cur.alloc (.cells (ints es).toArray 37)) fun e w' => e = .returned (.int .i64 (orL es)) ∧ Keeps (fun _ => False) cur w' :=
  (or_v es _ _ (ints_new cur es 37 n hn) hl).mono fun _ _ ⟨he, hw⟩ => ⟨he, by subst hw; exact (Keeps.refl _ _).alloc _⟩
set_option maxRecDepth 100000 in
set_option maxHeartbeats 2000000 in
theorem hasF_v (j mb nn : Nat) (S : List FieldA) (hS : (S.map FieldA.name).Nodup) (op n : Int) (s : Txt) (hl : s.length ≤ 1000) (ao : Option Addr) (xn xc : Nat) (ko : Option Addr) (kn kc : Nat) (w : World) (h : MapAt w j mb nn S) :
    Calls Tryz.prog 83 #[.pointer (some ⟨j, 0, none⟩), .agg #[.int .i64 op, .int .i64 n, str s, .slice ao xn xc], .slice ko kn kc] w fun e w' => e = .returned (kerV (hasK S s)) ∧ Keeps (fun _ => False) w w' := by
  have HL := hide (led_start w #[.int .i64 op, .int .i64 n, str s, .slice ao xn xc] 29)
  have HN := hide (namedJ_led j mb nn S hS s hl h (unhide HL))
  have hk2 : kerV (hasK S s) = .tuple #[.agg #[.int .i64 2, .bool false], .int .i64 (orI (namedK S s).2 (optI ⟨(namedK S s).1.t, (namedK S s).1.o⟩))] := rfl
  rw [hk2]
  generalize (namedK S s).1.t = T at *
  generalize (namedK S s).1.o = O at *
  generalize (namedK S s).2 = E at *
  have hR : w.heap.size ≤ w.heap.size + 1 := Nat.le_succ _
  rw [← orL_two]
  clear hk2 h
  go_enter Tryz.func83, Tryz.ntmps83
  go_wp2_with (go_at_call 99; refine (unhide HN).mono ?_; rintro e w1 ⟨rfl, hl1⟩; have HLO := hide (lt_of_block hl1.res); have HB0 := hide (boxed w1 #[.int .i64 T, .bool O] 73); have HL := hide (hl1.keep ((Keeps.refl _ w1).alloc (.cells #[.int .i64 T, .bool O] 73))); clear hl1)
  have hb0 := unhide HB0
  have hxb := hb0.2.1
  have SK : ∀ w' : World, Keeps (fun _ => False) (w1.alloc (.cells #[.int .i64 T, .bool O] 73)) w' → w'.cell? ⟨w1.heap.size, 0, none⟩ = some (.int .i64 T) ∧ w'.cell? ⟨w1.heap.size, 1, none⟩ = some (.bool O) := fun w' hk =>
    ⟨(hk.cell hxb id).trans (hb0.2.2 0 (.int .i64 T) rfl), (hk.cell hxb id).trans (hb0.2.2 1 (.bool O) rfl)⟩
  have HSK := hide SK
  have HKB : Hid (Keeps (fun _ => False) (w1.alloc (.cells #[.int .i64 T, .bool O] 73)) (w1.alloc (.cells #[.int .i64 T, .bool O] 73))) := Keeps.refl _ _
  have hlo : w.heap.size + 1 < w1.heap.size := unhide HLO
  have hlo2 : w.heap.size + 1 < (w1.alloc (.cells #[.int .i64 T, .bool O] 73)).heap.size := Nat.lt_trans hlo hxb
  have hne : ¬ w1.heap.size = w.heap.size + 1 := by omega
  have d := unhide HSK (w1.alloc (.cells #[.int .i64 T, .bool O] 73)).drew (unhide HKB).drew
  clear SK hb0 HB0 HN
  go_region_held3 (fun w' => w'.cell? ⟨w1.heap.size, 0, none⟩ = some (.int .i64 T) ∧ w'.cell? ⟨w1.heap.size, 1, none⟩ = some (.bool O)) (first | with_reducible exact d | with_reducible exact unhide HSK _ (unhide HKB) | with_reducible exact unhide HSK _ ((unhide HKB).alloc _) | with_reducible exact t0)
    ((first
    | (go_at_call 98; refine (plain_v 2 _).mono ?_; rintro e w2 ⟨rfl, hk1⟩; have HL := hide ((unhide HL).keep ((Keeps.refl _ _).drew.trans hk1)); have HKB := hide ((unhide HKB).trans ((Keeps.refl _ _).drew.trans hk1)); clear hk1)
    | (go_at_call 101; refine (isOptional_v ⟨T, O⟩ _).mono ?_; rintro e w3 ⟨rfl, hk1⟩; have HL := hide ((unhide HL).keep hk1); have HKB := hide ((unhide HKB).trans hk1); clear hk1)
    | (go_at_call 100; refine (or_keep [E, optI ⟨T, O⟩] 2 rfl (by simp) _).mono ?_; rintro e w4 ⟨rfl, hk1⟩; have HL := hide ((unhide HL).keep hk1); have HKB := hide ((unhide HKB).trans hk1); have m0 := cell_of_blk (unhide HL).res 0; have m1 := cell_of_blk (unhide HL).res 1; simp at m0 m1; have g0 := frozen_of_blk (unhide HL).res 0; have g1 := frozen_of_blk (unhide HL).res 1; have hx4 := Nat.lt_of_lt_of_le hxb (unhide HKB).size; have t0 : ((w4.setCell ⟨w.heap.size + 1, 0, none⟩ (.int .i64 2)).setCell ⟨w.heap.size + 1, 1, none⟩ (.bool false)).cell? ⟨w1.heap.size, 0, none⟩ = some (.int .i64 T) ∧ ((w4.setCell ⟨w.heap.size + 1, 0, none⟩ (.int .i64 2)).setCell ⟨w.heap.size + 1, 1, none⟩ (.bool false)).cell? ⟨w1.heap.size, 1, none⟩ = some (.bool O) := ⟨((keeps_set2 w4 (w.heap.size + 1) _ _).cell hx4 hne).trans (unhide HSK _ (unhide HKB)).1, ((keeps_set2 w4 (w.heap.size + 1) _ _).cell hx4 hne).trans (unhide HSK _ (unhide HKB)).2⟩; clear hk1)))
  all_goals go_wp2_with fail
  all_goals (obtain ⟨⟨s0, s1, _⟩, _⟩ := set2 (unhide HL).res (.int .i64 2) (.bool false); refine bodyPost_ret (v := .tuple #[.agg #[.int .i64 2, .bool false], .int .i64 (orL [E, optI ⟨T, O⟩])]) (by simp [results, go_sem, s0, s1]) rfl ?_; exact ⟨rfl, (unhide HL).done (by omega) _ _⟩)
end Go.Proofs.YtljoacpaehmbdaaGreatDoor
