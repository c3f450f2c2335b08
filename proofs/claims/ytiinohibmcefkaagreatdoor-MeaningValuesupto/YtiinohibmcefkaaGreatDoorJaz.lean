import Derived.Test.YtiinohibmcefkaaGreatDoorKy
import Derived.Test.YtiinohibmcefkaaGreatDoorKr
import Derived.Test.YtiinohibmcefkaaGreatDoorJax
import Derived.Test.YtiinohibmcefkaaGreatDoorJab
import Derived.Test.YtiinohibmcefkaaGreatDoorJae
import Derived.Test.YtiinohibmcefkaaGreatDoorJaw
import Derived.Deep.RegionLaw
import Derived.Deep.AppendLies
import Derived.Test.YtiinohibmcefkaaGreatDoorJam
import Derived.Test.YtiinohibmcefkaaGreatDoorKq
import Derived.Test.YtiinohibmcefkaaGreatDoorKm
import Derived.Test.YtiinohibmcefkaaGreatDoorJao
namespace Go.Proofs.YtiinohibmcefkaaGreatDoor
open Go.RowKit Go.Maps

theorem refKind_v (Z : Zone) (S : List FieldA) (hS : schemaB S = true) (so : Option Addr) (sc : Nat) (N : Nat) : ∀ (l : EL), l.size < N → ∀ (op n : Int) (s : Txt) (w : World) (up : Nat) (v : Value), SlE Z w up v l → FldsAt w (.slice so S.length sc) S → rootB op n s l.len = true → wellE l = true →
    Calls Tryz.prog 87 #[.agg #[.slice so S.length sc], exV op n s v] w fun e w' => e = .returned (refV (zeroK (kindP S op s l))) ∧ Keeps (fun _ => False) w w' := by
  induction N with
  | zero => intro l h; omega
  | succ N ih =>
    intro l hsz op n s w up v hSl hf hroot hwell
    obtain ⟨m, r, rfl, hm25, hr, hrk, hl3, _⟩ := root_open hroot
    by_cases hm7 : 7 ≤ m
    · exact refKind_big Z S hS so sc l (fun l' hl' => ih l' (by omega)) m n s w up v hf hSl hroot hwell hm7
    · have hm1 : 1 ≤ m := by
        rcases Nat.eq_zero_or_pos m with h | h
        · subst h; cases hr
        · exact h
      have h0 : l.len = 0 := by
        have hb : rootB (m : Int) n s l.len = true := hroot
        unfold rootB at hb
        simp only [Bool.and_eq_true, decide_eq_true_eq] at hb
        have hk := hb.2.1
        unfold kidsB at hk
        rw [if_pos (by omega)] at hk
        omega
      obtain rfl := EL.len0 h0
      obtain ⟨ao, cap, rfl, _⟩ := hSl.head
      have hl8 : S.length ≤ 8 := by
        unfold schemaB at hS
        simp only [Bool.and_eq_true, decide_eq_true_eq] at hS
        exact hS.1.1.1.2
      rw [kindP_leaf]
      by_cases h45 : m = 4 ∨ m = 5
      · exact refKind_field S _ m n s ao _ cap w hf hl8 h45
      · exact refKind_lit S _ m n s ao _ cap w hf (by omega)

end Go.Proofs.YtiinohibmcefkaaGreatDoor
namespace Go.Proofs.YtiinohibmcefkaaGreatDoor
open Go.ChangeShapes Go.WideShapes Go.ChangeAt Go.RowKit Go.Deep

theorem gTypes : Tryz.prog.globalNamed "arbor/value.types" = some 0 := by kernel_rfl
theorem tTypes : (Tryz.prog.globals[0]?).map (·.type) = some 191 := by kernel_rfl

theorem c92 : Tryz.prog.cellsOf 190 = 2 := by kernel_rfl
theorem c93 : Tryz.prog.cellsOf 191 = 8 := by kernel_rfl

theorem types_el {W : World} {m : Nat} {a b : Value} {x : DataW Unit × List MemPlace} {s : Txt} {n : Int} (h : DataW.trod (fun _ => ()) Tryz.prog W 0 (fun _ => true) false m 190 [a, b] = some x) (hx : x.1 = .agg [.lit (.string s), .lit (.int .i64 n)]) : a = str s ∧ b = .int .i64 n := by
  obtain ⟨xs, k, _, rfl, hl, hlen, hf⟩ := DataW.trod_struct Tryz.underlying190 h
  match xs, hlen with
  | [y0, y1], _ =>
    have h0 : DataW.trod (fun _ => ()) Tryz.prog W 0 (fun _ => true) false k 9 (([a, b].drop 0).take (Tryz.prog.cellsOf 9)) = some y0 := hf 0 _ rfl
    have h1 : DataW.trod (fun _ => ()) Tryz.prog W 0 (fun _ => true) false k 3 (([a, b].drop 1).take (Tryz.prog.cellsOf 3)) = some y1 := hf 1 _ rfl
    rw [e9] at h0
    rw [e3] at h1
    obtain ⟨s', q0, hs', _⟩ := DataW.trod_string Tryz.underlying9 h0
    obtain ⟨n', q1, hn', _⟩ := DataW.trod_int Tryz.underlying3 h1
    simp only [DataW.agg.injEq, List.map_cons, List.map_nil, List.cons.injEq, and_true] at hx
    rw [hs', hn'] at hx
    simp at hx q0 q1
    rw [q0, q1, str_of, hx.1, hx.2]
    exact ⟨rfl, rfl⟩

set_option maxRecDepth 100000 in
theorem types_met {W : World} (h : laidMetH Tryz.prog [("arbor/value.types", Rows.laid_arbor_value_types)] W) : Types W := by
  rw [MakeChecks.laidMetH_plain _ _ _ (by kernel_rfl)] at h
  obtain ⟨ps, ⟨g0, t0, cs0, f0, p0, q0, hg0, ht0, hv0, hd0, _, _⟩, _, _⟩ := h
  obtain rfl := Option.some.inj (gTypes.symm.trans hg0)
  obtain rfl := Option.some.inj (tTypes.symm.trans ht0)
  obtain ⟨xs, m1, rfl, hx1, hlen, hn3, hel⟩ := DataW.trod_array Tryz.underlying191 hd0
  have q := fun j => World.var?_cell hg0 hv0 j
  obtain ⟨cl⟩ := cs0
  have hlen' : cl.length = 8 := hlen.trans c93
  have hel' : ∀ i, i < 4 → DataW.trod (fun _ => ()) Tryz.prog W 0 (fun _ => true) false m1 190 ((cl.drop (i * 2)).take 2) = xs[i]? := fun i hi => by
    have := hel i hi
    rw [c92] at this
    exact this
  clear hel hlen hd0
  match cl, hlen', xs, hn3 with
  | [c0, c1, c2, c3, c4, c5, c6, c7], _, [x0, x1, x2, x3], _ =>
    simp only [Prod.mk.injEq, Rows.laid_arbor_value_types, DataW.agg.injEq, List.map_cons, List.map_nil, List.cons.injEq, and_true] at hx1
    obtain ⟨⟨e0, e1, e2, e3⟩, _⟩ := hx1
    have h0 := types_el (hel' 0 (by decide)) e0.symm
    have h1 := types_el (hel' 1 (by decide)) e1.symm
    have h2 := types_el (hel' 2 (by decide)) e2.symm
    have h3 := types_el (hel' 3 (by decide)) e3.symm
    have hq0 := q 0
    have hlt : 0 < W.heap.size := by
      have := World.block_lt_of_cell? W ⟨0, 0, none⟩ (u := c0) (by rw [hq0]; rfl)
      exact this
    refine ⟨hlt, fun j x hx => ?_⟩
    rw [q j]
    obtain ⟨rfl, rfl⟩ := h0
    obtain ⟨rfl, rfl⟩ := h1
    obtain ⟨rfl, rfl⟩ := h2
    obtain ⟨rfl, rfl⟩ := h3
    exact hx

theorem types_of {W : World} {l : List (String × _)} (hl : l = [("arbor/value.types", Rows.laid_arbor_value_types), ("arbor/syntax.forms", Rows.laid_arbor_syntax_forms)]) (h : laidMetH Tryz.prog l W) : Types W ∧ Forms W := by
  subst hl
  have h1 := h.filter (fun x => x.1 == "arbor/value.types")
  have h2 := h.filter (fun x => x.1 == "arbor/syntax.forms")
  rw [show [("arbor/value.types", Rows.laid_arbor_value_types), ("arbor/syntax.forms", Rows.laid_arbor_syntax_forms)].filter (fun x => x.1 == "arbor/value.types") = [("arbor/value.types", Rows.laid_arbor_value_types)] by rfl] at h1
  rw [show [("arbor/value.types", Rows.laid_arbor_value_types), ("arbor/syntax.forms", Rows.laid_arbor_syntax_forms)].filter (fun x => x.1 == "arbor/syntax.forms") = [("arbor/syntax.forms", Rows.laid_arbor_syntax_forms)] by rfl] at h2
  exact ⟨types_met h1, forms_met h2⟩
theorem e4 : Tryz.prog.cellsOf 4 = 1 := by kernel_rfl
theorem e43 : Tryz.prog.cellsOf 47 = 3 := by kernel_rfl
theorem e24 : Tryz.prog.cellsOf 24 = 1 := by kernel_rfl
theorem b43 : Tryz.prog.bytesOf 47 = 32 := by kernel_rfl
section
variable {H : Type} {enc : TypeId × Value → H} {W : World}
set_option maxRecDepth 100000 in
theorem field_read {fuel : Nat} {cs : List Value} {x : DataW H × List MemPlace} (h : DataW.trod enc Tryz.prog W 0 (fun _ => true) true fuel 47 cs = some x) : ∃ f : FieldA, cs = f.cs := by
  obtain ⟨xs, m, hm, _, hl, hlen, hf⟩ := DataW.trod_struct Tryz.underlying47 h
  have hl' : cs.length = 3 := hl.trans e43
  match xs, hlen, cs, hl' with
  | [y0, y1, y2], _, [c0, c1, c2], _ =>
    have h0 : DataW.trod enc Tryz.prog W 0 (fun _ => true) true m 9 (([c0, c1, c2].drop 0).take (Tryz.prog.cellsOf 9)) = some y0 := hf 0 _ rfl
    have h1 : DataW.trod enc Tryz.prog W 0 (fun _ => true) true m 3 (([c0, c1, c2].drop 1).take (Tryz.prog.cellsOf 3)) = some y1 := hf 1 _ rfl
    have h2 : DataW.trod enc Tryz.prog W 0 (fun _ => true) true m 4 (([c0, c1, c2].drop 2).take (Tryz.prog.cellsOf 4)) = some y2 := hf 2 _ rfl
    rw [e9] at h0
    rw [e3] at h1
    rw [e4] at h2
    simp only [List.drop_zero, List.take_succ_cons, List.take_zero, List.drop_succ_cons] at h0 h1 h2
    obtain ⟨s, q0, _, _⟩ := DataW.trod_string Tryz.underlying9 h0
    obtain ⟨k, q1, _, _⟩ := DataW.trod_int Tryz.underlying3 h1
    obtain ⟨o, q2, _⟩ := DataW.trod_bool Tryz.underlying4 h2
    simp at q0 q1 q2
    exact ⟨⟨s.data.toList, k, o⟩, by rw [q0, q1, q2, str_of]; rfl⟩
end
end Go.Proofs.YtiinohibmcefkaaGreatDoor
namespace Go.Proofs.YtiinohibmcefkaaGreatDoor
open Go.ChangeShapes Go.WideShapes Go.ChangeAt Go.RowKit Go.Deep

instance : Inhabited FieldA := ⟨⟨[], 0, false⟩⟩
theorem fcs_at : ∀ (l : List FieldA) (j : Nat), (fcs l)[j]? = (l[j / 3]?).bind fun x => x.cs[j % 3]?
  | [], j => by simp [fcs]
  | y :: r, j => by
    have e : fcs (y :: r) = y.cs ++ fcs r := rfl
    have hy : y.cs.length = 3 := rfl
    rw [e]
    by_cases h : j < 3
    · rw [List.getElem?_append_left (by rw [hy]; exact h), Nat.div_eq_of_lt h, Nat.mod_eq_of_lt h]
      rfl
    · rw [List.getElem?_append_right (by rw [hy]; omega), hy, fcs_at r (j - 3)]
      have h1 : j / 3 = (j - 3) / 3 + 1 := by omega
      have h2 : j % 3 = (j - 3) % 3 := by omega
      rw [h1, h2]
      rfl
section
variable {H : Type} {enc : TypeId × Value → H} {W : World}
set_option maxRecDepth 100000 in
/-- The schema that came in, with a bound on its length by what it weighs. -/
theorem schema_in {fuel : Nat} {cs : List Value} {x : DataW H × List MemPlace} (h : DataW.trod enc Tryz.prog W 0 (fun _ => true) true fuel 24 cs = some x) (hw : ∀ n ∈ x.1.weights Tryz.prog 24, n ≤ reachBytes) :
    ∃ (sv : Value) (S : List FieldA), cs = [sv] ∧ FldsAt W sv S ∧ S.length ≤ 4398046511104 := by
  obtain ⟨xs, m, hm, hx, hl, hlen, hf⟩ := DataW.trod_struct Tryz.underlying24 h
  have hl' : cs.length = 1 := hl.trans e24
  match xs, hlen, cs, hl' with
  | [y0], _, [c0], _ =>
    have h0 : DataW.trod enc Tryz.prog W 0 (fun _ => true) true m 22 (([c0].drop 0).take (Tryz.prog.cellsOf 22)) = some y0 := hf 0 _ rfl
    rw [show Tryz.prog.cellsOf 22 = 1 by kernel_rfl] at h0
    simp only [List.drop_zero, List.take_succ_cons, List.take_zero] at h0
    refine ⟨c0, ?_⟩
    have hw0 : ∀ n ∈ y0.1.weights Tryz.prog 22, n ≤ reachBytes := fun n hn => hw n (by
      rw [hx]
      simp only [DataW.weights, Tryz.underlying24, List.map_cons, List.map_nil, DataW.weightsEach, List.append_nil]
      exact hn)
    have hsl := slice_read Tryz.underlying22 e43 (by omega) h0
    rcases DataW.trod_slice Tryz.underlying22 h0 with ⟨hcs, _⟩ | ⟨a, len, cap, elems, rest, n, hn, hcs, hxx, _, hlc, _, hel, _, _, _⟩
    · simp at hcs
      subst hcs
      exact ⟨[], rfl, ⟨⟨_, _, rfl⟩, fun h0 => by simp at h0, fun ao m cap e => by simp at e; omega⟩, by simp⟩
    · have hbound : len ≤ 4398046511104 := by
        have := hw0 ((elems.length + rest.length) * 32) (by
          rw [hxx]
          simp only [DataW.weights, Tryz.underlying22, List.length_map, b43]
          exact List.mem_cons_self ..)
        unfold reachBytes at this
        omega
      simp at hcs
      subst hcs
      rcases hsl with hn0 | ⟨b, off, len', cap', n', spot, he, hlc', _, hels⟩
      · cases hn0
      · obtain ⟨e1, e2, e3⟩ := Value.slice.inj he
        subst e2 e3
        have e1' := Option.some.inj e1
        subst e1'
        have hev : ∀ i, i < len → ∃ f : FieldA, ∀ j v, f.cs[j]? = some v → W.cell? ⟨b, off + i * 3 + j, none⟩ = some v := fun i hi => by
          obtain ⟨_, _, cs, y, hc, ht, _⟩ := hels i hi
          obtain ⟨f, rfl⟩ := field_read ht
          exact ⟨f, hc⟩
        obtain ⟨f, hff⟩ := choose_lt hev
        refine ⟨(List.range len).map f, rfl, ⟨⟨_, _, by simp; exact ⟨rfl, rfl⟩⟩, fun h0 => ?_, fun ao m cap e => by simp at e; omega⟩, by simpa using hbound⟩
        simp at h0
        obtain ⟨rfl, hb, _⟩ := hels 0 h0
        refine ⟨b, off, cap, by simp, hb, fun j v hv => ?_⟩
        rw [fcs_at] at hv
        cases hi : ((List.range len).map f)[j / 3]? with
        | none => rw [hi] at hv; cases hv
        | some p =>
          rw [hi] at hv
          have hil : j / 3 < len := by
            have := (List.getElem?_eq_some_iff.1 hi).1
            simpa using this
          have hpe : f (j / 3) = p := by simpa [hil] using hi
          have := hff (j / 3) hil (j % 3) v (by rw [hpe]; exact hv)
          rw [show off + j = off + j / 3 * 3 + j % 3 by omega]
          exact this
end
end Go.Proofs.YtiinohibmcefkaaGreatDoor
namespace Go.Proofs.YtiinohibmcefkaaGreatDoor
open Go.RowKit Go.Maps

/-- A value of a kind: of its type, or absent where it may be. -/
def FitK (k : KA) (v : ValA) : Prop := (goodV v ∧ v.kind = k.t) ∨ (k.o = true ∧ v = zV)
theorem FitK.plain {k : KA} {v : ValA} (h : FitK k v) (ho : k.o = false) : goodV v ∧ v.kind = k.t := by
  rcases h with h | ⟨h, _⟩
  · exact h
  · rw [ho] at h; cases h
theorem find_idx {S : List FieldA} {nm : Txt} {f : FieldA} (h : fieldOf S nm = some f) : S[placeP S nm]? = some f := by
  unfold fieldOf at h
  unfold placeP idxF
  cases hi : S.findIdx? (fun f => decide (f.name = nm)) with
  | none =>
    rw [List.findIdx?_eq_none_iff] at hi
    have := List.find?_some h
    have hm := List.mem_of_find?_eq_some h
    simp [hi f hm] at this
  | some i =>
    obtain ⟨hl, hp, hb⟩ := List.findIdx?_eq_some_iff_getElem.1 hi
    obtain ⟨hpf, pre, suf, hs, hn⟩ := List.find?_eq_some_iff_append.1 h
    have hi2 : pre.length = i := by
      rcases Nat.lt_trichotomy pre.length i with hlt | heq | hgt
      · have := hb pre.length hlt
        simp [hs] at this
        simp [this] at hpf
      · exact heq
      · have h1 := hn (pre[i]) (List.getElem_mem hgt)
        have h2 : S[i] = pre[i] := by
          simp only [hs]
          rw [List.getElem_append_left hgt]
        rw [h2] at hp
        simp [hp] at h1
    rw [← hi2]
    simp [hs]
theorem fits_kind {f : FieldA} {v : ValA} (h : fitsB f v = true) : FitK ⟨f.type, f.opt⟩ v := by
  by_cases h0 : v.kind = 0
  · unfold fitsB at h
    rw [if_pos h0] at h
    simp only [Bool.and_eq_true, decide_eq_true_eq] at h
    refine Or.inr ⟨h.1.1, ?_⟩
    obtain ⟨k, n, s⟩ := v
    simp only at h0 h
    simp [zV, h0, h.1.2, h.2]
  · obtain ⟨h1, h2⟩ := fits_good h h0
    exact Or.inl ⟨h1, h2⟩
theorem schema_types {S : List FieldA} (hS : schemaB S = true) {i : Nat} {f : FieldA} (hf : S[i]? = some f) : f.type = 1 ∨ f.type = 2 ∨ f.type = 3 := type_of (List.all_eq_true.1 (schemaB_ok hS) f (List.mem_of_getElem? hf))
theorem good_zero {t : Int} (h : t = 1 ∨ t = 2 ∨ t = 3) : goodV ⟨t, 0, []⟩ := by
  rcases h with rfl | rfl | rfl
  · exact Or.inl ⟨rfl, rfl⟩
  · exact Or.inr (Or.inl ⟨rfl, Or.inl rfl, rfl⟩)
  · exact Or.inr (Or.inr ⟨rfl, rfl, by simp⟩)
theorem zero_fit {f : FieldA} (h : f.type = 1 ∨ f.type = 2 ∨ f.type = 3) : FitK ⟨f.type, f.opt⟩ (zeroV f) := by
  unfold zeroV
  split
  · exact Or.inr ⟨‹_›, rfl⟩
  · exact Or.inl ⟨good_zero h, rfl⟩
/-- A row that fits the schema. -/
def RowFit (S : List FieldA) (h : Bool) (vals : List ValA) : Prop := if h then vals.length = S.length ∧ ∀ (i : Nat) f v, S[i]? = some f → vals[i]? = some v → fitsB f v = true else vals = []
theorem rowE_fit {S : List FieldA} {h : Bool} {vals : List ValA} (he : rowE S h vals = 0) : RowFit S h vals := by
  cases h with
  | false => exact rowE_nil he
  | true => exact rec_fits (rowE_true he).2
theorem field_fit {S : List FieldA} (hS : schemaB S = true) {h : Bool} {vals : List ValA} (hr : RowFit S h vals) {nm : Txt} {f : FieldA} (hf : fieldOf S nm = some f) : FitK ⟨f.type, f.opt⟩ (fieldV S h vals nm) := by
  have hp := find_idx hf
  unfold fieldV
  cases h with
  | true =>
    obtain ⟨hl, hv⟩ := hr
    have hlt := get_lt hp
    obtain ⟨v, hv1⟩ : ∃ v, vals[placeP S nm]? = some v := ⟨_, List.getElem?_eq_getElem (by omega)⟩
    simp only [if_true, hv1, Option.getD_some]
    exact fits_kind (hv _ f v hp hv1)
  | false =>
    have hz : (zeros S)[placeP S nm]? = some (zeroV f) := by unfold zeros; rw [List.getElem?_map, hp]; rfl
    simp only [Bool.false_eq_true, if_false, hz, Option.getD_some]
    exact zero_fit (schema_types hS hp)
theorem plain_zero {k : KA} {ts : List Int} (h : plainI k ts = 0) : ts.contains k.t = true ∧ k.o = false := by
  unfold plainI orI ofI at h
  by_cases hc : ts.contains k.t
  · rw [if_pos hc] at h
    simp only [if_true] at h
    refine ⟨hc, ?_⟩
    cases ho : k.o with
    | false => rfl
    | true => rw [ho] at h; simp at h
  · rw [if_neg hc] at h
    simp at h
theorem orI_zero {a b : Int} (h : orI a b = 0) : a = 0 ∧ b = 0 := by
  unfold orI at h
  split at h
  · exact ⟨‹_›, h⟩
  · exact absurd h ‹_›
/-- Values of kinds. -/
inductive FitL : List KA → List ValA → Prop
  | nil : FitL [] []
  | cons {k : KA} {v : ValA} {ks : List KA} {vs : List ValA} (h : FitK k v) (t : FitL ks vs) : FitL (k :: ks) (v :: vs)
theorem takesK_zero {is : Int} {ts : List Int} {ks : List KA} (h : (takesK is ts ks).2 = 0) : takesI ks ts = 0 ∧ (takesK is ts ks).1 = ⟨is, false⟩ := by
  unfold takesK at h ⊢
  split at h
  · rename_i h1
    rw [if_pos h1]
    exact ⟨h1, rfl⟩
  · exact absurd h ‹_›
theorem fit_num (n : Int) : FitK ⟨1, false⟩ (numV n) := Or.inl ⟨good_num n, rfl⟩
theorem fit_tru (b : Bool) : FitK ⟨2, false⟩ (truV b) := Or.inl ⟨good_tru b, rfl⟩
theorem fit_byt {s : Txt} (h : s.length ≤ 20) : FitK ⟨3, false⟩ (bytV s) := Or.inl ⟨good_byt h, rfl⟩
/-- An operation on values of the kinds that it takes gives one of its own. -/
theorem op_fit (S : List FieldA) (o : Nat) (s : Txt) (h7 : 7 ≤ o) (h25 : o ≤ 25) {ks : List KA} {vs : List ValA} (hf : FitL ks vs) (hl : (ks.length : Int) = kidsB o) (hr : (ruleP S o s ks).2 = 0) : FitK (ruleP S o s ks).1 (opV o vs) := by
  have two : ∀ {a b : KA} {x y : ValA}, FitL [a, b] [x, y] → FitK a x ∧ FitK b y := fun h => by cases h with | cons h1 h2 => cases h2 with | cons h3 _ => exact ⟨h1, h3⟩
  rcases (show o = 7 ∨ o = 8 ∨ o = 9 ∨ o = 10 ∨ o = 11 ∨ o = 12 ∨ o = 13 ∨ o = 14 ∨ o = 15 ∨ o = 16 ∨ o = 17 ∨ o = 18 ∨ o = 19 ∨ o = 20 ∨ o = 21 ∨ o = 22 ∨ o = 23 ∨ o = 24 ∨ o = 25 by omega) with rfl | rfl | rfl | rfl | rfl | rfl | rfl | rfl | rfl | rfl | rfl | rfl | rfl | rfl | rfl | rfl | rfl | rfl | rfl
  · have e := (takesK_zero (show (takesK 2 [2] ks).2 = 0 from hr)).2
    show FitK (takesK 2 [2] ks).1 _
    rw [e]; exact fit_tru _
  · have e := (takesK_zero (show (takesK 1 [1] ks).2 = 0 from hr)).2
    show FitK (takesK 1 [1] ks).1 _
    rw [e]; exact fit_num _
  iterate 3
    · have e := (takesK_zero (show (takesK 1 [1, 1] ks).2 = 0 from hr)).2
      show FitK (takesK 1 [1, 1] ks).1 _
      rw [e]; exact fit_num _
  iterate 4 exact fit_tru _
  iterate 2 exact fit_tru _
  iterate 2
    · have e := (takesK_zero (show (takesK 2 [2, 2] ks).2 = 0 from hr)).2
      show FitK (takesK 2 [2, 2] ks).1 _
      rw [e]; exact fit_tru _
  · have hk2 : ks.length = 2 := by have : kidsB ((20 : Nat) : Int) = 2 := by decide
                                   omega
    obtain ⟨a, b, rfl⟩ := list2x hk2
    cases hf with | cons h1 h2 => cases h2 with | cons h3 h4 => cases h4 with | nil =>
      rename_i x y
      obtain ⟨q1, q2⟩ := orI_zero (show orI (optI a) (plainI b [a.t]) = 0 from hr)
      obtain ⟨q3, q4⟩ := plain_zero q2
      have hb := h3.plain q4
      have hbt : b.t = a.t := by simpa using q3
      show FitK ⟨a.t, false⟩ (if x.kind = 0 then y else x)
      split
      · exact Or.inl ⟨hb.1, by rw [hb.2, hbt]⟩
      · rename_i hx
        rcases h1 with ⟨g1, g2⟩ | ⟨_, rfl⟩
        · exact Or.inl ⟨g1, g2⟩
        · exact absurd rfl hx
  iterate 2
    · have e := (takesK_zero (show (takesK 1 [1, 1] ks).2 = 0 from hr)).2
      show FitK (takesK 1 [1, 1] ks).1 _
      rw [e]; exact fit_num _
  · have e := (takesK_zero (show (takesK 1 [3] ks).2 = 0 from hr)).2
    show FitK (takesK 1 [3] ks).1 _
    rw [e]; exact fit_num _
  · have e := (takesK_zero (show (takesK 3 [3, 3] ks).2 = 0 from hr)).2
    show FitK (takesK 3 [3, 3] ks).1 _
    rw [e]; exact fit_byt (cat_len _ _)
  · have hk3 : ks.length = 3 := by have : kidsB ((25 : Nat) : Int) = 3 := by decide
                                   omega
    obtain ⟨c, a, b, rfl⟩ := list3x hk3
    cases hf with | cons h1 h2 => cases h2 with | cons h3 h4 => cases h4 with | cons h5 h6 => cases h6 with | nil =>
      rename_i z x y
      obtain ⟨q1, q2⟩ := orI_zero (show orI (plainI c [2]) (orI (plainI a [a.t]) (plainI b [a.t])) = 0 from hr)
      obtain ⟨q3, q4⟩ := orI_zero q2
      obtain ⟨_, qa⟩ := plain_zero q3
      obtain ⟨qb, qc⟩ := plain_zero q4
      have hbt : b.t = a.t := by simpa using qb
      have ha := h3.plain qa
      have hb := h5.plain qc
      show FitK ⟨a.t, false⟩ (if z.n = 1 then x else y)
      split
      · exact Or.inl ha
      · exact Or.inl ⟨hb.1, by rw [hb.2, hbt]⟩
theorem FitL.len {ks : List KA} {vs : List ValA} (h : FitL ks vs) : ks.length = vs.length := by
  induction h with
  | nil => rfl
  | cons _ _ ih => simp [ih]
theorem leaf_fit {S : List FieldA} (hS : schemaB S = true) {h : Bool} {vals : List ValA} (hr : RowFit S h vals) {o : Nat} {n : Int} {s : Txt} (h1 : 1 ≤ o) (h6 : o ≤ 6) (hs : o = 3 → s.length ≤ 20) (hk : (ruleP S o s []).2 = 0) : FitK (ruleP S o s []).1 (leafV S h vals o n s) := by
  rcases (show o = 1 ∨ o = 2 ∨ o = 3 ∨ o = 4 ∨ o = 5 ∨ o = 6 by omega) with rfl | rfl | rfl | rfl | rfl | rfl
  · exact fit_num _
  · exact fit_tru _
  · exact fit_byt (hs rfl)
  · have hk' : (namedK S s).2 = 0 := hk
    show FitK (namedK S s).1 (fieldV S h vals s)
    unfold namedK at hk' ⊢
    cases hf : fieldOf S s with
    | none => rw [hf] at hk'; simp at hk'
    | some f => exact field_fit hS hr hf
  · exact fit_tru _
  · exact fit_tru _
theorem vals_fit {S : List FieldA} (hS : schemaB S = true) {h : Bool} {vals : List ValA} (hr : RowFit S h vals) : ∀ l : EL, wellE l = true → (kindsP S l).2 = 0 → FitL (kindsP S l).1 (valsP S h vals l)
  | .nil, _, _ => FitL.nil
  | .cons op n s kids rest, hw, hk => by
    simp only [wellE, Bool.and_eq_true] at hw
    rw [kindsP_cons] at hk ⊢
    by_cases h1 : (kindP S op s kids).2 = 0
    · by_cases h2 : (kindsP S rest).2 = 0
      · simp only [h1, h2, ne_eq, not_true_eq_false, if_false]
        rw [valsP_cons]
        refine FitL.cons ?_ (vals_fit hS hr rest hw.2.2 h2)
        have hroot := hw.1
        unfold rootB at hroot
        simp only [Bool.and_eq_true, decide_eq_true_eq] at hroot
        obtain ⟨o, rfl, ho1, ho25, _⟩ := kidsB_range op hroot.1
        unfold kindP at h1 ⊢
        by_cases h3 : (kindsP S kids).2 = 0
        · simp only [h3, ne_eq, not_true_eq_false, if_false] at h1 ⊢
          have ih := vals_fit hS hr kids hw.2.1 h3
          have hlen := kindsP_len S kids h3
          unfold nodeV
          by_cases h6 : (o : Int) ≤ 6
          · rw [if_pos h6]
            have hk0 : kids = .nil := EL.len0 (by
              have : kidsB (o : Int) = 0 := by unfold kidsB; rw [if_pos (by omega)]
              omega)
            subst hk0
            exact leaf_fit hS hr ho1 (by omega) (fun e => root_text hw.1 (by omega)) h1
          · rw [if_neg h6]
            exact op_fit S o s (by omega) ho25 ih (by rw [hlen]; exact hroot.2.1) h1
        · simp [h3] at h1
      · simp [h1, h2] at hk
    · simp [h1] at hk
end Go.Proofs.YtiinohibmcefkaaGreatDoor
namespace Go.Proofs.YtiinohibmcefkaaGreatDoor
open Go.RowKit Go.Maps

theorem named_some {S : List FieldA} {f : Txt} (h : (namedK S f).2 = 0) : ∃ fd, fieldOf S f = some fd ∧ namedK S f = (⟨fd.type, fd.opt⟩, 0) := by
  unfold namedK at h ⊢
  cases hf : fieldOf S f with
  | none => rw [hf] at h; simp at h
  | some fd => exact ⟨fd, rfl, rfl⟩
end Go.Proofs.YtiinohibmcefkaaGreatDoor
