import Derived.Test.YtjhppnecadnekaaDoorJv
import Derived.Test.YtjhppnecadnekaaDoorMc
import Derived.Test.YtjhppnecadnekaaDoorNc
import Derived.Test.YtjhppnecadnekaaDoorKz
namespace Go.Proofs.YtjhppnecadnekaaDoor
open Go.ChangeShapes Go.WideShapes Go.ChangeAt Go.RowKit Go.Deep

theorem gTypes : Tryd.prog.globalNamed "arbor/value.types" = some 0 := by kernel_rfl
theorem tTypes : (Tryd.prog.globals[0]?).map (·.type) = some 117 := by kernel_rfl

theorem c92 : Tryd.prog.cellsOf 116 = 2 := by kernel_rfl
theorem c93 : Tryd.prog.cellsOf 117 = 8 := by kernel_rfl

theorem types_el {W : World} {m : Nat} {a b : Value} {x : DataW Unit × List MemPlace} {s : Txt} {n : Int} (h : DataW.trod (fun _ => ()) Tryd.prog W 0 (fun _ => true) false m 116 [a, b] = some x) (hx : x.1 = .agg [.lit (.string s), .lit (.int .i64 n)]) : a = str s ∧ b = .int .i64 n := by
  obtain ⟨xs, k, _, rfl, hl, hlen, hf⟩ := DataW.trod_struct Tryd.underlying116 h
  match xs, hlen with
  | [y0, y1], _ =>
    have h0 : DataW.trod (fun _ => ()) Tryd.prog W 0 (fun _ => true) false k 9 (([a, b].drop 0).take (Tryd.prog.cellsOf 9)) = some y0 := hf 0 _ rfl
    have h1 : DataW.trod (fun _ => ()) Tryd.prog W 0 (fun _ => true) false k 3 (([a, b].drop 1).take (Tryd.prog.cellsOf 3)) = some y1 := hf 1 _ rfl
    rw [e9] at h0
    rw [e3] at h1
    obtain ⟨s', q0, hs', _⟩ := DataW.trod_string Tryd.underlying9 h0
    obtain ⟨n', q1, hn', _⟩ := DataW.trod_int Tryd.underlying3 h1
    simp only [DataW.agg.injEq, List.map_cons, List.map_nil, List.cons.injEq, and_true] at hx
    rw [hs', hn'] at hx
    simp at hx q0 q1
    rw [q0, q1, str_of, hx.1, hx.2]
    exact ⟨rfl, rfl⟩

set_option maxRecDepth 100000 in
theorem types_met {W : World} (h : laidMetH Tryd.prog [("arbor/value.types", Rows.laid_arbor_value_types)] W) : Types W := by
  rw [MakeChecks.laidMetH_plain _ _ _ (by kernel_rfl)] at h
  obtain ⟨ps, ⟨g0, t0, cs0, f0, p0, q0, hg0, ht0, hv0, hd0, _, _⟩, _, _⟩ := h
  obtain rfl := Option.some.inj (gTypes.symm.trans hg0)
  obtain rfl := Option.some.inj (tTypes.symm.trans ht0)
  obtain ⟨xs, m1, rfl, hx1, hlen, hn3, hel⟩ := DataW.trod_array Tryd.underlying117 hd0
  have q := fun j => World.var?_cell hg0 hv0 j
  obtain ⟨cl⟩ := cs0
  have hlen' : cl.length = 8 := hlen.trans c93
  have hel' : ∀ i, i < 4 → DataW.trod (fun _ => ()) Tryd.prog W 0 (fun _ => true) false m1 116 ((cl.drop (i * 2)).take 2) = xs[i]? := fun i hi => by
    have := hel i hi
    rw [c92] at this
    exact this
  clear hel hlen hd0
  match cl, hlen', xs, hn3 with
  | [c0, c1, c2, c3, c4, c5, c6, c7], _, [x0, x1, x2, x3], _ =>
    simp only [Prod.mk.injEq, Rows.laid_arbor_value_types, DataW.agg.injEq, List.map_cons, List.map_nil, List.cons.injEq, and_true] at hx1
    obtain ⟨⟨e0, e1, e2, e3⟩, _⟩ := hx1
    have h0 := types_el (hel' 0 (by decide)) e0.symm
    have h1 := types_el (hel' 1 (by decide)) e1.symm
    have h2 := types_el (hel' 2 (by decide)) e2.symm
    have h3 := types_el (hel' 3 (by decide)) e3.symm
    have hq0 := q 0
    have hlt : 0 < W.heap.size := by
      have := World.block_lt_of_cell? W ⟨0, 0, none⟩ (u := c0) (by rw [hq0]; rfl)
      exact this
    refine ⟨hlt, fun j x hx => ?_⟩
    rw [q j]
    obtain ⟨rfl, rfl⟩ := h0
    obtain ⟨rfl, rfl⟩ := h1
    obtain ⟨rfl, rfl⟩ := h2
    obtain ⟨rfl, rfl⟩ := h3
    exact hx

theorem types_of {W : World} {l : List (String × _)} (hl : l = [("arbor/value.types", Rows.laid_arbor_value_types), ("arbor/syntax.forms", Rows.laid_arbor_syntax_forms)]) (h : laidMetH Tryd.prog l W) : Types W ∧ Forms W := by
  subst hl
  have h1 := h.filter (fun x => x.1 == "arbor/value.types")
  have h2 := h.filter (fun x => x.1 == "arbor/syntax.forms")
  rw [show [("arbor/value.types", Rows.laid_arbor_value_types), ("arbor/syntax.forms", Rows.laid_arbor_syntax_forms)].filter (fun x => x.1 == "arbor/value.types") = [("arbor/value.types", Rows.laid_arbor_value_types)] by rfl] at h1
  rw [show [("arbor/value.types", Rows.laid_arbor_value_types), ("arbor/syntax.forms", Rows.laid_arbor_syntax_forms)].filter (fun x => x.1 == "arbor/syntax.forms") = [("arbor/syntax.forms", Rows.laid_arbor_syntax_forms)] by rfl] at h2
  exact ⟨types_met h1, forms_met h2⟩
theorem e4 : Tryd.prog.cellsOf 4 = 1 := by kernel_rfl
theorem e43 : Tryd.prog.cellsOf 45 = 3 := by kernel_rfl
theorem e24 : Tryd.prog.cellsOf 24 = 1 := by kernel_rfl
theorem b43 : Tryd.prog.bytesOf 45 = 32 := by kernel_rfl
section
variable {H : Type} {enc : TypeId × Value → H} {W : World}
set_option maxRecDepth 100000 in
theorem field_read {fuel : Nat} {cs : List Value} {x : DataW H × List MemPlace} (h : DataW.trod enc Tryd.prog W 0 (fun _ => true) true fuel 45 cs = some x) : ∃ f : FieldA, cs = f.cs := by
  obtain ⟨xs, m, hm, _, hl, hlen, hf⟩ := DataW.trod_struct Tryd.underlying45 h
  have hl' : cs.length = 3 := hl.trans e43
  match xs, hlen, cs, hl' with
  | [y0, y1, y2], _, [c0, c1, c2], _ =>
    have h0 : DataW.trod enc Tryd.prog W 0 (fun _ => true) true m 9 (([c0, c1, c2].drop 0).take (Tryd.prog.cellsOf 9)) = some y0 := hf 0 _ rfl
    have h1 : DataW.trod enc Tryd.prog W 0 (fun _ => true) true m 3 (([c0, c1, c2].drop 1).take (Tryd.prog.cellsOf 3)) = some y1 := hf 1 _ rfl
    have h2 : DataW.trod enc Tryd.prog W 0 (fun _ => true) true m 4 (([c0, c1, c2].drop 2).take (Tryd.prog.cellsOf 4)) = some y2 := hf 2 _ rfl
    rw [e9] at h0
    rw [e3] at h1
    rw [e4] at h2
    simp only [List.drop_zero, List.take_succ_cons, List.take_zero, List.drop_succ_cons] at h0 h1 h2
    obtain ⟨s, q0, _, _⟩ := DataW.trod_string Tryd.underlying9 h0
    obtain ⟨k, q1, _, _⟩ := DataW.trod_int Tryd.underlying3 h1
    obtain ⟨o, q2, _⟩ := DataW.trod_bool Tryd.underlying4 h2
    simp at q0 q1 q2
    exact ⟨⟨s.data.toList, k, o⟩, by rw [q0, q1, q2, str_of]; rfl⟩
end
end Go.Proofs.YtjhppnecadnekaaDoor
namespace Go.Proofs.YtjhppnecadnekaaDoor
open Go.ChangeShapes Go.WideShapes Go.ChangeAt Go.RowKit Go.Deep

instance : Inhabited FieldA := ⟨⟨[], 0, false⟩⟩
theorem fcs_at : ∀ (l : List FieldA) (j : Nat), (fcs l)[j]? = (l[j / 3]?).bind fun x => x.cs[j % 3]?
  | [], j => by simp [fcs]
  | y :: r, j => by
    have e : fcs (y :: r) = y.cs ++ fcs r := rfl
    have hy : y.cs.length = 3 := rfl
    rw [e]
    by_cases h : j < 3
    · rw [List.getElem?_append_left (by rw [hy]; exact h), Nat.div_eq_of_lt h, Nat.mod_eq_of_lt h]
      rfl
    · rw [List.getElem?_append_right (by rw [hy]; omega), hy, fcs_at r (j - 3)]
      have h1 : j / 3 = (j - 3) / 3 + 1 := by omega
      have h2 : j % 3 = (j - 3) % 3 := by omega
      rw [h1, h2]
      rfl
section
variable {H : Type} {enc : TypeId × Value → H} {W : World}
set_option maxRecDepth 100000 in
/-- The schema that came in, with a bound on its length by what it weighs. -/
theorem schema_in {fuel : Nat} {cs : List Value} {x : DataW H × List MemPlace} (h : DataW.trod enc Tryd.prog W 0 (fun _ => true) true fuel 24 cs = some x) (hw : ∀ n ∈ x.1.weights Tryd.prog 24, n ≤ reachBytes) :
    ∃ (sv : Value) (S : List FieldA), cs = [sv] ∧ FldsAt W sv S ∧ S.length ≤ 4398046511104 := by
  obtain ⟨xs, m, hm, hx, hl, hlen, hf⟩ := DataW.trod_struct Tryd.underlying24 h
  have hl' : cs.length = 1 := hl.trans e24
  match xs, hlen, cs, hl' with
  | [y0], _, [c0], _ =>
    have h0 : DataW.trod enc Tryd.prog W 0 (fun _ => true) true m 22 (([c0].drop 0).take (Tryd.prog.cellsOf 22)) = some y0 := hf 0 _ rfl
    rw [show Tryd.prog.cellsOf 22 = 1 by kernel_rfl] at h0
    simp only [List.drop_zero, List.take_succ_cons, List.take_zero] at h0
    refine ⟨c0, ?_⟩
    have hw0 : ∀ n ∈ y0.1.weights Tryd.prog 22, n ≤ reachBytes := fun n hn => hw n (by
      rw [hx]
      simp only [DataW.weights, Tryd.underlying24, List.map_cons, List.map_nil, DataW.weightsEach, List.append_nil]
      exact hn)
    have hsl := slice_read Tryd.underlying22 e43 (by omega) h0
    rcases DataW.trod_slice Tryd.underlying22 h0 with ⟨hcs, _⟩ | ⟨a, len, cap, elems, rest, n, hn, hcs, hxx, _, hlc, _, hel, _, _, _⟩
    · simp at hcs
      subst hcs
      exact ⟨[], rfl, ⟨⟨_, _, rfl⟩, fun h0 => by simp at h0, fun ao m cap e => by simp at e; omega⟩, by simp⟩
    · have hbound : len ≤ 4398046511104 := by
        have := hw0 ((elems.length + rest.length) * 32) (by
          rw [hxx]
          simp only [DataW.weights, Tryd.underlying22, List.length_map, b43]
          exact List.mem_cons_self ..)
        unfold reachBytes at this
        omega
      simp at hcs
      subst hcs
      rcases hsl with hn0 | ⟨b, off, len', cap', n', spot, he, hlc', _, hels⟩
      · cases hn0
      · obtain ⟨e1, e2, e3⟩ := Value.slice.inj he
        subst e2 e3
        have e1' := Option.some.inj e1
        subst e1'
        have hev : ∀ i, i < len → ∃ f : FieldA, ∀ j v, f.cs[j]? = some v → W.cell? ⟨b, off + i * 3 + j, none⟩ = some v := fun i hi => by
          obtain ⟨_, _, cs, y, hc, ht, _⟩ := hels i hi
          obtain ⟨f, rfl⟩ := field_read ht
          exact ⟨f, hc⟩
        obtain ⟨f, hff⟩ := choose_lt hev
        refine ⟨(List.range len).map f, rfl, ⟨⟨_, _, by simp; exact ⟨rfl, rfl⟩⟩, fun h0 => ?_, fun ao m cap e => by simp at e; omega⟩, by simpa using hbound⟩
        simp at h0
        obtain ⟨rfl, hb, _⟩ := hels 0 h0
        refine ⟨b, off, cap, by simp, hb, fun j v hv => ?_⟩
        rw [fcs_at] at hv
        cases hi : ((List.range len).map f)[j / 3]? with
        | none => rw [hi] at hv; cases hv
        | some p =>
          rw [hi] at hv
          have hil : j / 3 < len := by
            have := (List.getElem?_eq_some_iff.1 hi).1
            simpa using this
          have hpe : f (j / 3) = p := by simpa [hil] using hi
          have := hff (j / 3) hil (j % 3) v (by rw [hpe]; exact hv)
          rw [show off + j = off + j / 3 * 3 + j % 3 by omega]
          exact this
end
end Go.Proofs.YtjhppnecadnekaaDoor
namespace Go.Proofs.YtjhppnecadnekaaDoor
open Go.RowKit Go.Maps

set_option maxRecDepth 100000 in
set_option maxHeartbeats 1000000 in
theorem find_v (S : List FieldA) (sv : Value) (nm : Txt) (w : World) (h : FldsAt w sv S) (hl : S.length ≤ 8) :
    Calls Tryd.prog 51 #[.agg #[sv], str nm] w fun e w' => (∃ i : Int, e = .returned (.int .i64 i) ∧ ((fieldOf S nm = none ∧ i = -1) ∨ ∃ (k : Nat) (f : FieldA), S[k]? = some f ∧ fieldOf S nm = some f ∧ i = k)) ∧ Keeps (fun _ => False) w w' := by
  obtain ⟨ao, cap, rfl⟩ := RowAt.form h
  obtain ⟨HB, hxb, hxc⟩ := boxed w #[.slice ao S.length cap] 24
  have c0 := hxc 0 (.slice ao S.length cap) rfl
  have HF := hide (h.keepF (unhide HB))
  clear h hxc
  go_enter Tryd.func51, Tryd.ntmps51
  go_wp2_with fail
  go_loopw [5] (fun i wr => ∃ k : Nat, k ≤ S.length ∧ i = .int .i64 k ∧ Hid (fieldOf S nm = fieldOf (S.drop k) nm) ∧ wr = w.alloc (.cells #[.slice ao S.length cap] 24)) (fun i _ => S.length - (intOf i).toNat)
  case atStart => exact ⟨0, Nat.zero_le _, rfl, by simp [Hid], rfl⟩
  case round =>
    obtain ⟨k, hk, rfl, HS, rfl⟩ := hrel
    cases h : S[k]? with
    | none =>
      have h1 := get_ge h
      obtain rfl : k = S.length := by omega
      clear h h1
      rw [List.drop_length] at HS
      have i1 : ¬ (S.length : Int) < (S.length : Int) := by omega
      go_wp2_with fail
      go_ret
      exact ⟨⟨_, rfl, Or.inl ⟨unhide HS, rfl⟩⟩, unhide HB⟩
    | some f =>
      have h1 := get_lt h
      obtain ⟨b, off, c, e, hbl, hc⟩ := (unhide HF).cells (by omega)
      simp at e
      obtain ⟨rfl, rfl⟩ := e
      have q0 := (hc k f h).1
      have HO : Hid (fieldOf (S.drop k) nm = if f.name = nm then some f else fieldOf (S.drop (k + 1)) nm) := by
        obtain ⟨hk', hx⟩ := List.getElem?_eq_some_iff.1 h
        show _ = _
        rw [List.drop_eq_getElem_cons hk', hx]
        unfold fieldOf
        rw [List.find?_cons]
        by_cases hn : f.name = nm
        · simp [hn]
        · simp [hn]
      have HH := hide h
      clear h hc
      have i1 : (k : Int) < (S.length : Int) := by omega
      have i0 : (0 : Int) ≤ (k : Int) := by omega
      go_wp2
      case roundEnd =>
        rename_i hne
        have hne' : ¬ f.name = nm := by simpa using hne
        go_roundw
        case rel => exact ⟨k + 1, by omega, by go_num, (unhide HS).trans ((unhide HO).trans (if_neg hne')), by trivial⟩
        case measure => simp [intOf]; omega
      rename_i hne
      have hne' : f.name = nm := by simpa using hne
      go_ret
      exact ⟨⟨_, rfl, Or.inr ⟨k, f, unhide HH, (unhide HS).trans ((unhide HO).trans (if_pos hne')), rfl⟩⟩, unhide HB⟩
/-- A row's values, with all optional fields there, or away. -/
def rowV (S : List FieldA) (p : Bool) : List ValA := S.map fun f => if f.opt && !p then ⟨0, 0, []⟩ else ⟨f.type, 0, []⟩
set_option maxRecDepth 100000 in
set_option maxHeartbeats 2000000 in
theorem row_v (S : List FieldA) (sv : Value) (p : Bool) (w : World) (h : FldsAt w sv S) (hl : S.length ≤ 8) :
    Calls Tryd.prog 12 #[.agg #[sv], .bool p] w fun e w' => ∃ ao cap, e = .returned (.slice ao S.length cap) ∧ RowAt w' (.slice ao S.length cap) S.length (vcs (rowV S p)) ∧ Keeps (fun _ => False) w w' := by
  obtain ⟨so, sc, rfl⟩ := RowAt.form h
  obtain ⟨i0, hi, hz0, hz1, hz2⟩ := info_parts Tryd.info60
  obtain ⟨HB, hxb, hxc⟩ := boxed w #[.slice so S.length sc] 24
  have E1 : Hid ((w.alloc (.cells #[.slice so S.length sc] 24)).heap.size = w.heap.size + 1) := by show _ = _; simp
  have y0 := hxc 0 (.slice so S.length sc) rfl
  have HY := hide y0
  have HF := hide (h.keepF (unhide HB))
  clear h hxc
  go_enter Tryd.func12, Tryd.ntmps12
  go_wp2_with fail
  go_loopw [5, 6] (fun o i wr => ∃ k : Nat, k ≤ S.length ∧ i = .int .i64 k ∧ wr.ownsRow (w.heap.size + 1) 60 3 o k (vcs ((rowV S p).take k)) ∧ Keeps (fun _ => False) (w.alloc (.cells #[.slice so S.length sc] 24)) wr) (fun _ i _ => S.length - (intOf i).toNat)
  case atStart => exact ⟨0, Nat.zero_le _, rfl, World.ownsRow_nil _ _ 60 3, Keeps.refl _ _⟩
  case round =>
    obtain ⟨k, hk, rfl, hown, hkb⟩ := hrel
    obtain ⟨oo, oc, rfl⟩ := (rowAt_own hown).form
    have y1 := (hkb.cell hxb id).trans (unhide HY)
    have HO := hide hown
    have HKB := hide hkb
    have hsz : w.heap.size + 1 ≤ wr.heap.size := by have := hkb.size; rw [unhide E1] at this; exact this
    clear y0 hown
    cases h : S[k]? with
    | none =>
      have h1 := get_ge h
      obtain rfl : k = S.length := by omega
      have i1 : ¬ (S.length : Int) < (S.length : Int) := by omega
      clear h h1 hkb
      go_wp2_with fail
      go_ret
      have hr := rowAt_own (unhide HO)
      rw [show (rowV S p).take S.length = rowV S p from List.take_of_length_le (by simp [rowV])] at hr
      exact ⟨oo, oc, rfl, hr, (unhide HB).trans (unhide HKB)⟩
    | some f =>
      have h1 := get_lt h
      obtain ⟨b, off, c, e, hbl, hc⟩ := (unhide HF).cells (by omega)
      simp at e
      obtain ⟨rfl, rfl⟩ := e
      obtain ⟨fname, ftype, fopt⟩ := f
      have q1 := (hkb.cell hbl id).trans (hc k _ h).2.1
      have q2 := (hkb.cell hbl id).trans (hc k _ h).2.2
      have hblr : b < wr.heap.size := Nat.lt_of_lt_of_le hbl hkb.size
      have y2 := cell_past (show w.heap.size < wr.heap.size by omega) y1 (.cells #[.int .i64 ftype, .int .i64 0, .string ⟨#[]⟩] 60)
      have q3 := cell_past hblr q2 (.cells #[.int .i64 ftype, .int .i64 0, .string ⟨#[]⟩] 60)
      have i1 : (k : Int) < (S.length : Int) := by omega
      have ix0 : (0 : Int) ≤ (k : Int) := by omega
      have hv : (rowV S p)[k]? = some (if fopt && !p then ⟨0, 0, []⟩ else ⟨ftype, 0, []⟩) := by simp [rowV, h]
      have HTK := hide (take_snoc _ _ _ hv)
      clear h hc hkb hv
      cases fopt with
      | false =>
        simp only [Bool.false_and, Bool.false_eq_true, if_false] at HTK
        have hk1 : Keeps (fun _ => False) wr ((wr.alloc (.cells #[.int .i64 ftype, .int .i64 0, .string ⟨#[]⟩] 60)).alloc (.cells #[.int .i64 ftype, .int .i64 0, .string ⟨#[]⟩] 60)) := ((Keeps.refl _ wr).alloc _).alloc _
        have HOX := hide (ownsRow_kept (unhide HO) hk1 (fun _ _ => id))
        have HNB : Hid (((wr.alloc (.cells #[.int .i64 ftype, .int .i64 0, .string ⟨#[]⟩] 60)).alloc (.cells #[.int .i64 ftype, .int .i64 0, .string ⟨#[]⟩] 60)).heap[wr.heap.size + 1]? = some (.cells #[.int .i64 ftype, .int .i64 0, .string ⟨#[]⟩] 60 (0, 0))) := by
          have h := heap_alloc_new (wr.alloc (.cells #[.int .i64 ftype, .int .i64 0, .string ⟨#[]⟩] 60)) (.cells #[.int .i64 ftype, .int .i64 0, .string ⟨#[]⟩] 60)
          rw [show (wr.alloc (.cells #[.int .i64 ftype, .int .i64 0, .string ⟨#[]⟩] 60)).heap.size = wr.heap.size + 1 by simp] at h
          exact h
        have HK1 := hide hk1
        clear hk1
        go_wp2_with (at_builtin; refine wpList_append_lies _ rfl _ _ _ rfl (w.heap.size + 1) 60 i0 _ 3 32 Tryd.underlying32 hi hz0 hz1 hz2 rfl (by omega) (.slice oo k oc) k _ rfl (unhide HOX) ⟨wr.heap.size + 1, 0, none⟩ 1 1 [.int .i64 ftype, .int .i64 0, .string ⟨#[]⟩] rfl rfl (World.news_of_block (cs := #[.int .i64 ftype, .int .i64 0, .string ⟨#[]⟩]) (t := 60) (fr := (0, 0)) (unhide HNB)) (by simp [Value.oneCell']) (by omega) (by unfold maxLen; omega) (by omega) (by simp; omega) (wr.heap.size + 2) (by simp) ?_; intro g' cap6 w6 hown6 hgrow hat hlt6; have HO6 := hide hown6; have HGR := hide hgrow; clear hown6 hgrow hat)
        go_roundw
        case rel =>
          refine ⟨k + 1, by omega, by go_num, ?_, ((unhide HKB).trans (unhide HK1)).narrow ((Keeps.refl (fun q => (Value.slice oo k oc).ownBlock = some q) _).grown (unhide HGR) (fun q e _ => e)) (fun q e => by rw [unhide E1]; exact ((unhide HO).lt q e).1)⟩
          rw [unhide HTK]
          simpa [vcs, ValA.cs] using unhide HO6
        case measure => simp [intOf]; omega
      | true =>
        cases p with
        | true =>
          simp only [Bool.not_true, Bool.and_false, Bool.false_eq_true, if_false] at HTK
          have hk1 : Keeps (fun _ => False) wr ((wr.alloc (.cells #[.int .i64 ftype, .int .i64 0, .string ⟨#[]⟩] 60)).alloc (.cells #[.int .i64 ftype, .int .i64 0, .string ⟨#[]⟩] 60)) := ((Keeps.refl _ wr).alloc _).alloc _
          have HOX := hide (ownsRow_kept (unhide HO) hk1 (fun _ _ => id))
          have HNB : Hid (((wr.alloc (.cells #[.int .i64 ftype, .int .i64 0, .string ⟨#[]⟩] 60)).alloc (.cells #[.int .i64 ftype, .int .i64 0, .string ⟨#[]⟩] 60)).heap[wr.heap.size + 1]? = some (.cells #[.int .i64 ftype, .int .i64 0, .string ⟨#[]⟩] 60 (0, 0))) := by
            have h := heap_alloc_new (wr.alloc (.cells #[.int .i64 ftype, .int .i64 0, .string ⟨#[]⟩] 60)) (.cells #[.int .i64 ftype, .int .i64 0, .string ⟨#[]⟩] 60)
            rw [show (wr.alloc (.cells #[.int .i64 ftype, .int .i64 0, .string ⟨#[]⟩] 60)).heap.size = wr.heap.size + 1 by simp] at h
            exact h
          have HK1 := hide hk1
          clear hk1
          go_wp2_with (at_builtin; refine wpList_append_lies _ rfl _ _ _ rfl (w.heap.size + 1) 60 i0 _ 3 32 Tryd.underlying32 hi hz0 hz1 hz2 rfl (by omega) (.slice oo k oc) k _ rfl (unhide HOX) ⟨wr.heap.size + 1, 0, none⟩ 1 1 [.int .i64 ftype, .int .i64 0, .string ⟨#[]⟩] rfl rfl (World.news_of_block (cs := #[.int .i64 ftype, .int .i64 0, .string ⟨#[]⟩]) (t := 60) (fr := (0, 0)) (unhide HNB)) (by simp [Value.oneCell']) (by omega) (by unfold maxLen; omega) (by omega) (by simp; omega) (wr.heap.size + 2) (by simp) ?_; intro g' cap6 w6 hown6 hgrow hat hlt6; have HO6 := hide hown6; have HGR := hide hgrow; clear hown6 hgrow hat)
          go_roundw
          case rel =>
            refine ⟨k + 1, by omega, by go_num, ?_, ((unhide HKB).trans (unhide HK1)).narrow ((Keeps.refl (fun q => (Value.slice oo k oc).ownBlock = some q) _).grown (unhide HGR) (fun q e _ => e)) (fun q e => by rw [unhide E1]; exact ((unhide HO).lt q e).1)⟩
            rw [unhide HTK]
            simpa [vcs, ValA.cs] using unhide HO6
          case measure => simp [intOf]; omega
        | false =>
          simp only [Bool.not_false, Bool.and_self, if_true] at HTK
          have hk1 : Keeps (fun _ => False) wr ((wr.alloc (.cells #[.int .i64 0, .int .i64 0, .string ⟨#[]⟩] 60)).alloc (.cells #[.int .i64 0, .int .i64 0, .string ⟨#[]⟩] 60)) := ((Keeps.refl _ wr).alloc _).alloc _
          have HOX := hide (ownsRow_kept (unhide HO) hk1 (fun _ _ => id))
          have HNB : Hid (((wr.alloc (.cells #[.int .i64 0, .int .i64 0, .string ⟨#[]⟩] 60)).alloc (.cells #[.int .i64 0, .int .i64 0, .string ⟨#[]⟩] 60)).heap[wr.heap.size + 1]? = some (.cells #[.int .i64 0, .int .i64 0, .string ⟨#[]⟩] 60 (0, 0))) := by
            have h := heap_alloc_new (wr.alloc (.cells #[.int .i64 0, .int .i64 0, .string ⟨#[]⟩] 60)) (.cells #[.int .i64 0, .int .i64 0, .string ⟨#[]⟩] 60)
            rw [show (wr.alloc (.cells #[.int .i64 0, .int .i64 0, .string ⟨#[]⟩] 60)).heap.size = wr.heap.size + 1 by simp] at h
            exact h
          have HK1 := hide hk1
          clear hk1
          go_wp2_with (at_builtin; refine wpList_append_lies _ rfl _ _ _ rfl (w.heap.size + 1) 60 i0 _ 3 32 Tryd.underlying32 hi hz0 hz1 hz2 rfl (by omega) (.slice oo k oc) k _ rfl (unhide HOX) ⟨wr.heap.size + 1, 0, none⟩ 1 1 [.int .i64 0, .int .i64 0, .string ⟨#[]⟩] rfl rfl (World.news_of_block (cs := #[.int .i64 0, .int .i64 0, .string ⟨#[]⟩]) (t := 60) (fr := (0, 0)) (unhide HNB)) (by simp [Value.oneCell']) (by omega) (by unfold maxLen; omega) (by omega) (by simp; omega) (wr.heap.size + 2) (by simp) ?_; intro g' cap6 w6 hown6 hgrow hat hlt6; have HO6 := hide hown6; have HGR := hide hgrow; clear hown6 hgrow hat)
          go_roundw
          case rel =>
            refine ⟨k + 1, by omega, by go_num, ?_, ((unhide HKB).trans (unhide HK1)).narrow ((Keeps.refl (fun q => (Value.slice oo k oc).ownBlock = some q) _).grown (unhide HGR) (fun q e _ => e)) (fun q e => by rw [unhide E1]; exact ((unhide HO).lt q e).1)⟩
            rw [unhide HTK]
            simpa [vcs, ValA.cs] using unhide HO6
          case measure => simp [intOf]; omega
end Go.Proofs.YtjhppnecadnekaaDoor
namespace Go.Proofs.YtjhppnecadnekaaDoor
open Go.RowKit Go.Maps

/-- The number of a field. -/
def idxF (S : List FieldA) (nm : Txt) : Option Nat := S.findIdx? fun f => decide (f.name = nm)
/-- The kind of a leaf's value on a row (of these kinds); none: it goes wrong. -/
def leafG (S : List FieldA) (rk : List Int) (op : Int) (s : Txt) : Option Int :=
  if op = 1 then some 1 else if op = 2 ∨ op = 6 then some 2 else if op = 3 then some 3
  else if op = 4 then (idxF S s).bind (fun i => rk[i]?)
  else (fieldOf S s).bind (fun f => if f.opt then some 2 else none)
/-- The first expression's operation and text. -/
def headOp : EL → Int × Txt
  | .nil => (0, [])
  | .cons op _ s _ _ => (op, s)
/-- The kind of what an operation gives. -/
def workG (S : List FieldA) (op : Int) (h : Int × Txt) (ks : List Int) : Option Int :=
  if op = 20 then match ks with
    | [a, b] => if h.1 ≠ 4 then none else (fieldOf S h.2).bind fun f => if f.opt = false ∨ b = 0 then none else if a = 0 ∨ a = b then some b else none
    | _ => none
  else if ks.contains 0 then none
  else if op = 7 then (if ks = [2] then some 2 else none) else if op = 8 then (if ks = [1] then some 1 else none) else if op = 23 then (if ks = [3] then some 1 else none)
  else if op = 9 ∨ op = 10 ∨ op = 11 ∨ op = 21 ∨ op = 22 then (if ks = [1, 1] then some 1 else none) else if op = 24 then (if ks = [3, 3] then some 3 else none)
  else if op = 18 ∨ op = 19 then (if ks = [2, 2] then some 2 else none)
  else if op = 16 ∨ op = 17 then (match ks with | [a, b] => if a = b then some 2 else none | _ => none)
  else if op = 12 ∨ op = 13 ∨ op = 14 ∨ op = 15 then (match ks with | [a, b] => if a = b ∧ a ≠ 2 then some 2 else none | _ => none)
  else match ks with | [a, b, c] => if a = 2 ∧ b = c then some b else none | _ => none
/-- The kinds of a list's values. -/
def goG (S : List FieldA) (rk : List Int) : EL → Option (List Int)
  | .nil => some []
  | .cons op _ s kids rest => (if op ≤ 6 then leafG S rk op s else (goG S rk kids).bind (workG S op (headOp kids))).bind fun t => (goG S rk rest).map (t :: ·)
def nodeG (S : List FieldA) (rk : List Int) (op : Int) (s : Txt) (kids : EL) : Option Int := if op ≤ 6 then leafG S rk op s else (goG S rk kids).bind (workG S op (headOp kids))
theorem goG_cons (S : List FieldA) (rk : List Int) (op n : Int) (s : Txt) (kids rest : EL) : goG S rk (.cons op n s kids rest) = (nodeG S rk op s kids).bind fun t => (goG S rk rest).map (t :: ·) := rfl
/-- The kind of a kind's value on the row with all optional fields absent. -/
def KA.gone (k : KA) : Int := if k.o then 0 else k.t
def rowH (S : List FieldA) : List Int := S.map FieldA.type
def rowG (S : List FieldA) : List Int := S.map fun f => if f.opt then 0 else f.type

def KAs : List KA := [⟨1, false⟩, ⟨2, false⟩, ⟨3, false⟩, ⟨1, true⟩, ⟨2, true⟩, ⟨3, true⟩]
theorem mem_KAs {k : KA} (h : okT k.t) : k ∈ KAs := by
  obtain ⟨t, o⟩ := k
  rcases h with h | h | h
  all_goals
    simp only at h
    subst h
    cases o <;> decide
/-- A rule against what goes wrong, for an operation that is no ??. -/
def agree (op : Int) (ks : List KA) : Bool :=
  if (ruleP [] op [] ks).2 = 0 then decide (workG [] op (0, []) (ks.map KA.t) = some (ruleP [] op [] ks).1.t) && decide (workG [] op (0, []) (ks.map KA.gone) = some (ruleP [] op [] ks).1.t) && !(ruleP [] op [] ks).1.o
  else (decide (workG [] op (0, []) (ks.map KA.t) = none) || decide (workG [] op (0, []) (ks.map KA.gone) = none)) && (decide ((ruleP [] op [] ks).2 = 91) || decide ((ruleP [] op [] ks).2 = 92))
set_option maxRecDepth 100000 in
theorem agree1 : ∀ op ∈ ([7, 8, 23] : List Int), ∀ a ∈ KAs, agree op [a] = true := by decide
set_option maxRecDepth 100000 in
theorem agree2 : ∀ op ∈ ([9, 10, 11, 12, 13, 14, 15, 16, 17, 18, 19, 21, 22, 24] : List Int), ∀ a ∈ KAs, ∀ b ∈ KAs, agree op [a, b] = true := by decide
set_option maxRecDepth 100000 in
theorem agree3 : ∀ a ∈ KAs, ∀ b ∈ KAs, ∀ c ∈ KAs, agree 25 [a, b, c] = true := by decide
theorem workG_nofield (S : List FieldA) (op : Int) (h : Int × Txt) (ks : List Int) (h20 : op ≠ 20) : workG S op h ks = workG [] op (0, []) ks := by
  unfold workG
  rw [if_neg h20, if_neg h20]
end Go.Proofs.YtjhppnecadnekaaDoor
namespace Go.Proofs.YtjhppnecadnekaaDoor
open Go.RowKit Go.Maps

/-- What an operation's two answers tell. -/
def Worked (e : Ending) (o : Option Int) : Prop := ∃ (t : Int) (ok : Bool), e = .returned (.tuple #[.int .i64 t, .bool ok]) ∧ match o with
  | none => ok = false
  | some u => ok = true ∧ t = u
theorem worked_no {t : Int} {e : Ending} (h : e = .returned (.tuple #[.int .i64 t, .bool false])) : Worked e none := ⟨t, false, h, rfl⟩
theorem worked_yes {t : Int} {e : Ending} (h : e = .returned (.tuple #[.int .i64 t, .bool true])) : Worked e (some t) := ⟨t, true, h, rfl, rfl⟩
theorem work_zero {S : List FieldA} {op : Int} {h : Int × Txt} {ks : List Int} (h20 : op ≠ 20) (hc : ks.contains 0 = true) : workG S op h ks = none := by
  unfold workG
  rw [if_neg h20, if_pos hc]
theorem contains_at {ks : List Int} {j : Nat} (h : ks[j]? = some 0) : ks.contains 0 = true := by
  simp
  exact List.mem_of_getElem? h
theorem contains_not {ks : List Int} (h : ∀ i, i < ks.length → ks[i]? ≠ some 0) : ks.contains 0 = false := by
  simp
  intro hm
  obtain ⟨i, hi⟩ := List.mem_iff_getElem?.1 hm
  exact h i (get_lt hi) hi

set_option maxRecDepth 100000 in
set_option maxHeartbeats 4000000 in
theorem worked7 (S : List FieldA) (so : Option Addr) (sl sc : Nat) (n : Int) (s : Txt) (ao : Option Addr) (kl cap : Nat) (h : Int × Txt) (a : Int) (v : Value) (w : World) (hv : IntsAt w v [a]) :
    Calls Tryd.prog 72 #[.agg #[.slice so sl sc], exV 7 n s (.slice ao kl cap), v] w fun e w' => Worked e (workG S 7 h [a]) ∧ Keeps (fun _ => False) w w' := by
  obtain ⟨vo, vc, rfl⟩ := RowAt.form hv
  obtain ⟨HX, hxb, hxc⟩ := boxedT w #[.slice so sl sc] 24
  obtain ⟨HY, hyb, hyc⟩ := boxedT (w.alloc (.cells #[.slice so sl sc] 24)) #[.int .i64 7, .int .i64 n, str s, .slice ao kl cap] 78
  have y0 := hyc 0 (.int .i64 7) rfl
  rw [World.size_alloc] at y0
  have HK := hide ((unhide HX).trans (unhide HY))
  have HV := hide (hv.keepF (unhide HK))
  obtain ⟨bb, boff, bcap, be, hbb, hbc⟩ := (unhide HV).cells (by simp)
  simp only [Value.slice.injEq] at be
  obtain ⟨rfl, _, rfl⟩ := be
  have q0 := hbc 0 a rfl
  simp only [Nat.add_zero] at q0
  have HBC := hide hbc
  clear hv hxc hyc hbc hxb hyb HX HY
  simp only [List.length_cons, List.length_nil, Nat.zero_add] at *
  go_enter Tryd.func72, Tryd.ntmps72
  go_wp2_with fail
  generalize (w.alloc (.cells #[.slice so sl sc] 24)).alloc (.cells #[.int .i64 7, .int .i64 n, str s, .slice ao kl cap] 78) = w1 at y0 HK HV hbb HBC q0 ⊢
  go_loopw [9] (fun i wr => ∃ j : Nat, j ≤ 1 ∧ i = .int .i64 j ∧ Hid (∀ i, i < j → [a][i]? ≠ some 0) ∧ wr = w1) (fun i _ => 1 - (intOf i).toNat)
  case atStart => exact ⟨0, Nat.zero_le _, rfl, fun i hi => by omega, rfl⟩
  case round =>
    obtain ⟨j, hj, rfl, HN, rfl⟩ := hrel
    by_cases hlt : j < 1
    · obtain ⟨x, hx⟩ : ∃ x, [a][j]? = some x := ⟨_, List.getElem?_eq_getElem (by simpa using hlt)⟩
      have qx := (unhide HBC) j x hx
      have i1 : (j : Int) < 1 := by omega
      have i0 : (0 : Int) ≤ (j : Int) := by omega
      have HX := hide hx
      by_cases h0 : x = 0
      · subst h0
        have HW := hide (work_zero (S := S) (op := 7) (h := h) (by decide) (contains_at hx))
        clear hx
        go_wp2_with fail
        go_ret2
        refine ⟨?_, unhide HK⟩
        rw [unhide HW]
        exact worked_no rfl
      · have e0 : (x == 0) = false := by simpa using h0
        have HN2 : Hid (∀ i, i < j + 1 → [a][i]? ≠ some 0) := fun i hi => by
          by_cases hij : i = j
          · subst hij
            rw [unhide HX]
            simpa using h0
          · exact (unhide HN) i (by omega)
        clear hx h0
        go_wp2_with fail
        go_roundw
        case rel => exact ⟨j + 1, by omega, by go_num, HN2, by trivial⟩
        case measure => simp [intOf] at *; omega
    · have HNC := hide (contains_not (ks := [a]) (fun i hi => (unhide HN) i (by simp at hi; omega)))
      have i1 : ¬ (j : Int) < 1 := by omega
      have i0 : (0 : Int) ≤ (j : Int) := by omega
      clear hlt
      by_cases h0 : a = 2
      · have b0 : (a == 2) = true := by simpa using h0
        have HW : Hid (workG S 7 h [a] = some 2) := by show _ = _; have := unhide HNC; simp_all [workG]
        clear h0
        go_wp2_with fail
        go_quiet (fail)
        go_wp2
        go_ret2
        refine ⟨?_, (unhide HK).drewN _⟩
        rw [unhide HW]
        exact worked_yes rfl
      · have b0 : (a == 2) = false := by simpa using h0
        have HW : Hid (workG S 7 h [a] = none) := by show _ = _; have := unhide HNC; simp_all [workG]
        clear h0
        go_wp2_with fail
        go_quiet (fail)
        go_wp2
        go_ret2
        refine ⟨?_, (unhide HK).drewN _⟩
        rw [unhide HW]
        exact worked_no rfl

end Go.Proofs.YtjhppnecadnekaaDoor
