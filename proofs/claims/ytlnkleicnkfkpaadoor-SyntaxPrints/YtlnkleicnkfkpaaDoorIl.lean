import Derived.Test.YtlnkleicnkfkpaaDoorIk
import Derived.Lib.LaidTab
namespace Go.Proofs.YtlnkleicnkfkpaaDoor
open Go.ChangeShapes Go.WideShapes Go.ChangeAt Go.RowKit Go.Deep

theorem pow_of {W : World} (h : laidMetH Tryd.prog Rows.syntaxPrintsRow.laid W) : Pow W := by
  have hpow := h.filter (fun x => x.1 == "internal/strconv.uint64pow10")
  rw [show Rows.syntaxPrintsRow.laid.filter (fun x => x.1 == "internal/strconv.uint64pow10") = [("internal/strconv.uint64pow10", Rows.laid_internal_strconv_uint64pow10)] by rfl, MakeChecks.laidMetH_plain _ _ _ (by kernel_rfl)] at hpow
  have e : (Rows.laid_internal_strconv_uint64pow10 : DataW Unit) = Lib.tabData .u64 Lib.pow10Tab := by kernel_rfl
  rw [e] at hpow
  exact Lib.tabIs_of_head (rest := []) (g := 5) (t := 107) (e := 101) (n := 20) (by kernel_rfl) (by kernel_rfl) Tryd.underlying107 Tryd.underlying101 (by kernel_rfl) (by kernel_rfl) hpow
theorem forms_of {W : World} (h : laidMetH Tryd.prog Rows.syntaxPrintsRow.laid W) : Forms W := by
  have hf := h.filter (fun x => x.1 == "arbor/syntax.forms")
  rw [show Rows.syntaxPrintsRow.laid.filter (fun x => x.1 == "arbor/syntax.forms") = [("arbor/syntax.forms", Rows.laid_arbor_syntax_forms)] by rfl] at hf
  exact forms_met hf
theorem ops_of {W : World} (h : laidMetH Tryd.prog Rows.syntaxPrintsRow.laid W) : Lib.TabIs Tryd.prog W "arbor/arborref8.comparisonOps" .i64 cmpOps := by
  have hf := h.filter (fun x => x.1 == "arbor/arborref8.comparisonOps")
  rw [show Rows.syntaxPrintsRow.laid.filter (fun x => x.1 == "arbor/arborref8.comparisonOps") = [("arbor/arborref8.comparisonOps", Rows.laid_arbor_arborref8_comparisonOps)] by rfl, MakeChecks.laidMetH_plain _ _ _ (by kernel_rfl)] at hf
  have e : (Rows.laid_arbor_arborref8_comparisonOps : DataW Unit) = Lib.tabData .i64 cmpOps := by kernel_rfl
  rw [e] at hf
  exact Lib.tabIs_of_head (rest := []) (g := 1) (t := 80) (e := 3) (n := 6) (by kernel_rfl) (by kernel_rfl) Tryd.underlying80 Tryd.underlying3 (by kernel_rfl) (by kernel_rfl) hf
theorem calls_of {W : World} (h : laidMetH Tryd.prog Rows.syntaxPrintsRow.laid W) : Lib.TabIs Tryd.prog W "arbor/arborref8.callOps" .i64 callOps := by
  have hf := h.filter (fun x => x.1 == "arbor/arborref8.callOps")
  rw [show Rows.syntaxPrintsRow.laid.filter (fun x => x.1 == "arbor/arborref8.callOps") = [("arbor/arborref8.callOps", Rows.laid_arbor_arborref8_callOps)] by rfl, MakeChecks.laidMetH_plain _ _ _ (by kernel_rfl)] at hf
  have e : (Rows.laid_arbor_arborref8_callOps : DataW Unit) = Lib.tabData .i64 callOps := by kernel_rfl
  rw [e] at hf
  exact Lib.tabIs_of_head (rest := []) (g := 3) (t := 83) (e := 3) (n := 5) (by kernel_rfl) (by kernel_rfl) Tryd.underlying83 Tryd.underlying3 (by kernel_rfl) (by kernel_rfl) hf
set_option maxRecDepth 100000 in
theorem strs_met {W : World} {name : String} {g t n : Nat} (l : List Txt) (hg : Tryd.prog.globalNamed name = some g) (hty : (Tryd.prog.globals[g]?).map (·.type) = some t) (ht : Tryd.prog.underlying t = some (.array n 9)) (hn : l.length = n)
    (h : laidMet Tryd.prog [(name, .agg (l.map fun s => .lit (.string s)))] W) : ∀ (i : Nat) (x : Txt), l[i]? = some x → W.cell? ⟨g, i, none⟩ = some (str x) := by
  obtain ⟨ps, ⟨g0, t0, cs0, f0, p0, q0, hg0, ht0, hv0, hd0, _, _⟩, _, _⟩ := h
  obtain rfl := Option.some.inj (hg.symm.trans hg0)
  obtain rfl := Option.some.inj (hty.symm.trans ht0)
  obtain ⟨xs, m1, rfl, hx1, hlen, hn3, hel⟩ := DataW.trod_array ht hd0
  have q := fun j => World.var?_cell hg0 hv0 j
  obtain ⟨cl⟩ := cs0
  have hxs : xs.map (·.1) = l.map fun s => (.lit (.string s) : DataW Unit) := (DataW.agg.inj (Prod.mk.inj hx1).1).symm
  intro i x hx
  have hi : i < n := by rw [← hn]; exact (List.getElem?_eq_some_iff.1 hx).1
  have h1 : (xs.map (·.1))[i]? = some (.lit (.string x)) := by rw [hxs]; simp [hx]
  cases hxi : xs[i]? with
  | none => rw [List.getElem?_map, hxi] at h1; cases h1
  | some y =>
    rw [List.getElem?_map, hxi] at h1
    have h2 := hel i hi
    rw [e9, hxi] at h2
    obtain ⟨s, q1, w1, _⟩ := DataW.trod_string Tryd.underlying9 h2
    have h3 := Option.some.inj h1
    rw [w1] at h3
    simp at h3
    rw [q i]
    have := congrArg (fun z => z[0]?) q1
    simp [List.getElem?_drop] at this
    simp [this, str_of, h3]
theorem tabs_of {W : World} (h : laidMetH Tryd.prog Rows.syntaxPrintsRow.laid W) : Tabs W := by
  have k1 := ops_of h
  have k3 := calls_of h
  have h2 := h.filter (fun x => x.1 == "arbor/arborref8.comparisonMarks")
  rw [show Rows.syntaxPrintsRow.laid.filter (fun x => x.1 == "arbor/arborref8.comparisonMarks") = [("arbor/arborref8.comparisonMarks", Rows.laid_arbor_arborref8_comparisonMarks)] by rfl, MakeChecks.laidMetH_plain _ _ _ (by kernel_rfl)] at h2
  have h4 := h.filter (fun x => x.1 == "arbor/arborref8.callWords")
  rw [show Rows.syntaxPrintsRow.laid.filter (fun x => x.1 == "arbor/arborref8.callWords") = [("arbor/arborref8.callWords", Rows.laid_arbor_arborref8_callWords)] by rfl, MakeChecks.laidMetH_plain _ _ _ (by kernel_rfl)] at h4
  have m2 := strs_met (g := 2) (t := 82) (n := 6) cmpMarks (by kernel_rfl) (by kernel_rfl) Tryd.underlying82 rfl h2
  have m4 := strs_met (g := 4) (t := 85) (n := 5) callWords (by kernel_rfl) (by kernel_rfl) Tryd.underlying85 rfl h4
  refine ⟨World.block_lt_of_cell? W ⟨4, 0, none⟩ (m4 0 _ rfl), fun i x hx => ?_, m2, fun i x hx => ?_, m4⟩
  · have := k1.cell (g := 1) (by kernel_rfl) i (List.getElem?_eq_some_iff.1 hx).1
    rw [this]; simp [List.getD, hx]
  · have := k3.cell (g := 3) (by kernel_rfl) i (List.getElem?_eq_some_iff.1 hx).1
    rw [this]; simp [List.getD, hx]
end Go.Proofs.YtlnkleicnkfkpaaDoor
