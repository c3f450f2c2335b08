import Derived.Test.YtafniangljmjeabDoorWa
import Derived.Test.YtafniangljmjeabDoorQi
import Derived.Lib.LaidTab
namespace Go.Proofs.YtafniangljmjeabDoor
open Go.ChangeShapes Go.WideShapes Go.ChangeAt Go.RowKit Go.Deep

theorem pow_of {W : World} (h : laidMetH Tryd.prog Rows.codeListsRow.laid W) : Pow W := by
  have hpow := h.filter (fun x => x.1 == "internal/strconv.uint64pow10")
  rw [show Rows.codeListsRow.laid.filter (fun x => x.1 == "internal/strconv.uint64pow10") = [("internal/strconv.uint64pow10", Rows.laid_internal_strconv_uint64pow10)] by rfl, MakeChecks.laidMetH_plain _ _ _ (by kernel_rfl)] at hpow
  have e : (Rows.laid_internal_strconv_uint64pow10 : DataW Unit) = Lib.tabData .u64 Lib.pow10Tab := by kernel_rfl
  rw [e] at hpow
  exact Lib.tabIs_of_head (rest := []) (g := 3) (t := 132) (e := 105) (n := 20) (by kernel_rfl) (by kernel_rfl) Tryd.underlying132 Tryd.underlying105 (by kernel_rfl) (by kernel_rfl) hpow
set_option maxRecDepth 100000 in
theorem strs_met {W : World} {name : String} {g t n : Nat} (l : List Txt) (hg : Tryd.prog.globalNamed name = some g) (hty : (Tryd.prog.globals[g]?).map (·.type) = some t) (ht : Tryd.prog.underlying t = some (.array n 9)) (hn : l.length = n)
    (h : laidMet Tryd.prog [(name, .agg (l.map fun s => .lit (.string s)))] W) : ∀ (i : Nat) (x : Txt), l[i]? = some x → W.cell? ⟨g, i, none⟩ = some (str x) := by
  obtain ⟨ps, ⟨g0, t0, cs0, f0, p0, q0, hg0, ht0, hv0, hd0, _, _⟩, _, _⟩ := h
  obtain rfl := Option.some.inj (hg.symm.trans hg0)
  obtain rfl := Option.some.inj (hty.symm.trans ht0)
  obtain ⟨xs, m1, rfl, hx1, hlen, hn3, hel⟩ := DataW.trod_array ht hd0
  have q := fun j => World.var?_cell hg0 hv0 j
  obtain ⟨cl⟩ := cs0
  have hxs : xs.map (·.1) = l.map fun s => (.lit (.string s) : DataW Unit) := (DataW.agg.inj (Prod.mk.inj hx1).1).symm
  intro i x hx
  have hi : i < n := by rw [← hn]; exact (List.getElem?_eq_some_iff.1 hx).1
  have h1 : (xs.map (·.1))[i]? = some (.lit (.string x)) := by rw [hxs]; simp [hx]
  cases hxi : xs[i]? with
  | none => rw [List.getElem?_map, hxi] at h1; cases h1
  | some y =>
    rw [List.getElem?_map, hxi] at h1
    have h2 := hel i hi
    rw [e9, hxi] at h2
    obtain ⟨s, q1, w1, _⟩ := DataW.trod_string Tryd.underlying9 h2
    have h3 := Option.some.inj h1
    rw [w1] at h3
    simp at h3
    rw [q i]
    have := congrArg (fun z => z[0]?) q1
    simp [List.getElem?_drop] at this
    simp [this, str_of, h3]
theorem wds_of {W : World} (h : laidMetH Tryd.prog Rows.codeListsRow.laid W) : Wds W := by
  have h2 := h.filter (fun x => x.1 == "arbor/arborref11.words")
  rw [show Rows.codeListsRow.laid.filter (fun x => x.1 == "arbor/arborref11.words") = [("arbor/arborref11.words", Rows.laid_arbor_arborref11_words)] by rfl, MakeChecks.laidMetH_plain _ _ _ (by kernel_rfl)] at h2
  have m2 := strs_met (g := 1) (t := 78) (n := 27) (opsL.map OpA.word) (by kernel_rfl) (by kernel_rfl) Tryd.underlying78 rfl h2
  refine ⟨World.block_lt_of_cell? W ⟨1, 0, none⟩ (m2 0 _ rfl), fun m hm => m2 m _ ?_⟩
  rw [List.getElem?_map, opsL_at m hm]
  rfl
theorem lists_env {W : World} (h : laidMetH Tryd.prog Rows.codeListsRow.laid W) : Env W := by
  have h1 := h.filter (fun x => x.1 == "arbor/value.types")
  have h2 := h.filter (fun x => x.1 == "arbor/code.operations")
  rw [show Rows.codeListsRow.laid.filter (fun x => x.1 == "arbor/value.types") = [("arbor/value.types", Rows.laid_arbor_value_types)] by rfl] at h1
  rw [show Rows.codeListsRow.laid.filter (fun x => x.1 == "arbor/code.operations") = [("arbor/code.operations", Rows.laid_arbor_code_operations)] by rfl] at h2
  exact ⟨ops_met h2, types_met h1⟩
end Go.Proofs.YtafniangljmjeabDoor
