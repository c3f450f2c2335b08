import Derived.Test.YtnaajeldbgmdjaaDoorFg
namespace Go.Proofs.YtnaajeldbgmdjaaDoor
open Go.ChangeShapes Go.WideShapes Go.ChangeAt Go.RowKit Go.Deep

theorem gForms : Tryd.prog.globalNamed "arbor/syntax.forms" = some 1 := by kernel_rfl
theorem tForms : (Tryd.prog.globals[1]?).map (·.type) = some 133 := by kernel_rfl
theorem c76 : Tryd.prog.cellsOf 132 = 6 := by kernel_rfl
theorem c77 : Tryd.prog.cellsOf 133 = 156 := by kernel_rfl
/-- A row of the table, as a datum. -/
def FormA.dat (f : FormA) : DataW Unit := .agg [.lit (.int .i64 f.shape), .lit (.string f.text), .lit (.int .i64 f.kids), .lit (.int .i64 f.rank), .lit (.int .i64 f.left), .lit (.int .i64 f.right)]
theorem forms_dat : (Rows.laid_arbor_syntax_forms : DataW Unit) = .agg (formsL.map FormA.dat) := rfl
set_option maxRecDepth 100000 in
theorem form_el {W : World} {m : Nat} {cs : List Value} {x : DataW Unit × List MemPlace} {f : FormA} (h : DataW.trod (fun _ => ()) Tryd.prog W 0 (fun _ => true) false m 132 cs = some x) (hx : x.1 = f.dat) : cs = f.cs := by
  obtain ⟨xs, k, _, rfl, hl, hlen, hf⟩ := DataW.trod_struct Tryd.underlying132 h
  have hl' : cs.length = 6 := hl.trans c76
  match xs, hlen, cs, hl' with
  | [y0, y1, y2, y3, y4, y5], _, [a0, a1, a2, a3, a4, a5], _ =>
    have h0 : DataW.trod (fun _ => ()) Tryd.prog W 0 (fun _ => true) false k 3 (([a0, a1, a2, a3, a4, a5].drop 0).take (Tryd.prog.cellsOf 3)) = some y0 := hf 0 _ rfl
    have h1 : DataW.trod (fun _ => ()) Tryd.prog W 0 (fun _ => true) false k 9 (([a0, a1, a2, a3, a4, a5].drop 1).take (Tryd.prog.cellsOf 9)) = some y1 := hf 1 _ rfl
    have h2 : DataW.trod (fun _ => ()) Tryd.prog W 0 (fun _ => true) false k 3 (([a0, a1, a2, a3, a4, a5].drop 2).take (Tryd.prog.cellsOf 3)) = some y2 := hf 2 _ rfl
    have h3 : DataW.trod (fun _ => ()) Tryd.prog W 0 (fun _ => true) false k 3 (([a0, a1, a2, a3, a4, a5].drop 3).take (Tryd.prog.cellsOf 3)) = some y3 := hf 3 _ rfl
    have h4 : DataW.trod (fun _ => ()) Tryd.prog W 0 (fun _ => true) false k 3 (([a0, a1, a2, a3, a4, a5].drop 4).take (Tryd.prog.cellsOf 3)) = some y4 := hf 4 _ rfl
    have h5 : DataW.trod (fun _ => ()) Tryd.prog W 0 (fun _ => true) false k 3 (([a0, a1, a2, a3, a4, a5].drop 5).take (Tryd.prog.cellsOf 3)) = some y5 := hf 5 _ rfl
    rw [e3] at h0 h2 h3 h4 h5
    rw [e9] at h1
    obtain ⟨n0, q0, w0, _⟩ := DataW.trod_int Tryd.underlying3 h0
    obtain ⟨s1, q1, w1, _⟩ := DataW.trod_string Tryd.underlying9 h1
    obtain ⟨n2, q2, w2, _⟩ := DataW.trod_int Tryd.underlying3 h2
    obtain ⟨n3, q3, w3, _⟩ := DataW.trod_int Tryd.underlying3 h3
    obtain ⟨n4, q4, w4, _⟩ := DataW.trod_int Tryd.underlying3 h4
    obtain ⟨n5, q5, w5, _⟩ := DataW.trod_int Tryd.underlying3 h5
    simp only [FormA.dat, DataW.agg.injEq, List.map_cons, List.map_nil, List.cons.injEq, and_true] at hx
    rw [w0, w1, w2, w3, w4, w5] at hx
    simp at hx q0 q1 q2 q3 q4 q5
    obtain ⟨r0, r1, r2, r3, r4, r5⟩ := hx
    rw [q0, q1, q2, q3, q4, q5, str_of, r0, r1, r2, r3, r4, r5]
    rfl
theorem forms_met {W : World} (h : laidMetH Tryd.prog [("arbor/syntax.forms", Rows.laid_arbor_syntax_forms)] W) : Forms W := by
  rw [MakeChecks.laidMetH_plain _ _ _ (by kernel_rfl)] at h
  obtain ⟨ps, ⟨g0, t0, cs0, f0, p0, q0, hg0, ht0, hv0, hd0, _, _⟩, _, _⟩ := h
  obtain rfl := Option.some.inj (gForms.symm.trans hg0)
  obtain rfl := Option.some.inj (tForms.symm.trans ht0)
  obtain ⟨xs, m1, rfl, hx1, hlen, hn3, hel⟩ := DataW.trod_array Tryd.underlying133 hd0
  have q := fun j => World.var?_cell hg0 hv0 j
  obtain ⟨cl⟩ := cs0
  have hlen' : cl.length = 156 := hlen.trans c77
  have hxs : xs.map (·.1) = formsL.map FormA.dat := by
    have := (Prod.mk.inj hx1).1
    rw [forms_dat] at this
    exact (DataW.agg.inj this).symm
  have el : ∀ (i : Nat) (f : FormA), formsL[i]? = some f → (cl.drop (i * 6)).take 6 = f.cs := fun i f hf => by
    have hi : i < 26 := (List.getElem?_eq_some_iff.1 hf).1
    have h1 : (xs.map (·.1))[i]? = some f.dat := by rw [hxs]; simp [hf]
    cases hx : xs[i]? with
    | none => rw [List.getElem?_map, hx] at h1; cases h1
    | some x =>
      rw [List.getElem?_map, hx] at h1
      have h2 := hel i hi
      rw [c76, hx] at h2
      exact form_el h2 (Option.some.inj h1)
  have hlt : 1 < W.heap.size := by
    obtain ⟨c, hc⟩ : ∃ c, cl[0]? = some c := ⟨_, List.getElem?_eq_getElem (by omega)⟩
    have := World.block_lt_of_cell? W ⟨1, 0, none⟩ (u := c) (by rw [q 0]; simpa using hc)
    exact this
  refine ⟨hlt, fun i f hf j x hx => ?_⟩
  have hj : j < 6 := (List.getElem?_eq_some_iff.1 hx).1
  have hq := q (i * 6 + j)
  rw [hq]
  have := congrArg (fun l => l[j]?) (el i f hf)
  simp only [List.getElem?_take, hj, if_true, List.getElem?_drop] at this
  simpa [this] using hx
end Go.Proofs.YtnaajeldbgmdjaaDoor
