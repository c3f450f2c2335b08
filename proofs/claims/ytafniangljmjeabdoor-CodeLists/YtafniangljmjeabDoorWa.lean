import Derived.Test.YtafniangljmjeabDoorRows
import Derived.Test.YtafniangljmjeabDoorEa
import Derived.ProofKit
import Derived.LaidLaws
import Derived.LaidMore
import Derived.LaidSub
import Derived.Lib.LaidTab
import Derived.OpenShut
import Derived.ShutString
import Derived.ChangeOld
import Derived.Deep.Slices
import Derived.Deep.Strs
import Derived.SizedLaws
import Derived.Deep.CondSized
namespace Go.Proofs.YtafniangljmjeabDoor
open Go.ChangeShapes Go.WideShapes Go.ChangeAt Go.RowKit Go.Deep

theorem e2 : Tryd.prog.cellsOf 2 = 1 := by kernel_rfl
theorem e3 : Tryd.prog.cellsOf 3 = 1 := by kernel_rfl
theorem e4 : Tryd.prog.cellsOf 4 = 1 := by kernel_rfl
theorem e5 : Tryd.prog.cellsOf 5 = 1 := by kernel_rfl
theorem e9 : Tryd.prog.cellsOf 9 = 1 := by kernel_rfl
theorem e79 : Tryd.prog.cellsOf 71 = 1 := by kernel_rfl
theorem e80 : Tryd.prog.cellsOf 72 = 1 := by kernel_rfl
theorem str_of (s : ByteArray) : Value.string s = str s.data.toList := by cases s; simp
theorem gOps : Tryd.prog.globalNamed "arbor/code.operations" = some 0 := by kernel_rfl
theorem tOps : (Tryd.prog.globals[0]?).map (·.type) = some 75 := by kernel_rfl
theorem c82 : Tryd.prog.cellsOf 74 = 5 := by kernel_rfl
theorem c83 : Tryd.prog.cellsOf 75 = 135 := by kernel_rfl
/-- A row of the table, as a datum. -/
def OpA.dat (f : OpA) : DataW Unit := .agg [.lit (.string f.word), .lit (.int .i64 f.opd), .lit (.int .i64 (f.takes : Int)), .lit (.int .i64 f.of), .lit (.int .i64 f.gives)]
theorem ops_dat : (Rows.laid_arbor_code_operations : DataW Unit) = .agg (opsL.map OpA.dat) := rfl
set_option maxRecDepth 100000 in
theorem op_el {W : World} {m : Nat} {cs : List Value} {x : DataW Unit × List MemPlace} {f : OpA} (h : DataW.trod (fun _ => ()) Tryd.prog W 0 (fun _ => true) false m 74 cs = some x) (hx : x.1 = f.dat) : cs = f.cs := by
  obtain ⟨xs, k, _, rfl, hl, hlen, hf⟩ := DataW.trod_struct Tryd.underlying74 h
  have hl' : cs.length = 5 := hl.trans c82
  match xs, hlen, cs, hl' with
  | [y0, y1, y2, y3, y4], _, [a0, a1, a2, a3, a4], _ =>
    have h0 : DataW.trod (fun _ => ()) Tryd.prog W 0 (fun _ => true) false k 9 (([a0, a1, a2, a3, a4].drop 0).take (Tryd.prog.cellsOf 9)) = some y0 := hf 0 _ rfl
    have h1 : DataW.trod (fun _ => ()) Tryd.prog W 0 (fun _ => true) false k 71 (([a0, a1, a2, a3, a4].drop 1).take (Tryd.prog.cellsOf 71)) = some y1 := hf 1 _ rfl
    have h2 : DataW.trod (fun _ => ()) Tryd.prog W 0 (fun _ => true) false k 3 (([a0, a1, a2, a3, a4].drop 2).take (Tryd.prog.cellsOf 3)) = some y2 := hf 2 _ rfl
    have h3 : DataW.trod (fun _ => ()) Tryd.prog W 0 (fun _ => true) false k 72 (([a0, a1, a2, a3, a4].drop 3).take (Tryd.prog.cellsOf 72)) = some y3 := hf 3 _ rfl
    have h4 : DataW.trod (fun _ => ()) Tryd.prog W 0 (fun _ => true) false k 72 (([a0, a1, a2, a3, a4].drop 4).take (Tryd.prog.cellsOf 72)) = some y4 := hf 4 _ rfl
    rw [e9] at h0
    rw [e79] at h1
    rw [e3] at h2
    rw [e80] at h3 h4
    obtain ⟨s0, q0, w0, _⟩ := DataW.trod_string Tryd.underlying9 h0
    obtain ⟨n1, q1, w1, _⟩ := DataW.trod_int Tryd.underlying71 h1
    obtain ⟨n2, q2, w2, _⟩ := DataW.trod_int Tryd.underlying3 h2
    obtain ⟨n3, q3, w3, _⟩ := DataW.trod_int Tryd.underlying72 h3
    obtain ⟨n4, q4, w4, _⟩ := DataW.trod_int Tryd.underlying72 h4
    simp only [OpA.dat, DataW.agg.injEq, List.map_cons, List.map_nil, List.cons.injEq, and_true] at hx
    rw [w0, w1, w2, w3, w4] at hx
    simp at hx q0 q1 q2 q3 q4
    obtain ⟨r0, r1, r2, r3, r4⟩ := hx
    rw [q0, q1, q2, q3, q4, str_of, r0, r1, r2, r3, r4]
    rfl
theorem gTypes : Tryd.prog.globalNamed "arbor/value.types" = some 2 := by kernel_rfl
theorem tTypes : (Tryd.prog.globals[2]?).map (·.type) = some 120 := by kernel_rfl

theorem c92 : Tryd.prog.cellsOf 119 = 2 := by kernel_rfl
theorem c93 : Tryd.prog.cellsOf 120 = 8 := by kernel_rfl

theorem types_el {W : World} {m : Nat} {a b : Value} {x : DataW Unit × List MemPlace} {s : Txt} {n : Int} (h : DataW.trod (fun _ => ()) Tryd.prog W 0 (fun _ => true) false m 119 [a, b] = some x) (hx : x.1 = .agg [.lit (.string s), .lit (.int .i64 n)]) : a = str s ∧ b = .int .i64 n := by
  obtain ⟨xs, k, _, rfl, hl, hlen, hf⟩ := DataW.trod_struct Tryd.underlying119 h
  match xs, hlen with
  | [y0, y1], _ =>
    have h0 : DataW.trod (fun _ => ()) Tryd.prog W 0 (fun _ => true) false k 9 (([a, b].drop 0).take (Tryd.prog.cellsOf 9)) = some y0 := hf 0 _ rfl
    have h1 : DataW.trod (fun _ => ()) Tryd.prog W 0 (fun _ => true) false k 3 (([a, b].drop 1).take (Tryd.prog.cellsOf 3)) = some y1 := hf 1 _ rfl
    rw [e9] at h0
    rw [e3] at h1
    obtain ⟨s', q0, hs', _⟩ := DataW.trod_string Tryd.underlying9 h0
    obtain ⟨n', q1, hn', _⟩ := DataW.trod_int Tryd.underlying3 h1
    simp only [DataW.agg.injEq, List.map_cons, List.map_nil, List.cons.injEq, and_true] at hx
    rw [hs', hn'] at hx
    simp at hx q0 q1
    rw [q0, q1, str_of, hx.1, hx.2]
    exact ⟨rfl, rfl⟩

set_option maxRecDepth 100000 in
theorem types_met {W : World} (h : laidMetH Tryd.prog [("arbor/value.types", Rows.laid_arbor_value_types)] W) : Types W := by
  rw [MakeChecks.laidMetH_plain _ _ _ (by kernel_rfl)] at h
  obtain ⟨ps, ⟨g0, t0, cs0, f0, p0, q0, hg0, ht0, hv0, hd0, _, _⟩, _, _⟩ := h
  obtain rfl := Option.some.inj (gTypes.symm.trans hg0)
  obtain rfl := Option.some.inj (tTypes.symm.trans ht0)
  obtain ⟨xs, m1, rfl, hx1, hlen, hn3, hel⟩ := DataW.trod_array Tryd.underlying120 hd0
  have q := fun j => World.var?_cell hg0 hv0 j
  obtain ⟨cl⟩ := cs0
  have hlen' : cl.length = 8 := hlen.trans c93
  have hel' : ∀ i, i < 4 → DataW.trod (fun _ => ()) Tryd.prog W 0 (fun _ => true) false m1 119 ((cl.drop (i * 2)).take 2) = xs[i]? := fun i hi => by
    have := hel i hi
    rw [c92] at this
    exact this
  clear hel hlen hd0
  match cl, hlen', xs, hn3 with
  | [c0, c1, c2, c3, c4, c5, c6, c7], _, [x0, x1, x2, x3], _ =>
    simp only [Prod.mk.injEq, Rows.laid_arbor_value_types, DataW.agg.injEq, List.map_cons, List.map_nil, List.cons.injEq, and_true] at hx1
    obtain ⟨⟨e0, e1, e2, e3⟩, _⟩ := hx1
    have h0 := types_el (hel' 0 (by decide)) e0.symm
    have h1 := types_el (hel' 1 (by decide)) e1.symm
    have h2 := types_el (hel' 2 (by decide)) e2.symm
    have h3 := types_el (hel' 3 (by decide)) e3.symm
    have hq0 := q 0
    have hlt : 2 < W.heap.size := by
      have := World.block_lt_of_cell? W ⟨2, 0, none⟩ (u := c0) (by rw [hq0]; rfl)
      exact this
    refine ⟨hlt, fun j x hx => ?_⟩
    rw [q j]
    obtain ⟨rfl, rfl⟩ := h0
    obtain ⟨rfl, rfl⟩ := h1
    obtain ⟨rfl, rfl⟩ := h2
    obtain ⟨rfl, rfl⟩ := h3
    exact hx

theorem ops_met {W : World} (h : laidMetH Tryd.prog [("arbor/code.operations", Rows.laid_arbor_code_operations)] W) : Ops W := by
  rw [MakeChecks.laidMetH_plain _ _ _ (by kernel_rfl)] at h
  obtain ⟨ps, ⟨g0, t0, cs0, f0, p0, q0, hg0, ht0, hv0, hd0, _, _⟩, _, _⟩ := h
  obtain rfl := Option.some.inj (gOps.symm.trans hg0)
  obtain rfl := Option.some.inj (tOps.symm.trans ht0)
  obtain ⟨xs, m1, rfl, hx1, hlen, hn3, hel⟩ := DataW.trod_array Tryd.underlying75 hd0
  have q := fun j => World.var?_cell hg0 hv0 j
  obtain ⟨cl⟩ := cs0
  have hlen' : cl.length = 135 := hlen.trans c83
  have hxs : xs.map (·.1) = opsL.map OpA.dat := by
    have := (Prod.mk.inj hx1).1
    rw [ops_dat] at this
    exact (DataW.agg.inj this).symm
  have el : ∀ (i : Nat) (f : OpA), opsL[i]? = some f → (cl.drop (i * 5)).take 5 = f.cs := fun i f hf => by
    have hi : i < 27 := (List.getElem?_eq_some_iff.1 hf).1
    have h1 : (xs.map (·.1))[i]? = some f.dat := by rw [hxs]; simp [hf]
    cases hx : xs[i]? with
    | none => rw [List.getElem?_map, hx] at h1; cases h1
    | some x =>
      rw [List.getElem?_map, hx] at h1
      have h2 := hel i hi
      rw [c82, hx] at h2
      exact op_el h2 (Option.some.inj h1)
  have hlt : 0 < W.heap.size := by
    obtain ⟨c, hc⟩ : ∃ c, cl[0]? = some c := ⟨_, List.getElem?_eq_getElem (by omega)⟩
    have := World.block_lt_of_cell? W ⟨0, 0, none⟩ (u := c) (by rw [q 0]; simpa using hc)
    exact this
  refine ⟨hlt, fun i f hf j x hx => ?_⟩
  have hj : j < 5 := (List.getElem?_eq_some_iff.1 hx).1
  have hq := q (i * 5 + j)
  rw [hq]
  have := congrArg (fun l => l[j]?) (el i f hf)
  simp only [List.getElem?_take, hj, if_true, List.getElem?_drop] at this
  simpa [this] using hx

theorem env_of {W : World} {l : List (String × _)} (hl : l = [("arbor/value.types", Rows.laid_arbor_value_types), ("arbor/code.operations", Rows.laid_arbor_code_operations)]) (h : laidMetH Tryd.prog l W) : Env W := by
  subst hl
  have h1 := h.filter (fun x => x.1 == "arbor/value.types")
  have h2 := h.filter (fun x => x.1 == "arbor/code.operations")
  rw [show [("arbor/value.types", Rows.laid_arbor_value_types), ("arbor/code.operations", Rows.laid_arbor_code_operations)].filter (fun x => x.1 == "arbor/value.types") = [("arbor/value.types", Rows.laid_arbor_value_types)] by rfl] at h1
  rw [show [("arbor/value.types", Rows.laid_arbor_value_types), ("arbor/code.operations", Rows.laid_arbor_code_operations)].filter (fun x => x.1 == "arbor/code.operations") = [("arbor/code.operations", Rows.laid_arbor_code_operations)] by rfl] at h2
  exact ⟨ops_met h2, types_met h1⟩

end Go.Proofs.YtafniangljmjeabDoor
