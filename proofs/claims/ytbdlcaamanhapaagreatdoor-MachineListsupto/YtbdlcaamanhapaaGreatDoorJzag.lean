import Derived.Test.YtbdlcaamanhapaaGreatDoorRows
import Derived.Test.YtbdlcaamanhapaaGreatDoorJzaf
import Derived.ProofKit
import Derived.LaidLaws
import Derived.LaidMore
import Derived.LaidSub
import Derived.Lib.LaidTab
import Derived.OpenShut
import Derived.ShutString
import Derived.ChangeOld
import Derived.Deep.Slices
import Derived.Deep.Strs
import Derived.SizedLaws
import Derived.Deep.CondSized
import Derived.Test.YtbdlcaamanhapaaGreatDoorJzab
namespace Go.Proofs.YtbdlcaamanhapaaGreatDoor
open Go.ChangeShapes Go.WideShapes Go.ChangeAt Go.RowKit Go.Deep
set_option maxRecDepth 100000
theorem e2 : Tryz.prog.cellsOf 2 = 1 := by kernel_rfl
theorem e3 : Tryz.prog.cellsOf 3 = 1 := by kernel_rfl
theorem e4 : Tryz.prog.cellsOf 4 = 1 := by kernel_rfl
theorem e9 : Tryz.prog.cellsOf 9 = 1 := by kernel_rfl
theorem e79 : Tryz.prog.cellsOf 148 = 1 := by kernel_rfl
theorem e80 : Tryz.prog.cellsOf 149 = 1 := by kernel_rfl
theorem str_of (s : ByteArray) : Value.string s = str s.data.toList := by cases s; simp
theorem gOps : Tryz.prog.globalNamed "arbor/code.operations" = some 1 := by kernel_rfl
theorem tOps : (Tryz.prog.globals[1]?).map (·.type) = some 152 := by kernel_rfl
theorem c82 : Tryz.prog.cellsOf 151 = 5 := by kernel_rfl
theorem c83 : Tryz.prog.cellsOf 152 = 135 := by kernel_rfl
def OpA.dat (f : OpA) : DataW Unit := .agg [.lit (.string f.word), .lit (.int .i64 f.opd), .lit (.int .i64 (f.takes : Int)), .lit (.int .i64 f.of), .lit (.int .i64 f.gives)]
theorem ops_dat : (Rows.laid_arbor_code_operations : DataW Unit) = .agg (opsL.map OpA.dat) := rfl
theorem op_el {W : World} {m : Nat} {cs : List Value} {x : DataW Unit × List MemPlace} {f : OpA} (h : DataW.trod (fun _ => ()) Tryz.prog W 0 (fun _ => true) false m 151 cs = some x) (hx : x.1 = f.dat) : cs = f.cs := by
 obtain ⟨xs, k, _, rfl, hl, hlen, hf⟩ := DataW.trod_struct Tryz.underlying151 h
 have hl' : cs.length = 5 := hl.trans c82
 match xs, hlen, cs, hl' with
 | [y0, y1, y2, y3, y4], _, [a0, a1, a2, a3, a4], _ =>
  have h0 : DataW.trod (fun _ => ()) Tryz.prog W 0 (fun _ => true) false k 9 (([a0, a1, a2, a3, a4].drop 0).take (Tryz.prog.cellsOf 9)) = some y0 := hf 0 _ rfl
  have h1 : DataW.trod (fun _ => ()) Tryz.prog W 0 (fun _ => true) false k 148 (([a0, a1, a2, a3, a4].drop 1).take (Tryz.prog.cellsOf 148)) = some y1 := hf 1 _ rfl
  have h2 : DataW.trod (fun _ => ()) Tryz.prog W 0 (fun _ => true) false k 3 (([a0, a1, a2, a3, a4].drop 2).take (Tryz.prog.cellsOf 3)) = some y2 := hf 2 _ rfl
  have h3 : DataW.trod (fun _ => ()) Tryz.prog W 0 (fun _ => true) false k 149 (([a0, a1, a2, a3, a4].drop 3).take (Tryz.prog.cellsOf 149)) = some y3 := hf 3 _ rfl
  have h4 : DataW.trod (fun _ => ()) Tryz.prog W 0 (fun _ => true) false k 149 (([a0, a1, a2, a3, a4].drop 4).take (Tryz.prog.cellsOf 149)) = some y4 := hf 4 _ rfl
  rw [e9] at h0
  rw [e79] at h1
  rw [e3] at h2
  rw [e80] at h3 h4
  obtain ⟨s0, q0, w0, _⟩ := DataW.trod_string Tryz.underlying9 h0
  obtain ⟨n1, q1, w1, _⟩ := DataW.trod_int Tryz.underlying148 h1
  obtain ⟨n2, q2, w2, _⟩ := DataW.trod_int Tryz.underlying3 h2
  obtain ⟨n3, q3, w3, _⟩ := DataW.trod_int Tryz.underlying149 h3
  obtain ⟨n4, q4, w4, _⟩ := DataW.trod_int Tryz.underlying149 h4
  simp only [OpA.dat, DataW.agg.injEq, List.map_cons, List.map_nil, List.cons.injEq, and_true] at hx
  rw [w0, w1, w2, w3, w4] at hx
  simp at hx q0 q1 q2 q3 q4
  obtain ⟨r0, r1, r2, r3, r4⟩ := hx
  rw [q0, q1, q2, q3, q4, str_of, r0, r1, r2, r3, r4]
  rfl
theorem gTypes : Tryz.prog.globalNamed "arbor/value.types" = some 0 := by kernel_rfl
theorem tTypes : (Tryz.prog.globals[0]?).map (·.type) = some 147 := by kernel_rfl
theorem c92 : Tryz.prog.cellsOf 146 = 2 := by kernel_rfl
theorem c93 : Tryz.prog.cellsOf 147 = 8 := by kernel_rfl
theorem types_el {W : World} {m : Nat} {a b : Value} {x : DataW Unit × List MemPlace} {s : Txt} {n : Int} (h : DataW.trod (fun _ => ()) Tryz.prog W 0 (fun _ => true) false m 146 [a, b] = some x) (hx : x.1 = .agg [.lit (.string s), .lit (.int .i64 n)]) : a = str s ∧ b = .int .i64 n := by
 obtain ⟨xs, k, _, rfl, hl, hlen, hf⟩ := DataW.trod_struct Tryz.underlying146 h
 match xs, hlen with
 | [y0, y1], _ =>
  have h0 : DataW.trod (fun _ => ()) Tryz.prog W 0 (fun _ => true) false k 9 (([a, b].drop 0).take (Tryz.prog.cellsOf 9)) = some y0 := hf 0 _ rfl
  have h1 : DataW.trod (fun _ => ()) Tryz.prog W 0 (fun _ => true) false k 3 (([a, b].drop 1).take (Tryz.prog.cellsOf 3)) = some y1 := hf 1 _ rfl
  rw [e9] at h0
  rw [e3] at h1
  obtain ⟨s', q0, hs', _⟩ := DataW.trod_string Tryz.underlying9 h0
  obtain ⟨n', q1, hn', _⟩ := DataW.trod_int Tryz.underlying3 h1
  simp only [DataW.agg.injEq, List.map_cons, List.map_nil, List.cons.injEq, and_true] at hx
  rw [hs', hn'] at hx
  simp at hx q0 q1
  rw [q0, q1, str_of, hx.1, hx.2]
  exact ⟨rfl, rfl⟩
theorem types_met {W : World} (h : laidMetH Tryz.prog [("arbor/value.types", Rows.laid_arbor_value_types)] W) : Types W := by
 rw [MakeChecks.laidMetH_plain _ _ _ (by kernel_rfl)] at h
 obtain ⟨ps, ⟨g0, t0, cs0, f0, p0, q0, hg0, ht0, hv0, hd0, _, _⟩, _, _⟩ := h
 obtain rfl := Option.some.inj (gTypes.symm.trans hg0)
 obtain rfl := Option.some.inj (tTypes.symm.trans ht0)
 obtain ⟨xs, m1, rfl, hx1, hlen, hn3, hel⟩ := DataW.trod_array Tryz.underlying147 hd0
 have q := fun j => World.var?_cell hg0 hv0 j
 obtain ⟨cl⟩ := cs0
 have hlen' : cl.length = 8 := hlen.trans c93
 have hel' : ∀ i, i < 4 → DataW.trod (fun _ => ()) Tryz.prog W 0 (fun _ => true) false m1 146 ((cl.drop (i * 2)).take 2) = xs[i]? := fun i hi => by
  have := hel i hi
  rw [c92] at this
  exact this
 clear hel hlen hd0
 match cl, hlen', xs, hn3 with
 | [c0, c1, c2, c3, c4, c5, c6, c7], _, [x0, x1, x2, x3], _ =>
  simp only [Prod.mk.injEq, Rows.laid_arbor_value_types, DataW.agg.injEq, List.map_cons, List.map_nil, List.cons.injEq, and_true] at hx1
  obtain ⟨⟨e0, e1, e2, e3⟩, _⟩ := hx1
  have h0 := types_el (hel' 0 (by decide)) e0.symm
  have h1 := types_el (hel' 1 (by decide)) e1.symm
  have h2 := types_el (hel' 2 (by decide)) e2.symm
  have h3 := types_el (hel' 3 (by decide)) e3.symm
  have hq0 := q 0
  have hlt : 0 < W.heap.size := by
   have := World.block_lt_of_cell? W ⟨0, 0, none⟩ (u := c0) (by rw [hq0]; rfl)
   exact this
  refine ⟨hlt, fun j x hx => ?_⟩
  rw [q j]
  obtain ⟨rfl, rfl⟩ := h0
  obtain ⟨rfl, rfl⟩ := h1
  obtain ⟨rfl, rfl⟩ := h2
  obtain ⟨rfl, rfl⟩ := h3
  exact hx
theorem ops_met {W : World} (h : laidMetH Tryz.prog [("arbor/code.operations", Rows.laid_arbor_code_operations)] W) : Ops W := by
 rw [MakeChecks.laidMetH_plain _ _ _ (by kernel_rfl)] at h
 obtain ⟨ps, ⟨g0, t0, cs0, f0, p0, q0, hg0, ht0, hv0, hd0, _, _⟩, _, _⟩ := h
 obtain rfl := Option.some.inj (gOps.symm.trans hg0)
 obtain rfl := Option.some.inj (tOps.symm.trans ht0)
 obtain ⟨xs, m1, rfl, hx1, hlen, hn3, hel⟩ := DataW.trod_array Tryz.underlying152 hd0
 have q := fun j => World.var?_cell hg0 hv0 j
 obtain ⟨cl⟩ := cs0
 have hlen' : cl.length = 135 := hlen.trans c83
 have hxs : xs.map (·.1) = opsL.map OpA.dat := by
  have := (Prod.mk.inj hx1).1
  rw [ops_dat] at this
  exact (DataW.agg.inj this).symm
 have el : ∀ (i : Nat) (f : OpA), opsL[i]? = some f → (cl.drop (i * 5)).take 5 = f.cs := fun i f hf => by
  have hi : i < 27 := (List.getElem?_eq_some_iff.1 hf).1
  have h1 : (xs.map (·.1))[i]? = some f.dat := by rw [hxs]; simp [hf]
  cases hx : xs[i]? with
  | none => rw [List.getElem?_map, hx] at h1; cases h1
  | some x =>
   rw [List.getElem?_map, hx] at h1
   have h2 := hel i hi
   rw [c82, hx] at h2
   exact op_el h2 (Option.some.inj h1)
 have hlt : 1 < W.heap.size := by
  obtain ⟨c, hc⟩ : ∃ c, cl[0]? = some c := ⟨_, List.getElem?_eq_getElem (by omega)⟩
  have := World.block_lt_of_cell? W ⟨1, 0, none⟩ (u := c) (by rw [q 0]; simpa using hc)
  exact this
 refine ⟨hlt, fun i f hf j x hx => ?_⟩
 have hj : j < 5 := (List.getElem?_eq_some_iff.1 hx).1
 have hq := q (i * 5 + j)
 rw [hq]
 have := congrArg (fun l => l[j]?) (el i f hf)
 simp only [List.getElem?_take, hj, if_true, List.getElem?_drop] at this
 simpa [this] using hx
theorem env_of {W : World} {l : List (String × _)} (hl : l = [("arbor/value.types", Rows.laid_arbor_value_types), ("arbor/code.operations", Rows.laid_arbor_code_operations)]) (h : laidMetH Tryz.prog l W) : Env W := by
 subst hl
 have h1 := h.filter (fun x => x.1 == "arbor/value.types")
 have h2 := h.filter (fun x => x.1 == "arbor/code.operations")
 rw [show [("arbor/value.types", Rows.laid_arbor_value_types), ("arbor/code.operations", Rows.laid_arbor_code_operations)].filter (fun x => x.1 == "arbor/value.types") = [("arbor/value.types", Rows.laid_arbor_value_types)] by rfl] at h1
 rw [show [("arbor/value.types", Rows.laid_arbor_value_types), ("arbor/code.operations", Rows.laid_arbor_code_operations)].filter (fun x => x.1 == "arbor/code.operations") = [("arbor/code.operations", Rows.laid_arbor_code_operations)] by rfl] at h2
 exact ⟨ops_met h2, types_met h1⟩
theorem i64_hi {x : Int} (h : (Lit.int .i64 x).wf = true) : -9223372036854775808 ≤ x ∧ x ≤ 9223372036854775807 := by
 simp [Lit.wf, IntKind.min, IntKind.max, IntKind.signed, IntKind.bits] at h
 omega
theorem e52 : Tryz.prog.cellsOf 60 = 3 := by kernel_rfl
instance : Inhabited ValA := ⟨⟨0, 0, []⟩⟩
theorem flat_at {α : Type} (g : α → List Value) (sz : Nat) (hs : 0 < sz) (hg : ∀ x, (g x).length = sz) : ∀ (l : List α) (j : Nat), (l.flatMap g)[j]? = (l[j / sz]?).bind fun x => (g x)[j % sz]?
 | [], j => by simp
 | y :: r, j => by
  simp only [List.flatMap_cons]
  by_cases h : j < sz
  ·rw [List.getElem?_append_left (by rw [hg]; exact h), Nat.div_eq_of_lt h, Nat.mod_eq_of_lt h]
   rfl
  ·rw [List.getElem?_append_right (by rw [hg]; omega), hg, flat_at g sz hs hg r (j - sz)]
   have h1 : j / sz = (j - sz) / sz + 1 := by rw [Nat.div_eq j sz, if_pos ⟨hs, by omega⟩]
   have h2 : j % sz = (j - sz) % sz := Nat.mod_eq_sub_mod (by omega)
   rw [h1, h2]
   rfl
section
variable {H : Type} {enc : TypeId × Value → H} {W : World} {fuel : Nat}
theorem rowsOf {α : Type} [Inhabited α] (g : α → List Value) (sz : Nat) (hs : 0 < sz) (hg : ∀ x, (g x).length = sz) {t e : TypeId} (ht : Tryz.prog.underlying t = some (.slice e)) (hc : Tryz.prog.cellsOf e = sz) {Q : α → Prop}
  (el : ∀ (fuel : Nat) (cs : List Value) (x : DataW H × List MemPlace), DataW.trod enc Tryz.prog W 0 (fun _ => true) true fuel e cs = some x → ∃ a, cs = g a ∧ Q a)
  {c : Value} {x : DataW H × List MemPlace} (h : DataW.trod enc Tryz.prog W 0 (fun _ => true) true fuel t [c] = some x) :
  ∃ l : List α, Ws W c l.length (l.flatMap g) ∧ ∀ a ∈ l, Q a := by
 rcases open_slice ht h with ⟨hcs, _⟩ | ⟨a, len, cap, m, n, D, Pl, hcs, _, hl, hm, hmm, hx, hel⟩
 ·simp at hcs
  subst hcs
  exact ⟨[], ⟨⟨_, _, rfl⟩, fun h0 => by simp at h0, fun ao m cap e => by simp at e; omega⟩, fun _ h => by cases h⟩
 ·simp at hcs
  subst hcs
  simp at hmm
  rw [hc] at hel
  have hev : ∀ i, i < len → ∃ p : α, (∀ j v, (g p)[j]? = some v → W.cell? ((a.add (i * sz)).add j) = some v) ∧ Q p := by
   intro i hi
   obtain ⟨cs', hcs', htr⟩ := hel i (by omega)
   obtain ⟨p, rfl, hq⟩ := el _ _ _ htr
   obtain ⟨_, _, hcc⟩ := World.cells?_some hcs'
   refine ⟨p, fun j v hv => ?_, hq⟩
   have hj := (List.getElem?_eq_some_iff.1 hv).1
   have := hcc j (by rw [hg] at hj; omega)
   rw [this]
   simpa using hv
  obtain ⟨f, hf⟩ := choose_lt hev
  refine ⟨(List.range len).map f, ⟨⟨_, _, by simp; exact ⟨rfl, rfl⟩⟩, fun h0 => ?_, fun ao m cap' e => by simp at e; omega⟩, ?_⟩
  ·simp at h0
   have hg0 : 0 < (g (f 0)).length := by rw [hg]; exact hs
   have hc0 := (hf 0 h0).1 0 _ (List.getElem?_eq_getElem hg0)
   have hspot : a.spot = none := by
    have := World.cell?_spot hc0
    simpa [Addr.add] using this
   obtain ⟨b, off, spot⟩ := a
   simp at hspot
   subst hspot
   refine ⟨b, off, cap, by simp, ?_, fun j v hv => ?_⟩
   ·have := World.block_lt_of_cell? W _ hc0
    simpa [Addr.add] using this
   ·rw [flat_at g sz hs hg] at hv
    cases hi : ((List.range len).map f)[j / sz]? with
    | none => rw [hi] at hv; cases hv
    | some p =>
     rw [hi] at hv
     have hil : j / sz < len := by
      have := (List.getElem?_eq_some_iff.1 hi).1
      simpa using this
     have hpe : f (j / sz) = p := by simpa [hil] using hi
     have := (hf (j / sz) hil).1 (j % sz) v (by rw [hpe]; exact hv)
     simp only [Addr.add_lit] at this
     rw [show off + j = off + j / sz * sz + j % sz by have := Nat.div_add_mod j sz; rw [Nat.mul_comm] at this; omega]
     exact this
  ·intro y hy
   obtain ⟨i, hi, rfl⟩ := List.mem_map.1 hy
   exact (hf i (List.mem_range.1 hi)).2
theorem ins_read (fuel : Nat) (cs : List Value) (x : DataW H × List MemPlace) (h : DataW.trod enc Tryz.prog W 0 (fun _ => true) true fuel 60 cs = some x) : ∃ f : ValA, cs = f.cs ∧ (-9223372036854775808 ≤ f.n ∧ f.n ≤ 9223372036854775807) := by
 obtain ⟨xs, m, hm, _, hl, hlen, hf⟩ := DataW.trod_struct Tryz.underlying60 h
 have hl' : cs.length = 3 := hl.trans e52
 match xs, hlen, cs, hl' with
 | [y0, y1, y2], _, [c0, c1, c2], _ =>
  have h0 : DataW.trod enc Tryz.prog W 0 (fun _ => true) true m 3 (([c0, c1, c2].drop 0).take (Tryz.prog.cellsOf 3)) = some y0 := hf 0 _ rfl
  have h1 : DataW.trod enc Tryz.prog W 0 (fun _ => true) true m 2 (([c0, c1, c2].drop 1).take (Tryz.prog.cellsOf 2)) = some y1 := hf 1 _ rfl
  have h2 : DataW.trod enc Tryz.prog W 0 (fun _ => true) true m 9 (([c0, c1, c2].drop 2).take (Tryz.prog.cellsOf 9)) = some y2 := hf 2 _ rfl
  rw [e3] at h0
  rw [e2] at h1
  rw [e9] at h2
  simp only [List.drop_zero, List.take_succ_cons, List.take_zero, List.drop_succ_cons] at h0 h1 h2
  obtain ⟨k, q0, _, _⟩ := DataW.trod_int Tryz.underlying3 h0
  obtain ⟨i, q1, _, w1⟩ := DataW.trod_int Tryz.underlying2 h1
  obtain ⟨s, q2, _, _⟩ := DataW.trod_string Tryz.underlying9 h2
  simp at q0 q1 q2
  exact ⟨⟨k, i, s.data.toList⟩, by rw [q0, q1, q2, str_of]; rfl, i64_hi w1⟩
end
instance : Inhabited Wq := ⟨⟨[], 0, false⟩⟩
theorem e62 : Tryz.prog.cellsOf 58 = 3 := by kernel_rfl
theorem e39 : Tryz.prog.cellsOf 24 = 1 := by kernel_rfl
theorem e37 : Tryz.prog.cellsOf 22 = 1 := by kernel_rfl
theorem b62 : Tryz.prog.bytesOf 58 = 32 := by kernel_rfl
section
variable {H : Type} {enc : TypeId × Value → H} {W : World}
theorem field_read (fuel : Nat) (cs : List Value) (x : DataW H × List MemPlace) (h : DataW.trod enc Tryz.prog W 0 (fun _ => true) true fuel 58 cs = some x) : ∃ f : Wq, cs = f.cs ∧ True := by
 obtain ⟨xs, m, hm, _, hl, hlen, hf⟩ := DataW.trod_struct Tryz.underlying58 h
 have hl' : cs.length = 3 := hl.trans e62
 match xs, hlen, cs, hl' with
 | [y0, y1, y2], _, [c0, c1, c2], _ =>
  have h0 : DataW.trod enc Tryz.prog W 0 (fun _ => true) true m 9 (([c0, c1, c2].drop 0).take (Tryz.prog.cellsOf 9)) = some y0 := hf 0 _ rfl
  have h1 : DataW.trod enc Tryz.prog W 0 (fun _ => true) true m 3 (([c0, c1, c2].drop 1).take (Tryz.prog.cellsOf 3)) = some y1 := hf 1 _ rfl
  have h2 : DataW.trod enc Tryz.prog W 0 (fun _ => true) true m 4 (([c0, c1, c2].drop 2).take (Tryz.prog.cellsOf 4)) = some y2 := hf 2 _ rfl
  rw [e9] at h0
  rw [e3] at h1
  rw [e4] at h2
  simp only [List.drop_zero, List.take_succ_cons, List.take_zero, List.drop_succ_cons] at h0 h1 h2
  obtain ⟨s, q0, _, _⟩ := DataW.trod_string Tryz.underlying9 h0
  obtain ⟨k, q1, _, _⟩ := DataW.trod_int Tryz.underlying3 h1
  obtain ⟨o, q2, _⟩ := DataW.trod_bool Tryz.underlying4 h2
  simp at q0 q1 q2
  exact ⟨⟨s.data.toList, k, o⟩, by rw [q0, q1, q2, str_of]; rfl, trivial⟩
theorem lenF {fuel : Nat} {c : Value} {x : DataW H × List MemPlace} (h : DataW.trod enc Tryz.prog W 0 (fun _ => true) true fuel 22 [c] = some x) (hw : ∀ n ∈ x.1.weights Tryz.prog 22, n ≤ reachBytes) {n : Nat} {xs : List Value} (hr : Ws W c n xs) : n ≤ 4398046511104 := by
 obtain ⟨ao, cp, hform⟩ := hr.form
 rcases DataW.trod_slice Tryz.underlying22 h with ⟨hcs, _⟩ | ⟨a, len, cap, elems, rest, n', hn, hcs, hxx, _, hlc, _, hel, _, _, _⟩
 ·simp at hcs
  rw [hcs] at hform
  simp at hform
  omega
 ·have := hw ((elems.length + rest.length) * 32) (by
   rw [hxx]
   simp only [DataW.weights, Tryz.underlying22, List.length_map, b62]
   exact List.mem_cons_self ..)
  unfold reachBytes at this
  simp at hcs
  rw [hcs] at hform
  simp at hform
  omega
theorem schema_in {fuel : Nat} {cs : List Value} {x : DataW H × List MemPlace} (h : DataW.trod enc Tryz.prog W 0 (fun _ => true) true fuel 24 cs = some x) (hw : ∀ n ∈ x.1.weights Tryz.prog 24, n ≤ reachBytes) :
  ∃ (sv : Value) (S : List Wq), cs = [sv] ∧ Wt W sv S ∧ S.length ≤ 4398046511104 := by
 obtain ⟨xs, m, hm, hx, hl, hlen, hf⟩ := DataW.trod_struct Tryz.underlying24 h
 have hl' : cs.length = 1 := hl.trans e39
 match xs, hlen, cs, hl' with
 | [y0], _, [c0], _ =>
  have h0 : DataW.trod enc Tryz.prog W 0 (fun _ => true) true m 22 (([c0].drop 0).take (Tryz.prog.cellsOf 22)) = some y0 := hf 0 _ rfl
  rw [e37] at h0
  simp only [List.drop_zero, List.take_succ_cons, List.take_zero] at h0
  have hw0 : ∀ n ∈ y0.1.weights Tryz.prog 22, n ≤ reachBytes := fun n hn => hw n (by
   rw [hx]
   simp only [DataW.weights, Tryz.underlying24, List.map_cons, List.map_nil, DataW.weightsEach, List.append_nil]
   exact hn)
  obtain ⟨l, hl, _⟩ := rowsOf Wq.cs 3 (by omega) (fun _ => rfl) Tryz.underlying22 e62 field_read h0
  exact ⟨c0, l, rfl, hl, lenF h0 hw0 hl⟩
end
end Go.Proofs.YtbdlcaamanhapaaGreatDoor
namespace Go.Proofs.YtbdlcaamanhapaaGreatDoor
open Go.RowKit Go.Maps
set_option maxRecDepth 100000
set_option maxHeartbeats 1000000
def ks (l : List Int) : List Value := l.map fun k => Value.int .i64 k
theorem ks_length (l : List Int) : (ks l).length = l.length := by simp [ks]
def KsAt (w : World) (v : Value) (l : List Int) : Prop := Ws w v l.length (ks l)
theorem KsAt.keepF {w w' : World} {v : Value} {l : List Int} (h : KsAt w v l) (hk : Wp (fun _ => False) w w') : KsAt w' v l := Ws.keepF h hk
theorem KsAt.cells {w : World} {v : Value} {l : List Int} (h : KsAt w v l) (h0 : 0 < l.length) :
  ∃ b off cap, v = .slice (some ⟨b, off, none⟩) l.length cap ∧ b < w.heap.size ∧ ∀ i x, l[i]? = some x → w.cell? ⟨b, off + i, none⟩ = some (.int .i64 x) := by
 obtain ⟨b, off, cap, e, hb, hc⟩ := Ws.cells h h0
 exact ⟨b, off, cap, e, hb, fun i x hx => hc i _ (by simp [ks, hx])⟩
def fldT (S : List Wq) (i : ValA) : Int := ((S[i.n.toNat]?).map Wq.type).getD 0
def ofF (S : List Wq) (i : ValA) (k : Int) : Int := if k = 4 then fldT S i else k
def allowsB (o k : Int) : Bool := if o = 5 then decide (k = 1) || decide (k = 3) else if o = 6 then true else decide (o = k)
def takesB (S : List Wq) (i : ValA) (vals : List Int) : Bool := vals.all fun k => decide (k = vals.headD 0) && allowsB (ofF S i (opA i.kind).of) k
def afterB (S : List Wq) (i : ValA) (st : List Int) : List Int := st.take (st.length - (opA i.kind).takes) ++ (if (opA i.kind).gives ≠ 0 then [ofF S i (opA i.kind).gives] else [])
def behB (S : List Wq) (i : ValA) (st : List Int) : Option (List Int) :=
 if st.length < (opA i.kind).takes then none
 else if takesB S i (st.drop (st.length - (opA i.kind).takes)) = false then none
 else if (afterB S i st).length ≤ 16 then some (afterB S i st) else none
def rightF (S : List Wq) (i : ValA) : Bool :=
 if (opA i.kind).opd = 3 then decide (i.n < S.length)
 else if (opA i.kind).opd = 4 then decide (i.n < S.length) && ((S[i.n.toNat]?).map Wq.opt).getD false
 else if (opA i.kind).opd = 5 then decide (i.n < S.length) && decide (fldT S i = 1) else true
theorem allows_v (o k : Int) (w : World) : Calls Tryz.prog 147 #[.int .i64 o, .int .i64 k] w fun e w' => e = .returned (.bool (allowsB o k)) ∧ w' = w := by
 go_enter Tryz.func147, Tryz.ntmps147
 go_wp2
 all_goals
  go_ret
  refine ⟨ret_bool ?_, rfl⟩
  apply Bool.eq_iff_iff.2
  simp_all [allowsB]
theorem isJump_v (i : ValA) (w : World) (hO : Ops w) (ho : opdB i.kind ≠ -1) : Calls Tryz.prog 110 #[i.v] w fun e w' => e = .returned (.bool (decide ((opA i.kind).opd = 6))) ∧ Wp (fun _ => False) w w' := by
 obtain ⟨k, n, s⟩ := i
 unfold ValA.v
 simp only at *
 obtain ⟨h1, h2⟩ := opdB_range ho
 obtain ⟨m, rfl⟩ := Int.eq_ofNat_of_zero_le (show 0 ≤ k by omega)
 obtain ⟨HX, hxb, hxc⟩ := boxed w #[.int .i64 (m : Int), .int .i64 n, str s] 60
 have f0 := hxc 0 (.int .i64 (m : Int)) rfl
 have g1 := ((hO.keepF (zA HX)).at (m := m) (by omega)).1
 have i0 : (0 : Int) ≤ (m : Int) := by omega
 have i1 : (m : Int) < 27 := by omega
 clear hxc hO hxb ho h1 h2
 generalize (opA (m : Int)).opd = d at *
 go_enter Tryz.func110, Tryz.ntmps110
 go_wp2
 go_ret
 exact ⟨ret_bool (by apply Bool.eq_iff_iff.2; simp), (Wp.refl _ _).alloc _⟩
theorem target_v (a : Nat) (i : ValA) (w : World) (ha : a ≤ 4096) (h0 : 0 ≤ i.n) (h1 : i.n ≤ 255) : Calls Tryz.prog 111 #[.int .i64 (a : Int), i.v] w fun e w' => e = .returned (.int .i64 ((a + 1 + i.n.toNat : Nat) : Int)) ∧ Wp (fun _ => False) w w' := by
 obtain ⟨k, n, s⟩ := i
 unfold ValA.v
 simp only at *
 obtain ⟨HX, hxb, hxc⟩ := boxed w #[.int .i64 k, .int .i64 n, str s] 60
 have f1 := hxc 1 (.int .i64 n) rfl
 clear hxc hxb
 go_enter Tryz.func111, Tryz.ntmps111
 go_wp2
 go_ret
 exact ⟨ret_int (by omega), (Wp.refl _ _).alloc _⟩
theorem ofField_v (S : List Wq) (so : Option Addr) (sc : Nat) (i : ValA) (k : Int) (w : World) (hS : Wt w (.slice so S.length sc) S) (hk : k = 4 → 0 ≤ i.n ∧ i.n < S.length) : Calls Tryz.prog 139 #[.agg #[.slice so S.length sc], i.v, .int .i64 k] w fun e w' => e = .returned (.int .i64 (ofF S i k)) ∧ Wp (fun _ => False) w w' := by
 obtain ⟨kd, n, s⟩ := i
 unfold ValA.v
 simp only at *
 obtain ⟨HX, hxb, hxc⟩ := boxed w #[.slice so S.length sc] 24
 obtain ⟨HY, hyb, hyc⟩ := boxed (w.alloc (.cells #[.slice so S.length sc] 24)) #[.int .i64 kd, .int .i64 n, str s] 60
 have x0 := ((zA HY).cell hxb id).trans (hxc 0 (.slice so S.length sc) rfl)
 have y1 := hyc 1 (.int .i64 n) rfl
 rw [World.size_alloc] at y1
 have HK := zB ((zA HX).trans (zA HY))
 by_cases h4 : k = 4
 ·obtain ⟨h0, h1⟩ := hk h4
  obtain ⟨m, rfl⟩ := Int.eq_ofNat_of_zero_le h0
  obtain ⟨f, hf⟩ : ∃ f, S[m]? = some f := ⟨_, List.getElem?_eq_getElem (by omega)⟩
  obtain ⟨fb, foff, fc, fe, hfb, hfc⟩ := (hS.keepF (zA HK)).cells (by omega)
  simp only [Value.slice.injEq] at fe
  obtain ⟨rfl, _, rfl⟩ := fe
  have c1 := (hfc m f hf).2.1
  have HE : Hid (ofF S ⟨kd, m, s⟩ k = f.type) := by show _ = _; simp [ofF, h4, fldT, hf]
  have b4 : (k == 4) = true := by simpa using h4
  have i0 : (0 : Int) ≤ (m : Int) := by omega
  clear hfc hf hS hxc hyc hk h4 HX HY
  go_enter Tryz.func139, Tryz.ntmps139
  go_wp2_with fail
  go_ret
  exact ⟨ret_int (zA HE).symm, zA HK⟩
 ·have HE : Hid (ofF S ⟨kd, n, s⟩ k = k) := by show _ = _; simp [ofF, h4]
  have b4 : (k == 4) = false := by simpa using h4
  clear hS hxc hyc hk h4 HX HY
  go_enter Tryz.func139, Tryz.ntmps139
  go_wp2_with fail
  go_ret
  exact ⟨ret_int (zA HE).symm, zA HK⟩
theorem equal_v (w : World) (va vb : Value) (la lb : List Int) (ha : KsAt w va la) (hb : KsAt w vb lb) (hla : la.length ≤ 4096) :
  Calls Tryz.prog 136 #[va, vb] w fun e w' => e = .returned (.bool (decide (la = lb))) ∧ ∃ n, w' = w.drewN n := by
 obtain ⟨ao, capa, rfl⟩ := Ws.form ha
 obtain ⟨bo, capb, rfl⟩ := Ws.form hb
 by_cases hlen : la.length = lb.length
 ·have hne : ((la.length : Int) != (lb.length : Int)) = false := by simp [hlen]
  have HA := zB ha
  have HB := zB hb
  have HL := zB hlen
  clear ha hb hlen
  go_enter Tryz.func136, Tryz.ntmps136
  go_wp2
  go_loopw [13] (fun i wr => ∃ k : Nat, k ≤ la.length ∧ i = .int .i64 k ∧ Hid (la.take k = lb.take k) ∧ ∃ n, wr = w.drewN n) (fun i _ => la.length - (intOf i).toNat)
  case atStart => exact ⟨0, Nat.zero_le _, rfl, rfl, 0, rfl⟩
  case round =>
   obtain ⟨k, hk, rfl, HT, n, rfl⟩ := hrel
   by_cases hlt : k < la.length
   ·have hltb : k < lb.length := by have := zA HL; omega
    obtain ⟨b1, o1, c1, e1, _, hc1⟩ := (zA HA).cells (by omega)
    obtain ⟨b2, o2, c2, e2, _, hc2⟩ := (zA HB).cells (by omega)
    simp at e1 e2
    obtain ⟨rfl, rfl⟩ := e1
    obtain ⟨rfl, rfl⟩ := e2
    obtain ⟨x, hx⟩ : ∃ x, la[k]? = some x := ⟨_, List.getElem?_eq_getElem hlt⟩
    obtain ⟨y, hy⟩ : ∃ y, lb[k]? = some y := ⟨_, List.getElem?_eq_getElem hltb⟩
    have q1 := hc1 k x hx
    have q2 := hc2 k y hy
    have i1 : (k : Int) < (la.length : Int) := by omega
    have i2 : (k : Int) < (lb.length : Int) := by omega
    have HX := zB hx
    have HY := zB hy
    clear hc1 hc2 hx hy
    go_wp2_with fail
    go_quiet (fail)
    by_cases hxy : x = y
    ·subst hxy
     go_wp2
     go_roundw
     case rel => exact ⟨k + 1, by omega, by go_num, take_succ_eq (zA HT) (zA HX) (zA HY), _, rfl⟩
     case measure => simp [intOf]; omega
    ·have hb' : (x != y) = true := by rw [bne_iff_ne]; exact hxy
     have HN := zB hxy
     clear hxy
     go_wp2
     go_ret
     exact ⟨ret_bool (by symm; rw [decide_eq_false_iff_not]; exact get_ne (zA HX) (zA HY) (zA HN)), n + nq, by simp⟩
   ·have HF := zB (take_end (zA HL) (by omega) (zA HT))
    go_wp2
    go_ret
    exact ⟨ret_bool (by symm; rw [decide_eq_true_iff]; exact zA HF), _, rfl⟩
 ·have hne : ((la.length : Int) != (lb.length : Int)) = true := by rw [bne_iff_ne]; omega
  have HL := zB hlen
  clear hlen
  go_enter Tryz.func136, Tryz.ntmps136
  go_wp2
  go_ret
  exact ⟨ret_bool (by symm; rw [decide_eq_false_iff_not]; intro e; exact zA HL (by rw [e])), 0, rfl⟩
set_option maxHeartbeats 2000000
theorem form_field {i : ValA} (h : formB i = 0) (h3 : (opA i.kind).opd = 3 ∨ (opA i.kind).opd = 4 ∨ (opA i.kind).opd = 5) : 0 ≤ i.n ∧ i.n < 8 := by
 obtain ⟨ho, hr⟩ := formB_zero h
 have hb : opdB i.kind = 3 := by
  rcases opd_cases ho with ⟨e1, e2⟩ | ⟨e1, e2⟩ | ⟨e1, e2⟩ | ⟨e1, e2⟩ | ⟨e1, e2⟩ | ⟨e1, e2⟩ | ⟨e1, e2⟩
  all_goals first | exact e2 | (rw [e1] at h3; simp at h3)
 exact ((rightB_at hr).2.2.2.1 hb).1
theorem form_jump {i : ValA} (h : formB i = 0) (h6 : (opA i.kind).opd = 6) : 0 ≤ i.n ∧ i.n ≤ 255 := by
 obtain ⟨ho, hr⟩ := formB_zero h
 have hb : opdB i.kind = 4 := by
  rcases opd_cases ho with ⟨e1, e2⟩ | ⟨e1, e2⟩ | ⟨e1, e2⟩ | ⟨e1, e2⟩ | ⟨e1, e2⟩ | ⟨e1, e2⟩ | ⟨e1, e2⟩
  all_goals first | exact e2 | (rw [e1] at h6; simp at h6)
 exact ((rightB_at hr).2.2.2.2 hb).1
theorem rightField_v (S : List Wq) (so : Option Addr) (sc : Nat) (i : ValA) (w : World) (hO : Ops w) (hS : Wt w (.slice so S.length sc) S) (hf : formB i = 0) : Calls Tryz.prog 108 #[.agg #[.slice so S.length sc], i.v] w fun e w' => e = .returned (.bool (rightF S i)) ∧ Wp (fun _ => False) w w' := by
 obtain ⟨ho, _⟩ := formB_zero hf
 have hff := form_field hf
 obtain ⟨kd, n, s⟩ := i
 unfold ValA.v
 simp only at *
 obtain ⟨h1, h2⟩ := opdB_range ho
 obtain ⟨m, rfl⟩ := Int.eq_ofNat_of_zero_le (show 0 ≤ kd by omega)
 obtain ⟨HX, hxb, hxc⟩ := boxed w #[.slice so S.length sc] 24
 obtain ⟨HY, hyb, hyc⟩ := boxed (w.alloc (.cells #[.slice so S.length sc] 24)) #[.int .i64 (m : Int), .int .i64 n, str s] 60
 have x0 := ((zA HY).cell hxb id).trans (hxc 0 (.slice so S.length sc) rfl)
 have y0 := hyc 0 (.int .i64 (m : Int)) rfl
 have y1 := hyc 1 (.int .i64 n) rfl
 rw [World.size_alloc] at y0 y1
 have HK := zB ((zA HX).trans (zA HY))
 have g1 := ((hO.keepF (zA HK)).at (m := m) (by omega)).1
 have i0 : (0 : Int) ≤ (m : Int) := by omega
 have i1 : (m : Int) < 27 := by omega
 have HS := zB (hS.keepF (zA HK))
 have HRF : Hid (rightF S ⟨m, n, s⟩ = if (opA (m : Int)).opd = 3 then decide (n < S.length) else if (opA (m : Int)).opd = 4 then decide (n < S.length) && ((S[n.toNat]?).map Wq.opt).getD false else if (opA (m : Int)).opd = 5 then decide (n < S.length) && decide (((S[n.toNat]?).map Wq.type).getD 0 = 1) else true) := rfl
 rw [zA HRF]
 clear hxc hyc hO hS HX HY ho h1 h2 hxb hyb hf HRF
 generalize (opA (m : Int)).opd = d at *
 by_cases d3 : d = 3
 ·subst d3
  go_enter Tryz.func108, Tryz.ntmps108
  go_wp2
  go_ret
  exact ⟨ret_bool (by simp), zA HK⟩
 by_cases d4 : d = 4 ∨ d = 5
 ·obtain ⟨n0, n8⟩ := hff (by omega)
  obtain ⟨p, rfl⟩ := Int.eq_ofNat_of_zero_le n0
  by_cases hlt : p < S.length
  ·obtain ⟨f, hf⟩ : ∃ f, S[p]? = some f := ⟨_, List.getElem?_eq_getElem hlt⟩
   obtain ⟨fb, foff, fc, fe, hfb, hfc⟩ := (zA HS).cells (by omega)
   simp only [Value.slice.injEq] at fe
   obtain ⟨rfl, _, rfl⟩ := fe
   have c1 := (hfc p f hf).2.1
   have c2 := (hfc p f hf).2.2
   have j1 : (p : Int) < (S.length : Int) := by omega
   have j2 : decide ((p : Int) < (S.length : Int)) = true := decide_eq_true j1
   have HF := zB hf
   clear hfc hf hff
   rcases d4 with rfl | rfl
   ·go_enter Tryz.func108, Tryz.ntmps108
    go_wp2
    go_ret
    refine ⟨ret_bool ?_, zA HK⟩
    have hf := zA HF
    obtain ⟨_, he⟩ := List.getElem?_eq_some_iff.mp hf
    first | (rw [he]; done) | (simp [he]; done) | (rw [← he]; done) | (subst he; simp; done)
   ·go_enter Tryz.func108, Tryz.ntmps108
    go_wp2
    go_ret
    refine ⟨ret_bool ?_, zA HK⟩
    have hf := zA HF
    obtain ⟨_, he⟩ := List.getElem?_eq_some_iff.mp hf
    rw [he, Bool.eq_iff_iff, beq_iff_eq, decide_eq_true_iff]
  ·have j2 : decide ((p : Int) < (S.length : Int)) = false := decide_eq_false (by omega)
   clear hff
   rcases d4 with rfl | rfl
   ·go_enter Tryz.func108, Tryz.ntmps108
    go_wp2
    go_ret
    refine ⟨ret_bool ?_, zA HK⟩
    simp
   ·go_enter Tryz.func108, Tryz.ntmps108
    go_wp2
    go_ret
    refine ⟨ret_bool ?_, zA HK⟩
    simp
 ·have b3 : (d == 3) = false := by simpa using d3
  have b4 : (d == 4) = false := by simp; omega
  have b5 : (d == 5) = false := by simp; omega
  have HE : Hid ((if d = 3 then decide (n < S.length) else if d = 4 then decide (n < S.length) && ((S[n.toNat]?).map Wq.opt).getD false else if d = 5 then decide (n < S.length) && decide (((S[n.toNat]?).map Wq.type).getD 0 = 1) else true) = true) := by show _ = _; rw [if_neg d3, if_neg (by omega), if_neg (by omega)]
  rw [zA HE]
  clear d3 d4 hff
  go_enter Tryz.func108, Tryz.ntmps108
  go_wp2
  go_ret
  exact ⟨rfl, zA HK⟩
def scanI (S : List Wq) : Nat → List ValA → Option (Nat × Int)
 | _, [] => none
 | k, i :: r => if formB i ≠ 0 then some (k, formB i) else if rightF S i = false then some (k, 113) else scanI S (k + 1) r
def checkI (S : List Wq) (l : List ValA) : Nat × Int := if 96 < l.length then (l.length, 110) else match scanI S 0 l with
 | some p => p
 | none => if 96 < (bytesC l).length then (l.length, 110) else (0, 0)
def scanT (N : Nat) : Nat → List ValA → Option (Nat × Int)
 | _, [] => none
 | k, i :: r => if (opA i.kind).opd = 6 ∧ N < k + 1 + i.n.toNat then some (k, 111) else scanT N (k + 1) r
def checkT (l : List ValA) : Nat × Int := (scanT l.length 0 l).getD (0, 0)
theorem scanI_drop {S : List Wq} {l : List ValA} {k : Nat} {x : ValA} (h : l[k]? = some x) : scanI S k (l.drop k) = if formB x ≠ 0 then some (k, formB x) else if rightF S x = false then some (k, 113) else scanI S (k + 1) (l.drop (k + 1)) := by
 obtain ⟨hk, hx⟩ := List.getElem?_eq_some_iff.1 h
 rw [List.drop_eq_getElem_cons hk, hx, scanI]
theorem scanT_drop {N : Nat} {l : List ValA} {k : Nat} {x : ValA} (h : l[k]? = some x) : scanT N k (l.drop k) = if (opA x.kind).opd = 6 ∧ N < k + 1 + x.n.toNat then some (k, 111) else scanT N (k + 1) (l.drop (k + 1)) := by
 obtain ⟨hk, hx⟩ := List.getElem?_eq_some_iff.1 h
 rw [List.drop_eq_getElem_cons hk, hx, scanT]
theorem scanI_none {S : List Wq} : ∀ {l : List ValA} {k : Nat}, scanI S k l = none → ∀ i ∈ l, formB i = 0 ∧ rightF S i = true
 | [], _, _ => by intro i hi; simp at hi
 | x :: r, k, h => by
  rw [scanI] at h
  by_cases h1 : formB x = 0
  ·rw [if_neg (by simpa using h1)] at h
   cases h2 : rightF S x with
   | false => rw [if_pos h2] at h; cases h
   | true =>
    rw [if_neg (by simp [h2])] at h
    intro i hi
    rcases List.mem_cons.1 hi with rfl | hi
    ·exact ⟨h1, h2⟩
    ·exact scanI_none h i hi
  ·rw [if_pos h1] at h; cases h
theorem checkTargets_v (l : List ValA) (v : Value) (w : World) (hO : Ops w) (h : Wr w v l) (hl : l.length ≤ 96) (hF : ∀ i ∈ l, formB i = 0) :
  Calls Tryz.prog 70 #[v] w fun e w' => e = .returned (.tuple #[.int .i64 ((checkT l).1 : Int), .int .i64 (checkT l).2]) ∧ Wp (fun _ => False) w w' := by
 obtain ⟨ao, cap, rfl⟩ := Ws.form h
 have HO := zB hO
 have HV := zB h
 have HF := zB hF
 have HC : Hid (checkT l = (scanT l.length 0 l).getD (0, 0)) := rfl
 generalize checkT l = C at *
 clear hO h hF
 go_enter Tryz.func70, Tryz.ntmps70
 go_wp2_with fail
 go_loopw [8] (fun i wr => ∃ k : Nat, k ≤ l.length ∧ i = .int .i64 k ∧ Hid (scanT l.length 0 l = scanT l.length k (l.drop k)) ∧ Wp (fun _ => False) w wr) (fun i _ => l.length - (intOf i).toNat)
 case atStart => exact ⟨0, Nat.zero_le _, rfl, by simp [Hid], Wp.refl _ _⟩
 case round =>
  obtain ⟨k, hk, rfl, HS, hkp⟩ := hrel
  have HK := zB hkp
  by_cases hlt : k < l.length
  ·obtain ⟨x, hx⟩ : ∃ x, l[k]? = some x := ⟨_, List.getElem?_eq_getElem hlt⟩
   obtain ⟨b, off, c, e, hbl, hc⟩ := (zA HV).cells (by omega)
   simp at e
   obtain ⟨rfl, rfl⟩ := e
   have c0 := (hkp.cell hbl id).trans (hc k x hx).1
   have c1 := (hkp.cell hbl id).trans (hc k x hx).2.1
   have c2 := (hkp.cell hbl id).trans (hc k x hx).2.2
   have hxf := (zA HF) x (List.mem_of_getElem? hx)
   have HD := zB (scanT_drop (N := l.length) hx)
   obtain ⟨HX, hxb, hxc⟩ := boxed wr #[.int .i64 x.kind, .int .i64 x.n, str x.s] 60
   have a0 := hxc 0 (.int .i64 x.kind) rfl
   have a1 := hxc 1 (.int .i64 x.n) rfl
   have a2 := hxc 2 (str x.s) rfl
   have HKX := zB ((zA HK).trans (zA HX))
   have HQ := zB (isJump_v x _ ((zA HO).keepF (zA HKX)) (formB_zero hxf).1)
   have hxj := form_jump hxf
   have i2 : (k : Int) < (l.length : Int) := by omega
   have i0' : (0 : Int) ≤ (k : Int) := by omega
   unfold ValA.v at HQ
   clear hc hx hkp hxc
   go_wp2_with fail
   refine (zA HQ).mono ?_
   rintro e w2 ⟨rfl, hk2⟩
   have HK2 := zB ((zA HKX).trans hk2)
   by_cases hj : (opA x.kind).opd = 6
   ·obtain ⟨n0, n1⟩ := hxj hj
    have d0 := (hk2.cell hxb id).trans a0
    have d1 := (hk2.cell hxb id).trans a1
    have d2 := (hk2.cell hxb id).trans a2
    have HT := zB (target_v k x w2 (by omega) n0 n1)
    unfold ValA.v at HT
    rw [decide_eq_true hj]
    obtain ⟨TG, hTG⟩ : ∃ TG : Nat, k + 1 + x.n.toNat = TG := ⟨_, rfl⟩
    rw [hTG] at HT HD
    have HJ := zB hj
    clear hk2 HQ HX hj hxj a0 a1 a2 hTG
    go_wp2_with fail
    refine (zA HT).mono ?_
    rintro e w3 ⟨rfl, hk3⟩
    have HK3 := zB ((zA HK2).trans hk3)
    clear hk3 HT
    by_cases hbig : l.length < TG
    ·have b1 : (l.length : Int) < (TG : Int) := by omega
     have HE : Hid (C = (k, 111)) := by
      show _ = _
      rw [zA HC, zA HS, zA HD, if_pos ⟨zA HJ, hbig⟩]
      rfl
     go_wp2_with fail
     go_ret2
     rw [zA HE]
     exact ⟨rfl, zA HK3⟩
    ·have b1 : ¬ (l.length : Int) < (TG : Int) := by omega
     have HE : Hid (scanT l.length 0 l = scanT l.length (k + 1) (l.drop (k + 1))) := by
      show _ = _
      rw [zA HS, zA HD, if_neg (fun h => hbig h.2)]
     go_wp2_with fail
     go_roundw
     case rel => exact ⟨k + 1, by omega, by go_num, HE, zA HK3⟩
     case measure => simp [intOf]; omega
   ·rw [decide_eq_false hj]
    have HE : Hid (scanT l.length 0 l = scanT l.length (k + 1) (l.drop (k + 1))) := by
     show _ = _
     rw [zA HS, zA HD, if_neg (fun h => hj h.1)]
    clear hk2 HQ HX hj hxj a0 a1 a2
    go_wp2_with fail
    go_roundw
    case rel => exact ⟨k + 1, by omega, by go_num, HE, zA HK2⟩
    case measure => simp [intOf]; omega
  ·obtain rfl : k = l.length := by omega
   have i2 : ¬ (l.length : Int) < (l.length : Int) := by omega
   have HE : Hid (C = (0, 0)) := by
    show _ = _
    rw [zA HC, zA HS, List.drop_length]
    rfl
   clear hlt hkp
   go_wp2_with fail
   go_ret2
   rw [zA HE]
   exact ⟨rfl, zA HK⟩
theorem checkI_long {S : List Wq} {l : List ValA} (h : 96 < l.length) : checkI S l = (l.length, 110) := by unfold checkI; rw [if_pos h]
theorem checkI_some {S : List Wq} {l : List ValA} {p : Nat × Int} (h : l.length ≤ 96) (h2 : scanI S 0 l = some p) : checkI S l = p := by unfold checkI; rw [if_neg (by omega), h2]
theorem checkI_big {S : List Wq} {l : List ValA} (h : l.length ≤ 96) (h2 : scanI S 0 l = none) (h3 : 96 < (bytesC l).length) : checkI S l = (l.length, 110) := by unfold checkI; rw [if_neg (by omega), h2]; simp only; rw [if_pos h3]
theorem checkI_ok {S : List Wq} {l : List ValA} (h : l.length ≤ 96) (h2 : scanI S 0 l = none) (h3 : (bytesC l).length ≤ 96) : checkI S l = (0, 0) := by unfold checkI; rw [if_neg (by omega), h2]; simp only; rw [if_neg (by omega)]
theorem checkInstructions_v (S : List Wq) (so : Option Addr) (sc : Nat) (l : List ValA) (v : Value) (w : World) (hO : Ops w) (hT : Types w) (hS : Wt w (.slice so S.length sc) S) (h : Wr w v l) (hI : InR l) :
  Calls Tryz.prog 69 #[.agg #[.slice so S.length sc], v] w fun e w' => e = .returned (.tuple #[.int .i64 ((checkI S l).1 : Int), .int .i64 (checkI S l).2]) ∧ Wp (fun _ => False) w w' := by
 obtain ⟨ao, cap, rfl⟩ := Ws.form h
 obtain ⟨HB, hbb, hbc⟩ := boxed w #[.slice so S.length sc] 24
 have s0 := hbc 0 (.slice so S.length sc) rfl
 by_cases h96 : 96 < l.length
 ·rw [checkI_long h96]
  have i1 : (96 : Int) < (l.length : Int) := by omega
  clear h hO hT hI hbc hbb
  go_enter Tryz.func69, Tryz.ntmps69
  go_wp2_with fail
  go_ret2
  exact ⟨rfl, zA HB⟩
 ·have hl : l.length ≤ 96 := by omega
  have i1 : ¬ (96 : Int) < (l.length : Int) := by omega
  have HO := zB hO
  have HT := zB hT
  have HV := zB h
  have HI := zB hI
  have HS := zB hS
  clear hO hT h hI h96 hS hbc
  go_enter Tryz.func69, Tryz.ntmps69
  go_wp2_with fail
  go_loopw [16] (fun i wr => ∃ k : Nat, k ≤ l.length ∧ i = .int .i64 k ∧ Hid (scanI S 0 l = scanI S k (l.drop k)) ∧ Wp (fun _ => False) (w.alloc (.cells #[.slice so S.length sc] 24)) wr) (fun i _ => l.length - (intOf i).toNat)
  case atStart => exact ⟨0, Nat.zero_le _, rfl, by simp [Hid], Wp.refl _ _⟩
  case round =>
   obtain ⟨k, hk, rfl, HS0, hkp⟩ := hrel
   have s1 := (hkp.cell hbb id).trans s0
   have HK := zB ((zA HB).trans hkp)
   by_cases hlt : k < l.length
   ·obtain ⟨x, hx⟩ : ∃ x, l[k]? = some x := ⟨_, List.getElem?_eq_getElem hlt⟩
    obtain ⟨b, off, c, e, hbl, hc⟩ := (zA HV).cells (by omega)
    simp at e
    obtain ⟨rfl, rfl⟩ := e
    have c0 := ((zA HK).cell hbl id).trans (hc k x hx).1
    have c1 := ((zA HK).cell hbl id).trans (hc k x hx).2.1
    have c2 := ((zA HK).cell hbl id).trans (hc k x hx).2.2
    have HD := zB (scanI_drop (S := S) hx)
    obtain ⟨HX, hxb, hxc⟩ := boxed wr #[.int .i64 x.kind, .int .i64 x.n, str x.s] 60
    have a0 := hxc 0 (.int .i64 x.kind) rfl
    have a1 := hxc 1 (.int .i64 x.n) rfl
    have a2 := hxc 2 (str x.s) rfl
    have hbr : w.heap.size < wr.heap.size := Nat.lt_of_lt_of_le hbb hkp.size
    have s2 := ((zA HX).cell hbr id).trans s1
    have hbr2 := Nat.lt_of_lt_of_le hbr (zA HX).size
    have HKX := zB ((zA HK).trans (zA HX))
    have HQ := zB (checkForm_v x _ ((zA HO).keepF (zA HKX)))
    have i2 : (k : Int) < (l.length : Int) := by omega
    have i0' : (0 : Int) ≤ (k : Int) := by omega
    unfold ValA.v at HQ
    have HJX := zB (hkp.trans (zA HX))
    clear hc hx hkp hxc
    go_wp2_with fail
    refine (zA HQ).mono ?_
    rintro e w2 ⟨rfl, hk2⟩
    have HK2 := zB ((zA HKX).trans hk2)
    have HJ2 := zB ((zA HJX).trans hk2)
    by_cases hf : formB x = 0
    ·rw [hf]
     have s3 := (hk2.cell hbr2 id).trans s2
     have d0 := (hk2.cell hxb id).trans a0
     have d1 := (hk2.cell hxb id).trans a1
     have d2 := (hk2.cell hxb id).trans a2
     have HR := zB (rightField_v S so sc x w2 ((zA HO).keepF (zA HK2)) ((zA HS).keepF (zA HK2)) hf)
     unfold ValA.v at HR
     have HF := zB hf
     clear hk2 HQ HX a0 a1 a2 hf s2 s1 c0 c1 c2 HKX
     go_wp2_with fail
     refine (zA HR).mono ?_
     rintro e w3 ⟨rfl, hk3⟩
     have HK3 := zB ((zA HK2).trans hk3)
     have HJ3 := zB ((zA HJ2).trans hk3)
     clear hk3 HR
     cases hr : rightF S x with
     | true =>
      have HE : Hid (scanI S 0 l = scanI S (k + 1) (l.drop (k + 1))) := by
       show _ = _
       rw [zA HS0, zA HD, if_neg (by simpa using zA HF), if_neg (by simp [hr])]
      go_wp2_with fail
      go_roundw
      case rel => exact ⟨k + 1, by omega, by go_num, HE, zA HJ3⟩
      case measure => simp [intOf]; omega
     | false =>
      have HE : Hid (checkI S l = (k, 113)) := by
       show _ = _
       refine checkI_some hl ?_
       rw [zA HS0, zA HD, if_neg (by simpa using zA HF), if_pos hr]
      go_wp2_with fail
      go_ret2
      rw [zA HE]
      exact ⟨rfl, zA HK3⟩
    ·have HE : Hid (checkI S l = (k, formB x)) := by
      show _ = _
      refine checkI_some hl ?_
      rw [zA HS0, zA HD, if_pos hf]
     have hf2 : (formB x != 0) = true := by simpa using hf
     clear hf HD HQ hk2 HX
     generalize formB x = E at *
     go_wp2_with fail
     go_ret2
     rw [zA HE]
     exact ⟨rfl, zA HK2⟩
   ·obtain rfl : k = l.length := by omega
    have i2 : ¬ (l.length : Int) < (l.length : Int) := by omega
    have hn : scanI S 0 l = none := by have := zA HS0; rw [List.drop_length] at this; exact this
    have HQ := zB (bytesOf_v l (.slice ao l.length cap) wr ((zA HO).keepF (zA HK)) ((zA HT).keepF (zA HK)) ((zA HV).keepF (zA HK)) hl (fun i hi => (scanI_none hn i hi).1) (zA HI))
    have HEB : Hid (96 < (bytesC l).length → checkI S l = (l.length, 110)) := fun h => checkI_big hl hn h
    have HEO : Hid ((bytesC l).length ≤ 96 → checkI S l = (0, 0)) := fun h => checkI_ok hl hn h
    clear hn HS0 hkp hlt s1
    go_wp2_with fail
    refine (zA HQ).mono ?_
    rintro e w2 ⟨v', rfl, ho, hk2⟩
    obtain ⟨oo, oc, rfl⟩ := (zG ho).form
    have HK2 := zB ((zA HK).trans hk2)
    clear ho hk2 HQ
    by_cases hb : 96 < (bytesC l).length
    ·have HE := zB ((zA HEB) hb)
     have i3 : (96 : Int) < ((bytesC l).length : Int) := by omega
     clear HEB HEO
     generalize bytesC l = D at *
     go_wp2_with fail
     go_ret2
     rw [zA HE]
     exact ⟨rfl, zA HK2⟩
    ·have HE := zB ((zA HEO) (by omega))
     have i3 : ¬ (96 : Int) < ((bytesC l).length : Int) := by omega
     clear HEB HEO
     generalize bytesC l = D at *
     go_wp2_with fail
     go_ret2
     rw [zA HE]
     exact ⟨rfl, zA HK2⟩
end Go.Proofs.YtbdlcaamanhapaaGreatDoor
