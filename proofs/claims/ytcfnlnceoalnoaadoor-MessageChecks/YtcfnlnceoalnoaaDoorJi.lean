import Derived.Test.YtcfnlnceoalnoaaDoorRows
import Derived.Test.YtcfnlnceoalnoaaDoorJh
import Derived.ProofKit
import Derived.LaidLaws
import Derived.LaidMore
import Derived.LaidSub
import Derived.Lib.LaidTab
import Derived.OpenShut
import Derived.ShutString
import Derived.ChangeOld
import Derived.Deep.Slices
import Derived.Deep.Strs
import Derived.SizedLaws
import Derived.Deep.CondSized
namespace Go.Proofs.YtcfnlnceoalnoaaDoor
open Go.ChangeShapes Go.WideShapes Go.ChangeAt Go.RowKit Go.Deep

theorem e2 : Tryd.prog.cellsOf 2 = 1 := by kernel_rfl
theorem e3 : Tryd.prog.cellsOf 3 = 1 := by kernel_rfl
theorem e4 : Tryd.prog.cellsOf 4 = 1 := by kernel_rfl
theorem e5 : Tryd.prog.cellsOf 5 = 1 := by kernel_rfl
theorem e9 : Tryd.prog.cellsOf 9 = 1 := by kernel_rfl
theorem e79 : Tryd.prog.cellsOf 89 = 1 := by kernel_rfl
theorem e80 : Tryd.prog.cellsOf 90 = 1 := by kernel_rfl
theorem str_of (s : ByteArray) : Value.string s = str s.data.toList := by cases s; simp
theorem gOps : Tryd.prog.globalNamed "arbor/code.operations" = some 2 := by kernel_rfl
theorem tOps : (Tryd.prog.globals[2]?).map (·.type) = some 93 := by kernel_rfl
theorem c82 : Tryd.prog.cellsOf 92 = 5 := by kernel_rfl
theorem c83 : Tryd.prog.cellsOf 93 = 135 := by kernel_rfl
/-- A row of the table, as a datum. -/
def OpA.dat (f : OpA) : DataW Unit := .agg [.lit (.string f.word), .lit (.int .i64 f.opd), .lit (.int .i64 (f.takes : Int)), .lit (.int .i64 f.of), .lit (.int .i64 f.gives)]
theorem ops_dat : (Rows.laid_arbor_code_operations : DataW Unit) = .agg (opsL.map OpA.dat) := rfl
set_option maxRecDepth 100000 in
theorem op_el {W : World} {m : Nat} {cs : List Value} {x : DataW Unit × List MemPlace} {f : OpA} (h : DataW.trod (fun _ => ()) Tryd.prog W 0 (fun _ => true) false m 92 cs = some x) (hx : x.1 = f.dat) : cs = f.cs := by
  obtain ⟨xs, k, _, rfl, hl, hlen, hf⟩ := DataW.trod_struct Tryd.underlying92 h
  have hl' : cs.length = 5 := hl.trans c82
  match xs, hlen, cs, hl' with
  | [y0, y1, y2, y3, y4], _, [a0, a1, a2, a3, a4], _ =>
    have h0 : DataW.trod (fun _ => ()) Tryd.prog W 0 (fun _ => true) false k 9 (([a0, a1, a2, a3, a4].drop 0).take (Tryd.prog.cellsOf 9)) = some y0 := hf 0 _ rfl
    have h1 : DataW.trod (fun _ => ()) Tryd.prog W 0 (fun _ => true) false k 89 (([a0, a1, a2, a3, a4].drop 1).take (Tryd.prog.cellsOf 89)) = some y1 := hf 1 _ rfl
    have h2 : DataW.trod (fun _ => ()) Tryd.prog W 0 (fun _ => true) false k 3 (([a0, a1, a2, a3, a4].drop 2).take (Tryd.prog.cellsOf 3)) = some y2 := hf 2 _ rfl
    have h3 : DataW.trod (fun _ => ()) Tryd.prog W 0 (fun _ => true) false k 90 (([a0, a1, a2, a3, a4].drop 3).take (Tryd.prog.cellsOf 90)) = some y3 := hf 3 _ rfl
    have h4 : DataW.trod (fun _ => ()) Tryd.prog W 0 (fun _ => true) false k 90 (([a0, a1, a2, a3, a4].drop 4).take (Tryd.prog.cellsOf 90)) = some y4 := hf 4 _ rfl
    rw [e9] at h0
    rw [e79] at h1
    rw [e3] at h2
    rw [e80] at h3 h4
    obtain ⟨s0, q0, w0, _⟩ := DataW.trod_string Tryd.underlying9 h0
    obtain ⟨n1, q1, w1, _⟩ := DataW.trod_int Tryd.underlying89 h1
    obtain ⟨n2, q2, w2, _⟩ := DataW.trod_int Tryd.underlying3 h2
    obtain ⟨n3, q3, w3, _⟩ := DataW.trod_int Tryd.underlying90 h3
    obtain ⟨n4, q4, w4, _⟩ := DataW.trod_int Tryd.underlying90 h4
    simp only [OpA.dat, DataW.agg.injEq, List.map_cons, List.map_nil, List.cons.injEq, and_true] at hx
    rw [w0, w1, w2, w3, w4] at hx
    simp at hx q0 q1 q2 q3 q4
    obtain ⟨r0, r1, r2, r3, r4⟩ := hx
    rw [q0, q1, q2, q3, q4, str_of, r0, r1, r2, r3, r4]
    rfl
theorem gTypes : Tryd.prog.globalNamed "arbor/value.types" = some 1 := by kernel_rfl
theorem tTypes : (Tryd.prog.globals[1]?).map (·.type) = some 68 := by kernel_rfl

theorem c92 : Tryd.prog.cellsOf 67 = 2 := by kernel_rfl
theorem c93 : Tryd.prog.cellsOf 68 = 8 := by kernel_rfl

theorem types_el {W : World} {m : Nat} {a b : Value} {x : DataW Unit × List MemPlace} {s : Txt} {n : Int} (h : DataW.trod (fun _ => ()) Tryd.prog W 0 (fun _ => true) false m 67 [a, b] = some x) (hx : x.1 = .agg [.lit (.string s), .lit (.int .i64 n)]) : a = str s ∧ b = .int .i64 n := by
  obtain ⟨xs, k, _, rfl, hl, hlen, hf⟩ := DataW.trod_struct Tryd.underlying67 h
  match xs, hlen with
  | [y0, y1], _ =>
    have h0 : DataW.trod (fun _ => ()) Tryd.prog W 0 (fun _ => true) false k 9 (([a, b].drop 0).take (Tryd.prog.cellsOf 9)) = some y0 := hf 0 _ rfl
    have h1 : DataW.trod (fun _ => ()) Tryd.prog W 0 (fun _ => true) false k 3 (([a, b].drop 1).take (Tryd.prog.cellsOf 3)) = some y1 := hf 1 _ rfl
    rw [e9] at h0
    rw [e3] at h1
    obtain ⟨s', q0, hs', _⟩ := DataW.trod_string Tryd.underlying9 h0
    obtain ⟨n', q1, hn', _⟩ := DataW.trod_int Tryd.underlying3 h1
    simp only [DataW.agg.injEq, List.map_cons, List.map_nil, List.cons.injEq, and_true] at hx
    rw [hs', hn'] at hx
    simp at hx q0 q1
    rw [q0, q1, str_of, hx.1, hx.2]
    exact ⟨rfl, rfl⟩

set_option maxRecDepth 100000 in
theorem types_met {W : World} (h : laidMetH Tryd.prog [("arbor/value.types", Rows.laid_arbor_value_types)] W) : Types W := by
  rw [MakeChecks.laidMetH_plain _ _ _ (by kernel_rfl)] at h
  obtain ⟨ps, ⟨g0, t0, cs0, f0, p0, q0, hg0, ht0, hv0, hd0, _, _⟩, _, _⟩ := h
  obtain rfl := Option.some.inj (gTypes.symm.trans hg0)
  obtain rfl := Option.some.inj (tTypes.symm.trans ht0)
  obtain ⟨xs, m1, rfl, hx1, hlen, hn3, hel⟩ := DataW.trod_array Tryd.underlying68 hd0
  have q := fun j => World.var?_cell hg0 hv0 j
  obtain ⟨cl⟩ := cs0
  have hlen' : cl.length = 8 := hlen.trans c93
  have hel' : ∀ i, i < 4 → DataW.trod (fun _ => ()) Tryd.prog W 0 (fun _ => true) false m1 67 ((cl.drop (i * 2)).take 2) = xs[i]? := fun i hi => by
    have := hel i hi
    rw [c92] at this
    exact this
  clear hel hlen hd0
  match cl, hlen', xs, hn3 with
  | [c0, c1, c2, c3, c4, c5, c6, c7], _, [x0, x1, x2, x3], _ =>
    simp only [Prod.mk.injEq, Rows.laid_arbor_value_types, DataW.agg.injEq, List.map_cons, List.map_nil, List.cons.injEq, and_true] at hx1
    obtain ⟨⟨e0, e1, e2, e3⟩, _⟩ := hx1
    have h0 := types_el (hel' 0 (by decide)) e0.symm
    have h1 := types_el (hel' 1 (by decide)) e1.symm
    have h2 := types_el (hel' 2 (by decide)) e2.symm
    have h3 := types_el (hel' 3 (by decide)) e3.symm
    have hq0 := q 0
    have hlt : 1 < W.heap.size := by
      have := World.block_lt_of_cell? W ⟨1, 0, none⟩ (u := c0) (by rw [hq0]; rfl)
      exact this
    refine ⟨hlt, fun j x hx => ?_⟩
    rw [q j]
    obtain ⟨rfl, rfl⟩ := h0
    obtain ⟨rfl, rfl⟩ := h1
    obtain ⟨rfl, rfl⟩ := h2
    obtain ⟨rfl, rfl⟩ := h3
    exact hx

theorem ops_met {W : World} (h : laidMetH Tryd.prog [("arbor/code.operations", Rows.laid_arbor_code_operations)] W) : Ops W := by
  rw [MakeChecks.laidMetH_plain _ _ _ (by kernel_rfl)] at h
  obtain ⟨ps, ⟨g0, t0, cs0, f0, p0, q0, hg0, ht0, hv0, hd0, _, _⟩, _, _⟩ := h
  obtain rfl := Option.some.inj (gOps.symm.trans hg0)
  obtain rfl := Option.some.inj (tOps.symm.trans ht0)
  obtain ⟨xs, m1, rfl, hx1, hlen, hn3, hel⟩ := DataW.trod_array Tryd.underlying93 hd0
  have q := fun j => World.var?_cell hg0 hv0 j
  obtain ⟨cl⟩ := cs0
  have hlen' : cl.length = 135 := hlen.trans c83
  have hxs : xs.map (·.1) = opsL.map OpA.dat := by
    have := (Prod.mk.inj hx1).1
    rw [ops_dat] at this
    exact (DataW.agg.inj this).symm
  have el : ∀ (i : Nat) (f : OpA), opsL[i]? = some f → (cl.drop (i * 5)).take 5 = f.cs := fun i f hf => by
    have hi : i < 27 := (List.getElem?_eq_some_iff.1 hf).1
    have h1 : (xs.map (·.1))[i]? = some f.dat := by rw [hxs]; simp [hf]
    cases hx : xs[i]? with
    | none => rw [List.getElem?_map, hx] at h1; cases h1
    | some x =>
      rw [List.getElem?_map, hx] at h1
      have h2 := hel i hi
      rw [c82, hx] at h2
      exact op_el h2 (Option.some.inj h1)
  have hlt : 2 < W.heap.size := by
    obtain ⟨c, hc⟩ : ∃ c, cl[0]? = some c := ⟨_, List.getElem?_eq_getElem (by omega)⟩
    have := World.block_lt_of_cell? W ⟨2, 0, none⟩ (u := c) (by rw [q 0]; simpa using hc)
    exact this
  refine ⟨hlt, fun i f hf j x hx => ?_⟩
  have hj : j < 5 := (List.getElem?_eq_some_iff.1 hx).1
  have hq := q (i * 5 + j)
  rw [hq]
  have := congrArg (fun l => l[j]?) (el i f hf)
  simp only [List.getElem?_take, hj, if_true, List.getElem?_drop] at this
  simpa [this] using hx

theorem env_of {W : World} {l : List (String × _)} (hl : l = [("arbor/value.types", Rows.laid_arbor_value_types), ("arbor/code.operations", Rows.laid_arbor_code_operations), ("arbor/message.shapes", Rows.laid_arbor_message_shapes)]) (h : laidMetH Tryd.prog l W) : Env W := by
  subst hl
  have h1 := h.filter (fun x => x.1 == "arbor/value.types")
  have h2 := h.filter (fun x => x.1 == "arbor/code.operations")
  rw [show [("arbor/value.types", Rows.laid_arbor_value_types), ("arbor/code.operations", Rows.laid_arbor_code_operations), ("arbor/message.shapes", Rows.laid_arbor_message_shapes)].filter (fun x => x.1 == "arbor/value.types") = [("arbor/value.types", Rows.laid_arbor_value_types)] by rfl] at h1
  rw [show [("arbor/value.types", Rows.laid_arbor_value_types), ("arbor/code.operations", Rows.laid_arbor_code_operations), ("arbor/message.shapes", Rows.laid_arbor_message_shapes)].filter (fun x => x.1 == "arbor/code.operations") = [("arbor/code.operations", Rows.laid_arbor_code_operations)] by rfl] at h2
  exact ⟨ops_met h2, types_met h1⟩

end Go.Proofs.YtcfnlnceoalnoaaDoor
namespace Go.Proofs.YtcfnlnceoalnoaaDoor
open Go.ChangeShapes Go.WideShapes Go.ChangeAt Go.RowKit Go.Deep

theorem i64_hi {x : Int} (h : (Lit.int .i64 x).wf = true) : -9223372036854775808 ≤ x ∧ x ≤ 9223372036854775807 := by
  simp [Lit.wf, IntKind.min, IntKind.max, IntKind.signed, IntKind.bits] at h
  omega
theorem e52 : Tryd.prog.cellsOf 70 = 3 := by kernel_rfl
theorem b52 : Tryd.prog.bytesOf 70 = 32 := by kernel_rfl
theorem b5 : Tryd.prog.bytesOf 5 = 1 := by kernel_rfl
instance : Inhabited ValA := ⟨⟨0, 0, []⟩⟩
theorem flat_at {α : Type} (g : α → List Value) (sz : Nat) (hs : 0 < sz) (hg : ∀ x, (g x).length = sz) : ∀ (l : List α) (j : Nat), (l.flatMap g)[j]? = (l[j / sz]?).bind fun x => (g x)[j % sz]?
  | [], j => by simp
  | y :: r, j => by
    simp only [List.flatMap_cons]
    by_cases h : j < sz
    · rw [List.getElem?_append_left (by rw [hg]; exact h), Nat.div_eq_of_lt h, Nat.mod_eq_of_lt h]
      rfl
    · rw [List.getElem?_append_right (by rw [hg]; omega), hg, flat_at g sz hs hg r (j - sz)]
      have h1 : j / sz = (j - sz) / sz + 1 := by rw [Nat.div_eq j sz, if_pos ⟨hs, by omega⟩]
      have h2 : j % sz = (j - sz) % sz := Nat.mod_eq_sub_mod (by omega)
      rw [h1, h2]
      rfl

section
variable {H : Type} {enc : TypeId × Value → H} {W : World} {fuel : Nat}

/-- A slice, opened element by element. -/
theorem rowsOf {α : Type} [Inhabited α] (g : α → List Value) (sz : Nat) (hs : 0 < sz) (hg : ∀ x, (g x).length = sz) {t e : TypeId} (ht : Tryd.prog.underlying t = some (.slice e)) (hc : Tryd.prog.cellsOf e = sz) {Q : α → Prop}
    (el : ∀ (fuel : Nat) (cs : List Value) (x : DataW H × List MemPlace), DataW.trod enc Tryd.prog W 0 (fun _ => true) true fuel e cs = some x → ∃ a, cs = g a ∧ Q a)
    {c : Value} {x : DataW H × List MemPlace} (h : DataW.trod enc Tryd.prog W 0 (fun _ => true) true fuel t [c] = some x) :
    ∃ l : List α, RowAt W c l.length (l.flatMap g) ∧ ∀ a ∈ l, Q a := by
  rcases open_slice ht h with ⟨hcs, _⟩ | ⟨a, len, cap, m, n, D, Pl, hcs, _, hl, hm, hmm, hx, hel⟩
  · simp at hcs
    subst hcs
    exact ⟨[], ⟨⟨_, _, rfl⟩, fun h0 => by simp at h0, fun ao m cap e => by simp at e; omega⟩, fun _ h => by cases h⟩
  · simp at hcs
    subst hcs
    simp at hmm
    rw [hc] at hel
    have hev : ∀ i, i < len → ∃ p : α, (∀ j v, (g p)[j]? = some v → W.cell? ((a.add (i * sz)).add j) = some v) ∧ Q p := by
      intro i hi
      obtain ⟨cs', hcs', htr⟩ := hel i (by omega)
      obtain ⟨p, rfl, hq⟩ := el _ _ _ htr
      obtain ⟨_, _, hcc⟩ := World.cells?_some hcs'
      refine ⟨p, fun j v hv => ?_, hq⟩
      have hj := (List.getElem?_eq_some_iff.1 hv).1
      have := hcc j (by rw [hg] at hj; omega)
      rw [this]
      simpa using hv
    obtain ⟨f, hf⟩ := choose_lt hev
    refine ⟨(List.range len).map f, ⟨⟨_, _, by simp; exact ⟨rfl, rfl⟩⟩, fun h0 => ?_, fun ao m cap' e => by simp at e; omega⟩, ?_⟩
    · simp at h0
      have hg0 : 0 < (g (f 0)).length := by rw [hg]; exact hs
      have hc0 := (hf 0 h0).1 0 _ (List.getElem?_eq_getElem hg0)
      have hspot : a.spot = none := by
        have := World.cell?_spot hc0
        simpa [Addr.add] using this
      obtain ⟨b, off, spot⟩ := a
      simp at hspot
      subst hspot
      refine ⟨b, off, cap, by simp, ?_, fun j v hv => ?_⟩
      · have := World.block_lt_of_cell? W _ hc0
        simpa [Addr.add] using this
      · rw [flat_at g sz hs hg] at hv
        cases hi : ((List.range len).map f)[j / sz]? with
        | none => rw [hi] at hv; cases hv
        | some p =>
          rw [hi] at hv
          have hil : j / sz < len := by
            have := (List.getElem?_eq_some_iff.1 hi).1
            simpa using this
          have hpe : f (j / sz) = p := by simpa [hil] using hi
          have := (hf (j / sz) hil).1 (j % sz) v (by rw [hpe]; exact hv)
          simp only [Addr.add_lit] at this
          rw [show off + j = off + j / sz * sz + j % sz by have := Nat.div_add_mod j sz; rw [Nat.mul_comm] at this; omega]
          exact this
    · intro y hy
      obtain ⟨i, hi, rfl⟩ := List.mem_map.1 hy
      exact (hf i (List.mem_range.1 hi)).2


set_option maxRecDepth 100000 in
theorem ins_read (fuel : Nat) (cs : List Value) (x : DataW H × List MemPlace) (h : DataW.trod enc Tryd.prog W 0 (fun _ => true) true fuel 70 cs = some x) : ∃ f : ValA, cs = f.cs ∧ (-9223372036854775808 ≤ f.n ∧ f.n ≤ 9223372036854775807) := by
  obtain ⟨xs, m, hm, _, hl, hlen, hf⟩ := DataW.trod_struct Tryd.underlying70 h
  have hl' : cs.length = 3 := hl.trans e52
  match xs, hlen, cs, hl' with
  | [y0, y1, y2], _, [c0, c1, c2], _ =>
    have h0 : DataW.trod enc Tryd.prog W 0 (fun _ => true) true m 3 (([c0, c1, c2].drop 0).take (Tryd.prog.cellsOf 3)) = some y0 := hf 0 _ rfl
    have h1 : DataW.trod enc Tryd.prog W 0 (fun _ => true) true m 2 (([c0, c1, c2].drop 1).take (Tryd.prog.cellsOf 2)) = some y1 := hf 1 _ rfl
    have h2 : DataW.trod enc Tryd.prog W 0 (fun _ => true) true m 9 (([c0, c1, c2].drop 2).take (Tryd.prog.cellsOf 9)) = some y2 := hf 2 _ rfl
    rw [e3] at h0
    rw [e2] at h1
    rw [e9] at h2
    simp only [List.drop_zero, List.take_succ_cons, List.take_zero, List.drop_succ_cons] at h0 h1 h2
    obtain ⟨k, q0, _, _⟩ := DataW.trod_int Tryd.underlying3 h0
    obtain ⟨i, q1, _, w1⟩ := DataW.trod_int Tryd.underlying2 h1
    obtain ⟨s, q2, _, _⟩ := DataW.trod_string Tryd.underlying9 h2
    simp at q0 q1 q2
    exact ⟨⟨k, i, s.data.toList⟩, by rw [q0, q1, q2, str_of]; rfl, i64_hi w1⟩
theorem byte_read (fuel : Nat) (cs : List Value) (x : DataW H × List MemPlace) (h : DataW.trod enc Tryd.prog W 0 (fun _ => true) true fuel 5 cs = some x) : ∃ f : UInt8, cs = [Value.int .u8 (num f)] ∧ True := by
  obtain ⟨k, q0, _, w0⟩ := DataW.trod_int Tryd.underlying5 h
  have hk : 0 ≤ k ∧ k ≤ 255 := by
    simp [Lit.wf, IntKind.min, IntKind.max, IntKind.signed, IntKind.bits] at w0
    omega
  exact ⟨u8 k, by rw [q0, u8_num hk.1 hk.2], trivial⟩
theorem flat_bs : ∀ l : Txt, l.flatMap (fun f : UInt8 => [Value.int .u8 (num f)]) = bs l
  | [] => rfl
  | a :: r => by
    have := flat_bs r
    simp only [List.flatMap_cons, this]
    rfl
theorem len32 {fuel : Nat} {c : Value} {x : DataW H × List MemPlace} (h : DataW.trod enc Tryd.prog W 0 (fun _ => true) true fuel 57 [c] = some x) (hw : ∀ n ∈ x.1.weights Tryd.prog 57, n ≤ reachBytes) {n : Nat} {xs : List Value} (hr : RowAt W c n xs) : n ≤ 4398046511104 := by
  obtain ⟨ao, cp, hform⟩ := hr.form
  rcases DataW.trod_slice Tryd.underlying57 h with ⟨hcs, _⟩ | ⟨a, len, cap, elems, rest, n', hn, hcs, hxx, _, hlc, _, hel, _, _, _⟩
  · simp at hcs
    rw [hcs] at hform
    simp at hform
    omega
  · have := hw ((elems.length + rest.length) * 32) (by
      rw [hxx]
      simp only [DataW.weights, Tryd.underlying57, List.length_map, b52]
      exact List.mem_cons_self ..)
    unfold reachBytes at this
    simp at hcs
    rw [hcs] at hform
    simp at hform
    omega
theorem len1 {fuel : Nat} {c : Value} {x : DataW H × List MemPlace} (h : DataW.trod enc Tryd.prog W 0 (fun _ => true) true fuel 26 [c] = some x) (hw : ∀ n ∈ x.1.weights Tryd.prog 26, n ≤ reachBytes) {n : Nat} {xs : List Value} (hr : RowAt W c n xs) : n ≤ 140737488355328 := by
  obtain ⟨ao, cp, hform⟩ := hr.form
  rcases DataW.trod_slice Tryd.underlying26 h with ⟨hcs, _⟩ | ⟨a, len, cap, elems, rest, n', hn, hcs, hxx, _, hlc, _, hel, _, _, _⟩
  · simp at hcs
    rw [hcs] at hform
    simp at hform
    omega
  · have := hw ((elems.length + rest.length) * 1) (by
      rw [hxx]
      simp only [DataW.weights, Tryd.underlying26, List.length_map, b5]
      exact List.mem_cons_self ..)
    unfold reachBytes at this
    simp at hcs
    rw [hcs] at hform
    simp at hform
    omega
theorem ins_in {fuel : Nat} {c : Value} {x : DataW H × List MemPlace} (h : DataW.trod enc Tryd.prog W 0 (fun _ => true) true fuel 57 [c] = some x) (hw : ∀ n ∈ x.1.weights Tryd.prog 57, n ≤ reachBytes) : ∃ l : List ValA, ValsAt W c l ∧ InR l ∧ l.length ≤ 4398046511104 := by
  obtain ⟨l, hl, hq⟩ := rowsOf ValA.cs 3 (by omega) (fun _ => rfl) Tryd.underlying57 e52 ins_read h
  exact ⟨l, hl, hq, len32 h hw hl⟩
theorem bytes_in {fuel : Nat} {c : Value} {x : DataW H × List MemPlace} (h : DataW.trod enc Tryd.prog W 0 (fun _ => true) true fuel 26 [c] = some x) (hw : ∀ n ∈ x.1.weights Tryd.prog 26, n ≤ reachBytes) : ∃ l : Txt, BytesAt W c l ∧ l.length ≤ 140737488355328 := by
  obtain ⟨l, hl, _⟩ := rowsOf (fun f : UInt8 => [Value.int .u8 (num f)]) 1 (by omega) (fun _ => rfl) Tryd.underlying26 e5 byte_read h
  rw [flat_bs] at hl
  exact ⟨l, hl, len1 h hw hl⟩
end

end Go.Proofs.YtcfnlnceoalnoaaDoor
namespace Go.Proofs.YtcfnlnceoalnoaaDoor
open Go.ChangeShapes Go.WideShapes Go.ChangeAt Go.RowKit Go.Deep

instance : Inhabited FieldA := ⟨⟨[], 0, false⟩⟩
theorem e62 : Tryd.prog.cellsOf 37 = 3 := by kernel_rfl
theorem e39 : Tryd.prog.cellsOf 24 = 1 := by kernel_rfl
theorem e37 : Tryd.prog.cellsOf 22 = 1 := by kernel_rfl
theorem b62 : Tryd.prog.bytesOf 37 = 32 := by kernel_rfl
theorem b4 : Tryd.prog.bytesOf 4 = 1 := by kernel_rfl
/-- Bools in a slice. -/
def BlsAt (w : World) (v : Value) (l : List Bool) : Prop := RowAt w v l.length (l.map Value.bool)
section
variable {H : Type} {enc : TypeId × Value → H} {W : World}
set_option maxRecDepth 100000 in
theorem field_read (fuel : Nat) (cs : List Value) (x : DataW H × List MemPlace) (h : DataW.trod enc Tryd.prog W 0 (fun _ => true) true fuel 37 cs = some x) : ∃ f : FieldA, cs = f.cs ∧ True := by
  obtain ⟨xs, m, hm, _, hl, hlen, hf⟩ := DataW.trod_struct Tryd.underlying37 h
  have hl' : cs.length = 3 := hl.trans e62
  match xs, hlen, cs, hl' with
  | [y0, y1, y2], _, [c0, c1, c2], _ =>
    have h0 : DataW.trod enc Tryd.prog W 0 (fun _ => true) true m 9 (([c0, c1, c2].drop 0).take (Tryd.prog.cellsOf 9)) = some y0 := hf 0 _ rfl
    have h1 : DataW.trod enc Tryd.prog W 0 (fun _ => true) true m 3 (([c0, c1, c2].drop 1).take (Tryd.prog.cellsOf 3)) = some y1 := hf 1 _ rfl
    have h2 : DataW.trod enc Tryd.prog W 0 (fun _ => true) true m 4 (([c0, c1, c2].drop 2).take (Tryd.prog.cellsOf 4)) = some y2 := hf 2 _ rfl
    rw [e9] at h0
    rw [e3] at h1
    rw [e4] at h2
    simp only [List.drop_zero, List.take_succ_cons, List.take_zero, List.drop_succ_cons] at h0 h1 h2
    obtain ⟨s, q0, _, _⟩ := DataW.trod_string Tryd.underlying9 h0
    obtain ⟨k, q1, _, _⟩ := DataW.trod_int Tryd.underlying3 h1
    obtain ⟨o, q2, _⟩ := DataW.trod_bool Tryd.underlying4 h2
    simp at q0 q1 q2
    exact ⟨⟨s.data.toList, k, o⟩, by rw [q0, q1, q2, str_of]; rfl, trivial⟩
theorem bool_read (fuel : Nat) (cs : List Value) (x : DataW H × List MemPlace) (h : DataW.trod enc Tryd.prog W 0 (fun _ => true) true fuel 4 cs = some x) : ∃ f : Bool, cs = [Value.bool f] ∧ True := by
  obtain ⟨o, q2, _⟩ := DataW.trod_bool Tryd.underlying4 h
  exact ⟨o, q2, trivial⟩
theorem lenF {fuel : Nat} {c : Value} {x : DataW H × List MemPlace} (h : DataW.trod enc Tryd.prog W 0 (fun _ => true) true fuel 22 [c] = some x) (hw : ∀ n ∈ x.1.weights Tryd.prog 22, n ≤ reachBytes) {n : Nat} {xs : List Value} (hr : RowAt W c n xs) : n ≤ 4398046511104 := by
  obtain ⟨ao, cp, hform⟩ := hr.form
  rcases DataW.trod_slice Tryd.underlying22 h with ⟨hcs, _⟩ | ⟨a, len, cap, elems, rest, n', hn, hcs, hxx, _, hlc, _, hel, _, _, _⟩
  · simp at hcs
    rw [hcs] at hform
    simp at hform
    omega
  · have := hw ((elems.length + rest.length) * 32) (by
      rw [hxx]
      simp only [DataW.weights, Tryd.underlying22, List.length_map, b62]
      exact List.mem_cons_self ..)
    unfold reachBytes at this
    simp at hcs
    rw [hcs] at hform
    simp at hform
    omega
theorem lenB {fuel : Nat} {c : Value} {x : DataW H × List MemPlace} (h : DataW.trod enc Tryd.prog W 0 (fun _ => true) true fuel 85 [c] = some x) (hw : ∀ n ∈ x.1.weights Tryd.prog 85, n ≤ reachBytes) {n : Nat} {xs : List Value} (hr : RowAt W c n xs) : n ≤ 140737488355328 := by
  obtain ⟨ao, cp, hform⟩ := hr.form
  rcases DataW.trod_slice Tryd.underlying85 h with ⟨hcs, _⟩ | ⟨a, len, cap, elems, rest, n', hn, hcs, hxx, _, hlc, _, hel, _, _, _⟩
  · simp at hcs
    rw [hcs] at hform
    simp at hform
    omega
  · have := hw ((elems.length + rest.length) * 1) (by
      rw [hxx]
      simp only [DataW.weights, Tryd.underlying85, List.length_map, b4]
      exact List.mem_cons_self ..)
    unfold reachBytes at this
    simp at hcs
    rw [hcs] at hform
    simp at hform
    omega
theorem flat_bools : ∀ l : List Bool, l.flatMap (fun f : Bool => [Value.bool f]) = l.map Value.bool
  | [] => rfl
  | a :: r => by
    have := flat_bools r
    simp only [List.flatMap_cons, this]
    rfl
theorem bools_in {fuel : Nat} {c : Value} {x : DataW H × List MemPlace} (h : DataW.trod enc Tryd.prog W 0 (fun _ => true) true fuel 85 [c] = some x) (hw : ∀ n ∈ x.1.weights Tryd.prog 85, n ≤ reachBytes) : ∃ l : List Bool, BlsAt W c l ∧ l.length ≤ 140737488355328 := by
  obtain ⟨l, hl, _⟩ := rowsOf (fun f : Bool => [Value.bool f]) 1 (by omega) (fun _ => rfl) Tryd.underlying85 e4 bool_read h
  rw [flat_bools] at hl
  exact ⟨l, hl, lenB h hw hl⟩
set_option maxRecDepth 100000 in
/-- The schema that came in, with a bound on its length by what it weighs. -/
theorem schema_in {fuel : Nat} {cs : List Value} {x : DataW H × List MemPlace} (h : DataW.trod enc Tryd.prog W 0 (fun _ => true) true fuel 24 cs = some x) (hw : ∀ n ∈ x.1.weights Tryd.prog 24, n ≤ reachBytes) :
    ∃ (sv : Value) (S : List FieldA), cs = [sv] ∧ FldsAt W sv S ∧ S.length ≤ 4398046511104 := by
  obtain ⟨xs, m, hm, hx, hl, hlen, hf⟩ := DataW.trod_struct Tryd.underlying24 h
  have hl' : cs.length = 1 := hl.trans e39
  match xs, hlen, cs, hl' with
  | [y0], _, [c0], _ =>
    have h0 : DataW.trod enc Tryd.prog W 0 (fun _ => true) true m 22 (([c0].drop 0).take (Tryd.prog.cellsOf 22)) = some y0 := hf 0 _ rfl
    rw [e37] at h0
    simp only [List.drop_zero, List.take_succ_cons, List.take_zero] at h0
    have hw0 : ∀ n ∈ y0.1.weights Tryd.prog 22, n ≤ reachBytes := fun n hn => hw n (by
      rw [hx]
      simp only [DataW.weights, Tryd.underlying24, List.map_cons, List.map_nil, DataW.weightsEach, List.append_nil]
      exact hn)
    obtain ⟨l, hl, _⟩ := rowsOf FieldA.cs 3 (by omega) (fun _ => rfl) Tryd.underlying22 e62 field_read h0
    exact ⟨c0, l, rfl, hl, lenF h0 hw0 hl⟩
end
end Go.Proofs.YtcfnlnceoalnoaaDoor
