import Derived.Test.YtabjomgikljdhaaDoorRows
import Derived.Test.YtabjomgikljdhaaDoorJb
import Derived.Test.YtabjomgikljdhaaDoorQ
import Derived.ProofKit
import Derived.OpenShut
import Derived.ShutString
import Derived.ChangeOld
import Derived.LaidMore
import Derived.Stop.Joined
import Derived.Deep.Slices
import Derived.Deep.Strs
import Derived.SizedLaws
namespace Go.Proofs.YtabjomgikljdhaaDoor
open Go.ChangeShapes Go.WideShapes Go.ChangeAt Go.RowKit Go.Deep

theorem own : ownKnob Tryd.prog.godebug = none := by kernel_rfl
theorem laidOut : laidOutB Tryd.prog = true := by kernel_rfl
theorem i64_hi {x : Int} (h : (Lit.int .i64 x).wf = true) : -9223372036854775808 ≤ x ∧ x ≤ 9223372036854775807 := by
  have := bounds_i64 h
  omega
theorem gTypes : Tryd.prog.globalNamed "arbor/value.types" = some 0 := by kernel_rfl
theorem tTypes : (Tryd.prog.globals[0]?).map (·.type) = some 93 := by kernel_rfl

theorem str_of (s : ByteArray) : Value.string s = str s.data.toList := by cases s; simp
theorem c92 : Tryd.prog.cellsOf 92 = 2 := by kernel_rfl
theorem c93 : Tryd.prog.cellsOf 93 = 8 := by kernel_rfl
theorem e3 : Tryd.prog.cellsOf 3 = 1 := by kernel_rfl
theorem e2 : Tryd.prog.cellsOf 2 = 1 := by kernel_rfl
theorem e9 : Tryd.prog.cellsOf 9 = 1 := by kernel_rfl
theorem e54 : Tryd.prog.cellsOf 54 = 3 := by kernel_rfl

theorem types_el {W : World} {m : Nat} {a b : Value} {x : DataW Unit × List MemPlace} {s : Txt} {n : Int} (h : DataW.trod (fun _ => ()) Tryd.prog W 0 (fun _ => true) false m 92 [a, b] = some x) (hx : x.1 = .agg [.lit (.string s), .lit (.int .i64 n)]) : a = str s ∧ b = .int .i64 n := by
  obtain ⟨xs, k, _, rfl, hl, hlen, hf⟩ := DataW.trod_struct Tryd.underlying92 h
  match xs, hlen with
  | [y0, y1], _ =>
    have h0 : DataW.trod (fun _ => ()) Tryd.prog W 0 (fun _ => true) false k 9 (([a, b].drop 0).take (Tryd.prog.cellsOf 9)) = some y0 := hf 0 _ rfl
    have h1 : DataW.trod (fun _ => ()) Tryd.prog W 0 (fun _ => true) false k 3 (([a, b].drop 1).take (Tryd.prog.cellsOf 3)) = some y1 := hf 1 _ rfl
    rw [e9] at h0
    rw [e3] at h1
    obtain ⟨s', q0, hs', _⟩ := DataW.trod_string Tryd.underlying9 h0
    obtain ⟨n', q1, hn', _⟩ := DataW.trod_int Tryd.underlying3 h1
    simp only [DataW.agg.injEq, List.map_cons, List.map_nil, List.cons.injEq, and_true] at hx
    rw [hs', hn'] at hx
    simp at hx q0 q1
    rw [q0, q1, str_of, hx.1, hx.2]
    exact ⟨rfl, rfl⟩

set_option maxRecDepth 100000 in
theorem types_met {W : World} (h : laidMetH Tryd.prog [("arbor/value.types", Rows.laid_arbor_value_types)] W) : Types W := by
  rw [MakeChecks.laidMetH_plain _ _ _ (by kernel_rfl)] at h
  obtain ⟨ps, ⟨g0, t0, cs0, f0, p0, q0, hg0, ht0, hv0, hd0, _, _⟩, _, _⟩ := h
  obtain rfl := Option.some.inj (gTypes.symm.trans hg0)
  obtain rfl := Option.some.inj (tTypes.symm.trans ht0)
  obtain ⟨xs, m1, rfl, hx1, hlen, hn3, hel⟩ := DataW.trod_array Tryd.underlying93 hd0
  have q := fun j => World.var?_cell hg0 hv0 j
  obtain ⟨cl⟩ := cs0
  have hlen' : cl.length = 8 := hlen.trans c93
  have hel' : ∀ i, i < 4 → DataW.trod (fun _ => ()) Tryd.prog W 0 (fun _ => true) false m1 92 ((cl.drop (i * 2)).take 2) = xs[i]? := fun i hi => by
    have := hel i hi
    rw [c92] at this
    exact this
  clear hel hlen hd0
  match cl, hlen', xs, hn3 with
  | [c0, c1, c2, c3, c4, c5, c6, c7], _, [x0, x1, x2, x3], _ =>
    simp only [Prod.mk.injEq, Rows.laid_arbor_value_types, DataW.agg.injEq, List.map_cons, List.map_nil, List.cons.injEq, and_true] at hx1
    obtain ⟨⟨e0, e1, e2, e3⟩, _⟩ := hx1
    have h0 := types_el (hel' 0 (by decide)) e0.symm
    have h1 := types_el (hel' 1 (by decide)) e1.symm
    have h2 := types_el (hel' 2 (by decide)) e2.symm
    have h3 := types_el (hel' 3 (by decide)) e3.symm
    have hq0 := q 0
    have hlt : 0 < W.heap.size := by
      have := World.block_lt_of_cell? W ⟨0, 0, none⟩ (u := c0) (by rw [hq0]; rfl)
      exact this
    refine ⟨hlt, fun j x hx => ?_⟩
    rw [q j]
    obtain ⟨rfl, rfl⟩ := h0
    obtain ⟨rfl, rfl⟩ := h1
    obtain ⟨rfl, rfl⟩ := h2
    obtain ⟨rfl, rfl⟩ := h3
    exact hx
end Go.Proofs.YtabjomgikljdhaaDoor
