import Derived.Test.YtbfkoamledkhnaaGreatDoorJza
import Derived.Test.YtbfkoamledkhnaaGreatDoorShelfM
import Derived.Lib.LaidU8T
import Derived.LaidLaws
import Derived.LaidMore
import Derived.LaidSub
import Derived.Lib.LaidTab
namespace Go.Proofs.YtbfkoamledkhnaaGreatDoor
open Go.ChangeShapes Go.WideShapes Go.ChangeAt Go.RowKit Go.Deep

theorem gTypes : Tryz.prog.globalNamed "arbor/value.types" = some 0 := by kernel_rfl
theorem tTypes : (Tryz.prog.globals[0]?).map (·.type) = some 103 := by kernel_rfl
theorem c102 : Tryz.prog.cellsOf 102 = 2 := by kernel_rfl
theorem c103 : Tryz.prog.cellsOf 103 = 8 := by kernel_rfl
theorem types_el {W : World} {m : Nat} {a b : Value} {x : DataW Unit × List MemPlace} {s : Txt} {n : Int} (h : DataW.trod (fun _ => ()) Tryz.prog W 0 (fun _ => true) false m 102 [a, b] = some x) (hx : x.1 = .agg [.lit (.string s), .lit (.int .i64 n)]) : a = str s ∧ b = .int .i64 n := by
  obtain ⟨xs, k, _, rfl, hl, hlen, hf⟩ := DataW.trod_struct Tryz.underlying102 h
  match xs, hlen with
  | [y0, y1], _ =>
    have h0 : DataW.trod (fun _ => ()) Tryz.prog W 0 (fun _ => true) false k 9 (([a, b].drop 0).take (Tryz.prog.cellsOf 9)) = some y0 := hf 0 _ rfl
    have h1 : DataW.trod (fun _ => ()) Tryz.prog W 0 (fun _ => true) false k 3 (([a, b].drop 1).take (Tryz.prog.cellsOf 3)) = some y1 := hf 1 _ rfl
    rw [e9] at h0
    rw [e3] at h1
    obtain ⟨s', q0, hs', _⟩ := DataW.trod_string Tryz.underlying9 h0
    obtain ⟨n', q1, hn', _⟩ := DataW.trod_int Tryz.underlying3 h1
    simp only [DataW.agg.injEq, List.map_cons, List.map_nil, List.cons.injEq, and_true] at hx
    rw [hs', hn'] at hx
    simp at hx q0 q1
    rw [q0, q1, str_of, hx.1, hx.2]
    exact ⟨rfl, rfl⟩

set_option maxRecDepth 100000 in
theorem types_met {W : World} (h : Lib.VarReads Tryz.prog W "arbor/value.types" Rows.laid_arbor_value_types) : Types W := by
  obtain ⟨g0, t0, cs0, f0, p0, hg0, ht0, hv0, hd0⟩ := h
  obtain rfl := Option.some.inj (gTypes.symm.trans hg0)
  obtain rfl := Option.some.inj (tTypes.symm.trans ht0)
  obtain ⟨xs, m1, rfl, hx1, hlen, hn3, hel⟩ := DataW.trod_array Tryz.underlying103 hd0
  have q := fun j => World.var?_cell hg0 hv0 j
  obtain ⟨cl⟩ := cs0
  have hlen' : cl.length = 8 := hlen.trans c103
  have hel' : ∀ i, i < 4 → DataW.trod (fun _ => ()) Tryz.prog W 0 (fun _ => true) false m1 102 ((cl.drop (i * 2)).take 2) = xs[i]? := fun i hi => by
    have := hel i hi
    rw [c102] at this
    exact this
  clear hel hlen hd0
  match cl, hlen', xs, hn3 with
  | [c0, c1, c2, c3, c4, c5, c6, c7], _, [x0, x1, x2, x3], _ =>
    simp only [Prod.mk.injEq, Rows.laid_arbor_value_types, DataW.agg.injEq, List.map_cons, List.map_nil, List.cons.injEq, and_true] at hx1
    obtain ⟨⟨e0, e1, e2, e3⟩, _⟩ := hx1
    have h0 := types_el (hel' 0 (by decide)) e0.symm
    have h1 := types_el (hel' 1 (by decide)) e1.symm
    have h2 := types_el (hel' 2 (by decide)) e2.symm
    have h3 := types_el (hel' 3 (by decide)) e3.symm
    have hq0 := q 0
    have hlt : 0 < W.heap.size := by
      have := World.block_lt_of_cell? W ⟨0, 0, none⟩ (u := c0) (by rw [hq0]; rfl)
      exact this
    refine ⟨hlt, fun j x hx => ?_⟩
    rw [q j]
    obtain ⟨rfl, rfl⟩ := h0
    obtain ⟨rfl, rfl⟩ := h1
    obtain ⟨rfl, rfl⟩ := h2
    obtain ⟨rfl, rfl⟩ := h3
    exact hx

theorem extra8 : U8Extra Tryz.prog Tryz.lays197_ren := ⟨by kernel_rfl, by kernel_rfl, by kernel_rfl, by kernel_rfl, by kernel_rfl, by kernel_rfl, by kernel_rfl⟩
theorem tabs_met {W : World} (h3 : Lib.VarReads Tryz.prog W "unicode/utf8.first" Rows.laid_unicode_utf8_first) (h4 : Lib.VarReads Tryz.prog W "unicode/utf8.acceptRanges" Rows.laid_unicode_utf8_acceptRanges) : Lib.Utf8Tabs 2 3 W := by
  rw [show (Rows.laid_unicode_utf8_first : DataW Unit) = Lib.firstData by kernel_rfl] at h3
  rw [show (Rows.laid_unicode_utf8_acceptRanges : DataW Unit) = Lib.acceptData by kernel_rfl] at h4
  exact utf8Tabs_of_readsT (ρ := Tryz.lays197_ren) { Tryz.lays197 with } extra8 h3 h4
theorem err_met {W : World} {n nm : String} {d : DataW Unit} {k : Nat} (h : Lib.VarReads Tryz.prog W n (.iface nm d)) (hg : Tryz.prog.globalNamed n = some k) (ht : (Tryz.prog.globals[k]?).map (·.type) = some 86) : ∃ ev, W.cell? ⟨k, 0, none⟩ = some ev ∧ (ev = .nilIface ∨ ∃ te pe, ev = .iface te pe) := by
  obtain ⟨g0, t0, cs0, f0, p0, hg0, ht0, hv0, hd0⟩ := h
  obtain rfl := Option.some.inj (hg.symm.trans hg0)
  obtain rfl := Option.some.inj (ht.symm.trans ht0)
  obtain ⟨f', u, v, hcs, _, _⟩ := iface_of_trod Tryz.underlying86 hd0
  have q := World.var?_cell hg0 hv0 0
  refine ⟨.iface u v, ?_, .inr ⟨u, v, rfl⟩⟩
  rw [q, ← Array.getElem?_toList, hcs]
  rfl
theorem pow_met {W : World} (h : laidMet Tryz.prog [("internal/strconv.uint64pow10", Rows.laid_internal_strconv_uint64pow10)] W) : Pow W := by
  have e : (Rows.laid_internal_strconv_uint64pow10 : DataW Unit) = Lib.tabData .u64 Lib.pow10Tab := by kernel_rfl
  rw [e] at h
  exact Lib.tabIs_of_head (rest := []) (g := 4) (t := 165) (e := 111) (n := 20) (by kernel_rfl) (by kernel_rfl) Tryz.underlying165 Tryz.underlying111 (by kernel_rfl) (by kernel_rfl) h
/-- What the rows lay. -/
def laidL : List (String × DataW Unit) := [("math/bits.deBruijn32tab", Rows.laid_math_bits_deBruijn32tab), ("math/bits.deBruijn64tab", Rows.laid_math_bits_deBruijn64tab), ("internal/strconv.uint64pow10", Rows.laid_internal_strconv_uint64pow10), ("unicode/utf8.acceptRanges", Rows.laid_unicode_utf8_acceptRanges), ("strconv.ErrRange", Rows.laid_strconv_ErrRange), ("strconv.ErrSyntax", Rows.laid_strconv_ErrSyntax), ("arbor/value.types", Rows.laid_arbor_value_types), ("unicode/utf8.first", Rows.laid_unicode_utf8_first)]
theorem env_met {W : World} (h : laidMetH Tryz.prog laidL W) (hsh : W.ShapedOpen Tryz.prog) : Env W := by
  have hpow := h.filter (fun x => x.1 == "internal/strconv.uint64pow10")
  rw [show laidL.filter (fun x => x.1 == "internal/strconv.uint64pow10") = [("internal/strconv.uint64pow10", Rows.laid_internal_strconv_uint64pow10)] by rfl, MakeChecks.laidMetH_plain _ _ _ (by kernel_rfl)] at hpow
  rw [MakeChecks.laidMetH_plain _ _ _ (by kernel_rfl)] at h
  have r := fun n d (hm : (n, d) ∈ laidL) => Lib.laidMet.reads h hm
  exact ⟨types_met (r _ _ (by simp [laidL])), pow_met hpow, Tryz.laysM145.s1_3 W hsh, tabs_met (r _ _ (by simp [laidL])) (r _ _ (by simp [laidL])),
    err_met (r "strconv.ErrSyntax" _ (by simp [laidL]; rfl)) (by kernel_rfl) (by kernel_rfl), err_met (r "strconv.ErrRange" _ (by simp [laidL]; rfl)) (by kernel_rfl) (by kernel_rfl)⟩
end Go.Proofs.YtbfkoamledkhnaaGreatDoor
