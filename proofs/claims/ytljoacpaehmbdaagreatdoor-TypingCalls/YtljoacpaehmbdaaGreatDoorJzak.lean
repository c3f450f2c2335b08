import Derived.Test.YtljoacpaehmbdaaGreatDoorJzaj
import Derived.Test.YtljoacpaehmbdaaGreatDoorRows
import Derived.Test.YtljoacpaehmbdaaGreatDoorJzad
import Derived.ProofKit
import Derived.LaidLaws
import Derived.LaidMore
import Derived.LaidSub
import Derived.Lib.LaidTab
import Derived.OpenShut
import Derived.ShutString
import Derived.ChangeOld
import Derived.Deep.Slices
import Derived.Deep.Strs
import Derived.SizedLaws
import Derived.Deep.CondSized
import Derived.Test.YtljoacpaehmbdaaGreatDoorJac
namespace Go.Proofs.YtljoacpaehmbdaaGreatDoor
open Go.RowKit Go.Maps

set_option maxRecDepth 100000 in
set_option maxHeartbeats 4000000 in
/-- One call of a script, whatever its kind. -/
theorem plays_of (k op n : Int) (s : Txt) (sv xv pv : Value) (w : World)
    (hT : ∀ W', Keeps (fun _ => False) w W' → Calls Tryz.prog 5 #[.agg #[sv], exV op n s xv] W' fun e w' => e = .returned (.bool true) ∧ Keeps (fun _ => False) W' w')
    (hC : ∀ W', Keeps (fun _ => False) w W' → Calls Tryz.prog 6 #[.agg #[sv], pv] W' fun e w' => e = .returned (.bool true) ∧ Keeps (fun _ => False) W' w')
    (hF : ∀ W', Keeps (fun _ => False) w W' → Calls Tryz.prog 7 #[.agg #[sv], pv] W' fun e w' => e = .returned (.bool true) ∧ Keeps (fun _ => False) W' w') :
    Calls Tryz.prog 4 #[.agg #[.int .i64 k, sv, .int .i64 op, .int .i64 n, str s, xv, pv]] w fun e w' => e = .returned (.bool true) ∧ Keeps (fun _ => False) w w' := by
  obtain ⟨HB, hxb, hxc⟩ := boxedT w #[.int .i64 k, sv, .int .i64 op, .int .i64 n, str s, xv, pv] 32
  have c0 := hxc 0 (.int .i64 k) rfl
  have c1 := hxc 1 sv rfl
  have c2 := hxc 2 (.int .i64 op) rfl
  have c3 := hxc 3 (.int .i64 n) rfl
  have c4 := hxc 4 (str s) rfl
  have c5 := hxc 5 xv rfl
  have c6 := hxc 6 pv rfl
  have HT := hide (hT _ (unhide HB))
  have HC := hide (hC _ (unhide HB))
  have HF := hide (hF _ (unhide HB))
  clear hT hC hF hxc
  by_cases h1 : k = 1
  · subst h1
    go_enter Tryz.func4, Tryz.ntmps4
    go_wp2_with (go_at_call 5; refine (unhide HT).mono ?_; rintro e w1 ⟨rfl, hk1⟩; have HK := hide ((unhide HB).trans hk1); clear hk1)
    go_ret
    exact ⟨rfl, unhide HK⟩
  · have n1 : (k == 1) = false := by simpa using h1
    by_cases h2 : k = 2
    · subst h2
      go_enter Tryz.func4, Tryz.ntmps4
      go_wp2_with (go_at_call 6; refine (unhide HC).mono ?_; rintro e w1 ⟨rfl, hk1⟩; have HK := hide ((unhide HB).trans hk1); clear hk1)
      go_ret
      exact ⟨rfl, unhide HK⟩
    · have n2 : (k == 2) = false := by simpa using h2
      by_cases h3 : k = 3
      · subst h3
        go_enter Tryz.func4, Tryz.ntmps4
        go_wp2_with (go_at_call 7; refine (unhide HF).mono ?_; rintro e w1 ⟨rfl, hk1⟩; have HK := hide ((unhide HB).trans hk1); clear hk1)
        go_ret
        exact ⟨rfl, unhide HK⟩
      · have n3 : (k == 3) = false := by simpa using h3
        go_enter Tryz.func4, Tryz.ntmps4
        go_wp2_with fail
        go_ret
        exact ⟨rfl, unhide HB⟩
end Go.Proofs.YtljoacpaehmbdaaGreatDoor
namespace Go.Proofs.YtljoacpaehmbdaaGreatDoor
open Go.RowKit Go.Maps

/-- A call of a script, at a place: its cells, and that its answer is true in every later world. -/
def OpOk (W : World) (b o : Nat) : Prop := ∃ (k op n : Int) (s : Txt) (sv xv pv : Value),
  W.cell? ⟨b, o, none⟩ = some (.int .i64 k) ∧ W.cell? ⟨b, o + 1, none⟩ = some sv ∧ W.cell? ⟨b, o + 2, none⟩ = some (.int .i64 op) ∧ W.cell? ⟨b, o + 3, none⟩ = some (.int .i64 n) ∧ W.cell? ⟨b, o + 4, none⟩ = some (str s) ∧ W.cell? ⟨b, o + 5, none⟩ = some xv ∧ W.cell? ⟨b, o + 6, none⟩ = some pv ∧
  ∀ W', Keeps (fun _ => False) W W' → Calls Tryz.prog 4 #[.agg #[.int .i64 k, sv, .int .i64 op, .int .i64 n, str s, xv, pv]] W' fun e w' => e = .returned (.bool true) ∧ Keeps (fun _ => False) W' w'

set_option maxRecDepth 100000 in
set_option maxHeartbeats 4000000 in
theorem calls_of (ao : Option Addr) (n cap : Nat) (w : World) (hn : n ≤ 4398046511104) (hA : 0 < n → ∃ b off, ao = some ⟨b, off, none⟩ ∧ b < w.heap.size ∧ ∀ i, i < n → OpOk w b (off + i * 7)) :
    Calls Tryz.prog 3 #[.slice ao n cap] w fun e w' => e = .returned (.bool true) ∧ Keeps (fun _ => False) w w' := by
  have HA := hide hA
  clear hA
  go_enter Tryz.func3, Tryz.ntmps3
  go_wp2_with fail
  go_loopw [3] (fun i wr => ∃ k : Nat, k ≤ n ∧ i = .int .i64 k ∧ Keeps (fun _ => False) w wr) (fun i _ => n - (intOf i).toNat)
  case atStart => exact ⟨0, by omega, rfl, Keeps.refl _ _⟩
  case round =>
    obtain ⟨k, hkn, rfl, hkeep⟩ := hrel
    have HK := hide hkeep
    by_cases hlt : k < n
    · obtain ⟨b, off, rfl, hb, hops⟩ := (unhide HA) (by omega)
      obtain ⟨kd, op, m, s, sv, xv, pv, g0, g1, g2, g3, g4, g5, g6, hcall⟩ := hops k hlt
      have i1 : (k : Int) < (n : Int) := by omega
      have i0 : (0 : Int) ≤ (k : Int) := by omega
      have f0 := (hkeep.cell hb id).trans g0
      have f1 := (hkeep.cell hb id).trans g1
      have f2 := (hkeep.cell hb id).trans g2
      have f3 := (hkeep.cell hb id).trans g3
      have f4 := (hkeep.cell hb id).trans g4
      have f5 := (hkeep.cell hb id).trans g5
      have f6 := (hkeep.cell hb id).trans g6
      have HC := hide (hcall wr hkeep)
      clear hkeep hops g0 g1 g2 g3 g4 g5 g6 hcall
      go_wp2_with (go_at_call 4; refine (unhide HC).mono ?_; rintro e w1 ⟨rfl, hk1⟩; have HK1 := hide ((unhide HK).trans hk1); clear hk1)
      go_roundw
      case rel => exact ⟨k + 1, by omega, by go_num, unhide HK1⟩
      case measure => simp [intOf]; omega
    · have i1 : ¬ (k : Int) < (n : Int) := by omega
      clear hkeep
      go_wp2_with fail
      go_ret
      exact ⟨rfl, unhide HK⟩
end Go.Proofs.YtljoacpaehmbdaaGreatDoor
namespace Go.Proofs.YtljoacpaehmbdaaGreatDoor
open Go.ChangeShapes Go.WideShapes Go.ChangeAt Go.RowKit Go.Deep

theorem Tryz.cells29 : Tryz.prog.cellsOf 29 = 4 := by kernel_rfl
theorem Tryz.cells66 : Tryz.prog.cellsOf 66 = 5 := by kernel_rfl
theorem e2 : Tryz.prog.cellsOf 2 = 1 := by kernel_rfl
theorem e3 : Tryz.prog.cellsOf 3 = 1 := by kernel_rfl
theorem e9 : Tryz.prog.cellsOf 9 = 1 := by kernel_rfl
theorem e22 : Tryz.prog.cellsOf 30 = 1 := by kernel_rfl
theorem e23 : Tryz.prog.cellsOf 27 = 1 := by kernel_rfl
theorem str_of (s : ByteArray) : Value.string s = str s.data.toList := by cases s; simp

section
variable {H : Type} {enc : TypeId × Value → H} {W : World}
set_option maxRecDepth 100000 in
/-- What is read of an expression. -/
theorem expr_read {fuel : Nat} {cs : List Value} {x : DataW H × List MemPlace} (h : DataW.trod enc Tryz.prog W 0 (fun _ => true) true fuel 29 cs = some x) :
    ∃ (op n : Int) (s : Txt) (kv : Value) (m : Nat) (y : DataW H × List MemPlace), fuel = m + 1 ∧ cs = [.int .i64 op, .int .i64 n, str s, kv] ∧ DataW.trod enc Tryz.prog W 0 (fun _ => true) true m 27 [kv] = some y := by
  obtain ⟨xs, m, hm, _, hl, hlen, hf⟩ := DataW.trod_struct Tryz.underlying29 h
  have hl' : cs.length = 4 := hl.trans Tryz.cells29
  match xs, hlen, cs, hl' with
  | [y0, y1, y2, y3], _, [c0, c1, c2, c3], _ =>
    have h0 : DataW.trod enc Tryz.prog W 0 (fun _ => true) true m 3 (([c0, c1, c2, c3].drop 0).take (Tryz.prog.cellsOf 3)) = some y0 := hf 0 _ rfl
    have h1 : DataW.trod enc Tryz.prog W 0 (fun _ => true) true m 2 (([c0, c1, c2, c3].drop 1).take (Tryz.prog.cellsOf 2)) = some y1 := hf 1 _ rfl
    have h2 : DataW.trod enc Tryz.prog W 0 (fun _ => true) true m 9 (([c0, c1, c2, c3].drop 2).take (Tryz.prog.cellsOf 9)) = some y2 := hf 2 _ rfl
    have h3 : DataW.trod enc Tryz.prog W 0 (fun _ => true) true m 27 (([c0, c1, c2, c3].drop 3).take (Tryz.prog.cellsOf 27)) = some y3 := hf 3 _ rfl
    rw [e3] at h0
    rw [e2] at h1
    rw [e9] at h2
    rw [e23] at h3
    simp only [List.drop_zero, List.take_succ_cons, List.take_zero, List.drop_succ_cons] at h0 h1 h2 h3
    obtain ⟨k, q0, _, _⟩ := DataW.trod_int Tryz.underlying3 h0
    obtain ⟨i, q1, _, _⟩ := DataW.trod_int Tryz.underlying2 h1
    obtain ⟨s, q2, _, _⟩ := DataW.trod_string Tryz.underlying9 h2
    simp at q0 q1 q2
    exact ⟨k, i, s.data.toList, c3, m, y3, hm, by rw [q0, q1, q2, str_of], h3⟩
set_option maxRecDepth 100000 in
theorem stmt_read {fuel : Nat} {cs : List Value} {x : DataW H × List MemPlace} (h : DataW.trod enc Tryz.prog W 0 (fun _ => true) true fuel 66 cs = some x) :
    ∃ (op : Int) (f : Txt) (xv tv ev : Value) (m : Nat) (y z u : DataW H × List MemPlace), fuel = m + 1 ∧ cs = [.int .i64 op, str f, xv, tv, ev] ∧ DataW.trod enc Tryz.prog W 0 (fun _ => true) true m 27 [xv] = some y ∧ DataW.trod enc Tryz.prog W 0 (fun _ => true) true m 30 [tv] = some z ∧ DataW.trod enc Tryz.prog W 0 (fun _ => true) true m 30 [ev] = some u := by
  obtain ⟨xs, m, hm, _, hl, hlen, hf⟩ := DataW.trod_struct Tryz.underlying66 h
  have hl' : cs.length = 5 := hl.trans Tryz.cells66
  match xs, hlen, cs, hl' with
  | [y0, y1, y2, y3, y4], _, [c0, c1, c2, c3, c4], _ =>
    have h0 : DataW.trod enc Tryz.prog W 0 (fun _ => true) true m 3 (([c0, c1, c2, c3, c4].drop 0).take (Tryz.prog.cellsOf 3)) = some y0 := hf 0 _ rfl
    have h1 : DataW.trod enc Tryz.prog W 0 (fun _ => true) true m 9 (([c0, c1, c2, c3, c4].drop 1).take (Tryz.prog.cellsOf 9)) = some y1 := hf 1 _ rfl
    have h2 : DataW.trod enc Tryz.prog W 0 (fun _ => true) true m 27 (([c0, c1, c2, c3, c4].drop 2).take (Tryz.prog.cellsOf 27)) = some y2 := hf 2 _ rfl
    have h3 : DataW.trod enc Tryz.prog W 0 (fun _ => true) true m 30 (([c0, c1, c2, c3, c4].drop 3).take (Tryz.prog.cellsOf 30)) = some y3 := hf 3 _ rfl
    have h4 : DataW.trod enc Tryz.prog W 0 (fun _ => true) true m 30 (([c0, c1, c2, c3, c4].drop 4).take (Tryz.prog.cellsOf 30)) = some y4 := hf 4 _ rfl
    rw [e3] at h0
    rw [e9] at h1
    rw [e23] at h2
    rw [e22] at h3
    rw [e22] at h4
    simp only [List.drop_zero, List.take_succ_cons, List.take_zero, List.drop_succ_cons] at h0 h1 h2 h3 h4
    obtain ⟨k, q0, _, _⟩ := DataW.trod_int Tryz.underlying3 h0
    obtain ⟨s, q1, _, _⟩ := DataW.trod_string Tryz.underlying9 h1
    simp at q0 q1
    exact ⟨k, s.data.toList, c2, c3, c4, m, y2, y3, y4, hm, by rw [q0, q1, str_of], h2, h3, h4⟩

/-- A slice, opened element by element. -/
theorem slice_read {fuel : Nat} {t e sz : Nat} (ht : Tryz.prog.underlying t = some (.slice e)) (hsz : Tryz.prog.cellsOf e = sz) (h0 : 0 < sz) {c : Value} {x : DataW H × List MemPlace} (h : DataW.trod enc Tryz.prog W 0 (fun _ => true) true fuel t [c] = some x) :
    c = .slice none 0 0 ∨ ∃ (b off len cap n : Nat) (spot : _), c = .slice (some ⟨b, off, spot⟩) len cap ∧ len ≤ cap ∧ fuel = n + 1 ∧ ∀ i, i < len → spot = none ∧ b < W.heap.size ∧ ∃ cs y, (∀ j v, cs[j]? = some v → W.cell? ⟨b, off + i * sz + j, none⟩ = some v) ∧ DataW.trod enc Tryz.prog W 0 (fun _ => true) true n e cs = some y ∧ cs.length = sz := by
  rcases DataW.trod_slice ht h with ⟨hcs, _⟩ | ⟨a, len, cap, elems, rest, n, hn, hcs, _, _, hl, _, hlen, hel, _, _⟩
  · simp at hcs
    exact Or.inl hcs
  · simp at hcs
    subst hcs
    obtain ⟨b, off, spot⟩ := a
    have cell : ∀ i, i < len → ∃ cs y, W.cells? 0 (Addr.add ⟨b, off, spot⟩ (i * sz)) sz = some cs ∧ DataW.trod enc Tryz.prog W 0 (fun _ => true) true n e cs = some y := fun i hi => by
      have hi' := hel i hi
      rw [hsz] at hi'
      obtain ⟨y, hy⟩ : ∃ y, elems[i]? = some y := ⟨_, List.getElem?_eq_getElem (by omega)⟩
      rw [hy] at hi'
      cases hcells : W.cells? 0 (Addr.add ⟨b, off, spot⟩ (i * sz)) sz with
      | none => rw [hcells] at hi'; cases hi'
      | some cs =>
        rw [hcells] at hi'
        exact ⟨cs, y, rfl, hi'⟩
    have hspot : 0 < len → spot = none := fun h1 => by
      obtain ⟨cs, y, hcs, _⟩ := cell 0 h1
      obtain ⟨_, hcl, hcc⟩ := World.cells?_some hcs
      have hc0 := hcc 0 h0
      obtain ⟨v0, hv0⟩ : ∃ v, cs[0]? = some v := ⟨_, List.getElem?_eq_getElem (by omega)⟩
      rw [hv0] at hc0
      have := World.cell?_spot hc0
      simpa [Addr.add] using this
    refine Or.inr ⟨b, off, len, cap, n, spot, rfl, hl, hn, fun i hi => ?_⟩
    obtain rfl := hspot (by omega)
    obtain ⟨cs, y, hcs, hy⟩ := cell i hi
    obtain ⟨_, hcl, hcc⟩ := World.cells?_some hcs
    simp only [Addr.add_lit] at hcc
    have hat : ∀ j v, cs[j]? = some v → W.cell? ⟨b, off + i * sz + j, none⟩ = some v := fun j v hv => by
      have hj := (List.getElem?_eq_some_iff.1 hv).1
      have := hcc j (by omega)
      rw [hv] at this
      exact this
    obtain ⟨v0, hv0⟩ : ∃ v, cs[0]? = some v := ⟨_, List.getElem?_eq_getElem (by omega)⟩
    exact ⟨rfl, World.block_lt_of_cell? W _ (hat 0 v0 hv0), cs, y, hat, hy, hcl⟩

/-- The expressions that came in. -/
theorem exprs_in (F : Nat) : ∀ (fuel : Nat) (c : Value) (x : DataW H × List MemPlace), fuel < F → DataW.trod enc Tryz.prog W 0 (fun _ => true) true fuel 27 [c] = some x → ∃ l : EL, ∀ up, SlE (argZ W.heap.size) W up c l := by
  induction F with
  | zero => intro fuel c x h; omega
  | succ F ih =>
    intro fuel c x hF h
    rcases slice_read Tryz.underlying27 Tryz.cells29 (by omega) h with rfl | ⟨b, off, len, cap, n, spot, rfl, hl, hn, hel⟩
    · exact ⟨.nil, fun up => ⟨none, 0, rfl, Nat.le_refl _, fun h => absurd rfl h⟩⟩
    · have key : ∀ k i, i + k = len → ∃ l : EL, l.len = k ∧ ExIn (argZ W.heap.size) W l b (off + i * 4) := by
        intro k
        induction k with
        | zero => exact fun i _ => ⟨.nil, rfl, trivial⟩
        | succ k ihk =>
          intro i hi
          obtain ⟨r, hr1, hr2⟩ := ihk (i + 1) (by omega)
          obtain ⟨_, hb, cs, y, hc, ht, _⟩ := hel i (by omega)
          obtain ⟨op, nn, s, kv, m, z, hm, rfl, hk⟩ := expr_read ht
          obtain ⟨kids, hkids⟩ := ih m kv z (by omega) hk
          obtain ⟨ao, kc, rfl, hkc, hkx⟩ := hkids b
          refine ⟨.cons op nn s kids r, by simp [EL.len, hr1], hb, hb, hc 0 _ rfl, hc 1 _ rfl, hc 2 _ rfl, ⟨ao, kc, hc 3 _ rfl, hkc, hkx⟩, ?_⟩
          rw [show off + i * 4 + 4 = off + (i + 1) * 4 by omega]
          exact hr2
      obtain ⟨l, hl1, hl2⟩ := key len 0 (by omega)
      subst hl1
      refine ⟨l, fun up => ⟨_, cap, rfl, hl, fun h0 => ?_⟩⟩
      obtain ⟨rfl, _⟩ := hel 0 (by omega)
      exact ⟨b, off, rfl, trivial, by simpa using hl2⟩
theorem stmts_in (F : Nat) : ∀ (fuel : Nat) (c : Value) (x : DataW H × List MemPlace), fuel < F → DataW.trod enc Tryz.prog W 0 (fun _ => true) true fuel 30 [c] = some x → ∃ l : SL, ∀ up, SlS (argZ W.heap.size) W up c l := by
  induction F with
  | zero => intro fuel c x h; omega
  | succ F ih =>
    intro fuel c x hF h
    rcases slice_read Tryz.underlying30 Tryz.cells66 (by omega) h with rfl | ⟨b, off, len, cap, n, spot, rfl, hl, hn, hel⟩
    · exact ⟨.nil, fun up => ⟨none, 0, rfl, Nat.le_refl _, fun h => absurd rfl h⟩⟩
    · have key : ∀ k i, i + k = len → ∃ l : SL, l.len = k ∧ StIn (argZ W.heap.size) W l b (off + i * 5) := by
        intro k
        induction k with
        | zero => exact fun i _ => ⟨.nil, rfl, trivial⟩
        | succ k ihk =>
          intro i hi
          obtain ⟨r, hr1, hr2⟩ := ihk (i + 1) (by omega)
          obtain ⟨_, hb, cs, y, hc, ht, _⟩ := hel i (by omega)
          obtain ⟨op, f, xv, tv, ev, m, z1, z2, z3, hm, rfl, hk1, hk2, hk3⟩ := stmt_read ht
          obtain ⟨ex, hex⟩ := exprs_in (m + 1) m xv z1 (by omega) hk1
          obtain ⟨th, hth⟩ := ih m tv z2 (by omega) hk2
          obtain ⟨el, hel'⟩ := ih m ev z3 (by omega) hk3
          obtain ⟨ao, kc, rfl, hkc, hkx⟩ := hth b
          obtain ⟨ao2, kc2, rfl, hkc2, hkx2⟩ := hel' b
          refine ⟨.cons op f ex th el r, by simp [SL.len, hr1], hb, hb, hc 0 _ rfl, hc 1 _ rfl, ⟨xv, hc 2 _ rfl, hex b⟩, ⟨ao, kc, hc 3 _ rfl, hkc, hkx⟩, ⟨ao2, kc2, hc 4 _ rfl, hkc2, hkx2⟩, ?_⟩
          rw [show off + i * 5 + 5 = off + (i + 1) * 5 by omega]
          exact hr2
      obtain ⟨l, hl1, hl2⟩ := key len 0 (by omega)
      subst hl1
      refine ⟨l, fun up => ⟨_, cap, rfl, hl, fun h0 => ?_⟩⟩
      obtain ⟨rfl, _⟩ := hel 0 (by omega)
      exact ⟨b, off, rfl, trivial, by simpa using hl2⟩
end
end Go.Proofs.YtljoacpaehmbdaaGreatDoor
namespace Go.Proofs.YtljoacpaehmbdaaGreatDoor
open Go.ChangeShapes Go.WideShapes Go.ChangeAt Go.RowKit Go.Deep

theorem gForms : Tryz.prog.globalNamed "arbor/syntax.forms" = some 1 := by kernel_rfl
theorem tForms : (Tryz.prog.globals[1]?).map (·.type) = some 124 := by kernel_rfl
theorem c76 : Tryz.prog.cellsOf 123 = 6 := by kernel_rfl
theorem c77 : Tryz.prog.cellsOf 124 = 156 := by kernel_rfl
/-- A row of the table, as a datum. -/
def FormA.dat (f : FormA) : DataW Unit := .agg [.lit (.int .i64 f.shape), .lit (.string f.text), .lit (.int .i64 f.kids), .lit (.int .i64 f.rank), .lit (.int .i64 f.left), .lit (.int .i64 f.right)]
theorem forms_dat : (Rows.laid_arbor_syntax_forms : DataW Unit) = .agg (formsL.map FormA.dat) := rfl
set_option maxRecDepth 100000 in
theorem form_el {W : World} {m : Nat} {cs : List Value} {x : DataW Unit × List MemPlace} {f : FormA} (h : DataW.trod (fun _ => ()) Tryz.prog W 0 (fun _ => true) false m 123 cs = some x) (hx : x.1 = f.dat) : cs = f.cs := by
  obtain ⟨xs, k, _, rfl, hl, hlen, hf⟩ := DataW.trod_struct Tryz.underlying123 h
  have hl' : cs.length = 6 := hl.trans c76
  match xs, hlen, cs, hl' with
  | [y0, y1, y2, y3, y4, y5], _, [a0, a1, a2, a3, a4, a5], _ =>
    have h0 : DataW.trod (fun _ => ()) Tryz.prog W 0 (fun _ => true) false k 3 (([a0, a1, a2, a3, a4, a5].drop 0).take (Tryz.prog.cellsOf 3)) = some y0 := hf 0 _ rfl
    have h1 : DataW.trod (fun _ => ()) Tryz.prog W 0 (fun _ => true) false k 9 (([a0, a1, a2, a3, a4, a5].drop 1).take (Tryz.prog.cellsOf 9)) = some y1 := hf 1 _ rfl
    have h2 : DataW.trod (fun _ => ()) Tryz.prog W 0 (fun _ => true) false k 3 (([a0, a1, a2, a3, a4, a5].drop 2).take (Tryz.prog.cellsOf 3)) = some y2 := hf 2 _ rfl
    have h3 : DataW.trod (fun _ => ()) Tryz.prog W 0 (fun _ => true) false k 3 (([a0, a1, a2, a3, a4, a5].drop 3).take (Tryz.prog.cellsOf 3)) = some y3 := hf 3 _ rfl
    have h4 : DataW.trod (fun _ => ()) Tryz.prog W 0 (fun _ => true) false k 3 (([a0, a1, a2, a3, a4, a5].drop 4).take (Tryz.prog.cellsOf 3)) = some y4 := hf 4 _ rfl
    have h5 : DataW.trod (fun _ => ()) Tryz.prog W 0 (fun _ => true) false k 3 (([a0, a1, a2, a3, a4, a5].drop 5).take (Tryz.prog.cellsOf 3)) = some y5 := hf 5 _ rfl
    rw [e3] at h0 h2 h3 h4 h5
    rw [e9] at h1
    obtain ⟨n0, q0, w0, _⟩ := DataW.trod_int Tryz.underlying3 h0
    obtain ⟨s1, q1, w1, _⟩ := DataW.trod_string Tryz.underlying9 h1
    obtain ⟨n2, q2, w2, _⟩ := DataW.trod_int Tryz.underlying3 h2
    obtain ⟨n3, q3, w3, _⟩ := DataW.trod_int Tryz.underlying3 h3
    obtain ⟨n4, q4, w4, _⟩ := DataW.trod_int Tryz.underlying3 h4
    obtain ⟨n5, q5, w5, _⟩ := DataW.trod_int Tryz.underlying3 h5
    simp only [FormA.dat, DataW.agg.injEq, List.map_cons, List.map_nil, List.cons.injEq, and_true] at hx
    rw [w0, w1, w2, w3, w4, w5] at hx
    simp at hx q0 q1 q2 q3 q4 q5
    obtain ⟨r0, r1, r2, r3, r4, r5⟩ := hx
    rw [q0, q1, q2, q3, q4, q5, str_of, r0, r1, r2, r3, r4, r5]
    rfl
theorem forms_met {W : World} (h : laidMetH Tryz.prog [("arbor/syntax.forms", Rows.laid_arbor_syntax_forms)] W) : Forms W := by
  rw [MakeChecks.laidMetH_plain _ _ _ (by kernel_rfl)] at h
  obtain ⟨ps, ⟨g0, t0, cs0, f0, p0, q0, hg0, ht0, hv0, hd0, _, _⟩, _, _⟩ := h
  obtain rfl := Option.some.inj (gForms.symm.trans hg0)
  obtain rfl := Option.some.inj (tForms.symm.trans ht0)
  obtain ⟨xs, m1, rfl, hx1, hlen, hn3, hel⟩ := DataW.trod_array Tryz.underlying124 hd0
  have q := fun j => World.var?_cell hg0 hv0 j
  obtain ⟨cl⟩ := cs0
  have hlen' : cl.length = 156 := hlen.trans c77
  have hxs : xs.map (·.1) = formsL.map FormA.dat := by
    have := (Prod.mk.inj hx1).1
    rw [forms_dat] at this
    exact (DataW.agg.inj this).symm
  have el : ∀ (i : Nat) (f : FormA), formsL[i]? = some f → (cl.drop (i * 6)).take 6 = f.cs := fun i f hf => by
    have hi : i < 26 := (List.getElem?_eq_some_iff.1 hf).1
    have h1 : (xs.map (·.1))[i]? = some f.dat := by rw [hxs]; simp [hf]
    cases hx : xs[i]? with
    | none => rw [List.getElem?_map, hx] at h1; cases h1
    | some x =>
      rw [List.getElem?_map, hx] at h1
      have h2 := hel i hi
      rw [c76, hx] at h2
      exact form_el h2 (Option.some.inj h1)
  have hlt : 1 < W.heap.size := by
    obtain ⟨c, hc⟩ : ∃ c, cl[0]? = some c := ⟨_, List.getElem?_eq_getElem (by omega)⟩
    have := World.block_lt_of_cell? W ⟨1, 0, none⟩ (u := c) (by rw [q 0]; simpa using hc)
    exact this
  refine ⟨hlt, fun i f hf j x hx => ?_⟩
  have hj : j < 6 := (List.getElem?_eq_some_iff.1 hx).1
  have hq := q (i * 6 + j)
  rw [hq]
  have := congrArg (fun l => l[j]?) (el i f hf)
  simp only [List.getElem?_take, hj, if_true, List.getElem?_drop] at this
  simpa [this] using hx
end Go.Proofs.YtljoacpaehmbdaaGreatDoor
namespace Go.Proofs.YtljoacpaehmbdaaGreatDoor
open Go.ChangeShapes Go.WideShapes Go.ChangeAt Go.RowKit Go.Deep

theorem gTypes : Tryz.prog.globalNamed "arbor/value.types" = some 0 := by kernel_rfl
theorem tTypes : (Tryz.prog.globals[0]?).map (·.type) = some 118 := by kernel_rfl

theorem c92 : Tryz.prog.cellsOf 117 = 2 := by kernel_rfl
theorem c93 : Tryz.prog.cellsOf 118 = 8 := by kernel_rfl

theorem types_el {W : World} {m : Nat} {a b : Value} {x : DataW Unit × List MemPlace} {s : Txt} {n : Int} (h : DataW.trod (fun _ => ()) Tryz.prog W 0 (fun _ => true) false m 117 [a, b] = some x) (hx : x.1 = .agg [.lit (.string s), .lit (.int .i64 n)]) : a = str s ∧ b = .int .i64 n := by
  obtain ⟨xs, k, _, rfl, hl, hlen, hf⟩ := DataW.trod_struct Tryz.underlying117 h
  match xs, hlen with
  | [y0, y1], _ =>
    have h0 : DataW.trod (fun _ => ()) Tryz.prog W 0 (fun _ => true) false k 9 (([a, b].drop 0).take (Tryz.prog.cellsOf 9)) = some y0 := hf 0 _ rfl
    have h1 : DataW.trod (fun _ => ()) Tryz.prog W 0 (fun _ => true) false k 3 (([a, b].drop 1).take (Tryz.prog.cellsOf 3)) = some y1 := hf 1 _ rfl
    rw [e9] at h0
    rw [e3] at h1
    obtain ⟨s', q0, hs', _⟩ := DataW.trod_string Tryz.underlying9 h0
    obtain ⟨n', q1, hn', _⟩ := DataW.trod_int Tryz.underlying3 h1
    simp only [DataW.agg.injEq, List.map_cons, List.map_nil, List.cons.injEq, and_true] at hx
    rw [hs', hn'] at hx
    simp at hx q0 q1
    rw [q0, q1, str_of, hx.1, hx.2]
    exact ⟨rfl, rfl⟩

set_option maxRecDepth 100000 in
theorem types_met {W : World} (h : laidMetH Tryz.prog [("arbor/value.types", Rows.laid_arbor_value_types)] W) : Types W := by
  rw [MakeChecks.laidMetH_plain _ _ _ (by kernel_rfl)] at h
  obtain ⟨ps, ⟨g0, t0, cs0, f0, p0, q0, hg0, ht0, hv0, hd0, _, _⟩, _, _⟩ := h
  obtain rfl := Option.some.inj (gTypes.symm.trans hg0)
  obtain rfl := Option.some.inj (tTypes.symm.trans ht0)
  obtain ⟨xs, m1, rfl, hx1, hlen, hn3, hel⟩ := DataW.trod_array Tryz.underlying118 hd0
  have q := fun j => World.var?_cell hg0 hv0 j
  obtain ⟨cl⟩ := cs0
  have hlen' : cl.length = 8 := hlen.trans c93
  have hel' : ∀ i, i < 4 → DataW.trod (fun _ => ()) Tryz.prog W 0 (fun _ => true) false m1 117 ((cl.drop (i * 2)).take 2) = xs[i]? := fun i hi => by
    have := hel i hi
    rw [c92] at this
    exact this
  clear hel hlen hd0
  match cl, hlen', xs, hn3 with
  | [c0, c1, c2, c3, c4, c5, c6, c7], _, [x0, x1, x2, x3], _ =>
    simp only [Prod.mk.injEq, Rows.laid_arbor_value_types, DataW.agg.injEq, List.map_cons, List.map_nil, List.cons.injEq, and_true] at hx1
    obtain ⟨⟨e0, e1, e2, e3⟩, _⟩ := hx1
    have h0 := types_el (hel' 0 (by decide)) e0.symm
    have h1 := types_el (hel' 1 (by decide)) e1.symm
    have h2 := types_el (hel' 2 (by decide)) e2.symm
    have h3 := types_el (hel' 3 (by decide)) e3.symm
    have hq0 := q 0
    have hlt : 0 < W.heap.size := by
      have := World.block_lt_of_cell? W ⟨0, 0, none⟩ (u := c0) (by rw [hq0]; rfl)
      exact this
    refine ⟨hlt, fun j x hx => ?_⟩
    rw [q j]
    obtain ⟨rfl, rfl⟩ := h0
    obtain ⟨rfl, rfl⟩ := h1
    obtain ⟨rfl, rfl⟩ := h2
    obtain ⟨rfl, rfl⟩ := h3
    exact hx

theorem types_of {W : World} {l : List (String × _)} (hl : l = [("arbor/value.types", Rows.laid_arbor_value_types), ("arbor/syntax.forms", Rows.laid_arbor_syntax_forms)]) (h : laidMetH Tryz.prog l W) : Types W ∧ Forms W := by
  subst hl
  have h1 := h.filter (fun x => x.1 == "arbor/value.types")
  have h2 := h.filter (fun x => x.1 == "arbor/syntax.forms")
  rw [show [("arbor/value.types", Rows.laid_arbor_value_types), ("arbor/syntax.forms", Rows.laid_arbor_syntax_forms)].filter (fun x => x.1 == "arbor/value.types") = [("arbor/value.types", Rows.laid_arbor_value_types)] by rfl] at h1
  rw [show [("arbor/value.types", Rows.laid_arbor_value_types), ("arbor/syntax.forms", Rows.laid_arbor_syntax_forms)].filter (fun x => x.1 == "arbor/syntax.forms") = [("arbor/syntax.forms", Rows.laid_arbor_syntax_forms)] by rfl] at h2
  exact ⟨types_met h1, forms_met h2⟩
theorem e4 : Tryz.prog.cellsOf 4 = 1 := by kernel_rfl
theorem e43 : Tryz.prog.cellsOf 70 = 3 := by kernel_rfl
theorem e24 : Tryz.prog.cellsOf 26 = 1 := by kernel_rfl
theorem b43 : Tryz.prog.bytesOf 70 = 32 := by kernel_rfl
section
variable {H : Type} {enc : TypeId × Value → H} {W : World}
set_option maxRecDepth 100000 in
theorem field_read {fuel : Nat} {cs : List Value} {x : DataW H × List MemPlace} (h : DataW.trod enc Tryz.prog W 0 (fun _ => true) true fuel 70 cs = some x) : ∃ f : FieldA, cs = f.cs := by
  obtain ⟨xs, m, hm, _, hl, hlen, hf⟩ := DataW.trod_struct Tryz.underlying70 h
  have hl' : cs.length = 3 := hl.trans e43
  match xs, hlen, cs, hl' with
  | [y0, y1, y2], _, [c0, c1, c2], _ =>
    have h0 : DataW.trod enc Tryz.prog W 0 (fun _ => true) true m 9 (([c0, c1, c2].drop 0).take (Tryz.prog.cellsOf 9)) = some y0 := hf 0 _ rfl
    have h1 : DataW.trod enc Tryz.prog W 0 (fun _ => true) true m 3 (([c0, c1, c2].drop 1).take (Tryz.prog.cellsOf 3)) = some y1 := hf 1 _ rfl
    have h2 : DataW.trod enc Tryz.prog W 0 (fun _ => true) true m 4 (([c0, c1, c2].drop 2).take (Tryz.prog.cellsOf 4)) = some y2 := hf 2 _ rfl
    rw [e9] at h0
    rw [e3] at h1
    rw [e4] at h2
    simp only [List.drop_zero, List.take_succ_cons, List.take_zero, List.drop_succ_cons] at h0 h1 h2
    obtain ⟨s, q0, _, _⟩ := DataW.trod_string Tryz.underlying9 h0
    obtain ⟨k, q1, _, _⟩ := DataW.trod_int Tryz.underlying3 h1
    obtain ⟨o, q2, _⟩ := DataW.trod_bool Tryz.underlying4 h2
    simp at q0 q1 q2
    exact ⟨⟨s.data.toList, k, o⟩, by rw [q0, q1, q2, str_of]; rfl⟩
end
end Go.Proofs.YtljoacpaehmbdaaGreatDoor
namespace Go.Proofs.YtljoacpaehmbdaaGreatDoor
open Go.ChangeShapes Go.WideShapes Go.ChangeAt Go.RowKit Go.Deep

instance : Inhabited FieldA := ⟨⟨[], 0, false⟩⟩
theorem fcs_at : ∀ (l : List FieldA) (j : Nat), (fcs l)[j]? = (l[j / 3]?).bind fun x => x.cs[j % 3]?
  | [], j => by simp [fcs]
  | y :: r, j => by
    have e : fcs (y :: r) = y.cs ++ fcs r := rfl
    have hy : y.cs.length = 3 := rfl
    rw [e]
    by_cases h : j < 3
    · rw [List.getElem?_append_left (by rw [hy]; exact h), Nat.div_eq_of_lt h, Nat.mod_eq_of_lt h]
      rfl
    · rw [List.getElem?_append_right (by rw [hy]; omega), hy, fcs_at r (j - 3)]
      have h1 : j / 3 = (j - 3) / 3 + 1 := by omega
      have h2 : j % 3 = (j - 3) % 3 := by omega
      rw [h1, h2]
      rfl
section
variable {H : Type} {enc : TypeId × Value → H} {W : World}
set_option maxRecDepth 100000 in
/-- The schema that came in, with a bound on its length by what it weighs. -/
theorem schema_in {fuel : Nat} {cs : List Value} {x : DataW H × List MemPlace} (h : DataW.trod enc Tryz.prog W 0 (fun _ => true) true fuel 26 cs = some x) (hw : ∀ n ∈ x.1.weights Tryz.prog 26, n ≤ reachBytes) :
    ∃ (sv : Value) (S : List FieldA), cs = [sv] ∧ FldsAt W sv S ∧ S.length ≤ 4398046511104 := by
  obtain ⟨xs, m, hm, hx, hl, hlen, hf⟩ := DataW.trod_struct Tryz.underlying26 h
  have hl' : cs.length = 1 := hl.trans e24
  match xs, hlen, cs, hl' with
  | [y0], _, [c0], _ =>
    have h0 : DataW.trod enc Tryz.prog W 0 (fun _ => true) true m 24 (([c0].drop 0).take (Tryz.prog.cellsOf 24)) = some y0 := hf 0 _ rfl
    rw [show Tryz.prog.cellsOf 24 = 1 by kernel_rfl] at h0
    simp only [List.drop_zero, List.take_succ_cons, List.take_zero] at h0
    refine ⟨c0, ?_⟩
    have hw0 : ∀ n ∈ y0.1.weights Tryz.prog 24, n ≤ reachBytes := fun n hn => hw n (by
      rw [hx]
      simp only [DataW.weights, Tryz.underlying26, List.map_cons, List.map_nil, DataW.weightsEach, List.append_nil]
      exact hn)
    have hsl := slice_read Tryz.underlying24 e43 (by omega) h0
    rcases DataW.trod_slice Tryz.underlying24 h0 with ⟨hcs, _⟩ | ⟨a, len, cap, elems, rest, n, hn, hcs, hxx, _, hlc, _, hel, _, _, _⟩
    · simp at hcs
      subst hcs
      exact ⟨[], rfl, ⟨⟨_, _, rfl⟩, fun h0 => by simp at h0, fun ao m cap e => by simp at e; omega⟩, by simp⟩
    · have hbound : len ≤ 4398046511104 := by
        have := hw0 ((elems.length + rest.length) * 32) (by
          rw [hxx]
          simp only [DataW.weights, Tryz.underlying24, List.length_map, b43]
          exact List.mem_cons_self ..)
        unfold reachBytes at this
        omega
      simp at hcs
      subst hcs
      rcases hsl with hn0 | ⟨b, off, len', cap', n', spot, he, hlc', _, hels⟩
      · cases hn0
      · obtain ⟨e1, e2, e3⟩ := Value.slice.inj he
        subst e2 e3
        have e1' := Option.some.inj e1
        subst e1'
        have hev : ∀ i, i < len → ∃ f : FieldA, ∀ j v, f.cs[j]? = some v → W.cell? ⟨b, off + i * 3 + j, none⟩ = some v := fun i hi => by
          obtain ⟨_, _, cs, y, hc, ht, _⟩ := hels i hi
          obtain ⟨f, rfl⟩ := field_read ht
          exact ⟨f, hc⟩
        obtain ⟨f, hff⟩ := choose_lt hev
        refine ⟨(List.range len).map f, rfl, ⟨⟨_, _, by simp; exact ⟨rfl, rfl⟩⟩, fun h0 => ?_, fun ao m cap e => by simp at e; omega⟩, by simpa using hbound⟩
        simp at h0
        obtain ⟨rfl, hb, _⟩ := hels 0 h0
        refine ⟨b, off, cap, by simp, hb, fun j v hv => ?_⟩
        rw [fcs_at] at hv
        cases hi : ((List.range len).map f)[j / 3]? with
        | none => rw [hi] at hv; cases hv
        | some p =>
          rw [hi] at hv
          have hil : j / 3 < len := by
            have := (List.getElem?_eq_some_iff.1 hi).1
            simpa using this
          have hpe : f (j / 3) = p := by simpa [hil] using hi
          have := hff (j / 3) hil (j % 3) v (by rw [hpe]; exact hv)
          rw [show off + j = off + j / 3 * 3 + j % 3 by omega]
          exact this
end
end Go.Proofs.YtljoacpaehmbdaaGreatDoor
namespace Go.Proofs.YtljoacpaehmbdaaGreatDoor
open Go.ChangeShapes Go.WideShapes Go.ChangeAt Go.RowKit Go.Deep

theorem weightsAll_in {H : Type} {P : Program} {e : TypeId} : ∀ {l : List (DataW H)} {d : DataW H}, d ∈ l → ∀ n ∈ d.weights P e, n ∈ DataW.weightsAll P e l
  | y :: r, d, hd, n, hn => by
    simp only [DataW.weightsAll, List.mem_append]
    rcases List.mem_cons.1 hd with rfl | h
    · exact Or.inl hn
    · exact Or.inr (weightsAll_in h n hn)
theorem c32 : Tryz.prog.cellsOf 32 = 7 := by kernel_rfl
theorem b32 : Tryz.prog.bytesOf 32 = 112 := by kernel_rfl
section
variable {H : Type} {enc : TypeId × Value → H} {W : World}
set_option maxRecDepth 100000 in
/-- What is read of a call of a script. -/
theorem op_read {fuel : Nat} {cs : List Value} {x : DataW H × List MemPlace} (h : DataW.trod enc Tryz.prog W 0 (fun _ => true) true fuel 32 cs = some x) (hw : ∀ n ∈ x.1.weights Tryz.prog 32, n ≤ reachBytes) :
    ∃ (k op n : Int) (s : Txt) (sv xv pv : Value) (S : List FieldA) (kids : EL) (p : SL), cs = [.int .i64 k, sv, .int .i64 op, .int .i64 n, str s, xv, pv] ∧ FldsAt W sv S ∧ S.length ≤ 4398046511104 ∧ (∀ up, SlE (argZ W.heap.size) W up xv kids) ∧ ∀ up, SlS (argZ W.heap.size) W up pv p := by
  obtain ⟨xs, m, hm, hx, hl, hlen, hf⟩ := DataW.trod_struct Tryz.underlying32 h
  have hl' : cs.length = 7 := hl.trans c32
  match xs, hlen, cs, hl' with
  | [y0, y1, y2, y3], _, [c0, c1, c2, c3, c4, c5, c6], _ =>
    have h0 : DataW.trod enc Tryz.prog W 0 (fun _ => true) true m 3 (([c0, c1, c2, c3, c4, c5, c6].drop 0).take (Tryz.prog.cellsOf 3)) = some y0 := hf 0 _ rfl
    have h1 : DataW.trod enc Tryz.prog W 0 (fun _ => true) true m 26 (([c0, c1, c2, c3, c4, c5, c6].drop 1).take (Tryz.prog.cellsOf 26)) = some y1 := hf 1 _ rfl
    have h2 : DataW.trod enc Tryz.prog W 0 (fun _ => true) true m 29 (([c0, c1, c2, c3, c4, c5, c6].drop 2).take (Tryz.prog.cellsOf 29)) = some y2 := hf 2 _ rfl
    have h3 : DataW.trod enc Tryz.prog W 0 (fun _ => true) true m 30 (([c0, c1, c2, c3, c4, c5, c6].drop 6).take (Tryz.prog.cellsOf 30)) = some y3 := hf 3 _ rfl
    rw [e3] at h0
    rw [e24] at h1
    rw [show Tryz.prog.cellsOf 29 = 4 by kernel_rfl] at h2
    rw [show Tryz.prog.cellsOf 30 = 1 by kernel_rfl] at h3
    simp only [List.drop_zero, List.take_succ_cons, List.take_zero, List.drop_succ_cons] at h0 h1 h2 h3
    obtain ⟨k, q0, _, _⟩ := DataW.trod_int Tryz.underlying3 h0
    simp at q0
    have hw1 : ∀ n ∈ y1.1.weights Tryz.prog 26, n ≤ reachBytes := fun n hn => hw n (by
      rw [hx]
      simp only [DataW.weights, Tryz.underlying32]
      exact DataW.weights_mem_each (j := 1) (t := 26) rfl rfl n hn)
    obtain ⟨sv, S, hsv, hS, hlS⟩ := schema_in h1 hw1
    simp at hsv
    obtain ⟨op, n, s, kv, m2, y, hm2, hcs, hk⟩ := expr_read h2
    simp at hcs
    obtain ⟨kids, hkids⟩ := exprs_in (m2 + 1) m2 kv y (by omega) hk
    obtain ⟨p, hp⟩ := stmts_in (m + 1) m c6 y3 (by omega) h3
    obtain ⟨r2, r3, r4, r5⟩ := hcs
    exact ⟨k, op, n, s, sv, kv, c6, S, kids, p, by rw [q0, hsv, r2, r3, r4, r5], hS, hlS, hkids, hp⟩
set_option maxRecDepth 100000 in
/-- The script that came in. -/
theorem ops_in {fuel : Nat} {c : Value} {x : DataW H × List MemPlace} (h : DataW.trod enc Tryz.prog W 0 (fun _ => true) true fuel 22 [c] = some x) (hw : ∀ n ∈ x.1.weights Tryz.prog 22, n ≤ reachBytes) :
    ∃ (ao : Option Addr) (n cap : Nat), c = .slice ao n cap ∧ n ≤ 4398046511104 ∧ (0 < n → ∃ b off, ao = some ⟨b, off, none⟩ ∧ b < W.heap.size ∧ ∀ i, i < n → ∃ (k op m : Int) (s : Txt) (sv xv pv : Value) (S : List FieldA) (kids : EL) (p : SL),
      (∀ j v, ([.int .i64 k, sv, .int .i64 op, .int .i64 m, str s, xv, pv] : List Value)[j]? = some v → W.cell? ⟨b, off + i * 7 + j, none⟩ = some v) ∧ FldsAt W sv S ∧ S.length ≤ 4398046511104 ∧ (∀ up, SlE (argZ W.heap.size) W up xv kids) ∧ ∀ up, SlS (argZ W.heap.size) W up pv p) := by
  rcases DataW.trod_slice Tryz.underlying22 h with ⟨hcs, _⟩ | ⟨a, len, cap, elems, rest, n, hn, hcs, hxx, _, hl, _, hlen, hel, _, _⟩
  · simp at hcs
    subst hcs
    exact ⟨none, 0, 0, rfl, by omega, fun h => by omega⟩
  · simp at hcs
    subst hcs
    rw [hxx] at hw
    simp only [DataW.weights, Tryz.underlying22, List.length_map, b32] at hw
    have hbound : len ≤ 4398046511104 := by
      have := hw _ (List.mem_cons_self ..)
      unfold reachBytes at this
      omega
    refine ⟨_, len, cap, rfl, hbound, fun hpos => ?_⟩
    obtain ⟨b, off, spot⟩ := a
    have cell : ∀ i, i < len → ∃ cs y, W.cells? 0 (Addr.add ⟨b, off, spot⟩ (i * 7)) 7 = some cs ∧ y ∈ elems ∧ DataW.trod enc Tryz.prog W 0 (fun _ => true) true n 32 cs = some y := fun i hi => by
      have hi' := hel i hi
      rw [c32] at hi'
      obtain ⟨y, hy⟩ : ∃ y, elems[i]? = some y := ⟨_, List.getElem?_eq_getElem (by omega)⟩
      rw [hy] at hi'
      cases hcells : W.cells? 0 (Addr.add ⟨b, off, spot⟩ (i * 7)) 7 with
      | none => rw [hcells] at hi'; cases hi'
      | some cs =>
        rw [hcells] at hi'
        exact ⟨cs, y, rfl, List.mem_of_getElem? hy, hi'⟩
    have hspot : spot = none := by
      obtain ⟨cs, y, hcs, _, _⟩ := cell 0 hpos
      obtain ⟨_, hcl, hcc⟩ := World.cells?_some hcs
      have hc0 := hcc 0 (by omega)
      obtain ⟨v0, hv0⟩ : ∃ v, cs[0]? = some v := ⟨_, List.getElem?_eq_getElem (by omega)⟩
      rw [hv0] at hc0
      have := World.cell?_spot hc0
      simpa [Addr.add] using this
    subst hspot
    have ops : ∀ i, i < len → b < W.heap.size ∧ ∃ (k op m : Int) (s : Txt) (sv xv pv : Value) (S : List FieldA) (kids : EL) (p : SL),
      (∀ j v, ([.int .i64 k, sv, .int .i64 op, .int .i64 m, str s, xv, pv] : List Value)[j]? = some v → W.cell? ⟨b, off + i * 7 + j, none⟩ = some v) ∧ FldsAt W sv S ∧ S.length ≤ 4398046511104 ∧ (∀ up, SlE (argZ W.heap.size) W up xv kids) ∧ ∀ up, SlS (argZ W.heap.size) W up pv p := fun i hi => by
      obtain ⟨cs, y, hcs, hmem, hy⟩ := cell i hi
      obtain ⟨_, hcl, hcc⟩ := World.cells?_some hcs
      simp only [Addr.add_lit] at hcc
      have hat : ∀ j v, cs[j]? = some v → W.cell? ⟨b, off + i * 7 + j, none⟩ = some v := fun j v hv => by
        have hj := (List.getElem?_eq_some_iff.1 hv).1
        have := hcc j (by omega)
        rw [hv] at this
        exact this
      obtain ⟨v0, hv0⟩ : ∃ v, cs[0]? = some v := ⟨_, List.getElem?_eq_getElem (by omega)⟩
      have hwy : ∀ m ∈ y.1.weights Tryz.prog 32, m ≤ reachBytes := fun m hm => hw m (List.mem_cons_of_mem _ (List.mem_append_left _ (weightsAll_in (List.mem_map_of_mem hmem) m hm)))
      obtain ⟨k, op, m, s, sv, xv, pv, S, kids, p, rfl, hS, hlS, hk, hp⟩ := op_read hy hwy
      exact ⟨World.block_lt_of_cell? W _ (hat 0 v0 hv0), k, op, m, s, sv, xv, pv, S, kids, p, hat, hS, hlS, hk, hp⟩
    exact ⟨b, off, rfl, (ops 0 hpos).1, fun i hi => (ops i hi).2⟩
end
end Go.Proofs.YtljoacpaehmbdaaGreatDoor
