import Derived.Test.YtonodcmbbgpjjaaDoorJp
import Derived.Test.YtonodcmbbgpjjaaDoorJn
import Derived.Test.YtonodcmbbgpjjaaDoorJm
import Derived.Test.YtonodcmbbgpjjaaDoorJk
import Derived.Test.YtonodcmbbgpjjaaDoorJf
namespace Go.Proofs.YtonodcmbbgpjjaaDoor
open Go.RowKit Go.Maps
/-- What a run has, in memory: its schema, its row, its stack. -/
structure RunAt (w : World) (b : Nat) (sv rv : Value) (m : MS) : Prop where
  blk : ∃ cur : Array Value, w.heap[b]? = some (.cells cur 80 (0, 0)) ∧ cur.size = 52
  c0 : w.cell? ⟨b, 0, none⟩ = some sv
  c1 : w.cell? ⟨b, 1, none⟩ = some (.bool m.here)
  c2 : w.cell? ⟨b, 2, none⟩ = some rv
  ch : w.cell? ⟨b, 51, none⟩ = some (.int .i64 (m.st.length : Int))
  stk : ∀ (i : Nat) (v : ValA), m.st[i]? = some v → w.cell? ⟨b, 3 + i * 3, none⟩ = some (.int .i64 v.kind) ∧ w.cell? ⟨b, 3 + i * 3 + 1, none⟩ = some (.int .i64 v.n) ∧ w.cell? ⟨b, 3 + i * 3 + 2, none⟩ = some (str v.s)
  len : m.st.length ≤ 16
theorem RunAt.lt {w : World} {b : Nat} {sv rv : Value} {m : MS} (h : RunAt w b sv rv m) : b < w.heap.size := by
  obtain ⟨cur, hb, _⟩ := h.blk
  exact lt_of_block hb
theorem RunAt.keep {F : Nat → Prop} {w w' : World} {b : Nat} {sv rv : Value} {m : MS} (h : RunAt w b sv rv m) (hk : Keeps F w w') (hF : ¬ F b) : RunAt w' b sv rv m := by
  obtain ⟨cur, hb, hs⟩ := h.blk
  have q := fun (o : Nat) => hk.cell (o := o) h.lt hF
  exact ⟨⟨cur, (hk.block b h.lt hF).trans hb, hs⟩, (q 0).trans h.c0, (q 1).trans h.c1, (q 2).trans h.c2, (q 51).trans h.ch, fun i v hv => ⟨(q _).trans (h.stk i v hv).1, (q _).trans (h.stk i v hv).2.1, (q _).trans (h.stk i v hv).2.2⟩, h.len⟩
theorem RunAt.keepF {w w' : World} {b : Nat} {sv rv : Value} {m : MS} (h : RunAt w b sv rv m) (hk : Keeps (fun _ => False) w w') : RunAt w' b sv rv m := h.keep hk id
theorem take_get {α : Type} {l : List α} {n i : Nat} {v : α} (h : (l.take n)[i]? = some v) : i < n ∧ l[i]? = some v := by
  rw [List.getElem?_take] at h
  split at h
  · exact ⟨‹_›, h⟩
  · cases h
theorem RunAt.popped {w : World} {b : Nat} {sv rv : Value} {m : MS} (h : RunAt w b sv rv m) {n : Nat} (hn : m.st.length = n + 1) :
    RunAt (w.setCell ⟨b, 51, none⟩ (.int .i64 (n : Int))) b sv rv ⟨m.st.take n, m.here, m.vals⟩ := by
  obtain ⟨cur, hB, hs⟩ := h.blk
  have hE := heap_setCell_at (o := 51) hB (.int .i64 (n : Int))
  have q : ∀ o, o ≠ 51 → (w.setCell ⟨b, 51, none⟩ (.int .i64 (n : Int))).cell? ⟨b, o, none⟩ = w.cell? ⟨b, o, none⟩ := fun o ho => by
    rw [cell_of_blk hE, cell_of_blk hB, Array.getElem?_setIfInBounds_ne (Ne.symm ho)]
  have hl := h.len
  have hlen : (m.st.take n).length = n := by simp; omega
  refine ⟨⟨_, hE, by simpa using hs⟩, (q 0 (by omega)).trans h.c0, (q 1 (by omega)).trans h.c1, (q 2 (by omega)).trans h.c2, ?_, fun i v hv => ?_, ?_⟩
  · rw [hlen, cell_of_blk hE]
    simp [hs]
  · obtain ⟨h1, h2⟩ := take_get hv
    have := h.stk i v h2
    exact ⟨(q _ (by omega)).trans this.1, (q _ (by omega)).trans this.2.1, (q _ (by omega)).trans this.2.2⟩
  · show (m.st.take n).length ≤ 16
    omega
theorem keeps_one (w : World) (b o : Nat) (x : Value) : Keeps (fun q => q = b) w (w.setCell ⟨b, o, none⟩ x) :=
  Keeps.setCell (F := fun q => q = b) (p := ⟨b, o, none⟩) (Keeps.refl (fun q => q = b) w) (fun _ => rfl) x
abbrev ZC : Obj := .cells #[.int .i64 0, .int .i64 0, .string ⟨#[]⟩] 67
set_option maxRecDepth 100000 in
set_option maxHeartbeats 2000000 in
theorem pop_v {w : World} {b : Nat} {sv rv : Value} {m : MS} (h : RunAt w b sv rv m) {n : Nat} {a : ValA} (hn : m.st.length = n + 1) (ha : m.st[n]? = some a) :
    Calls Tryd.prog 43 #[.pointer (some ⟨b, 0, none⟩)] w fun e w' => e = .returned a.v ∧ RunAt w' b sv rv ⟨m.st.take n, m.here, m.vals⟩ ∧ Keeps (fun q => q = b) w w' := by
  have hb : b < w.heap.size := h.lt
  have hl := h.len
  have h1 := h.keepF (kAlloc w (.cells #[.int .i64 0, .int .i64 0, .string ⟨#[]⟩] 67))
  obtain ⟨cur, hB, hs⟩ := h1.blk
  have ch := h1.ch
  rw [hn, show ((n + 1 : Nat) : Int) = (n : Int) + 1 by omega] at ch
  have z := frozen_of_blk hB 51
  have i0 : (0 : Int) ≤ (n : Int) := by omega
  have i1 : (n : Int) < 16 := by omega
  have HP := hide ((h.popped hn).keepF (kAlloc _ (.cells #[.int .i64 0, .int .i64 0, .string ⟨#[]⟩] 67)))
  have hX2 := heap_alloc_new (w.setCell ⟨b, 51, none⟩ (.int .i64 (n : Int))) (.cells #[.int .i64 0, .int .i64 0, .string ⟨#[]⟩] 67)
  rw [show (w.setCell ⟨b, 51, none⟩ (.int .i64 (n : Int))).heap.size = w.heap.size by simp] at hX2
  have HX2 := hide hX2
  have HK2 := hide ((keeps_one w b 51 (.int .i64 (n : Int))).alloc (.cells #[.int .i64 0, .int .i64 0, .string ⟨#[]⟩] 67))
  obtain ⟨cur2, hB2, hs2⟩ := h.blk
  have hE := heap_setCell_at (o := 51) hB2 (.int .i64 (n : Int))
  have q : ∀ o, o ≠ 51 → ((w.setCell ⟨b, 51, none⟩ (.int .i64 (n : Int))).alloc (.cells #[.int .i64 0, .int .i64 0, .string ⟨#[]⟩] 67)).cell? ⟨b, o, none⟩ = w.cell? ⟨b, o, none⟩ := fun o ho => by
    rw [(kAlloc _ _).cell (by simpa using hb) id, cell_of_blk hE, cell_of_blk hB2, Array.getElem?_setIfInBounds_ne (Ne.symm ho)]
  have hst := h.stk n a ha
  have d0 := (q _ (by omega)).trans hst.1
  have d1 := (q _ (by omega)).trans hst.2.1
  have d2 := (q _ (by omega)).trans hst.2.2
  have dh : ((w.setCell ⟨b, 51, none⟩ (.int .i64 (n : Int))).alloc (.cells #[.int .i64 0, .int .i64 0, .string ⟨#[]⟩] 67)).cell? ⟨b, 51, none⟩ = some (.int .i64 (n : Int)) := by
    rw [(kAlloc _ _).cell (by simpa using hb) id, cell_of_blk hE]; simp [hs2]
  unfold ValA.v
  clear q hE hB hs hn ha h hX2 hst h1 hB2 hs2
  go_enter Tryd.func43, Tryd.ntmps43
  go_wp2_with fail
  generalize (w.setCell ⟨b, 51, none⟩ (.int .i64 (n : Int))).alloc (.cells #[.int .i64 0, .int .i64 0, .string ⟨#[]⟩] 67) = W at *
  have hX3 := unhide HX2
  have z0 := frozen_of_blk hX3 0
  have z1 := frozen_of_blk hX3 1
  have z2 := frozen_of_blk hX3 2
  have y0 : W.cell? ⟨w.heap.size, 0, none⟩ = some (.int .i64 0) := (cell_of_blk hX3 _).trans rfl
  have y1 : W.cell? ⟨w.heap.size, 1, none⟩ = some (.int .i64 0) := (cell_of_blk hX3 _).trans rfl
  have y2 : W.cell? ⟨w.heap.size, 2, none⟩ = some (.string ⟨#[]⟩) := (cell_of_blk hX3 _).trans rfl
  obtain ⟨s0, s1, s2⟩ := set3 hX3 (.int .i64 a.kind) (.int .i64 a.n) (str a.s)
  have HK3 := hide (keeps_set3 W w.heap.size (.int .i64 a.kind) (.int .i64 a.n) (str a.s))
  clear hX3 ch z
  go_region
  go_wp2_with fail
  refine bodyPost_ret (v := .agg #[.int .i64 a.kind, .int .i64 a.n, str a.s]) (by simp [results, go_sem, s0, s1, s2]) rfl ?_
  have hne : ¬ b = w.heap.size := by omega
  refine ⟨rfl, ((unhide HP).keep (unhide HK3) hne).keepF (Keeps.refl _ _).drew, ?_⟩
  exact ((unhide HK2).then (unhide HK3) (fun i hi e => by omega)).drew
theorem RunAt.pushed {w : World} {b : Nat} {sv rv : Value} {m : MS} (h : RunAt w b sv rv m) (v : ValA) (hn : m.st.length < 16) :
    RunAt ((((w.setCell ⟨b, 3 + m.st.length * 3, none⟩ (.int .i64 v.kind)).setCell ⟨b, 3 + m.st.length * 3 + 1, none⟩ (.int .i64 v.n)).setCell ⟨b, 3 + m.st.length * 3 + 2, none⟩ (str v.s)).setCell ⟨b, 51, none⟩ (.int .i64 ((m.st.length : Int) + 1))) b sv rv ⟨m.st ++ [v], m.here, m.vals⟩ := by
  obtain ⟨cur, hB, hs⟩ := h.blk
  generalize hN : m.st.length = n at *
  have hE := heap_setCell_at (o := 51) (heap_setCell_at (o := 3 + n * 3 + 2) (heap_setCell_at (o := 3 + n * 3 + 1) (heap_setCell_at (o := 3 + n * 3) hB (.int .i64 v.kind)) (.int .i64 v.n)) (str v.s)) (.int .i64 ((n : Int) + 1))
  have q : ∀ o, o ≠ 51 → o ≠ 3 + n * 3 → o ≠ 3 + n * 3 + 1 → o ≠ 3 + n * 3 + 2 → ((((w.setCell ⟨b, 3 + n * 3, none⟩ (.int .i64 v.kind)).setCell ⟨b, 3 + n * 3 + 1, none⟩ (.int .i64 v.n)).setCell ⟨b, 3 + n * 3 + 2, none⟩ (str v.s)).setCell ⟨b, 51, none⟩ (.int .i64 ((n : Int) + 1))).cell? ⟨b, o, none⟩ = w.cell? ⟨b, o, none⟩ := fun o h0 h1 h2 h3 => by
    rw [cell_of_blk hE, cell_of_blk hB, Array.getElem?_setIfInBounds_ne (Ne.symm h0), Array.getElem?_setIfInBounds_ne (Ne.symm h3), Array.getElem?_setIfInBounds_ne (Ne.symm h2), Array.getElem?_setIfInBounds_ne (Ne.symm h1)]
  refine ⟨⟨_, hE, by simpa using hs⟩, (q 0 (by omega) (by omega) (by omega) (by omega)).trans h.c0, (q 1 (by omega) (by omega) (by omega) (by omega)).trans h.c1, (q 2 (by omega) (by omega) (by omega) (by omega)).trans h.c2, ?_, fun i u hu => ?_, ?_⟩
  · rw [cell_of_blk hE]
    simp [hs, hN]
  · by_cases hi : i < n
    · rw [List.getElem?_append_left (by omega)] at hu
      have := h.stk i u hu
      exact ⟨(q _ (by omega) (by omega) (by omega) (by omega)).trans this.1, (q _ (by omega) (by omega) (by omega) (by omega)).trans this.2.1, (q _ (by omega) (by omega) (by omega) (by omega)).trans this.2.2⟩
    · rw [List.getElem?_append_right (by omega), hN] at hu
      obtain ⟨h1, h2⟩ := List.getElem?_eq_some_iff.1 hu
      simp only [List.length_cons, List.length_nil] at h1
      obtain rfl : i = n := by omega
      simp at h2
      subst h2
      refine ⟨?_, ?_, ?_⟩
      · rw [cell_of_blk hE, Array.getElem?_setIfInBounds_ne (by omega), Array.getElem?_setIfInBounds_ne (by omega), Array.getElem?_setIfInBounds_ne (by omega)]; simp [Array.getElem?_setIfInBounds]; omega
      · rw [cell_of_blk hE, Array.getElem?_setIfInBounds_ne (by omega), Array.getElem?_setIfInBounds_ne (by omega)]; simp [Array.getElem?_setIfInBounds]; omega
      · rw [cell_of_blk hE, Array.getElem?_setIfInBounds_ne (by omega)]; simp [Array.getElem?_setIfInBounds]; omega
  · show (m.st ++ [v]).length ≤ 16
    simp
    omega
set_option maxRecDepth 100000 in
set_option maxHeartbeats 2000000 in
theorem push_v {w : World} {b : Nat} {sv rv : Value} {m : MS} (h : RunAt w b sv rv m) (v : ValA) (hn : m.st.length < 16) :
    Calls Tryd.prog 63 #[.pointer (some ⟨b, 0, none⟩), v.v] w fun e w' => e = .returned (.tuple #[]) ∧ RunAt w' b sv rv ⟨m.st ++ [v], m.here, m.vals⟩ ∧ Keeps (fun q => q = b) w w' := by
  have hX := heap_alloc_new w (.cells #[.int .i64 v.kind, .int .i64 v.n, str v.s] 67)
  have HK := hide (kAlloc w (.cells #[.int .i64 v.kind, .int .i64 v.n, str v.s] 67))
  have hW := h.keepF (unhide HK)
  unfold ValA.v
  go_enter Tryd.func63, Tryd.ntmps63
  go_wp2_with fail
  generalize w.alloc (.cells #[.int .i64 v.kind, .int .i64 v.n, str v.s] 67) = W at *
  have y5 : W.cell? ⟨w.heap.size, 0, none⟩ = some (.int .i64 v.kind) := (cell_of_blk hX _).trans rfl
  have y6 : W.cell? ⟨w.heap.size, 1, none⟩ = some (.int .i64 v.n) := (cell_of_blk hX _).trans rfl
  have y7 : W.cell? ⟨w.heap.size, 2, none⟩ = some (str v.s) := (cell_of_blk hX _).trans rfl
  obtain ⟨cur, hB, hs⟩ := hW.blk
  have HU := hide (hW.pushed v hn)
  have ch := hW.ch
  have zh := frozen_of_blk hB 51
  generalize hN : m.st.length = n at *
  have z0 := frozen_of_blk hB (3 + n * 3)
  have z1 := frozen_of_blk hB (3 + n * 3 + 1)
  have z2 := frozen_of_blk hB (3 + n * 3 + 2)
  have ex : ∀ o, o < 52 → ∃ x, W.cell? ⟨b, o, none⟩ = some x := fun o ho => ⟨cur[o]'(by omega), by rw [cell_of_blk hB]; exact Array.getElem?_eq_getElem _⟩
  obtain ⟨x0, y0⟩ := ex (3 + n * 3) (by omega)
  obtain ⟨x1, y1⟩ := ex (3 + n * 3 + 1) (by omega)
  obtain ⟨x2, y2⟩ := ex (3 + n * 3 + 2) (by omega)
  have i0 : (0 : Int) ≤ (n : Int) := by omega
  have i1 : (n : Int) < 16 := by omega
  have j0 : 3 + n * 3 ≠ 51 := by omega
  have j1 : 3 + n * 3 + 1 ≠ 51 := by omega
  have j2 : 3 + n * 3 + 2 ≠ 51 := by omega
  clear ex hB hs h hN hW hX
  go_region
  go_wp2_with fail
  go_end0
  refine ⟨rfl, (unhide HU).keepF (Keeps.refl _ _).drew, ?_⟩
  have k0 : Keeps (fun q => q = b) w W := (unhide HK).any
  exact (Keeps.setCell (p := ⟨b, 51, none⟩) (Keeps.setCell (p := ⟨b, 3 + n * 3 + 2, none⟩) (Keeps.setCell (p := ⟨b, 3 + n * 3 + 1, none⟩) (Keeps.setCell (p := ⟨b, 3 + n * 3, none⟩) k0 (fun _ => rfl) _) (fun _ => rfl) _) (fun _ => rfl) _) (fun _ => rfl) _).drew
end Go.Proofs.YtonodcmbbgpjjaaDoor
namespace Go.Proofs.YtonodcmbbgpjjaaDoor
open Go.RowKit Go.Maps
/-- A result of three cells, written. -/
theorem res_facts {W w1 : World} {r : Nat} (HX : W.heap[r]? = some (.cells #[.int .i64 0, .int .i64 0, .string ⟨#[]⟩] 67 (0, 0))) (hk : Keeps (fun _ => False) W w1) (x : ValA) :
    w1.frozen? ⟨r, 0, none⟩ = false ∧ w1.frozen? ⟨r, 1, none⟩ = false ∧ w1.frozen? ⟨r, 2, none⟩ = false ∧ w1.cell? ⟨r, 0, none⟩ = some (.int .i64 0) ∧ w1.cell? ⟨r, 1, none⟩ = some (.int .i64 0) ∧ w1.cell? ⟨r, 2, none⟩ = some (.string ⟨#[]⟩) ∧
    (((w1.setCell ⟨r, 0, none⟩ (.int .i64 x.kind)).setCell ⟨r, 1, none⟩ (.int .i64 x.n)).setCell ⟨r, 2, none⟩ (str x.s)).cell? ⟨r, 0, none⟩ = some (.int .i64 x.kind) ∧ (((w1.setCell ⟨r, 0, none⟩ (.int .i64 x.kind)).setCell ⟨r, 1, none⟩ (.int .i64 x.n)).setCell ⟨r, 2, none⟩ (str x.s)).cell? ⟨r, 1, none⟩ = some (.int .i64 x.n) ∧ (((w1.setCell ⟨r, 0, none⟩ (.int .i64 x.kind)).setCell ⟨r, 1, none⟩ (.int .i64 x.n)).setCell ⟨r, 2, none⟩ (str x.s)).cell? ⟨r, 2, none⟩ = some (str x.s) := by
  have hX3 := (hk.block _ (lt_of_block HX) id).trans HX
  obtain ⟨s0, s1, s2⟩ := set3 hX3 (.int .i64 x.kind) (.int .i64 x.n) (str x.s)
  exact ⟨frozen_of_blk hX3 0, frozen_of_blk hX3 1, frozen_of_blk hX3 2, (cell_of_blk hX3 _).trans rfl, (cell_of_blk hX3 _).trans rfl, (cell_of_blk hX3 _).trans rfl, s0, s1, s2⟩
set_option maxRecDepth 100000 in
set_option maxHeartbeats 2000000 in
theorem ofOne_v (o : Int) (a : ValA) (w : World) (ho : o = 8 ∨ o = 9 ∨ o = 18) : Calls Tryd.prog 64 #[.int .i64 o, a.v] w fun e w' => e = .returned (oneV o a).v ∧ Keeps (fun _ => False) w w' := by
  have HKA := hide ((kAlloc w (.cells #[.int .i64 a.kind, .int .i64 a.n, str a.s] 67)).alloc (.cells #[.int .i64 0, .int .i64 0, .string ⟨#[]⟩] 67))
  have hX := heap_alloc_new (w.alloc (.cells #[.int .i64 a.kind, .int .i64 a.n, str a.s] 67)) (.cells #[.int .i64 0, .int .i64 0, .string ⟨#[]⟩] 67)
  rw [show (w.alloc (.cells #[.int .i64 a.kind, .int .i64 a.n, str a.s] 67)).heap.size = w.heap.size + 1 by simp] at hX
  have HX := hide hX
  clear hX
  have HI := hide (fun (W : World) => isTrue_v a W)
  rw [show a.v = .agg #[.int .i64 a.kind, .int .i64 a.n, str a.s] from rfl] at *
  rcases ho with rfl | rfl | rfl
  · rw [show oneV 8 a = truV (!decide (a.n = 1)) from rfl]
    have HT := hide (fun (W : World) => truth_v (!decide (a.n = 1)) W)
    go_enter Tryd.func64, Tryd.ntmps64
    go_wp2_with fail
    refine ((unhide HI) _).mono ?_
    rintro e w0 ⟨rfl, hk0⟩
    replace HX := hide ((hk0.block _ (lt_of_block (unhide HX)) id).trans (unhide HX))
    replace HKA := hide ((unhide HKA).trans hk0)
    clear hk0
    go_wp2_with fail
    refine ((unhide HT) _).mono ?_
    clear HT HI
    rintro e w1 ⟨rfl, hk1⟩
    generalize hx : truV (!decide (a.n = 1)) = x at *
    have HXE := hide hx
    clear hx
    obtain ⟨z0, z1, z2, y0, y1, y2, s0, s1, s2⟩ := res_facts (unhide HX) hk1 x
    have HK := hide (((unhide HKA).trans hk1).fresh (by omega) (keeps_set3 w1 (w.heap.size + 1) (.int .i64 x.kind) (.int .i64 x.n) (str x.s)))
    unfold ValA.v
    clear hk1
    go_wp2_with fail
    refine bodyPost_ret (v := .agg #[.int .i64 x.kind, .int .i64 x.n, str x.s]) (by simp [results, go_sem, s0, s1, s2]) rfl ?_
    exact ⟨by rw [unhide HXE]; rfl, unhide HK⟩
  · rw [show oneV 9 a = numV (wrap64 (-a.n)) from rfl]
    go_enter Tryd.func64, Tryd.ntmps64
    go_wp2_with fail
    refine (number_v (wrap64 (-a.n)) _).mono ?_
    clear HI
    rintro e w1 ⟨rfl, hk1⟩
    generalize hx : numV (wrap64 (-a.n)) = x at *
    have HXE := hide hx
    clear hx
    obtain ⟨z0, z1, z2, y0, y1, y2, s0, s1, s2⟩ := res_facts (unhide HX) hk1 x
    have HK := hide (((unhide HKA).trans hk1).fresh (by omega) (keeps_set3 w1 (w.heap.size + 1) (.int .i64 x.kind) (.int .i64 x.n) (str x.s)))
    unfold ValA.v
    clear hk1
    go_wp2_with fail
    refine bodyPost_ret (v := .agg #[.int .i64 x.kind, .int .i64 x.n, str x.s]) (by simp [results, go_sem, s0, s1, s2]) rfl ?_
    exact ⟨by rw [unhide HXE]; rfl, unhide HK⟩
  · rw [show oneV 18 a = numV a.s.length from rfl]
    go_enter Tryd.func64, Tryd.ntmps64
    go_wp2_with fail
    refine (number_v a.s.length _).mono ?_
    clear HI
    rintro e w1 ⟨rfl, hk1⟩
    generalize hx : numV a.s.length = x at *
    have HXE := hide hx
    clear hx
    obtain ⟨z0, z1, z2, y0, y1, y2, s0, s1, s2⟩ := res_facts (unhide HX) hk1 x
    have HK := hide (((unhide HKA).trans hk1).fresh (by omega) (keeps_set3 w1 (w.heap.size + 1) (.int .i64 x.kind) (.int .i64 x.n) (str x.s)))
    unfold ValA.v
    clear hk1
    go_wp2_with fail
    refine bodyPost_ret (v := .agg #[.int .i64 x.kind, .int .i64 x.n, str x.s]) (by simp [results, go_sem, s0, s1, s2]) rfl ?_
    exact ⟨by rw [unhide HXE]; rfl, unhide HK⟩
end Go.Proofs.YtonodcmbbgpjjaaDoor
namespace Go.Proofs.YtonodcmbbgpjjaaDoor
open Go.RowKit Go.Maps
set_option maxRecDepth 100000 in
set_option maxHeartbeats 2000000 in
theorem ofTwo10_v (a b : ValA) (w : World) (ha : a.s.length ≤ 20) (hb : b.s.length ≤ 20) : Calls Tryd.prog 65 #[.int .i64 10, a.v, b.v] w fun e w' => e = .returned (twoV 10 a b).v ∧ Keeps (fun _ => False) w w' := by
  have HKA := hide (((kAlloc w (.cells #[.int .i64 a.kind, .int .i64 a.n, str a.s] 67)).alloc (.cells #[.int .i64 b.kind, .int .i64 b.n, str b.s] 67)).alloc (.cells #[.int .i64 0, .int .i64 0, .string ⟨#[]⟩] 67))
  have hX := heap_alloc_new ((w.alloc (.cells #[.int .i64 a.kind, .int .i64 a.n, str a.s] 67)).alloc (.cells #[.int .i64 b.kind, .int .i64 b.n, str b.s] 67)) (.cells #[.int .i64 0, .int .i64 0, .string ⟨#[]⟩] 67)
  rw [show ((w.alloc (.cells #[.int .i64 a.kind, .int .i64 a.n, str a.s] 67)).alloc (.cells #[.int .i64 b.kind, .int .i64 b.n, str b.s] 67)).heap.size = w.heap.size + 1 + 1 by simp] at hX
  have HX := hide hX
  clear hX
  have HO := hide (fun (W : World) => order_v a b W)
  have HC := hide (fun (W : World) => cat_v a b W ha hb)
  rw [show twoV 10 a b = numV (wrap64 (a.n + b.n)) from rfl]
  rw [show a.v = .agg #[.int .i64 a.kind, .int .i64 a.n, str a.s] from rfl, show b.v = .agg #[.int .i64 b.kind, .int .i64 b.n, str b.s] from rfl] at *
  clear HO HC
  go_enter Tryd.func65, Tryd.ntmps65
  go_wp2_with fail
  refine (number_v _ _).mono ?_
  rintro e w1 ⟨rfl, hk1⟩
  generalize hx : numV (wrap64 (a.n + b.n)) = x at *
  have HXE := hide hx
  clear hx
  obtain ⟨z0, z1, z2, y0, y1, y2, s0, s1, s2⟩ := res_facts (unhide HX) hk1 x
  have HK := hide (((unhide HKA).trans hk1).fresh (by omega) (keeps_set3 w1 (w.heap.size + 1 + 1) (.int .i64 x.kind) (.int .i64 x.n) (str x.s)))
  unfold ValA.v
  clear hk1
  go_wp2_with fail
  refine bodyPost_ret (v := .agg #[.int .i64 x.kind, .int .i64 x.n, str x.s]) (by simp [results, go_sem, s0, s1, s2]) rfl ?_
  exact ⟨by rw [unhide HXE]; rfl, unhide HK⟩
set_option maxRecDepth 100000 in
set_option maxHeartbeats 2000000 in
theorem ofTwo11_v (a b : ValA) (w : World) (ha : a.s.length ≤ 20) (hb : b.s.length ≤ 20) : Calls Tryd.prog 65 #[.int .i64 11, a.v, b.v] w fun e w' => e = .returned (twoV 11 a b).v ∧ Keeps (fun _ => False) w w' := by
  have HKA := hide (((kAlloc w (.cells #[.int .i64 a.kind, .int .i64 a.n, str a.s] 67)).alloc (.cells #[.int .i64 b.kind, .int .i64 b.n, str b.s] 67)).alloc (.cells #[.int .i64 0, .int .i64 0, .string ⟨#[]⟩] 67))
  have hX := heap_alloc_new ((w.alloc (.cells #[.int .i64 a.kind, .int .i64 a.n, str a.s] 67)).alloc (.cells #[.int .i64 b.kind, .int .i64 b.n, str b.s] 67)) (.cells #[.int .i64 0, .int .i64 0, .string ⟨#[]⟩] 67)
  rw [show ((w.alloc (.cells #[.int .i64 a.kind, .int .i64 a.n, str a.s] 67)).alloc (.cells #[.int .i64 b.kind, .int .i64 b.n, str b.s] 67)).heap.size = w.heap.size + 1 + 1 by simp] at hX
  have HX := hide hX
  clear hX
  have HO := hide (fun (W : World) => order_v a b W)
  have HC := hide (fun (W : World) => cat_v a b W ha hb)
  rw [show twoV 11 a b = numV (wrap64 (a.n - b.n)) from rfl]
  rw [show a.v = .agg #[.int .i64 a.kind, .int .i64 a.n, str a.s] from rfl, show b.v = .agg #[.int .i64 b.kind, .int .i64 b.n, str b.s] from rfl] at *
  clear HO HC
  go_enter Tryd.func65, Tryd.ntmps65
  go_wp2_with fail
  refine (number_v _ _).mono ?_
  rintro e w1 ⟨rfl, hk1⟩
  generalize hx : numV (wrap64 (a.n - b.n)) = x at *
  have HXE := hide hx
  clear hx
  obtain ⟨z0, z1, z2, y0, y1, y2, s0, s1, s2⟩ := res_facts (unhide HX) hk1 x
  have HK := hide (((unhide HKA).trans hk1).fresh (by omega) (keeps_set3 w1 (w.heap.size + 1 + 1) (.int .i64 x.kind) (.int .i64 x.n) (str x.s)))
  unfold ValA.v
  clear hk1
  go_wp2_with fail
  refine bodyPost_ret (v := .agg #[.int .i64 x.kind, .int .i64 x.n, str x.s]) (by simp [results, go_sem, s0, s1, s2]) rfl ?_
  exact ⟨by rw [unhide HXE]; rfl, unhide HK⟩
set_option maxRecDepth 100000 in
set_option maxHeartbeats 2000000 in
theorem ofTwo12_v (a b : ValA) (w : World) (ha : a.s.length ≤ 20) (hb : b.s.length ≤ 20) : Calls Tryd.prog 65 #[.int .i64 12, a.v, b.v] w fun e w' => e = .returned (twoV 12 a b).v ∧ Keeps (fun _ => False) w w' := by
  have HKA := hide (((kAlloc w (.cells #[.int .i64 a.kind, .int .i64 a.n, str a.s] 67)).alloc (.cells #[.int .i64 b.kind, .int .i64 b.n, str b.s] 67)).alloc (.cells #[.int .i64 0, .int .i64 0, .string ⟨#[]⟩] 67))
  have hX := heap_alloc_new ((w.alloc (.cells #[.int .i64 a.kind, .int .i64 a.n, str a.s] 67)).alloc (.cells #[.int .i64 b.kind, .int .i64 b.n, str b.s] 67)) (.cells #[.int .i64 0, .int .i64 0, .string ⟨#[]⟩] 67)
  rw [show ((w.alloc (.cells #[.int .i64 a.kind, .int .i64 a.n, str a.s] 67)).alloc (.cells #[.int .i64 b.kind, .int .i64 b.n, str b.s] 67)).heap.size = w.heap.size + 1 + 1 by simp] at hX
  have HX := hide hX
  clear hX
  have HO := hide (fun (W : World) => order_v a b W)
  have HC := hide (fun (W : World) => cat_v a b W ha hb)
  rw [show twoV 12 a b = numV (wrap64 (a.n * b.n)) from rfl]
  rw [show a.v = .agg #[.int .i64 a.kind, .int .i64 a.n, str a.s] from rfl, show b.v = .agg #[.int .i64 b.kind, .int .i64 b.n, str b.s] from rfl] at *
  clear HO HC
  go_enter Tryd.func65, Tryd.ntmps65
  go_wp2_with fail
  refine (number_v _ _).mono ?_
  rintro e w1 ⟨rfl, hk1⟩
  generalize hx : numV (wrap64 (a.n * b.n)) = x at *
  have HXE := hide hx
  clear hx
  obtain ⟨z0, z1, z2, y0, y1, y2, s0, s1, s2⟩ := res_facts (unhide HX) hk1 x
  have HK := hide (((unhide HKA).trans hk1).fresh (by omega) (keeps_set3 w1 (w.heap.size + 1 + 1) (.int .i64 x.kind) (.int .i64 x.n) (str x.s)))
  unfold ValA.v
  clear hk1
  go_wp2_with fail
  refine bodyPost_ret (v := .agg #[.int .i64 x.kind, .int .i64 x.n, str x.s]) (by simp [results, go_sem, s0, s1, s2]) rfl ?_
  exact ⟨by rw [unhide HXE]; rfl, unhide HK⟩
set_option maxRecDepth 100000 in
set_option maxHeartbeats 2000000 in
theorem ofTwo13_v (a b : ValA) (w : World) (ha : a.s.length ≤ 20) (hb : b.s.length ≤ 20) : Calls Tryd.prog 65 #[.int .i64 13, a.v, b.v] w fun e w' => e = .returned (twoV 13 a b).v ∧ Keeps (fun _ => False) w w' := by
  have HKA := hide (((kAlloc w (.cells #[.int .i64 a.kind, .int .i64 a.n, str a.s] 67)).alloc (.cells #[.int .i64 b.kind, .int .i64 b.n, str b.s] 67)).alloc (.cells #[.int .i64 0, .int .i64 0, .string ⟨#[]⟩] 67))
  have hX := heap_alloc_new ((w.alloc (.cells #[.int .i64 a.kind, .int .i64 a.n, str a.s] 67)).alloc (.cells #[.int .i64 b.kind, .int .i64 b.n, str b.s] 67)) (.cells #[.int .i64 0, .int .i64 0, .string ⟨#[]⟩] 67)
  rw [show ((w.alloc (.cells #[.int .i64 a.kind, .int .i64 a.n, str a.s] 67)).alloc (.cells #[.int .i64 b.kind, .int .i64 b.n, str b.s] 67)).heap.size = w.heap.size + 1 + 1 by simp] at hX
  have HX := hide hX
  clear hX
  have HO := hide (fun (W : World) => order_v a b W)
  have HC := hide (fun (W : World) => cat_v a b W ha hb)
  rw [show twoV 13 a b = numV (min a.n b.n) from rfl]
  rw [show a.v = .agg #[.int .i64 a.kind, .int .i64 a.n, str a.s] from rfl, show b.v = .agg #[.int .i64 b.kind, .int .i64 b.n, str b.s] from rfl] at *
  clear HO HC
  go_enter Tryd.func65, Tryd.ntmps65
  go_wp2_with fail
  all_goals
    refine (number_v _ _).mono ?_
    first
      | rw [show numV a.n = numV (min a.n b.n) from congrArg numV (by omega)]
      | rw [show numV b.n = numV (min a.n b.n) from congrArg numV (by omega)]
    rintro e w1 ⟨rfl, hk1⟩
    generalize hx : numV (min a.n b.n) = x at *
    have HXE := hide hx
    clear hx
    obtain ⟨z0, z1, z2, y0, y1, y2, s0, s1, s2⟩ := res_facts (unhide HX) hk1 x
    have HK := hide (((unhide HKA).trans hk1).fresh (by omega) (keeps_set3 w1 (w.heap.size + 1 + 1) (.int .i64 x.kind) (.int .i64 x.n) (str x.s)))
    unfold ValA.v
    clear hk1
    go_wp2_with fail
    refine bodyPost_ret (v := .agg #[.int .i64 x.kind, .int .i64 x.n, str x.s]) (by simp [results, go_sem, s0, s1, s2]) rfl ?_
    exact ⟨by rw [unhide HXE]; rfl, unhide HK⟩
set_option maxRecDepth 100000 in
set_option maxHeartbeats 2000000 in
theorem ofTwo14_v (a b : ValA) (w : World) (ha : a.s.length ≤ 20) (hb : b.s.length ≤ 20) : Calls Tryd.prog 65 #[.int .i64 14, a.v, b.v] w fun e w' => e = .returned (twoV 14 a b).v ∧ Keeps (fun _ => False) w w' := by
  have HKA := hide (((kAlloc w (.cells #[.int .i64 a.kind, .int .i64 a.n, str a.s] 67)).alloc (.cells #[.int .i64 b.kind, .int .i64 b.n, str b.s] 67)).alloc (.cells #[.int .i64 0, .int .i64 0, .string ⟨#[]⟩] 67))
  have hX := heap_alloc_new ((w.alloc (.cells #[.int .i64 a.kind, .int .i64 a.n, str a.s] 67)).alloc (.cells #[.int .i64 b.kind, .int .i64 b.n, str b.s] 67)) (.cells #[.int .i64 0, .int .i64 0, .string ⟨#[]⟩] 67)
  rw [show ((w.alloc (.cells #[.int .i64 a.kind, .int .i64 a.n, str a.s] 67)).alloc (.cells #[.int .i64 b.kind, .int .i64 b.n, str b.s] 67)).heap.size = w.heap.size + 1 + 1 by simp] at hX
  have HX := hide hX
  clear hX
  have HO := hide (fun (W : World) => order_v a b W)
  have HC := hide (fun (W : World) => cat_v a b W ha hb)
  rw [show twoV 14 a b = numV (max a.n b.n) from rfl]
  rw [show a.v = .agg #[.int .i64 a.kind, .int .i64 a.n, str a.s] from rfl, show b.v = .agg #[.int .i64 b.kind, .int .i64 b.n, str b.s] from rfl] at *
  clear HO HC
  go_enter Tryd.func65, Tryd.ntmps65
  go_wp2_with fail
  all_goals
    refine (number_v _ _).mono ?_
    first
      | rw [show numV a.n = numV (max a.n b.n) from congrArg numV (by omega)]
      | rw [show numV b.n = numV (max a.n b.n) from congrArg numV (by omega)]
    rintro e w1 ⟨rfl, hk1⟩
    generalize hx : numV (max a.n b.n) = x at *
    have HXE := hide hx
    clear hx
    obtain ⟨z0, z1, z2, y0, y1, y2, s0, s1, s2⟩ := res_facts (unhide HX) hk1 x
    have HK := hide (((unhide HKA).trans hk1).fresh (by omega) (keeps_set3 w1 (w.heap.size + 1 + 1) (.int .i64 x.kind) (.int .i64 x.n) (str x.s)))
    unfold ValA.v
    clear hk1
    go_wp2_with fail
    refine bodyPost_ret (v := .agg #[.int .i64 x.kind, .int .i64 x.n, str x.s]) (by simp [results, go_sem, s0, s1, s2]) rfl ?_
    exact ⟨by rw [unhide HXE]; rfl, unhide HK⟩
set_option maxRecDepth 100000 in
set_option maxHeartbeats 2000000 in
theorem ofTwo15_v (a b : ValA) (w : World) (ha : a.s.length ≤ 20) (hb : b.s.length ≤ 20) : Calls Tryd.prog 65 #[.int .i64 15, a.v, b.v] w fun e w' => e = .returned (twoV 15 a b).v ∧ Keeps (fun _ => False) w w' := by
  have HKA := hide (((kAlloc w (.cells #[.int .i64 a.kind, .int .i64 a.n, str a.s] 67)).alloc (.cells #[.int .i64 b.kind, .int .i64 b.n, str b.s] 67)).alloc (.cells #[.int .i64 0, .int .i64 0, .string ⟨#[]⟩] 67))
  have hX := heap_alloc_new ((w.alloc (.cells #[.int .i64 a.kind, .int .i64 a.n, str a.s] 67)).alloc (.cells #[.int .i64 b.kind, .int .i64 b.n, str b.s] 67)) (.cells #[.int .i64 0, .int .i64 0, .string ⟨#[]⟩] 67)
  rw [show ((w.alloc (.cells #[.int .i64 a.kind, .int .i64 a.n, str a.s] 67)).alloc (.cells #[.int .i64 b.kind, .int .i64 b.n, str b.s] 67)).heap.size = w.heap.size + 1 + 1 by simp] at hX
  have HX := hide hX
  clear hX
  have HO := hide (fun (W : World) => order_v a b W)
  have HC := hide (fun (W : World) => cat_v a b W ha hb)
  rw [show twoV 15 a b = truV (decide (ordV a b < 0)) from rfl]
  rw [show a.v = .agg #[.int .i64 a.kind, .int .i64 a.n, str a.s] from rfl, show b.v = .agg #[.int .i64 b.kind, .int .i64 b.n, str b.s] from rfl] at *
  go_enter Tryd.func65, Tryd.ntmps65
  go_wp2_with fail
  refine ((unhide HO) _).mono ?_
  rintro e w0 ⟨rfl, hk0⟩
  replace HX := hide ((hk0.block _ (lt_of_block (unhide HX)) id).trans (unhide HX))
  replace HKA := hide ((unhide HKA).trans hk0)
  clear HO HC hk0
  go_wp2_with fail
  refine (truth_v _ _).mono ?_
  rintro e w1 ⟨rfl, hk1⟩
  generalize hx : truV (decide (ordV a b < 0)) = x at *
  have HXE := hide hx
  clear hx
  obtain ⟨z0, z1, z2, y0, y1, y2, s0, s1, s2⟩ := res_facts (unhide HX) hk1 x
  have HK := hide (((unhide HKA).trans hk1).fresh (by omega) (keeps_set3 w1 (w.heap.size + 1 + 1) (.int .i64 x.kind) (.int .i64 x.n) (str x.s)))
  unfold ValA.v
  clear hk1
  go_wp2_with fail
  refine bodyPost_ret (v := .agg #[.int .i64 x.kind, .int .i64 x.n, str x.s]) (by simp [results, go_sem, s0, s1, s2]) rfl ?_
  exact ⟨by rw [unhide HXE]; rfl, unhide HK⟩
set_option maxRecDepth 100000 in
set_option maxHeartbeats 2000000 in
theorem ofTwo16_v (a b : ValA) (w : World) (ha : a.s.length ≤ 20) (hb : b.s.length ≤ 20) : Calls Tryd.prog 65 #[.int .i64 16, a.v, b.v] w fun e w' => e = .returned (twoV 16 a b).v ∧ Keeps (fun _ => False) w w' := by
  have HKA := hide (((kAlloc w (.cells #[.int .i64 a.kind, .int .i64 a.n, str a.s] 67)).alloc (.cells #[.int .i64 b.kind, .int .i64 b.n, str b.s] 67)).alloc (.cells #[.int .i64 0, .int .i64 0, .string ⟨#[]⟩] 67))
  have hX := heap_alloc_new ((w.alloc (.cells #[.int .i64 a.kind, .int .i64 a.n, str a.s] 67)).alloc (.cells #[.int .i64 b.kind, .int .i64 b.n, str b.s] 67)) (.cells #[.int .i64 0, .int .i64 0, .string ⟨#[]⟩] 67)
  rw [show ((w.alloc (.cells #[.int .i64 a.kind, .int .i64 a.n, str a.s] 67)).alloc (.cells #[.int .i64 b.kind, .int .i64 b.n, str b.s] 67)).heap.size = w.heap.size + 1 + 1 by simp] at hX
  have HX := hide hX
  clear hX
  have HO := hide (fun (W : World) => order_v a b W)
  have HC := hide (fun (W : World) => cat_v a b W ha hb)
  rw [show twoV 16 a b = truV (decide (ordV a b ≤ 0)) from rfl]
  rw [show a.v = .agg #[.int .i64 a.kind, .int .i64 a.n, str a.s] from rfl, show b.v = .agg #[.int .i64 b.kind, .int .i64 b.n, str b.s] from rfl] at *
  go_enter Tryd.func65, Tryd.ntmps65
  go_wp2_with fail
  refine ((unhide HO) _).mono ?_
  rintro e w0 ⟨rfl, hk0⟩
  replace HX := hide ((hk0.block _ (lt_of_block (unhide HX)) id).trans (unhide HX))
  replace HKA := hide ((unhide HKA).trans hk0)
  clear HO HC hk0
  go_wp2_with fail
  refine (truth_v _ _).mono ?_
  rintro e w1 ⟨rfl, hk1⟩
  generalize hx : truV (decide (ordV a b ≤ 0)) = x at *
  have HXE := hide hx
  clear hx
  obtain ⟨z0, z1, z2, y0, y1, y2, s0, s1, s2⟩ := res_facts (unhide HX) hk1 x
  have HK := hide (((unhide HKA).trans hk1).fresh (by omega) (keeps_set3 w1 (w.heap.size + 1 + 1) (.int .i64 x.kind) (.int .i64 x.n) (str x.s)))
  unfold ValA.v
  clear hk1
  go_wp2_with fail
  refine bodyPost_ret (v := .agg #[.int .i64 x.kind, .int .i64 x.n, str x.s]) (by simp [results, go_sem, s0, s1, s2]) rfl ?_
  exact ⟨by rw [unhide HXE]; rfl, unhide HK⟩
set_option maxRecDepth 100000 in
set_option maxHeartbeats 2000000 in
theorem ofTwo17_v (a b : ValA) (w : World) (ha : a.s.length ≤ 20) (hb : b.s.length ≤ 20) : Calls Tryd.prog 65 #[.int .i64 17, a.v, b.v] w fun e w' => e = .returned (twoV 17 a b).v ∧ Keeps (fun _ => False) w w' := by
  have HKA := hide (((kAlloc w (.cells #[.int .i64 a.kind, .int .i64 a.n, str a.s] 67)).alloc (.cells #[.int .i64 b.kind, .int .i64 b.n, str b.s] 67)).alloc (.cells #[.int .i64 0, .int .i64 0, .string ⟨#[]⟩] 67))
  have hX := heap_alloc_new ((w.alloc (.cells #[.int .i64 a.kind, .int .i64 a.n, str a.s] 67)).alloc (.cells #[.int .i64 b.kind, .int .i64 b.n, str b.s] 67)) (.cells #[.int .i64 0, .int .i64 0, .string ⟨#[]⟩] 67)
  rw [show ((w.alloc (.cells #[.int .i64 a.kind, .int .i64 a.n, str a.s] 67)).alloc (.cells #[.int .i64 b.kind, .int .i64 b.n, str b.s] 67)).heap.size = w.heap.size + 1 + 1 by simp] at hX
  have HX := hide hX
  clear hX
  have HO := hide (fun (W : World) => order_v a b W)
  have HC := hide (fun (W : World) => cat_v a b W ha hb)
  rw [show twoV 17 a b = truV (decide (a = b)) from rfl]
  rw [show a.v = .agg #[.int .i64 a.kind, .int .i64 a.n, str a.s] from rfl, show b.v = .agg #[.int .i64 b.kind, .int .i64 b.n, str b.s] from rfl] at *
  clear HO HC
  obtain ⟨ak, an, ax⟩ := a
  obtain ⟨bk, bn, bx⟩ := b
  simp only at *
  by_cases h1 : ak = bk
  · subst h1
    by_cases h2 : an = bn
    · subst h2
      by_cases h3 : ax = bx
      · subst h3
        rw [show decide ((⟨ak, an, ax⟩ : ValA) = (⟨ak, an, ax⟩ : ValA)) = true from decide_eq_true rfl]
        go_enter Tryd.func65, Tryd.ntmps65
        go_wp2_with fail
        refine (truth_v true _).mono ?_
        rintro e w1 ⟨rfl, hk1⟩
        generalize hx : truV true = x at *
        have HXE := hide hx
        clear hx
        obtain ⟨z0, z1, z2, y0, y1, y2, s0, s1, s2⟩ := res_facts (unhide HX) hk1 x
        have HK := hide (((unhide HKA).trans hk1).fresh (by omega) (keeps_set3 w1 (w.heap.size + 1 + 1) (.int .i64 x.kind) (.int .i64 x.n) (str x.s)))
        unfold ValA.v
        clear hk1
        go_wp2_with fail
        refine bodyPost_ret (v := .agg #[.int .i64 x.kind, .int .i64 x.n, str x.s]) (by simp [results, go_sem, s0, s1, s2]) rfl ?_
        exact ⟨by rw [unhide HXE]; rfl, unhide HK⟩
      ·
        rw [show decide ((⟨ak, an, ax⟩ : ValA) = (⟨ak, an, bx⟩ : ValA)) = false from decide_eq_false (fun h => by simp only [ValA.mk.injEq] at h; simp_all)]
        go_enter Tryd.func65, Tryd.ntmps65
        go_wp2_with fail
        refine (truth_v false _).mono ?_
        rintro e w1 ⟨rfl, hk1⟩
        generalize hx : truV false = x at *
        have HXE := hide hx
        clear hx
        obtain ⟨z0, z1, z2, y0, y1, y2, s0, s1, s2⟩ := res_facts (unhide HX) hk1 x
        have HK := hide (((unhide HKA).trans hk1).fresh (by omega) (keeps_set3 w1 (w.heap.size + 1 + 1) (.int .i64 x.kind) (.int .i64 x.n) (str x.s)))
        unfold ValA.v
        clear hk1
        go_wp2_with fail
        refine bodyPost_ret (v := .agg #[.int .i64 x.kind, .int .i64 x.n, str x.s]) (by simp [results, go_sem, s0, s1, s2]) rfl ?_
        exact ⟨by rw [unhide HXE]; rfl, unhide HK⟩
    ·
      rw [show decide ((⟨ak, an, ax⟩ : ValA) = (⟨ak, bn, bx⟩ : ValA)) = false from decide_eq_false (fun h => by simp only [ValA.mk.injEq] at h; simp_all)]
      go_enter Tryd.func65, Tryd.ntmps65
      go_wp2_with fail
      refine (truth_v false _).mono ?_
      rintro e w1 ⟨rfl, hk1⟩
      generalize hx : truV false = x at *
      have HXE := hide hx
      clear hx
      obtain ⟨z0, z1, z2, y0, y1, y2, s0, s1, s2⟩ := res_facts (unhide HX) hk1 x
      have HK := hide (((unhide HKA).trans hk1).fresh (by omega) (keeps_set3 w1 (w.heap.size + 1 + 1) (.int .i64 x.kind) (.int .i64 x.n) (str x.s)))
      unfold ValA.v
      clear hk1
      go_wp2_with fail
      refine bodyPost_ret (v := .agg #[.int .i64 x.kind, .int .i64 x.n, str x.s]) (by simp [results, go_sem, s0, s1, s2]) rfl ?_
      exact ⟨by rw [unhide HXE]; rfl, unhide HK⟩
  ·
    rw [show decide ((⟨ak, an, ax⟩ : ValA) = (⟨bk, bn, bx⟩ : ValA)) = false from decide_eq_false (fun h => by simp only [ValA.mk.injEq] at h; simp_all)]
    go_enter Tryd.func65, Tryd.ntmps65
    go_wp2_with fail
    refine (truth_v false _).mono ?_
    rintro e w1 ⟨rfl, hk1⟩
    generalize hx : truV false = x at *
    have HXE := hide hx
    clear hx
    obtain ⟨z0, z1, z2, y0, y1, y2, s0, s1, s2⟩ := res_facts (unhide HX) hk1 x
    have HK := hide (((unhide HKA).trans hk1).fresh (by omega) (keeps_set3 w1 (w.heap.size + 1 + 1) (.int .i64 x.kind) (.int .i64 x.n) (str x.s)))
    unfold ValA.v
    clear hk1
    go_wp2_with fail
    refine bodyPost_ret (v := .agg #[.int .i64 x.kind, .int .i64 x.n, str x.s]) (by simp [results, go_sem, s0, s1, s2]) rfl ?_
    exact ⟨by rw [unhide HXE]; rfl, unhide HK⟩
set_option maxRecDepth 100000 in
set_option maxHeartbeats 2000000 in
theorem ofTwo19_v (a b : ValA) (w : World) (ha : a.s.length ≤ 20) (hb : b.s.length ≤ 20) : Calls Tryd.prog 65 #[.int .i64 19, a.v, b.v] w fun e w' => e = .returned (twoV 19 a b).v ∧ Keeps (fun _ => False) w w' := by
  have HKA := hide (((kAlloc w (.cells #[.int .i64 a.kind, .int .i64 a.n, str a.s] 67)).alloc (.cells #[.int .i64 b.kind, .int .i64 b.n, str b.s] 67)).alloc (.cells #[.int .i64 0, .int .i64 0, .string ⟨#[]⟩] 67))
  have hX := heap_alloc_new ((w.alloc (.cells #[.int .i64 a.kind, .int .i64 a.n, str a.s] 67)).alloc (.cells #[.int .i64 b.kind, .int .i64 b.n, str b.s] 67)) (.cells #[.int .i64 0, .int .i64 0, .string ⟨#[]⟩] 67)
  rw [show ((w.alloc (.cells #[.int .i64 a.kind, .int .i64 a.n, str a.s] 67)).alloc (.cells #[.int .i64 b.kind, .int .i64 b.n, str b.s] 67)).heap.size = w.heap.size + 1 + 1 by simp] at hX
  have HX := hide hX
  clear hX
  have HO := hide (fun (W : World) => order_v a b W)
  have HC := hide (fun (W : World) => cat_v a b W ha hb)
  rw [show twoV 19 a b = bytV (catT a.s b.s) from rfl]
  rw [show a.v = .agg #[.int .i64 a.kind, .int .i64 a.n, str a.s] from rfl, show b.v = .agg #[.int .i64 b.kind, .int .i64 b.n, str b.s] from rfl] at *
  go_enter Tryd.func65, Tryd.ntmps65
  go_wp2_with fail
  refine ((unhide HC) _).mono ?_
  clear HO HC
  rintro e w1 ⟨rfl, hk1⟩
  generalize hx : bytV (catT a.s b.s) = x at *
  have HXE := hide hx
  clear hx
  obtain ⟨z0, z1, z2, y0, y1, y2, s0, s1, s2⟩ := res_facts (unhide HX) hk1 x
  have HK := hide (((unhide HKA).trans hk1).fresh (by omega) (keeps_set3 w1 (w.heap.size + 1 + 1) (.int .i64 x.kind) (.int .i64 x.n) (str x.s)))
  unfold ValA.v
  clear hk1
  go_wp2_with fail
  refine bodyPost_ret (v := .agg #[.int .i64 x.kind, .int .i64 x.n, str x.s]) (by simp [results, go_sem, s0, s1, s2]) rfl ?_
  exact ⟨by rw [unhide HXE]; rfl, unhide HK⟩
end Go.Proofs.YtonodcmbbgpjjaaDoor
namespace Go.Proofs.YtonodcmbbgpjjaaDoor
open Go.RowKit Go.Maps
theorem vcs_one (G : List ValA) : ∀ u ∈ vcs G, u.oneCell' = true := by
  intro u hu
  unfold vcs at hu
  obtain ⟨x, _, hx⟩ := List.mem_flatMap.1 hu
  simp only [ValA.cs, List.mem_cons, List.not_mem_nil, or_false] at hx
  rcases hx with rfl | rfl | rfl <;> rfl
set_option maxRecDepth 100000 in
theorem run_appendV_none (w : World) (ty : TypeId) (ao : Option Addr) (n c xc : Nat) (hnc : n ≤ c) : (Builtin.append_ #[26, 26] ty #[.slice ao n c, .slice none 0 xc]).run Tryd.prog w = .ok (.slice ao n c) w := by
  obtain ⟨i0, hi, hz0, hz1, hz2⟩ := info_parts Tryd.info67
  cases ao <;> simp [Builtin.append_, Builtin.lenOf, Builtin.firstCells, storeCells, go_sem, sizeOf, typeInfo, hi, hnc]
/-- Values appended to values of one's own, however many. -/
theorem run_appendV_any (w : World) (ty : TypeId) (base : Nat) (v : Value) (n : Nat) (xs : List Value) (hown : w.ownsRow base 67 3 v n xs) (u : Value) (G : List ValA) (hu : ValsAt w u G) (h63 : n + G.length ≤ maxLen) (hbytes : n + G.length ≤ 4398046511104) (hbase : base ≤ w.heap.size) :
    ∃ v' w', (Builtin.append_ #[26, 26] ty #[v, u]).run Tryd.prog w = .ok v' w' ∧ w'.ownsRow base 67 3 v' (n + G.length) (xs ++ vcs G) ∧ w.grownBy w' v.ownBlock := by
  obtain ⟨i0, hi, hz0, hz1, hz2⟩ := info_parts Tryd.info67
  obtain ⟨uo, uc, rfl⟩ := RowAt.form hu
  cases uo with
  | none =>
    have h0 : G.length = 0 := by
      rcases Nat.eq_zero_or_pos G.length with h | h
      · exact h
      · obtain ⟨b, off, cap, e, _⟩ := RowAt.cells hu h
        simp at e
    have hG : G = [] := List.eq_nil_of_length_eq_zero h0
    subst hG
    obtain ⟨ao, c, rfl⟩ := (rowAt_own hown).form
    have hnc := (rowAt_own hown).room _ _ _ rfl
    exact ⟨_, w, run_appendV_none w ty ao n c uc hnc, by simpa [vcs] using hown, grownBy_refl _ _⟩
  | some ad =>
    obtain ⟨v', w', hr, h2, h3, _⟩ := run_append_own_at (P := Tryd.prog) w base 26 ty 67 i0 _ 3 32 Tryd.underlying26 hi hz0 hz1 hz2 rfl (by omega) v n xs hown ad G.length uc (vcs G) (vcs_length G) (fun j x hx => by
      have h0 : 0 < G.length := by
        have := (List.getElem?_eq_some_iff.1 hx).1
        rw [vcs_length] at this
        omega
      obtain ⟨b, off, cap, e, _, hc⟩ := RowAt.cells hu h0
      simp at e
      obtain ⟨rfl, rfl⟩ := e
      have := hc j x hx
      rw [show (⟨b, off, none⟩ : Addr).add j = ⟨b, off + j, none⟩ by simp only [Addr.add_lit]]
      exact this) (vcs_one G) h63 (by omega) hbase
    exact ⟨v', w', hr, h2, h3⟩
theorem wpList_appendV_any {w : World} {ops : Array Oper} {rest : List Oper} {o : Oper} {a : Act} {Q : Exit → Act → World → Prop} (hgd : o.guard = none) (s x : Operand)
    (ho : o.op = .call { callee := .builtin .append, args := #[s, x], argTypes := #[26, 26] }) (base : Nat) (v : Value) (n : Nat) (xs : List Value) (hs : a.eval s = v) (hown : w.ownsRow base 67 3 v n xs)
    (u : Value) (G : List ValA) (hx : a.eval x = u) (hu : ValsAt w u G) (h63 : n + G.length ≤ maxLen) (hbytes : n + G.length ≤ 4398046511104) (hbase : base ≤ w.heap.size)
    (h : ∀ v' w', w'.ownsRow base 67 3 v' (n + G.length) (xs ++ vcs G) → w.grownBy w' v.ownBlock → wpList Tryd.prog ops Q rest (a.put o.dst v') w') : wpList Tryd.prog ops Q (o :: rest) a w :=
  wpList_plain hgd fun _ hK => by
    obtain ⟨v', w', hr, h2, h3⟩ := run_appendV_any w o.type base v n xs hown u G hu h63 hbytes hbase
    unfold Oper.wp execOp
    simp only [ho, resolve, invoke, builtin, Sem.run_bind, Sem.run_pure, Result.andThen_ok, List.map_toArray, List.map_cons, List.map_nil, hs, hx, hr]
    exact hK _ _ (h v' w' h2 h3)
end Go.Proofs.YtonodcmbbgpjjaaDoor
