import Derived.Test.YtbokbdcjpbnodaaGreatDoorQKa
import Derived.Test.YtbokbdcjpbnodaaGreatDoorQJt
import Derived.Test.YtbokbdcjpbnodaaGreatDoorQJm
namespace Go.Proofs.YtbokbdcjpbnodaaGreatDoor
open Go.RowKit Go.Maps
set_option maxRecDepth 100000
set_option maxHeartbeats 2000000
theorem numR_v (n : Int) (w : World) : Calls Tryz.prog 133 #[.int .i64 n] w fun e w' => e = .returned (numV n).v ∧ Keeps (fun _ => False) w w' := by
 go_enter Tryz.func133, Tryz.ntmps133
 go_wp2_with fail
 go_returns
 exact ⟨rfl, kAlloc _ _⟩
theorem truR_v (b : Bool) (w : World) : Calls Tryz.prog 134 #[.bool b] w fun e w' => e = .returned (truV b).v ∧ Keeps (fun _ => False) w w' := by
 cases b
 all_goals
  go_enter Tryz.func134, Tryz.ntmps134
  go_wp2_with fail
  go_returns
  exact ⟨rfl, kAlloc _ _⟩
theorem without_v (w : World) (v : Value) (l : List ValA) (n : Nat) (hR : ValsAt w v l) (hl : l.length ≤ 1024) (hn : n ≤ l.length) :
  Calls Tryz.prog 100 #[v, .int .i64 (n : Int)] w fun e w' => ∃ v', e = .returned v' ∧ w'.ownsRow w.heap.size 74 3 v' (l.length - n) (vcs (l.take (l.length - n))) ∧ Keeps (fun _ => False) w w' := by
 obtain ⟨i0, hi, hz0, hz1, hz2⟩ := info_parts Tryz.info74
 obtain ⟨ao, cap, rfl⟩ := RowAt.form hR
 have HR := hide hR
 obtain ⟨m, hm⟩ : ∃ m, l.length - n = m := ⟨_, rfl⟩
 rw [hm]
 have hmn : m ≤ l.length := by omega
 have HM := hide hm
 clear hR hm
 go_enter Tryz.func100, Tryz.ntmps100
 go_wp2
 go_loopw [5, 6] (fun o i wr => ∃ k : Nat, k ≤ m ∧ i = .int .i64 k ∧ wr.ownsRow w.heap.size 74 3 o k (vcs (l.take k)) ∧ Keeps (fun _ => False) w wr) (fun _ i _ => m - (intOf i).toNat)
 case atStart => exact ⟨0, Nat.zero_le _, rfl, by simpa [vcs] using World.ownsRow_nil w w.heap.size 74 3, Keeps.refl _ _⟩
 case round =>
  obtain ⟨k, hk, rfl, hown, hkeep⟩ := hrel
  have HO := hide hown
  have HK := hide hkeep
  clear hown hkeep
  by_cases hlt : k < m
  ·obtain ⟨b, off, c, e1, hblt, hc⟩ := (uh HR).cells (by omega)
   simp at e1
   obtain ⟨rfl, rfl⟩ := e1
   obtain ⟨x, hx⟩ : ∃ x, l[k]? = some x := ⟨_, List.getElem?_eq_getElem (by omega)⟩
   have p0 := ((uh HK).cell hblt id).trans (hc k x hx).1
   have p1 := ((uh HK).cell hblt id).trans (hc k x hx).2.1
   have p2 := ((uh HK).cell hblt id).trans (hc k x hx).2.2
   have HX := hide hx
   have i1 : (k : Int) < (l.length : Int) - (n : Int) := by have := uh HM; omega
   have i2 : (k : Int) < (l.length : Int) := by omega
   have i0' : (0 : Int) ≤ (k : Int) := by omega
   clear hc hx
   go_wp2_with (at_builtin; refine wpList_append_lies _ rfl _ _ _ rfl w.heap.size 74 i0 _ 3 32 Tryz.underlying26 hi hz0 hz1 hz2 rfl (by omega) u5 k (vcs (l.take k)) rfl ((uh HO).alloc _) ⟨wr.heap.size, 0, none⟩ 1 1 x.cs rfl rfl (World.news_of_block (cs := #[.int .i64 x.kind, .int .i64 x.n, str x.s]) (t := 74) (fr := (0, 0)) (heap_alloc_new wr _)) (by simp [Value.oneCell', ValA.cs]) (by omega) (by unfold maxLen; omega) (by omega) (by have := (uh HK).size; simp; omega) (wr.heap.size + 1) (by simp) ?_; intro g cap w1 hown1 hgrow hat hlt1)
   go_roundw
   case rel =>
    refine ⟨k + 1, by omega, by go_num, ?_, ((uh HK).alloc _).grown hgrow (fun q e hq => by have := ((uh HO).lt q e).1; omega)⟩
    rw [take_snoc _ _ _ (uh HX)]
    simpa [vcs] using hown1
   case measure => simp [intOf]; omega
  ·have i1 : ¬ (k : Int) < (l.length : Int) - (n : Int) := by have := uh HM; omega
   go_wp2
   go_ret
   obtain rfl : k = m := by omega
   exact ⟨_, rfl, uh HO, uh HK⟩
end Go.Proofs.YtbokbdcjpbnodaaGreatDoor
namespace Go.Proofs.YtbokbdcjpbnodaaGreatDoor
open Go.RowKit Go.Maps
def New (w : World) (v0 v : Value) : Prop := v = v0 ∨ ∀ q, v.ownBlock = some q → w.heap.size ≤ q
theorem New.mono {w W : World} {v0 v : Value} (h : New W v0 v) (hs : w.heap.size ≤ W.heap.size) : New w v0 v := h.imp id (fun h q e => Nat.le_trans hs (h q e))
theorem cl1 {w : World} {b : Nat} {c0 : Value} {t : TypeId} {fr : Nat × Nat} (h : w.heap[b]? = some (.cells #[c0] t fr)) : w.cell? ⟨b, 0, none⟩ = some c0 :=
 (cell_of_blk h _).trans rfl
theorem cl2 {w : World} {b : Nat} {c0 c1 : Value} {t : TypeId} {fr : Nat × Nat} (h : w.heap[b]? = some (.cells #[c0, c1] t fr)) : w.cell? ⟨b, 0, none⟩ = some c0 ∧ w.cell? ⟨b, 1, none⟩ = some c1 :=
 ⟨(cell_of_blk h _).trans rfl, (cell_of_blk h _).trans rfl⟩
theorem fz2 {w : World} {b : Nat} {cs : Array Value} {t : TypeId} (h : w.heap[b]? = some (.cells cs t (0, 0))) : w.frozen? ⟨b, 0, none⟩ = false ∧ w.frozen? ⟨b, 1, none⟩ = false :=
 ⟨frozen_of_blk h 0, frozen_of_blk h 1⟩
theorem cl3 {w : World} {b : Nat} {c0 c1 c2 : Value} {t : TypeId} {fr : Nat × Nat} (h : w.heap[b]? = some (.cells #[c0, c1, c2] t fr)) : w.cell? ⟨b, 0, none⟩ = some c0 ∧ w.cell? ⟨b, 1, none⟩ = some c1 ∧ w.cell? ⟨b, 2, none⟩ = some c2 :=
 ⟨(cell_of_blk h _).trans rfl, (cell_of_blk h _).trans rfl, (cell_of_blk h _).trans rfl⟩
theorem fz3 {w : World} {b : Nat} {cs : Array Value} {t : TypeId} (h : w.heap[b]? = some (.cells cs t (0, 0))) : w.frozen? ⟨b, 0, none⟩ = false ∧ w.frozen? ⟨b, 1, none⟩ = false ∧ w.frozen? ⟨b, 2, none⟩ = false :=
 ⟨frozen_of_blk h 0, frozen_of_blk h 1, frozen_of_blk h 2⟩
theorem cl4 {w : World} {b : Nat} {c0 c1 c2 c3 : Value} {t : TypeId} {fr : Nat × Nat} (h : w.heap[b]? = some (.cells #[c0, c1, c2, c3] t fr)) : w.cell? ⟨b, 0, none⟩ = some c0 ∧ w.cell? ⟨b, 1, none⟩ = some c1 ∧ w.cell? ⟨b, 2, none⟩ = some c2 ∧ w.cell? ⟨b, 3, none⟩ = some c3 :=
 ⟨(cell_of_blk h _).trans rfl, (cell_of_blk h _).trans rfl, (cell_of_blk h _).trans rfl, (cell_of_blk h _).trans rfl⟩
theorem fz4 {w : World} {b : Nat} {cs : Array Value} {t : TypeId} (h : w.heap[b]? = some (.cells cs t (0, 0))) : w.frozen? ⟨b, 0, none⟩ = false ∧ w.frozen? ⟨b, 1, none⟩ = false ∧ w.frozen? ⟨b, 2, none⟩ = false ∧ w.frozen? ⟨b, 3, none⟩ = false :=
 ⟨frozen_of_blk h 0, frozen_of_blk h 1, frozen_of_blk h 2, frozen_of_blk h 3⟩
theorem blk_keep {W w1 : World} {b : Nat} {o : Obj} (h : W.heap[b]? = some o) (hk : Keeps (fun _ => False) W w1) : w1.heap[b]? = some o := (hk.block _ (lt_of_block h) id).trans h
theorem boxes4 (w : World) (a b c d : Array Value) (ta tb tc td : TypeId) : ∃ W, (((w.alloc (.cells a ta)).alloc (.cells b tb)).alloc (.cells c tc)).alloc (.cells d td) = W ∧ Keeps (fun _ => False) w W ∧ W.heap[w.heap.size]? = some (.cells a ta (0, 0)) ∧ W.heap[w.heap.size + 1]? = some (.cells b tb (0, 0)) ∧ W.heap[w.heap.size + 1 + 1]? = some (.cells c tc (0, 0)) ∧ W.heap[w.heap.size + 1 + 1 + 1]? = some (.cells d td (0, 0)) := by
 have k1 := kAlloc w (.cells a ta)
 have k2 := kAlloc (w.alloc (.cells a ta)) (.cells b tb)
 have k3 := kAlloc ((w.alloc (.cells a ta)).alloc (.cells b tb)) (.cells c tc)
 have k4 := kAlloc (((w.alloc (.cells a ta)).alloc (.cells b tb)).alloc (.cells c tc)) (.cells d td)
 have h1 := heap_alloc_new w (.cells a ta)
 have h2 := heap_alloc_new (w.alloc (.cells a ta)) (.cells b tb)
 have h3 := heap_alloc_new ((w.alloc (.cells a ta)).alloc (.cells b tb)) (.cells c tc)
 have h4 := heap_alloc_new (((w.alloc (.cells a ta)).alloc (.cells b tb)).alloc (.cells c tc)) (.cells d td)
 rw [show (w.alloc (.cells a ta)).heap.size = w.heap.size + 1 by simp] at h2
 rw [show ((w.alloc (.cells a ta)).alloc (.cells b tb)).heap.size = w.heap.size + 1 + 1 by simp] at h3
 rw [show (((w.alloc (.cells a ta)).alloc (.cells b tb)).alloc (.cells c tc)).heap.size = w.heap.size + 1 + 1 + 1 by simp] at h4
 exact ⟨_, rfl, ((k1.trans k2).trans k3).trans k4, blk_keep (blk_keep (blk_keep h1 k2) k3) k4, blk_keep (blk_keep h2 k3) k4, blk_keep h3 k4, h4⟩
theorem boxes3 (w : World) (a b c : Array Value) (ta tb tc : TypeId) : ∃ W, ((w.alloc (.cells a ta)).alloc (.cells b tb)).alloc (.cells c tc) = W ∧ Keeps (fun _ => False) w W ∧ W.heap[w.heap.size]? = some (.cells a ta (0, 0)) ∧ W.heap[w.heap.size + 1]? = some (.cells b tb (0, 0)) ∧ W.heap[w.heap.size + 1 + 1]? = some (.cells c tc (0, 0)) := by
 have k1 := kAlloc w (.cells a ta)
 have k2 := kAlloc (w.alloc (.cells a ta)) (.cells b tb)
 have k3 := kAlloc ((w.alloc (.cells a ta)).alloc (.cells b tb)) (.cells c tc)
 have h1 := heap_alloc_new w (.cells a ta)
 have h2 := heap_alloc_new (w.alloc (.cells a ta)) (.cells b tb)
 have h3 := heap_alloc_new ((w.alloc (.cells a ta)).alloc (.cells b tb)) (.cells c tc)
 rw [show (w.alloc (.cells a ta)).heap.size = w.heap.size + 1 by simp] at h2
 rw [show ((w.alloc (.cells a ta)).alloc (.cells b tb)).heap.size = w.heap.size + 1 + 1 by simp] at h3
 exact ⟨_, rfl, (k1.trans k2).trans k3, blk_keep (blk_keep h1 k2) k3, blk_keep h2 k3, h3⟩
theorem boxes2 (w : World) (a b : Array Value) (ta tb : TypeId) : ∃ W, (w.alloc (.cells a ta)).alloc (.cells b tb) = W ∧ Keeps (fun _ => False) w W ∧ W.heap[w.heap.size]? = some (.cells a ta (0, 0)) ∧ W.heap[w.heap.size + 1]? = some (.cells b tb (0, 0)) := by
 have k1 := kAlloc w (.cells a ta)
 have k2 := kAlloc (w.alloc (.cells a ta)) (.cells b tb)
 have h1 := heap_alloc_new w (.cells a ta)
 have h2 := heap_alloc_new (w.alloc (.cells a ta)) (.cells b tb)
 rw [show (w.alloc (.cells a ta)).heap.size = w.heap.size + 1 by simp] at h2
 exact ⟨_, rfl, k1.trans k2, blk_keep h1 k2, h2⟩
end Go.Proofs.YtbokbdcjpbnodaaGreatDoor
namespace Go.Proofs.YtbokbdcjpbnodaaGreatDoor
open Go.RowKit Go.Maps
set_option maxRecDepth 100000
set_option maxHeartbeats 2000000
theorem loadR_v (m : MS) (u : Value) (n : Nat) (w : World) (hr : ValsAt w u m.vals) (hn : m.here = true → n < m.vals.length) :
  Calls Tryz.prog 135 #[.agg #[.bool m.here, u], .int .i64 (n : Int)] w fun e w' => e = .returned (.tuple #[(if hasB m n then (m.vals[n]?).getD zV else zV).v, .bool (hasB m n)]) ∧ Keeps (fun _ => False) w w' := by
 obtain ⟨uo, uc, rfl⟩ := RowAt.form hr
 have HB : Hid (hasB m n = (m.here && !decide (((m.vals[n]?).getD zV).kind = 0))) := rfl
 obtain ⟨lv, HLV⟩ : ∃ lv, Hid ((if hasB m n then (m.vals[n]?).getD zV else zV) = lv) := ⟨_, rfl⟩
 rw [uh HLV]
 generalize hasB m n = R at *
 cases hh : m.here with
 | false =>
  rw [hh] at HB
  have HE : Hid (R = false) := by show _ = _; rw [uh HB]; rfl
  obtain ⟨W, hW, hkW, g0, g1⟩ := boxes2 w #[.bool false, .slice uo m.vals.length uc] #[.int .i64 0, .int .i64 0, .string ⟨#[]⟩] 28 74
  clear hn hr
  have q0 : W.cell? ⟨w.heap.size, 0, none⟩ = some (.bool false) := (cell_of_blk g0 _).trans rfl
  have q1 : W.cell? ⟨w.heap.size, 1, none⟩ = some (.slice uo m.vals.length uc) := (cell_of_blk g0 _).trans rfl
  have z0 := frozen_of_blk g1 0
  have z1 := frozen_of_blk g1 1
  have z2 := frozen_of_blk g1 2
  have y0 : W.cell? ⟨w.heap.size + 1, 0, none⟩ = some (.int .i64 0) := (cell_of_blk g1 _).trans rfl
  have y1 : W.cell? ⟨w.heap.size + 1, 1, none⟩ = some (.int .i64 0) := (cell_of_blk g1 _).trans rfl
  have y2 : W.cell? ⟨w.heap.size + 1, 2, none⟩ = some (.string ⟨#[]⟩) := (cell_of_blk g1 _).trans rfl
  obtain ⟨s0, s1, s2⟩ := set3 g1 (.int .i64 0) (.int .i64 0) (.string ⟨#[]⟩)
  have HK := hide (hkW.fresh (by omega) (keeps_set3 W (w.heap.size + 1) (.int .i64 0) (.int .i64 0) (.string ⟨#[]⟩)))
  clear HB g0 g1 hkW
  go_enter Tryz.func135, Tryz.ntmps135
  go_wp2_with fail
  refine bodyPost_ret (v := .tuple #[zV.v, .bool false]) (by simp [results, go_sem, zV, ValA.v, s0, s1, s2]) rfl ?_
  exact ⟨by rw [← uh HLV, uh HE]; rfl, uh HK⟩
 | true =>
  rw [hh] at HB
  have hlt := hn hh
  obtain ⟨W, hW, hkW, g0, g1⟩ := boxes2 w #[.bool true, .slice uo m.vals.length uc] #[.int .i64 0, .int .i64 0, .string ⟨#[]⟩] 28 74
  obtain ⟨x, hx⟩ : ∃ x, m.vals[n]? = some x := ⟨_, List.getElem?_eq_getElem hlt⟩
  obtain ⟨rb, off, rc, e, hbl, hc⟩ := (hr.keepF hkW).cells (by omega)
  simp only [Value.slice.injEq] at e
  obtain ⟨rfl, -, rfl⟩ := e
  have d0 := (hc n x hx).1
  have d1 := (hc n x hx).2.1
  have d2 := (hc n x hx).2.2
  rw [hx, Option.getD_some] at HB HLV
  have i0 : (0 : Int) ≤ (n : Int) := by omega
  have i1 : (n : Int) < (m.vals.length : Int) := by omega
  clear hc hx hr hn
  have q0 : W.cell? ⟨w.heap.size, 0, none⟩ = some (.bool true) := (cell_of_blk g0 _).trans rfl
  have q1 : W.cell? ⟨w.heap.size, 1, none⟩ = some (.slice (some ⟨rb, off, none⟩) m.vals.length uc) := (cell_of_blk g0 _).trans rfl
  have z0 := frozen_of_blk g1 0
  have z1 := frozen_of_blk g1 1
  have z2 := frozen_of_blk g1 2
  have y0 : W.cell? ⟨w.heap.size + 1, 0, none⟩ = some (.int .i64 0) := (cell_of_blk g1 _).trans rfl
  have y1 : W.cell? ⟨w.heap.size + 1, 1, none⟩ = some (.int .i64 0) := (cell_of_blk g1 _).trans rfl
  have y2 : W.cell? ⟨w.heap.size + 1, 2, none⟩ = some (.string ⟨#[]⟩) := (cell_of_blk g1 _).trans rfl
  by_cases hk : x.kind = 0
  ·have HE : Hid (R = false) := by show _ = _; rw [uh HB, hk]; rfl
   rw [hk] at d0
   obtain ⟨s0, s1, s2⟩ := set3 g1 (.int .i64 0) (.int .i64 0) (.string ⟨#[]⟩)
   have HK := hide (hkW.fresh (by omega) (keeps_set3 W (w.heap.size + 1) (.int .i64 0) (.int .i64 0) (.string ⟨#[]⟩)))
   clear HB g0 g1 hkW
   go_enter Tryz.func135, Tryz.ntmps135
   go_wp2_with fail
   refine bodyPost_ret (v := .tuple #[zV.v, .bool false]) (by simp [results, go_sem, zV, ValA.v, s0, s1, s2]) rfl ?_
   exact ⟨by rw [← uh HLV, uh HE]; rfl, uh HK⟩
  ·have HE : Hid (R = true) := by show _ = _; rw [uh HB, decide_eq_false hk]; rfl
   have hk' : (x.kind == 0) = false := by simpa using hk
   obtain ⟨s0, s1, s2⟩ := set3 g1 (.int .i64 x.kind) (.int .i64 x.n) (str x.s)
   have HK := hide (hkW.fresh (by omega) (keeps_set3 W (w.heap.size + 1) (.int .i64 x.kind) (.int .i64 x.n) (str x.s)))
   clear HB g0 g1 hkW
   go_enter Tryz.func135, Tryz.ntmps135
   go_wp2_with fail
   refine bodyPost_ret (v := .tuple #[x.v, .bool true]) (by simp [results, go_sem, ValA.v, s0, s1, s2]) rfl ?_
   exact ⟨by rw [← uh HLV, uh HE]; rfl, uh HK⟩
end Go.Proofs.YtbokbdcjpbnodaaGreatDoor
namespace Go.Proofs.YtbokbdcjpbnodaaGreatDoor
open Go.RowKit Go.Maps
set_option maxRecDepth 100000
set_option maxHeartbeats 2000000
theorem turns_yes (o : Int) (a : ValA) (w : World) (ho : o = 8 ∨ o = 9 ∨ o = 18) (hb : o = 8 → a.n = 0 ∨ a.n = 1) : Calls Tryz.prog 101 #[.int .i64 o, a.v] w fun e w' => e = .returned (.tuple #[(oneV o a).v, .bool true]) ∧ Keeps (fun _ => False) w w' := by
 have HKA := hide ((kAlloc w (.cells #[.int .i64 a.kind, .int .i64 a.n, str a.s] 74)).alloc (.cells #[.int .i64 0, .int .i64 0, .string ⟨#[]⟩] 74))
 have hX := heap_alloc_new (w.alloc (.cells #[.int .i64 a.kind, .int .i64 a.n, str a.s] 74)) (.cells #[.int .i64 0, .int .i64 0, .string ⟨#[]⟩] 74)
 rw [show (w.alloc (.cells #[.int .i64 a.kind, .int .i64 a.n, str a.s] 74)).heap.size = w.heap.size + 1 by simp] at hX
 have HX := hide hX
 clear hX
 rcases ho with rfl | rfl | rfl
 ·have HE : Hid (oneV 8 a = truV (decide (a.n = 0))) := by
   show _ = _
   rw [show oneV 8 a = truV (!decide (a.n = 1)) from rfl]
   rcases hb rfl with h | h <;> rw [h] <;> rfl
  rw [uh HE]
  have HT := hide (fun (W : World) => truR_v (decide (a.n = 0)) W)
  rw [show a.v = .agg #[.int .i64 a.kind, .int .i64 a.n, str a.s] from rfl] at *
  clear hb HE
  go_enter Tryz.func101, Tryz.ntmps101
  go_wp2_with fail
  refine ((uh HT) _).mono ?_
  clear HT
  rintro e w1 ⟨rfl, hk1⟩
  generalize hx : truV (decide (a.n = 0)) = x at *
  have HXE := hide hx
  clear hx
  obtain ⟨z0, z1, z2, y0, y1, y2, s0, s1, s2⟩ := res_facts (uh HX) hk1 x
  have HK := hide (((uh HKA).trans hk1).fresh (by omega) (keeps_set3 w1 (w.heap.size + 1) (.int .i64 x.kind) (.int .i64 x.n) (str x.s)))
  unfold ValA.v
  clear hk1
  go_wp2_with fail
  refine bodyPost_ret (v := .tuple #[.agg #[.int .i64 x.kind, .int .i64 x.n, str x.s], .bool true]) (by simp [results, go_sem, s0, s1, s2]) rfl ?_
  exact ⟨by rw [uh HXE]; rfl, uh HK⟩
 ·rw [show oneV 9 a = numV (wrap64 (-a.n)) from rfl]
  rw [show a.v = .agg #[.int .i64 a.kind, .int .i64 a.n, str a.s] from rfl] at *
  clear hb
  go_enter Tryz.func101, Tryz.ntmps101
  go_wp2_with fail
  refine (numR_v (wrap64 (-a.n)) _).mono ?_
  rintro e w1 ⟨rfl, hk1⟩
  generalize hx : numV (wrap64 (-a.n)) = x at *
  have HXE := hide hx
  clear hx
  obtain ⟨z0, z1, z2, y0, y1, y2, s0, s1, s2⟩ := res_facts (uh HX) hk1 x
  have HK := hide (((uh HKA).trans hk1).fresh (by omega) (keeps_set3 w1 (w.heap.size + 1) (.int .i64 x.kind) (.int .i64 x.n) (str x.s)))
  unfold ValA.v
  clear hk1
  go_wp2_with fail
  refine bodyPost_ret (v := .tuple #[.agg #[.int .i64 x.kind, .int .i64 x.n, str x.s], .bool true]) (by simp [results, go_sem, s0, s1, s2]) rfl ?_
  exact ⟨by rw [uh HXE]; rfl, uh HK⟩
 ·rw [show oneV 18 a = numV a.s.length from rfl]
  rw [show a.v = .agg #[.int .i64 a.kind, .int .i64 a.n, str a.s] from rfl] at *
  clear hb
  go_enter Tryz.func101, Tryz.ntmps101
  go_wp2_with fail
  refine (numR_v (a.s.length : Int) _).mono ?_
  rintro e w1 ⟨rfl, hk1⟩
  generalize hx : numV (a.s.length : Int) = x at *
  have HXE := hide hx
  clear hx
  obtain ⟨z0, z1, z2, y0, y1, y2, s0, s1, s2⟩ := res_facts (uh HX) hk1 x
  have HK := hide (((uh HKA).trans hk1).fresh (by omega) (keeps_set3 w1 (w.heap.size + 1) (.int .i64 x.kind) (.int .i64 x.n) (str x.s)))
  unfold ValA.v
  clear hk1
  go_wp2_with fail
  refine bodyPost_ret (v := .tuple #[.agg #[.int .i64 x.kind, .int .i64 x.n, str x.s], .bool true]) (by simp [results, go_sem, s0, s1, s2]) rfl ?_
  exact ⟨by rw [uh HXE]; rfl, uh HK⟩
theorem turns_no (o : Int) (a : ValA) (w : World) (h1 : (o == 8) = false) (h2 : (o == 9) = false) (h3 : (o == 18) = false) : Calls Tryz.prog 101 #[.int .i64 o, a.v] w fun e w' => e = .returned (.tuple #[zV.v, .bool false]) ∧ Keeps (fun _ => False) w w' := by
 obtain ⟨W, hW, hkW, g0, g1⟩ := boxes2 w #[.int .i64 a.kind, .int .i64 a.n, str a.s] #[.int .i64 0, .int .i64 0, .string ⟨#[]⟩] 74 74
 obtain ⟨z0, z1, z2, y0, y1, y2, s0, s1, s2⟩ := res_facts g1 (Keeps.refl _ W) zV
 have HK := hide (hkW.fresh (by omega) (keeps_set3 W (w.heap.size + 1) (.int .i64 0) (.int .i64 0) (str [])))
 simp only [zV] at s0 s1 s2
 rw [show a.v = .agg #[.int .i64 a.kind, .int .i64 a.n, str a.s] from rfl] at *
 clear g0 g1 hkW
 go_enter Tryz.func101, Tryz.ntmps101
 go_wp2_with fail
 refine bodyPost_ret (v := .tuple #[.agg #[.int .i64 0, .int .i64 0, .string ⟨#[]⟩], .bool false]) (by simp [results, go_sem, s0, s1, s2]) rfl ?_
 exact ⟨rfl, uh HK⟩
end Go.Proofs.YtbokbdcjpbnodaaGreatDoor
namespace Go.Proofs.YtbokbdcjpbnodaaGreatDoor
open Go.RowKit Go.Maps
theorem less_asym : ∀ (a b : Txt), Op.bytesLess a b = true → Op.bytesLess b a = false
 | [], [], h => by simp [Op.bytesLess] at h
 | [], _ :: _, _ => by simp [Op.bytesLess]
 | _ :: _, [], h => by simp [Op.bytesLess] at h
 | x :: a, y :: b, h => by
  simp only [Op.bytesLess, Bool.or_eq_true, Bool.and_eq_true, decide_eq_true_eq, beq_iff_eq] at h
  simp only [Op.bytesLess, Bool.or_eq_false_iff, Bool.and_eq_false_iff, decide_eq_false_iff_not, beq_eq_false_iff_ne]
  rcases h with h | ⟨rfl, h⟩
  ·refine ⟨fun q => ?_, Or.inl fun q => ?_⟩
   ·have h1 := UInt8.lt_iff_toNat_lt.1 h
    have h2 := UInt8.lt_iff_toNat_lt.1 q
    omega
   ·have h1 := UInt8.lt_iff_toNat_lt.1 h
    rw [q] at h1
    omega
  ·refine ⟨fun q => ?_, Or.inr (less_asym a b h)⟩
   have h2 := UInt8.lt_iff_toNat_lt.1 q
   omega
theorem less_tri : ∀ (a b : Txt), Op.bytesLess a b = false → Op.bytesLess b a = false → a = b
 | [], [], _, _ => rfl
 | [], _ :: _, h, _ => by simp [Op.bytesLess] at h
 | _ :: _, [], _, h => by simp [Op.bytesLess] at h
 | x :: a, y :: b, h, h' => by
  simp only [Op.bytesLess, Bool.or_eq_false_iff, Bool.and_eq_false_iff, decide_eq_false_iff_not, beq_eq_false_iff_ne] at h h'
  have hxy : x = y := by
   apply UInt8.toNat_inj.1
   have h1 : ¬ x.toNat < y.toNat := fun q => h.1 (UInt8.lt_iff_toNat_lt.2 q)
   have h2 : ¬ y.toNat < x.toNat := fun q => h'.1 (UInt8.lt_iff_toNat_lt.2 q)
   omega
  subst hxy
  have h1 := h.2.resolve_left (fun q => q rfl)
  have h2 := h'.2.resolve_left (fun q => q rfl)
  rw [less_tri a b h1 h2]
theorem less_irr (a : Txt) : Op.bytesLess a a = false := by
 cases h : Op.bytesLess a a with
 | false => rfl
 | true => have := less_asym a a h; rw [h] at this; cases this
def lessR (a b : ValA) : Bool := if a.kind = 3 then Op.bytesLess a.s b.s else decide (a.n < b.n)
theorem cmpT_lt (a b : Txt) : decide (cmpT a b < 0) = Op.bytesLess a b := by
 unfold cmpT
 cases h : Op.bytesLess a b with
 | true => rfl
 | false => by_cases q : a = b <;> simp [q]
theorem cmpT_le (a b : Txt) : decide (cmpT a b ≤ 0) = !Op.bytesLess b a := by
 unfold cmpT
 cases h : Op.bytesLess a b with
 | true => rw [less_asym a b h]; rfl
 | false =>
  by_cases q : a = b
  ·subst q; rw [less_irr]; simp
  ·cases h' : Op.bytesLess b a with
   | true => simp [q]
   | false => exact absurd (less_tri a b h h') q
theorem good_less {a b : ValA} (ha : goodV a) (hb : goodV b) (hk : a.kind = b.kind) : lessR a b = decide (ordV a b < 0) ∧ (!lessR b a) = decide (ordV a b ≤ 0) := by
 obtain ⟨k, n, s⟩ := a
 obtain ⟨k', n', s'⟩ := b
 simp only at hk
 subst hk
 unfold lessR ordV
 unfold goodV at ha hb
 simp only at ha hb ⊢
 by_cases h3 : k = 3
 ·subst h3
  have e1 : n = 0 := by omega
  have e2 : n' = 0 := by omega
  subst e1
  subst e2
  rw [if_pos rfl, if_pos rfl, if_pos (show cmpI 0 0 = 0 from rfl), cmpT_lt, cmpT_le]
  exact ⟨rfl, rfl⟩
 ·have e1 : s = [] := by rcases ha with h | h | h <;> simp_all
  have e2 : s' = [] := by rcases hb with h | h | h <;> simp_all
  subst e1
  subst e2
  rw [if_neg h3, if_neg h3]
  unfold cmpI
  have hT : cmpT ([] : Txt) [] = 0 := rfl
  constructor
  ·by_cases h1 : n < n'
   ·rw [if_pos h1]; simp [h1]
   ·by_cases h2 : n' < n
    ·rw [if_neg h1, if_pos h2]; simp [h1]
    ·rw [if_neg h1, if_neg h2]; simp [h1, hT]
  ·by_cases h1 : n < n'
   ·rw [if_pos h1]; simp; omega
   ·by_cases h2 : n' < n
    ·rw [if_neg h1, if_pos h2]; simp [h2]
    ·rw [if_neg h1, if_neg h2]; simp [h2, hT]
theorem less_step {a b : Txt} {k : Nat} {x y : UInt8} (ha : a[k]? = some x) (hb : b[k]? = some y) : Op.bytesLess (a.drop k) (b.drop k) = (decide (x < y) || (x == y && Op.bytesLess (a.drop (k + 1)) (b.drop (k + 1)))) := by
 obtain ⟨h1, e1⟩ := List.getElem?_eq_some_iff.1 ha
 obtain ⟨h2, e2⟩ := List.getElem?_eq_some_iff.1 hb
 rw [List.drop_eq_getElem_cons h1, List.drop_eq_getElem_cons h2, e1, e2]
 rfl
theorem less_end {a b : Txt} {k : Nat} (h : a.length ≤ k ∨ b.length ≤ k) (hk : k ≤ a.length ∧ k ≤ b.length) : Op.bytesLess (a.drop k) (b.drop k) = decide (a.length < b.length) := by
 rcases h with h | h
 ·rw [List.drop_eq_nil_of_le h]
  cases q : b.drop k with
  | nil => have := List.drop_eq_nil_iff.1 q; simp [Op.bytesLess]; omega
  | cons y t => have := congrArg List.length q; simp at this; simp [Op.bytesLess]; omega
 ·rw [List.drop_eq_nil_of_le h]
  cases q : a.drop k with
  | nil => have := List.drop_eq_nil_iff.1 q; simp [Op.bytesLess]; omega
  | cons y t => simp [Op.bytesLess]; omega
end Go.Proofs.YtbokbdcjpbnodaaGreatDoor
namespace Go.Proofs.YtbokbdcjpbnodaaGreatDoor
open Go.RowKit Go.Maps
set_option maxRecDepth 100000
set_option maxHeartbeats 2000000
theorem below_v (a b : Txt) (w : World) (hla : a.length ≤ 1024) : Calls Tryz.prog 165 #[str a, str b] w fun e w' => e = .returned (.bool (Op.bytesLess a b)) ∧ Keeps (fun _ => False) w w' := by
 have H0 : Hid (Op.bytesLess (a.drop 0) (b.drop 0) = Op.bytesLess a b) := rfl
 generalize Op.bytesLess a b = R at *
 go_enter Tryz.func165, Tryz.ntmps165
 go_wp2_with fail
 go_loopw [5] (fun i wr => ∃ k : Nat, k ≤ a.length ∧ k ≤ b.length ∧ i = .int .i64 k ∧ Hid (Op.bytesLess (a.drop k) (b.drop k) = R) ∧ Keeps (fun _ => False) w wr) (fun i _ => a.length - (intOf i).toNat)
 case atStart => exact ⟨0, Nat.zero_le _, Nat.zero_le _, rfl, H0, Keeps.refl _ _⟩
 case round =>
  obtain ⟨k, hk, hk2, rfl, HS, hkeep⟩ := hrel
  have HK := hide hkeep
  clear hkeep
  by_cases h1 : k < a.length
  ·by_cases h2 : k < b.length
   ·obtain ⟨x, hx⟩ : ∃ x, a[k]? = some x := ⟨_, List.getElem?_eq_getElem h1⟩
    obtain ⟨y, hy⟩ : ∃ y, b[k]? = some y := ⟨_, List.getElem?_eq_getElem h2⟩
    have i1 : (k : Int) < (a.length : Int) := by omega
    have i2 : (k : Int) < (b.length : Int) := by omega
    have i0 : (0 : Int) ≤ (k : Int) := by omega
    have a1 := str_at hx
    have b1 := str_at hy
    have HE := hide (less_step hx hy)
    clear hx hy
    by_cases hxy : x = y
    ·subst hxy
     have HN : Hid (Op.bytesLess (a.drop (k + 1)) (b.drop (k + 1)) = R) := by
      show _ = _
      rw [← uh HS, uh HE]
      simp
     clear HS HE
     go_wp2_with fail
     go_region
     go_wp2_with fail
     go_roundw
     case rel => exact ⟨k + 1, by omega, by omega, by go_num, HN, (uh HK).drew⟩
     case measure => simp [intOf]; omega
    ·have HR : Hid (R = decide (x < y)) := by
      show _ = _
      rw [← uh HS, uh HE]
      simp [hxy]
     have hne0 : ¬ (x.toNat : Int) = (y.toNat : Int) := fun q => hxy (UInt8.toNat_inj.1 (by omega))
     have hne1 : ((x.toNat : Int) != (y.toNat : Int)) = true := by rw [bne_iff_ne]; exact hne0
     have hne2 : ((x.toNat : Int) == (y.toNat : Int)) = false := by simpa using hne0
     clear HS HE
     go_wp2_with fail
     go_region
     go_wp2_with fail
     go_region
     go_wp2_with fail
     go_ret
     refine ⟨ret_bool ?_, (uh HK).drew.drew⟩
     rw [uh HR]
     apply Bool.eq_iff_iff.2
     simp only [decide_eq_true_eq, UInt8.lt_iff_toNat_lt]
   ·have i1 : (k : Int) < (a.length : Int) := by omega
    have i2 : ¬ (k : Int) < (b.length : Int) := by omega
    have HE : Hid (R = decide (a.length < b.length)) := by show _ = _; rw [← uh HS]; exact less_end (Or.inr (by omega)) ⟨hk, hk2⟩
    clear HS
    go_wp2_with fail
    go_ret
    exact ⟨ret_bool (uh HE).symm, uh HK⟩
  ·have i1 : ¬ (k : Int) < (a.length : Int) := by omega
   have HE : Hid (R = decide (a.length < b.length)) := by show _ = _; rw [← uh HS]; exact less_end (Or.inl (by omega)) ⟨hk, hk2⟩
   clear HS
   go_wp2_with fail
   go_ret
   exact ⟨ret_bool (uh HE).symm, uh HK⟩
theorem good_len {a : ValA} (h : goodV a) : a.s.length ≤ 20 := by
 rcases h with ⟨_, h⟩ | ⟨_, _, h⟩ | ⟨_, _, h⟩
 ·rw [h]; simp
 ·rw [h]; simp
 ·exact h
theorem lessB_v (a b : ValA) (w : World) (ha : a.s.length ≤ 20) : Calls Tryz.prog 136 #[a.v, b.v] w fun e w' => e = .returned (.bool (lessR a b)) ∧ Keeps (fun _ => False) w w' := by
 have HKA := hide ((kAlloc w (.cells #[.int .i64 a.kind, .int .i64 a.n, str a.s] 74)).alloc (.cells #[.int .i64 b.kind, .int .i64 b.n, str b.s] 74))
 have HB := hide (fun (W : World) => below_v a.s b.s W (by omega))
 have HE : Hid (lessR a b = if a.kind = 3 then Op.bytesLess a.s b.s else decide (a.n < b.n)) := rfl
 generalize lessR a b = R at *
 generalize Op.bytesLess a.s b.s = Q at *
 obtain ⟨k, n, s⟩ := a
 obtain ⟨k', n', s'⟩ := b
 unfold ValA.v
 simp only at *
 by_cases h3 : k = 3
 ·rw [if_pos h3] at HE
  subst h3
  go_enter Tryz.func136, Tryz.ntmps136
  go_wp2_with fail
  refine ((uh HB) _).mono ?_
  rintro e w0 ⟨rfl, hk0⟩
  go_wp2_with fail
  go_ret
  exact ⟨ret_bool (uh HE).symm, (uh HKA).trans hk0⟩
 ·rw [if_neg h3] at HE
  have h3' : (k == 3) = false := by simpa using h3
  clear HB
  go_enter Tryz.func136, Tryz.ntmps136
  go_wp2_with fail
  go_ret
  exact ⟨ret_bool (uh HE).symm, uh HKA⟩
theorem catR_v (ax bx : Txt) (w : World) (ha : ax.length ≤ 20) (hb : bx.length ≤ 20) : Calls Tryz.prog 137 #[str ax, str bx] w fun e w' => e = .returned (str (catT ax bx)) ∧ Keeps (fun _ => False) w w' := by
 have HC : Hid (catT ax bx = (ax ++ bx).take 20) := rfl
 generalize catT ax bx = C at *
 have i0 : ¬ 9223372036854775807 < ax.length + bx.length := by omega
 have ext : ∀ k : Nat, ((⟨ax.toArray⟩ : ByteArray) ++ ⟨bx.toArray⟩).extract 0 k = ⟨((ax ++ bx).take k).toArray⟩ := fun k => by
  apply ByteArray.ext
  rw [ByteArray.data_extract]
  show (ax ++ bx).toArray.extract 0 k = _
  simp
 have HE1 : Hid (((⟨ax.toArray⟩ : ByteArray) ++ ⟨bx.toArray⟩).extract 0 20 = ⟨C.toArray⟩) := by show _ = _; rw [ext, ← uh HC]
 have HE2 : Hid ((ax.length : Int) + (bx.length : Int) ≤ 20 → ((⟨ax.toArray⟩ : ByteArray) ++ ⟨bx.toArray⟩) = ⟨C.toArray⟩) := fun h => by
  rw [uh HC, List.take_of_length_le (by simp; omega)]
  apply ByteArray.ext
  simp
 clear ext
 go_enter Tryz.func137, Tryz.ntmps137
 go_wp2_with fail
 all_goals
  go_ret
  refine ⟨?_, Keeps.refl _ _⟩
  first
   | (rw [uh HE1]; rfl)
   | (rw [(uh HE2) (by omega)]; rfl)
end Go.Proofs.YtbokbdcjpbnodaaGreatDoor
