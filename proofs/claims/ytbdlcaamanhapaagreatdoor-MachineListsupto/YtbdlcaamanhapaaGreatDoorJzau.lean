import Derived.Test.YtbdlcaamanhapaaGreatDoorJzat
import Derived.Test.YtbdlcaamanhapaaGreatDoorJzas
import Derived.Test.YtbdlcaamanhapaaGreatDoorJzam
import Derived.Test.YtbdlcaamanhapaaGreatDoorJzab
import Derived.Test.YtbdlcaamanhapaaGreatDoorJzal
import Derived.Test.YtbdlcaamanhapaaGreatDoorJzak
namespace Go.Proofs.YtbdlcaamanhapaaGreatDoor
open Go.RowKit Go.Maps
set_option maxRecDepth 100000
set_option maxHeartbeats 2000000
theorem withR_v (m : MS) (u : Value) (n : Nat) (v : ValA) (w : World) (hr : Wr w u m.vals) (hn : m.here = true → n < m.vals.length) (hl : m.vals.length ≤ 1024) :
  Calls Tryz.prog 96 #[.agg #[.bool m.here, u], .int .i64 (n : Int), v.v] w fun e w' => ∃ ro rc, e = .returned (.agg #[.bool (setR m n v).1, .slice ro (setR m n v).2.length rc]) ∧ Wr w' (.slice ro (setR m n v).2.length rc) (setR m n v).2 ∧ New w u (.slice ro (setR m n v).2.length rc) ∧ Wp (fun _ => False) w w' := by
 obtain ⟨uo, uc, rfl⟩ := Ws.form hr
 rw [show v.v = .agg #[.int .i64 v.kind, .int .i64 v.n, str v.s] from rfl]
 cases hh : m.here with
 | false =>
  have HR : Hid (setR m n v = (false, m.vals)) := by show _ = _; unfold setR; rw [hh]; rfl
  rw [zA HR]
  obtain ⟨W, hW, hkW, g0, g1, g2⟩ := boxes3 w #[.bool false, .slice uo m.vals.length uc] #[.int .i64 v.kind, .int .i64 v.n, str v.s] #[.bool false, .slice none 0 0] 27 51 27
  obtain ⟨q0, q1⟩ := cl2 g0
  obtain ⟨z0, z1⟩ := fz2 g2
  obtain ⟨y0, y1⟩ := cl2 g2
  obtain ⟨s0, s1⟩ := set2c g2 (.bool false) (.slice uo m.vals.length uc)
  have HK := zB (hkW.fresh (by omega) (keeps_set2 W (w.heap.size + 1 + 1) (.bool false) (.slice uo m.vals.length uc)))
  have HV := zB (hr.keepF (zA HK))
  clear g0 g1 g2 hkW hn hr
  go_enter Tryz.func96, Tryz.ntmps96
  go_wp2_with fail
  refine bodyPost_ret (v := .agg #[.bool false, .slice uo m.vals.length uc]) (by simp [results, go_sem, s0, s1]) rfl ?_
  exact ⟨_, _, rfl, zA HV, Or.inl rfl, zA HK⟩
 | true =>
  have hlt := hn hh
  have HR : Hid (setR m n v = (true, m.vals.set n v)) := by show _ = _; unfold setR; rw [hh]; rfl
  rw [zA HR]
  obtain ⟨W, hW, hkW, g0, g1, g2⟩ := boxes3 w #[.bool true, .slice uo m.vals.length uc] #[.int .i64 v.kind, .int .i64 v.n, str v.s] #[.bool false, .slice none 0 0] 27 51 27
  have HQ := zB (copyVals_any W _ m.vals (hr.keepF hkW) (by omega))
  obtain ⟨q0, q1⟩ := cl2 g0
  have G0 := zB g0
  have G1 := zB g1
  have G2 := zB g2
  have HKW := zB hkW
  clear g0 g1 g2 hkW hn hr
  go_enter Tryz.func96, Tryz.ntmps96
  go_wp2_with fail
  refine (zA HQ).mono ?_
  rintro e w1 ⟨v', rfl, hown, hk1⟩
  have h1 := zD (zA G1) hk1
  have h2 := zD (zA G2) hk1
  obtain ⟨c0, c1, c2⟩ := cl3 h1
  obtain ⟨y0, y1⟩ := cl2 h2
  obtain ⟨z0, z1⟩ := fz2 h2
  have HK1 := zB ((zA HKW).trans hk1)
  obtain ⟨g, cap, cur, e, hg, hgb⟩ : ∃ g cap cur, v' = .slice (some ⟨g, 0, none⟩) m.vals.length cap ∧ W.heap.size ≤ g ∧ w1.heap[g]? = some (.cells cur 51 (0, 0)) := by
   rcases hown.2 with ⟨_, h0⟩ | ⟨g, cap, cur, a1, a2, a3, _⟩
   ·omega
   ·exact ⟨g, cap, cur, a1, a2, a3⟩
  have HS := zB (own_set3 hown e hlt v)
  subst e
  have hvals : Wr w1 (.slice (some ⟨g, 0, none⟩) m.vals.length cap) m.vals := zG hown
  obtain ⟨g', off', cap', e', hgl, hc⟩ := hvals.cells (by omega)
  simp only [Value.slice.injEq, Option.some.injEq, Addr.mk.injEq, and_true, true_and] at e'
  obtain ⟨⟨rfl, rfl⟩, rfl⟩ := e'
  obtain ⟨x, hx⟩ : ∃ x, m.vals[n]? = some x := ⟨_, List.getElem?_eq_getElem hlt⟩
  have d0 := (hc n x hx).1
  have d1 := (hc n x hx).2.1
  have d2 := (hc n x hx).2.2
  simp only [Nat.zero_add] at d0 d1 d2
  have f0 := zF hgb (n * 3)
  have f1 := zF hgb (n * 3 + 1)
  have f2 := zF hgb (n * 3 + 2)
  have i0 : (0 : Int) ≤ (n : Int) := by omega
  have i1 : (n : Int) < (m.vals.length : Int) := by omega
  have hb2 : w.heap.size + 1 + 1 < W.heap.size := zE (zA G2)
  have hnew : w.heap.size ≤ g := by omega
  have hgne : ¬ g = w.heap.size + 1 + 1 := by omega
  have HGB := zB hgb
  have HH2 := zB h2
  have HG := zB hg
  have hsz1 : w.heap.size + 1 + 1 < w1.heap.size := zE h2
  have l1 : w.heap.size + 1 < w1.heap.size := by omega
  clear hown hvals hc hx hk1 HQ h1 h2 hgb
  go_wp2_with fail
  have k3 := keeps_at3 w1 g (n * 3) (n * 3 + 1) (n * 3 + 2) (.int .i64 v.kind) (.int .i64 v.n) (str v.s)
  have hX3 := (k3.block _ hsz1 (fun q => hgne q.symm)).trans (zA HH2)
  obtain ⟨s0, s1⟩ := set2c hX3 (.bool true) (.slice (some ⟨g, 0, none⟩) m.vals.length cap)
  refine bodyPost_ret (v := .agg #[.bool true, .slice (some ⟨g, 0, none⟩) m.vals.length cap]) (by simp [results, go_sem, s0, s1]) rfl ?_
  refine ⟨some ⟨g, 0, none⟩, cap, by rw [List.length_set], ?_, Or.inr (fun q e => by simp [Value.ownBlock] at e; omega), ?_⟩
  ·have hv := Ws.kept (zG (zA HS)) (keeps_set2 _ (w.heap.size + 1 + 1) (.bool true) (.slice (some ⟨g, 0, none⟩) m.vals.length cap)) (fun q e h => by simp [Value.ownBlock] at e; omega)
   rw [List.length_set] at hv ⊢
   show Ws _ _ _ _
   rw [List.length_set]
   exact hv
  ·have := zA HG
   exact ((zA HK1).fresh (by omega) k3).fresh (by omega) (keeps_set2 _ (w.heap.size + 1 + 1) (.bool true) (.slice (some ⟨g, 0, none⟩) m.vals.length cap))
theorem vO {w w' : World} {v : Value} {l : List ValA} {b : Nat} {cs : Array Value} {t : TypeId} {fr : Nat × Nat} (h : Wr w v l) (hb : w.heap[b]? = some (.cells cs t fr)) (hcs : ∀ (i : Nat) (a n : Int) (s : Txt), cs[i]? = some (.int .i64 a) → cs[i + 1]? = some (.int .i64 n) → cs[i + 2]? = some (str s) → False) (hk : Wp (fun q => q = b) w w') : Wr w' v l := by
 cases l with
 | nil => exact valsAt_nil h
 | cons x r =>
  obtain ⟨g, off, cap, e, hg, hc⟩ := h.cells (by simp)
  have c := hc 0 x rfl
  refine Ws.kept h hk (fun q eq hq => ?_)
  rw [e] at eq
  simp only [Value.ownBlock, Option.some.injEq] at eq
  subst eq
  subst hq
  simp only [Nat.zero_mul, Nat.add_zero] at c
  exact hcs off x.kind x.n x.s ((zC hb off).symm.trans c.1) ((zC hb (off + 1)).symm.trans c.2.1) ((zC hb (off + 2)).symm.trans c.2.2)
theorem off2 {b : Bool} {y : Value} (hy : ∀ n, y ≠ .int .i64 n) (i : Nat) (a n : Int) (s : Txt) (h1 : (#[.bool b, y] : Array Value)[i]? = some (.int .i64 a)) (h2 : (#[.bool b, y] : Array Value)[i + 1]? = some (.int .i64 n)) (h3 : (#[.bool b, y] : Array Value)[i + 2]? = some (str s)) : False := by
 rcases i with _ | _ | i
 ·simp at h1
 ·simp at h1; exact hy _ h1
 ·simp at h1
theorem boxes5 (w : World) (a b c d f : Array Value) (ta tb tc td tf : TypeId) : ∃ W, ((((w.alloc (.cells a ta)).alloc (.cells b tb)).alloc (.cells c tc)).alloc (.cells d td)).alloc (.cells f tf) = W ∧ Wp (fun _ => False) w W ∧ W.heap[w.heap.size]? = some (.cells a ta (0, 0)) ∧ W.heap[w.heap.size + 1]? = some (.cells b tb (0, 0)) ∧ W.heap[w.heap.size + 1 + 1]? = some (.cells c tc (0, 0)) ∧ W.heap[w.heap.size + 1 + 1 + 1]? = some (.cells d td (0, 0)) ∧ W.heap[w.heap.size + 1 + 1 + 1 + 1]? = some (.cells f tf (0, 0)) := by
 obtain ⟨W, hW, hk, g0, g1, g2, g3⟩ := boxes4 w a b c d ta tb tc td
 have hs : W.heap.size = w.heap.size + 1 + 1 + 1 + 1 := by rw [← hW]; simp
 have k := kA W (.cells f tf)
 have g4 := heap_alloc_new W (.cells f tf)
 rw [hs] at g4
 exact ⟨_, by rw [hW], hk.trans k, zD g0 k, zD g1 k, zD g2 k, zD g3 k, g4⟩
theorem zero_any (l : List Wq) (v : Value) (w : World) (h : Wt w v l) :
  Calls Tryz.prog 97 #[.agg #[v]] w fun e w' => ∃ v', e = .returned v' ∧ w'.ownsRow w.heap.size 51 3 v' (zeroB l).length (vcs (zeroB l)) ∧ Wp (fun _ => False) w w' := by
 obtain ⟨i0, hi, hz0, hz1, hz2⟩ := info_parts Tryz.info51
 obtain ⟨ao, cap, rfl⟩ := Ws.form h
 obtain ⟨HB, hb, hbc⟩ := boxed w #[.slice ao l.length cap] 24
 have hp := hbc 0 (.slice ao l.length cap) rfl
 have HF := zB (h.keepF (zA HB))
 have HS := zB (checkSchema_any l _ _ (zA HF))
 clear hbc h
 go_enter Tryz.func97, Tryz.ntmps97
 go_wp2_with fail
 refine (zA HS).mono ?_
 rintro e w2 ⟨rfl, hk2⟩
 have hp2 := (hk2.cell (o := 0) hb id).trans hp
 have hb2 := Nat.lt_of_lt_of_le hb hk2.size
 have HF2 := zB ((zA HF).keepF hk2)
 have HB2 := zB ((zA HB).trans hk2)
 clear HS HF HB hk2 hp hb
 generalize w.alloc (.cells #[.slice ao l.length cap] 24) = w1 at *
 have hsb : w.heap.size < w2.heap.size := hb2
 rcases errS_eq l with ⟨hs, he⟩ | ⟨hs, he⟩
 ·rw [he]
  have hl8 := (schemaB_len hs).2
  have HZ : Hid (zeroB l = zeros l) := by show _ = _; simp [zeroB, hs]
  clear hs he
  go_wp2_with fail
  go_loopw [3, 5] (fun o i wr => ∃ k : Nat, k ≤ l.length ∧ i = .int .i64 k ∧ wr.ownsRow w2.heap.size 51 3 o k (vcs (zeros (l.take k))) ∧ Wp (fun _ => False) w2 wr) (fun _ i _ => l.length - (intOf i).toNat)
  case atStart => exact ⟨0, Nat.zero_le _, rfl, by simpa [vcs, zeros] using World.ownsRow_nil w2 w2.heap.size 51 3, Wp.refl _ _⟩
  case round =>
   obtain ⟨k, hk, rfl, hown, hkp⟩ := hrel
   have HO := zB hown
   have HK := zB hkp
   have p0 := (hkp.cell (o := 0) hb2 id).trans hp2
   by_cases hlt : k < l.length
   ·obtain ⟨b, off, c, e1, hblt, hc⟩ := (zA HF2).cells (by omega)
    simp at e1
    obtain ⟨rfl, rfl⟩ := e1
    obtain ⟨x, hx⟩ : ∃ x, l[k]? = some x := ⟨_, List.getElem?_eq_getElem hlt⟩
    have c0 := (hkp.cell hblt id).trans (hc k x hx).1
    have c1 := (hkp.cell hblt id).trans (hc k x hx).2.1
    have c2 := (hkp.cell hblt id).trans (hc k x hx).2.2
    have HX := zB hx
    have i1 : (k : Int) < (l.length : Int) := by omega
    have HQ := zB (zeroOf_any x wr)
    unfold Wq.v at HQ
    clear hc hx hown hkp
    go_wp2_with fail
    refine (zA HQ).mono ?_
    rintro e w4 ⟨rfl, hk4⟩
    have HZ1 : Hid (zeros (l.take (k + 1)) = zeros (l.take k) ++ [zeroV x]) := by show _ = _; rw [take_snoc _ _ _ (zA HX), zeros_snoc]
    generalize zeroV x = z at *
    have HO4 : Hid (w4.ownsRow w2.heap.size 51 3 u3 k (vcs (zeros (l.take k)))) := zI (zA HO) hk4 (fun _ _ => id)
    have HK4 := zB ((zA HK).trans hk4)
    have s4 : w2.heap.size ≤ w4.heap.size := (zA HK4).size
    clear hk4 HQ c0 c1 c2 p0
    unfold ValA.v
    go_wp2_with (at_builtin; refine wpList_append_lies _ rfl _ _ _ rfl w2.heap.size 51 i0 _ 3 32 Tryz.underlying25 hi hz0 hz1 hz2 rfl (by omega) u3 k (vcs (zeros (l.take k))) rfl (((zA HO4).alloc _).alloc _) ⟨w4.heap.size + 1, 0, none⟩ 1 1 z.cs rfl rfl (World.news_of_block (cs := #[.int .i64 z.kind, .int .i64 z.n, str z.s]) (t := 51) (fr := (0, 0)) (by have q := heap_alloc_new (w4.alloc (.cells #[.int .i64 z.kind, .int .i64 z.n, str z.s] 51)) (.cells #[.int .i64 z.kind, .int .i64 z.n, str z.s] 51); rw [World.size_alloc] at q; exact q)) (by simp [Value.oneCell', ValA.cs]) (by omega) (by unfold maxLen; omega) (by omega) (by simp; omega) (w4.heap.size + 2) (by simp) ?_; intro g cap w5 hown1 hgrow hat hlt1)
    go_roundw
    case rel =>
     refine ⟨k + 1, by omega, by go_num, ?_, (((zA HK4).alloc _).alloc _).grown hgrow (fun q e hq => by have := ((zA HO4).lt q e).1; omega)⟩
     rw [zA HZ1, vcs_snoc]
     exact hown1
    case measure => simp [intOf]; omega
   ·clear hown hkp
    go_wp2
    go_ret
    obtain rfl : k = l.length := by omega
    refine ⟨_, rfl, ?_, (zA HB2).trans (zA HK)⟩
    have := zA HO
    rw [List.take_length] at this
    rw [zA HZ, zeros_length]
    exact ownsRow_lower this (zA HB2).size
 ·rw [he]
  have HZ : Hid (zeroB l = []) := by show _ = _; simp [zeroB, hs]
  clear hs he
  go_wp2_with fail
  go_ret
  refine ⟨_, rfl, ?_, zA HB2⟩
  rw [zA HZ]
  exact World.ownsRow_nil w2 w.heap.size 51 3
theorem numR_v (n : Int) (w : World) : Calls Tryz.prog 91 #[.int .i64 n] w fun e w' => e = .returned (numV n).v ∧ Wp (fun _ => False) w w' := by
 go_enter Tryz.func91, Tryz.ntmps91
 go_wp2_with fail
 go_returns
 exact ⟨rfl, kA _ _⟩
theorem truR_v (b : Bool) (w : World) : Calls Tryz.prog 92 #[.bool b] w fun e w' => e = .returned (truV b).v ∧ Wp (fun _ => False) w w' := by
 cases b
 all_goals
  go_enter Tryz.func92, Tryz.ntmps92
  go_wp2_with fail
  go_returns
  exact ⟨rfl, kA _ _⟩
theorem without_v (w : World) (v : Value) (l : List ValA) (n : Nat) (hR : Wr w v l) (hl : l.length ≤ 1024) (hn : n ≤ l.length) :
  Calls Tryz.prog 60 #[v, .int .i64 (n : Int)] w fun e w' => ∃ v', e = .returned v' ∧ w'.ownsRow w.heap.size 51 3 v' (l.length - n) (vcs (l.take (l.length - n))) ∧ Wp (fun _ => False) w w' := by
 obtain ⟨i0, hi, hz0, hz1, hz2⟩ := info_parts Tryz.info51
 obtain ⟨ao, cap, rfl⟩ := Ws.form hR
 have HR := zB hR
 obtain ⟨m, hm⟩ : ∃ m, l.length - n = m := ⟨_, rfl⟩
 rw [hm]
 have hmn : m ≤ l.length := by omega
 have HM := zB hm
 clear hR hm
 go_enter Tryz.func60, Tryz.ntmps60
 go_wp2
 go_loopw [5, 6] (fun o i wr => ∃ k : Nat, k ≤ m ∧ i = .int .i64 k ∧ wr.ownsRow w.heap.size 51 3 o k (vcs (l.take k)) ∧ Wp (fun _ => False) w wr) (fun _ i _ => m - (intOf i).toNat)
 case atStart => exact ⟨0, Nat.zero_le _, rfl, by simpa [vcs] using World.ownsRow_nil w w.heap.size 51 3, Wp.refl _ _⟩
 case round =>
  obtain ⟨k, hk, rfl, hown, hkeep⟩ := hrel
  have HO := zB hown
  have HK := zB hkeep
  clear hown hkeep
  by_cases hlt : k < m
  ·obtain ⟨b, off, c, e1, hblt, hc⟩ := (zA HR).cells (by omega)
   simp at e1
   obtain ⟨rfl, rfl⟩ := e1
   obtain ⟨x, hx⟩ : ∃ x, l[k]? = some x := ⟨_, List.getElem?_eq_getElem (by omega)⟩
   have p0 := ((zA HK).cell hblt id).trans (hc k x hx).1
   have p1 := ((zA HK).cell hblt id).trans (hc k x hx).2.1
   have p2 := ((zA HK).cell hblt id).trans (hc k x hx).2.2
   have HX := zB hx
   have i1 : (k : Int) < (l.length : Int) - (n : Int) := by have := zA HM; omega
   have i2 : (k : Int) < (l.length : Int) := by omega
   have i0' : (0 : Int) ≤ (k : Int) := by omega
   clear hc hx
   go_wp2_with (at_builtin; refine wpList_append_lies _ rfl _ _ _ rfl w.heap.size 51 i0 _ 3 32 Tryz.underlying25 hi hz0 hz1 hz2 rfl (by omega) u5 k (vcs (l.take k)) rfl ((zA HO).alloc _) ⟨wr.heap.size, 0, none⟩ 1 1 x.cs rfl rfl (World.news_of_block (cs := #[.int .i64 x.kind, .int .i64 x.n, str x.s]) (t := 51) (fr := (0, 0)) (heap_alloc_new wr _)) (by simp [Value.oneCell', ValA.cs]) (by omega) (by unfold maxLen; omega) (by omega) (by have := (zA HK).size; simp; omega) (wr.heap.size + 1) (by simp) ?_; intro g cap w1 hown1 hgrow hat hlt1)
   go_roundw
   case rel =>
    refine ⟨k + 1, by omega, by go_num, ?_, ((zA HK).alloc _).grown hgrow (fun q e hq => by have := ((zA HO).lt q e).1; omega)⟩
    rw [take_snoc _ _ _ (zA HX)]
    simpa [vcs] using hown1
   case measure => simp [intOf]; omega
  ·have i1 : ¬ (k : Int) < (l.length : Int) - (n : Int) := by have := zA HM; omega
   go_wp2
   go_ret
   obtain rfl : k = m := by omega
   exact ⟨_, rfl, zA HO, zA HK⟩
theorem loadR_v (m : MS) (u : Value) (n : Nat) (w : World) (hr : Wr w u m.vals) (hn : m.here = true → n < m.vals.length) :
  Calls Tryz.prog 93 #[.agg #[.bool m.here, u], .int .i64 (n : Int)] w fun e w' => e = .returned (.tuple #[(if hasB m n then (m.vals[n]?).getD zV else zV).v, .bool (hasB m n)]) ∧ Wp (fun _ => False) w w' := by
 obtain ⟨uo, uc, rfl⟩ := Ws.form hr
 have HB : Hid (hasB m n = (m.here && !decide (((m.vals[n]?).getD zV).kind = 0))) := rfl
 obtain ⟨lv, HLV⟩ : ∃ lv, Hid ((if hasB m n then (m.vals[n]?).getD zV else zV) = lv) := ⟨_, rfl⟩
 rw [zA HLV]
 generalize hasB m n = R at *
 cases hh : m.here with
 | false =>
  rw [hh] at HB
  have HE : Hid (R = false) := by show _ = _; rw [zA HB]; rfl
  obtain ⟨W, hW, hkW, g0, g1⟩ := boxes2 w #[.bool false, .slice uo m.vals.length uc] #[.int .i64 0, .int .i64 0, .string ⟨#[]⟩] 27 51
  clear hn hr
  have q0 : W.cell? ⟨w.heap.size, 0, none⟩ = some (.bool false) := (zC g0 _).trans rfl
  have q1 : W.cell? ⟨w.heap.size, 1, none⟩ = some (.slice uo m.vals.length uc) := (zC g0 _).trans rfl
  have z0 := zF g1 0
  have z1 := zF g1 1
  have z2 := zF g1 2
  have y0 : W.cell? ⟨w.heap.size + 1, 0, none⟩ = some (.int .i64 0) := (zC g1 _).trans rfl
  have y1 : W.cell? ⟨w.heap.size + 1, 1, none⟩ = some (.int .i64 0) := (zC g1 _).trans rfl
  have y2 : W.cell? ⟨w.heap.size + 1, 2, none⟩ = some (.string ⟨#[]⟩) := (zC g1 _).trans rfl
  obtain ⟨s0, s1, s2⟩ := set3 g1 (.int .i64 0) (.int .i64 0) (.string ⟨#[]⟩)
  have HK := zB (hkW.fresh (by omega) (zK W (w.heap.size + 1) (.int .i64 0) (.int .i64 0) (.string ⟨#[]⟩)))
  clear HB g0 g1 hkW
  go_enter Tryz.func93, Tryz.ntmps93
  go_wp2_with fail
  refine bodyPost_ret (v := .tuple #[zV.v, .bool false]) (by simp [results, go_sem, zV, ValA.v, s0, s1, s2]) rfl ?_
  exact ⟨by rw [← zA HLV, zA HE]; rfl, zA HK⟩
 | true =>
  rw [hh] at HB
  have hlt := hn hh
  obtain ⟨W, hW, hkW, g0, g1⟩ := boxes2 w #[.bool true, .slice uo m.vals.length uc] #[.int .i64 0, .int .i64 0, .string ⟨#[]⟩] 27 51
  obtain ⟨x, hx⟩ : ∃ x, m.vals[n]? = some x := ⟨_, List.getElem?_eq_getElem hlt⟩
  obtain ⟨rb, off, rc, e, hbl, hc⟩ := (hr.keepF hkW).cells (by omega)
  simp only [Value.slice.injEq] at e
  obtain ⟨rfl, -, rfl⟩ := e
  have d0 := (hc n x hx).1
  have d1 := (hc n x hx).2.1
  have d2 := (hc n x hx).2.2
  rw [hx, Option.getD_some] at HB HLV
  have i0 : (0 : Int) ≤ (n : Int) := by omega
  have i1 : (n : Int) < (m.vals.length : Int) := by omega
  clear hc hx hr hn
  have q0 : W.cell? ⟨w.heap.size, 0, none⟩ = some (.bool true) := (zC g0 _).trans rfl
  have q1 : W.cell? ⟨w.heap.size, 1, none⟩ = some (.slice (some ⟨rb, off, none⟩) m.vals.length uc) := (zC g0 _).trans rfl
  have z0 := zF g1 0
  have z1 := zF g1 1
  have z2 := zF g1 2
  have y0 : W.cell? ⟨w.heap.size + 1, 0, none⟩ = some (.int .i64 0) := (zC g1 _).trans rfl
  have y1 : W.cell? ⟨w.heap.size + 1, 1, none⟩ = some (.int .i64 0) := (zC g1 _).trans rfl
  have y2 : W.cell? ⟨w.heap.size + 1, 2, none⟩ = some (.string ⟨#[]⟩) := (zC g1 _).trans rfl
  by_cases hk : x.kind = 0
  ·have HE : Hid (R = false) := by show _ = _; rw [zA HB, hk]; rfl
   rw [hk] at d0
   obtain ⟨s0, s1, s2⟩ := set3 g1 (.int .i64 0) (.int .i64 0) (.string ⟨#[]⟩)
   have HK := zB (hkW.fresh (by omega) (zK W (w.heap.size + 1) (.int .i64 0) (.int .i64 0) (.string ⟨#[]⟩)))
   clear HB g0 g1 hkW
   go_enter Tryz.func93, Tryz.ntmps93
   go_wp2_with fail
   refine bodyPost_ret (v := .tuple #[zV.v, .bool false]) (by simp [results, go_sem, zV, ValA.v, s0, s1, s2]) rfl ?_
   exact ⟨by rw [← zA HLV, zA HE]; rfl, zA HK⟩
  ·have HE : Hid (R = true) := by show _ = _; rw [zA HB, decide_eq_false hk]; rfl
   have hk' : (x.kind == 0) = false := by simpa using hk
   obtain ⟨s0, s1, s2⟩ := set3 g1 (.int .i64 x.kind) (.int .i64 x.n) (str x.s)
   have HK := zB (hkW.fresh (by omega) (zK W (w.heap.size + 1) (.int .i64 x.kind) (.int .i64 x.n) (str x.s)))
   clear HB g0 g1 hkW
   go_enter Tryz.func93, Tryz.ntmps93
   go_wp2_with fail
   refine bodyPost_ret (v := .tuple #[x.v, .bool true]) (by simp [results, go_sem, ValA.v, s0, s1, s2]) rfl ?_
   exact ⟨by rw [← zA HLV, zA HE]; rfl, zA HK⟩
theorem sinks20_v (S : List Wq) (sv u : Value) (s : Txt) (m : MS) (a : ValA) (w : World) (hS : Wt w sv S) (hr : Wr w u m.vals) (k : Nat) (hn : m.here = true → k < m.vals.length) (hl : m.vals.length ≤ 1024) :
  Calls Tryz.prog 63 #[.agg #[sv], .agg #[.int .i64 20, .int .i64 (k : Int), str s], .agg #[.bool m.here, u], a.v] w fun e w' => ∃ ro rc, e = .returned (.agg #[.bool (setR m k a).1, .slice ro (setR m k a).2.length rc]) ∧ Wr w' (.slice ro (setR m k a).2.length rc) (setR m k a).2 ∧ New w u (.slice ro (setR m k a).2.length rc) ∧ Wp (fun _ => False) w w' := by
 obtain ⟨so, sc, rfl⟩ := Ws.form hS
 obtain ⟨uo, uc, rfl⟩ := Ws.form hr
 obtain ⟨W, hW, hkW, g0, g1, g2, g3, g4⟩ := boxes5 w #[.slice so S.length sc] #[.int .i64 20, .int .i64 (k : Int), str s] #[.bool m.here, .slice uo m.vals.length uc] #[.int .i64 a.kind, .int .i64 a.n, str a.s] #[.bool false, .slice none 0 0] 24 60 27 51 27
 have HKA := zB hkW
 have HX := zB g4
 have HS := zB (hS.keepF hkW)
 have HR := zB (hr.keepF hkW)
 have p0 := cl1 g0
 obtain ⟨q0, q1, q2⟩ := cl3 g1
 obtain ⟨r0, r1⟩ := cl2 g2
 obtain ⟨v0, v1, v2⟩ := cl3 g3
 have hsz : w.heap.size + 1 + 1 + 1 + 1 < W.heap.size := zE g4
 have G1 := zB g1
 have G2 := zB g2
 have G3 := zB g3
 clear hkW g0 g1 g2 g3 g4 hS hr
 rw [show a.v = .agg #[.int .i64 a.kind, .int .i64 a.n, str a.s] from rfl]
 have HQ := zB (withR_v m (.slice uo m.vals.length uc) k a W (zA HR) hn hl)
 rw [show a.v = .agg #[.int .i64 a.kind, .int .i64 a.n, str a.s] from rfl] at HQ
 generalize setR m k a = R at *
 clear hn
 go_enter Tryz.func63, Tryz.ntmps63
 go_wp2_with fail
 refine (zA HQ).mono ?_
 rintro e w1 ⟨ro, rc, rfl, hv1, hn1, hk1⟩
 have HNW := zB (hn1.mono (zA HKA).size)
 clear hn1
 have h4 := zD (zA HX) hk1
 have HV := zB (vO hv1 h4 (off2 (by simp)) (keeps_set2 w1 (w.heap.size + 1 + 1 + 1 + 1) (.bool R.1) (.slice ro R.2.length rc)))
 have HK := zB (((zA HKA).trans hk1).fresh (by omega) (keeps_set2 w1 (w.heap.size + 1 + 1 + 1 + 1) (.bool R.1) (.slice ro R.2.length rc)))
 obtain ⟨y0, y1⟩ := cl2 h4
 obtain ⟨z0, z1⟩ := fz2 h4
 obtain ⟨s0, s1⟩ := set2c h4 (.bool R.1) (.slice ro R.2.length rc)
 clear hk1 hv1 h4
 go_wp2_with fail
 refine bodyPost_ret (v := .agg #[.bool R.1, .slice ro R.2.length rc]) (by simp [results, go_sem, s0, s1]) rfl ?_
 exact ⟨_, _, rfl, zA HV, zA HNW, zA HK⟩
theorem sinks22_v (S : List Wq) (sv u : Value) (s : Txt) (m : MS) (a : ValA) (w : World) (hS : Wt w sv S) (hr : Wr w u m.vals) (k : Nat) (hn : m.here = true → k < m.vals.length) (hl : m.vals.length ≤ 1024) :
  Calls Tryz.prog 63 #[.agg #[sv], .agg #[.int .i64 22, .int .i64 (k : Int), str s], .agg #[.bool m.here, u], a.v] w fun e w' => ∃ ro rc, e = .returned (.agg #[.bool (setR m k zV).1, .slice ro (setR m k zV).2.length rc]) ∧ Wr w' (.slice ro (setR m k zV).2.length rc) (setR m k zV).2 ∧ New w u (.slice ro (setR m k zV).2.length rc) ∧ Wp (fun _ => False) w w' := by
 obtain ⟨so, sc, rfl⟩ := Ws.form hS
 obtain ⟨uo, uc, rfl⟩ := Ws.form hr
 obtain ⟨W, hW, hkW, g0, g1, g2, g3, g4⟩ := boxes5 w #[.slice so S.length sc] #[.int .i64 22, .int .i64 (k : Int), str s] #[.bool m.here, .slice uo m.vals.length uc] #[.int .i64 a.kind, .int .i64 a.n, str a.s] #[.bool false, .slice none 0 0] 24 60 27 51 27
 have HKA := zB hkW
 have HX := zB g4
 have HS := zB (hS.keepF hkW)
 have HR := zB (hr.keepF hkW)
 have p0 := cl1 g0
 obtain ⟨q0, q1, q2⟩ := cl3 g1
 obtain ⟨r0, r1⟩ := cl2 g2
 obtain ⟨v0, v1, v2⟩ := cl3 g3
 have hsz : w.heap.size + 1 + 1 + 1 + 1 < W.heap.size := zE g4
 have G1 := zB g1
 have G2 := zB g2
 have G3 := zB g3
 clear hkW g0 g1 g2 g3 g4 hS hr
 rw [show a.v = .agg #[.int .i64 a.kind, .int .i64 a.n, str a.s] from rfl]
 have HQ := zB (withR_v m (.slice uo m.vals.length uc) k zV W (zA HR) hn hl)
 rw [show zV.v = .agg #[.int .i64 0, .int .i64 0, .string ⟨#[]⟩] from rfl] at HQ
 generalize setR m k zV = R at *
 clear hn
 go_enter Tryz.func63, Tryz.ntmps63
 go_wp2_with fail
 refine (zA HQ).mono ?_
 rintro e w1 ⟨ro, rc, rfl, hv1, hn1, hk1⟩
 have HNW := zB (hn1.mono (zA HKA).size)
 clear hn1
 have h4 := zD (zA HX) hk1
 have HV := zB (vO hv1 h4 (off2 (by simp)) (keeps_set2 w1 (w.heap.size + 1 + 1 + 1 + 1) (.bool R.1) (.slice ro R.2.length rc)))
 have HK := zB (((zA HKA).trans hk1).fresh (by omega) (keeps_set2 w1 (w.heap.size + 1 + 1 + 1 + 1) (.bool R.1) (.slice ro R.2.length rc)))
 obtain ⟨y0, y1⟩ := cl2 h4
 obtain ⟨z0, z1⟩ := fz2 h4
 obtain ⟨s0, s1⟩ := set2c h4 (.bool R.1) (.slice ro R.2.length rc)
 clear hk1 hv1 h4
 go_wp2_with fail
 refine bodyPost_ret (v := .agg #[.bool R.1, .slice ro R.2.length rc]) (by simp [results, go_sem, s0, s1]) rfl ?_
 exact ⟨_, _, rfl, zA HV, zA HNW, zA HK⟩
theorem sinks24_v (S : List Wq) (sv u : Value) (s : Txt) (m : MS) (a : ValA) (w : World) (hS : Wt w sv S) (hr : Wr w u m.vals) (n : Int) :
  Calls Tryz.prog 63 #[.agg #[sv], .agg #[.int .i64 24, .int .i64 n, str s], .agg #[.bool m.here, u], a.v] w fun e w' => ∃ ro rc, e = .returned (.agg #[.bool (((false, []) : Bool × List ValA)).1, .slice ro (((false, []) : Bool × List ValA)).2.length rc]) ∧ Wr w' (.slice ro (((false, []) : Bool × List ValA)).2.length rc) (((false, []) : Bool × List ValA)).2 ∧ New w u (.slice ro (((false, []) : Bool × List ValA)).2.length rc) ∧ Wp (fun _ => False) w w' := by
 obtain ⟨so, sc, rfl⟩ := Ws.form hS
 obtain ⟨uo, uc, rfl⟩ := Ws.form hr
 obtain ⟨W, hW, hkW, g0, g1, g2, g3, g4⟩ := boxes5 w #[.slice so S.length sc] #[.int .i64 24, .int .i64 n, str s] #[.bool m.here, .slice uo m.vals.length uc] #[.int .i64 a.kind, .int .i64 a.n, str a.s] #[.bool false, .slice none 0 0] 24 60 27 51 27
 have HKA := zB hkW
 have HX := zB g4
 have HS := zB (hS.keepF hkW)
 have HR := zB (hr.keepF hkW)
 have p0 := cl1 g0
 obtain ⟨q0, q1, q2⟩ := cl3 g1
 obtain ⟨r0, r1⟩ := cl2 g2
 obtain ⟨v0, v1, v2⟩ := cl3 g3
 have hsz : w.heap.size + 1 + 1 + 1 + 1 < W.heap.size := zE g4
 have G1 := zB g1
 have G2 := zB g2
 have G3 := zB g3
 clear hkW g0 g1 g2 g3 g4 hS hr
 rw [show a.v = .agg #[.int .i64 a.kind, .int .i64 a.n, str a.s] from rfl]
 obtain ⟨y0, y1⟩ := cl2 (zA HX)
 obtain ⟨z0, z1⟩ := fz2 (zA HX)
 obtain ⟨s0, s1⟩ := set2c (zA HX) (.bool false) (.slice none 0 0)
 have HK := zB ((zA HKA).fresh (by omega) (keeps_set2 W (w.heap.size + 1 + 1 + 1 + 1) (.bool false) (.slice none 0 0)))
 go_enter Tryz.func63, Tryz.ntmps63
 go_wp2_with fail
 refine bodyPost_ret (v := .agg #[.bool false, .slice none 0 0]) (by simp [results, go_sem, s0, s1]) rfl ?_
 exact ⟨none, 0, rfl, nil_vals _, Or.inr (fun q e => by cases e), zA HK⟩
theorem sinks23T_v (S : List Wq) (sv u : Value) (s : Txt) (m : MS) (a : ValA) (w : World) (hS : Wt w sv S) (hr : Wr w u m.vals) (n : Int) (hh : m.here = true) :
  Calls Tryz.prog 63 #[.agg #[sv], .agg #[.int .i64 23, .int .i64 n, str s], .agg #[.bool m.here, u], a.v] w fun e w' => ∃ ro rc, e = .returned (.agg #[.bool (((m.here, m.vals) : Bool × List ValA)).1, .slice ro (((m.here, m.vals) : Bool × List ValA)).2.length rc]) ∧ Wr w' (.slice ro (((m.here, m.vals) : Bool × List ValA)).2.length rc) (((m.here, m.vals) : Bool × List ValA)).2 ∧ New w u (.slice ro (((m.here, m.vals) : Bool × List ValA)).2.length rc) ∧ Wp (fun _ => False) w w' := by
 rw [hh]
 obtain ⟨so, sc, rfl⟩ := Ws.form hS
 obtain ⟨uo, uc, rfl⟩ := Ws.form hr
 obtain ⟨W, hW, hkW, g0, g1, g2, g3, g4⟩ := boxes5 w #[.slice so S.length sc] #[.int .i64 23, .int .i64 n, str s] #[.bool true, .slice uo m.vals.length uc] #[.int .i64 a.kind, .int .i64 a.n, str a.s] #[.bool false, .slice none 0 0] 24 60 27 51 27
 have HKA := zB hkW
 have HX := zB g4
 have HS := zB (hS.keepF hkW)
 have HR := zB (hr.keepF hkW)
 have p0 := cl1 g0
 obtain ⟨q0, q1, q2⟩ := cl3 g1
 obtain ⟨r0, r1⟩ := cl2 g2
 obtain ⟨v0, v1, v2⟩ := cl3 g3
 have hsz : w.heap.size + 1 + 1 + 1 + 1 < W.heap.size := zE g4
 have G1 := zB g1
 have G2 := zB g2
 have G3 := zB g3
 clear hkW g0 g1 g2 g3 g4 hS hr
 rw [show a.v = .agg #[.int .i64 a.kind, .int .i64 a.n, str a.s] from rfl]
 have HV := zB (vO (zA HR) (zA HX) (off2 (by simp)) (keeps_set2 W (w.heap.size + 1 + 1 + 1 + 1) (.bool true) (.slice uo m.vals.length uc)))
 have HK := zB ((zA HKA).fresh (by omega) (keeps_set2 W (w.heap.size + 1 + 1 + 1 + 1) (.bool true) (.slice uo m.vals.length uc)))
 obtain ⟨y0, y1⟩ := cl2 (zA HX)
 obtain ⟨z0, z1⟩ := fz2 (zA HX)
 obtain ⟨s0, s1⟩ := set2c (zA HX) (.bool true) (.slice uo m.vals.length uc)
 go_enter Tryz.func63, Tryz.ntmps63
 go_wp2_with fail
 refine bodyPost_ret (v := .agg #[.bool true, .slice uo m.vals.length uc]) (by simp [results, go_sem, s0, s1]) rfl ?_
 exact ⟨_, _, rfl, zA HV, Or.inl rfl, zA HK⟩
theorem sinks23F_v (S : List Wq) (sv u : Value) (s : Txt) (m : MS) (a : ValA) (w : World) (hS : Wt w sv S) (hr : Wr w u m.vals) (n : Int) (hh : m.here = false) (hs : errS S = 0) :
  Calls Tryz.prog 63 #[.agg #[sv], .agg #[.int .i64 23, .int .i64 n, str s], .agg #[.bool m.here, u], a.v] w fun e w' => ∃ ro rc, e = .returned (.agg #[.bool (((true, S.map zeroV) : Bool × List ValA)).1, .slice ro (((true, S.map zeroV) : Bool × List ValA)).2.length rc]) ∧ Wr w' (.slice ro (((true, S.map zeroV) : Bool × List ValA)).2.length rc) (((true, S.map zeroV) : Bool × List ValA)).2 ∧ New w u (.slice ro (((true, S.map zeroV) : Bool × List ValA)).2.length rc) ∧ Wp (fun _ => False) w w' := by
 rw [hh]
 obtain ⟨so, sc, rfl⟩ := Ws.form hS
 obtain ⟨uo, uc, rfl⟩ := Ws.form hr
 obtain ⟨W, hW, hkW, g0, g1, g2, g3, g4⟩ := boxes5 w #[.slice so S.length sc] #[.int .i64 23, .int .i64 n, str s] #[.bool false, .slice uo m.vals.length uc] #[.int .i64 a.kind, .int .i64 a.n, str a.s] #[.bool false, .slice none 0 0] 24 60 27 51 27
 have HKA := zB hkW
 have HX := zB g4
 have HS := zB (hS.keepF hkW)
 have HR := zB (hr.keepF hkW)
 have p0 := cl1 g0
 obtain ⟨q0, q1, q2⟩ := cl3 g1
 obtain ⟨r0, r1⟩ := cl2 g2
 obtain ⟨v0, v1, v2⟩ := cl3 g3
 have hsz : w.heap.size + 1 + 1 + 1 + 1 < W.heap.size := zE g4
 have G1 := zB g1
 have G2 := zB g2
 have G3 := zB g3
 clear hkW g0 g1 g2 g3 g4 hS hr
 rw [show a.v = .agg #[.int .i64 a.kind, .int .i64 a.n, str a.s] from rfl]
 have HQ := zB (zero_any S (.slice so S.length sc) W (zA HS))
 have hz : zeroB S = S.map zeroV := by
  unfold zeroB
  rcases errS_eq S with ⟨h, _⟩ | ⟨_, h⟩
  ·rw [if_pos h]; rfl
  ·rw [hs] at h; cases h
 rw [hz] at HQ
 generalize S.map zeroV = Z at *
 clear hz hs
 go_enter Tryz.func63, Tryz.ntmps63
 go_wp2_with fail
 refine (zA HQ).mono ?_
 rintro e w1 ⟨v', rfl, hown, hk1⟩
 have hv1 : Wr w1 v' Z := zG hown
 obtain ⟨ro, rc, rfl⟩ := Ws.form hv1
 have HNW : Hid (∀ q, (Value.slice ro Z.length rc).ownBlock = some q → w.heap.size ≤ q) := fun q e => Nat.le_trans (zA HKA).size (hown.lt q e).1
 have h4 := zD (zA HX) hk1
 have HV := zB (vO hv1 h4 (off2 (by simp)) (keeps_set2 w1 (w.heap.size + 1 + 1 + 1 + 1) (.bool true) (.slice ro Z.length rc)))
 have HK := zB (((zA HKA).trans hk1).fresh (by omega) (keeps_set2 w1 (w.heap.size + 1 + 1 + 1 + 1) (.bool true) (.slice ro Z.length rc)))
 obtain ⟨y0, y1⟩ := cl2 h4
 obtain ⟨z0, z1⟩ := fz2 h4
 obtain ⟨s0, s1⟩ := set2c h4 (.bool true) (.slice ro Z.length rc)
 clear hk1 hv1 h4 hown
 go_wp2_with fail
 refine bodyPost_ret (v := .agg #[.bool true, .slice ro Z.length rc]) (by simp [results, go_sem, s0, s1]) rfl ?_
 exact ⟨_, _, rfl, zA HV, Or.inr (zA HNW), zA HK⟩
theorem sinks21_v (S : List Wq) (sv u : Value) (s : Txt) (m : MS) (a : ValA) (w : World) (hS : Wt w sv S) (hr : Wr w u m.vals) (k : Nat) (hn : m.here = true → k < m.vals.length) (hl : m.vals.length ≤ 1024) :
  Calls Tryz.prog 63 #[.agg #[sv], .agg #[.int .i64 21, .int .i64 (k : Int), str s], .agg #[.bool m.here, u], a.v] w fun e w' => ∃ ro rc, e = .returned (.agg #[.bool (setR m k (numV (wrap64 ((if hasB m k then (m.vals[k]?).getD zV else zV).n + a.n)))).1, .slice ro (setR m k (numV (wrap64 ((if hasB m k then (m.vals[k]?).getD zV else zV).n + a.n)))).2.length rc]) ∧ Wr w' (.slice ro (setR m k (numV (wrap64 ((if hasB m k then (m.vals[k]?).getD zV else zV).n + a.n)))).2.length rc) (setR m k (numV (wrap64 ((if hasB m k then (m.vals[k]?).getD zV else zV).n + a.n)))).2 ∧ New w u (.slice ro (setR m k (numV (wrap64 ((if hasB m k then (m.vals[k]?).getD zV else zV).n + a.n)))).2.length rc) ∧ Wp (fun _ => False) w w' := by
 have HL0 : Hid (∀ W, Wr W u m.vals → Calls Tryz.prog 93 #[.agg #[.bool m.here, u], .int .i64 (k : Int)] W fun e w' => e = .returned (.tuple #[(if hasB m k then (m.vals[k]?).getD zV else zV).v, .bool (hasB m k)]) ∧ Wp (fun _ => False) W w') := fun W h => loadR_v m u k W h hn
 generalize (if hasB m k then (m.vals[k]?).getD zV else zV) = lv at *
 generalize hasB m k = HB at *
 obtain ⟨so, sc, rfl⟩ := Ws.form hS
 obtain ⟨uo, uc, rfl⟩ := Ws.form hr
 obtain ⟨W, hW, hkW, g0, g1, g2, g3, g4⟩ := boxes5 w #[.slice so S.length sc] #[.int .i64 21, .int .i64 (k : Int), str s] #[.bool m.here, .slice uo m.vals.length uc] #[.int .i64 a.kind, .int .i64 a.n, str a.s] #[.bool false, .slice none 0 0] 24 60 27 51 27
 have HKA := zB hkW
 have HX := zB g4
 have HS := zB (hS.keepF hkW)
 have HR := zB (hr.keepF hkW)
 have p0 := cl1 g0
 obtain ⟨q0, q1, q2⟩ := cl3 g1
 obtain ⟨r0, r1⟩ := cl2 g2
 obtain ⟨v0, v1, v2⟩ := cl3 g3
 have hsz : w.heap.size + 1 + 1 + 1 + 1 < W.heap.size := zE g4
 have G1 := zB g1
 have G2 := zB g2
 have G3 := zB g3
 clear hkW g0 g1 g2 g3 g4 hS hr
 rw [show a.v = .agg #[.int .i64 a.kind, .int .i64 a.n, str a.s] from rfl]
 have HL := zB ((zA HL0) W (zA HR))
 rw [show lv.v = .agg #[.int .i64 lv.kind, .int .i64 lv.n, str lv.s] from rfl] at HL
 have HQ := zB (fun (W1 : World) (h : Wp (fun _ => False) W W1) => withR_v m (.slice uo m.vals.length uc) k (numV (wrap64 (lv.n + a.n))) W1 ((zA HR).keepF h) hn hl)
 rw [show (numV (wrap64 (lv.n + a.n))).v = .agg #[.int .i64 1, .int .i64 (wrap64 (lv.n + a.n)), .string ⟨#[]⟩] from rfl] at HQ
 have HNV : Hid (∀ W1 : World, Calls Tryz.prog 91 #[.int .i64 (IntKind.i64.wrap (lv.n + a.n))] W1 fun e w' => e = .returned (.agg #[.int .i64 1, .int .i64 (wrap64 (lv.n + a.n)), .string ⟨#[]⟩]) ∧ Wp (fun _ => False) W1 w') := fun W1 => by rw [← wrap64_eq]; exact numR_v (wrap64 (lv.n + a.n)) W1
 generalize setR m k (numV (wrap64 (lv.n + a.n))) = R at *
 clear HL0 hn
 go_enter Tryz.func63, Tryz.ntmps63
 go_wp2_with fail
 refine (zA HL).mono ?_
 rintro e w1 ⟨rfl, hk1⟩
 have hN := heap_alloc_new w1 (.cells #[.int .i64 lv.kind, .int .i64 lv.n, str lv.s] 51)
 have kN := hk1.trans (kA w1 (.cells #[.int .i64 lv.kind, .int .i64 lv.n, str lv.s] 51))
 generalize hW1 : w1.alloc (.cells #[.int .i64 lv.kind, .int .i64 lv.n, str lv.s] 51) = W1 at *
 have hs1 : w1.heap.size < W1.heap.size := zE hN
 have h1 := zD (zA G1) kN
 have h2 := zD (zA G2) kN
 have h3 := zD (zA G3) kN
 have h4 := zD (zA HX) kN
 obtain ⟨qq0, qq1, qq2⟩ := cl3 h1
 obtain ⟨rr0, rr1⟩ := cl2 h2
 obtain ⟨vv0, vv1, vv2⟩ := cl3 h3
 obtain ⟨nn0, nn1, nn2⟩ := cl3 hN
 have HKN := zB kN
 have H4 := zB h4
 have HSK : Hid (∀ w', Wp (fun q => q = w.heap.size + 1 + 1 + 1 + 1) W1 w' → w'.cell? ⟨w.heap.size + 1 + 1, 0, none⟩ = some (.bool m.here) ∧ w'.cell? ⟨w.heap.size + 1 + 1, 1, none⟩ = some (.slice uo m.vals.length uc) ∧ w'.cell? ⟨w.heap.size + 1, 1, none⟩ = some (.int .i64 (k : Int)) ∧ w'.cell? ⟨w1.heap.size, 1, none⟩ = some (.int .i64 lv.n) ∧ w'.cell? ⟨w.heap.size + 1 + 1 + 1, 1, none⟩ = some (.int .i64 a.n)) := fun w' hk => by
  have hs := zE h4
  have hs4 : w.heap.size + 1 + 1 + 1 + 1 < w1.heap.size := zE (zD (zA HX) hk1)
  exact ⟨(hk.cell (by omega) (by omega)).trans rr0, (hk.cell (by omega) (by omega)).trans rr1, (hk.cell (by omega) (by omega)).trans qq1, (hk.cell (by omega) (by omega)).trans nn1, (hk.cell (by omega) (by omega)).trans vv1⟩
 have HKX := zB (Wp.refl (fun _ => False) W1)
 clear kN hk1 h1 h2 h3 h4 hN HL
 go_wp2_with fail
 go_region_held3 (fun w' => w'.cell? ⟨w.heap.size + 1 + 1, 0, none⟩ = some (.bool m.here) ∧ w'.cell? ⟨w.heap.size + 1 + 1, 1, none⟩ = some (.slice uo m.vals.length uc) ∧ w'.cell? ⟨w.heap.size + 1, 1, none⟩ = some (.int .i64 (k : Int)) ∧ w'.cell? ⟨w1.heap.size, 1, none⟩ = some (.int .i64 lv.n) ∧ w'.cell? ⟨w.heap.size + 1 + 1 + 1, 1, none⟩ = some (.int .i64 a.n))
  (first | with_reducible exact zA HSK _ (zA HKX).any | with_reducible exact zA HSK _ (zA HKX).drew.any | with_reducible exact zA HSK _ ((zA HKX).any.trans (keeps_set2 _ _ _ _)))
  ((first
  | (go_at_call 91; refine (zA HNV _).mono ?_; rintro e w2 ⟨rfl, hk⟩; have HKX := zB ((zA HKX).drew.trans hk); clear hk)
  | (go_at_call 96; refine (zA HQ _ ((zA HKN).trans (zA HKX))).mono ?_; rintro e w3 ⟨ro, rc, rfl, hv, hn3, hk⟩; have HNW := zB (hn3.mono (((zA HKA).trans (zA HKN)).trans (zA HKX)).size); have HKX := zB ((zA HKX).trans hk); have h4 := zD (zA H4) (zA HKX); have m0 := (zC h4 0).trans rfl; have m1 := (zC h4 1).trans rfl; have z0 := zF h4 0; have z1 := zF h4 1; have HV3 := zB hv; have HH4 := zB h4; clear hk hv h4 hn3)))
 go_wp2_with fail
 obtain ⟨s0, s1⟩ := set2c (zA HH4) (.bool R.1) (.slice ro R.2.length rc)
 refine bodyPost_ret (v := .agg #[.bool R.1, .slice ro R.2.length rc]) (by simp [results, go_sem, s0, s1]) rfl ?_
 exact ⟨_, _, rfl, vO (zA HV3) (zA HH4) (off2 (by simp)) (keeps_set2 w3 (w.heap.size + 1 + 1 + 1 + 1) (.bool R.1) (.slice ro R.2.length rc)), zA HNW, (((zA HKA).trans (zA HKN)).trans (zA HKX)).fresh (by omega) (keeps_set2 w3 (w.heap.size + 1 + 1 + 1 + 1) (.bool R.1) (.slice ro R.2.length rc))⟩
end Go.Proofs.YtbdlcaamanhapaaGreatDoor
namespace Go.Proofs.YtbdlcaamanhapaaGreatDoor
open Go.RowKit Go.Maps
theorem less_asym : ∀ (a b : Txt), Op.bytesLess a b = true → Op.bytesLess b a = false
 | [], [], h => by simp [Op.bytesLess] at h
 | [], _ :: _, _ => by simp [Op.bytesLess]
 | _ :: _, [], h => by simp [Op.bytesLess] at h
 | x :: a, y :: b, h => by
  simp only [Op.bytesLess, Bool.or_eq_true, Bool.and_eq_true, decide_eq_true_eq, beq_iff_eq] at h
  simp only [Op.bytesLess, Bool.or_eq_false_iff, Bool.and_eq_false_iff, decide_eq_false_iff_not, beq_eq_false_iff_ne]
  rcases h with h | ⟨rfl, h⟩
  ·refine ⟨fun q => ?_, Or.inl fun q => ?_⟩
   ·have h1 := UInt8.lt_iff_toNat_lt.1 h
    have h2 := UInt8.lt_iff_toNat_lt.1 q
    omega
   ·have h1 := UInt8.lt_iff_toNat_lt.1 h
    rw [q] at h1
    omega
  ·refine ⟨fun q => ?_, Or.inr (less_asym a b h)⟩
   have h2 := UInt8.lt_iff_toNat_lt.1 q
   omega
theorem less_tri : ∀ (a b : Txt), Op.bytesLess a b = false → Op.bytesLess b a = false → a = b
 | [], [], _, _ => rfl
 | [], _ :: _, h, _ => by simp [Op.bytesLess] at h
 | _ :: _, [], _, h => by simp [Op.bytesLess] at h
 | x :: a, y :: b, h, h' => by
  simp only [Op.bytesLess, Bool.or_eq_false_iff, Bool.and_eq_false_iff, decide_eq_false_iff_not, beq_eq_false_iff_ne] at h h'
  have hxy : x = y := by
   apply UInt8.toNat_inj.1
   have h1 : ¬ x.toNat < y.toNat := fun q => h.1 (UInt8.lt_iff_toNat_lt.2 q)
   have h2 : ¬ y.toNat < x.toNat := fun q => h'.1 (UInt8.lt_iff_toNat_lt.2 q)
   omega
  subst hxy
  have h1 := h.2.resolve_left (fun q => q rfl)
  have h2 := h'.2.resolve_left (fun q => q rfl)
  rw [less_tri a b h1 h2]
theorem less_irr (a : Txt) : Op.bytesLess a a = false := by
 cases h : Op.bytesLess a a with
 | false => rfl
 | true => have := less_asym a a h; rw [h] at this; cases this
def lessR (a b : ValA) : Bool := if a.kind = 3 then Op.bytesLess a.s b.s else decide (a.n < b.n)
theorem cmpT_lt (a b : Txt) : decide (cmpT a b < 0) = Op.bytesLess a b := by
 unfold cmpT
 cases h : Op.bytesLess a b with
 | true => rfl
 | false => by_cases q : a = b <;> simp [q]
theorem cmpT_le (a b : Txt) : decide (cmpT a b ≤ 0) = !Op.bytesLess b a := by
 unfold cmpT
 cases h : Op.bytesLess a b with
 | true => rw [less_asym a b h]; rfl
 | false =>
  by_cases q : a = b
  ·subst q; rw [less_irr]; simp
  ·cases h' : Op.bytesLess b a with
   | true => simp [q]
   | false => exact absurd (less_tri a b h h') q
theorem good_less {a b : ValA} (ha : goodV a) (hb : goodV b) (hk : a.kind = b.kind) : lessR a b = decide (ordV a b < 0) ∧ (!lessR b a) = decide (ordV a b ≤ 0) := by
 obtain ⟨k, n, s⟩ := a
 obtain ⟨k', n', s'⟩ := b
 simp only at hk
 subst hk
 unfold lessR ordV
 unfold goodV at ha hb
 simp only at ha hb ⊢
 by_cases h3 : k = 3
 ·subst h3
  have e1 : n = 0 := by omega
  have e2 : n' = 0 := by omega
  subst e1
  subst e2
  rw [if_pos rfl, if_pos rfl, if_pos (show cmpI 0 0 = 0 from rfl), cmpT_lt, cmpT_le]
  exact ⟨rfl, rfl⟩
 ·have e1 : s = [] := by rcases ha with h | h | h <;> simp_all
  have e2 : s' = [] := by rcases hb with h | h | h <;> simp_all
  subst e1
  subst e2
  rw [if_neg h3, if_neg h3]
  unfold cmpI
  have hT : cmpT ([] : Txt) [] = 0 := rfl
  constructor
  ·by_cases h1 : n < n'
   ·rw [if_pos h1]; simp [h1]
   ·by_cases h2 : n' < n
    ·rw [if_neg h1, if_pos h2]; simp [h1]
    ·rw [if_neg h1, if_neg h2]; simp [h1, hT]
  ·by_cases h1 : n < n'
   ·rw [if_pos h1]; simp; omega
   ·by_cases h2 : n' < n
    ·rw [if_neg h1, if_pos h2]; simp [h2]
    ·rw [if_neg h1, if_neg h2]; simp [h2, hT]
theorem less_step {a b : Txt} {k : Nat} {x y : UInt8} (ha : a[k]? = some x) (hb : b[k]? = some y) : Op.bytesLess (a.drop k) (b.drop k) = (decide (x < y) || (x == y && Op.bytesLess (a.drop (k + 1)) (b.drop (k + 1)))) := by
 obtain ⟨h1, e1⟩ := List.getElem?_eq_some_iff.1 ha
 obtain ⟨h2, e2⟩ := List.getElem?_eq_some_iff.1 hb
 rw [List.drop_eq_getElem_cons h1, List.drop_eq_getElem_cons h2, e1, e2]
 rfl
theorem less_end {a b : Txt} {k : Nat} (h : a.length ≤ k ∨ b.length ≤ k) (hk : k ≤ a.length ∧ k ≤ b.length) : Op.bytesLess (a.drop k) (b.drop k) = decide (a.length < b.length) := by
 rcases h with h | h
 ·rw [List.drop_eq_nil_of_le h]
  cases q : b.drop k with
  | nil => have := List.drop_eq_nil_iff.1 q; simp [Op.bytesLess]; omega
  | cons y t => have := congrArg List.length q; simp at this; simp [Op.bytesLess]; omega
 ·rw [List.drop_eq_nil_of_le h]
  cases q : a.drop k with
  | nil => have := List.drop_eq_nil_iff.1 q; simp [Op.bytesLess]; omega
  | cons y t => simp [Op.bytesLess]; omega
end Go.Proofs.YtbdlcaamanhapaaGreatDoor
