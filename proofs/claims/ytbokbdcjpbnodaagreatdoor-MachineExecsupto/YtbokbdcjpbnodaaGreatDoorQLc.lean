import Derived.Test.YtbokbdcjpbnodaaGreatDoorQLa
import Derived.Test.YtbokbdcjpbnodaaGreatDoorQJt
import Derived.Test.YtbokbdcjpbnodaaGreatDoorQKb
import Derived.Test.YtbokbdcjpbnodaaGreatDoorQKf
import Derived.Test.YtbokbdcjpbnodaaGreatDoorQJc
import Derived.Test.YtbokbdcjpbnodaaGreatDoorQLb
import Derived.Deep.RegionLaw
import Derived.Deep.AppendLies
import Derived.Deep.RegionHeld3
import Derived.Test.YtbokbdcjpbnodaaGreatDoorQJu
namespace Go.Proofs.YtbokbdcjpbnodaaGreatDoor
open Go.RowKit Go.Maps
set_option maxRecDepth 100000
set_option maxHeartbeats 2000000
theorem withR_v (m : MS) (u : Value) (n : Nat) (v : ValA) (w : World) (hr : ValsAt w u m.vals) (hn : m.here = true → n < m.vals.length) (hl : m.vals.length ≤ 1024) :
  Calls Tryz.prog 138 #[.agg #[.bool m.here, u], .int .i64 (n : Int), v.v] w fun e w' => ∃ ro rc, e = .returned (.agg #[.bool (setR m n v).1, .slice ro (setR m n v).2.length rc]) ∧ ValsAt w' (.slice ro (setR m n v).2.length rc) (setR m n v).2 ∧ New w u (.slice ro (setR m n v).2.length rc) ∧ Keeps (fun _ => False) w w' := by
 obtain ⟨uo, uc, rfl⟩ := RowAt.form hr
 rw [show v.v = .agg #[.int .i64 v.kind, .int .i64 v.n, str v.s] from rfl]
 cases hh : m.here with
 | false =>
  have HR : Hid (setR m n v = (false, m.vals)) := by show _ = _; unfold setR; rw [hh]; rfl
  rw [uh HR]
  obtain ⟨W, hW, hkW, g0, g1, g2⟩ := boxes3 w #[.bool false, .slice uo m.vals.length uc] #[.int .i64 v.kind, .int .i64 v.n, str v.s] #[.bool false, .slice none 0 0] 28 74 28
  obtain ⟨q0, q1⟩ := cl2 g0
  obtain ⟨z0, z1⟩ := fz2 g2
  obtain ⟨y0, y1⟩ := cl2 g2
  obtain ⟨s0, s1⟩ := set2c g2 (.bool false) (.slice uo m.vals.length uc)
  have HK := hide (hkW.fresh (by omega) (keeps_set2 W (w.heap.size + 1 + 1) (.bool false) (.slice uo m.vals.length uc)))
  have HV := hide (hr.keepF (uh HK))
  clear g0 g1 g2 hkW hn hr
  go_enter Tryz.func138, Tryz.ntmps138
  go_wp2_with fail
  refine bodyPost_ret (v := .agg #[.bool false, .slice uo m.vals.length uc]) (by simp [results, go_sem, s0, s1]) rfl ?_
  exact ⟨_, _, rfl, uh HV, Or.inl rfl, uh HK⟩
 | true =>
  have hlt := hn hh
  have HR : Hid (setR m n v = (true, m.vals.set n v)) := by show _ = _; unfold setR; rw [hh]; rfl
  rw [uh HR]
  obtain ⟨W, hW, hkW, g0, g1, g2⟩ := boxes3 w #[.bool true, .slice uo m.vals.length uc] #[.int .i64 v.kind, .int .i64 v.n, str v.s] #[.bool false, .slice none 0 0] 28 74 28
  have HQ := hide (copyVals_any W _ m.vals (hr.keepF hkW) (by omega))
  obtain ⟨q0, q1⟩ := cl2 g0
  have G0 := hide g0
  have G1 := hide g1
  have G2 := hide g2
  have HKW := hide hkW
  clear g0 g1 g2 hkW hn hr
  go_enter Tryz.func138, Tryz.ntmps138
  go_wp2_with fail
  refine (uh HQ).mono ?_
  rintro e w1 ⟨v', rfl, hown, hk1⟩
  have h1 := blk_keep (uh G1) hk1
  have h2 := blk_keep (uh G2) hk1
  obtain ⟨c0, c1, c2⟩ := cl3 h1
  obtain ⟨y0, y1⟩ := cl2 h2
  obtain ⟨z0, z1⟩ := fz2 h2
  have HK1 := hide ((uh HKW).trans hk1)
  obtain ⟨g, cap, cur, e, hg, hgb⟩ : ∃ g cap cur, v' = .slice (some ⟨g, 0, none⟩) m.vals.length cap ∧ W.heap.size ≤ g ∧ w1.heap[g]? = some (.cells cur 74 (0, 0)) := by
   rcases hown.2 with ⟨_, h0⟩ | ⟨g, cap, cur, a1, a2, a3, _⟩
   ·omega
   ·exact ⟨g, cap, cur, a1, a2, a3⟩
  have HS := hide (own_set3 hown e hlt v)
  subst e
  have hvals : ValsAt w1 (.slice (some ⟨g, 0, none⟩) m.vals.length cap) m.vals := rowAt_own hown
  obtain ⟨g', off', cap', e', hgl, hc⟩ := hvals.cells (by omega)
  simp only [Value.slice.injEq, Option.some.injEq, Addr.mk.injEq, and_true, true_and] at e'
  obtain ⟨⟨rfl, rfl⟩, rfl⟩ := e'
  obtain ⟨x, hx⟩ : ∃ x, m.vals[n]? = some x := ⟨_, List.getElem?_eq_getElem hlt⟩
  have d0 := (hc n x hx).1
  have d1 := (hc n x hx).2.1
  have d2 := (hc n x hx).2.2
  simp only [Nat.zero_add] at d0 d1 d2
  have f0 := frozen_of_blk hgb (n * 3)
  have f1 := frozen_of_blk hgb (n * 3 + 1)
  have f2 := frozen_of_blk hgb (n * 3 + 2)
  have i0 : (0 : Int) ≤ (n : Int) := by omega
  have i1 : (n : Int) < (m.vals.length : Int) := by omega
  have hb2 : w.heap.size + 1 + 1 < W.heap.size := lt_of_block (uh G2)
  have hnew : w.heap.size ≤ g := by omega
  have hgne : ¬ g = w.heap.size + 1 + 1 := by omega
  have HGB := hide hgb
  have HH2 := hide h2
  have HG := hide hg
  have hsz1 : w.heap.size + 1 + 1 < w1.heap.size := lt_of_block h2
  have l1 : w.heap.size + 1 < w1.heap.size := by omega
  clear hown hvals hc hx hk1 HQ h1 h2 hgb
  go_wp2_with fail
  have k3 := keeps_at3 w1 g (n * 3) (n * 3 + 1) (n * 3 + 2) (.int .i64 v.kind) (.int .i64 v.n) (str v.s)
  have hX3 := (k3.block _ hsz1 (fun q => hgne q.symm)).trans (uh HH2)
  obtain ⟨s0, s1⟩ := set2c hX3 (.bool true) (.slice (some ⟨g, 0, none⟩) m.vals.length cap)
  refine bodyPost_ret (v := .agg #[.bool true, .slice (some ⟨g, 0, none⟩) m.vals.length cap]) (by simp [results, go_sem, s0, s1]) rfl ?_
  refine ⟨some ⟨g, 0, none⟩, cap, by rw [List.length_set], ?_, Or.inr (fun q e => by simp [Value.ownBlock] at e; omega), ?_⟩
  ·have hv := RowAt.kept (rowAt_own (uh HS)) (keeps_set2 _ (w.heap.size + 1 + 1) (.bool true) (.slice (some ⟨g, 0, none⟩) m.vals.length cap)) (fun q e h => by simp [Value.ownBlock] at e; omega)
   rw [List.length_set] at hv ⊢
   show RowAt _ _ _ _
   rw [List.length_set]
   exact hv
  ·have := uh HG
   exact ((uh HK1).fresh (by omega) k3).fresh (by omega) (keeps_set2 _ (w.heap.size + 1 + 1) (.bool true) (.slice (some ⟨g, 0, none⟩) m.vals.length cap))
end Go.Proofs.YtbokbdcjpbnodaaGreatDoor
namespace Go.Proofs.YtbokbdcjpbnodaaGreatDoor
open Go.RowKit Go.Maps
set_option maxRecDepth 100000
set_option maxHeartbeats 2000000
theorem vals_off {w w' : World} {v : Value} {l : List ValA} {b : Nat} {cs : Array Value} {t : TypeId} {fr : Nat × Nat} (h : ValsAt w v l) (hb : w.heap[b]? = some (.cells cs t fr)) (hcs : ∀ (i : Nat) (a n : Int) (s : Txt), cs[i]? = some (.int .i64 a) → cs[i + 1]? = some (.int .i64 n) → cs[i + 2]? = some (str s) → False) (hk : Keeps (fun q => q = b) w w') : ValsAt w' v l := by
 cases l with
 | nil => exact valsAt_nil h
 | cons x r =>
  obtain ⟨g, off, cap, e, hg, hc⟩ := h.cells (by simp)
  have c := hc 0 x rfl
  refine RowAt.kept h hk (fun q eq hq => ?_)
  rw [e] at eq
  simp only [Value.ownBlock, Option.some.injEq] at eq
  subst eq
  subst hq
  simp only [Nat.zero_mul, Nat.add_zero] at c
  exact hcs off x.kind x.n x.s ((cell_of_blk hb off).symm.trans c.1) ((cell_of_blk hb (off + 1)).symm.trans c.2.1) ((cell_of_blk hb (off + 2)).symm.trans c.2.2)
theorem off2 {b : Bool} {y : Value} (hy : ∀ n, y ≠ .int .i64 n) (i : Nat) (a n : Int) (s : Txt) (h1 : (#[.bool b, y] : Array Value)[i]? = some (.int .i64 a)) (h2 : (#[.bool b, y] : Array Value)[i + 1]? = some (.int .i64 n)) (h3 : (#[.bool b, y] : Array Value)[i + 2]? = some (str s)) : False := by
 rcases i with _ | _ | i
 ·simp at h1
 ·simp at h1; exact hy _ h1
 ·simp at h1
theorem boxes5 (w : World) (a b c d f : Array Value) (ta tb tc td tf : TypeId) : ∃ W, ((((w.alloc (.cells a ta)).alloc (.cells b tb)).alloc (.cells c tc)).alloc (.cells d td)).alloc (.cells f tf) = W ∧ Keeps (fun _ => False) w W ∧ W.heap[w.heap.size]? = some (.cells a ta (0, 0)) ∧ W.heap[w.heap.size + 1]? = some (.cells b tb (0, 0)) ∧ W.heap[w.heap.size + 1 + 1]? = some (.cells c tc (0, 0)) ∧ W.heap[w.heap.size + 1 + 1 + 1]? = some (.cells d td (0, 0)) ∧ W.heap[w.heap.size + 1 + 1 + 1 + 1]? = some (.cells f tf (0, 0)) := by
 obtain ⟨W, hW, hk, g0, g1, g2, g3⟩ := boxes4 w a b c d ta tb tc td
 have hs : W.heap.size = w.heap.size + 1 + 1 + 1 + 1 := by rw [← hW]; simp
 have k := kAlloc W (.cells f tf)
 have g4 := heap_alloc_new W (.cells f tf)
 rw [hs] at g4
 exact ⟨_, by rw [hW], hk.trans k, blk_keep g0 k, blk_keep g1 k, blk_keep g2 k, blk_keep g3 k, g4⟩
theorem zero_any (l : List FieldA) (v : Value) (w : World) (h : FldsAt w v l) :
  Calls Tryz.prog 139 #[.agg #[v]] w fun e w' => ∃ v', e = .returned v' ∧ w'.ownsRow w.heap.size 74 3 v' (zeroB l).length (vcs (zeroB l)) ∧ Keeps (fun _ => False) w w' := by
 obtain ⟨i0, hi, hz0, hz1, hz2⟩ := info_parts Tryz.info74
 obtain ⟨ao, cap, rfl⟩ := RowAt.form h
 obtain ⟨HB, hb, hbc⟩ := boxed w #[.slice ao l.length cap] 24
 have hp := hbc 0 (.slice ao l.length cap) rfl
 have HF := hide (h.keepF (uh HB))
 have HS := hide (checkSchema_any l _ _ (uh HF))
 clear hbc h
 go_enter Tryz.func139, Tryz.ntmps139
 go_wp2_with fail
 refine (uh HS).mono ?_
 rintro e w2 ⟨rfl, hk2⟩
 have hp2 := (hk2.cell (o := 0) hb id).trans hp
 have hb2 := Nat.lt_of_lt_of_le hb hk2.size
 have HF2 := hide ((uh HF).keepF hk2)
 have HB2 := hide ((uh HB).trans hk2)
 clear HS HF HB hk2 hp hb
 generalize w.alloc (.cells #[.slice ao l.length cap] 24) = w1 at *
 have hsb : w.heap.size < w2.heap.size := hb2
 rcases errS_eq l with ⟨hs, he⟩ | ⟨hs, he⟩
 ·rw [he]
  have hl8 := (schemaB_len hs).2
  have HZ : Hid (zeroB l = zeros l) := by show _ = _; simp [zeroB, hs]
  clear hs he
  go_wp2_with fail
  go_loopw [3, 5] (fun o i wr => ∃ k : Nat, k ≤ l.length ∧ i = .int .i64 k ∧ wr.ownsRow w2.heap.size 74 3 o k (vcs (zeros (l.take k))) ∧ Keeps (fun _ => False) w2 wr) (fun _ i _ => l.length - (intOf i).toNat)
  case atStart => exact ⟨0, Nat.zero_le _, rfl, by simpa [vcs, zeros] using World.ownsRow_nil w2 w2.heap.size 74 3, Keeps.refl _ _⟩
  case round =>
   obtain ⟨k, hk, rfl, hown, hkp⟩ := hrel
   have HO := hide hown
   have HK := hide hkp
   have p0 := (hkp.cell (o := 0) hb2 id).trans hp2
   by_cases hlt : k < l.length
   ·obtain ⟨b, off, c, e1, hblt, hc⟩ := (uh HF2).cells (by omega)
    simp at e1
    obtain ⟨rfl, rfl⟩ := e1
    obtain ⟨x, hx⟩ : ∃ x, l[k]? = some x := ⟨_, List.getElem?_eq_getElem hlt⟩
    have c0 := (hkp.cell hblt id).trans (hc k x hx).1
    have c1 := (hkp.cell hblt id).trans (hc k x hx).2.1
    have c2 := (hkp.cell hblt id).trans (hc k x hx).2.2
    have HX := hide hx
    have i1 : (k : Int) < (l.length : Int) := by omega
    have HQ := hide (zeroOf_any x wr)
    unfold FieldA.v at HQ
    clear hc hx hown hkp
    go_wp2_with fail
    refine (uh HQ).mono ?_
    rintro e w4 ⟨rfl, hk4⟩
    have HZ1 : Hid (zeros (l.take (k + 1)) = zeros (l.take k) ++ [zeroV x]) := by show _ = _; rw [take_snoc _ _ _ (uh HX), zeros_snoc]
    generalize zeroV x = z at *
    have HO4 : Hid (w4.ownsRow w2.heap.size 74 3 u3 k (vcs (zeros (l.take k)))) := ownsRow_kept (uh HO) hk4 (fun _ _ => id)
    have HK4 := hide ((uh HK).trans hk4)
    have s4 : w2.heap.size ≤ w4.heap.size := (uh HK4).size
    clear hk4 HQ c0 c1 c2 p0
    unfold ValA.v
    go_wp2_with (at_builtin; refine wpList_append_lies _ rfl _ _ _ rfl w2.heap.size 74 i0 _ 3 32 Tryz.underlying26 hi hz0 hz1 hz2 rfl (by omega) u3 k (vcs (zeros (l.take k))) rfl (((uh HO4).alloc _).alloc _) ⟨w4.heap.size + 1, 0, none⟩ 1 1 z.cs rfl rfl (World.news_of_block (cs := #[.int .i64 z.kind, .int .i64 z.n, str z.s]) (t := 74) (fr := (0, 0)) (by have q := heap_alloc_new (w4.alloc (.cells #[.int .i64 z.kind, .int .i64 z.n, str z.s] 74)) (.cells #[.int .i64 z.kind, .int .i64 z.n, str z.s] 74); rw [World.size_alloc] at q; exact q)) (by simp [Value.oneCell', ValA.cs]) (by omega) (by unfold maxLen; omega) (by omega) (by simp; omega) (w4.heap.size + 2) (by simp) ?_; intro g cap w5 hown1 hgrow hat hlt1)
    go_roundw
    case rel =>
     refine ⟨k + 1, by omega, by go_num, ?_, (((uh HK4).alloc _).alloc _).grown hgrow (fun q e hq => by have := ((uh HO4).lt q e).1; omega)⟩
     rw [uh HZ1, vcs_snoc]
     exact hown1
    case measure => simp [intOf]; omega
   ·clear hown hkp
    go_wp2
    go_ret
    obtain rfl : k = l.length := by omega
    refine ⟨_, rfl, ?_, (uh HB2).trans (uh HK)⟩
    have := uh HO
    rw [List.take_length] at this
    rw [uh HZ, zeros_length]
    exact ownsRow_lower this (uh HB2).size
 ·rw [he]
  have HZ : Hid (zeroB l = []) := by show _ = _; simp [zeroB, hs]
  clear hs he
  go_wp2_with fail
  go_ret
  refine ⟨_, rfl, ?_, uh HB2⟩
  rw [uh HZ]
  exact World.ownsRow_nil w2 w.heap.size 74 3
end Go.Proofs.YtbokbdcjpbnodaaGreatDoor
namespace Go.Proofs.YtbokbdcjpbnodaaGreatDoor
open Go.RowKit Go.Maps
set_option maxRecDepth 100000
set_option maxHeartbeats 2000000
theorem sinks20_v (S : List FieldA) (sv u : Value) (s : Txt) (m : MS) (a : ValA) (w : World) (hS : FldsAt w sv S) (hr : ValsAt w u m.vals) (k : Nat) (hn : m.here = true → k < m.vals.length) (hl : m.vals.length ≤ 1024) :
  Calls Tryz.prog 103 #[.agg #[sv], .agg #[.int .i64 20, .int .i64 (k : Int), str s], .agg #[.bool m.here, u], a.v] w fun e w' => ∃ ro rc, e = .returned (.agg #[.bool (setR m k a).1, .slice ro (setR m k a).2.length rc]) ∧ ValsAt w' (.slice ro (setR m k a).2.length rc) (setR m k a).2 ∧ New w u (.slice ro (setR m k a).2.length rc) ∧ Keeps (fun _ => False) w w' := by
 obtain ⟨so, sc, rfl⟩ := RowAt.form hS
 obtain ⟨uo, uc, rfl⟩ := RowAt.form hr
 obtain ⟨W, hW, hkW, g0, g1, g2, g3, g4⟩ := boxes5 w #[.slice so S.length sc] #[.int .i64 20, .int .i64 (k : Int), str s] #[.bool m.here, .slice uo m.vals.length uc] #[.int .i64 a.kind, .int .i64 a.n, str a.s] #[.bool false, .slice none 0 0] 24 106 28 74 28
 have HKA := hide hkW
 have HX := hide g4
 have HS := hide (hS.keepF hkW)
 have HR := hide (hr.keepF hkW)
 have p0 := cl1 g0
 obtain ⟨q0, q1, q2⟩ := cl3 g1
 obtain ⟨r0, r1⟩ := cl2 g2
 obtain ⟨v0, v1, v2⟩ := cl3 g3
 have hsz : w.heap.size + 1 + 1 + 1 + 1 < W.heap.size := lt_of_block g4
 have G1 := hide g1
 have G2 := hide g2
 have G3 := hide g3
 clear hkW g0 g1 g2 g3 g4 hS hr
 rw [show a.v = .agg #[.int .i64 a.kind, .int .i64 a.n, str a.s] from rfl]
 have HQ := hide (withR_v m (.slice uo m.vals.length uc) k a W (uh HR) hn hl)
 rw [show a.v = .agg #[.int .i64 a.kind, .int .i64 a.n, str a.s] from rfl] at HQ
 generalize setR m k a = R at *
 clear hn
 go_enter Tryz.func103, Tryz.ntmps103
 go_wp2_with fail
 refine (uh HQ).mono ?_
 rintro e w1 ⟨ro, rc, rfl, hv1, hn1, hk1⟩
 have HNW := hide (hn1.mono (uh HKA).size)
 clear hn1
 have h4 := blk_keep (uh HX) hk1
 have HV := hide (vals_off hv1 h4 (off2 (by simp)) (keeps_set2 w1 (w.heap.size + 1 + 1 + 1 + 1) (.bool R.1) (.slice ro R.2.length rc)))
 have HK := hide (((uh HKA).trans hk1).fresh (by omega) (keeps_set2 w1 (w.heap.size + 1 + 1 + 1 + 1) (.bool R.1) (.slice ro R.2.length rc)))
 obtain ⟨y0, y1⟩ := cl2 h4
 obtain ⟨z0, z1⟩ := fz2 h4
 obtain ⟨s0, s1⟩ := set2c h4 (.bool R.1) (.slice ro R.2.length rc)
 clear hk1 hv1 h4
 go_wp2_with fail
 refine bodyPost_ret (v := .agg #[.bool R.1, .slice ro R.2.length rc]) (by simp [results, go_sem, s0, s1]) rfl ?_
 exact ⟨_, _, rfl, uh HV, uh HNW, uh HK⟩
theorem sinks22_v (S : List FieldA) (sv u : Value) (s : Txt) (m : MS) (a : ValA) (w : World) (hS : FldsAt w sv S) (hr : ValsAt w u m.vals) (k : Nat) (hn : m.here = true → k < m.vals.length) (hl : m.vals.length ≤ 1024) :
  Calls Tryz.prog 103 #[.agg #[sv], .agg #[.int .i64 22, .int .i64 (k : Int), str s], .agg #[.bool m.here, u], a.v] w fun e w' => ∃ ro rc, e = .returned (.agg #[.bool (setR m k zV).1, .slice ro (setR m k zV).2.length rc]) ∧ ValsAt w' (.slice ro (setR m k zV).2.length rc) (setR m k zV).2 ∧ New w u (.slice ro (setR m k zV).2.length rc) ∧ Keeps (fun _ => False) w w' := by
 obtain ⟨so, sc, rfl⟩ := RowAt.form hS
 obtain ⟨uo, uc, rfl⟩ := RowAt.form hr
 obtain ⟨W, hW, hkW, g0, g1, g2, g3, g4⟩ := boxes5 w #[.slice so S.length sc] #[.int .i64 22, .int .i64 (k : Int), str s] #[.bool m.here, .slice uo m.vals.length uc] #[.int .i64 a.kind, .int .i64 a.n, str a.s] #[.bool false, .slice none 0 0] 24 106 28 74 28
 have HKA := hide hkW
 have HX := hide g4
 have HS := hide (hS.keepF hkW)
 have HR := hide (hr.keepF hkW)
 have p0 := cl1 g0
 obtain ⟨q0, q1, q2⟩ := cl3 g1
 obtain ⟨r0, r1⟩ := cl2 g2
 obtain ⟨v0, v1, v2⟩ := cl3 g3
 have hsz : w.heap.size + 1 + 1 + 1 + 1 < W.heap.size := lt_of_block g4
 have G1 := hide g1
 have G2 := hide g2
 have G3 := hide g3
 clear hkW g0 g1 g2 g3 g4 hS hr
 rw [show a.v = .agg #[.int .i64 a.kind, .int .i64 a.n, str a.s] from rfl]
 have HQ := hide (withR_v m (.slice uo m.vals.length uc) k zV W (uh HR) hn hl)
 rw [show zV.v = .agg #[.int .i64 0, .int .i64 0, .string ⟨#[]⟩] from rfl] at HQ
 generalize setR m k zV = R at *
 clear hn
 go_enter Tryz.func103, Tryz.ntmps103
 go_wp2_with fail
 refine (uh HQ).mono ?_
 rintro e w1 ⟨ro, rc, rfl, hv1, hn1, hk1⟩
 have HNW := hide (hn1.mono (uh HKA).size)
 clear hn1
 have h4 := blk_keep (uh HX) hk1
 have HV := hide (vals_off hv1 h4 (off2 (by simp)) (keeps_set2 w1 (w.heap.size + 1 + 1 + 1 + 1) (.bool R.1) (.slice ro R.2.length rc)))
 have HK := hide (((uh HKA).trans hk1).fresh (by omega) (keeps_set2 w1 (w.heap.size + 1 + 1 + 1 + 1) (.bool R.1) (.slice ro R.2.length rc)))
 obtain ⟨y0, y1⟩ := cl2 h4
 obtain ⟨z0, z1⟩ := fz2 h4
 obtain ⟨s0, s1⟩ := set2c h4 (.bool R.1) (.slice ro R.2.length rc)
 clear hk1 hv1 h4
 go_wp2_with fail
 refine bodyPost_ret (v := .agg #[.bool R.1, .slice ro R.2.length rc]) (by simp [results, go_sem, s0, s1]) rfl ?_
 exact ⟨_, _, rfl, uh HV, uh HNW, uh HK⟩
theorem sinks24_v (S : List FieldA) (sv u : Value) (s : Txt) (m : MS) (a : ValA) (w : World) (hS : FldsAt w sv S) (hr : ValsAt w u m.vals) (n : Int) :
  Calls Tryz.prog 103 #[.agg #[sv], .agg #[.int .i64 24, .int .i64 n, str s], .agg #[.bool m.here, u], a.v] w fun e w' => ∃ ro rc, e = .returned (.agg #[.bool (((false, []) : Bool × List ValA)).1, .slice ro (((false, []) : Bool × List ValA)).2.length rc]) ∧ ValsAt w' (.slice ro (((false, []) : Bool × List ValA)).2.length rc) (((false, []) : Bool × List ValA)).2 ∧ New w u (.slice ro (((false, []) : Bool × List ValA)).2.length rc) ∧ Keeps (fun _ => False) w w' := by
 obtain ⟨so, sc, rfl⟩ := RowAt.form hS
 obtain ⟨uo, uc, rfl⟩ := RowAt.form hr
 obtain ⟨W, hW, hkW, g0, g1, g2, g3, g4⟩ := boxes5 w #[.slice so S.length sc] #[.int .i64 24, .int .i64 n, str s] #[.bool m.here, .slice uo m.vals.length uc] #[.int .i64 a.kind, .int .i64 a.n, str a.s] #[.bool false, .slice none 0 0] 24 106 28 74 28
 have HKA := hide hkW
 have HX := hide g4
 have HS := hide (hS.keepF hkW)
 have HR := hide (hr.keepF hkW)
 have p0 := cl1 g0
 obtain ⟨q0, q1, q2⟩ := cl3 g1
 obtain ⟨r0, r1⟩ := cl2 g2
 obtain ⟨v0, v1, v2⟩ := cl3 g3
 have hsz : w.heap.size + 1 + 1 + 1 + 1 < W.heap.size := lt_of_block g4
 have G1 := hide g1
 have G2 := hide g2
 have G3 := hide g3
 clear hkW g0 g1 g2 g3 g4 hS hr
 rw [show a.v = .agg #[.int .i64 a.kind, .int .i64 a.n, str a.s] from rfl]
 obtain ⟨y0, y1⟩ := cl2 (uh HX)
 obtain ⟨z0, z1⟩ := fz2 (uh HX)
 obtain ⟨s0, s1⟩ := set2c (uh HX) (.bool false) (.slice none 0 0)
 have HK := hide ((uh HKA).fresh (by omega) (keeps_set2 W (w.heap.size + 1 + 1 + 1 + 1) (.bool false) (.slice none 0 0)))
 go_enter Tryz.func103, Tryz.ntmps103
 go_wp2_with fail
 refine bodyPost_ret (v := .agg #[.bool false, .slice none 0 0]) (by simp [results, go_sem, s0, s1]) rfl ?_
 exact ⟨none, 0, rfl, nil_vals _, Or.inr (fun q e => by cases e), uh HK⟩
end Go.Proofs.YtbokbdcjpbnodaaGreatDoor
namespace Go.Proofs.YtbokbdcjpbnodaaGreatDoor
open Go.RowKit Go.Maps
set_option maxRecDepth 100000
set_option maxHeartbeats 2000000
theorem sinks23T_v (S : List FieldA) (sv u : Value) (s : Txt) (m : MS) (a : ValA) (w : World) (hS : FldsAt w sv S) (hr : ValsAt w u m.vals) (n : Int) (hh : m.here = true) :
  Calls Tryz.prog 103 #[.agg #[sv], .agg #[.int .i64 23, .int .i64 n, str s], .agg #[.bool m.here, u], a.v] w fun e w' => ∃ ro rc, e = .returned (.agg #[.bool (((m.here, m.vals) : Bool × List ValA)).1, .slice ro (((m.here, m.vals) : Bool × List ValA)).2.length rc]) ∧ ValsAt w' (.slice ro (((m.here, m.vals) : Bool × List ValA)).2.length rc) (((m.here, m.vals) : Bool × List ValA)).2 ∧ New w u (.slice ro (((m.here, m.vals) : Bool × List ValA)).2.length rc) ∧ Keeps (fun _ => False) w w' := by
 rw [hh]
 obtain ⟨so, sc, rfl⟩ := RowAt.form hS
 obtain ⟨uo, uc, rfl⟩ := RowAt.form hr
 obtain ⟨W, hW, hkW, g0, g1, g2, g3, g4⟩ := boxes5 w #[.slice so S.length sc] #[.int .i64 23, .int .i64 n, str s] #[.bool true, .slice uo m.vals.length uc] #[.int .i64 a.kind, .int .i64 a.n, str a.s] #[.bool false, .slice none 0 0] 24 106 28 74 28
 have HKA := hide hkW
 have HX := hide g4
 have HS := hide (hS.keepF hkW)
 have HR := hide (hr.keepF hkW)
 have p0 := cl1 g0
 obtain ⟨q0, q1, q2⟩ := cl3 g1
 obtain ⟨r0, r1⟩ := cl2 g2
 obtain ⟨v0, v1, v2⟩ := cl3 g3
 have hsz : w.heap.size + 1 + 1 + 1 + 1 < W.heap.size := lt_of_block g4
 have G1 := hide g1
 have G2 := hide g2
 have G3 := hide g3
 clear hkW g0 g1 g2 g3 g4 hS hr
 rw [show a.v = .agg #[.int .i64 a.kind, .int .i64 a.n, str a.s] from rfl]
 have HV := hide (vals_off (uh HR) (uh HX) (off2 (by simp)) (keeps_set2 W (w.heap.size + 1 + 1 + 1 + 1) (.bool true) (.slice uo m.vals.length uc)))
 have HK := hide ((uh HKA).fresh (by omega) (keeps_set2 W (w.heap.size + 1 + 1 + 1 + 1) (.bool true) (.slice uo m.vals.length uc)))
 obtain ⟨y0, y1⟩ := cl2 (uh HX)
 obtain ⟨z0, z1⟩ := fz2 (uh HX)
 obtain ⟨s0, s1⟩ := set2c (uh HX) (.bool true) (.slice uo m.vals.length uc)
 go_enter Tryz.func103, Tryz.ntmps103
 go_wp2_with fail
 refine bodyPost_ret (v := .agg #[.bool true, .slice uo m.vals.length uc]) (by simp [results, go_sem, s0, s1]) rfl ?_
 exact ⟨_, _, rfl, uh HV, Or.inl rfl, uh HK⟩
theorem sinks23F_v (S : List FieldA) (sv u : Value) (s : Txt) (m : MS) (a : ValA) (w : World) (hS : FldsAt w sv S) (hr : ValsAt w u m.vals) (n : Int) (hh : m.here = false) (hs : errS S = 0) :
  Calls Tryz.prog 103 #[.agg #[sv], .agg #[.int .i64 23, .int .i64 n, str s], .agg #[.bool m.here, u], a.v] w fun e w' => ∃ ro rc, e = .returned (.agg #[.bool (((true, S.map zeroV) : Bool × List ValA)).1, .slice ro (((true, S.map zeroV) : Bool × List ValA)).2.length rc]) ∧ ValsAt w' (.slice ro (((true, S.map zeroV) : Bool × List ValA)).2.length rc) (((true, S.map zeroV) : Bool × List ValA)).2 ∧ New w u (.slice ro (((true, S.map zeroV) : Bool × List ValA)).2.length rc) ∧ Keeps (fun _ => False) w w' := by
 rw [hh]
 obtain ⟨so, sc, rfl⟩ := RowAt.form hS
 obtain ⟨uo, uc, rfl⟩ := RowAt.form hr
 obtain ⟨W, hW, hkW, g0, g1, g2, g3, g4⟩ := boxes5 w #[.slice so S.length sc] #[.int .i64 23, .int .i64 n, str s] #[.bool false, .slice uo m.vals.length uc] #[.int .i64 a.kind, .int .i64 a.n, str a.s] #[.bool false, .slice none 0 0] 24 106 28 74 28
 have HKA := hide hkW
 have HX := hide g4
 have HS := hide (hS.keepF hkW)
 have HR := hide (hr.keepF hkW)
 have p0 := cl1 g0
 obtain ⟨q0, q1, q2⟩ := cl3 g1
 obtain ⟨r0, r1⟩ := cl2 g2
 obtain ⟨v0, v1, v2⟩ := cl3 g3
 have hsz : w.heap.size + 1 + 1 + 1 + 1 < W.heap.size := lt_of_block g4
 have G1 := hide g1
 have G2 := hide g2
 have G3 := hide g3
 clear hkW g0 g1 g2 g3 g4 hS hr
 rw [show a.v = .agg #[.int .i64 a.kind, .int .i64 a.n, str a.s] from rfl]
 have HQ := hide (zero_any S (.slice so S.length sc) W (uh HS))
 have hz : zeroB S = S.map zeroV := by
  unfold zeroB
  rcases errS_eq S with ⟨h, _⟩ | ⟨_, h⟩
  ·rw [if_pos h]; rfl
  ·rw [hs] at h; cases h
 rw [hz] at HQ
 generalize S.map zeroV = Z at *
 clear hz hs
 go_enter Tryz.func103, Tryz.ntmps103
 go_wp2_with fail
 refine (uh HQ).mono ?_
 rintro e w1 ⟨v', rfl, hown, hk1⟩
 have hv1 : ValsAt w1 v' Z := rowAt_own hown
 obtain ⟨ro, rc, rfl⟩ := RowAt.form hv1
 have HNW : Hid (∀ q, (Value.slice ro Z.length rc).ownBlock = some q → w.heap.size ≤ q) := fun q e => Nat.le_trans (uh HKA).size (hown.lt q e).1
 have h4 := blk_keep (uh HX) hk1
 have HV := hide (vals_off hv1 h4 (off2 (by simp)) (keeps_set2 w1 (w.heap.size + 1 + 1 + 1 + 1) (.bool true) (.slice ro Z.length rc)))
 have HK := hide (((uh HKA).trans hk1).fresh (by omega) (keeps_set2 w1 (w.heap.size + 1 + 1 + 1 + 1) (.bool true) (.slice ro Z.length rc)))
 obtain ⟨y0, y1⟩ := cl2 h4
 obtain ⟨z0, z1⟩ := fz2 h4
 obtain ⟨s0, s1⟩ := set2c h4 (.bool true) (.slice ro Z.length rc)
 clear hk1 hv1 h4 hown
 go_wp2_with fail
 refine bodyPost_ret (v := .agg #[.bool true, .slice ro Z.length rc]) (by simp [results, go_sem, s0, s1]) rfl ?_
 exact ⟨_, _, rfl, uh HV, Or.inr (uh HNW), uh HK⟩
end Go.Proofs.YtbokbdcjpbnodaaGreatDoor
namespace Go.Proofs.YtbokbdcjpbnodaaGreatDoor
open Go.RowKit Go.Maps
set_option maxRecDepth 100000
set_option maxHeartbeats 2000000
theorem sinks21_v (S : List FieldA) (sv u : Value) (s : Txt) (m : MS) (a : ValA) (w : World) (hS : FldsAt w sv S) (hr : ValsAt w u m.vals) (k : Nat) (hn : m.here = true → k < m.vals.length) (hl : m.vals.length ≤ 1024) :
  Calls Tryz.prog 103 #[.agg #[sv], .agg #[.int .i64 21, .int .i64 (k : Int), str s], .agg #[.bool m.here, u], a.v] w fun e w' => ∃ ro rc, e = .returned (.agg #[.bool (setR m k (numV (wrap64 ((if hasB m k then (m.vals[k]?).getD zV else zV).n + a.n)))).1, .slice ro (setR m k (numV (wrap64 ((if hasB m k then (m.vals[k]?).getD zV else zV).n + a.n)))).2.length rc]) ∧ ValsAt w' (.slice ro (setR m k (numV (wrap64 ((if hasB m k then (m.vals[k]?).getD zV else zV).n + a.n)))).2.length rc) (setR m k (numV (wrap64 ((if hasB m k then (m.vals[k]?).getD zV else zV).n + a.n)))).2 ∧ New w u (.slice ro (setR m k (numV (wrap64 ((if hasB m k then (m.vals[k]?).getD zV else zV).n + a.n)))).2.length rc) ∧ Keeps (fun _ => False) w w' := by
 have HL0 : Hid (∀ W, ValsAt W u m.vals → Calls Tryz.prog 135 #[.agg #[.bool m.here, u], .int .i64 (k : Int)] W fun e w' => e = .returned (.tuple #[(if hasB m k then (m.vals[k]?).getD zV else zV).v, .bool (hasB m k)]) ∧ Keeps (fun _ => False) W w') := fun W h => loadR_v m u k W h hn
 generalize (if hasB m k then (m.vals[k]?).getD zV else zV) = lv at *
 generalize hasB m k = HB at *
 obtain ⟨so, sc, rfl⟩ := RowAt.form hS
 obtain ⟨uo, uc, rfl⟩ := RowAt.form hr
 obtain ⟨W, hW, hkW, g0, g1, g2, g3, g4⟩ := boxes5 w #[.slice so S.length sc] #[.int .i64 21, .int .i64 (k : Int), str s] #[.bool m.here, .slice uo m.vals.length uc] #[.int .i64 a.kind, .int .i64 a.n, str a.s] #[.bool false, .slice none 0 0] 24 106 28 74 28
 have HKA := hide hkW
 have HX := hide g4
 have HS := hide (hS.keepF hkW)
 have HR := hide (hr.keepF hkW)
 have p0 := cl1 g0
 obtain ⟨q0, q1, q2⟩ := cl3 g1
 obtain ⟨r0, r1⟩ := cl2 g2
 obtain ⟨v0, v1, v2⟩ := cl3 g3
 have hsz : w.heap.size + 1 + 1 + 1 + 1 < W.heap.size := lt_of_block g4
 have G1 := hide g1
 have G2 := hide g2
 have G3 := hide g3
 clear hkW g0 g1 g2 g3 g4 hS hr
 rw [show a.v = .agg #[.int .i64 a.kind, .int .i64 a.n, str a.s] from rfl]
 have HL := hide ((uh HL0) W (uh HR))
 rw [show lv.v = .agg #[.int .i64 lv.kind, .int .i64 lv.n, str lv.s] from rfl] at HL
 have HQ := hide (fun (W1 : World) (h : Keeps (fun _ => False) W W1) => withR_v m (.slice uo m.vals.length uc) k (numV (wrap64 (lv.n + a.n))) W1 ((uh HR).keepF h) hn hl)
 rw [show (numV (wrap64 (lv.n + a.n))).v = .agg #[.int .i64 1, .int .i64 (wrap64 (lv.n + a.n)), .string ⟨#[]⟩] from rfl] at HQ
 have HNV : Hid (∀ W1 : World, Calls Tryz.prog 133 #[.int .i64 (IntKind.i64.wrap (lv.n + a.n))] W1 fun e w' => e = .returned (.agg #[.int .i64 1, .int .i64 (wrap64 (lv.n + a.n)), .string ⟨#[]⟩]) ∧ Keeps (fun _ => False) W1 w') := fun W1 => by rw [← wrap64_eq]; exact numR_v (wrap64 (lv.n + a.n)) W1
 generalize setR m k (numV (wrap64 (lv.n + a.n))) = R at *
 clear HL0 hn
 go_enter Tryz.func103, Tryz.ntmps103
 go_wp2_with fail
 refine (uh HL).mono ?_
 rintro e w1 ⟨rfl, hk1⟩
 have hN := heap_alloc_new w1 (.cells #[.int .i64 lv.kind, .int .i64 lv.n, str lv.s] 74)
 have kN := hk1.trans (kAlloc w1 (.cells #[.int .i64 lv.kind, .int .i64 lv.n, str lv.s] 74))
 generalize hW1 : w1.alloc (.cells #[.int .i64 lv.kind, .int .i64 lv.n, str lv.s] 74) = W1 at *
 have hs1 : w1.heap.size < W1.heap.size := lt_of_block hN
 have h1 := blk_keep (uh G1) kN
 have h2 := blk_keep (uh G2) kN
 have h3 := blk_keep (uh G3) kN
 have h4 := blk_keep (uh HX) kN
 obtain ⟨qq0, qq1, qq2⟩ := cl3 h1
 obtain ⟨rr0, rr1⟩ := cl2 h2
 obtain ⟨vv0, vv1, vv2⟩ := cl3 h3
 obtain ⟨nn0, nn1, nn2⟩ := cl3 hN
 have HKN := hide kN
 have H4 := hide h4
 have HSK : Hid (∀ w', Keeps (fun q => q = w.heap.size + 1 + 1 + 1 + 1) W1 w' → w'.cell? ⟨w.heap.size + 1 + 1, 0, none⟩ = some (.bool m.here) ∧ w'.cell? ⟨w.heap.size + 1 + 1, 1, none⟩ = some (.slice uo m.vals.length uc) ∧ w'.cell? ⟨w.heap.size + 1, 1, none⟩ = some (.int .i64 (k : Int)) ∧ w'.cell? ⟨w1.heap.size, 1, none⟩ = some (.int .i64 lv.n) ∧ w'.cell? ⟨w.heap.size + 1 + 1 + 1, 1, none⟩ = some (.int .i64 a.n)) := fun w' hk => by
  have hs := lt_of_block h4
  have hs4 : w.heap.size + 1 + 1 + 1 + 1 < w1.heap.size := lt_of_block (blk_keep (uh HX) hk1)
  exact ⟨(hk.cell (by omega) (by omega)).trans rr0, (hk.cell (by omega) (by omega)).trans rr1, (hk.cell (by omega) (by omega)).trans qq1, (hk.cell (by omega) (by omega)).trans nn1, (hk.cell (by omega) (by omega)).trans vv1⟩
 have HKX := hide (Keeps.refl (fun _ => False) W1)
 clear kN hk1 h1 h2 h3 h4 hN HL
 go_wp2_with fail
 go_region_held3 (fun w' => w'.cell? ⟨w.heap.size + 1 + 1, 0, none⟩ = some (.bool m.here) ∧ w'.cell? ⟨w.heap.size + 1 + 1, 1, none⟩ = some (.slice uo m.vals.length uc) ∧ w'.cell? ⟨w.heap.size + 1, 1, none⟩ = some (.int .i64 (k : Int)) ∧ w'.cell? ⟨w1.heap.size, 1, none⟩ = some (.int .i64 lv.n) ∧ w'.cell? ⟨w.heap.size + 1 + 1 + 1, 1, none⟩ = some (.int .i64 a.n))
  (first | with_reducible exact uh HSK _ (uh HKX).any | with_reducible exact uh HSK _ (uh HKX).drew.any | with_reducible exact uh HSK _ ((uh HKX).any.trans (keeps_set2 _ _ _ _)))
  ((first
  | (go_at_call 133; refine (uh HNV _).mono ?_; rintro e w2 ⟨rfl, hk⟩; have HKX := hide ((uh HKX).drew.trans hk); clear hk)
  | (go_at_call 138; refine (uh HQ _ ((uh HKN).trans (uh HKX))).mono ?_; rintro e w3 ⟨ro, rc, rfl, hv, hn3, hk⟩; have HNW := hide (hn3.mono (((uh HKA).trans (uh HKN)).trans (uh HKX)).size); have HKX := hide ((uh HKX).trans hk); have h4 := blk_keep (uh H4) (uh HKX); have m0 := (cell_of_blk h4 0).trans rfl; have m1 := (cell_of_blk h4 1).trans rfl; have z0 := frozen_of_blk h4 0; have z1 := frozen_of_blk h4 1; have HV3 := hide hv; have HH4 := hide h4; clear hk hv h4 hn3)))
 go_wp2_with fail
 obtain ⟨s0, s1⟩ := set2c (uh HH4) (.bool R.1) (.slice ro R.2.length rc)
 refine bodyPost_ret (v := .agg #[.bool R.1, .slice ro R.2.length rc]) (by simp [results, go_sem, s0, s1]) rfl ?_
 exact ⟨_, _, rfl, vals_off (uh HV3) (uh HH4) (off2 (by simp)) (keeps_set2 w3 (w.heap.size + 1 + 1 + 1 + 1) (.bool R.1) (.slice ro R.2.length rc)), uh HNW, (((uh HKA).trans (uh HKN)).trans (uh HKX)).fresh (by omega) (keeps_set2 w3 (w.heap.size + 1 + 1 + 1 + 1) (.bool R.1) (.slice ro R.2.length rc))⟩
end Go.Proofs.YtbokbdcjpbnodaaGreatDoor
namespace Go.Proofs.YtbokbdcjpbnodaaGreatDoor
open Go.RowKit Go.Maps
theorem step_app1 {w : World} {ops : Array Oper} {o : Oper} {a : Act} {K : Act → World → Prop} {Q : Exit → Act → World → Prop} {E : Prop} (hgd : o.guard = none) (s x : Operand)
  (ho : o.op = .call { callee := .builtin .append, args := #[s, x], argTypes := #[26, 26] }) (base : Nat) (ao : Option Addr) (n c : Nat) (xs : List Value) (hs : a.eval s = .slice ao n c) (hown : w.ownsRow base 74 3 (.slice ao n c) n xs)
  (q : Nat) (z : ValA) (hx : a.eval x = .slice (some ⟨q, 0, none⟩) 1 1) (hq : w.heap[q]? = some (.cells #[.int .i64 z.kind, .int .i64 z.n, str z.s] 74 (0, 0))) (hn : n ≤ 1024) (hbase : base ≤ w.heap.size)
  (h : ∀ g cap w', w'.ownsRow base 74 3 (.slice (some ⟨g, 0, none⟩) (n + 1) cap) (n + 1) (xs ++ z.cs) → w.grownBy w' (Value.slice ao n c).ownBlock → K (a.put o.dst (.slice (some ⟨g, 0, none⟩) (n + 1) cap)) w') : if Region.wanted o (yielded ops a.tmps) = true then Oper.wp Tryz.prog o a w K Q else E := by
 obtain ⟨i0, hi, hz0, hz1, hz2⟩ := info_parts Tryz.info74
 refine step_append_lies w hgd s x 26 ho base 74 i0 _ 3 32 Tryz.underlying26 hi hz0 hz1 hz2 rfl (by omega) (.slice ao n c) n xs hs hown ⟨q, 0, none⟩ 1 1 z.cs hx rfl (World.news_of_block (cs := #[.int .i64 z.kind, .int .i64 z.n, str z.s]) (t := 74) (fr := (0, 0)) hq) (fun u hu => ?_) (by omega) (by unfold maxLen; omega) (by omega) hbase w.heap.size rfl (fun g cap w' h1 h2 _ _ => h g cap w' h1 h2)
 simp only [ValA.cs, List.mem_cons, List.not_mem_nil, or_false] at hu
 rcases hu with rfl | rfl | rfl <;> rfl
theorem off4 {a : Int} {y z : Value} {b : Bool} (hy : ∀ n, y ≠ .int .i64 n) (i : Nat) (c n : Int) (s : Txt) (h1 : (#[.int .i64 a, y, .bool b, z] : Array Value)[i]? = some (.int .i64 c)) (h2 : (#[.int .i64 a, y, .bool b, z] : Array Value)[i + 1]? = some (.int .i64 n)) (h3 : (#[.int .i64 a, y, .bool b, z] : Array Value)[i + 2]? = some (str s)) : False := by
 rcases i with _ | _ | _ | _ | i
 ·simp at h2; exact hy _ h2
 ·simp at h1; exact hy _ h1
 ·simp at h1
 ·simp at h2
 ·simp at h1
theorem wrap_small {n : Int} (h0 : 0 ≤ n) (h1 : n ≤ 1048576) : IntKind.i64.wrap n = n := by
 rw [← wrap64_eq]
 unfold wrap64
 omega
def StatesTo (w : World) (tv rv : Value) (k : Nat) (m : MS) (e : Ending) (w' : World) : Prop :=
 ∃ to tc ro rc, e = .returned (.agg #[.int .i64 (k : Int), .slice to m.st.length tc, .bool m.here, .slice ro m.vals.length rc]) ∧ ValsAt w' (.slice to m.st.length tc) m.st ∧ ValsAt w' (.slice ro m.vals.length rc) m.vals ∧ New w tv (.slice to m.st.length tc) ∧ New w rv (.slice ro m.vals.length rc) ∧ Keeps (fun _ => False) w w'
end Go.Proofs.YtbokbdcjpbnodaaGreatDoor
namespace Go.Proofs.YtbokbdcjpbnodaaGreatDoor
open Go.RowKit Go.Maps
set_option maxRecDepth 100000
set_option maxHeartbeats 4000000
theorem stepRA_v (S : List FieldA) (sv lv tv rv : Value) (l : List ValA) (k : Nat) (m : MS) (x z : ValA) (w : World) (hS : FldsAt w sv S) (hl : ValsAt w lv l) (hst : ValsAt w tv m.st) (hr : ValsAt w rv m.vals) (hx : l[k]? = some x) (hk : k ≤ 1024) (h16 : m.st.length ≤ 16) (hP : ∀ (W : World) (sv rv : Value), FldsAt W sv S → ValsAt W rv m.vals → Calls Tryz.prog 99 #[.agg #[sv], x.v, .agg #[.bool m.here, rv]] W fun e w' => e = .returned (.tuple #[z.v, .bool true]) ∧ Keeps (fun _ => False) W w') :
  Calls Tryz.prog 72 #[.agg #[sv], lv, .agg #[.int .i64 (k : Int), tv, .bool m.here, rv]] w fun e w' => StatesTo w tv rv (k + 1) ⟨m.st.take (m.st.length - 0) ++ [z], m.here, m.vals⟩ e w' := by
 obtain ⟨so, sc, rfl⟩ := RowAt.form hS
 obtain ⟨to, tc, rfl⟩ := RowAt.form hst
 obtain ⟨ro, rc, rfl⟩ := RowAt.form hr
 obtain ⟨lb, lof, lc, e, hlb, hlc⟩ := hl.cells (by have := (List.getElem?_eq_some_iff.1 hx).1; omega)
 subst e
 have hkl : (k : Int) < (l.length : Int) := by have := (List.getElem?_eq_some_iff.1 hx).1; omega
 have hk0 : (0 : Int) ≤ (k : Int) := by omega
 obtain ⟨W, hW, hkW, f0, f1, f2⟩ := boxes3 w #[.slice so S.length sc] #[.int .i64 (k : Int), .slice to m.st.length tc, .bool m.here, .slice ro m.vals.length rc] #[.int .i64 0, .slice none 0 0, .bool false, .slice none 0 0] 24 83 83
 have c0 := (hkW.cell hlb id).trans (hlc k x hx).1
 have c1 := (hkW.cell hlb id).trans (hlc k x hx).2.1
 have c2 := (hkW.cell hlb id).trans (hlc k x hx).2.2
 obtain ⟨w0, w1, w2, w3⟩ := cl4 f1
 have hsW : W.heap.size = w.heap.size + 1 + 1 + 1 := by rw [← hW]; simp
 have kV := kAlloc W (.cells #[.int .i64 x.kind, .int .i64 x.n, str x.s] 106)
 have g3 := heap_alloc_new W (.cells #[.int .i64 x.kind, .int .i64 x.n, str x.s] 106)
 rw [hsW] at g3
 generalize hV : W.alloc (.cells #[.int .i64 x.kind, .int .i64 x.n, str x.s] 106) = V at *
 have hkV := hkW.trans kV
 have g0 := blk_keep f0 kV
 have g1 := blk_keep f1 kV
 have g2 := blk_keep f2 kV
 have HKV := hide hkV
 have HT := hide (hst.keepF hkV)
 have HR := hide (hr.keepF hkV)
 have HSV := hide (hS.keepF hkV)
 have G0 := hide g0
 have G1 := hide g1
 have G2 := hide g2
 have G3 := hide g3
 have p0 := cl1 g0
 obtain ⟨q0, q1, q2, q3⟩ := cl4 g1
 obtain ⟨r0, r1, r2⟩ := cl3 g3
 have hsz : w.heap.size + 1 + 1 + 1 < V.heap.size := lt_of_block g3
 have hw1 : IntKind.i64.wrap ((k : Int) + 1) = (k : Int) + 1 := wrap_small (by omega) (by omega)
 clear hS hst hr hl hlc hx hkV g0 g1 g2 g3 f0 f1 f2 kV hkW
 have HQ := hide (hP V _ _ (uh HSV) (uh HR))
 rw [show x.v = .agg #[.int .i64 x.kind, .int .i64 x.n, str x.s] from rfl, show z.v = .agg #[.int .i64 z.kind, .int .i64 z.n, str z.s] from rfl] at HQ
 clear hP
 go_enter Tryz.func72, Tryz.ntmps72
 go_wp2_with fail
 refine (uh HQ).mono ?_
 rintro e w1 ⟨rfl, hk1⟩
 have hZ := heap_alloc_new w1 (.cells #[.int .i64 z.kind, .int .i64 z.n, str z.s] 74)
 have kX := hk1.trans (kAlloc w1 (.cells #[.int .i64 z.kind, .int .i64 z.n, str z.s] 74))
 have hs1 : w.heap.size + 1 + 1 + 1 < w1.heap.size := Nat.lt_of_lt_of_le hsz hk1.size
 generalize hX : w1.alloc (.cells #[.int .i64 z.kind, .int .i64 z.n, str z.s] 74) = X at *
 have hB1 := blk_keep (uh G1) kX
 have hB2 := blk_keep (uh G2) kX
 have HTX := hide ((uh HT).keepF kX)
 have HRX := hide ((uh HR).keepF kX)
 have HWX := hide ((uh HKV).trans kX)
 clear HQ hk1 kX HT HR HSV
 have HSK : Hid (∀ w', Keeps (fun q => q = w.heap.size + 1 + 1) X w' → w'.cell? ⟨w.heap.size + 1, 0, none⟩ = some (.int .i64 (k : Int)) ∧ w'.cell? ⟨w.heap.size + 1, 1, none⟩ = some (.slice to m.st.length tc) ∧ w'.cell? ⟨w.heap.size + 1, 2, none⟩ = some (.bool m.here) ∧ w'.cell? ⟨w.heap.size + 1, 3, none⟩ = some (.slice ro m.vals.length rc) ∧ w'.cell? ⟨w1.heap.size, 0, none⟩ = some (.int .i64 z.kind) ∧ w'.cell? ⟨w1.heap.size, 1, none⟩ = some (.int .i64 z.n) ∧ w'.cell? ⟨w1.heap.size, 2, none⟩ = some (str z.s)) := fun w' hk => by
  have hs1 := lt_of_block hB1
  have hs2 := lt_of_block hZ
  have y1 := (hk.block _ hs1 (by omega)).trans hB1
  have y2 := (hk.block _ hs2 (by omega)).trans hZ
  exact ⟨(cell_of_blk y1 _).trans rfl, (cell_of_blk y1 _).trans rfl, (cell_of_blk y1 _).trans rfl, (cell_of_blk y1 _).trans rfl, (cell_of_blk y2 _).trans rfl, (cell_of_blk y2 _).trans rfl, (cell_of_blk y2 _).trans rfl⟩
 have HKX := hide (Keeps.refl (fun _ => False) X)
 have HW0 : Hid (∀ W2, Keeps (fun _ => False) X W2 → Calls Tryz.prog 100 #[.slice to m.st.length tc, .int .i64 0] W2 fun e w' => ∃ v', e = .returned v' ∧ w'.ownsRow W2.heap.size 74 3 v' (m.st.length - 0) (vcs (m.st.take (m.st.length - 0))) ∧ Keeps (fun _ => False) W2 w') := fun W2 hk => without_v W2 _ m.st 0 ((uh HTX).keepF hk) (by omega) (by omega)
 have H2 := hide hB2
 have q0 := (cell_of_blk hB1 0).trans rfl
 obtain ⟨st', hst'⟩ : ∃ st', m.st.take (m.st.length - 0) = st' := ⟨_, rfl⟩
 obtain ⟨n', hn'⟩ : ∃ n', m.st.length - 0 = n' := ⟨_, rfl⟩
 have HNL : Hid (st'.length = n') := by show _ = _; rw [← hst', ← hn']; simp
 have hn16 : n' ≤ 1024 := by omega
 rw [hst', hn'] at HW0
 have HST := hide hst'
 obtain ⟨a0, a1, a2, a3, a4, a5, a6⟩ := uh HSK X (Keeps.refl _ _)
 clear hB1 hZ hB2 hst' hn'
 go_wp2_with fail
 go_region_held3 (fun w' => w'.cell? ⟨w.heap.size + 1, 0, none⟩ = some (.int .i64 (k : Int)) ∧ w'.cell? ⟨w.heap.size + 1, 1, none⟩ = some (.slice to m.st.length tc) ∧ w'.cell? ⟨w.heap.size + 1, 2, none⟩ = some (.bool m.here) ∧ w'.cell? ⟨w.heap.size + 1, 3, none⟩ = some (.slice ro m.vals.length rc) ∧ w'.cell? ⟨w1.heap.size, 0, none⟩ = some (.int .i64 z.kind) ∧ w'.cell? ⟨w1.heap.size, 1, none⟩ = some (.int .i64 z.n) ∧ w'.cell? ⟨w1.heap.size, 2, none⟩ = some (str z.s))
  (first | with_reducible exact uh HSK _ (uh HKX).any | with_reducible exact uh HSK _ (uh HKX).drew.any | with_reducible exact uh HSK _ ((uh HKX).alloc _).any | with_reducible exact uh HSK _ ((uh HKX).alloc _).drew.any | with_reducible exact uh HSK _ ((uh HKX).any.trans (keeps_set4 _ _ _ _ _ _)))
  ((first
  | (go_at_call 100; with_reducible refine (uh HW0 _ (uh HKX).drew).mono ?_; rintro e w2 ⟨v', rfl, hown, hk⟩; obtain ⟨ao, c, rfl⟩ := RowAt.form (rowAt_own hown); have HOW := hide (ownsRow_lower hown (Nat.le_of_eq (by simp) : X.heap.size ≤ X.drew.heap.size)); have HKX := hide ((uh HKX).drew.trans hk); clear hk hown)
  | (go_at_call 100; with_reducible refine (uh HW0 _ ((uh HKX).alloc _).drew).mono ?_; rintro e w2 ⟨v', rfl, hown, hk⟩; obtain ⟨ao, c, rfl⟩ := RowAt.form (rowAt_own hown); have HOW := hide (ownsRow_lower hown (by simp : X.heap.size ≤ (X.alloc (.cells #[.int .i64 z.kind, .int .i64 z.n, str z.s] 74)).drew.heap.size)); have HBQ := hide (blk_keep (heap_alloc_new X (.cells #[.int .i64 z.kind, .int .i64 z.n, str z.s] 74)) ((Keeps.refl _ _).drew.trans hk)); have HKX := hide (((uh HKX).alloc (.cells #[.int .i64 z.kind, .int .i64 z.n, str z.s] 74)).drew.trans hk); clear hk hown)
  | (refine step_app1 (by rfl) _ _ (by rfl) X.heap.size ao n' c (vcs st') (by rfl) (uh HOW) X.heap.size z (by rfl) (uh HBQ) hn16 (uh HKX).size ?_; intro g cap w5 how5 hgr5; have HKX := hide ((uh HKX).grown hgr5 (fun q e hq => by have := ((uh HOW).lt q e).1; omega)); have hb5 := blk_keep (uh H2) (uh HKX); have m0 := (cell_of_blk hb5 0).trans rfl; have m1 := (cell_of_blk hb5 1).trans rfl; have m2 := (cell_of_blk hb5 2).trans rfl; have m3 := (cell_of_blk hb5 3).trans rfl; have z0 := frozen_of_blk hb5 0; have z1 := frozen_of_blk hb5 1; have z2 := frozen_of_blk hb5 2; have z3 := frozen_of_blk hb5 3; have HB5 := hide hb5; have HO5 := hide how5; clear hb5 how5 hgr5)
  | (refine step_app1 (by rfl) _ _ (by rfl) X.heap.size ao n' c (vcs st') (by rfl) ((uh HOW).alloc _) w2.heap.size z (by rfl) (heap_alloc_new w2 _) hn16 (by have := (uh HKX).size; simp; omega) ?_; intro g cap w5 how5 hgr5; have HKX := hide (((uh HKX).alloc _).grown hgr5 (fun q e hq => by have := ((uh HOW).lt q e).1; omega)); have hb5 := blk_keep (uh H2) (uh HKX); have m0 := (cell_of_blk hb5 0).trans rfl; have m1 := (cell_of_blk hb5 1).trans rfl; have m2 := (cell_of_blk hb5 2).trans rfl; have m3 := (cell_of_blk hb5 3).trans rfl; have z0 := frozen_of_blk hb5 0; have z1 := frozen_of_blk hb5 1; have z2 := frozen_of_blk hb5 2; have z3 := frozen_of_blk hb5 3; have HB5 := hide hb5; have HO5 := hide how5; clear hb5 how5 hgr5)))
 all_goals go_wp2_with fail
 all_goals
  obtain ⟨s0, s1, s2, s3⟩ := set4c (uh HB5) (.int .i64 ((k : Int) + 1)) (.slice (some ⟨g, 0, none⟩) (n' + 1) cap) (.bool m.here) (.slice ro m.vals.length rc)
  refine bodyPost_ret (v := .agg #[.int .i64 ((k : Int) + 1), .slice (some ⟨g, 0, none⟩) (n' + 1) cap, .bool m.here, .slice ro m.vals.length rc]) (by simp [results, go_sem, s0, s1, s2, s3]) rfl ?_
  have k4 := keeps_set4 w5 (w.heap.size + 1 + 1) (.int .i64 ((k : Int) + 1)) (.slice (some ⟨g, 0, none⟩) (n' + 1) cap) (.bool m.here) (.slice ro m.vals.length rc)
  have hv5 : ValsAt w5 (.slice (some ⟨g, 0, none⟩) (n' + 1) cap) (st' ++ [z]) := by
   have h := rowAt_own (uh HO5)
   rw [← vcs_snoc] at h
   have e : (st' ++ [z]).length = n' + 1 := by rw [List.length_append, uh HNL]; rfl
   show RowAt _ _ _ _
   rw [e]
   exact h
  have e : n' + 1 = (m.st.take (m.st.length - 0) ++ [z]).length := by rw [uh HST, List.length_append, uh HNL]; rfl
  refine ⟨some ⟨g, 0, none⟩, cap, ro, rc, ?_, ?_, ?_, Or.inr (fun q e => Nat.le_trans (uh HWX).size (by have := ((uh HO5).lt g rfl).1; simp [Value.ownBlock] at e; omega)), Or.inl rfl, ?_⟩
  ·show _ = Ending.returned (.agg #[.int .i64 ((k + 1 : Nat) : Int), .slice (some ⟨g, 0, none⟩) (m.st.take (m.st.length - 0) ++ [z]).length cap, .bool m.here, .slice ro m.vals.length rc])
   rw [← e]
   rfl
  ·show ValsAt _ (.slice (some ⟨g, 0, none⟩) (m.st.take (m.st.length - 0) ++ [z]).length cap) (m.st.take (m.st.length - 0) ++ [z])
   rw [← e, uh HST]
   exact vals_off hv5 (uh HB5) (off4 (by simp)) k4
  ·exact vals_off ((uh HRX).keepF (uh HKX)) (uh HB5) (off4 (by simp)) k4
  ·exact ((uh HWX).trans (uh HKX)).fresh (by omega) k4
end Go.Proofs.YtbokbdcjpbnodaaGreatDoor
