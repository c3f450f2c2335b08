import Derived.Test.YtiinohibmcefkaaGreatDoorJzar
import Derived.Deep.AppendLies
import Derived.Deep.DeepCutAuto
import Derived.Test.YtiinohibmcefkaaGreatDoorVm1
import Derived.Test.YtiinohibmcefkaaGreatDoorJzaj
import Derived.Test.YtiinohibmcefkaaGreatDoorJzaa
namespace Go.Proofs.YtiinohibmcefkaaGreatDoor
open Go.RowKit Go.Maps
set_option maxRecDepth 100000
set_option maxHeartbeats 8000000
def WtPost (l : SL) (w : World) (e : Ending) (w' : World) : Prop := ∃ v', e = .returned v' ∧ WtSl (fun q => w.heap.size ≤ q) w' v' l ∧ Keeps (fun _ => False) w w'
theorem wideStmts_v (Z : Zone) (N : Nat) : ∀ (l : SL), l.size < N → l.size ≤ 4294967294 → ∀ (w : World) (up : Nat) (v : Value), SlS Z w up v l → Calls Tryz.prog 48 #[v] w (WtPost l w) := by
 induction N with
 | zero => intro l h; omega
 | succ N ih =>
  intro l hsz hlen' w up v hS
  have hlen : l.len ≤ 4294967294 := by have := SL.len_le l; omega
  obtain ⟨ao, cap, b, off, rfl, hcap, ha, hx⟩ := hS.open
  obtain ⟨i0, hi, hz0, hz1, hz2⟩ := info_parts info39T
  have IH := hide ih
  have HX := hide hx
  have HA := hide ha
  clear hS ih hx ha
  go_enter Tryz.func48, Tryz.ntmps48
  go_wp2_with fail
  go_loopw [3, 4] (fun o i wr => ∃ (pre rest : SL) (k : Nat) (xs : List Value) (A : Nat → Prop), i = .int .i64 k ∧ l = pre.app rest ∧ k = pre.len ∧ wr.ownsRow w.heap.size 39 5 o k xs ∧ WtsIn A wr pre xs ∧ (∀ q, A q → w.heap.size ≤ q ∧ q < wr.heap.size ∧ o.ownBlock ≠ some q) ∧ Keeps (fun _ => False) w wr ∧ StIn Z w rest b (off + k * 5)) (fun _ i _ => l.len - (intOf i).toNat)
  case atStart => exact ⟨.nil, l, 0, [], fun _ => False, rfl, rfl, rfl, World.ownsRow_nil w w.heap.size 39 5, rfl, fun q h => h.elim, Keeps.refl _ _, by simpa using uh HX⟩
  case round =>
   obtain ⟨pre, rest, k, xs, A, rfl, happ, hkp, hown, hcs, hAq, hkeep, hr⟩ := hrel
   obtain ⟨oo, oc, rfl⟩ := (rowAt_own hown).form
   have hll := congrArg SL.len happ
   have hls := congrArg SL.size happ
   rw [SL.len_app] at hll
   rw [SL.size_app] at hls
   have HO := hide hown
   have HCS := hide hcs
   have HAQ := hide hAq
   have HK := hide hkeep
   have HAPP := hide happ
   cases rest with
   | nil =>
    rw [SL.app_nil] at happ
    subst happ
    simp only [SL.len, SL.size, Nat.add_zero] at hll hls
    have i1 : ¬ (k : Int) < (l.len : Int) := by omega
    subst hkp
    clear hown hcs hAq hkeep hr hll hls HAPP
    have HLN := hide (uh HCS).length
    go_wp2_with fail
    rename World => wo
    go_loopw [3, 5] (fun o i w2 => ∃ j : Nat, j ≤ 16 ∧ i = .int .i64 (j : Int) ∧ Hid (w2.ownsRow w.heap.size 39 5 o (l.len + j) (xs ++ marksW markS j)) ∧ Hid (WtsIn A w2 l xs) ∧ Hid (∀ q, A q → w.heap.size ≤ q ∧ q < w2.heap.size ∧ o.ownBlock ≠ some q) ∧ Hid (Keeps (fun _ => False) w w2)) (fun _ i _ => 16 - (intOf i).toNat)
    case atStart => exact ⟨0, by omega, rfl, by simpa [Hid, marksW] using uh HO, HCS, HAQ, HK⟩
    case round =>
     obtain ⟨j, hj, rfl, HO, HCS, HAQ, HK⟩ := hrel
     obtain ⟨oo, oc, rfl⟩ := (rowAt_own (uh HO)).form
     by_cases hlt : j < 16
     ·have i2 : (j : Int) < 16 := by omega
      have i0' : (0 : Int) ≤ (j : Int) := by omega
      go_wp2_with (at_builtin; refine wpList_append_lies _ rfl _ _ _ rfl w.heap.size 39 i0 _ 5 96 Tryz.underlying28 hi hz0 hz1 hz2 rfl (by omega) (.slice oo (l.len + j) oc) (l.len + j) (xs ++ marksW markS j) rfl ((uh HO).alloc _) ⟨wr.heap.size, 0, none⟩ 1 1 (markS j) rfl rfl (World.news_of_block (cs := #[.int .i64 (-77 - (j : Int)), .string ⟨#[115, 112, 97, 114, 101]⟩, .slice none 0 0, .slice none 0 0, .slice none 0 0]) (t := 39) (fr := (0, 0)) (heap_alloc_new wr _)) (by simp [Value.oneCell', markS]) (by omega) (by unfold maxLen; omega) (by omega) (by have := (uh HK).size; simp; omega) (wr.heap.size + 1) (by simp) ?_; intro g6 c6 w6 hown6 hgr6 hat6 hlt6; have HO6 := hide hown6; have HG6 := hide hgr6; have HA6 := hide hat6; clear hown6 hgr6 hat6)
      go_roundw
      case rel =>
       have hk3 : Keeps (fun q => (Value.slice oo (l.len + j) oc).ownBlock = some q) wr w6 := ((Keeps.refl _ wr).alloc _).grown (uh HG6) (fun q e _ => e)
       have hol : ∀ q, (Value.slice oo (l.len + j) oc).ownBlock = some q → w.heap.size ≤ q ∧ q < wr.heap.size := fun q e => ((uh HO).lt q e)
       have hs6 : wr.heap.size + 1 ≤ w6.heap.size := by have := (uh HG6).size; simp at this; omega
       refine ⟨j + 1, by omega, by go_num, ?_, hide ((uh HCS).keep hk3 (fun q _ h e => ((uh HAQ) q h).2.2 e)), hide (fun q hq => ?_), hide ((uh HK).narrow hk3 (fun q e => (hol q e).1))⟩
       ·have := uh HO6
        rw [marks_snoc, ← List.append_assoc, ← Nat.add_assoc]
        exact this
       ·obtain ⟨a1, a2, a3⟩ := (uh HAQ) q hq
        refine ⟨a1, by omega, fun e => ?_⟩
        have e' : g6 = q := by simpa [Value.ownBlock] using e
        rcases uh HA6 with h | h
        ·exact a3 (by rw [h, e'])
        ·omega
      case measure => simp [intOf]; omega
     ·obtain rfl : j = 16 := by omega
      obtain ⟨g, cp, cur, e, hgl, hgb, hc⟩ : ∃ g cp cur, (Value.slice oo (l.len + 16) oc) = .slice (some ⟨g, 0, none⟩) (l.len + 16) cp ∧ w.heap.size ≤ g ∧ wr.heap[g]? = some (.cells cur 39 (0, 0)) ∧ l.len + 16 ≤ cp := by
       rcases (uh HO).2 with ⟨_, h0⟩ | ⟨g, cp, cur, a1, a2, a3, a4, _⟩
       ·omega
       ·exact ⟨g, cp, cur, a1, a2, a3, a4⟩
      simp only [Value.slice.injEq] at e
      obtain ⟨rfl, _, rfl⟩ := e
      have HWD : Hid (WtSl (fun q => w.heap.size ≤ q) wr (.slice (some ⟨g, 0, none⟩) l.len oc) l) := by
       obtain ⟨b2, off2, cap2, e2, hb2, hcc⟩ := (rowAt_own (uh HO)).cells (by omega)
       simp at e2
       obtain ⟨⟨rfl, rfl⟩, _⟩ := e2
       have hxs : xs.length = l.len * 5 := uh HLN
       refine ⟨g, oc, rfl, hc, hb2, hgl, fun j x hx => ?_, WtsIn.wtIn hb2 hgl (fun q _ h => ((uh HAQ) q h).1) (uh HCS) (fun j x hx => ?_)⟩
       ·have := hcc (l.len * 5 + j) x (by rw [List.getElem?_append_right (by omega), hxs]; simpa using hx)
        simpa using this
       ·have := hcc j x (by rw [List.getElem?_append_left (by have := (List.getElem?_eq_some_iff.1 hx).1; omega)]; exact hx)
        simpa using this
      have i2 : ¬ ((16 : Nat) : Int) < 16 := by omega
      have c1 : (l.len : Int) ≤ (oc : Int) := by omega
      have c2 : l.len ≤ oc := by omega
      go_wp2_with fail
      all_goals (go_ret; exact ⟨_, rfl, uh HWD, uh HK⟩)
   | cons op f ex th el rest =>
    obtain ⟨h1, h2, h3, h4, ⟨exv, h5, h5'⟩, ⟨tao, tcap, h6, h7, h8⟩, ⟨eao, ecap, k6, k7, k8⟩, h9⟩ := hr
    simp only [SL.len, SL.size] at hll hls
    have hkl : k + (rest.len + 1) = l.len := by omega
    have HKP := hide hkp
    obtain ⟨rfl, hp⟩ := (uh HA) (by omega)
    have HKX' := hide h5'
    have HKT : Hid (SlS Z w b (.slice tao th.len tcap) th) := ⟨tao, tcap, rfl, h7, h8⟩
    have HKE : Hid (SlS Z w b (.slice eao el.len ecap) el) := ⟨eao, ecap, rfl, k7, k8⟩
    have HR := hide h9
    have i1 : (k : Int) < (l.len : Int) := by omega
    have HLT : Hid (k < l.len) := hide (by omega)
    have HC := hide (fun (W' : World) (hk : Keeps (fun _ => False) wr W') => (⟨(((hkeep.trans hk).cell h1 id).trans h3), (((hkeep.trans hk).cell h1 id).trans h4), (((hkeep.trans hk).cell h1 id).trans h5), (((hkeep.trans hk).cell h1 id).trans h6), (((hkeep.trans hk).cell h1 id).trans k6)⟩ : W'.cell? ⟨b, off + k * 5, none⟩ = some (.int .i64 op) ∧ W'.cell? ⟨b, off + k * 5 + 1, none⟩ = some (str f) ∧ W'.cell? ⟨b, off + k * 5 + 2, none⟩ = some exv ∧ W'.cell? ⟨b, off + k * 5 + 3, none⟩ = some (.slice tao th.len tcap) ∧ W'.cell? ⟨b, off + k * 5 + 4, none⟩ = some (.slice eao el.len ecap)))
    have HIX := hide (fun (W' : World) (hk : Keeps (fun _ => False) wr W') => wideExprs_v Z (ex.size + 1) ex (by omega) (by omega) W' b _ ((uh HKX').keepF ((uh HK).trans hk)))
    have HIT := hide (fun (W' : World) (hk : Keeps (fun _ => False) wr W') => uh IH th (by omega) (by omega) W' b _ ((uh HKT).keepF ((uh HK).trans hk)))
    have HIE := hide (fun (W' : World) (hk : Keeps (fun _ => False) wr W') => uh IH el (by omega) (by omega) W' b _ ((uh HKE).keepF ((uh HK).trans hk)))
    have HB0 : Hid (w.heap.size ≤ wr.heap.size) := hkeep.size
    have HKX := hide (Keeps.refl (fun _ => False) wr)
    have hkb : k + 1 ≤ 4294967294 := by omega
    clear hown hcs hAq hkeep h1 h2 h3 h4 h5 h5' h6 h8 k6 k8 h9 happ hll hls hkp hp
    go_upto_region 5 with fail
    rename_i Q0 K0 hc0
    refine wp_region_two (X := wr) (by kernel_rfl) 31 rfl _ _ rfl rfl rfl rfl (by decide) (by decide) (by kernel_rfl) (by kernel_rfl) [12, 13, 14, 15, 16, 17, 18, 19, 20, 21, 22, 23, 24, 25, 26, 27, 28, 29, 30, 31, 32, 33, 34, 35, 36, 37, 38, 39, 40, 41, 42] (by decide) rfl (by first | rfl | kernel_rfl | simp [opsB]) (uh HKX) (fun i v W1 => match i with | 0 => v = .slice oo k oc | 1 => v = .slice (some ⟨b, off, none⟩) l.len cap | 2 => v = .int .i64 (k : Int) | 3 => v = .pointer (some ⟨b, off + k * 5, none⟩) | 4 => v = .pointer (some ⟨b, off + k * 5, none⟩) | 5 => v = .int .i64 op | 6 => v = .slice (some ⟨b, off, none⟩) l.len cap | 7 => v = .int .i64 (k : Int) | 8 => v = .pointer (some ⟨b, off + k * 5, none⟩) | 9 => v = .pointer (some ⟨b, off + k * 5 + 1, none⟩) | 10 => v = str f | 11 => v = .slice (some ⟨b, off, none⟩) l.len cap | 12 => v = .int .i64 (k : Int) | 13 => v = .pointer (some ⟨b, off + k * 5, none⟩) | 14 => v = .pointer (some ⟨b, off + k * 5 + 2, none⟩) | 15 => v = exv | 16 => WdSl (fun q => wr.heap.size ≤ q) W1 v ex | 17 => v = .slice (some ⟨b, off, none⟩) l.len cap | 18 => v = .int .i64 (k : Int) | 19 => v = .pointer (some ⟨b, off + k * 5, none⟩) | 20 => v = .pointer (some ⟨b, off + k * 5 + 3, none⟩) | 21 => v = .slice tao th.len tcap | 22 => WtSl (fun q => wr.heap.size ≤ q) W1 v th | 23 => v = .slice (some ⟨b, off, none⟩) l.len cap | 24 => v = .int .i64 (k : Int) | 25 => v = .pointer (some ⟨b, off + k * 5, none⟩) | 26 => v = .pointer (some ⟨b, off + k * 5 + 4, none⟩) | 27 => v = .slice eao el.len ecap | 28 => WtSl (fun q => wr.heap.size ≤ q) W1 v el | 29 => ∃ xv tv ev, v = .agg #[.int .i64 op, str f, xv, tv, ev] ∧ WdSl (fun q => wr.heap.size ≤ q) W1 xv ex ∧ WtSl (fun q => wr.heap.size ≤ q) W1 tv th ∧ WtSl (fun q => wr.heap.size ≤ q) W1 ev el | 30 => ∃ xv tv ev g, v = .slice (some ⟨g, 0, none⟩) 1 1 ∧ wr.heap.size ≤ g ∧ W1.heap[g]? = some (.cells #[.int .i64 op, str f, xv, tv, ev] 39 (0, 0)) ∧ WdSl (fun q => wr.heap.size ≤ q ∧ q < g) W1 xv ex ∧ WtSl (fun q => wr.heap.size ≤ q ∧ q < g) W1 tv th ∧ WtSl (fun q => wr.heap.size ≤ q ∧ q < g) W1 ev el | _ => True) ?_ ?_ ?_
    ·intro i v w1 w2 hq hk
     rcases i with _ | _ | _ | _ | _ | _ | _ | _ | _ | _ | _ | _ | _ | _ | _ | _ | _ | _ | _ | _ | _ | _ | _ | _ | _ | _ | _ | _ | _ | _ | _ | i
     all_goals first | exact hq | exact WdSl.keepF hq hk | exact WtSl.keepF hq hk | (obtain ⟨xv, tv, ev, q1, q2, q3, q4⟩ := hq; exact ⟨xv, tv, ev, q1, q2.keepF hk, q3.keepF hk, q4.keepF hk⟩) | (obtain ⟨xv, tv, ev, g, q1, q2, q3, q4, q5, q6⟩ := hq; exact ⟨xv, tv, ev, g, q1, q2, (hk.block _ (lt_of_block q3) id).trans q3, q4.keepF hk, q5.keepF hk, q6.keepF hk⟩)
    ·intro i o A W1 him ho hs hk hd K' hK
     rcases i with _ | _ | _ | _ | _ | _ | _ | _ | _ | _ | _ | _ | _ | _ | _ | _ | _ | _ | _ | _ | _ | _ | _ | _ | _ | _ | _ | _ | _ | _ | _ | i
     ·obtain rfl := Option.some.inj ho
      exact step_move rfl ((hs.at rfl 3 (by decide)).trans rfl) (hK _ _ rfl (Keeps.refl _ _))
     ·obtain rfl := Option.some.inj ho
      exact step_move rfl ((hs.at rfl 0 (by decide)).trans rfl) (hK _ _ rfl (Keeps.refl _ _))
     ·obtain rfl := Option.some.inj ho
      exact step_move rfl ((hs.at rfl 4 (by decide)).trans rfl) (hK _ _ rfl (Keeps.refl _ _))
     ·obtain rfl := Option.some.inj ho
      exact step_indexS rfl (hd ⟨1, .data⟩ (by simp) rfl) (hd ⟨2, .data⟩ (by simp) rfl) (uh HLT) (hK _ _ rfl (Keeps.refl _ _))
     ·obtain rfl := Option.some.inj ho
      exact step_fieldS0 rfl (hd ⟨3, .data⟩ (by simp) rfl) (hK _ _ rfl (Keeps.refl _ _))
     ·obtain rfl := Option.some.inj ho
      exact step_load3 rfl (hd ⟨4, .data⟩ (by simp) rfl) (uh HC W1 hk).1 (hK _ _ rfl (Keeps.refl _ _))
     ·obtain rfl := Option.some.inj ho
      exact step_move rfl ((hs.at rfl 0 (by decide)).trans rfl) (hK _ _ rfl (Keeps.refl _ _))
     ·obtain rfl := Option.some.inj ho
      exact step_move rfl ((hs.at rfl 4 (by decide)).trans rfl) (hK _ _ rfl (Keeps.refl _ _))
     ·obtain rfl := Option.some.inj ho
      exact step_indexS rfl (hd ⟨6, .data⟩ (by simp) rfl) (hd ⟨7, .data⟩ (by simp) rfl) (uh HLT) (hK _ _ rfl (Keeps.refl _ _))
     ·obtain rfl := Option.some.inj ho
      exact step_fieldS1 rfl (hd ⟨8, .data⟩ (by simp) rfl) (hK _ _ rfl (Keeps.refl _ _))
     ·obtain rfl := Option.some.inj ho
      exact step_load9 rfl (hd ⟨9, .data⟩ (by simp) rfl) (uh HC W1 hk).2.1 (hK _ _ rfl (Keeps.refl _ _))
     ·obtain rfl := Option.some.inj ho
      exact step_move rfl ((hs.at rfl 0 (by decide)).trans rfl) (hK _ _ rfl (Keeps.refl _ _))
     ·obtain rfl := Option.some.inj ho
      exact step_move rfl ((hs.at rfl 4 (by decide)).trans rfl) (hK _ _ rfl (Keeps.refl _ _))
     ·obtain rfl := Option.some.inj ho
      exact step_indexS rfl (hd ⟨11, .data⟩ (by simp) rfl) (hd ⟨12, .data⟩ (by simp) rfl) (uh HLT) (hK _ _ rfl (Keeps.refl _ _))
     ·obtain rfl := Option.some.inj ho
      exact step_fieldS2 rfl (hd ⟨13, .data⟩ (by simp) rfl) (hK _ _ rfl (Keeps.refl _ _))
     ·obtain rfl := Option.some.inj ho
      exact step_load25 rfl (hd ⟨14, .data⟩ (by simp) rfl) (uh HC W1 hk).2.2.1 (hK _ _ rfl (Keeps.refl _ _))
     ·obtain rfl := Option.some.inj ho
      exact step_c50 rfl (hd ⟨15, .data⟩ (by simp) rfl) (uh HIX W1 hk) (fun v' w' q1 q2 => hK v' w' (q1.mono (fun q _ (z : W1.heap.size ≤ q) => Nat.le_trans hk.size z)) q2)
     ·obtain rfl := Option.some.inj ho
      exact step_move rfl ((hs.at rfl 0 (by decide)).trans rfl) (hK _ _ rfl (Keeps.refl _ _))
     ·obtain rfl := Option.some.inj ho
      exact step_move rfl ((hs.at rfl 4 (by decide)).trans rfl) (hK _ _ rfl (Keeps.refl _ _))
     ·obtain rfl := Option.some.inj ho
      exact step_indexS rfl (hd ⟨17, .data⟩ (by simp) rfl) (hd ⟨18, .data⟩ (by simp) rfl) (uh HLT) (hK _ _ rfl (Keeps.refl _ _))
     ·obtain rfl := Option.some.inj ho
      exact step_fieldS3 rfl (hd ⟨19, .data⟩ (by simp) rfl) (hK _ _ rfl (Keeps.refl _ _))
     ·obtain rfl := Option.some.inj ho
      exact step_load28 rfl (hd ⟨20, .data⟩ (by simp) rfl) (uh HC W1 hk).2.2.2.1 (hK _ _ rfl (Keeps.refl _ _))
     ·obtain rfl := Option.some.inj ho
      exact step_c48 rfl (hd ⟨21, .data⟩ (by simp) rfl) (uh HIT W1 hk) (fun v' w' q1 q2 => hK v' w' (q1.mono (fun q _ (z : W1.heap.size ≤ q) => Nat.le_trans hk.size z)) q2)
     ·obtain rfl := Option.some.inj ho
      exact step_move rfl ((hs.at rfl 0 (by decide)).trans rfl) (hK _ _ rfl (Keeps.refl _ _))
     ·obtain rfl := Option.some.inj ho
      exact step_move rfl ((hs.at rfl 4 (by decide)).trans rfl) (hK _ _ rfl (Keeps.refl _ _))
     ·obtain rfl := Option.some.inj ho
      exact step_indexS rfl (hd ⟨23, .data⟩ (by simp) rfl) (hd ⟨24, .data⟩ (by simp) rfl) (uh HLT) (hK _ _ rfl (Keeps.refl _ _))
     ·obtain rfl := Option.some.inj ho
      exact step_fieldS4 rfl (hd ⟨25, .data⟩ (by simp) rfl) (hK _ _ rfl (Keeps.refl _ _))
     ·obtain rfl := Option.some.inj ho
      exact step_load28 rfl (hd ⟨26, .data⟩ (by simp) rfl) (uh HC W1 hk).2.2.2.2 (hK _ _ rfl (Keeps.refl _ _))
     ·obtain rfl := Option.some.inj ho
      exact step_c48 rfl (hd ⟨27, .data⟩ (by simp) rfl) (uh HIE W1 hk) (fun v' w' q1 q2 => hK v' w' (q1.mono (fun q _ (z : W1.heap.size ≤ q) => Nat.le_trans hk.size z)) q2)
     ·obtain rfl := Option.some.inj ho
      exact step_build39 rfl (hd ⟨5, .data⟩ (by simp) rfl) (hd ⟨10, .data⟩ (by simp) rfl) rfl rfl rfl (hd ⟨16, .data⟩ (by simp) rfl) (hd ⟨22, .data⟩ (by simp) rfl) (hd ⟨28, .data⟩ (by simp) rfl) (hK _ _ ⟨_, _, _, rfl, (hd ⟨16, .data⟩ (by simp) rfl), (hd ⟨22, .data⟩ (by simp) rfl), (hd ⟨28, .data⟩ (by simp) rfl)⟩ (Keeps.refl _ _))
     ·obtain rfl := Option.some.inj ho
      exact step_one39 rfl rfl (hd ⟨29, .data⟩ (by simp) rfl) hk.size (fun v' w' q1 q2 => hK v' w' q1 q2)
     ·omega
    ·intro A2 V hs hk hall K' hK
     obtain ⟨xv, tv, ev, g, e35, hg, hgb, hkx, hkt, hke⟩ : ∃ xv tv ev g, A2.tmps.getD 42 undef = .slice (some ⟨g, 0, none⟩) 1 1 ∧ wr.heap.size ≤ g ∧ V.heap[g]? = some (.cells #[.int .i64 op, str f, xv, tv, ev] 39 (0, 0)) ∧ WdSl (fun q => wr.heap.size ≤ q ∧ q < g) V xv ex ∧ WtSl (fun q => wr.heap.size ≤ q ∧ q < g) V tv th ∧ WtSl (fun q => wr.heap.size ≤ q ∧ q < g) V ev el := hall 30 (by decide)
     have w12 : A2.tmps.getD 12 undef = .slice oo k oc := hall 0 (by decide)
     have w13 : A2.tmps.getD 13 undef = .slice (some ⟨b, off, none⟩) l.len cap := hall 1 (by decide)
     have w14 : A2.tmps.getD 14 undef = .int .i64 (k : Int) := hall 2 (by decide)
     have w15 : A2.tmps.getD 15 undef = .pointer (some ⟨b, off + k * 5, none⟩) := hall 3 (by decide)
     have w16 : A2.tmps.getD 16 undef = .pointer (some ⟨b, off + k * 5, none⟩) := hall 4 (by decide)
     have w17 : A2.tmps.getD 17 undef = .int .i64 op := hall 5 (by decide)
     have w18 : A2.tmps.getD 18 undef = .slice (some ⟨b, off, none⟩) l.len cap := hall 6 (by decide)
     have w19 : A2.tmps.getD 19 undef = .int .i64 (k : Int) := hall 7 (by decide)
     have w20 : A2.tmps.getD 20 undef = .pointer (some ⟨b, off + k * 5, none⟩) := hall 8 (by decide)
     have w21 : A2.tmps.getD 21 undef = .pointer (some ⟨b, off + k * 5 + 1, none⟩) := hall 9 (by decide)
     have w22 : A2.tmps.getD 22 undef = str f := hall 10 (by decide)
     have w23 : A2.tmps.getD 23 undef = .slice (some ⟨b, off, none⟩) l.len cap := hall 11 (by decide)
     have w24 : A2.tmps.getD 24 undef = .int .i64 (k : Int) := hall 12 (by decide)
     have w25 : A2.tmps.getD 25 undef = .pointer (some ⟨b, off + k * 5, none⟩) := hall 13 (by decide)
     have w26 : A2.tmps.getD 26 undef = .pointer (some ⟨b, off + k * 5 + 2, none⟩) := hall 14 (by decide)
     have w27 : A2.tmps.getD 27 undef = exv := hall 15 (by decide)
     have w29 : A2.tmps.getD 29 undef = .slice (some ⟨b, off, none⟩) l.len cap := hall 17 (by decide)
     have w30 : A2.tmps.getD 30 undef = .int .i64 (k : Int) := hall 18 (by decide)
     have w31 : A2.tmps.getD 31 undef = .pointer (some ⟨b, off + k * 5, none⟩) := hall 19 (by decide)
     have w32 : A2.tmps.getD 32 undef = .pointer (some ⟨b, off + k * 5 + 3, none⟩) := hall 20 (by decide)
     have w33 : A2.tmps.getD 33 undef = .slice tao th.len tcap := hall 21 (by decide)
     have w35 : A2.tmps.getD 35 undef = .slice (some ⟨b, off, none⟩) l.len cap := hall 23 (by decide)
     have w36 : A2.tmps.getD 36 undef = .int .i64 (k : Int) := hall 24 (by decide)
     have w37 : A2.tmps.getD 37 undef = .pointer (some ⟨b, off + k * 5, none⟩) := hall 25 (by decide)
     have w38 : A2.tmps.getD 38 undef = .pointer (some ⟨b, off + k * 5 + 4, none⟩) := hall 26 (by decide)
     have w39 : A2.tmps.getD 39 undef = .slice eao el.len ecap := hall 27 (by decide)
     have hA := same_fold hs rfl
     simp only [List.foldl_cons, List.foldl_nil, w12, w13, w14, w15, w16, w17, w18, w19, w20, w21, w22, w23, w24, w25, w26, w27, w29, w30, w31, w32, w33, w35, w36, w37, w38, w39, e35] at hA
     simp only [Act.put, List.setIfInBounds_toArray, List.set_cons_zero, List.set_cons_succ] at hA
     have hOV := ownsRow_kept (uh HO) hk (fun _ _ => id)
     have hsz2 := hs.size
     have v12 : A2.tmps.getD 12 undef = .slice oo k oc := hall 0 (by decide)
     refine wp_append_lies V (.tmp 12) (.tmp 42) 28 rfl w.heap.size 39 i0 _ 5 96 Tryz.underlying28 hi hz0 hz1 hz2 rfl (by omega) (.slice oo k oc) k xs v12 hOV ⟨g, 0, none⟩ 1 1 [.int .i64 op, str f, xv, tv, ev] e35 rfl (World.news_of_block (cs := #[.int .i64 op, str f, xv, tv, ev]) (t := 39) (fr := (0, 0)) hgb) (by obtain ⟨_, _, rfl, _⟩ := hkx; obtain ⟨_, _, rfl, _⟩ := hkt; obtain ⟨_, _, rfl, _⟩ := hke; simp [Value.oneCell']) (by omega) (by unfold maxLen; omega) (by omega) (by have := hk.size; have := uh HB0; omega) V.heap.size rfl ?_
     intro g6 c6 w6 hown6 hgrow hat6 hlt6
     refine hK (A2.put (some 43) (.slice (some ⟨g6, 0, none⟩) (k + 1) c6)) w6 (fun K2 hK2 => ?_)
     refine step_assign rfl (put_get A2 43 _ (by rw [hsz2]; simp)) (hK2 ((A2.put (some 43) (.slice (some ⟨g6, 0, none⟩) (k + 1) c6)).put (some 3) (.slice (some ⟨g6, 0, none⟩) (k + 1) c6)) w6 (hc0 _ _ ?_))
     have HO6 := hide hown6
     have HGR := hide hgrow
     have HAT := hide hat6
     have HKR := hide hk
     have HVX := hide hkx
     have HVT := hide hkt
     have HVE := hide hke
     have HGB := hide hgb
     have HG := hide hg
     rw [hA]
     generalize A2.tmps.getD 28 undef = u28 at *
     generalize A2.tmps.getD 34 undef = u34 at *
     generalize A2.tmps.getD 40 undef = u40 at *
     generalize A2.tmps.getD 41 undef = u41 at *
     clear hs hall hK hK2 hA hown6 hgrow hat6 hk hkx hkt hke hgb hg hOV e35 v12 hsz2 w12 w13 w14 w15 w16 w17 w18 w19 w20 w21 w22 w23 w24 w25 w26 w27 w29 w30 w31 w32 w33 w35 w36 w37 w38 w39
     simp only [Act.put, List.setIfInBounds_toArray, List.set_cons_zero, List.set_cons_succ]
     go_wp2_with fail
     go_roundw
     case rel =>
      have hgr := uh HGR
      have hk3 : Keeps (fun q => (Value.slice oo k oc).ownBlock = some q) V w6 := (Keeps.refl _ V).grown hgr (fun q e _ => e)
      have hk2 : Keeps (fun q => (Value.slice oo k oc).ownBlock = some q) wr w6 := (uh HKR).any.trans hk3
      have hkw : Keeps (fun _ => False) w w6 := (uh HK).narrow hk2 (fun q e => ((uh HO).lt q e).1)
      have hol : ∀ q, (Value.slice oo k oc).ownBlock = some q → q < wr.heap.size := fun q e => ((uh HO).lt q e).2
      have hgV := lt_of_block (uh HGB)
      have hrV := (uh HKR).size
      have c1 := WtsIn.mono (B := fun q => A q ∨ (wr.heap.size ≤ q ∧ q < g)) (fun _ _ h => Or.inl h) ((uh HCS).keep hk2 (fun q _ h e => ((uh HAQ) q h).2.2 e))
      have c2 : WdSl (fun q => A q ∨ (wr.heap.size ≤ q ∧ q < g)) w6 xv ex := ((uh HVX).keep hk3 (fun q _ h e => by have := hol q e; omega)).mono (fun _ _ h => Or.inr h)
      have c3 : WtSl (fun q => A q ∨ (wr.heap.size ≤ q ∧ q < g)) w6 tv th := ((uh HVT).keep hk3 (fun q _ h e => by have := hol q e; omega)).mono (fun _ _ h => Or.inr h)
      have c4 : WtSl (fun q => A q ∨ (wr.heap.size ≤ q ∧ q < g)) w6 ev el := ((uh HVE).keep hk3 (fun q _ h e => by have := hol q e; omega)).mono (fun _ _ h => Or.inr h)
      have hs6 : V.heap.size ≤ w6.heap.size := hgr.size
      refine ⟨pre.app (.cons op f ex th el .nil), rest, k + 1, _, _, by go_num, ?_, ?_, uh HO6, c1.snoc c2 c3 c4, fun q hq => ?_, hkw, ?_⟩
      ·rw [app_oneT]; exact uh HAPP
      ·rw [SL.len_app, uh HKP]; rfl
      ·have hb0 := uh HB0
       rcases hq with hq | hq
       ·obtain ⟨a1, a2, a3⟩ := (uh HAQ) q hq
        refine ⟨a1, by omega, fun e => ?_⟩
        have e' : g6 = q := by simpa [Value.ownBlock] using e
        rcases uh HAT with h | h
        ·exact a3 (by rw [h, e'])
        ·omega
       ·refine ⟨by omega, by omega, fun e => ?_⟩
        have e' : g6 = q := by simpa [Value.ownBlock] using e
        rcases uh HAT with h | h
        ·have := hol _ h; omega
        ·omega
      ·rw [show off + (k + 1) * 5 = off + k * 5 + 5 by omega]
       exact uh HR
     case measure => simp [intOf]; omega
end Go.Proofs.YtiinohibmcefkaaGreatDoor
namespace Go.Proofs.YtiinohibmcefkaaGreatDoor
open Go.RowKit Go.Maps
set_option maxRecDepth 100000
set_option maxHeartbeats 8000000
def PtAt (w : World) (v : Value) (ls : List SL) : Prop :=
 ∃ ao cap, v = .slice ao ls.length cap ∧ (0 < ls.length → ∃ b, ao = some ⟨b, 0, none⟩ ∧ b < w.heap.size ∧ ∀ (i : Nat) l, ls[i]? = some l → ∃ g c, w.cell? ⟨b, i, none⟩ = some (.slice (some ⟨g, 0, none⟩) l.len c) ∧ WtSl (fun _ => True) w (.slice (some ⟨g, 0, none⟩) l.len c) l)
theorem PtAt.keepF {w w' : World} {v : Value} {ls : List SL} (h : PtAt w v ls) (hk : Keeps (fun _ => False) w w') : PtAt w' v ls := by
 obtain ⟨ao, cap, e, h1⟩ := h
 refine ⟨ao, cap, e, fun h0 => ?_⟩
 obtain ⟨b, e1, hb, h2⟩ := h1 h0
 refine ⟨b, e1, Nat.lt_of_lt_of_le hb hk.size, fun i l hl => ?_⟩
 obtain ⟨g, c, h3, h4⟩ := h2 i l hl
 exact ⟨g, c, (hk.cell hb id).trans h3, h4.keepF hk⟩
structure GivP (w : World) (p : Nat) (S : List FieldA) (l : EL) (ls : List SL) (h : Bool) (vals : List ValA) (gs ks ge ke : Nat) (go : Option Addr) (kp gr kr : Nat) : Prop where
 blk : w.heap[p]? = some (.cells #[.slice (some ⟨gs, 0, none⟩) S.length ks, .slice (some ⟨ge, 0, none⟩) l.len ke, .slice go ls.length kp, .bool h, .slice (some ⟨gr, 0, none⟩) vals.length kr] 63 (0, 0))
 s : Wide w (.slice (some ⟨gs, 0, none⟩) S.length ks) 3 S.length (fcs S) markF
 e : WdSl (fun _ => True) w (.slice (some ⟨ge, 0, none⟩) l.len ke) l
 p : PtAt w (.slice go ls.length kp) ls
 r : Wide w (.slice (some ⟨gr, 0, none⟩) vals.length kr) 3 vals.length (vcs vals) markV
theorem GivP.keepF {w w' : World} {p : Nat} {S : List FieldA} {l : EL} {ls : List SL} {h : Bool} {vals : List ValA} {gs ks ge ke : Nat} {go : Option Addr} {kp gr kr : Nat} (H : GivP w p S l ls h vals gs ks ge ke go kp gr kr) (hk : Keeps (fun _ => False) w w') : GivP w' p S l ls h vals gs ks ge ke go kp gr kr :=
 ⟨(hk.block _ (lt_of_block H.blk) id).trans H.blk, H.s.keepF hk, H.e.keepF hk, H.p.keepF hk, H.r.keepF hk⟩
section
variable {Q : Exit → Act → World → Prop} {K : Act → World → Prop} {o : Oper} {a : Act} {w : World}
theorem step_build63p {t0 t1 t2 t3 : Nat} {v0 v1 v3 : Value} {S : List FieldA} {l : EL} {ls : List SL} {h : Bool} {vals : List ValA} {qo : Option Addr} {qc : Nat} (ho : o.op = .build 63 #[(0, .tmp t0), (1, .tmp t1), (2, .tmp t2), (3, .tmp t3)]) (h0 : a.tmps.getD t0 undef = v0) (h1 : a.tmps.getD t1 undef = v1) (h2 : a.tmps.getD t2 undef = .slice qo ls.length qc) (h3 : a.tmps.getD t3 undef = v3)
  (k0 : ∃ gs ks, v0 = .agg #[.slice (some ⟨gs, 0, none⟩) S.length ks] ∧ Wide w (.slice (some ⟨gs, 0, none⟩) S.length ks) 3 S.length (fcs S) markF) (k1 : WdSl (fun _ => True) w v1 l) (k2 : PtAt w (.slice qo ls.length qc) ls) (k3 : ∃ gr kr, v3 = .agg #[.bool h, .slice (some ⟨gr, 0, none⟩) vals.length kr] ∧ Wide w (.slice (some ⟨gr, 0, none⟩) vals.length kr) 3 vals.length (vcs vals) markV)
  (hk : ∀ v, (∃ gs ks ge ke go kp gr kr, v = .agg #[.slice (some ⟨gs, 0, none⟩) S.length ks, .slice (some ⟨ge, 0, none⟩) l.len ke, .slice go ls.length kp, .bool h, .slice (some ⟨gr, 0, none⟩) vals.length kr] ∧ Wide w (.slice (some ⟨gs, 0, none⟩) S.length ks) 3 S.length (fcs S) markF ∧ WdSl (fun _ => True) w (.slice (some ⟨ge, 0, none⟩) l.len ke) l ∧ PtAt w (.slice go ls.length kp) ls ∧ Wide w (.slice (some ⟨gr, 0, none⟩) vals.length kr) 3 vals.length (vcs vals) markV) → K (a.put o.dst v) w) : Oper.wp Tryz.prog o a w K Q := by
 obtain ⟨gs, ks, rfl, q0⟩ := k0
 obtain ⟨gr, kr, rfl, q3⟩ := k3
 have k1' := k1
 obtain ⟨ge, ke, rfl, _⟩ := k1
 have e0 := slot_of h0
 have e1 := slot_of h1
 have e2 := slot_of h2
 have e3 := slot_of h3
 unfold Oper.wp
 simp [execOp, ho, e0, e1, e2, e3, go_sem]
 exact hk _ ⟨gs, ks, ge, ke, qo, qc, gr, kr, rfl, q0, k1', k2, q3⟩
theorem step_box63p {t : Nat} {v : Value} {S : List FieldA} {l : EL} {ls : List SL} {h : Bool} {vals : List ValA} (ho : o.op = .box 63 (.tmp t)) (ht : a.tmps.getD t undef = v) (kv : ∃ gs ks ge ke go kp gr kr, v = .agg #[.slice (some ⟨gs, 0, none⟩) S.length ks, .slice (some ⟨ge, 0, none⟩) l.len ke, .slice go ls.length kp, .bool h, .slice (some ⟨gr, 0, none⟩) vals.length kr] ∧ Wide w (.slice (some ⟨gs, 0, none⟩) S.length ks) 3 S.length (fcs S) markF ∧ WdSl (fun _ => True) w (.slice (some ⟨ge, 0, none⟩) l.len ke) l ∧ PtAt w (.slice go ls.length kp) ls ∧ Wide w (.slice (some ⟨gr, 0, none⟩) vals.length kr) 3 vals.length (vcs vals) markV)
  (hk : ∀ v' w', (∃ p, v' = .pointer (some ⟨p, 0, none⟩) ∧ ∃ gs ks ge ke go kp gr kr, GivP w' p S l ls h vals gs ks ge ke go kp gr kr) → Keeps (fun _ => False) w w' → K (a.put o.dst v') w') : Oper.wp Tryz.prog o a w K Q := by
 obtain ⟨gs, ks, ge, ke, go, kp, gr, kr, rfl, q0, q1, q2, q3⟩ := kv
 have he := slot_of ht
 have hA := kAlloc w (.cells #[.slice (some ⟨gs, 0, none⟩) S.length ks, .slice (some ⟨ge, 0, none⟩) l.len ke, .slice go ls.length kp, .bool h, .slice (some ⟨gr, 0, none⟩) vals.length kr] 63)
 unfold Oper.wp
 simp [execOp, ho, he, go_sem]
 exact hk _ _ ⟨w.heap.size, rfl, gs, ks, ge, ke, go, kp, gr, kr, heap_alloc_new w _, q0.keepF hA, q1.keepF hA, q2.keepF hA, q3.keepF hA⟩ hA
end
theorem info28T : (Tryz.prog.info? 28).map (fun i => (i.zero, i.size, i.bytes)) = some (some (.slice none 0 0), 1, 24) := by kernel_rfl
theorem givenP_v (Z Y : Zone) (S : List FieldA) (l : EL) (ls : List SL) (h : Bool) (vals : List ValA) (sv lv pv u : Value) (w : World) (up uq : Nat) (hf : FldsAt w sv S) (hx : SlE Z w up lv l) (hp : PsAt Y w uq pv ls) (hu : ValsAt w u vals) (lS : S.length ≤ 1048576) (hls : l.size ≤ 4294967294) (lp : ls.length ≤ 1048576) (hps : ∀ m ∈ ls, m.size ≤ 4294967294) (lr : vals.length ≤ 1048576) :
  Calls Tryz.prog 23 #[.agg #[sv], lv, pv, .agg #[.bool h, u]] w fun e w' => ∃ p gs ks ge ke go kp gr kr, e = .returned (.pointer (some ⟨p, 0, none⟩)) ∧ GivP w' p S l ls h vals gs ks ge ke go kp gr kr ∧ Keeps (fun _ => False) w w' := by
 obtain ⟨so, sc, rfl⟩ := RowAt.form hf
 obtain ⟨uo, uc, rfl⟩ := RowAt.form hu
 obtain ⟨lo, lc, rfl, _⟩ := hx.head
 obtain ⟨po, pc, rfl, hpp⟩ := hp
 obtain ⟨i0, hi, hz0, hz1, hz2⟩ := info_parts info28T
 obtain ⟨W, hW, hkW, g0, g1⟩ := boxA2 w #[(.slice so S.length sc)] #[.bool h, (.slice uo vals.length uc)] 24 31
 have HKW0 := hide hkW
 have G0 := hide g0
 have G1 := hide g1
 have HFL := hide hf
 have HVA := hide hu
 have HX := hide hx
 have HLS := hide hls
 have HPP := hide hpp
 have HPS := hide hps
 clear hf hu hx g0 g1 hkW hls hpp hps
 go_enter Tryz.func23, Tryz.ntmps23
 go_wp2_with fail
 go_loopw [9, 10] (fun o i wr => ∃ (k : Nat) (xs : List Value) (A : Nat → Prop), k ≤ ls.length ∧ i = .int .i64 k ∧ xs.length = k ∧ wr.ownsRow W.heap.size 28 1 o k xs ∧ Hid (∀ (j : Nat) x, xs[j]? = some x → ∃ m, ls[j]? = some m ∧ WtSl A wr x m) ∧ Hid (∀ q, A q → q < wr.heap.size ∧ o.ownBlock ≠ some q) ∧ Keeps (fun _ => False) W wr) (fun _ i _ => ls.length - (intOf i).toNat)
 case atStart => exact ⟨0, [], fun _ => False, Nat.zero_le _, rfl, rfl, World.ownsRow_nil W W.heap.size 28 1, fun j x hx => by simp at hx, fun q h => h.elim, Keeps.refl _ _⟩
 case round =>
  obtain ⟨k, xs, A, hkl, rfl, hxl, hown, HXS, HAQ, hkp⟩ := hrel
  obtain ⟨oo, oc, rfl⟩ := (rowAt_own hown).form
  have HO := hide hown
  have HK := hide hkp
  have HXL := hide hxl
  by_cases hlt : k < ls.length
  ·obtain ⟨m, hm⟩ : ∃ m, ls[k]? = some m := ⟨_, List.getElem?_eq_getElem hlt⟩
   obtain ⟨b, off, rfl, hb, hc⟩ := uh HPP (by omega)
   obtain ⟨qv, hq1, hq2⟩ := hc k m hm
   have hKw := (uh HKW0).trans hkp
   have c0 := (hKw.cell hb id).trans hq1
   obtain ⟨qo, qc, rfl, _⟩ := hq2.head
   have HC := hide (wideStmts_v Y (m.size + 1) m (by omega) (uh HPS m (List.mem_of_getElem? hm)) wr uq _ (hq2.keepF hKw))
   have i1 : (k : Int) < (ls.length : Int) := by omega
   have i0' : (0 : Int) ≤ (k : Int) := by omega
   have HM := hide hm
   clear hown hkp hxl hm hq1 hq2 hc hKw
   go_wp2_with fail
   refine (uh HC).mono ?_
   rintro e w2 ⟨v2, rfl, hv2, hk2⟩
   have HV2 := hide hv2
   have HK2 := hide hk2
   obtain ⟨g2, c2, rfl, _⟩ := hv2
   clear hk2 c0 HC
   have HO2 := hide (ownsRow_kept (uh HO) (uh HK2) (fun _ _ => id))
   have HB2 : Hid (W.heap.size ≤ w2.heap.size) := Nat.le_trans (uh HK).size (uh HK2).size
   go_wp2_with (at_builtin; refine wpList_append_lies _ rfl _ _ _ rfl W.heap.size 28 i0 _ 1 24 Tryz.underlying61 hi hz0 hz1 hz2 rfl (by omega) (.slice oo k oc) k xs rfl ((uh HO2).alloc _) ⟨w2.heap.size, 0, none⟩ 1 1 [.slice (some ⟨g2, 0, none⟩) m.len c2] rfl rfl (World.news_of_block (cs := #[.slice (some ⟨g2, 0, none⟩) m.len c2]) (t := 28) (fr := (0, 0)) (heap_alloc_new w2 _)) (by simp [Value.oneCell']) (by omega) (by unfold maxLen; omega) (by omega) (by have := uh HB2; simp; omega) (w2.heap.size + 1) (by simp) ?_; intro g6 c6 w6 hown6 hgr6 hat6 hlt6; have HO6 := hide hown6; have HG6 := hide hgr6; have HA6 := hide hat6; clear hown6 hgr6 hat6)
   go_roundw
   case rel =>
    have hk3 : Keeps (fun q => (Value.slice oo k oc).ownBlock = some q) w2 w6 := ((Keeps.refl _ w2).alloc _).grown (uh HG6) (fun q e _ => e)
    have hk4 : Keeps (fun q => (Value.slice oo k oc).ownBlock = some q) wr w6 := (uh HK2).any.trans hk3
    have hol : ∀ q, (Value.slice oo k oc).ownBlock = some q → W.heap.size ≤ q ∧ q < wr.heap.size := fun q e => ((uh HO).lt q e)
    have hs6 : w2.heap.size + 1 ≤ w6.heap.size := by have := (uh HG6).size; simp at this; omega
    have hrw := (uh HK2).size
    refine ⟨k + 1, xs ++ [.slice (some ⟨g2, 0, none⟩) m.len c2], fun q => A q ∨ (wr.heap.size ≤ q ∧ q < w2.heap.size), by omega, by go_num, by simp [uh HXL], uh HO6, fun j x hx => ?_, fun q hq => ?_, (uh HK).narrow hk4 (fun q e => (hol q e).1)⟩
    ·by_cases hj : j < xs.length
     ·rw [List.getElem?_append_left hj] at hx
      obtain ⟨m', e1, e2⟩ := uh HXS j x hx
      exact ⟨m', e1, (e2.keep hk4 (fun q _ h e => (uh HAQ q h).2 e)).mono (fun _ _ h => Or.inl h)⟩
     ·rw [List.getElem?_append_right (by omega)] at hx
      have hj0 : j - xs.length = 0 := by
       have := (List.getElem?_eq_some_iff.1 hx).1
       simp at this
       omega
      rw [hj0] at hx
      simp at hx
      subst hx
      have : j = k := by have := uh HXL; omega
      subst this
      exact ⟨m, uh HM, ((((uh HV2).mono (fun q hq z => (⟨z, hq⟩ : wr.heap.size ≤ q ∧ q < w2.heap.size))).keep hk3 (fun q _ h e => by have := hol q e; omega))).mono (fun _ _ h => Or.inr h)⟩
    ·rcases hq with hq | ⟨h1, h2⟩
     ·obtain ⟨a1, a2⟩ := uh HAQ q hq
      refine ⟨by omega, fun e => ?_⟩
      have e' : g6 = q := by simpa [Value.ownBlock] using e
      rcases uh HA6 with h | h
      ·exact a2 (by rw [h, e'])
      ·omega
     ·refine ⟨by omega, fun e => ?_⟩
      have e' : g6 = q := by simpa [Value.ownBlock] using e
      rcases uh HA6 with h | h
      ·have := hol g6 h
       omega
      ·omega
   case measure => simp [intOf]; omega
  ·obtain rfl : k = ls.length := by omega
   have i1 : ¬ (ls.length : Int) < (ls.length : Int) := by omega
   have HKW := hide ((uh HKW0).trans hkp)
   have H0 := hide (fun (W' : World) (hk : Keeps (fun _ => False) wr W') => blk_keep (blk_keep (uh G0) (uh HK)) hk)
   have H1 := hide (fun (W' : World) (hk : Keeps (fun _ => False) wr W') => blk_keep (blk_keep (uh G1) (uh HK)) hk)
   have HKX := hide (Keeps.refl (fun _ => False) wr)
   have HPT : Hid (PtAt wr (.slice oo ls.length oc) ls) := by
    refine ⟨oo, oc, rfl, fun h0 => ?_⟩
    obtain ⟨b2, off2, cap2, e2, hb2, hcc⟩ := (rowAt_own hown).cells (by omega)
    obtain ⟨g, cp, cur, e, _⟩ : ∃ g cp cur, (Value.slice oo ls.length oc) = .slice (some ⟨g, 0, none⟩) ls.length cp ∧ wr.heap[g]? = some (.cells cur 28 (0, 0)) := by
     rcases hown.2 with ⟨_, h0'⟩ | ⟨g, cp, cur, a1, a2, a3, a4, _⟩
     ·omega
     ·exact ⟨g, cp, cur, a1, a3⟩
    simp only [Value.slice.injEq] at e
    obtain ⟨rfl, _, rfl⟩ := e
    simp at e2
    obtain ⟨⟨rfl, rfl⟩, _⟩ := e2
    refine ⟨g, rfl, hb2, fun i l' hl => ?_⟩
    have hil : i < xs.length := by have := (List.getElem?_eq_some_iff.1 hl).1; omega
    obtain ⟨x, hx⟩ : ∃ x, xs[i]? = some x := ⟨_, List.getElem?_eq_getElem hil⟩
    obtain ⟨m, e1, e2⟩ := uh HXS i x hx
    rw [hl] at e1
    simp at e1
    subst e1
    have e3 := e2.mono (fun _ _ _ => trivial) (B := fun _ => True)
    obtain ⟨g3, c3, rfl, _⟩ := e2
    refine ⟨g3, c3, ?_, e3⟩
    have := hcc i _ hx
    simpa using this
   clear hown hkp hxl HXS HAQ HO
   go_upto_region 6 with fail
   rename_i Q0 K0 hc0
   refine wp_region_table (X := wr) (by kernel_rfl) [25, 26, 27, 28, 29, 30, 31, 32, 33, 8] (by decide) rfl (by first | rfl | kernel_rfl | simp [opsB]) (uh HKX) (fun i v W1 => match i with | 0 => v = .agg #[(.slice so S.length sc)] | 1 => ∃ gs ks, v = .agg #[.slice (some ⟨gs, 0, none⟩) S.length ks] ∧ Wide W1 (.slice (some ⟨gs, 0, none⟩) S.length ks) 3 S.length (fcs S) markF | 2 => v = (.slice lo l.len lc) | 3 => WdSl (fun _ => True) W1 v l | 4 => v = .slice oo ls.length oc | 5 => v = .agg #[.bool h, (.slice uo vals.length uc)] | 6 => ∃ gr kr, v = .agg #[.bool h, .slice (some ⟨gr, 0, none⟩) vals.length kr] ∧ Wide W1 (.slice (some ⟨gr, 0, none⟩) vals.length kr) 3 vals.length (vcs vals) markV | 7 => ∃ gs ks ge ke go kp gr kr, v = .agg #[.slice (some ⟨gs, 0, none⟩) S.length ks, .slice (some ⟨ge, 0, none⟩) l.len ke, .slice go ls.length kp, .bool h, .slice (some ⟨gr, 0, none⟩) vals.length kr] ∧ Wide W1 (.slice (some ⟨gs, 0, none⟩) S.length ks) 3 S.length (fcs S) markF ∧ WdSl (fun _ => True) W1 (.slice (some ⟨ge, 0, none⟩) l.len ke) l ∧ PtAt W1 (.slice go ls.length kp) ls ∧ Wide W1 (.slice (some ⟨gr, 0, none⟩) vals.length kr) 3 vals.length (vcs vals) markV | 8 => ∃ p, v = .pointer (some ⟨p, 0, none⟩) ∧ ∃ gs ks ge ke go kp gr kr, GivP W1 p S l ls h vals gs ks ge ke go kp gr kr | 9 => ∃ p, v = .pointer (some ⟨p, 0, none⟩) ∧ ∃ gs ks ge ke go kp gr kr, GivP W1 p S l ls h vals gs ks ge ke go kp gr kr | _ => True) ?_ ?_ ?_
   ·intro i v w1 w2 hq hk
    rcases i with _ | _ | _ | _ | _ | _ | _ | _ | _ | _ | i
    all_goals first | exact hq | exact WdSl.keepF hq hk | (obtain ⟨q1, q2, q3, q4⟩ := hq; exact ⟨q1, q2, q3, q4.keepF hk⟩) | (obtain ⟨a1, a2, a3, a4, a5, a6, a7, a8, q1, q2, q3, q5, q4⟩ := hq; exact ⟨a1, a2, a3, a4, a5, a6, a7, a8, q1, q2.keepF hk, q3.keepF hk, q5.keepF hk, q4.keepF hk⟩) | (obtain ⟨p, q1, a1, a2, a3, a4, a5, a6, a7, a8, q2⟩ := hq; exact ⟨p, q1, a1, a2, a3, a4, a5, a6, a7, a8, q2.keepF hk⟩)
   ·intro i o A W1 ho hs hk hd K' hK
    rcases i with _ | _ | _ | _ | _ | _ | _ | _ | _ | _ | i
    ·obtain rfl := Option.some.inj ho
     exact step_load24 rfl ((hs.at rfl 4 (by decide)).trans rfl) (uh H0 W1 hk) (hK _ _ rfl (Keeps.refl _ _))
    ·obtain rfl := Option.some.inj ho
     exact step_c49 rfl (hd ⟨0, .data⟩ (by simp) rfl) (wideSchema_v W1 (.slice so S.length sc) S ((uh HFL).keepF ((uh HKW).trans hk)) lS) (fun gs ks w' q1 q2 => hK _ w' ⟨gs, ks, rfl, q1⟩ q2)
    ·obtain rfl := Option.some.inj ho
     exact step_move rfl ((hs.at rfl 1 (by decide)).trans rfl) (hK _ _ rfl (Keeps.refl _ _))
    ·obtain rfl := Option.some.inj ho
     exact step_c50 rfl (hd ⟨2, .data⟩ (by simp) rfl) (wideExprs_v Z (l.size + 1) l (by omega) (uh HLS) W1 up (.slice lo l.len lc) ((uh HX).keepF ((uh HKW).trans hk))) (fun v' w' q1 q2 => hK v' w' (q1.mono (fun _ _ _ => trivial)) q2)
    ·obtain rfl := Option.some.inj ho
     exact step_move rfl ((hs.at rfl 9 (by decide)).trans rfl) (hK _ _ rfl (Keeps.refl _ _))
    ·obtain rfl := Option.some.inj ho
     exact step_load31 rfl ((hs.at rfl 7 (by decide)).trans rfl) (uh H1 W1 hk) (hK _ _ rfl (Keeps.refl _ _))
    ·obtain rfl := Option.some.inj ho
     exact step_c51 rfl (hd ⟨5, .data⟩ (by simp) rfl) (wideRow_v W1 h (.slice uo vals.length uc) vals ((uh HVA).keepF ((uh HKW).trans hk)) lr) (fun gr kr w' q1 q2 => hK _ w' ⟨gr, kr, rfl, q1⟩ q2)
    ·obtain rfl := Option.some.inj ho
     exact step_build63p rfl rfl rfl (hd ⟨4, .data⟩ (by simp) rfl) rfl (hd ⟨1, .data⟩ (by simp) rfl) (hd ⟨3, .data⟩ (by simp) rfl) ((uh HPT).keepF hk) (hd ⟨6, .data⟩ (by simp) rfl) (fun v' q => hK v' _ q (Keeps.refl _ _))
    ·obtain rfl := Option.some.inj ho
     exact step_box63p rfl rfl (hd ⟨7, .data⟩ (by simp) rfl) (fun v' w' q1 q2 => hK v' w' q1 q2)
    ·obtain rfl := Option.some.inj ho
     exact step_assign rfl rfl (hK _ _ (hd ⟨8, .data⟩ (by simp) rfl) (Keeps.refl _ _))
    ·simp at ho
   ·intro A V hs hk hall
    obtain ⟨p, e8, gs, ks, ge, ke, go, kp, gr, kr, hG⟩ : ∃ p, A.tmps.getD 8 undef = .pointer (some ⟨p, 0, none⟩) ∧ ∃ gs ks ge ke go kp gr kr, GivP V p S l ls h vals gs ks ge ke go kp gr kr := hall 9 (by decide)
    refine hc0 _ _ ?_
    have hA := same_fold hs rfl
    simp only [List.foldl_cons, List.foldl_nil, e8] at hA
    simp only [Act.put, List.setIfInBounds_toArray, List.set_cons_zero, List.set_cons_succ] at hA
    have HG := hide hG
    have HKE := hide ((uh HKW).trans hk)
    rw [hA]
    clear hs hk hall hA hG e8
    go_wp2_with fail
    go_ret
    first | exact ⟨p, gs, ks, ge, ke, go, kp, gr, kr, rfl, uh HG, uh HKE⟩ | exact ⟨p, rfl, ⟨gs, ks, ge, ke, go, kp, gr, kr, uh HG⟩, uh HKE⟩
end Go.Proofs.YtiinohibmcefkaaGreatDoor
namespace Go.Proofs.YtiinohibmcefkaaGreatDoor
open Go.RowKit Go.Maps
theorem cl5 {w : World} {b : Nat} {c0 c1 c2 c3 c4 : Value} {t : TypeId} (h : w.heap[b]? = some (.cells #[c0, c1, c2, c3, c4] t (0, 0))) : w.cell? ⟨b, 0, none⟩ = some c0 ∧ w.cell? ⟨b, 1, none⟩ = some c1 ∧ w.cell? ⟨b, 2, none⟩ = some c2 ∧ w.cell? ⟨b, 3, none⟩ = some c3 ∧ w.cell? ⟨b, 4, none⟩ = some c4 :=
 ⟨(cB h _).trans rfl, (cB h _).trans rfl, (cB h _).trans rfl, (cB h _).trans rfl, (cB h _).trans rfl⟩
end Go.Proofs.YtiinohibmcefkaaGreatDoor
namespace Go.Proofs.YtiinohibmcefkaaGreatDoor
open Go.RowKit Go.Maps
set_option maxRecDepth 100000
set_option maxHeartbeats 8000000
theorem MarksS.at {w : World} {g o : Nat} (h : MarksS w g o) {j : Nat} (hj : j < 16) : w.cell? ⟨g, o + j * 5, none⟩ = some (.int .i64 (-77 - (j : Int))) ∧ w.cell? ⟨g, o + j * 5 + 1, none⟩ = some (.string ⟨#[115, 112, 97, 114, 101]⟩) ∧ w.cell? ⟨g, o + j * 5 + 2, none⟩ = some (.slice none 0 0) ∧ w.cell? ⟨g, o + j * 5 + 3, none⟩ = some (.slice none 0 0) ∧ w.cell? ⟨g, o + j * 5 + 4, none⟩ = some (.slice none 0 0) := by
 have key : ∀ r x, (markS j)[r]? = some x → w.cell? ⟨g, o + j * 5 + r, none⟩ = some x := fun r x hx => by
  have := h (j * 5 + r) x (marks_get (f := markS) (sz := 5) (fun _ => rfl) hj hx)
  rwa [← Nat.add_assoc] at this
 exact ⟨key 0 _ rfl, key 1 _ rfl, key 2 _ rfl, key 3 _ rfl, key 4 _ rfl⟩
theorem spareStmts_v (A : Nat → Prop) (N : Nat) : ∀ (l : SL), l.size < N → l.size ≤ 4294967294 → ∀ (w : World) (v : Value), WtSl A w v l → Calls Tryz.prog 58 #[v] w fun e w' => e = .returned (.bool true) ∧ Keeps (fun _ => False) w w' := by
 induction N with
 | zero => intro l h; omega
 | succ N ih =>
  intro l hsz hlen' w v hS
  have hlen : l.len ≤ 4294967294 := by have := SL.len_le l; omega
  obtain ⟨g, cap, rfl, hcap, hg, hA, hm, hin⟩ := hS
  have IH := hide ih
  have HM := hide hm
  have HIN := hide hin
  have HG := hide hg
  have c1 : (l.len : Int) + 16 ≤ (cap : Int) := by omega
  have c2 : l.len + 16 ≤ cap := by omega
  have c0 : (0 : Int) ≤ (l.len : Int) + 16 := by omega
  clear ih hm hin hg hA
  go_enter Tryz.func58, Tryz.ntmps58
  go_wp2_with fail
  go_loopw [4] (fun i wr => ∃ j : Nat, j ≤ 16 ∧ i = .int .i64 (j : Int) ∧ Hid (Keeps (fun _ => False) w wr)) (fun i _ => 16 - (intOf i).toNat)
  case atStart => exact ⟨0, by omega, rfl, hide (Keeps.refl _ _)⟩
  case round =>
   obtain ⟨j, hj, rfl, HK⟩ := hrel
   by_cases hlt : j < 16
   ·have i1 : (j : Int) < 16 := by omega
    have i0 : (0 : Int) ≤ (j : Int) := by omega
    have i2 : (l.len : Int) + (j : Int) < (l.len : Int) + 16 := by omega
    have i3 : (0 : Int) ≤ (l.len : Int) + (j : Int) := by omega
    obtain ⟨m0, m1, m2, m3, m4⟩ := (uh HM).at hlt
    replace m0 := ((uh HK).cell (uh HG) id).trans m0
    replace m1 := ((uh HK).cell (uh HG) id).trans m1
    replace m2 := ((uh HK).cell (uh HG) id).trans m2
    replace m3 := ((uh HK).cell (uh HG) id).trans m3
    replace m4 := ((uh HK).cell (uh HG) id).trans m4
    rw [show l.len * 5 + j * 5 = (l.len + j) * 5 by omega] at m0 m1 m2 m3 m4
    obtain ⟨b0, b1, b2, b3, b4⟩ := cl5 (heap_alloc_new wr (.cells #[.int .i64 (-77 - (j : Int)), .string ⟨#[115, 112, 97, 114, 101]⟩, .slice none 0 0, .slice none 0 0, .slice none 0 0] 39))
    have HKB := hide ((uh HK).alloc (.cells #[.int .i64 (-77 - (j : Int)), .string ⟨#[115, 112, 97, 114, 101]⟩, .slice none 0 0, .slice none 0 0, .slice none 0 0] 39))
    go_wp2_with fail
    go_roundw
    case rel => exact ⟨j + 1, by omega, by go_num, HKB⟩
    case measure => simp [intOf]; omega
   ·obtain rfl : j = 16 := by omega
    have i2 : ¬ ((16 : Nat) : Int) < 16 := by omega
    go_wp2_with fail
    rename World => wo
    go_loopw [6] (fun i wr => ∃ (pre rest : SL) (k : Nat), i = .int .i64 (k : Int) ∧ l = pre.app rest ∧ k = pre.len ∧ Hid (Keeps (fun _ => False) w wr) ∧ WtIn A w rest g (k * 5)) (fun i _ => l.len - (intOf i).toNat)
    case atStart => exact ⟨.nil, l, 0, rfl, rfl, rfl, HK, by simpa using uh HIN⟩
    case round =>
     obtain ⟨pre, rest, k, rfl, happ, hkp, HK, hr⟩ := hrel
     have hll := congrArg SL.len happ
     have hls := congrArg SL.size happ
     rw [SL.len_app] at hll
     rw [SL.size_app] at hls
     have HAPP := hide happ
     have HKP := hide hkp
     cases rest with
     | nil =>
      simp only [SL.len] at hll
      have i3 : ¬ (k : Int) < (l.len : Int) := by omega
      clear happ hkp hll hls hr
      go_wp2_with fail
      go_ret
      exact ⟨rfl, uh HK⟩
     | cons op f ex th el rest =>
      obtain ⟨h1, h2, h3, h4, ⟨xv, h5, h5'⟩, ⟨g2, cp2, h6, h7, h8, h9, h10, h11⟩, ⟨g3, cp3, k6, k7, k8, k9, k10, k11⟩, h12⟩ := hr
      simp only [SL.len, SL.size] at hll hls
      have i3 : (k : Int) < (l.len : Int) := by omega
      have q2 := ((uh HK).cell h1 id).trans h5
      have H2 := hide h1
      have H3 := hide h6
      have H4 := hide k6
      have HX := hide (spareExprs_v A (ex.size + 1) ex (by omega) (by omega) wr xv (h5'.keepF (uh HK)))
      have HT := hide (fun (W' : World) (hk : Keeps (fun _ => False) w W') => uh IH th (by omega) (by omega) W' (.slice (some ⟨g2, 0, none⟩) th.len cp2) ((show WtSl A w _ th from ⟨g2, cp2, rfl, h7, h8, h9, h10, h11⟩).keepF hk))
      have HE := hide (fun (W' : World) (hk : Keeps (fun _ => False) w W') => uh IH el (by omega) (by omega) W' (.slice (some ⟨g3, 0, none⟩) el.len cp3) ((show WtSl A w _ el from ⟨g3, cp3, rfl, k7, k8, k9, k10, k11⟩).keepF hk))
      obtain ⟨g1, cp1, rfl, _⟩ := h5'
      have HR := hide h12
      have hkl : k + (rest.len + 1) = l.len := by omega
      clear happ hkp hll hls h1 h2 h3 h4 h5 h6 h7 h8 h9 h10 h11 k6 k7 k8 k9 k10 k11 h12
      go_wp2_with fail
      refine (uh HX).mono ?_
      rintro e w1 ⟨rfl, hk1⟩
      have HK2 := hide ((uh HK).trans hk1)
      have q3 := ((uh HK2).cell (uh H2) id).trans (uh H3)
      clear hk1 q2
      go_wp2_with fail
      refine (uh HT w1 (uh HK2)).mono ?_
      rintro e w2 ⟨rfl, hk2⟩
      have HK3 := hide ((uh HK2).trans hk2)
      have q4 := ((uh HK3).cell (uh H2) id).trans (uh H4)
      clear hk2 q3
      go_wp2_with fail
      refine (uh HE w2 (uh HK3)).mono ?_
      rintro e w3 ⟨rfl, hk3⟩
      have HK1 := hide ((uh HK3).trans hk3)
      clear hk3 q4
      go_wp2_with fail
      go_roundw
      case rel =>
       refine ⟨pre.app (.cons op f ex th el .nil), rest, k + 1, by go_num, by rw [app_oneT]; exact uh HAPP, by rw [SL.len_app, uh HKP]; rfl, HK1, ?_⟩
       rw [show (k + 1) * 5 = k * 5 + 5 by omega]
       exact uh HR
      case measure => simp [intOf]; omega
end Go.Proofs.YtiinohibmcefkaaGreatDoor
namespace Go.Proofs.YtiinohibmcefkaaGreatDoor
open Go.RowKit Go.Maps
set_option maxRecDepth 100000
set_option maxHeartbeats 8000000
theorem stillP_v (Z Y : Zone) (S : List FieldA) (l : EL) (ls : List SL) (h : Bool) (vals : List ValA) (sv lv pv u : Value) (w : World) (up uq p gs ks ge ke : Nat) (go : Option Addr) (kp gr kr : Nat) (hG : GivP w p S l ls h vals gs ks ge ke go kp gr kr) (hS : FldsAt w sv S) (hx : SlE Z w up lv l) (hp : PsAt Y w uq pv ls) (hr : ValsAt w u vals) (lS : S.length ≤ 1048576) (hls : l.size ≤ 4294967294) (lp : ls.length ≤ 1048576) (hps : ∀ m ∈ ls, m.size ≤ 4294967294) (lr : vals.length ≤ 1048576) :
  Calls Tryz.prog 26 #[.pointer (some ⟨p, 0, none⟩), .agg #[sv], lv, pv, .agg #[.bool h, u]] w fun e w' => e = .returned (.bool true) ∧ Keeps (fun _ => False) w w' := by
 obtain ⟨so, sc, rfl⟩ := RowAt.form hS
 obtain ⟨uo, uc, rfl⟩ := RowAt.form hr
 obtain ⟨lo, lc, rfl, _⟩ := hx.head
 obtain ⟨W, hW, hkW, g0, g1⟩ := boxA2 w #[.slice so S.length sc] #[.bool h, .slice uo vals.length uc] 24 31
 have HWX := hide hkW
 have Ps := hide (hS.keepF hkW)
 have Px := hide (hx.keepF hkW)
 have Pr := hide (hr.keepF hkW)
 have Pp := hide (hp.keepF hkW)
 obtain ⟨po, pc, rfl, _⟩ := hp
 have HG := hide (hG.keepF hkW)
 have B0 := hide g0
 have B1 := hide g1
 have mS : S.length ≤ maxLen := by unfold maxLen; omega
 have mr : vals.length ≤ maxLen := by unfold maxLen; omega
 have HSK : Hid (∀ X : World, Keeps (fun _ => False) W X → ∀ m : KW X, m.wd.cell? ⟨w.heap.size, 0, none⟩ = some (.slice so S.length sc) ∧ m.wd.cell? ⟨w.heap.size + 1, 0, none⟩ = some (.bool h) ∧ m.wd.cell? ⟨w.heap.size + 1, 1, none⟩ = some (.slice uo vals.length uc) ∧
   m.wd.cell? ⟨p, 0, none⟩ = some (.slice (some ⟨gs, 0, none⟩) S.length ks) ∧ m.wd.cell? ⟨p, 1, none⟩ = some (.slice (some ⟨ge, 0, none⟩) l.len ke) ∧ m.wd.cell? ⟨p, 2, none⟩ = some (.slice go ls.length kp) ∧ m.wd.cell? ⟨p, 3, none⟩ = some (.bool h) ∧ m.wd.cell? ⟨p, 4, none⟩ = some (.slice (some ⟨gr, 0, none⟩) vals.length kr)) := fun X hX m => by
  have hk := hX.trans m.kept
  have x1 := blk_keep (uh B0) hk
  have x2 := blk_keep (uh B1) hk
  obtain ⟨y0, y1, y2, y3, y4⟩ := cl5 (blk_keep (uh HG).blk hk)
  exact ⟨(cB x1 _).trans rfl, (cB x2 _).trans rfl, (cB x2 _).trans rfl, y0, y1, y2, y3, y4⟩
 have Q55 : Hid (∀ X : World, Keeps (fun _ => False) W X → ∀ m : KW X, Calls Tryz.prog 55 #[.agg #[.slice (some ⟨gs, 0, none⟩) S.length ks], .agg #[.slice so S.length sc]] m.wd fun e w' => e = .returned (.bool true) ∧ ∃ m2 : KW X, w' = m2.wd) := fun X hX m => by
  have h := eqSchema_any m.wd _ _ S S ((uh HG).s.row.keepF (hX.trans m.kept)) ((uh Ps).keepF (hX.trans m.kept)) mS
  rw [decide_eq_true (show S = S from rfl)] at h
  exact kw_of m h
 have Q56 : Hid (∀ X : World, Keeps (fun _ => False) W X → ∀ m : KW X, Calls Tryz.prog 56 #[.slice (some ⟨ge, 0, none⟩) l.len ke, .slice lo l.len lc] m.wd fun e w' => e = .returned (.bool true) ∧ ∃ m2 : KW X, w' = m2.wd) := fun X hX m =>
  kw_of m (eqExprs_same _ Z (l.size + 1) l (by omega) hls m.wd 0 up _ _ (((uh HG).e.slE 0).keepF (hX.trans m.kept)) ((uh Px).keepF (hX.trans m.kept)))
 have Q14 : Hid (∀ X : World, Keeps (fun _ => False) W X → ∀ m : KW X, Calls Tryz.prog 14 #[.agg #[.bool h, .slice (some ⟨gr, 0, none⟩) vals.length kr], .agg #[.bool h, .slice uo vals.length uc]] m.wd fun e w' => e = .returned (.bool true) ∧ ∃ m2 : KW X, w' = m2.wd) := fun X hX m => by
  have hq := eqRow_v m.wd h h _ _ vals vals ((uh HG).r.row.keepF (hX.trans m.kept)) ((uh Pr).keepF (hX.trans m.kept)) mr
  rw [decide_eq_true (show h = h from rfl), decide_eq_true (show vals = vals from rfl)] at hq
  simp only [Bool.and_true] at hq
  exact kw_of m hq
 have HSP := hide (fun (X : World) (hX : Keeps (fun _ => False) W X) => spareSchema_v X gs S.length ks _ ((uh HG).s.keepF hX) lS)
 have HSE := hide (fun (X : World) (hX : Keeps (fun _ => False) W X) => spareExprs_v (fun _ => True) (l.size + 1) l (by omega) hls X _ ((uh HG).e.keepF hX))
 have HSV := hide (fun (X : World) (hX : Keeps (fun _ => False) W X) => spareVals_v X gr vals.length kr _ ((uh HG).r.keepF hX) lr)
 have a0 := cl1 (uh B0)
 obtain ⟨a1, a2⟩ := cl2 (uh B1)
 obtain ⟨a3, a4, a5, a6, a7⟩ := cl5 (uh HG).blk
 have HPS := hide hps
 clear g0 g1 hkW hS hx hr hG hls hps
 go_enter Tryz.func26, Tryz.ntmps26
 go_wp2_with fail
 have k0 := fun m => (uh HSK W (Keeps.refl _ _) m).1
 have k1 := fun m => (uh HSK W (Keeps.refl _ _) m).2.1
 have k2 := fun m => (uh HSK W (Keeps.refl _ _) m).2.2.1
 have k3 := fun m => (uh HSK W (Keeps.refl _ _) m).2.2.2.1
 have k4 := fun m => (uh HSK W (Keeps.refl _ _) m).2.2.2.2.1
 have k5 := fun m => (uh HSK W (Keeps.refl _ _) m).2.2.2.2.2.1
 have k6 := fun m => (uh HSK W (Keeps.refl _ _) m).2.2.2.2.2.2.1
 have k7 := fun m => (uh HSK W (Keeps.refl _ _) m).2.2.2.2.2.2.2
 refine region_kept (by kernel_rfl) (by kernel_rfl) ?_
 repeat (go_big_quiet_step ((first | (go_at_call 55; exact uh Q55 W (Keeps.refl _ _) _) | (go_at_call 56; exact uh Q56 W (Keeps.refl _ _) _) | (go_at_call 14; exact uh Q14 W (Keeps.refl _ _) _))))
 refine wpQuiet_nil ?_
 rintro _ ⟨n1, rfl⟩
 clear k0 k1 k2 k3 k4 k5 k6 k7 a0 a1 a2 a3 a4 a5 a6 a7
 have K1 := hide n1.kept
 generalize n1.wd = X1 at *
 go_wp2_with fail
 go_loopw [11] (fun i wr => ∃ k : Nat, k ≤ ls.length ∧ i = .int .i64 (k : Int) ∧ Keeps (fun _ => False) W wr) (fun i _ => ls.length - (intOf i).toNat)
 case atStart => exact ⟨0, Nat.zero_le _, rfl, uh K1⟩
 case round =>
  obtain ⟨k, hkl, rfl, hkp⟩ := hrel
  have HK := hide hkp
  clear hkp K1
  by_cases hlt : k < ls.length
  ·obtain ⟨m, hm⟩ : ∃ m, ls[k]? = some m := ⟨_, List.getElem?_eq_getElem hlt⟩
   obtain ⟨ao', cap', e', hpp⟩ := uh Pp
   obtain ⟨rfl, _, rfl⟩ : po = ao' ∧ ls.length = ls.length ∧ pc = cap' := by simpa using e'
   obtain ⟨b, off, rfl, hb, hc⟩ := hpp (by omega)
   obtain ⟨qv, hq1, hq2⟩ := hc k m hm
   obtain ⟨ao2, cap2, e2, hgp⟩ := (uh HG).p
   obtain ⟨rfl, _, rfl⟩ : go = ao2 ∧ ls.length = ls.length ∧ kp = cap2 := by simpa using e2
   obtain ⟨b2, rfl, hb2, hc2⟩ := hgp (by omega)
   obtain ⟨g3, c3, hq3, hq4⟩ := hc2 k m hm
   have HKC : Hid (∀ X : World, Keeps (fun _ => False) W X → ∀ n : KW X, n.wd.cell? ⟨b, off + k, none⟩ = some qv ∧ n.wd.cell? ⟨b2, k, none⟩ = some (.slice (some ⟨g3, 0, none⟩) m.len c3)) := fun X hX n => ⟨((hX.trans n.kept).cell hb id).trans hq1, ((hX.trans n.kept).cell hb2 id).trans hq3⟩
   have HQ4 := hide hq4
   have HQ2 := hide hq2
   have hms : m.size ≤ 4294967294 := uh HPS m (List.mem_of_getElem? hm)
   obtain ⟨qo, qc, rfl, _⟩ := hq2.head
   have Q57 : Hid (∀ X : World, Keeps (fun _ => False) W X → ∀ n : KW X, Calls Tryz.prog 57 #[.slice (some ⟨g3, 0, none⟩) m.len c3, .slice qo m.len qc] n.wd fun e w' => e = .returned (.bool true) ∧ ∃ m2 : KW X, w' = m2.wd) := fun X hX n =>
    kw_of n (eqStmts_same _ Y (m.size + 1) m (by omega) hms n.wd 0 uq _ _ (((uh HQ4).slS 0).keepF (hX.trans n.kept)) ((uh HQ2).keepF (hX.trans n.kept)))
   have HSS := hide (fun (X : World) (hX : Keeps (fun _ => False) W X) => spareStmts_v (fun _ => True) (m.size + 1) m (by omega) hms X _ ((uh HQ4).keepF hX))
   have i1 : (k : Int) < (ls.length : Int) := by omega
   have i0' : (0 : Int) ≤ (k : Int) := by omega
   clear hm hq1 hq2 hq3 hq4 hc hc2 hpp hgp hms e' e2
   go_upto_region 6 with fail
   have k5 := fun n => (uh HSK wr (uh HK) n).2.2.2.2.2.1
   have k8 := fun n => (uh HKC wr (uh HK) n).1
   have k9 := fun n => (uh HKC wr (uh HK) n).2
   refine region_kept (by kernel_rfl) (by kernel_rfl) ?_
   repeat (go_big_quiet_step (((go_at_call 57; exact uh Q57 wr (uh HK) _))))
   refine wpQuiet_nil ?_
   rintro _ ⟨n2, rfl⟩
   clear k5 k8 k9
   have K2 := hide ((uh HK).trans n2.kept)
   generalize n2.wd = X2 at *
   have b5 := (uh HSK X2 (uh K2) ⟨X2, Keeps.refl _ _⟩).2.2.2.2.2.1
   have b9 := (uh HKC X2 (uh K2) ⟨X2, Keeps.refl _ _⟩).2
   go_wp2_with fail
   refine (uh HSS X2 (uh K2)).mono ?_
   rintro e w3 ⟨rfl, hk3⟩
   have K3 := hide ((uh K2).trans hk3)
   clear b5 b9 hk3
   go_wp2_with fail
   go_roundw
   case rel => exact ⟨k + 1, by omega, by go_num, uh K3⟩
   case measure => simp [intOf]; omega
  ·obtain rfl : k = ls.length := by omega
   have i1 : ¬ (ls.length : Int) < (ls.length : Int) := by omega
   obtain ⟨_, _, _, b3, b4, b5, _, b7⟩ := uh HSK wr (uh HK) ⟨wr, Keeps.refl _ _⟩
   go_wp2_with fail
   refine (uh HSP wr (uh HK)).mono ?_
   rintro e w2 ⟨rfl, hk⟩
   have K2 := hide ((uh HK).trans hk)
   clear b3 b4 b5 b7 hk
   obtain ⟨_, _, _, b3, b4, b5, _, b7⟩ := uh HSK w2 (uh K2) ⟨w2, Keeps.refl _ _⟩
   go_wp2_with fail
   refine (uh HSE w2 (uh K2)).mono ?_
   rintro e w3 ⟨rfl, hk⟩
   have K3 := hide ((uh K2).trans hk)
   clear b3 b4 b5 b7 hk
   obtain ⟨_, _, _, b3, b4, b5, _, b7⟩ := uh HSK w3 (uh K3) ⟨w3, Keeps.refl _ _⟩
   go_wp2_with fail
   refine (uh HSV w3 (uh K3)).mono ?_
   rintro e w4 ⟨rfl, hk⟩
   have K4 := hide ((uh K3).trans hk)
   clear b3 b4 b5 b7 hk
   go_wp2_with fail
   go_ret
   exact ⟨rfl, (uh HWX).trans (uh K4)⟩
end Go.Proofs.YtiinohibmcefkaaGreatDoor
