import Derived.Test.YtijfnlfgehcpaaaGreatDoorJbc
import Derived.Test.YtijfnlfgehcpaaaGreatDoorJbd
import Derived.Test.YtijfnlfgehcpaaaGreatDoorJah
import Derived.Test.YtijfnlfgehcpaaaGreatDoorJak
import Derived.Test.YtijfnlfgehcpaaaGreatDoorJaf
import Derived.Test.YtijfnlfgehcpaaaGreatDoorJaj
import Derived.Test.YtijfnlfgehcpaaaGreatDoorJaa
import Derived.Test.YtijfnlfgehcpaaaGreatDoorKr
namespace Go.Proofs.YtijfnlfgehcpaaaGreatDoor
open Go.RowKit Go.Maps

/-- These cells hold these expressions. -/
def EsIn (Z : Zone) (w : World) : EL → List Value → Prop
  | .nil, xs => xs = []
  | .cons op n s kids r, xs => ∃ kv xs', xs = .int .i64 op :: .int .i64 n :: str s :: kv :: xs' ∧ SlE Z w 0 kv kids ∧ EsIn Z w r xs'
theorem EsIn.argKeep {B : Nat} {F : Nat → Prop} {w w' : World} (hk : Keeps F w w') (hF : ∀ k, F k → B ≤ k) : ∀ {l : EL} {xs : List Value}, EsIn (argZ B) w l xs → EsIn (argZ B) w' l xs
  | .nil, _, h => h
  | .cons _ _ _ _ _, _, ⟨kv, xs', e, h1, h⟩ => ⟨kv, xs', e, h1.argKeep hk hF, h.argKeep hk hF⟩
theorem EsIn.app {Z : Zone} {w : World} : ∀ {l m : EL} {xs ys : List Value}, EsIn Z w l xs → EsIn Z w m ys → EsIn Z w (l.app m) (xs ++ ys)
  | .nil, _, _, _, h, h2 => by have h' : _ = _ := h; subst h'; exact h2
  | .cons _ _ _ _ _, _, _, ys, ⟨kv, xs', e, h1, h⟩, hm => ⟨kv, xs' ++ ys, by rw [e]; rfl, h1, h.app hm⟩
theorem SlE.argUp {w : World} {up A : Nat} {Z : Zone} {v : Value} {l : EL} (hA : w.heap.size ≤ A) (up' : Nat) (h : SlE Z w up v l) : SlE (argZ A) w up' v l := by
  obtain ⟨ao, cap, e, hc, hr⟩ := h
  refine ⟨ao, cap, e, hc, fun h0 => ?_⟩
  obtain ⟨b, o, e1, _, hx⟩ := hr h0
  exact ⟨b, o, e1, trivial, hx.arg hA⟩
/-- The cells as expressions in a block. -/
theorem EsIn.exIn {Z : Zone} {w : World} {A b : Nat} (hb : b < w.heap.size) (hA : w.heap.size ≤ A) : ∀ {l : EL} {xs : List Value} {o : Nat}, EsIn Z w l xs → (∀ j x, xs[j]? = some x → w.cell? ⟨b, o + j, none⟩ = some x) → ExIn (argZ A) w l b o
  | .nil, _, _, _, _ => trivial
  | .cons op n s kids r, _, o, ⟨kv, xs', ee, h1, h4⟩, hc => by
    subst ee
    obtain ⟨ao, cap, et, hcap, hr⟩ := h1.argUp hA b
    refine ⟨hb, Nat.lt_of_lt_of_le hb hA, hc 0 _ rfl, hc 1 _ rfl, hc 2 _ rfl, ⟨ao, cap, by rw [← et]; exact hc 3 _ rfl, hcap, hr⟩, EsIn.exIn hb hA h4 (fun j x hx => ?_)⟩
    rw [show o + 4 + j = o + (j + 4) by omega]
    exact hc (j + 4) x (by simpa using hx)
theorem app_oneX (pre : EL) (op n : Int) (s : Txt) (kids rest : EL) : (pre.app (.cons op n s kids .nil)).app rest = pre.app (.cons op n s kids rest) := by rw [EL.app_assoc]; rfl
theorem Tryz.infoE : (Tryz.prog.info? 27).map (fun i => (i.zero, i.size, i.bytes)) = some (some (.agg #[.int .i64 0, .int .i64 0, .string ⟨#[]⟩, .slice none 0 0]), 4, 56) := by kernel_rfl
theorem EL.lenApp : ∀ l m : EL, (l.app m).len = l.len + m.len
  | .nil, _ => by simp [EL.app, EL.len]
  | .cons o n s k r, m => by simp [EL.app, EL.len, EL.lenApp r m]; omega
theorem EL.appNil : ∀ l : EL, l.app .nil = l
  | .nil => rfl
  | .cons o n s k r => by simp [EL.app, EL.appNil r]
theorem set4b {W : World} {R : Nat} {c0 c1 c2 c3 : Value} {t : TypeId} (h : W.heap[R]? = some (.cells #[c0, c1, c2, c3] t (0, 0))) (x y z u : Value) :
    ((((W.setCell ⟨R, 0, none⟩ x).setCell ⟨R, 1, none⟩ y).setCell ⟨R, 2, none⟩ z).setCell ⟨R, 3, none⟩ u).heap[R]? = some (.cells #[x, y, z, u] t (0, 0)) := heap_setCell_at (o := 3) (heap_setCell_at (o := 2) (heap_setCell_at (o := 1) (heap_setCell_at (o := 0) h x) y) z) u
theorem keeps_set4 (w : World) (b : Nat) (x y z u : Value) : Keeps (fun q => q = b) w ((((w.setCell ⟨b, 0, none⟩ x).setCell ⟨b, 1, none⟩ y).setCell ⟨b, 2, none⟩ z).setCell ⟨b, 3, none⟩ u) := (((keeps_set w b 0 x).trans (keeps_set _ b 1 y)).trans (keeps_set _ b 2 z)).trans (keeps_set _ b 3 u)
set_option maxRecDepth 100000 in
set_option maxHeartbeats 4000000 in
/-- An operation on some expressions. -/
theorem op_v (B : Nat) (k : Int) (l : EL) (hls : l.len ≤ 1000) (v : Value) (w : World) (hB : B ≤ w.heap.size) (hx : SlE (argZ B) w 0 v l) :
    Calls Tryz.prog 26 #[.int .i64 k, v] w fun e w' => ∃ ao c, e = .returned (exV k 0 [] (.slice ao l.len c)) ∧ SlE (argZ w'.heap.size) w' 0 (.slice ao l.len c) l ∧ Keeps (fun _ => False) w w' := by
  obtain ⟨i0, hi, hz0, hz1, hz2⟩ := info_parts Tryz.infoE
  obtain ⟨pao, pcap, pb, poff, rfl, hpcap, hpa, hpx⟩ := hx.open
  obtain ⟨X, hX⟩ : ∃ X, w.alloc (.cells #[.int .i64 0, .int .i64 0, .string ⟨#[]⟩, .slice none 0 0] 27) = X := ⟨_, rfl⟩
  have PK : Keeps (fun _ => False) w X := hX ▸ (Keeps.refl _ w).alloc _
  have P0 : X.heap[w.heap.size]? = some (.cells #[.int .i64 0, .int .i64 0, .string ⟨#[]⟩, .slice none 0 0] 27 (0, 0)) := hX ▸ heap_alloc_new w _
  have HPK := hide PK
  have HP0 := hide P0
  have HpX := hide hpx
  have HpA := hide hpa
  clear hx hpx hpa PK P0
  go_enter Tryz.func26, Tryz.ntmps26
  go_wp2_with fail
  go_loopw [5, 6] (fun o i wr => ∃ (pre rest : EL) (k : Nat) (xs : List Value), i = .int .i64 k ∧ l = pre.app rest ∧ k = pre.len ∧ wr.ownsRow X.heap.size 27 4 o k xs ∧ EsIn (argZ B) wr pre xs ∧ Keeps (fun _ => False) X wr ∧ ExIn (argZ B) w rest pb (poff + k * 4)) (fun _ i _ => l.len - (intOf i).toNat)
  case atStart => exact ⟨.nil, l, 0, [], rfl, rfl, rfl, World.ownsRow_nil X X.heap.size 27 4, rfl, Keeps.refl _ _, by simpa using unhide HpX⟩
  case round =>
    obtain ⟨pre, rest, j, xs, rfl, happ, hkp, hown, hss, hkeep, hr⟩ := hrel
    obtain ⟨oo, oc, rfl⟩ := (rowAt_own hown).form
    have hll := congrArg EL.len happ
    rw [EL.lenApp] at hll
    have HO := hide hown
    have HSS := hide hss
    have HK := hide hkeep
    have HKw := hide ((unhide HPK).trans hkeep)
    cases rest with
    | cons op n s kids rest =>
      obtain ⟨h1, h2, h3, h4, h5, ⟨xao, xcap, h6, h7, h8⟩, h9⟩ := hr
      simp only [EL.len] at hll
      obtain ⟨rfl, hp'⟩ := (unhide HpA) (by omega)
      have HXS : Hid (SlE (argZ B) w pb (.slice xao kids.len xcap) kids) := ⟨xao, xcap, rfl, h7, h8⟩
      have HR := hide h9
      have i1 : (j : Int) < (l.len : Int) := by omega
      have ix0 : (0 : Int) ≤ (j : Int) := by omega
      have q0 := ((unhide HKw).cell h1 id).trans h3
      have q1 := ((unhide HKw).cell h1 id).trans h4
      have q2 := ((unhide HKw).cell h1 id).trans h5
      have q3 := ((unhide HKw).cell h1 id).trans h6
      have HNB := hide (heap_alloc_new wr (.cells #[.int .i64 op, .int .i64 n, str s, .slice xao kids.len xcap] 27))
      have HOX := hide (ownsRow_kept hown ((Keeps.refl (fun _ => False) wr).alloc (.cells #[.int .i64 op, .int .i64 n, str s, .slice xao kids.len xcap] 27)) (fun _ _ => id))
      have HB0 : Hid (X.heap.size ≤ wr.heap.size) := hkeep.size
      have HKP := hide hkp
      have HAPP := hide happ
      have hj : j ≤ 1000 := by omega
      clear hown hss hkeep h1 h2 h3 h4 h5 h6 h8 h9 happ hkp
      go_wp2_with (at_builtin; refine wpList_append_lies _ rfl _ _ _ rfl X.heap.size 27 i0 _ 4 56 Tryz.underlying25 hi hz0 hz1 hz2 rfl (by omega) (.slice oo j oc) j xs rfl (unhide HOX) ⟨wr.heap.size, 0, none⟩ 1 1 [.int .i64 op, .int .i64 n, str s, .slice xao kids.len xcap] rfl rfl (World.news_of_block (cs := #[.int .i64 op, .int .i64 n, str s, .slice xao kids.len xcap]) (t := 27) (fr := (0, 0)) (unhide HNB)) (by simp [Value.oneCell']) (by omega) (by unfold maxLen; omega) (by omega) (by have := unhide HB0; simp; omega) (wr.heap.size + 1) (by simp) ?_; intro g6 c6 w6 hown6 hgrow _ _; have HO6 := hide hown6; have HGR := hide hgrow; clear hown6 hgrow)
      go_roundw
      case rel =>
        have hF : ∀ q, X.heap.size ≤ q → B ≤ q := fun q h => Nat.le_trans hB (Nat.le_trans (unhide HPK).size h)
        have kr6 : Keeps (fun q => X.heap.size ≤ q) wr w6 := ((Keeps.refl _ wr).alloc _).grown (unhide HGR) (fun q e _ => ((unhide HO).lt q e).1)
        have kX6 : Keeps (fun q => X.heap.size ≤ q) X w6 := (unhide HK).any.trans kr6
        have kw6 : Keeps (fun q => X.heap.size ≤ q) w w6 := (unhide HPK).any.trans kX6
        have s1 := (unhide HSS).argKeep kr6 hF
        have s2 : EsIn (argZ B) w6 (.cons op n s kids .nil) [.int .i64 op, .int .i64 n, str s, .slice xao kids.len xcap] := ⟨_, [], rfl, ((unhide HXS).argKeep kw6 hF).anyUp 0, rfl⟩
        refine ⟨pre.app (.cons op n s kids .nil), rest, j + 1, by go_num, by rw [app_oneX]; exact unhide HAPP, by rw [EL.lenApp, unhide HKP]; rfl, _, unhide HO6, s1.app s2, kX6.mono (fun q hq e => by have e' : X.heap.size ≤ q := e; omega), ?_⟩
        rw [show poff + (j + 1) * 4 = poff + j * 4 + 4 by omega]
        exact unhide HR
      case measure => simp [intOf]; omega
    | nil =>
      rw [EL.appNil] at happ
      subst happ
      simp only [EL.len, Nat.add_zero] at hll
      have i1 : ¬ (j : Int) < (l.len : Int) := by omega
      subst hkp
      have HZ := hide ((hkeep.block _ (lt_of_block (unhide HP0)) id).trans (unhide HP0))
      have m0 := (cell_of_blk (unhide HZ) 0).trans rfl
      have m1 := (cell_of_blk (unhide HZ) 1).trans rfl
      have m2 := (cell_of_blk (unhide HZ) 2).trans rfl
      have m3 := (cell_of_blk (unhide HZ) 3).trans rfl
      have g0 := frozen_of_blk (unhide HZ) 0
      have g1 := frozen_of_blk (unhide HZ) 1
      have g2 := frozen_of_blk (unhide HZ) 2
      have g3 := frozen_of_blk (unhide HZ) 3
      have z := set4b (unhide HZ) (.int .i64 k) (.int .i64 0) (.string ⟨#[]⟩) (.slice oo l.len oc)
      have o0 := (cell_of_blk z 0).trans rfl
      have o1 := (cell_of_blk z 1).trans rfl
      have o2 := (cell_of_blk z 2).trans rfl
      have o3 := (cell_of_blk z 3).trans rfl
      have HFIN : Hid (SlE (argZ ((((wr.setCell ⟨w.heap.size, 0, none⟩ (.int .i64 k)).setCell ⟨w.heap.size, 1, none⟩ (.int .i64 0)).setCell ⟨w.heap.size, 2, none⟩ (.string ⟨#[]⟩)).setCell ⟨w.heap.size, 3, none⟩ (.slice oo l.len oc)).heap.size) ((((wr.setCell ⟨w.heap.size, 0, none⟩ (.int .i64 k)).setCell ⟨w.heap.size, 1, none⟩ (.int .i64 0)).setCell ⟨w.heap.size, 2, none⟩ (.string ⟨#[]⟩)).setCell ⟨w.heap.size, 3, none⟩ (.slice oo l.len oc)) 0 (.slice oo l.len oc) l) := by
        have kq := keeps_set4 wr w.heap.size (.int .i64 k) (.int .i64 0) (.string ⟨#[]⟩) (.slice oo l.len oc)
        have hs := (unhide HSS).argKeep kq (fun q e => by omega)
        have hlt := (lt_of_block (unhide HP0))
        have ho := ownsRow_kept hown kq (fun q e hq => by have := (hown.lt q e).1; omega)
        refine ⟨oo, oc, rfl, (rowAt_own ho).room _ _ _ rfl, fun h0 => ?_⟩
        obtain ⟨g, goff, gc, e, hg, hgc⟩ := (rowAt_own ho).cells (by omega)
        simp at e
        obtain ⟨rfl, rfl⟩ := e
        exact ⟨g, goff, rfl, trivial, hs.exIn hg (Nat.le_refl _) hgc⟩
      have HKF : Hid (Keeps (fun _ => False) w ((((wr.setCell ⟨w.heap.size, 0, none⟩ (.int .i64 k)).setCell ⟨w.heap.size, 1, none⟩ (.int .i64 0)).setCell ⟨w.heap.size, 2, none⟩ (.string ⟨#[]⟩)).setCell ⟨w.heap.size, 3, none⟩ (.slice oo l.len oc))) := (unhide HKw).narrow (keeps_set4 _ _ _ _ _ _) (fun q e => by omega)
      clear hown hss hkeep hr hll z
      go_wp2_with fail
      refine bodyPost_ret (v := exV k 0 [] (.slice oo l.len oc)) (by simp [results, go_sem, o0, o1, o2, o3, exV]) rfl ?_
      exact ⟨oo, oc, rfl, unhide HFIN, unhide HKF⟩
end Go.Proofs.YtijfnlfgehcpaaaGreatDoor
