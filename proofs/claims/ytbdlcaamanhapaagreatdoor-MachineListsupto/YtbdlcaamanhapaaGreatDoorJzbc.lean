import Derived.Test.YtbdlcaamanhapaaGreatDoorJzbb
import Derived.Test.YtbdlcaamanhapaaGreatDoorJzba
import Derived.Deep.Onto
import Derived.Test.YtbdlcaamanhapaaGreatDoorJzaz
import Derived.Test.YtbdlcaamanhapaaGreatDoorJzag
import Derived.Test.YtbdlcaamanhapaaGreatDoorRows
import Derived.Test.YtbdlcaamanhapaaGreatDoorJzat
namespace Go.Proofs.YtbdlcaamanhapaaGreatDoor
open Go.RowKit Go.Maps
set_option maxRecDepth 100000
set_option maxHeartbeats 2000000
theorem run_field24 (ao : Option Addr) (n c : Nat) (W : World) : (Instr.field 24 (.agg #[.slice ao n c]) 0).run Tryz.prog W = .ok (.slice ao n c) W := by
 kernel_rfl
theorem wideSchema_v (w : World) (v : Value) (l : List Wq) (h : Wt w v l) (hl : l.length ≤ 1048576) :
  Calls Tryz.prog 17 #[.agg #[v]] w fun e w' => ∃ g cap, e = .returned (.agg #[.slice (some ⟨g, 0, none⟩) l.length cap]) ∧ w.heap.size ≤ g ∧ Wide w' (.slice (some ⟨g, 0, none⟩) l.length cap) 3 l.length (fcs l) markF ∧ Wp (fun _ => False) w w' := by
 obtain ⟨i0, hi, hz0, hz1, hz2⟩ := info_parts Tryz.info58
 obtain ⟨ao, ac, rfl⟩ := Ws.form h
 obtain ⟨W, hW, hkW, g0, g1⟩ := boxes2 w #[.slice ao l.length ac] #[.slice none 0 0] 24 24
 have hsz : w.heap.size + 2 ≤ W.heap.size := zE g1
 have HC := zB (copySchema_v W _ l (h.keepF hkW) (by omega))
 have HLN : Hid ((fcs l).length = l.length * 3) := by show _ = _; simp [fcs_length]
 generalize hfl : fcs l = FL at *
 have cc0 := cl1 g0
 have B0 := zB g0
 have B1 := zB g1
 have HWX := zB hkW
 clear h hfl g0 g1 hkW
 go_enter Tryz.func17, Tryz.ntmps17
 go_wp2_with fail
 refine (zA HC).mono ?_
 rintro e w1 ⟨v1, rfl, hown, hk1⟩
 obtain ⟨bo, bc, rfl⟩ := Ws.form (zG hown)
 have HO1 := zB hown
 have HK1 := zB hk1
 clear hown hk1 HC cc0
 have hfl := run_field24 bo l.length bc
 go_wp2_with fail
 go_loopw [3, 4] (fun o i wr => ∃ k : Nat, k ≤ 16 ∧ i = .int .i64 (k : Int) ∧ Hid (wr.ownsRow W.heap.size 58 3 o (l.length + k) (FL ++ marks markF k)) ∧ Hid (Wp (fun _ => False) W wr)) (fun _ i _ => 16 - (intOf i).toNat)
 case atStart => exact ⟨0, by omega, rfl, by simpa [Hid, marks] using zA HO1, zA HK1⟩
 case round =>
  obtain ⟨k, hk, rfl, HO, HK⟩ := hrel
  by_cases hlt : k < 16
  ·have i1 : (k : Int) < 16 := by omega
   have i0' : (0 : Int) ≤ (k : Int) := by omega
   go_wp2_with (at_builtin; refine wpList_append_lies _ rfl _ _ _ rfl W.heap.size 58 i0 _ 3 32 Tryz.underlying22 hi hz0 hz1 hz2 rfl (by omega) u3 (l.length + k) (FL ++ marks markF k) rfl ((zA HO).alloc _) ⟨wr.heap.size, 0, none⟩ 1 1 (markF k) rfl rfl (World.news_of_block (cs := #[.string ⟨#[115, 112, 97, 114, 101]⟩, .int .i64 (-77 - (k : Int)), .bool false]) (t := 58) (fr := (0, 0)) (heap_alloc_new wr _)) (by simp [Value.oneCell', markF, str, spareT]) (by omega) (by unfold maxLen; omega) (by omega) (by have := (zA HK).size; simp; omega) (wr.heap.size + 1) (by simp) ?_; intro g cap w5 hown5 hgr5 hat5 hlt5)
   go_roundw
   case rel =>
    refine ⟨k + 1, by omega, by go_num, ?_, ((zA HK).alloc _).grown hgr5 (fun q e hq => by have := ((zA HO).lt q e).1; omega)⟩
    rw [marks_snoc, ← List.append_assoc, ← Nat.add_assoc]
    exact hown5
   case measure => simp [intOf]; omega
  ·obtain rfl : k = 16 := by omega
   obtain ⟨g, cap, cur, e, hgl, hgb, hc⟩ : ∃ g cap cur, u3 = .slice (some ⟨g, 0, none⟩) (l.length + 16) cap ∧ W.heap.size ≤ g ∧ wr.heap[g]? = some (.cells cur 58 (0, 0)) ∧ l.length + 16 ≤ cap := by
    rcases (zA HO).2 with ⟨_, h0⟩ | ⟨g, cap, cur, a1, a2, a3, a4, _⟩
    ·omega
    ·exact ⟨g, cap, cur, a1, a2, a3, a4⟩
   subst e
   have HWD := zB (wide_of (zA HLN) (zA HO))
   have c1 : (l.length : Int) ≤ (cap : Int) := by omega
   have c2 : l.length ≤ cap := by omega
   have c0 : (0 : Int) ≤ (l.length : Int) := by omega
   have hb0 := zD (zA B0) (zA HK)
   have hb1 := zD (zA B1) (zA HK)
   have cc0 := cl1 hb0
   have m0 := cl1 hb1
   have z0 := zF hb1 0
   have HB1 := zB hb1
   have HGL := zB hgl
   clear hgb HO hb0 hb1 hgl
   go_wp2_with fail
   have s0 := set1c (zA HB1) (.slice (some ⟨g, 0, none⟩) l.length cap)
   refine bodyPost_ret (v := .agg #[.slice (some ⟨g, 0, none⟩) l.length cap]) (by simp [results, go_sem, s0]) rfl ?_
   have k2 := keeps_set wr (w.heap.size + 1) 0 (.slice (some ⟨g, 0, none⟩) l.length cap)
   exact ⟨_, _, rfl, by have := zA HGL; omega, (zA HWD).keep k2 (by have := zA HGL; omega), ((zA HWX).trans (zA HK)).fresh (by omega) k2⟩
theorem wideRow_v (w : World) (hh : Bool) (u : Value) (l : List ValA) (h : Wr w u l) (hl : l.length ≤ 1048576) :
  Calls Tryz.prog 20 #[.agg #[.bool hh, u]] w fun e w' => ∃ g cap, e = .returned (.agg #[.bool hh, .slice (some ⟨g, 0, none⟩) l.length cap]) ∧ w.heap.size ≤ g ∧ Wide w' (.slice (some ⟨g, 0, none⟩) l.length cap) 3 l.length (vcs l) markV ∧ Wp (fun _ => False) w w' := by
 obtain ⟨uo, uc, rfl⟩ := Ws.form h
 obtain ⟨W, hW, hkW, g0, g1⟩ := boxes2 w #[.bool hh, .slice uo l.length uc] #[.bool false, .slice none 0 0] 27 27
 have hsz : w.heap.size + 2 ≤ W.heap.size := zE g1
 have HCV := zB (fun (W2 : World) (hx : Wp (fun _ => False) W W2) => wideVals_v W2 _ l ((h.keepF hkW).keepF hx) hl)
 have HSK : Hid (∀ w', Wp (fun q => q = w.heap.size + 1) W w' → w'.cell? ⟨w.heap.size, 0, none⟩ = some (.bool hh) ∧ w'.cell? ⟨w.heap.size, 1, none⟩ = some (.slice uo l.length uc)) := fun w' hk => by
  have x1 := (hk.block _ (zE g0) (by omega)).trans g0
  exact ⟨(zC x1 _).trans rfl, (zC x1 _).trans rfl⟩
 have HKX := zB (Wp.refl (fun _ => False) W)
 have HWX := zB hkW
 have H2 := zB g1
 obtain ⟨a0, a1⟩ := zA HSK W (Wp.refl _ _)
 clear g0 g1 hkW h
 go_enter Tryz.func20, Tryz.ntmps20
 go_wp2_with fail
 go_region_held3 (fun w' => w'.cell? ⟨w.heap.size, 0, none⟩ = some (.bool hh) ∧ w'.cell? ⟨w.heap.size, 1, none⟩ = some (.slice uo l.length uc))
  (first | with_reducible exact zA HSK _ (zA HKX).any | with_reducible exact zA HSK _ (zA HKX).drew.any | with_reducible exact zA HSK _ ((zA HKX).any.trans (keeps_set2 _ _ _ _)))
  ((first
  | (go_at_call 34; (with_reducible refine (zA HCV _ (zA HKX).drew).mono ?_); rintro e w3 ⟨g, c, rfl, hgl, hown, hk⟩; have HGL : Hid (w.heap.size + 2 ≤ g) := Nat.le_trans hsz hgl; have HOW := zB hown; clear hgl; have HKX := zB ((zA HKX).drew.trans hk); have hb5 := zD (zA H2) (zA HKX); have m0 := (zC hb5 0).trans rfl; have m1 := (zC hb5 1).trans rfl; have z0 := zF hb5 0; have z1 := zF hb5 1; have HB5 := zB hb5; clear hb5 hk hown)))
 all_goals go_wp2_with fail
 all_goals
  obtain ⟨s0, s1⟩ := set2c (zA HB5) (.bool hh) (.slice (some ⟨g, 0, none⟩) l.length c)
  refine bodyPost_ret (v := .agg #[.bool hh, .slice (some ⟨g, 0, none⟩) l.length c]) (by simp [results, go_sem, s0, s1]) rfl ?_
  have k2 := keeps_set2 w3 (w.heap.size + 1) (.bool hh) (.slice (some ⟨g, 0, none⟩) l.length c)
  exact ⟨_, _, rfl, by have := zA HGL; omega, (zA HOW).keep k2 (by have := zA HGL; omega), ((zA HWX).trans (zA HKX)).fresh (by omega) k2⟩
end Go.Proofs.YtbdlcaamanhapaaGreatDoor
namespace Go.Proofs.YtbdlcaamanhapaaGreatDoor
open Go.RowKit Go.Maps
structure Giv (W : World) (S : List Wq) (cs : List ValA) (bt : Txt) (vals : List ValA) (o1 o2 o3 o4 : Option (Nat × Nat)) (cur : World) : Prop where
 kept : Wp (fun _ => False) W cur
 s : ∀ g c, o1 = some (g, c) → Wide cur (.slice (some ⟨g, 0, none⟩) S.length c) 3 S.length (fcs S) markF
 c : ∀ g c, o2 = some (g, c) → Wide cur (.slice (some ⟨g, 0, none⟩) cs.length c) 3 cs.length (vcs cs) markC
 b : ∀ g c, o3 = some (g, c) → Wide cur (.slice (some ⟨g, 0, none⟩) bt.length c) 1 bt.length (bs bt) markB
 r : ∀ g c, o4 = some (g, c) → Wide cur (.slice (some ⟨g, 0, none⟩) vals.length c) 3 vals.length (vcs vals) markV
theorem Giv.keepF {W : World} {S : List Wq} {cs : List ValA} {bt : Txt} {vals : List ValA} {o1 o2 o3 o4 : Option (Nat × Nat)} {cur : World} {w' : World} (h : Giv W S cs bt vals o1 o2 o3 o4 cur) (hk : Wp (fun _ => False) cur w') : Giv W S cs bt vals o1 o2 o3 o4 w' :=
 ⟨h.kept.trans hk, fun g c e => (h.s g c e).keepF hk, fun g c e => (h.c g c e).keepF hk, fun g c e => (h.b g c e).keepF hk, fun g c e => (h.r g c e).keepF hk⟩
theorem Giv.drew {W : World} {S : List Wq} {cs : List ValA} {bt : Txt} {vals : List ValA} {o1 o2 o3 o4 : Option (Nat × Nat)} {cur : World} (h : Giv W S cs bt vals o1 o2 o3 o4 cur) : Giv W S cs bt vals o1 o2 o3 o4 cur.drew := h.keepF (Wp.refl _ _).drew
theorem giv_s {W : World} {S : List Wq} {cs : List ValA} {bt : Txt} {vals : List ValA} {o2 o3 o4 : Option (Nat × Nat)} {cur : World} {v : Value} (h : Giv W S cs bt vals none o2 o3 o4 cur) (hv : Wt W v S) (hl : S.length ≤ 1048576) :
  Calls Tryz.prog 17 #[.agg #[v]] cur fun e w' => ∃ g c, e = .returned (.agg #[.slice (some ⟨g, 0, none⟩) S.length c]) ∧ Giv W S cs bt vals (some (g, c)) o2 o3 o4 w' := by
 refine (wideSchema_v cur v S (hv.keepF h.kept) hl).mono ?_
 rintro e w' ⟨g, c, rfl, _, hw, hk⟩
 have h2 := h.keepF hk
 refine ⟨g, c, rfl, h2.kept, fun g' c' e => ?_, h2.c, h2.b, h2.r⟩
 simp only [Option.some.injEq, Prod.mk.injEq] at e
 obtain ⟨rfl, rfl⟩ := e
 exact hw
theorem giv_c {W : World} {S : List Wq} {cs : List ValA} {bt : Txt} {vals : List ValA} {o1 o3 o4 : Option (Nat × Nat)} {cur : World} {v : Value} (h : Giv W S cs bt vals o1 none o3 o4 cur) (hv : Wr W v cs) (hl : cs.length ≤ 1048576) :
  Calls Tryz.prog 18 #[v] cur fun e w' => ∃ g c, e = .returned (.slice (some ⟨g, 0, none⟩) cs.length c) ∧ Giv W S cs bt vals o1 (some (g, c)) o3 o4 w' := by
 refine (wideCode_v cur v cs (hv.keepF h.kept) hl).mono ?_
 rintro e w' ⟨g, c, rfl, _, hw, hk⟩
 have h2 := h.keepF hk
 refine ⟨g, c, rfl, h2.kept, h2.s, fun g' c' e => ?_, h2.b, h2.r⟩
 simp only [Option.some.injEq, Prod.mk.injEq] at e
 obtain ⟨rfl, rfl⟩ := e
 exact hw
theorem giv_b {W : World} {S : List Wq} {cs : List ValA} {bt : Txt} {vals : List ValA} {o1 o2 o4 : Option (Nat × Nat)} {cur : World} {v : Value} (h : Giv W S cs bt vals o1 o2 none o4 cur) (hv : Wv W v bt) (hl : bt.length ≤ 1048576) :
  Calls Tryz.prog 19 #[v] cur fun e w' => ∃ g c, e = .returned (.slice (some ⟨g, 0, none⟩) bt.length c) ∧ Giv W S cs bt vals o1 o2 (some (g, c)) o4 w' := by
 refine (wideBytes_v cur v bt (hv.keepF h.kept) hl).mono ?_
 rintro e w' ⟨g, c, rfl, _, hw, hk⟩
 have h2 := h.keepF hk
 refine ⟨g, c, rfl, h2.kept, h2.s, h2.c, fun g' c' e => ?_, h2.r⟩
 simp only [Option.some.injEq, Prod.mk.injEq] at e
 obtain ⟨rfl, rfl⟩ := e
 exact hw
theorem giv_r {W : World} {S : List Wq} {cs : List ValA} {bt : Txt} {vals : List ValA} {o1 o2 o3 : Option (Nat × Nat)} {cur : World} {v : Value} (hh : Bool) (h : Giv W S cs bt vals o1 o2 o3 none cur) (hv : Wr W v vals) (hl : vals.length ≤ 1048576) :
  Calls Tryz.prog 20 #[.agg #[.bool hh, v]] cur fun e w' => ∃ g c, e = .returned (.agg #[.bool hh, .slice (some ⟨g, 0, none⟩) vals.length c]) ∧ Giv W S cs bt vals o1 o2 o3 (some (g, c)) w' := by
 refine (wideRow_v cur hh v vals (hv.keepF h.kept) hl).mono ?_
 rintro e w' ⟨g, c, rfl, _, hw, hk⟩
 have h2 := h.keepF hk
 refine ⟨g, c, rfl, h2.kept, h2.s, h2.c, h2.b, fun g' c' e => ?_⟩
 simp only [Option.some.injEq, Prod.mk.injEq] at e
 obtain ⟨rfl, rfl⟩ := e
 exact hw
structure GivenAt (w : World) (p : Nat) (S : List Wq) (cs : List ValA) (bt : Txt) (hh : Bool) (vals : List ValA) (gs ks gc kc gb kb gr kr : Nat) : Prop where
 blk : w.heap[p]? = some (.cells #[.slice (some ⟨gs, 0, none⟩) S.length ks, .slice (some ⟨gc, 0, none⟩) cs.length kc, .slice (some ⟨gb, 0, none⟩) bt.length kb, .bool hh, .slice (some ⟨gr, 0, none⟩) vals.length kr] 44 (0, 0))
 s : Wide w (.slice (some ⟨gs, 0, none⟩) S.length ks) 3 S.length (fcs S) markF
 c : Wide w (.slice (some ⟨gc, 0, none⟩) cs.length kc) 3 cs.length (vcs cs) markC
 b : Wide w (.slice (some ⟨gb, 0, none⟩) bt.length kb) 1 bt.length (bs bt) markB
 r : Wide w (.slice (some ⟨gr, 0, none⟩) vals.length kr) 3 vals.length (vcs vals) markV
theorem GivenAt.keepF {w w' : World} {p : Nat} {S : List Wq} {cs : List ValA} {bt : Txt} {hh : Bool} {vals : List ValA} {gs ks gc kc gb kb gr kr : Nat} (h : GivenAt w p S cs bt hh vals gs ks gc kc gb kb gr kr) (hk : Wp (fun _ => False) w w') : GivenAt w' p S cs bt hh vals gs ks gc kc gb kb gr kr :=
 ⟨zD h.blk hk, h.s.keepF hk, h.c.keepF hk, h.b.keepF hk, h.r.keepF hk⟩
theorem Giv.fin {W : World} {S : List Wq} {cs : List ValA} {bt : Txt} {vals : List ValA} {cur : World} {gs ks gc kc gb kb gr kr : Nat} (hh : Bool) (h : Giv W S cs bt vals (some (gs, ks)) (some (gc, kc)) (some (gb, kb)) (some (gr, kr)) cur) :
  GivenAt (cur.alloc (.cells #[.slice (some ⟨gs, 0, none⟩) S.length ks, .slice (some ⟨gc, 0, none⟩) cs.length kc, .slice (some ⟨gb, 0, none⟩) bt.length kb, .bool hh, .slice (some ⟨gr, 0, none⟩) vals.length kr] 44)) cur.heap.size S cs bt hh vals gs ks gc kc gb kb gr kr :=
 have hk := kA cur (.cells #[.slice (some ⟨gs, 0, none⟩) S.length ks, .slice (some ⟨gc, 0, none⟩) cs.length kc, .slice (some ⟨gb, 0, none⟩) bt.length kb, .bool hh, .slice (some ⟨gr, 0, none⟩) vals.length kr] 44)
 ⟨heap_alloc_new cur _, (h.s _ _ rfl).keepF hk, (h.c _ _ rfl).keepF hk, (h.b _ _ rfl).keepF hk, (h.r _ _ rfl).keepF hk⟩
theorem cl5 {w : World} {b : Nat} {c0 c1 c2 c3 c4 : Value} {t : TypeId} (h : w.heap[b]? = some (.cells #[c0, c1, c2, c3, c4] t (0, 0))) : w.cell? ⟨b, 0, none⟩ = some c0 ∧ w.cell? ⟨b, 1, none⟩ = some c1 ∧ w.cell? ⟨b, 2, none⟩ = some c2 ∧ w.cell? ⟨b, 3, none⟩ = some c3 ∧ w.cell? ⟨b, 4, none⟩ = some c4 :=
 ⟨(zC h _).trans rfl, (zC h _).trans rfl, (zC h _).trans rfl, (zC h _).trans rfl, (zC h _).trans rfl⟩
end Go.Proofs.YtbdlcaamanhapaaGreatDoor
namespace Go.Proofs.YtbdlcaamanhapaaGreatDoor
open Go.RowKit Go.Maps
set_option maxRecDepth 100000
set_option maxHeartbeats 8000000
theorem given_v (S : List Wq) (cs : List ValA) (bt : Txt) (hh : Bool) (vals : List ValA) (sv cv bv rv : Value) (w : World) (hS : Wt w sv S) (hc : Wr w cv cs) (hb : Wv w bv bt) (hr : Wr w rv vals) (lS : S.length ≤ 1048576) (lc : cs.length ≤ 1048576) (lb : bt.length ≤ 1048576) (lr : vals.length ≤ 1048576) :
  Calls Tryz.prog 6 #[.agg #[sv], cv, bv, .agg #[.bool hh, rv]] w fun e w' => ∃ p gs ks gc kc gb kb gr kr, e = .returned (.pointer (some ⟨p, 0, none⟩)) ∧ GivenAt w' p S cs bt hh vals gs ks gc kc gb kb gr kr ∧ Wp (fun _ => False) w w' := by
 obtain ⟨so, sc, rfl⟩ := Ws.form hS
 obtain ⟨co, cc, rfl⟩ := Ws.form hc
 obtain ⟨bo, bc, rfl⟩ := Ws.form hb
 obtain ⟨ro, rc, rfl⟩ := Ws.form hr
 obtain ⟨W, hW, hkW, g0, g1⟩ := boxes2 w #[.slice so S.length sc] #[.bool hh, .slice ro vals.length rc] 24 27
 have HWX := zB hkW
 have Ps := zB (hS.keepF hkW)
 have Pc := zB (hc.keepF hkW)
 have Pb := zB (hb.keepF hkW)
 have Pr := zB (hr.keepF hkW)
 have HSK : Hid (∀ w', Wp (fun _ => False) W w' → w'.cell? ⟨w.heap.size, 0, none⟩ = some (.slice so S.length sc) ∧ w'.cell? ⟨w.heap.size + 1, 0, none⟩ = some (.bool hh) ∧ w'.cell? ⟨w.heap.size + 1, 1, none⟩ = some (.slice ro vals.length rc)) := fun w' hk => by
  have x1 := zD g0 hk
  have x2 := zD g1 hk
  exact ⟨(zC x1 _).trans rfl, (zC x2 _).trans rfl, (zC x2 _).trans rfl⟩
 have HL : Hid (Giv W S cs bt vals none none none none W) := ⟨Wp.refl _ _, fun _ _ e => (by cases e), fun _ _ e => (by cases e), fun _ _ e => (by cases e), fun _ _ e => (by cases e)⟩
 obtain ⟨a0, a1, a2⟩ := zA HSK W (Wp.refl _ _)
 clear g0 g1 hkW hS hc hb hr
 go_enter Tryz.func6, Tryz.ntmps6
 go_wp2_with fail
 go_region_held3 (fun w' => w'.cell? ⟨w.heap.size, 0, none⟩ = some (.slice so S.length sc) ∧ w'.cell? ⟨w.heap.size + 1, 0, none⟩ = some (.bool hh) ∧ w'.cell? ⟨w.heap.size + 1, 1, none⟩ = some (.slice ro vals.length rc))
  (first | with_reducible exact zA HSK _ (zA HL).kept | with_reducible exact zA HSK _ (zA HL).kept.drew | with_reducible exact zA HSK _ ((zA HL).kept.alloc _))
  ((first
  | (go_at_call 17; refine (giv_s (by first | with_reducible exact zA HL | with_reducible exact (zA HL).drew) (zA Ps) lS).mono ?_; rintro e w1 ⟨gs, ks, rfl, hl1⟩; have HL := zB hl1; clear hl1)
  | (go_at_call 18; refine (giv_c (by first | with_reducible exact zA HL | with_reducible exact (zA HL).drew) (zA Pc) lc).mono ?_; rintro e w1 ⟨gc, kc, rfl, hl1⟩; have HL := zB hl1; clear hl1)
  | (go_at_call 19; refine (giv_b (by first | with_reducible exact zA HL | with_reducible exact (zA HL).drew) (zA Pb) lb).mono ?_; rintro e w1 ⟨gb, kb, rfl, hl1⟩; have HL := zB hl1; clear hl1)
  | (go_at_call 20; refine (giv_r hh (by first | with_reducible exact zA HL | with_reducible exact (zA HL).drew) (zA Pr) lr).mono ?_; rintro e w1 ⟨gr, kr, rfl, hl1⟩; have HL := zB hl1; clear hl1)))
 all_goals go_wp2_with fail
 all_goals
  go_ret
  exact ⟨_, _, _, _, _, _, _, _, _, rfl, (zA HL).fin hh, (zA HWX).trans ((zA HL).kept.alloc _)⟩
end Go.Proofs.YtbdlcaamanhapaaGreatDoor
namespace Go.Proofs.YtbdlcaamanhapaaGreatDoor
open Go.RowKit Go.Maps
structure By (w : World) (L : List Rowp) (v : Value) (l : List ValA) : Prop where
 vals : Wr w v l
 off : ∀ p ∈ L, ∀ b, p.has b → fullBlock v ≠ some b
section
variable {w wx w' : World} {L M : List Rowp} {v : Value} {l : List ValA}
theorem By.keepF (h : By w L v l) (hk : Wp (fun _ => False) w w') : By w' L v l := ⟨h.vals.keepF hk, h.off⟩
theorem By.start (h : Sk w wx L) (hv : Wr w' v l) (hn : ∀ q, fullBlock v = some q → wx.heap.size ≤ q) : By w' L v l :=
 ⟨hv, fun p hp b hb hq => by have h1 := ((h.at_ hp).lt hb).2; have h2 := hn b hq; omega⟩
theorem By.newRow {e : TypeId} {z n : Nat} {u : Value} {X : List Value} (h : By wx L v l) (hk : Wp (fun _ => False) wx w') (ho : w'.ownsRow wx.heap.size e z u n X) : By w' (solo e z n u X :: L) v l :=
 ⟨h.vals.keepF hk, fun p hp b hb hq => by
  rcases List.mem_cons.1 hp with rfl | hp
  ·have h1 := own_geO ho (solo_has hb)
   have h2 := (vals_full h.vals hq).1
   omega
  ·exact h.off p hp b hb hq⟩
end
structure CodesAt (w : World) (v : Value) (Cs : List (List ValA)) (hs : List Value) : Prop where
 row : Ws w v Cs.length hs
 len : hs.length = Cs.length
 item : ∀ (i : Nat) (c : Value) (l : List ValA), hs[i]? = some c → Cs[i]? = some l → Wr w c l
theorem CodesAt.keepF {w w' : World} {v : Value} {Cs : List (List ValA)} {hs : List Value} (h : CodesAt w v Cs hs) (hk : Wp (fun _ => False) w w') : CodesAt w' v Cs hs :=
 ⟨h.row.keepF hk, h.len, fun i c l h1 h2 => (h.item i c l h1 h2).keepF hk⟩
theorem CodesAt.at_ {w : World} {v : Value} {Cs : List (List ValA)} {hs : List Value} (h : CodesAt w v Cs hs) {i : Nat} (hi : i < Cs.length) :
  ∃ b off cap c, v = .slice (some ⟨b, off, none⟩) Cs.length cap ∧ w.cell? ⟨b, off + i, none⟩ = some c ∧ Wr w c Cs[i] ∧ hs[i]? = some c := by
 obtain ⟨b, off, cap, e, _, hc⟩ := h.row.cells (by omega)
 have hl : i < hs.length := by rw [h.len]; exact hi
 exact ⟨b, off, cap, hs[i], e, hc i _ (List.getElem?_eq_getElem hl), h.item i _ _ (List.getElem?_eq_getElem hl) (List.getElem?_eq_getElem hi), List.getElem?_eq_getElem hl⟩
theorem CodesAt.pick {w : World} {Cs : List (List ValA)} {hs : List Value} {b off n cap i : Nat} {c : Value} {l : List ValA} (h : CodesAt w (.slice (some ⟨b, off, none⟩) n cap) Cs hs) (h1 : hs[i]? = some c) (h2 : Cs[i]? = some l) : w.cell? ⟨b, off + i, none⟩ = some c ∧ Wr w c l := by
 obtain ⟨b', off', cap', e, _, hc⟩ := h.row.cells (by have := (List.getElem?_eq_some_iff.1 h2).1; omega)
 simp only [Value.slice.injEq, Option.some.injEq, Addr.mk.injEq] at e
 obtain ⟨⟨rfl, rfl, _⟩, _, _⟩ := e
 exact ⟨hc i c h1, h.item i c l h1 h2⟩
end Go.Proofs.YtbdlcaamanhapaaGreatDoor
namespace Go.Proofs.YtbdlcaamanhapaaGreatDoor
open Go.ChangeShapes Go.WideShapes Go.ChangeAt Go.RowKit Go.Deep
set_option maxRecDepth 100000
theorem bulk_one {H : Type} (d : DataW H) : 1 ≤ Rows.uptoBulk d := by
 cases d with
 | lit l => cases l <;> simp [Rows.uptoBulk]
 | nil => simp [Rows.uptoBulk]
 | ptr d => simp [Rows.uptoBulk]
 | slice elems spare => simp [Rows.uptoBulk]
 | agg parts => simp [Rows.uptoBulk]
 | iface t d => simp [Rows.uptoBulk]
 | map entries => simp [Rows.uptoBulk]
 | held h => simp [Rows.uptoBulk]
theorem bulk_len {H : Type} : ∀ l : List (DataW H), l.length ≤ Rows.uptoBulkAll l
 | [] => by simp
 | d :: r => by
  have h1 := bulk_one d
  have h2 := bulk_len r
  simp only [Rows.uptoBulkAll, List.length_cons]
  omega
theorem bulk_mem {H : Type} {d : DataW H} : ∀ {l : List (DataW H)}, d ∈ l → Rows.uptoBulk d ≤ Rows.uptoBulkAll l
 | [], h => by cases h
 | y :: r, h => by
  simp only [Rows.uptoBulkAll]
  rcases List.mem_cons.1 h with rfl | h
  ·omega
  ·have := bulk_mem h
   omega
theorem eRow : Tryz.prog.cellsOf 27 = 2 := by kernel_rfl
theorem eVals : Tryz.prog.cellsOf 25 = 1 := by kernel_rfl
theorem eVal : Tryz.prog.cellsOf 51 = 3 := by kernel_rfl
theorem eIns : Tryz.prog.cellsOf 35 = 1 := by kernel_rfl
section
variable {H : Type} {enc : TypeId × Value → H} {W : World} {fuel : Nat}
theorem bulk_row {t e : TypeId} (ht : Tryz.prog.underlying t = some (.slice e)) {c : Value} {x : DataW H × List MemPlace} (h : DataW.trod enc Tryz.prog W 0 (fun _ => true) true fuel t [c] = some x) {M : Nat} (hb : Rows.uptoBulk x.1 ≤ M) {n : Nat} {xs : List Value} (hr : Ws W c n xs) : n ≤ M := by
 obtain ⟨ao, cp, hform⟩ := hr.form
 rcases DataW.trod_slice ht h with ⟨hcs, _⟩ | ⟨a, len, cap, elems, rest, n', hn, hcs, hxx, hle, hlc, _, hel, _, _, _⟩
 ·simp at hcs
  rw [hcs] at hform
  simp at hform
  omega
 ·rw [hxx] at hb
  simp only [Rows.uptoBulk] at hb
  have h1 := bulk_len (elems.map (·.1))
  simp only [List.length_map] at h1
  simp at hcs
  rw [hcs] at hform
  simp at hform
  omega
theorem val_read (fuel : Nat) (cs : List Value) (x : DataW H × List MemPlace) (h : DataW.trod enc Tryz.prog W 0 (fun _ => true) true fuel 51 cs = some x) : ∃ f : ValA, cs = f.cs ∧ (-9223372036854775808 ≤ f.n ∧ f.n ≤ 9223372036854775807) := by
 obtain ⟨xs, m, hm, _, hl, hlen, hf⟩ := DataW.trod_struct Tryz.underlying51 h
 have hl' : cs.length = 3 := hl.trans eVal
 match xs, hlen, cs, hl' with
 | [y0, y1, y2], _, [c0, c1, c2], _ =>
  have h0 : DataW.trod enc Tryz.prog W 0 (fun _ => true) true m 3 (([c0, c1, c2].drop 0).take (Tryz.prog.cellsOf 3)) = some y0 := hf 0 _ rfl
  have h1 : DataW.trod enc Tryz.prog W 0 (fun _ => true) true m 2 (([c0, c1, c2].drop 1).take (Tryz.prog.cellsOf 2)) = some y1 := hf 1 _ rfl
  have h2 : DataW.trod enc Tryz.prog W 0 (fun _ => true) true m 9 (([c0, c1, c2].drop 2).take (Tryz.prog.cellsOf 9)) = some y2 := hf 2 _ rfl
  rw [e3] at h0
  rw [e2] at h1
  rw [e9] at h2
  simp only [List.drop_zero, List.take_succ_cons, List.take_zero, List.drop_succ_cons] at h0 h1 h2
  obtain ⟨k, q0, _, _⟩ := DataW.trod_int Tryz.underlying3 h0
  obtain ⟨i, q1, _, w1⟩ := DataW.trod_int Tryz.underlying2 h1
  obtain ⟨s, q2, _, _⟩ := DataW.trod_string Tryz.underlying9 h2
  simp at q0 q1 q2
  exact ⟨⟨k, i, s.data.toList⟩, by rw [q0, q1, q2, str_of]; rfl, i64_hi w1⟩
theorem row_inB {cs : List Value} {x : DataW H × List MemPlace} (h : DataW.trod enc Tryz.prog W 0 (fun _ => true) true fuel 27 cs = some x) {M : Nat} (hb : Rows.uptoBulk x.1 ≤ M) :
  ∃ (hh : Bool) (u : Value) (vals : List ValA), cs = [.bool hh, u] ∧ Wr W u vals ∧ vals.length ≤ M := by
 obtain ⟨xs, m, hm, hx, hl, hlen, hf⟩ := DataW.trod_struct Tryz.underlying27 h
 have hl' : cs.length = 2 := hl.trans eRow
 match xs, hlen, cs, hl' with
 | [y0, y1], _, [c0, c1], _ =>
  have h0 : DataW.trod enc Tryz.prog W 0 (fun _ => true) true m 4 (([c0, c1].drop 0).take (Tryz.prog.cellsOf 4)) = some y0 := hf 0 _ rfl
  have h1 : DataW.trod enc Tryz.prog W 0 (fun _ => true) true m 25 (([c0, c1].drop 1).take (Tryz.prog.cellsOf 25)) = some y1 := hf 1 _ rfl
  rw [e4] at h0
  rw [eVals] at h1
  simp only [List.drop_zero, List.take_succ_cons, List.take_zero, List.drop_succ_cons] at h0 h1
  rw [hx] at hb
  simp only [Rows.uptoBulk, Rows.uptoBulkAll, List.map_cons, List.map_nil] at hb
  obtain ⟨o, q0, _⟩ := DataW.trod_bool Tryz.underlying4 h0
  simp at q0
  obtain ⟨l, hl, _⟩ := rowsOf ValA.cs 3 (by omega) (fun _ => rfl) Tryz.underlying25 eVal val_read h1
  exact ⟨o, c1, l, by rw [q0], hl, bulk_row Tryz.underlying25 h1 (M := M) (by omega) hl⟩
theorem schema_bulk {sv : Value} {x : DataW H × List MemPlace} (h : DataW.trod enc Tryz.prog W 0 (fun _ => true) true fuel 24 [sv] = some x) {M : Nat} (hb : Rows.uptoBulk x.1 ≤ M) {S : List Wq} (hS : Wt W sv S) : S.length ≤ M := by
 obtain ⟨xs, m, hm, hx, hl, hlen, hf⟩ := DataW.trod_struct Tryz.underlying24 h
 match xs, hlen with
 | [y0], _ =>
  have h0 : DataW.trod enc Tryz.prog W 0 (fun _ => true) true m 22 (([sv].drop 0).take (Tryz.prog.cellsOf 22)) = some y0 := hf 0 _ rfl
  rw [e37] at h0
  simp only [List.drop_zero, List.take_succ_cons, List.take_zero] at h0
  refine bulk_row Tryz.underlying22 h0 ?_ hS
  rw [hx] at hb
  simp only [Rows.uptoBulk, Rows.uptoBulkAll, List.map_cons, List.map_nil] at hb
  omega
theorem codes_in {c : Value} {x : DataW H × List MemPlace} (h : DataW.trod enc Tryz.prog W 0 (fun _ => true) true fuel 28 [c] = some x) {M : Nat} (hb : Rows.uptoBulk x.1 ≤ M) :
  ∃ (Cs : List (List ValA)) (hs : List Value), CodesAt W c Cs hs ∧ (∀ l ∈ Cs, InR l) ∧ Cs.length ≤ M ∧ ∀ l ∈ Cs, l.length ≤ M := by
 have key : ∃ l : List (Value × List ValA), Ws W c l.length (l.map (·.1)) ∧ ∀ a ∈ l, Wr W a.1 a.2 ∧ InR a.2 ∧ a.2.length ≤ M := by
  rcases open_slice Tryz.underlying28 h with ⟨hcs, _⟩ | ⟨a, len, cap, m, n, D, Pl, hcs, _, hl, hm, hmm, hx, hel⟩
  ·simp at hcs
   subst hcs
   exact ⟨[], ⟨⟨_, _, rfl⟩, fun h0 => by simp at h0, fun ao m cap e => by simp at e; omega⟩, fun _ h => by cases h⟩
  ·simp at hcs
   subst hcs
   simp at hmm
   rw [eIns] at hel
   have hev : ∀ i, i < len → ∃ p : Value × List ValA, W.cell? (a.add (i * 1)) = some p.1 ∧ Wr W p.1 p.2 ∧ InR p.2 ∧ p.2.length ≤ M := by
    intro i hi
    obtain ⟨cs', hcs', htr⟩ := hel i (by omega)
    obtain ⟨_, hl1, hcc⟩ := World.cells?_some hcs'
    match cs', hl1 with
    | [v], _ =>
     have htr' : DataW.trod enc Tryz.prog W 0 (fun _ => true) true _ 35 [v] = some _ := htr
     obtain ⟨l, hl, hq⟩ := rowsOf ValA.cs 3 (by omega) (fun _ => rfl) Tryz.underlying35 e52 ins_read htr'
     refine ⟨(v, l), ?_, hl, hq, bulk_row Tryz.underlying35 htr' ?_ hl⟩
     ·have := hcc 0 (by omega)
      simpa [Addr.add] using this
     ·rw [hx] at hb
      simp only [Rows.uptoBulk] at hb
      have h2 : Rows.uptoBulk (D i) ≤ Rows.uptoBulkAll ((List.range len).map D) := bulk_mem (List.mem_map.2 ⟨i, List.mem_range.2 hi, rfl⟩)
      show Rows.uptoBulk (D i) ≤ M
      omega
   obtain ⟨f, hf⟩ := choose_lt hev
   refine ⟨(List.range len).map f, ⟨⟨_, _, by simp; exact ⟨rfl, rfl⟩⟩, fun h0 => ?_, fun ao m cap' e => by simp at e; omega⟩, ?_⟩
   ·simp at h0
    have hc0 := (hf 0 h0).1
    have hspot : a.spot = none := by
     have := World.cell?_spot hc0
     simpa [Addr.add] using this
    obtain ⟨b, off, spot⟩ := a
    simp at hspot
    subst hspot
    refine ⟨b, off, cap, by simp, ?_, fun j v hv => ?_⟩
    ·have := World.block_lt_of_cell? W _ hc0
     simpa [Addr.add] using this
    ·have hj : j < len := by
      have := (List.getElem?_eq_some_iff.1 hv).1
      simpa using this
     have hve : v = (f j).1 := by simpa [hj] using hv.symm
     rw [hve]
     have := (hf j hj).1
     simp only [Addr.add_lit, Nat.mul_one] at this
     exact this
   ·intro y hy
    obtain ⟨i, hi, rfl⟩ := List.mem_map.1 hy
    exact (hf i (List.mem_range.1 hi)).2
 obtain ⟨l, hr, hq⟩ := key
 have hn : l.length ≤ M := bulk_row Tryz.underlying28 h hb hr
 refine ⟨l.map (·.2), l.map (·.1), ⟨by rw [List.length_map]; exact hr, by simp, fun i c k h1 h2 => ?_⟩, ?_, by rw [List.length_map]; exact hn, ?_⟩
 ·simp only [List.getElem?_map, Option.map_eq_some_iff] at h1 h2
  obtain ⟨a, ha, rfl⟩ := h1
  obtain ⟨b, hb, rfl⟩ := h2
  rw [ha] at hb
  obtain rfl := Option.some.inj hb
  exact (hq a (List.mem_of_getElem? ha)).1
 ·intro k hk
  obtain ⟨a, ha, rfl⟩ := List.mem_map.1 hk
  exact (hq a ha).2.1
 ·intro k hk
  obtain ⟨a, ha, rfl⟩ := List.mem_map.1 hk
  exact (hq a ha).2.2
end
end Go.Proofs.YtbdlcaamanhapaaGreatDoor
namespace Go.Proofs.YtbdlcaamanhapaaGreatDoor
open Go.RowKit Go.Maps
def markRows (K : Kind) (X : K.α) (l : List K.α) (v mv : Value) (L : List Rowp) (i j : Nat) : List Rowp :=
 solo K.e K.z j mv (K.C (List.replicate j X)) :: L.set i (solo K.e K.z l.length v (K.C (overL l X j)))
theorem List.set_getElem?_self' {α : Type} {l : List α} {i : Nat} {a : α} (h : l[i]? = some a) : l.set i a = l := by
  obtain ⟨hl, e⟩ := List.getElem?_eq_some_iff.1 h
  rw [← e, List.set_getElem_self]
theorem rep_succ {α : Type} (x : α) (j : Nat) : List.replicate j x ++ [x] = List.replicate (j + 1) x := by rw [List.replicate_succ']
section
variable {w3 wr w2 w' : World} {K : Kind} {X : K.α} {l : List K.α} {v mv : Value} {L : List Rowp} {i j g cap : Nat} {o : Obj}
theorem markRows_list (hi : i < L.length) : (markRows K X l v mv L i j)[i + 1]? = some (solo K.e K.z l.length v (K.C (overL l X j))) := by
 unfold markRows
 rw [List.getElem?_cons_succ, List.getElem?_set_self hi]
theorem markRows_turn (P Q : Rowp) : ((markRows K X l v mv L i j).set (i + 1) P).set 0 Q = Q :: L.set i P := by
 unfold markRows
 rw [List.set_cons_succ, List.set_cons_zero, List.set_set]
theorem markRows_next (hj : j < l.length) : ((markRows K X l v mv L i j).set (i + 1) (solo K.e K.z l.length v (K.C ((overL l X j).set j X)))).set 0 (solo K.e K.z (j + 1) (.slice (some ⟨g, 0, none⟩) (j + 1) cap) (K.C (List.replicate j X) ++ K.C [X])) = markRows K X l v (.slice (some ⟨g, 0, none⟩) (j + 1) cap) L i (j + 1) := by
 rw [markRows_turn, overL_set hj, ← K.app, rep_succ]
 rfl
theorem mark_start (hi : L[i]? = some (solo K.e K.z l.length v (K.C l))) : markRows K X l v (.slice none 0 0) L i 0 = solo K.e K.z 0 (.slice none 0 0) [] :: L := by
 have hC : K.C [] = [] := List.eq_nil_of_length_eq_zero (by rw [K.len]; simp)
 unfold markRows
 rw [overL_zero, List.replicate_zero, hC, List.set_getElem?_self' hi]
end
structure St (w3 w0 wx : World) (L : List Rowp) (P : Nat → Prop) : Prop where
 sk : Sk w3 wx L
 off : ∀ p ∈ L, ∀ b, p.has b → ¬ P b
 kp : Wp (fun b => ¬ P b) w0 wx
 lt : ∀ b, P b → b < w0.heap.size
section
variable {w3 w0 wx w' : World} {L M : List Rowp} {P : Nat → Prop} {e : TypeId} {z n k m g cap i : Nat} {v vx vm : Value} {X X' Y Z : List Value} {o : Obj}
theorem St.keepF (h : St w3 w0 wx L P) (hk : Wp (fun _ => False) wx w') : St w3 w0 w' L P := ⟨h.sk.keepF hk, h.off, h.kp.trans hk.any, h.lt⟩
theorem St.base (h : St w3 w0 wx L P) : w3.heap.size ≤ wx.heap.size := h.sk.keeps.size
theorem St.nowhere (h : St w3 w0 wx L P) (e : TypeId) {z : Nat} (hz : 0 < z) : St w3 w0 wx (solo e z 0 (.slice none 0 0) [] :: L) P :=
 ⟨⟨h.sk.sack.nowhere hz, h.sk.keeps⟩, fun p hp b hb => by
  rcases List.mem_cons.1 hp with rfl | hp
  ·cases solo_has hb
  ·exact h.off p hp b hb, h.kp, h.lt⟩
theorem St.newRow (h : St w3 w0 wx L P) (hk : Wp (fun _ => False) wx w') (ho : w'.ownsRow wx.heap.size e z v n X) (hz : 0 < z) : St w3 w0 w' (solo e z n v X :: L) P :=
 ⟨h.sk.newRow hk ho hz, fun p hp b hb hP => by
  rcases List.mem_cons.1 hp with rfl | hp
  ·have h1 := own_geO ho (solo_has hb)
   have h2 := h.lt b hP
   have h3 := h.kp.size
   omega
  ·exact h.off p hp b hb hP, h.kp.trans hk.any, h.lt⟩
theorem St.ati (h : St w3 w0 wx L P) {p : Rowp} (hp : L[i]? = some p) : p.at_ wx w3.heap.size := h.sk.ati hp
theorem St.putAt (h : St w3 w0 wx L P) (hi : L[i]? = some (solo e z n v X)) (h' : w'.ownsRow w3.heap.size e z v n X') (hk : Wp (fun q => v.ownBlock = some q) wx w') : St w3 w0 w' (L.set i (solo e z n v X')) P :=
 ⟨h.sk.putAt hi h' hk, fun p hp b hb => by
  rcases List.mem_or_eq_of_mem_set hp with hp | rfl
  ·exact h.off p hp b hb
  ·exact h.off _ (List.mem_of_getElem? hi) b hb, h.kp.trans (hk.mono fun b _ hb => h.off _ (List.mem_of_getElem? hi) b (Or.inl hb)), h.lt⟩
theorem St.growAt (h : St w3 w0 wx L P) (hi : L[i]? = some ⟨e, z, n, vx, X, k, vm, Y⟩) (hG : GrewZ (wx.alloc o) w' w3.heap.size e z (n + k) m vm g cap (X ++ Y) Z) : St w3 w0 w' (L.set i ⟨e, z, n, vx, X, k + m, .slice (some ⟨g, 0, none⟩) (n + k + m) cap, Y ++ Z⟩) P := by
 have hm := List.mem_of_getElem? hi
 refine ⟨h.sk.growAt hi hG, fun p hp b hb hP => ?_, (h.kp.trans ((Wp.refl (fun b => ¬ P b) wx).alloc o)).trans (hG.keeps.mono fun b _ hb => h.off _ hm b (Or.inr hb)), h.lt⟩
 rcases List.mem_or_eq_of_mem_set hp with hp | rfl
 ·exact h.off p hp b hb hP
 ·rcases hb with hb | hb
  ·exact h.off _ hm b (Or.inl hb) hP
  ·have hb : g = b := by simpa [Value.ownBlock] using hb
   subst hb
   rcases hG.at_ with h3 | h3
   ·exact h.off _ hm g (Or.inr h3) hP
   ·have h4 := h.lt g hP
    have h5 := h.kp.size
    simp at h3
    omega
theorem St.growSelfAt (h : St w3 w0 wx L P) (hi : L[i]? = some (solo e z n v X)) (hG : GrewZ (wx.alloc o) w' w3.heap.size e z n m v g cap X Z) : St w3 w0 w' (L.set i (solo e z (n + m) (.slice (some ⟨g, 0, none⟩) (n + m) cap) (X ++ Z))) P := by
 have hm := List.mem_of_getElem? hi
 refine ⟨h.sk.growSelfAt hi hG, fun p hp b hb hP => ?_, (h.kp.trans ((Wp.refl (fun b => ¬ P b) wx).alloc o)).trans (hG.keeps.mono fun b _ hb => h.off _ hm b (Or.inl hb)), h.lt⟩
 rcases List.mem_or_eq_of_mem_set hp with hp | rfl
 ·exact h.off p hp b hb hP
 ·have hb : g = b := by simpa [Value.ownBlock] using solo_has hb
  subst hb
  rcases hG.at_ with h3 | h3
  ·exact h.off _ hm g (Or.inl h3) hP
  ·have h4 := h.lt g hP
   have h5 := h.kp.size
   simp at h3
   omega
theorem St.blk (h : St w3 w0 wx L P) {b : Nat} (hP : P b) {x : Obj} (hb : w0.heap[b]? = some x) : wx.heap[b]? = some x := (h.kp.block b (h.lt b hP) (fun f => f hP)).trans hb
theorem St.vals (h : St w3 w0 wx L P) {u : Value} {l : List ValA} (hu : Wr w0 u l) (hP : ∀ q, fullBlock u = some q → P q) : Wr wx u l := vals_kept hu h.kp (fun q e f => f (hP q e))
theorem St.mark {K : Kind} {x : K.α} {l : List K.α} {mv : Value} {j : Nat} {w2 : World} (h : St w3 w0 wx (markRows K x l v mv L i j) P) (hi : i < L.length) (hj : j < l.length)
  (hput : w2.ownsRow w3.heap.size K.e K.z v l.length (K.C ((overL l x j).set j x))) (hk : Wp (fun q => v.ownBlock = some q) wx w2)
  (hG : GrewZ (w2.alloc o) w' w3.heap.size K.e K.z j 1 mv g cap (K.C (List.replicate j x)) (K.C [x])) : St w3 w0 w' (markRows K x l v (.slice (some ⟨g, 0, none⟩) (j + 1) cap) L i (j + 1)) P := by
 have h1 := h.putAt (markRows_list hi) hput hk
 have h2 := h1.growSelfAt (i := 0) (by unfold markRows; rw [List.set_cons_succ]; rfl) hG
 rw [markRows_next hj] at h2
 exact h2
theorem St.markStart {K : Kind} {x : K.α} {l : List K.α} (h : St w3 w0 wx L P) (hi : L[i]? = some (solo K.e K.z l.length v (K.C l))) : St w3 w0 wx (markRows K x l v (.slice none 0 0) L i 0) P := by
 rw [mark_start hi]
 exact h.nowhere _ K.pos
theorem St.marks {K : Kind} {x : K.α} {l : List K.α} {mv : Value} {j : Nat} {w2 : World} (h : St w3 w0 wx (markRows K x l v mv L i j) P) (hi : i < L.length)
  (hput : w2.ownsRow w3.heap.size K.e K.z v l.length (K.C ((overL l x j).set j x))) (hk : Wp (fun q => v.ownBlock = some q) wx w2) : w2.ownsRow w3.heap.size K.e K.z mv j (K.C (List.replicate j x)) :=
 ((h.putAt (markRows_list hi) hput hk).ati (i := 0) (by unfold markRows; rw [List.set_cons_succ]; rfl)).x
end
theorem val_lit (w : World) (k n : Int) (s : Txt) : (w.alloc (.cells #[.int .i64 k, .int .i64 n, str s] 51)).ownsRow 0 51 3 (.slice (some ⟨w.heap.size, 0, none⟩) 1 1) 1 (vcs [⟨k, n, s⟩]) :=
 World.ownsRow_lit (base := 0) (e := 51) (size := 3) w #[.int .i64 k, .int .i64 n, str s] 1 (Nat.zero_le _) (by unfold maxLen; omega) (by simp)
theorem stp_lit (w : World) (k : Int) (s : Txt) : (w.alloc (.cells #[.int .i64 k, str s] 53)).ownsRow 0 53 2 (.slice (some ⟨w.heap.size, 0, none⟩) 1 1) 1 (sC [(k, s)]) :=
 World.ownsRow_lit (base := 0) (e := 53) (size := 2) w #[.int .i64 k, str s] 1 (Nat.zero_le _) (by unfold maxLen; omega) (by simp)
section
variable {w : World} {ops : Array Oper} {rest : List Oper} {o : Oper} {a : Act} {Q : Exit → Act → World → Prop}
theorem append_stp (hgd : o.guard = none) (s x : Operand)
  (ho : o.op = .call { callee := .builtin .append, args := #[s, x], argTypes := #[45, 45] }) (base : Nat) (v : Value) (n : Nat) (xs : List Value) (hs : a.eval s = v) (hown : w.ownsRow base 53 2 v n xs)
  (ad c : Nat) (f : Int × Txt) (hx : a.eval x = .slice (some ⟨ad, 0, none⟩) 1 c) (hu : w.ownsRow 0 53 2 (.slice (some ⟨ad, 0, none⟩) 1 c) 1 (sC [f])) (hl : n + 1 ≤ 4398046511104) (hbase : base ≤ w.heap.size)
  (h : ∀ g cap w', GrewZ w w' base 53 2 n 1 v g cap xs (sC [f]) → wpList Tryz.prog ops Q rest (a.put o.dst (.slice (some ⟨g, 0, none⟩) (n + 1) cap)) w') : wpList Tryz.prog ops Q (o :: rest) a w := by
 obtain ⟨i0, hi, hz0, hz1, hz2⟩ := info_parts Tryz.info53
 exact append_two (P := Tryz.prog) w hgd s x 45 ho base 53 i0 _ 2 24 Tryz.underlying45 hi hz0 hz1 hz2 rfl (by omega) v n xs hs hown _ 1 c (sC [f]) hx (by rw [sC_len]; rfl) (hu.cells rfl) (sC_ones [f]) (by omega) (by unfold maxLen; omega) (by omega) hbase (fun g cap w' h1 h2 => h g cap w' ⟨h1, h2⟩)
end
def rows4 (n m : Nat) (X : ValA) (Z : Int × Txt) (u1 u3 : Value) (M T : List Rowp) (a b c d : Nat) (va vb vc vd : Value) : List Rowp :=
 solo 53 2 (m + d) vd (sC (List.replicate (m + d) Z)) :: solo 51 3 (n + b) vb (vcs (List.replicate (n + b) X)) :: ⟨53, 2, m, u3, sC (List.replicate m Z), c, vc, sC (List.replicate c Z)⟩ :: ⟨51, 3, n, u1, vcs (List.replicate n X), a, va, vcs (List.replicate a X)⟩ :: (M ++ T)
theorem vcs_succ (k : Nat) (X : ValA) : vcs (List.replicate k X) ++ vcs [X] = vcs (List.replicate (k + 1) X) := by rw [← vcs_app, rep_succ]
theorem sC_succ (k : Nat) (Z : Int × Txt) : sC (List.replicate k Z) ++ sC [Z] = sC (List.replicate (k + 1) Z) := by rw [← sC_app, rep_succ]
section
variable {w3 w0 wx w' : World} {n m a b c d g cap : Nat} {X : ValA} {Z : Int × Txt} {u1 u3 va vb vc vd : Value} {M T : List Rowp} {P : Nat → Prop} {o : Obj}
theorem St.grow35 (h : St w3 w0 wx (rows4 n m X Z u1 u3 M T a b c d va vb vc vd) P) (hG : GrewZ (wx.alloc o) w' w3.heap.size 51 3 (n + a) 1 va g cap (vcs (List.replicate n X) ++ vcs (List.replicate a X)) (vcs [X])) :
  St w3 w0 w' (rows4 n m X Z u1 u3 M T (a + 1) b c d (.slice (some ⟨g, 0, none⟩) (n + a + 1) cap) vb vc vd) P := by
 have h1 := h.growAt (i := 3) rfl hG
 rw [vcs_succ] at h1
 exact h1
theorem St.grow36 (h : St w3 w0 wx (rows4 n m X Z u1 u3 M T a b c d va vb vc vd) P) (hG : GrewZ (wx.alloc o) w' w3.heap.size 51 3 (n + b) 1 vb g cap (vcs (List.replicate (n + b) X)) (vcs [X])) :
  St w3 w0 w' (rows4 n m X Z u1 u3 M T a (b + 1) c d va (.slice (some ⟨g, 0, none⟩) (n + b + 1) cap) vc vd) P := by
 have h1 := h.growSelfAt (i := 1) rfl hG
 rw [vcs_succ] at h1
 exact h1
theorem St.grow37 (h : St w3 w0 wx (rows4 n m X Z u1 u3 M T a b c d va vb vc vd) P) (hG : GrewZ (wx.alloc o) w' w3.heap.size 53 2 (m + c) 1 vc g cap (sC (List.replicate m Z) ++ sC (List.replicate c Z)) (sC [Z])) :
  St w3 w0 w' (rows4 n m X Z u1 u3 M T a b (c + 1) d va vb (.slice (some ⟨g, 0, none⟩) (m + c + 1) cap) vd) P := by
 have h1 := h.growAt (i := 2) rfl hG
 rw [sC_succ] at h1
 exact h1
theorem St.grow38 (h : St w3 w0 wx (rows4 n m X Z u1 u3 M T a b c d va vb vc vd) P) (hG : GrewZ (wx.alloc o) w' w3.heap.size 53 2 (m + d) 1 vd g cap (sC (List.replicate (m + d) Z)) (sC [Z])) :
  St w3 w0 w' (rows4 n m X Z u1 u3 M T a b c (d + 1) va vb vc (.slice (some ⟨g, 0, none⟩) (m + d + 1) cap)) P := by
 have h1 := h.growSelfAt (i := 0) rfl hG
 rw [sC_succ] at h1
 exact h1
theorem St.own35 (h : St w3 w0 wx (rows4 n m X Z u1 u3 M T a b c d va vb vc vd) P) : wx.ownsRow w3.heap.size 51 3 va (n + a) (vcs (List.replicate n X) ++ vcs (List.replicate a X)) := (h.ati (i := 3) rfl).m
theorem St.own36 (h : St w3 w0 wx (rows4 n m X Z u1 u3 M T a b c d va vb vc vd) P) : wx.ownsRow w3.heap.size 51 3 vb (n + b) (vcs (List.replicate (n + b) X)) := (h.ati (i := 1) rfl).x
theorem St.own37 (h : St w3 w0 wx (rows4 n m X Z u1 u3 M T a b c d va vb vc vd) P) : wx.ownsRow w3.heap.size 53 2 vc (m + c) (sC (List.replicate m Z) ++ sC (List.replicate c Z)) := (h.ati (i := 2) rfl).m
theorem St.own38 (h : St w3 w0 wx (rows4 n m X Z u1 u3 M T a b c d va vb vc vd) P) : wx.ownsRow w3.heap.size 53 2 vd (m + d) (sC (List.replicate (m + d) Z)) := (h.ati (i := 0) rfl).x
structure Two (w0 : World) (P : Nat → Prop) (g29 g30 : Nat) (kx nx kz : Int) : Prop where
 p29 : P g29
 p30 : P g30
 c29 : w0.heap[g29]? = some (.cells #[.int .i64 kx, .int .i64 nx, .string { data := #[109, 97, 114, 107] }] 51 (0, 0))
 c30 : w0.heap[g30]? = some (.cells #[.int .i64 kz, .string { data := #[109, 97, 114, 107] }] 53 (0, 0))
theorem Two.cells {L : List Rowp} {g29 g30 : Nat} {kx nx kz : Int} (h : Two w0 P g29 g30 kx nx kz) (hs : St w3 w0 wx L P) :
  wx.cell? ⟨g29, 0, none⟩ = some (.int .i64 kx) ∧ wx.cell? ⟨g29, 1, none⟩ = some (.int .i64 nx) ∧ wx.cell? ⟨g29, 2, none⟩ = some (.string { data := #[109, 97, 114, 107] }) ∧ wx.cell? ⟨g30, 0, none⟩ = some (.int .i64 kz) ∧ wx.cell? ⟨g30, 1, none⟩ = some (.string { data := #[109, 97, 114, 107] }) := by
 have h1 := hs.blk h.p29 h.c29
 have h2 := hs.blk h.p30 h.c30
 exact ⟨by rw [zC h1]; rfl, by rw [zC h1]; rfl, by rw [zC h1]; rfl, by rw [zC h2]; rfl, by rw [zC h2]; rfl⟩
end
end Go.Proofs.YtbdlcaamanhapaaGreatDoor
