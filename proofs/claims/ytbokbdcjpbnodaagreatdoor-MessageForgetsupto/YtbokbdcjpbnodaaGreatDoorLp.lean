import Derived.Test.YtbokbdcjpbnodaaGreatDoorLh
import Derived.Test.YtbokbdcjpbnodaaGreatDoorLa
import Derived.Test.YtbokbdcjpbnodaaGreatDoorKg
import Derived.Test.YtbokbdcjpbnodaaGreatDoorJt
import Derived.Test.YtbokbdcjpbnodaaGreatDoorJc
import Derived.BigQuiet
import Derived.Deep.Onto
import Derived.Test.YtbokbdcjpbnodaaGreatDoorJv
import Derived.Test.YtbokbdcjpbnodaaGreatDoorLi
import Derived.Test.YtbokbdcjpbnodaaGreatDoorLc
namespace Go.Proofs.YtbokbdcjpbnodaaGreatDoor
open Go.RowKit Go.Maps
structure KW (W0 : World) where
 wd : World
 kept : Keeps (fun _ => False) W0 wd
instance (W0 : World) : Nonempty (KW W0) := ⟨⟨W0, Keeps.refl _ W0⟩⟩
theorem region_kept {P : Program} {id : Nat} {Q : Exit → Act → World → Prop} {a : Act} {w : World} {l : List Oper} (hm : P.follows .mixedOrders = true) (hB : Region.lexB .any l.toArray = true)
  (h : wpQuiet P l.toArray (fun w' => ∃ n : KW w, w' = n.wd) (fun a' => ∀ w', (∃ n : KW w, w' = n.wd) → Q .normal a' w') l a) : (Code.region id l.toArray true).wp P Q a w :=
 wp_region_quiet (C := fun w' => ∃ n : KW w, w' = n.wd) hm hB ⟨⟨_, (Keeps.refl _ w).drew⟩, rfl⟩ (by simpa using h)
theorem kw_of {P : Program} {f : FuncId} {args : Array Value} {W0 : World} {v : Value} (n : KW W0) (h : Calls P f args n.wd fun e w' => e = .returned v ∧ Keeps (fun _ => False) n.wd w') :
  Calls P f args n.wd fun e w' => e = .returned v ∧ ∃ m : KW W0, w' = m.wd :=
 h.mono fun _ w' ⟨he, hk⟩ => ⟨he, ⟨w', n.kept.trans hk⟩, rfl⟩
end Go.Proofs.YtbokbdcjpbnodaaGreatDoor
namespace Go.Proofs.YtbokbdcjpbnodaaGreatDoor
open Go.RowKit Go.Maps
theorem kset2N {w : World} {N b : Nat} (h : N ≤ b) (x y : Value) : Keeps (fun q => N ≤ q) w ((w.setCell ⟨b, 0, none⟩ x).setCell ⟨b, 1, none⟩ y) :=
 Keeps.setCell (F := fun q => N ≤ q) (p := ⟨b, 1, none⟩) (Keeps.setCell (F := fun q => N ≤ q) (p := ⟨b, 0, none⟩) (Keeps.refl _ w) (fun _ => h) x) (fun _ => h) y
end Go.Proofs.YtbokbdcjpbnodaaGreatDoor
namespace Go.Proofs.YtbokbdcjpbnodaaGreatDoor
open Go.RowKit Go.Maps
set_option maxRecDepth 100000
set_option maxHeartbeats 8000000
theorem Tryz.info50 : (Tryz.prog.info? 50).map (fun i => (i.zero, i.size, i.bytes)) = some (some (.agg #[.int .i64 0, .string ⟨#[]⟩, .slice none 0 0, .slice none 0 0]), 4, 72) := by kernel_rfl
structure CpOK (w : World) (base : Nat) (x : MsgC) : Prop where
 v : w.ownsRow base 74 3 x.vv x.m.vals.length (vcs x.m.vals)
 c : w.ownsRow base 5 1 x.cv x.m.code.length (bs x.m.code)
 inr : InR x.m.vals
 key : x.m.key.length ≤ 140737488355328
 lv : x.m.vals.length ≤ 4398046511104
 lc : x.m.code.length ≤ 140737488355328
theorem CpOK.ok {w : World} {base : Nat} {x : MsgC} (h : CpOK w base x) : MsgOK w x := ⟨rowAt_own h.v, rowAt_own h.c, h.inr, h.key, h.lv, h.lc⟩
theorem CpOK.keepF {w w' : World} {base : Nat} {x : MsgC} (h : CpOK w base x) (hk : Keeps (fun _ => False) w w') : CpOK w' base x :=
 ⟨ownsRow_kept h.v hk (fun _ _ => id), ownsRow_kept h.c hk (fun _ _ => id), h.inr, h.key, h.lv, h.lc⟩
theorem own_part {w : World} {B C e f sz tz n m : Nat} {u v : Value} {xs ys : List Value} (hu : w.ownsRow B e sz u n xs) (hv : w.ownsRow C f tz v m ys) (hef : e ≠ f) : ∀ q, v.ownBlock = some q → ¬ u.ownBlock = some q := by
 intro q h1 h2
 rcases hu.2 with ⟨rfl, _⟩ | ⟨g, cap, cur, rfl, _, hb, _⟩
 ·cases h2
 ·simp only [Value.ownBlock, Option.some.injEq] at h2
  subst h2
  exact ownsRow_ne hv hb hef h1
theorem CpOK.grow {w w' : World} {base B n : Nat} {x : MsgC} {u : Value} {xs : List Value} (h : CpOK w base x) (hu : w.ownsRow B 50 4 u n xs) (hk : Keeps (fun q => u.ownBlock = some q) w w') : CpOK w' base x :=
 ⟨ownsRow_kept h.v hk (own_part hu h.v (by decide)), ownsRow_kept h.c hk (own_part hu h.c (by decide)), h.inr, h.key, h.lv, h.lc⟩
theorem msgcs_one {k : Int} {t : Txt} {o1 o2 : Option Addr} {n1 c1 n2 c2 : Nat} : ∀ u ∈ [Value.int .i64 k, str t, .slice o1 n1 c1, .slice o2 n2 c2], u.oneCell' = true := by
 intro u hu
 simp only [List.mem_cons, List.not_mem_nil, or_false] at hu
 rcases hu with rfl | rfl | rfl | rfl <;> rfl
theorem mcs_snoc (C : List MsgC) (c : MsgC) : (C ++ [c]).flatMap MsgC.cs = C.flatMap MsgC.cs ++ c.cs := by simp
theorem copyMsgs_v (w : World) (vm : Value) (L : List MsgC) (hm : MsgsAt w vm L) (hL : L.length * 72 ≤ 140737488355328) :
  Calls Tryz.prog 27 #[vm] w fun e w' => ∃ (o : Option Addr) (c : Nat) (K : List MsgC), e = .returned (.slice o L.length c) ∧ K.map MsgC.m = L.map MsgC.m ∧ MsgsAt w' (.slice o L.length c) K ∧ Keeps (fun _ => False) w w' := by
 obtain ⟨i0, hi, hz0, hz1, hz2⟩ := info_parts Tryz.info50
 obtain ⟨mo, mc, rfl⟩ := RowAt.form hm.row
 have HM := hide hm
 have HL := hide hL
 have hl' : L.length ≤ 9223372036854775807 := by omega
 clear hm hL
 go_enter Tryz.func27, Tryz.ntmps27
 go_wp2_with fail
 go_loopw [3, 4] (fun o i wr => ∃ (k : Nat) (K : List MsgC), k ≤ L.length ∧ i = .int .i64 (k : Int) ∧ Hid (K.map MsgC.m = (L.take k).map MsgC.m) ∧ K.length = k ∧ Hid (wr.ownsRow w.heap.size 50 4 o k (K.flatMap MsgC.cs)) ∧ Hid (∀ x ∈ K, CpOK wr w.heap.size x) ∧ Hid (Keeps (fun _ => False) w wr)) (fun _ i _ => L.length - (intOf i).toNat)
 case atStart => exact ⟨0, [], Nat.zero_le _, rfl, rfl, rfl, by simpa [Hid] using World.ownsRow_nil w w.heap.size 50 4, fun x hx => (by cases hx), Keeps.refl _ _⟩
 case round =>
  obtain ⟨k, K, hk, rfl, HMP, hKL, HO, HOK, HK⟩ := hrel
  by_cases hlt : k < L.length
  ·obtain ⟨x, hx⟩ : ∃ x, L[k]? = some x := ⟨_, List.getElem?_eq_getElem hlt⟩
   obtain ⟨mb, mof, mcp, e, hmb, hcl⟩ := msgs_cells (uh HM) (by omega)
   simp at e
   obtain ⟨rfl, rfl⟩ := e
   have hxo := ((uh HM).ok x (List.mem_of_getElem? hx)).keepF (uh HK)
   obtain ⟨q0, q1, q2, q3⟩ := hcl k x hx
   have HMP2 : Hid ((K ++ [x]).map MsgC.m = (L.take (k + 1)).map MsgC.m) := by show _ = _; rw [take_snoc _ _ _ hx, List.map_append, List.map_append, uh HMP]
   obtain ⟨vo, vc, e1⟩ := RowAt.form hxo.vals
   obtain ⟨co, cc, e2⟩ := RowAt.form hxo.code
   obtain ⟨⟨xk, xkey, xv, xc⟩, xvv, xcv⟩ := x
   simp only at *
   subst e1
   subst e2
   have p0 := ((uh HK).cell hmb id).trans q0
   have p1 := ((uh HK).cell hmb id).trans q1
   have p2 := ((uh HK).cell hmb id).trans q2
   have p3 := ((uh HK).cell hmb id).trans q3
   have HQ := hide (copyMsg_v ⟨xk, xkey, xv, xc⟩ _ _ wr hxo.vals hxo.code hxo.lv hxo.lc)
   simp only at HQ
   have HIN := hide hxo.inr
   have HKY := hide hxo.key
   have HLV := hide hxo.lv
   have HLC := hide hxo.lc
   have i1 : (k : Int) < (L.length : Int) := by omega
   have i0' : (0 : Int) ≤ (k : Int) := by omega
   clear hcl hx hxo q0 q1 q2 q3 HMP
   go_wp2_with fail
   refine (uh HQ).mono ?_
   rintro e w2 ⟨v1, c1, rfl, hov, hoc, hk2⟩
   clear HQ p0 p1 p2 p3
   obtain ⟨vo, vc, rfl⟩ := RowAt.form (rowAt_own hov)
   obtain ⟨co, cc, rfl⟩ := RowAt.form (rowAt_own hoc)
   have kN := kAlloc w2 (.cells #[.int .i64 xk, str xkey, .slice vo xv.length vc, .slice co xc.length cc] 50)
   have hN := heap_alloc_new w2 (.cells #[.int .i64 xk, str xkey, .slice vo xv.length vc, .slice co xc.length cc] 50)
   have HK3 := hide (((uh HK).trans hk2).trans kN)
   have HO3 := hide (ownsRow_kept (uh HO) (hk2.trans kN) (fun _ _ => id))
   have HOK3 : Hid (∀ x ∈ K, CpOK (w2.alloc (.cells #[.int .i64 xk, str xkey, .slice vo xv.length vc, .slice co xc.length cc] 50)) w.heap.size x) := fun x hx => ((uh HOK) x hx).keepF (hk2.trans kN)
   have HNW : Hid (CpOK (w2.alloc (.cells #[.int .i64 xk, str xkey, .slice vo xv.length vc, .slice co xc.length cc] 50)) w.heap.size (⟨⟨xk, xkey, xv, xc⟩, .slice vo xv.length vc, .slice co xc.length cc⟩ : MsgC)) := CpOK.keepF ⟨ownsRow_lower hov (uh HK).size, ownsRow_lower hoc (uh HK).size, uh HIN, uh HKY, uh HLV, uh HLC⟩ kN
   generalize hX3 : w2.alloc (.cells #[.int .i64 xk, str xkey, .slice vo xv.length vc, .slice co xc.length cc] 50) = X3 at *
   obtain ⟨d0, d1, d2, d3⟩ := cl4 hN
   clear hov hoc hk2 kN HO HOK HK hN
   go_wp2_with (at_builtin; refine wpList_append_lies _ rfl _ _ _ rfl w.heap.size 50 i0 _ 4 72 Tryz.underlying58 hi hz0 hz1 hz2 rfl (by omega) u3 k (K.flatMap MsgC.cs) rfl ((uh HO3).alloc _) ⟨X3.heap.size, 0, none⟩ 1 1 [.int .i64 xk, str xkey, .slice vo xv.length vc, .slice co xc.length cc] rfl rfl (World.news_of_block (cs := #[.int .i64 xk, str xkey, .slice vo xv.length vc, .slice co xc.length cc]) (t := 50) (fr := (0, 0)) (heap_alloc_new X3 _)) msgcs_one (by omega) (by unfold maxLen; omega) (by have := uh HL; omega) (by have := (uh HK3).size; simp; omega) (X3.heap.size + 1) (by simp) ?_; intro g cap w5 hown5 hgr5 hat5 hlt5)
   go_roundw
   case rel =>
    have k5 := kAlloc X3 (.cells #[.int .i64 xk, str xkey, .slice vo xv.length vc, .slice co xc.length cc] 50)
    have kg : Keeps (fun q => u3.ownBlock = some q) (X3.alloc (.cells #[.int .i64 xk, str xkey, .slice vo xv.length vc, .slice co xc.length cc] 50)) w5 := (Keeps.refl _ _).any.grown hgr5 (fun q e _ => e)
    refine ⟨k + 1, K ++ [(⟨⟨xk, xkey, xv, xc⟩, .slice vo xv.length vc, .slice co xc.length cc⟩ : MsgC)], by omega, by go_num, ?_, by simp; omega, ?_, ?_, ?_⟩
    ·have h := uh HMP2
     rw [List.map_append] at h
     show List.map MsgC.m (K ++ [(⟨⟨xk, xkey, xv, xc⟩, .slice vo xv.length vc, .slice co xc.length cc⟩ : MsgC)]) = _
     rw [List.map_append]
     exact h
    ·show World.ownsRow _ _ _ _ _ _ _
     rw [mcs_snoc]
     exact hown5
    ·intro x hx
     have hu := (uh HO3).alloc (.cells #[.int .i64 xk, str xkey, .slice vo xv.length vc, .slice co xc.length cc] 50)
     rcases List.mem_append.1 hx with hx | hx
     ·exact (((uh HOK3) x hx).keepF k5).grow hu kg
     ·rcases List.mem_singleton.1 hx with rfl
      exact ((uh HNW).keepF k5).grow hu kg
    ·exact ((uh HK3).alloc _).grown hgr5 (fun q e hq => by have := ((uh HO3).lt q e).1; omega)
   case measure => simp [intOf]; omega
  ·obtain rfl : k = L.length := by omega
   obtain ⟨oo, oc, e⟩ := RowAt.form (rowAt_own (uh HO))
   subst e
   go_wp2_with fail
   go_ret
   refine ⟨oo, oc, K, rfl, ?_, ⟨?_, fun x hx => ((uh HOK) x hx).ok⟩, uh HK⟩
   ·have h := uh HMP; rw [List.take_length] at h; exact h
   ·rw [hKL]; exact rowAt_own (uh HO)
end Go.Proofs.YtbokbdcjpbnodaaGreatDoor
namespace Go.Proofs.YtbokbdcjpbnodaaGreatDoor
open Go.RowKit Go.Maps
theorem applyA_e (S : List FieldA) (hh : Bool) (vals : List ValA) (ms : List MsgA) : (applyA S hh vals ms).e = applyE S hh vals ms := by
 unfold applyA
 split
 ·rfl
 ·rename_i h
  have : applyE S hh vals ms = 0 := Classical.byContradiction h
  rw [this]
theorem applyE_zero {S : List FieldA} {hh : Bool} {vals : List ValA} {ms : List MsgA} (h : applyE S hh vals ms = 0) : errS S = 0 ∧ firstM S ms = 0 ∧ rowE S hh vals = 0 := by
 unfold applyE at h
 by_cases h1 : errS S = 0
 ·rw [if_neg (by simp [h1])] at h
  by_cases h2 : firstM S ms = 0
  ·rw [if_neg (by simp [h2])] at h
   exact ⟨h1, h2, h⟩
  ·rw [if_pos h2] at h; exact absurd h h2
 ·rw [if_pos h1] at h; exact absurd h h1
theorem apply_ok {S : List FieldA} {r : Bool × List ValA} {ms : List MsgA} (h1 : errS S = 0) (h2 : firstM S ms = 0) (h3 : rowE S r.1 r.2 = 0) : applyA S r.1 r.2 ms = ⟨0, (foldA S r ms).1, (foldA S r ms).2, 0, 0⟩ := by
 have h : applyE S r.1 r.2 ms = 0 := by unfold applyE; simp [h1, h2, h3]
 unfold applyA
 rw [if_neg (by simp [h])]
theorem firstM_app {S : List FieldA} : ∀ {a b : List MsgA}, firstM S (a ++ b) = 0 → firstM S a = 0 ∧ firstM S b = 0
 | [], _, h => ⟨rfl, h⟩
 | m :: r, b, h => by
  rw [List.cons_append, firstM] at h
  by_cases hm : checkM S m = 0
  ·rw [if_neg (by simp [hm])] at h
   have := firstM_app h
   rw [firstM, if_neg (by simp [hm])]
   exact this
  ·rw [if_pos hm] at h; exact absurd h hm
theorem firstM_mem {S : List FieldA} {ms : List MsgA} (h : firstM S ms = 0) {k : Nat} {m : MsgA} (hm : ms[k]? = some m) : checkM S m = 0 := by
 induction ms generalizing k with
 | nil => simp at hm
 | cons x r ih =>
  rw [firstM] at h
  by_cases hx : checkM S x = 0
  ·rw [if_neg (by simp [hx])] at h
   cases k with
   | zero => simp at hm; subst hm; exact hx
   | succ k => exact ih h (by simpa using hm)
  ·rw [if_pos hx] at h; exact absurd h hx
theorem foldA_app (S : List FieldA) (r : Bool × List ValA) (a b : List MsgA) : foldA S r (a ++ b) = foldA S (foldA S r a) b := by simp [foldA]
theorem did_row {S : List FieldA} {r : Bool × List ValA} {m : MsgA} (hm : checkM S m = 0) (hr : rowE S r.1 r.2 = 0) : rowE S (didA S r m).1 (didA S r m).2 = 0 := by
 obtain ⟨hs, hk, _⟩ := check_shape hm
 unfold checkM at hm
 rw [if_neg (by simp [hs])] at hm
 by_cases hb : shapeB m = false
 ·rw [if_pos hb] at hm; cases hm
 rw [if_neg hb] at hm
 by_cases hq : keyE m.key = 0
 ·rw [if_neg (by simp [hq])] at hm
  unfold didA
  by_cases h1 : m.kind = 1
  ·rw [if_pos h1] at hm ⊢
   show (if true = true then errR S m.vals else _) = 0
   rw [if_pos rfl]; exact hm
  ·rw [if_neg h1] at hm ⊢
   by_cases h2 : m.kind = 2
   ·rw [if_pos h2]
    simp [rowE]
   ·rw [if_neg h2]
    have h3 : m.kind = 3 := by rcases hk with h | h | h; exact absurd h h1; exact absurd h h2; exact h
    rw [if_pos h3] at hm
    unfold codeE at hm
    by_cases hd : (decC m.code).2 = 0
    ·rw [if_neg (by simp [hd])] at hm
     have hdE : decE S m.code = ((decC m.code).1, 0) := by unfold decE; rw [if_neg (by simp [hs])]; rw [← hd]
     obtain ⟨_, _, _, _, _, _, _, _, hrow, _⟩ := run_bounds hm hr
     have ho : execO S m.code r.1 r.2 = ⟨0, (playM S (decC m.code).1 (decC m.code).1.length 0 ⟨[], r.1, r.2⟩).2.here, (playM S (decC m.code).1 (decC m.code).1.length 0 ⟨[], r.1, r.2⟩).2.vals, (playM S (decC m.code).1 (decC m.code).1.length 0 ⟨[], r.1, r.2⟩).1.length, deepD (playM S (decC m.code).1 (decC m.code).1.length 0 ⟨[], r.1, r.2⟩).1⟩ := by
      unfold execO
      rw [hdE, if_neg (by simp)]
      unfold runO outO
      rw [hm, hr, if_neg (by simp), if_neg (by simp)]
     rw [ho]
     rcases rowB_err (h := (playM S (decC m.code).1 (decC m.code).1.length 0 ⟨[], r.1, r.2⟩).2.here) (vals := (playM S (decC m.code).1 (decC m.code).1.length 0 ⟨[], r.1, r.2⟩).2.vals) hs with ⟨_, q⟩ | ⟨q, _⟩
     ·exact q
     ·rw [q] at hrow; cases hrow
    ·rw [if_pos hd] at hm; exact absurd hm hd
 ·rw [if_pos hq] at hm; exact absurd hm hq
theorem fold_row {S : List FieldA} : ∀ {ms : List MsgA} {r : Bool × List ValA}, firstM S ms = 0 → rowE S r.1 r.2 = 0 → rowE S (foldA S r ms).1 (foldA S r ms).2 = 0
 | [], _, _, h => h
 | m :: q, r, h, hr => by
  have h1 := firstM_mem h (k := 0) rfl
  have h2 := (firstM_app (a := [m]) (b := q) h).2
  exact fold_row (r := didA S r m) h2 (did_row h1 hr)
end Go.Proofs.YtbokbdcjpbnodaaGreatDoor
namespace Go.Proofs.YtbokbdcjpbnodaaGreatDoor
open Go.RowKit Go.Maps
structure Stt (W : World) (S : List FieldA) (vals : List ValA) (ms : List MsgA) (A : OutA) (o1 o2 o3 : Option Value) (oz : Option Nat) (o5 : Option (Option Addr × Nat)) (cur : World) : Prop where
 kept : Keeps (fun _ => False) W cur
 s : ∀ v, o1 = some v → FldsAt cur v S
 r : ∀ v, o2 = some v → ValsAt cur v vals
 m : ∀ v, o3 = some v → ∃ K : List MsgC, K.map MsgC.m = ms ∧ MsgsAt cur v K
 z : ∀ b, oz = some b → cur.heap[b]? = some (.cells #[.bool false, .slice none 0 0] 28 (0, 0)) ∧ W.heap.size ≤ b
 a : ∀ p, o5 = some p → ValsAt cur (.slice p.1 A.vals.length p.2) A.vals
theorem Stt.keepF {W : World} {S : List FieldA} {vals : List ValA} {ms : List MsgA} {A : OutA} {o1 o2 o3 : Option Value} {oz : Option Nat} {o5 : Option (Option Addr × Nat)} {cur w' : World} (h : Stt W S vals ms A o1 o2 o3 oz o5 cur) (hk : Keeps (fun _ => False) cur w') : Stt W S vals ms A o1 o2 o3 oz o5 w' :=
 ⟨h.kept.trans hk, fun v e => (h.s v e).keepF hk, fun v e => (h.r v e).keepF hk, fun v e => (by obtain ⟨K, a, b⟩ := h.m v e; exact ⟨K, a, b.keepF hk⟩), fun b e => ⟨blk_keep (h.z b e).1 hk, (h.z b e).2⟩, fun p e => (h.a p e).keepF hk⟩
theorem Stt.drew {W : World} {S : List FieldA} {vals : List ValA} {ms : List MsgA} {A : OutA} {o1 o2 o3 : Option Value} {oz : Option Nat} {o5 : Option (Option Addr × Nat)} {cur : World} (h : Stt W S vals ms A o1 o2 o3 oz o5 cur) : Stt W S vals ms A o1 o2 o3 oz o5 cur.drew := h.keepF (Keeps.refl _ _).drew
theorem Stt.alloc {W : World} {S : List FieldA} {vals : List ValA} {ms : List MsgA} {A : OutA} {o1 o2 o3 : Option Value} {o5 : Option (Option Addr × Nat)} {cur : World} (h : Stt W S vals ms A o1 o2 o3 none o5 cur) : Stt W S vals ms A o1 o2 o3 (some cur.heap.size) o5 (cur.alloc (.cells #[.bool false, .slice none 0 0] 28)) := by
 have h2 := h.keepF (kAlloc cur (.cells #[.bool false, .slice none 0 0] 28))
 refine ⟨h2.kept, h2.s, h2.r, h2.m, fun b e => ?_, h2.a⟩
 cases e
 exact ⟨heap_alloc_new cur _, h.kept.size⟩
theorem Stt.first (W : World) (S : List FieldA) (vals : List ValA) (ms : List MsgA) (A : OutA) : Stt W S vals ms A none none none none none W :=
 ⟨Keeps.refl _ _, fun _ e => (by cases e), fun _ e => (by cases e), fun _ e => (by cases e), fun _ e => (by cases e), fun _ e => (by cases e)⟩
theorem stt_twin {W : World} {S : List FieldA} {vals : List ValA} {ms : List MsgA} {A : OutA} {o2 o3 : Option Value} {oz : Option Nat} {o5 : Option (Option Addr × Nat)} {cur : World} {sv : Value} (h : Stt W S vals ms A none o2 o3 oz o5 cur) (hS : FldsAt W sv S) (hl : S.length ≤ 4398046511104) :
  Calls Tryz.prog 19 #[.agg #[sv]] cur fun e w' => ∃ o c, e = .returned (.agg #[.slice o S.length c]) ∧ Stt W S vals ms A (some (.slice o S.length c)) o2 o3 oz o5 w' := by
 refine (twin_v cur sv S (hS.keepF h.kept) hl).mono ?_
 rintro e w' ⟨v', rfl, how, hk⟩
 obtain ⟨o, c, rfl⟩ := RowAt.form (rowAt_own how)
 have h2 := h.keepF hk
 refine ⟨o, c, rfl, h2.kept, fun v e => ?_, h2.r, h2.m, h2.z, h2.a⟩
 cases e
 exact rowAt_own how
theorem stt_row {W : World} {S : List FieldA} {vals : List ValA} {ms : List MsgA} {A : OutA} {o1 o3 : Option Value} {oz : Option Nat} {o5 : Option (Option Addr × Nat)} {cur : World} {hh : Bool} {u : Value} (h : Stt W S vals ms A o1 none o3 oz o5 cur) (hr : ValsAt W u vals) (hl : vals.length ≤ 4398046511104) :
  Calls Tryz.prog 20 #[.agg #[.bool hh, u]] cur fun e w' => ∃ o c, e = .returned (.agg #[.bool hh, .slice o vals.length c]) ∧ Stt W S vals ms A o1 (some (.slice o vals.length c)) o3 oz o5 w' := by
 refine (copyRowL_v cur hh u vals (hr.keepF h.kept) hl).mono ?_
 rintro e w' ⟨o, c, rfl, how, hk⟩
 have h2 := h.keepF hk
 refine ⟨o, c, rfl, h2.kept, h2.s, fun v e => ?_, h2.m, h2.z, h2.a⟩
 cases e
 exact rowAt_own how
theorem stt_msgs {W : World} {S : List FieldA} {vals : List ValA} {ms : List MsgA} {A : OutA} {o1 o2 : Option Value} {oz : Option Nat} {o5 : Option (Option Addr × Nat)} {cur : World} {vm : Value} {L : List MsgC} (h : Stt W S vals ms A o1 o2 none oz o5 cur) (hm : MsgsAt W vm L) (hL : L.length * 72 ≤ 140737488355328) (hms : L.map MsgC.m = ms) :
  Calls Tryz.prog 27 #[vm] cur fun e w' => ∃ o c, e = .returned (.slice o L.length c) ∧ Stt W S vals ms A o1 o2 (some (.slice o L.length c)) oz o5 w' := by
 refine (copyMsgs_v cur vm L (hm.keepF h.kept) hL).mono ?_
 rintro e w' ⟨o, c, K, rfl, hK, hw, hk⟩
 have h2 := h.keepF hk
 refine ⟨o, c, rfl, h2.kept, h2.s, h2.r, fun v e => ?_, h2.z, h2.a⟩
 cases e
 exact ⟨K, hK.trans hms, hw⟩
theorem stt_all {W : World} {S : List FieldA} {vals : List ValA} {ms : List MsgA} {A : OutA} {sv rv mv : Value} {oz : Option Nat} {cur : World} {hh : Bool} (h : Stt W S vals ms A (some sv) (some rv) (some mv) oz none cur) (hE : EnvM W) (hA : applyA S hh vals ms = A) (hL : ms.length ≤ 4398046511104) :
  Calls Tryz.prog 28 #[.agg #[sv], .agg #[.bool hh, rv], mv] cur fun e w' => ∃ o c, e = .returned (.tuple #[.agg #[.bool A.here, .slice o A.vals.length c], .int .i64 A.e]) ∧ Stt W S vals ms A (some sv) (some rv) (some mv) oz (some (o, c)) w' := by
 obtain ⟨K, hK, hm⟩ := h.m mv rfl
 have hq := applyAll_v S sv rv mv hh vals K cur (hE.keepF h.kept) (h.s sv rfl) (h.r rv rfl) hm (by have := congrArg List.length hK; simp at this; omega)
 rw [hK, hA] at hq
 refine hq.mono ?_
 rintro e w' ⟨o, c, rfl, how, hk⟩
 have h2 := h.keepF hk
 refine ⟨o, c, rfl, h2.kept, h2.s, h2.r, h2.m, h2.z, fun p e => ?_⟩
 cases e
 exact how
def Ans (W : World) (A : OutA) (R : Nat) (o : Option Addr) (c : Nat) (w : World) : Prop := w.heap[R]? = some (.cells #[.bool A.here, .slice o A.vals.length c] 28 (0, 0)) ∧ ValsAt w (.slice o A.vals.length c) A.vals ∧ Keeps (fun _ => False) W w
theorem Stt.late {W : World} {S : List FieldA} {vals : List ValA} {ms : List MsgA} {A : OutA} {o1 o2 o3 : Option Value} {cur : World} {o : Option Addr} {c : Nat} (h : Stt W S vals ms A o1 o2 o3 none (some (o, c)) cur) : Ans W A cur.heap.size o c (cur.alloc (.cells #[.bool A.here, .slice o A.vals.length c] 28)) :=
 ⟨heap_alloc_new cur _, (h.a (o, c) rfl).keepF (kAlloc cur _), h.kept.trans (kAlloc cur _)⟩
theorem Stt.early {W : World} {S : List FieldA} {vals : List ValA} {ms : List MsgA} {A : OutA} {o1 o2 o3 : Option Value} {cur : World} {o : Option Addr} {c b : Nat} (h : Stt W S vals ms A o1 o2 o3 (some b) (some (o, c)) cur) : Ans W A b o c ((cur.setCell ⟨b, 0, none⟩ (.bool A.here)).setCell ⟨b, 1, none⟩ (.slice o A.vals.length c)) := by
 obtain ⟨hb, hWb⟩ := h.z b rfl
 have k2 := keeps_set2 cur b (.bool A.here) (.slice o A.vals.length c)
 exact ⟨heap_setCell_at (o := 1) (heap_setCell_at (o := 0) hb _) _, vals_off (h.a (o, c) rfl) hb (off2 (by simp)) k2, h.kept.fresh hWb k2⟩
end Go.Proofs.YtbokbdcjpbnodaaGreatDoor
namespace Go.Proofs.YtbokbdcjpbnodaaGreatDoor
open Go.RowKit Go.Maps
theorem msgs_take {w : World} {mo : Option Addr} {mc k : Nat} {L : List MsgC} (h : MsgsAt w (.slice mo L.length mc) L) (hk : k ≤ L.length) : MsgsAt w (.slice mo (L.take k).length mc) (L.take k) := by
 have e : L.flatMap MsgC.cs = (L.take k).flatMap MsgC.cs ++ (L.drop k).flatMap MsgC.cs := by rw [← List.flatMap_append, List.take_append_drop]
 have hr := h.row
 rw [e] at hr
 exact ⟨RowAt.first hr (by rw [List.length_take]; omega), fun x hx => h.ok x (List.mem_of_mem_take hx)⟩
theorem msgs_drop {w : World} {a : Addr} {mc k : Nat} {L : List MsgC} (h : MsgsAt w (.slice (some a) L.length mc) L) (hk : k ≤ L.length) : MsgsAt w (.slice (some { a with off := a.off + k * 4 }) (L.length - k) (mc - k)) (L.drop k) := by
 have hroom := h.row.room _ _ _ rfl
 have e : L.flatMap MsgC.cs = (L.take k).flatMap MsgC.cs ++ (L.drop k).flatMap MsgC.cs := by rw [← List.flatMap_append, List.take_append_drop]
 have hlen : ((L.take k).flatMap MsgC.cs).length = k * 4 := by
  have : ∀ l : List MsgC, (l.flatMap MsgC.cs).length = l.length * 4 := fun l => by induction l with | nil => rfl | cons x r ih => simp [ih, MsgC.cs]; omega
  rw [this, List.length_take, Nat.min_eq_left hk]
 refine ⟨⟨⟨_, _, by rw [List.length_drop]⟩, fun h0 => ?_, fun ao m c e => by simp at e; omega⟩, fun x hx => h.ok x (List.mem_of_mem_drop hx)⟩
 rw [List.length_drop] at h0
 obtain ⟨b, off, c, e1, hb, hc⟩ := h.row.cells (by omega)
 simp at e1
 obtain ⟨rfl, rfl⟩ := e1
 refine ⟨b, off + k * 4, _, by rw [List.length_drop], hb, fun j x hx => ?_⟩
 have := hc (k * 4 + j) x (by rw [e, List.getElem?_append_right (by omega), hlen, Nat.add_sub_cancel_left]; exact hx)
 rw [Nat.add_assoc]; exact this
theorem msgs_drop2 {w : World} {a : Addr} {mc k : Nat} {L : List MsgC} (h : MsgsAt w (.slice (some a) L.length mc) L) (hk : k ≤ L.length) : MsgsAt w (.slice (some (a.add (k * 4))) (L.length - k) (mc - k)) (L.drop k) := by
 have h1 := msgs_drop h hk
 have hroom := h.row.room _ _ _ rfl
 refine ⟨⟨⟨_, _, by rw [List.length_drop]⟩, fun h0 => ?_, fun ao m c e => by simp at e; omega⟩, h1.ok⟩
 rw [List.length_drop] at h0
 obtain ⟨b, off, c, e1, hb, hc⟩ := h.row.cells (by omega)
 simp at e1
 obtain ⟨rfl, rfl⟩ := e1
 have e2 : (Addr.add ⟨b, off, none⟩ (k * 4)) = ⟨b, off + k * 4, none⟩ := by unfold Addr.add; split <;> simp_all
 rw [e2]
 exact h1.row.cells (by rw [List.length_drop]; exact h0)
theorem msgs_nil {w : World} {mc : Nat} {L : List MsgC} (h : MsgsAt w (.slice none L.length mc) L) : L = [] := by
 cases L with
 | nil => rfl
 | cons x r =>
  obtain ⟨b, off, c, e1, _⟩ := h.row.cells (by simp)
  simp at e1
theorem chain_two {S : List FieldA} {hh : Bool} {vals : List ValA} {a b : List MsgA} (hz : (applyA S hh vals (a ++ b)).e = 0) : ∃ A1, applyA S hh vals a = A1 ∧ A1.e = 0 ∧ applyA S A1.here A1.vals b = applyA S hh vals (a ++ b) := by
 rw [applyA_e] at hz
 obtain ⟨h1, h2, h3⟩ := applyE_zero hz
 obtain ⟨f1, f2⟩ := firstM_app h2
 have q := apply_ok (r := (hh, vals)) (ms := a) h1 f1 h3
 refine ⟨_, rfl, by rw [applyA_e]; unfold applyE; simp [h1, f1, h3], ?_⟩
 rw [q]
 have q2 := apply_ok (r := foldA S (hh, vals) a) (ms := b) h1 f2 (fold_row f1 h3)
 have q3 := apply_ok (r := (hh, vals)) (ms := a ++ b) h1 h2 h3
 rw [foldA_app] at q3
 simp only at q3 ⊢
 rw [q2, q3]
theorem chain_one {S : List FieldA} {hh : Bool} {vals : List ValA} {ms : List MsgA} (hz : (applyA S hh vals ms).e = 0) {k : Nat} {m : MsgA} (hm : ms[k]? = some m) :
  applyA S (foldA S (hh, vals) (ms.take k)).1 (foldA S (hh, vals) (ms.take k)).2 [m] = ⟨0, (foldA S (hh, vals) (ms.take (k + 1))).1, (foldA S (hh, vals) (ms.take (k + 1))).2, 0, 0⟩ := by
 rw [applyA_e] at hz
 obtain ⟨h1, h2, h3⟩ := applyE_zero hz
 have hk := firstM_mem h2 hm
 have ht : firstM S (ms.take k) = 0 := (firstM_app (a := ms.take k) (b := ms.drop k) (by rw [List.take_append_drop]; exact h2)).1
 have q := apply_ok (r := foldA S (hh, vals) (ms.take k)) (ms := [m]) h1 (by rw [firstM, if_neg (by simp [hk])]; rfl) (fold_row ht h3)
 rw [q, take_snoc _ _ _ hm, foldA_app]
theorem chain_end {S : List FieldA} {hh : Bool} {vals : List ValA} {ms : List MsgA} (hz : (applyA S hh vals ms).e = 0) : (applyA S hh vals ms).here = (foldA S (hh, vals) ms).1 ∧ (applyA S hh vals ms).vals = (foldA S (hh, vals) ms).2 := by
 rw [applyA_e] at hz
 obtain ⟨h1, h2, h3⟩ := applyE_zero hz
 have q := apply_ok (r := (hh, vals)) (ms := ms) h1 h2 h3
 simp only at q
 rw [q]
 exact ⟨rfl, rfl⟩
end Go.Proofs.YtbokbdcjpbnodaaGreatDoor
