import Derived.Test.YtbokbdcjpbnodaaGreatDoorLp
import Derived.Test.YtbokbdcjpbnodaaGreatDoorMs
import Derived.Test.YtbokbdcjpbnodaaGreatDoorJv
import Derived.Test.YtbokbdcjpbnodaaGreatDoorLa
import Derived.Test.YtbokbdcjpbnodaaGreatDoorLi
namespace Go.Proofs.YtbokbdcjpbnodaaGreatDoor
open Go.RowKit Go.Maps
def startM (m : MsgA) : Bool × List ValA := if m.kind = 1 then (true, m.vals) else (false, [])
theorem firstM_join {S : List FieldA} : ∀ {a b : List MsgA}, firstM S a = 0 → firstM S b = 0 → firstM S (a ++ b) = 0
 | [], _, _, h => h
 | x :: r, b, h1, h2 => by
  rw [List.cons_append, firstM]
  rw [firstM] at h1
  by_cases hx : checkM S x = 0
  ·rw [if_neg (by simp [hx])] at h1 ⊢
   exact firstM_join h1 h2
  ·rw [if_pos hx] at h1; exact absurd h1 hx
theorem did_start {S : List FieldA} {r : Bool × List ValA} {m : MsgA} (hm : checkM S m = 0) (h3 : m.kind ≠ 3) : didA S r m = startM m := by
 obtain ⟨_, hk, _⟩ := check_shape hm
 unfold didA startM
 by_cases h1 : m.kind = 1
 ·rw [if_pos h1, if_pos h1]
 ·rw [if_neg h1, if_neg h1]
  have h2 : m.kind = 2 := by rcases hk with h | h | h; exact absurd h h1; exact h; exact absurd h h3
  rw [if_pos h2]
theorem start_row {S : List FieldA} {m : MsgA} (hm : checkM S m = 0) (h3 : m.kind ≠ 3) : rowE S (startM m).1 (startM m).2 = 0 := by
 have h := did_row (r := (false, [])) hm (by simp [rowE])
 rw [did_start hm h3] at h
 exact h
theorem forget_list {S : List FieldA} {hh : Bool} {vals : List ValA} {al rest : List MsgA} {m : MsgA} (ha : (applyA S hh vals al).e = 0) (hm : firstM S [m] = 0) (hr : firstM S rest = 0) (h3 : m.kind ≠ 3) :
  applyA S hh vals (al ++ m :: rest) = ⟨0, (foldA S (startM m) rest).1, (foldA S (startM m) rest).2, 0, 0⟩ := by
 rw [applyA_e] at ha
 obtain ⟨h1, h2, h4⟩ := applyE_zero ha
 have hc : checkM S m = 0 := firstM_mem hm (k := 0) rfl
 have h5 : firstM S (al ++ m :: rest) = 0 := firstM_join h2 (firstM_join (a := [m]) hm hr)
 have h6 := apply_ok (r := (hh, vals)) h1 h5 h4
 rw [h6, foldA_app]
 have h7 : foldA S (foldA S (hh, vals) al) (m :: rest) = foldA S (startM m) rest := by
  show foldA S (didA S (foldA S (hh, vals) al) m) rest = _
  rw [did_start hc h3]
 rw [h7]
theorem forget_start {S : List FieldA} {hh : Bool} {vals : List ValA} {al rest : List MsgA} {m : MsgA} (ha : (applyA S hh vals al).e = 0) (hm : firstM S [m] = 0) (hr : firstM S rest = 0) (h3 : m.kind ≠ 3) :
  applyA S (startM m).1 (startM m).2 rest = ⟨0, (foldA S (startM m) rest).1, (foldA S (startM m) rest).2, 0, 0⟩ := by
 rw [applyA_e] at ha
 obtain ⟨h1, _, _⟩ := applyE_zero ha
 exact apply_ok h1 hr (start_row (firstM_mem hm (k := 0) rfl) h3)
theorem may_first {S : List FieldA} {hh : Bool} {vals : List ValA} {ms : List MsgA} (h : (applyA S hh vals ms).e = 0) : firstM S ms = 0 := by
 rw [applyA_e] at h
 exact (applyE_zero h).2.1
theorem start_parts {S : List FieldA} {m : MsgA} (hm : firstM S [m] = 0) (h3 : m.kind ≠ 3) : (startM m).1 = decide (m.kind = 1) ∧ (startM m).2 = m.vals := by
 have hc : checkM S m = 0 := firstM_mem hm (k := 0) rfl
 have hb : shapeB m = true := by
  unfold checkM at hc
  by_cases hs : errS S = 0
  ·rw [if_neg (by simp [hs])] at hc
   by_cases hb : shapeB m = false
   ·rw [if_pos hb] at hc; cases hc
   ·simpa using hb
  ·rw [if_pos hs] at hc; exact absurd hc hs
 unfold startM
 rcases shape_kinds hb with q | q | q
 ·rw [if_pos q.1]; simp [q.1]
 ·rw [if_neg (by omega)]; simp [q.1, q.2]
 ·exact absurd q.1 h3
end Go.Proofs.YtbokbdcjpbnodaaGreatDoor
namespace Go.Proofs.YtbokbdcjpbnodaaGreatDoor
open Go.RowKit Go.Maps
set_option maxRecDepth 100000
set_option maxHeartbeats 8000000
theorem copyMsgs_own (w : World) (vm : Value) (L : List MsgC) (hm : MsgsAt w vm L) (hL : L.length * 72 ≤ 140737488355328) :
  Calls Tryz.prog 27 #[vm] w fun e w' => ∃ (o : Option Addr) (c : Nat) (K : List MsgC), e = .returned (.slice o L.length c) ∧ K.map MsgC.m = L.map MsgC.m ∧ w'.ownsRow w.heap.size 50 4 (.slice o L.length c) L.length (K.flatMap MsgC.cs) ∧ (∀ x ∈ K, CpOK w' w.heap.size x) ∧ Keeps (fun _ => False) w w' := by
 obtain ⟨i0, hi, hz0, hz1, hz2⟩ := info_parts Tryz.info50
 obtain ⟨mo, mc, rfl⟩ := RowAt.form hm.row
 have HM := hide hm
 have HL := hide hL
 have hl' : L.length ≤ 9223372036854775807 := by omega
 clear hm hL
 go_enter Tryz.func27, Tryz.ntmps27
 go_wp2_with fail
 go_loopw [3, 4] (fun o i wr => ∃ (k : Nat) (K : List MsgC), k ≤ L.length ∧ i = .int .i64 (k : Int) ∧ Hid (K.map MsgC.m = (L.take k).map MsgC.m) ∧ K.length = k ∧ Hid (wr.ownsRow w.heap.size 50 4 o k (K.flatMap MsgC.cs)) ∧ Hid (∀ x ∈ K, CpOK wr w.heap.size x) ∧ Hid (Keeps (fun _ => False) w wr)) (fun _ i _ => L.length - (intOf i).toNat)
 case atStart => exact ⟨0, [], Nat.zero_le _, rfl, rfl, rfl, by simpa [Hid] using World.ownsRow_nil w w.heap.size 50 4, fun x hx => (by cases hx), Keeps.refl _ _⟩
 case round =>
  obtain ⟨k, K, hk, rfl, HMP, hKL, HO, HOK, HK⟩ := hrel
  by_cases hlt : k < L.length
  ·obtain ⟨x, hx⟩ : ∃ x, L[k]? = some x := ⟨_, List.getElem?_eq_getElem hlt⟩
   obtain ⟨mb, mof, mcp, e, hmb, hcl⟩ := msgs_cells (uh HM) (by omega)
   simp at e
   obtain ⟨rfl, rfl⟩ := e
   have hxo := ((uh HM).ok x (List.mem_of_getElem? hx)).keepF (uh HK)
   obtain ⟨q0, q1, q2, q3⟩ := hcl k x hx
   have HMP2 : Hid ((K ++ [x]).map MsgC.m = (L.take (k + 1)).map MsgC.m) := by show _ = _; rw [take_snoc _ _ _ hx, List.map_append, List.map_append, uh HMP]
   obtain ⟨vo, vc, e1⟩ := RowAt.form hxo.vals
   obtain ⟨co, cc, e2⟩ := RowAt.form hxo.code
   obtain ⟨⟨xk, xkey, xv, xc⟩, xvv, xcv⟩ := x
   simp only at *
   subst e1
   subst e2
   have p0 := ((uh HK).cell hmb id).trans q0
   have p1 := ((uh HK).cell hmb id).trans q1
   have p2 := ((uh HK).cell hmb id).trans q2
   have p3 := ((uh HK).cell hmb id).trans q3
   have HQ := hide (copyMsg_v ⟨xk, xkey, xv, xc⟩ _ _ wr hxo.vals hxo.code hxo.lv hxo.lc)
   simp only at HQ
   have HIN := hide hxo.inr
   have HKY := hide hxo.key
   have HLV := hide hxo.lv
   have HLC := hide hxo.lc
   have i1 : (k : Int) < (L.length : Int) := by omega
   have i0' : (0 : Int) ≤ (k : Int) := by omega
   clear hcl hx hxo q0 q1 q2 q3 HMP
   go_wp2_with fail
   refine (uh HQ).mono ?_
   rintro e w2 ⟨v1, c1, rfl, hov, hoc, hk2⟩
   clear HQ p0 p1 p2 p3
   obtain ⟨vo, vc, rfl⟩ := RowAt.form (rowAt_own hov)
   obtain ⟨co, cc, rfl⟩ := RowAt.form (rowAt_own hoc)
   have kN := kAlloc w2 (.cells #[.int .i64 xk, str xkey, .slice vo xv.length vc, .slice co xc.length cc] 50)
   have hN := heap_alloc_new w2 (.cells #[.int .i64 xk, str xkey, .slice vo xv.length vc, .slice co xc.length cc] 50)
   have HK3 := hide (((uh HK).trans hk2).trans kN)
   have HO3 := hide (ownsRow_kept (uh HO) (hk2.trans kN) (fun _ _ => id))
   have HOK3 : Hid (∀ x ∈ K, CpOK (w2.alloc (.cells #[.int .i64 xk, str xkey, .slice vo xv.length vc, .slice co xc.length cc] 50)) w.heap.size x) := fun x hx => ((uh HOK) x hx).keepF (hk2.trans kN)
   have HNW : Hid (CpOK (w2.alloc (.cells #[.int .i64 xk, str xkey, .slice vo xv.length vc, .slice co xc.length cc] 50)) w.heap.size (⟨⟨xk, xkey, xv, xc⟩, .slice vo xv.length vc, .slice co xc.length cc⟩ : MsgC)) := CpOK.keepF ⟨ownsRow_lower hov (uh HK).size, ownsRow_lower hoc (uh HK).size, uh HIN, uh HKY, uh HLV, uh HLC⟩ kN
   generalize hX3 : w2.alloc (.cells #[.int .i64 xk, str xkey, .slice vo xv.length vc, .slice co xc.length cc] 50) = X3 at *
   obtain ⟨d0, d1, d2, d3⟩ := cl4 hN
   clear hov hoc hk2 kN HO HOK HK hN
   go_wp2_with (at_builtin; refine wpList_append_lies _ rfl _ _ _ rfl w.heap.size 50 i0 _ 4 72 Tryz.underlying58 hi hz0 hz1 hz2 rfl (by omega) u3 k (K.flatMap MsgC.cs) rfl ((uh HO3).alloc _) ⟨X3.heap.size, 0, none⟩ 1 1 [.int .i64 xk, str xkey, .slice vo xv.length vc, .slice co xc.length cc] rfl rfl (World.news_of_block (cs := #[.int .i64 xk, str xkey, .slice vo xv.length vc, .slice co xc.length cc]) (t := 50) (fr := (0, 0)) (heap_alloc_new X3 _)) msgcs_one (by omega) (by unfold maxLen; omega) (by have := uh HL; omega) (by have := (uh HK3).size; simp; omega) (X3.heap.size + 1) (by simp) ?_; intro g cap w5 hown5 hgr5 hat5 hlt5)
   go_roundw
   case rel =>
    have k5 := kAlloc X3 (.cells #[.int .i64 xk, str xkey, .slice vo xv.length vc, .slice co xc.length cc] 50)
    have kg : Keeps (fun q => u3.ownBlock = some q) (X3.alloc (.cells #[.int .i64 xk, str xkey, .slice vo xv.length vc, .slice co xc.length cc] 50)) w5 := (Keeps.refl _ _).any.grown hgr5 (fun q e _ => e)
    refine ⟨k + 1, K ++ [(⟨⟨xk, xkey, xv, xc⟩, .slice vo xv.length vc, .slice co xc.length cc⟩ : MsgC)], by omega, by go_num, ?_, by simp; omega, ?_, ?_, ?_⟩
    ·have h := uh HMP2
     rw [List.map_append] at h
     show List.map MsgC.m (K ++ [(⟨⟨xk, xkey, xv, xc⟩, .slice vo xv.length vc, .slice co xc.length cc⟩ : MsgC)]) = _
     rw [List.map_append]
     exact h
    ·show World.ownsRow _ _ _ _ _ _ _
     rw [mcs_snoc]
     exact hown5
    ·intro x hx
     have hu := (uh HO3).alloc (.cells #[.int .i64 xk, str xkey, .slice vo xv.length vc, .slice co xc.length cc] 50)
     rcases List.mem_append.1 hx with hx | hx
     ·exact (((uh HOK3) x hx).keepF k5).grow hu kg
     ·rcases List.mem_singleton.1 hx with rfl
      exact ((uh HNW).keepF k5).grow hu kg
    ·exact ((uh HK3).alloc _).grown hgr5 (fun q e hq => by have := ((uh HO3).lt q e).1; omega)
   case measure => simp [intOf]; omega
  ·obtain rfl : k = L.length := by omega
   obtain ⟨oo, oc, e⟩ := RowAt.form (rowAt_own (uh HO))
   subst e
   go_wp2_with fail
   go_ret
   refine ⟨oo, oc, K, rfl, ?_, uh HO, uh HOK, uh HK⟩
   have h := uh HMP; rw [List.take_length] at h; exact h
theorem mcs_length (K : List MsgC) : (K.flatMap MsgC.cs).length = K.length * 4 := by
 induction K with
 | nil => rfl
 | cons x r ih => simp [List.flatMap_cons, MsgC.cs, ih]; omega
theorem mcs_one {w : World} {v : Value} {K : List MsgC} (h : MsgsAt w v K) : ∀ u ∈ K.flatMap MsgC.cs, u.oneCell' = true := by
 intro u hu
 obtain ⟨x, hx, hm⟩ := List.mem_flatMap.1 hu
 obtain ⟨vo, vc, ev⟩ := RowAt.form (h.ok x hx).vals
 obtain ⟨co, cc, ec⟩ := RowAt.form (h.ok x hx).code
 simp only [MsgC.cs, List.mem_cons, List.not_mem_nil, or_false] at hm
 rcases hm with rfl | rfl | rfl | rfl
 ·rfl
 ·rfl
 ·rw [ev]; rfl
 ·rw [ec]; rfl
theorem run_appendM_none (w : World) (ty : TypeId) (ao : Option Addr) (n c xc : Nat) (hnc : n ≤ c) : (Builtin.append_ #[58, 58] ty #[.slice ao n c, .slice none 0 xc]).run Tryz.prog w = .ok (.slice ao n c) w := by
 obtain ⟨i0, hi, hz0, hz1, hz2⟩ := info_parts Tryz.info50
 cases ao <;> simp [Builtin.append_, Builtin.lenOf, Builtin.firstCells, storeCells, go_sem, sizeOf, typeInfo, hi, hnc]
theorem run_appendM_any (w : World) (ty : TypeId) (base : Nat) (v : Value) (n : Nat) (xs : List Value) (hown : w.ownsRow base 50 4 v n xs) (u : Value) (G : List MsgC) (hu : MsgsAt w u G) (hbytes : (n + G.length) * 72 ≤ 140737488355328) (hbase : base ≤ w.heap.size) :
  ∃ v' w', (Builtin.append_ #[58, 58] ty #[v, u]).run Tryz.prog w = .ok v' w' ∧ w'.ownsRow base 50 4 v' (n + G.length) (xs ++ G.flatMap MsgC.cs) ∧ w.grownBy w' v.ownBlock := by
 obtain ⟨i0, hi, hz0, hz1, hz2⟩ := info_parts Tryz.info50
 obtain ⟨uo, uc, rfl⟩ := RowAt.form hu.row
 cases uo with
 | none =>
  have h0 : G.length = 0 := by
   rcases Nat.eq_zero_or_pos G.length with h | h
   ·exact h
   ·obtain ⟨b, off, cap, e, _⟩ := RowAt.cells hu.row h
    simp at e
  have hG : G = [] := List.eq_nil_of_length_eq_zero h0
  subst hG
  obtain ⟨ao, c, rfl⟩ := (rowAt_own hown).form
  have hnc := (rowAt_own hown).room _ _ _ rfl
  exact ⟨_, w, run_appendM_none w ty ao n c uc hnc, by simpa using hown, grownBy_refl _ _⟩
 | some ad =>
  obtain ⟨v', w', hr, h2, h3, _⟩ := run_append_own_at (P := Tryz.prog) w base 58 ty 50 i0 _ 4 72 Tryz.underlying58 hi hz0 hz1 hz2 rfl (by omega) v n xs hown ad G.length uc (G.flatMap MsgC.cs) (mcs_length G) (fun j x hx => by
   have h0 : 0 < G.length := by
    have := (List.getElem?_eq_some_iff.1 hx).1
    rw [mcs_length] at this
    omega
   obtain ⟨b, off, cap, e, _, hc⟩ := RowAt.cells hu.row h0
   simp at e
   obtain ⟨rfl, rfl⟩ := e
   have := hc j x hx
   rw [show (⟨b, off, none⟩ : Addr).add j = ⟨b, off + j, none⟩ by simp only [Addr.add_lit]]
   exact this) (mcs_one hu) (by unfold maxLen; omega) (by omega) hbase
  exact ⟨v', w', hr, h2, h3⟩
theorem step_appendM {w : World} {ops : Array Oper} {o : Oper} {a : Act} {K : Act → World → Prop} {Q : Exit → Act → World → Prop} {E : Prop} (hgd : o.guard = none) (s x : Operand)
  (ho : o.op = .call { callee := .builtin .append, args := #[s, x], argTypes := #[58, 58] }) (base : Nat) (v : Value) (n : Nat) (xs : List Value) (hs : a.eval s = v) (hown : w.ownsRow base 50 4 v n xs)
  (u : Value) (G : List MsgC) (hx : a.eval x = u) (hu : MsgsAt w u G) (hbytes : (n + G.length) * 72 ≤ 140737488355328) (hbase : base ≤ w.heap.size)
  (h : ∀ ao c w', w'.ownsRow base 50 4 (.slice ao (n + G.length) c) (n + G.length) (xs ++ G.flatMap MsgC.cs) → w.grownBy w' v.ownBlock → K (a.put o.dst (.slice ao (n + G.length) c)) w') : if Region.wanted o (yielded ops a.tmps) = true then Oper.wp Tryz.prog o a w K Q else E := by
 have hw : Region.wanted o (yielded ops a.tmps) = true := by simp [Region.wanted, hgd]
 rw [if_pos hw]
 obtain ⟨v', w', hr, h2, h3⟩ := run_appendM_any w o.type base v n xs hown u G hu hbytes hbase
 obtain ⟨ao, c, rfl⟩ := RowAt.form (rowAt_own h2)
 unfold Oper.wp execOp
 simp only [ho, resolve, invoke, builtin, Sem.run_bind, Sem.run_pure, Result.andThen_ok, List.map_toArray, List.map_cons, List.map_nil, hs, hx, hr]
 exact h ao c w' h2 h3
theorem CpOK.lower {w : World} {b b' : Nat} {x : MsgC} (h : CpOK w b x) (hb : b' ≤ b) : CpOK w b' x := ⟨ownsRow_lower h.v hb, ownsRow_lower h.c hb, h.inr, h.key, h.lv, h.lc⟩
structure Lap (W : World) (LA : List MsgC) (m : MsgA) (LR : List MsgC) (o1 o2 o4 o5 : Option Value) (cur : World) : Prop where
 kept : Keeps (fun _ => False) W cur
 a : ∀ v, o1 = some v → ∃ K : List MsgC, K.map MsgC.m = LA.map MsgC.m ∧ cur.ownsRow W.heap.size 50 4 v LA.length (K.flatMap MsgC.cs) ∧ ∀ x ∈ K, CpOK cur W.heap.size x
 b : ∀ v, o2 = some v → ∃ v1 c1, v = .agg #[.int .i64 m.kind, str m.key, v1, c1] ∧ CpOK cur W.heap.size ⟨m, v1, c1⟩
 c : ∀ v, o4 = some v → ∃ K : List MsgC, K.map MsgC.m = LA.map MsgC.m ++ [m] ∧ cur.ownsRow W.heap.size 50 4 v (LA.length + 1) (K.flatMap MsgC.cs) ∧ ∀ x ∈ K, CpOK cur W.heap.size x
 d : ∀ v, o5 = some v → ∃ K : List MsgC, K.map MsgC.m = LR.map MsgC.m ∧ cur.ownsRow W.heap.size 50 4 v LR.length (K.flatMap MsgC.cs) ∧ ∀ x ∈ K, CpOK cur W.heap.size x
theorem rows_keep {B n : Nat} {v : Value} {K : List MsgC} {cur w' : World} (h : cur.ownsRow B 50 4 v n (K.flatMap MsgC.cs) ∧ ∀ x ∈ K, CpOK cur B x) (hk : Keeps (fun _ => False) cur w') : w'.ownsRow B 50 4 v n (K.flatMap MsgC.cs) ∧ ∀ x ∈ K, CpOK w' B x :=
 ⟨ownsRow_kept h.1 hk (fun _ _ => id), fun x hx => (h.2 x hx).keepF hk⟩
theorem Lap.keepF {W : World} {LA : List MsgC} {m : MsgA} {LR : List MsgC} {o1 o2 o4 o5 : Option Value} {cur w' : World} (h : Lap W LA m LR o1 o2 o4 o5 cur) (hk : Keeps (fun _ => False) cur w') : Lap W LA m LR o1 o2 o4 o5 w' :=
 ⟨h.kept.trans hk, fun v e => (h.a v e).imp fun _ q => ⟨q.1, rows_keep q.2 hk⟩, fun v e => by obtain ⟨v1, c1, q, r⟩ := h.b v e; exact ⟨v1, c1, q, r.keepF hk⟩, fun v e => (h.c v e).imp fun _ q => ⟨q.1, rows_keep q.2 hk⟩, fun v e => (h.d v e).imp fun _ q => ⟨q.1, rows_keep q.2 hk⟩⟩
theorem Lap.drew {W : World} {LA : List MsgC} {m : MsgA} {LR : List MsgC} {o1 o2 o4 o5 : Option Value} {cur : World} (h : Lap W LA m LR o1 o2 o4 o5 cur) : Lap W LA m LR o1 o2 o4 o5 cur.drew := h.keepF (Keeps.refl _ _).drew
theorem Lap.first (W : World) (LA : List MsgC) (m : MsgA) (LR : List MsgC) : Lap W LA m LR none none none none W :=
 ⟨Keeps.refl _ _, fun _ e => (by cases e), fun _ e => (by cases e), fun _ e => (by cases e), fun _ e => (by cases e)⟩
theorem lap_a {W : World} {LA : List MsgC} {m : MsgA} {LR : List MsgC} {o2 o4 o5 : Option Value} {cur : World} {vm : Value} (h : Lap W LA m LR none o2 o4 o5 cur) (hm : MsgsAt W vm LA) (hL : LA.length * 72 ≤ 140737488355328) :
  Calls Tryz.prog 27 #[vm] cur fun e w' => ∃ o c, e = .returned (.slice o LA.length c) ∧ Lap W LA m LR (some (.slice o LA.length c)) o2 o4 o5 w' := by
 refine (copyMsgs_own cur vm LA (hm.keepF h.kept) hL).mono ?_
 rintro e w' ⟨o, c, K, rfl, hK, hO, hC, hk⟩
 have h2 := h.keepF hk
 exact ⟨o, c, rfl, h2.kept, fun v e => (by cases e; exact ⟨K, hK, ownsRow_lower hO h.kept.size, fun x hx => (hC x hx).lower h.kept.size⟩), h2.b, h2.c, h2.d⟩
theorem lap_d {W : World} {LA : List MsgC} {m : MsgA} {LR : List MsgC} {o1 o2 o4 : Option Value} {cur : World} {vm : Value} (h : Lap W LA m LR o1 o2 o4 none cur) (hm : MsgsAt W vm LR) (hL : LR.length * 72 ≤ 140737488355328) :
  Calls Tryz.prog 27 #[vm] cur fun e w' => ∃ o c, e = .returned (.slice o LR.length c) ∧ Lap W LA m LR o1 o2 o4 (some (.slice o LR.length c)) w' := by
 refine (copyMsgs_own cur vm LR (hm.keepF h.kept) hL).mono ?_
 rintro e w' ⟨o, c, K, rfl, hK, hO, hC, hk⟩
 have h2 := h.keepF hk
 exact ⟨o, c, rfl, h2.kept, h2.a, h2.b, h2.c, fun v e => (by cases e; exact ⟨K, hK, ownsRow_lower hO h.kept.size, fun x hx => (hC x hx).lower h.kept.size⟩)⟩
theorem lap_b {W : World} {LA : List MsgC} {xk : Int} {xkey : Txt} {xv : List ValA} {xc : Txt} {LR : List MsgC} {o1 o4 o5 : Option Value} {cur : World} {vv cv : Value} (h : Lap W LA ⟨xk, xkey, xv, xc⟩ LR o1 none o4 o5 cur) (hx : MsgOK W ⟨⟨xk, xkey, xv, xc⟩, vv, cv⟩) :
  Calls Tryz.prog 21 #[.agg #[.int .i64 xk, str xkey, vv, cv]] cur fun e w' => ∃ o1' c1' o2' c2', e = .returned (.agg #[.int .i64 xk, str xkey, .slice o1' xv.length c1', .slice o2' xc.length c2']) ∧ Lap W LA ⟨xk, xkey, xv, xc⟩ LR o1 (some (.agg #[.int .i64 xk, str xkey, .slice o1' xv.length c1', .slice o2' xc.length c2'])) o4 o5 w' := by
 have hx2 := hx.keepF h.kept
 refine (copyMsg_v ⟨xk, xkey, xv, xc⟩ vv cv cur hx2.vals hx2.code hx.lv hx.lc).mono ?_
 rintro e w' ⟨v1, c1, rfl, hov, hoc, hk⟩
 obtain ⟨ao, ac, rfl⟩ := RowAt.form (rowAt_own hov)
 obtain ⟨bo, bc, rfl⟩ := RowAt.form (rowAt_own hoc)
 have h2 := h.keepF hk
 refine ⟨ao, ac, bo, bc, rfl, h2.kept, h2.a, fun v e => ?_, h2.c, h2.d⟩
 cases e
 exact ⟨_, _, rfl, ownsRow_lower hov h.kept.size, ownsRow_lower hoc h.kept.size, hx.inr, hx.key, hx.lv, hx.lc⟩
theorem grown_keeps {n : Nat} {v : Value} {xs : List Value} {W cur w' : World} (hk : Keeps (fun _ => False) W cur) (hO : cur.ownsRow W.heap.size 50 4 v n xs) (hg : cur.grownBy w' v.ownBlock) : Keeps (fun _ => False) W w' ∧ Keeps (fun q => v.ownBlock = some q) cur w' :=
 ⟨hk.grown hg (fun q e hq => by have := (hO.lt q e).1; omega), (Keeps.refl _ _).any.grown hg (fun q e _ => e)⟩
end Go.Proofs.YtbokbdcjpbnodaaGreatDoor
namespace Go.Proofs.YtbokbdcjpbnodaaGreatDoor
open Go.RowKit Go.Maps
theorem lit_msgs {X : World} {base : Nat} {m : MsgA} {v1 c1 : Value} (h : CpOK X base ⟨m, v1, c1⟩) : MsgsAt (X.alloc (.cells #[.int .i64 m.kind, str m.key, v1, c1] 50)) (.slice (some ⟨X.heap.size, 0, none⟩) 1 1) [⟨m, v1, c1⟩] := by
 refine ⟨⟨⟨_, _, rfl⟩, fun _ => ⟨X.heap.size, 0, 1, rfl, by simp, fun j x hx => ?_⟩, fun a n c e => ?_⟩, fun x hx => ?_⟩
 ·rw [cell_of_blk (heap_alloc_new X _), Nat.zero_add]
  simpa [MsgC.cs] using hx
 ·simp only [Value.slice.injEq] at e ⊢
  omega
 ·rw [List.mem_singleton] at hx
  subst hx
  exact (h.keepF (kAlloc X _)).ok
theorem lap_app1 {W : World} {LA : List MsgC} {xk : Int} {xkey : Txt} {xv : List ValA} {xc : Txt} {LR : List MsgC} {va v1 c1 : Value} {X : World} {ops : Array Oper} {o : Oper} {a : Act} {K : Act → World → Prop} {Q : Exit → Act → World → Prop} {E : Prop} (h : Lap W LA ⟨xk, xkey, xv, xc⟩ LR (some va) (some (.agg #[.int .i64 xk, str xkey, v1, c1])) none none X) (hL : (LA.length + 1) * 72 ≤ 140737488355328) (hgd : o.guard = none) (s x : Operand)
  (ho : o.op = .call { callee := .builtin .append, args := #[s, x], argTypes := #[58, 58] }) (hs : a.eval s = va) (hx : a.eval x = .slice (some ⟨X.heap.size, 0, none⟩) 1 1)
  (hK : ∀ ao c w', Lap W LA ⟨xk, xkey, xv, xc⟩ LR none none (some (.slice ao (LA.length + 1) c)) none w' → K (a.put o.dst (.slice ao (LA.length + 1) c)) w') : if Region.wanted o (yielded ops a.tmps) = true then Oper.wp Tryz.prog o a (X.alloc (.cells #[.int .i64 xk, str xkey, v1, c1] 50)) K Q else E := by
 obtain ⟨K1, hK1, hO, hC⟩ := h.a va rfl
 obtain ⟨v1', c1', e, hB⟩ := h.b _ rfl
 simp only [Value.agg.injEq, Array.mk.injEq, List.cons.injEq, and_true, true_and] at e
 obtain ⟨rfl, rfl⟩ := e
 have kN := kAlloc X (.cells #[.int .i64 xk, str xkey, v1, c1] 50)
 have hO2 := ownsRow_kept hO kN (fun _ _ => id)
 have h2 := h.keepF kN
 refine step_appendM hgd s x ho W.heap.size va LA.length (K1.flatMap MsgC.cs) hs hO2 _ [⟨⟨xk, xkey, xv, xc⟩, v1, c1⟩] hx (lit_msgs hB) (by simpa using hL) h2.kept.size ?_
 intro ao c w' hO3 hg
 obtain ⟨hk, kg⟩ := grown_keeps h2.kept hO2 hg
 refine hK ao c w' ⟨hk, fun _ e => (by cases e), fun _ e => (by cases e), fun v e => ?_, fun _ e => (by cases e)⟩
 cases e
 refine ⟨K1 ++ [⟨⟨xk, xkey, xv, xc⟩, v1, c1⟩], by rw [List.map_append, hK1]; rfl, by rw [List.flatMap_append]; exact hO3, fun y hy => ?_⟩
 rcases List.mem_append.1 hy with hy | hy
 ·exact ((hC y hy).keepF kN).grow hO2 kg
 ·rw [List.mem_singleton] at hy
  subst hy
  exact (hB.keepF kN).grow hO2 kg
theorem lap_app2 {W : World} {LA : List MsgC} {m : MsgA} {LR : List MsgC} {v4 v5 : Value} {cur : World} {ops : Array Oper} {o : Oper} {a : Act} {K : Act → World → Prop} {Q : Exit → Act → World → Prop} {E : Prop} (h : Lap W LA m LR none none (some v4) (some v5) cur) (hL : (LA.length + 1 + LR.length) * 72 ≤ 140737488355328) (hgd : o.guard = none) (s x : Operand)
  (ho : o.op = .call { callee := .builtin .append, args := #[s, x], argTypes := #[58, 58] }) (hs : a.eval s = v4) (hx : a.eval x = v5)
  (hK : ∀ ao c w', (∃ N : List MsgC, N.map MsgC.m = LA.map MsgC.m ++ m :: LR.map MsgC.m ∧ MsgsAt w' (.slice ao (LA.length + 1 + LR.length) c) N) ∧ Keeps (fun _ => False) W w' → K (a.put o.dst (.slice ao (LA.length + 1 + LR.length) c)) w') : if Region.wanted o (yielded ops a.tmps) = true then Oper.wp Tryz.prog o a cur K Q else E := by
 obtain ⟨K1, hK1, hO, hC⟩ := h.c v4 rfl
 obtain ⟨K2, hK2, hO2, hC2⟩ := h.d v5 rfl
 have hl1 : K1.length = LA.length + 1 := by have := congrArg List.length hK1; simpa using this
 have hl2 : K2.length = LR.length := by have := congrArg List.length hK2; simpa using this
 have hM2 : MsgsAt cur v5 K2 := ⟨by rw [hl2]; exact rowAt_own hO2, fun y hy => (hC2 y hy).ok⟩
 refine step_appendM hgd s x ho W.heap.size v4 (LA.length + 1) (K1.flatMap MsgC.cs) hs hO v5 K2 hx hM2 (by rw [hl2]; exact hL) h.kept.size ?_
 intro ao c w' hO3 hg
 obtain ⟨hk, kg⟩ := grown_keeps h.kept hO hg
 rw [hl2] at hO3 ⊢
 refine hK ao c w' ⟨⟨K1 ++ K2, by rw [List.map_append, hK1, hK2]; simp, ⟨?_, fun y hy => ?_⟩⟩, hk⟩
 ·rw [List.flatMap_append, List.length_append, hl1, hl2]
  exact rowAt_own hO3
 ·rcases List.mem_append.1 hy with hy | hy
  ·exact ((hC y hy).grow hO kg).ok
  ·exact ((hC2 y hy).grow hO kg).ok
end Go.Proofs.YtbokbdcjpbnodaaGreatDoor
namespace Go.Proofs.YtbokbdcjpbnodaaGreatDoor
open Go.RowKit Go.Maps
theorem some_keep {ms : List MsgA} {v : Value} {W W' : World} (h : ∃ N : List MsgC, N.map MsgC.m = ms ∧ MsgsAt W v N) (hk : Keeps (fun _ => False) W W') : ∃ N : List MsgC, N.map MsgC.m = ms ∧ MsgsAt W' v N := h.imp fun _ q => ⟨q.1, q.2.keepF hk⟩
theorem lit_ok {X : World} {m : MsgA} {v1 c1 : Value} (h : MsgOK X ⟨m, v1, c1⟩) : MsgsAt (X.alloc (.cells #[.int .i64 m.kind, str m.key, v1, c1] 50)) (.slice (some ⟨X.heap.size, 0, none⟩) 1 1) [⟨m, v1, c1⟩] := by
 refine ⟨⟨⟨_, _, rfl⟩, fun _ => ⟨X.heap.size, 0, 1, rfl, by simp, fun j x hx => ?_⟩, fun a n c e => ?_⟩, fun x hx => ?_⟩
 ·rw [cell_of_blk (heap_alloc_new X _), Nat.zero_add]
  simpa [MsgC.cs] using hx
 ·simp only [Value.slice.injEq] at e ⊢
  omega
 ·rw [List.mem_singleton] at hx
  subst hx
  exact h.keepF (kAlloc X _)
end Go.Proofs.YtbokbdcjpbnodaaGreatDoor
namespace Go.Proofs.YtbokbdcjpbnodaaGreatDoor
open Go.RowKit Go.Maps
theorem exec_len (S : List FieldA) (t : Txt) (hh : Bool) (vals : List ValA) : (execO S t hh vals).vals.length ≤ 8 := by
 unfold execO
 split
 ·simp
 ·exact runO_len _ _ _ _
theorem did_len {S : List FieldA} {r : Bool × List ValA} {m : MsgA} {M : Nat} (h8 : 8 ≤ M) (hm : m.vals.length ≤ M) : (didA S r m).2.length ≤ M := by
 unfold didA
 split
 ·exact hm
 ·split
  ·simp
  ·exact Nat.le_trans (exec_len _ _ _ _) h8
theorem fold_len {S : List FieldA} {M : Nat} (h8 : 8 ≤ M) : ∀ (ms : List MsgA) (r : Bool × List ValA), r.2.length ≤ M → (∀ m ∈ ms, m.vals.length ≤ M) → (foldA S r ms).2.length ≤ M
 | [], r, hr, _ => hr
 | m :: ms, r, hr, h => by
  show (foldA S (didA S r m) ms).2.length ≤ M
  exact fold_len h8 ms _ (did_len h8 (h m (by simp))) (fun x hx => h x (by simp [hx]))
theorem apply_len {S : List FieldA} {hh : Bool} {vals : List ValA} {ms : List MsgA} {M : Nat} (h8 : 8 ≤ M) (hv : vals.length ≤ M) (hm : ∀ m ∈ ms, m.vals.length ≤ M) : (applyA S hh vals ms).vals.length ≤ M := by
 unfold applyA
 split
 ·simp
 ·exact fold_len h8 ms (hh, vals) hv hm
end Go.Proofs.YtbokbdcjpbnodaaGreatDoor
