import Derived.Test.YtbdlcaamanhapaaGreatDoorJzag
import Derived.Test.YtbdlcaamanhapaaGreatDoorJzaf
import Derived.Maps.AppendAt
import Derived.Test.YtbdlcaamanhapaaGreatDoorJzad
import Derived.Test.YtbdlcaamanhapaaGreatDoorJzac
import Derived.Test.YtbdlcaamanhapaaGreatDoorJzae
namespace Go.Proofs.YtbdlcaamanhapaaGreatDoor
open Go.RowKit Go.Maps
set_option maxRecDepth 100000
set_option maxHeartbeats 2000000
theorem names_field : ∀ o ∈ ([1, 2, 3, 4, 5, 6, 7, 8, 9, 10, 11, 12, 13, 14, 15, 16, 17, 18, 19, 20, 21, 22, 23, 24, 25, 26] : List Int), ((opA o).of = 4 ∨ (opA o).gives = 4) → (opA o).opd = 3 := by decide
theorem names_ok {S : List Wq} {i : ValA} (hf : formB i = 0) (hr : rightF S i = true) (h : (opA i.kind).of = 4 ∨ (opA i.kind).gives = 4) : 0 ≤ i.n ∧ i.n < S.length := by
 have h3 := names_field _ (op_cases (formB_zero hf).1) h
 refine ⟨(form_field hf (Or.inl h3)).1, ?_⟩
 unfold rightF at hr
 rw [if_pos h3] at hr
 exact of_decide_eq_true hr
theorem takesThese_v (S : List Wq) (so : Option Addr) (sc : Nat) (i : ValA) (l : List Int) (v : Value) (w : World) (hO : Ops w) (hS : Wt w (.slice so S.length sc) S) (hf : formB i = 0) (hr : rightF S i = true) (h : KsAt w v l) (hl : l.length ≤ 16) :
  Calls Tryz.prog 137 #[.agg #[.slice so S.length sc], i.v, v] w fun e w' => e = .returned (.bool (takesB S i l)) ∧ Wp (fun _ => False) w w' := by
 obtain ⟨ao, cap, rfl⟩ := Ws.form h
 have ho := (formB_zero hf).1
 obtain ⟨h1, h2⟩ := opdB_range ho
 have hnm := fun h4 : (opA i.kind).of = 4 => names_ok hf hr (Or.inl h4)
 have HTB : Hid (takesB S i l = (l.drop 0).all (fun k => decide (k = l.headD 0) && allowsB (ofF S i (opA i.kind).of) k)) := rfl
 obtain ⟨kd, n, s⟩ := i
 unfold ValA.v
 simp only at *
 obtain ⟨m, rfl⟩ := Int.eq_ofNat_of_zero_le (show 0 ≤ kd by omega)
 obtain ⟨HX, hxb, hxc⟩ := boxed w #[.slice so S.length sc] 24
 obtain ⟨HY, hyb, hyc⟩ := boxed (w.alloc (.cells #[.slice so S.length sc] 24)) #[.int .i64 (m : Int), .int .i64 n, str s] 60
 have x0 := ((zA HY).cell hxb id).trans (hxc 0 (.slice so S.length sc) rfl)
 have y0 := hyc 0 (.int .i64 (m : Int)) rfl
 have y1 := hyc 1 (.int .i64 n) rfl
 have y2 := hyc 2 (str s) rfl
 rw [World.size_alloc] at y0 y1 y2
 have HK := zB ((zA HX).trans (zA HY))
 have g3 := ((hO.keepF (zA HK)).at (m := m) (by omega)).2.2.1
 have i0 : (0 : Int) ≤ (m : Int) := by omega
 have i1 : (m : Int) < 27 := by omega
 have hz0 := Nat.lt_of_lt_of_le hxb (zA HY).size
 have hz1 : w.heap.size + 1 < ((w.alloc (.cells #[.slice so S.length sc] 24)).alloc (.cells #[.int .i64 (m : Int), .int .i64 n, str s] 60)).heap.size := by simp
 have hz2 := (hO.keepF (zA HK)).lt
 generalize hW : ((w.alloc (.cells #[.slice so S.length sc] 24)).alloc (.cells #[.int .i64 (m : Int), .int .i64 n, str s] 60)) = W at *
 have HQ := zB (ofField_v S so sc ⟨m, n, s⟩ (opA (m : Int)).of W.drew ((hS.keepF (zA HK)).keepF (Wp.refl _ W).drew) hnm)
 have HV := zB ((h.keepF (zA HK)).keepF (Wp.refl _ W).drew)
 have HKD := zB ((zA HK).trans (Wp.refl _ W).drew)
 unfold ValA.v at HQ
 generalize ofF S ⟨m, n, s⟩ (opA (m : Int)).of = F at *
 generalize (opA (m : Int)).of = K at *
 generalize takesB S ⟨m, n, s⟩ l = R at *
 clear hxc hyc hO hS HX HY ho h1 h2 hxb hyb hf hr hnm h HK
 go_enter Tryz.func137, Tryz.ntmps137
 go_wp2_with fail
 clear hW
 go_region_held3 (fun w' => w'.cell? ⟨w.heap.size, 0, none⟩ = some (.slice so S.length sc) ∧ w'.cell? ⟨w.heap.size + 1, 0, none⟩ = some (.int .i64 (m : Int)) ∧ w'.cell? ⟨w.heap.size + 1, 1, none⟩ = some (.int .i64 n) ∧ w'.cell? ⟨w.heap.size + 1, 2, none⟩ = some (str s) ∧ w'.cell? ⟨1, m * 5 + 3, none⟩ = some (.int .i64 K))
  (go_keep)
  (first
    | (go_at_call 139
       refine (zA HQ).mono ?_
       rintro e w2 ⟨rfl, hk2⟩
       have q0 := (hk2.cell (o := 0) hz0 id).trans x0
       have q1 := (hk2.cell (o := 0) hz1 id).trans y0
       have q2 := (hk2.cell (o := 1) hz1 id).trans y1
       have q3 := (hk2.cell (o := 2) hz1 id).trans y2
       have q4 := (hk2.cell (o := m * 5 + 3) hz2 id).trans g3))
 have HK2 := zB ((zA HKD).trans hk2)
 have HV2 := zB ((zA HV).keepF hk2)
 clear hk2 HQ HV
 have x0' := q0
 clear q0 q1 q2 q3 q4 x0 y0 y1 y2 g3 hz0 hz1 hz2 x0' HKD
 go_wp2_with fail
 go_loopw [20] (fun i wr => ∃ k : Nat, k ≤ l.length ∧ i = .int .i64 k ∧ Hid (R = (l.drop k).all (fun k => decide (k = l.headD 0) && allowsB F k)) ∧ ∃ q, wr = w2.drewN q) (fun i _ => l.length - (intOf i).toNat)
 case atStart => exact ⟨0, Nat.zero_le _, rfl, HTB, 0, rfl⟩
 case round =>
  obtain ⟨k, hk, rfl, HS, q, rfl⟩ := hrel
  by_cases hlt : k < l.length
  ·obtain ⟨x, hx⟩ : ∃ x, l[k]? = some x := ⟨_, List.getElem?_eq_getElem hlt⟩
   obtain ⟨y, hy⟩ : ∃ y, l[0]? = some y := ⟨_, List.getElem?_eq_getElem (by omega)⟩
   obtain ⟨b, off, c, e, hbl, hc⟩ := (zA HV2).cells (by omega)
   simp at e
   obtain ⟨rfl, rfl⟩ := e
   have c0 := hc k x hx
   have c1 := hc 0 y hy
   rw [Nat.add_zero] at c1
   have HD : Hid (R = ((decide (x = y) && allowsB F x) && (l.drop (k + 1)).all (fun k => decide (k = l.headD 0) && allowsB F k))) := by
    show _ = _
    obtain ⟨hk', hx'⟩ := List.getElem?_eq_some_iff.1 hx
    have hh : l.headD 0 = y := by cases l with
     | nil => simp at hy
     | cons a r => simpa using hy
    rw [zA HS, List.drop_eq_getElem_cons hk', List.all_cons, hx', hh]
   have i2 : (k : Int) < (l.length : Int) := by omega
   have i0' : (0 : Int) ≤ (k : Int) := by omega
   have i3 : (0 : Int) < (l.length : Int) := by omega
   clear hc hx hy HS
   by_cases hxy : x = y
   ·subst hxy
    have HC := zB (allows_v F x)
    go_wp2_with fail
    refine ((zA HC) _).mono ?_
    rintro e w3 ⟨rfl, rfl⟩
    cases ha : allowsB F x with
    | true =>
     have HE : Hid (R = (l.drop (k + 1)).all (fun k => decide (k = l.headD 0) && allowsB F k)) := by
      show _ = _
      rw [zA HD, ha]
      simp
     clear HD HC
     go_wp2_with fail
     go_roundw
     case rel => exact ⟨k + 1, by omega, by go_num, HE, q, rfl⟩
     case measure => simp [intOf]; omega
    | false =>
     have HE : Hid (R = false) := by
      show _ = _
      rw [zA HD, ha]
      simp
     clear HD HC
     go_wp2_with fail
     go_ret
     rw [zA HE]
     exact ⟨rfl, (zA HK2).trans (keeps_drewN _ _)⟩
   ·have bxy : (x != y) = true := by rw [bne_iff_ne]; exact hxy
    have HE : Hid (R = false) := by
     show _ = _
     rw [zA HD, decide_eq_false hxy]
     rfl
    clear hxy HD
    go_wp2_with fail
    go_ret
    rw [zA HE]
    exact ⟨rfl, (zA HK2).trans (keeps_drewN _ _)⟩
  ·obtain rfl : k = l.length := by omega
   have i2 : ¬ (l.length : Int) < (l.length : Int) := by omega
   have HE : Hid (R = true) := by
    show _ = _
    rw [zA HS, List.drop_length]
    rfl
   clear hlt
   go_wp2_with fail
   go_ret
   rw [zA HE]
   exact ⟨rfl, (zA HK2).trans (keeps_drewN _ _)⟩
theorem grownBy_refl (w : World) (row : Option Nat) : w.grownBy w row := ⟨rfl, rfl, rfl, Nat.le_refl _, fun _ _ _ => rfl⟩
set_option maxHeartbeats 1000000
theorem Tryz.info149 : (Tryz.prog.info? 149).map (fun i => (i.zero, i.size, i.bytes)) = some (some (.int .i64 0), 1, 8) := by kernel_rfl
theorem ks_one (G : List Int) : ∀ u ∈ ks G, u.oneCell' = true := by
 intro u hu
 unfold ks at hu
 obtain ⟨k, _, rfl⟩ := List.mem_map.1 hu
 rfl
theorem ks_append (a b : List Int) : ks (a ++ b) = ks a ++ ks b := by simp [ks]
theorem run_appendK_none (w : World) (ty : TypeId) (ao : Option Addr) (n c xc : Nat) (hnc : n ≤ c) : (Builtin.append_ #[97, 97] ty #[.slice ao n c, .slice none 0 xc]).run Tryz.prog w = .ok (.slice ao n c) w := by
 obtain ⟨i0, hi, hz0, hz1, hz2⟩ := info_parts Tryz.info149
 cases ao <;> simp [Builtin.append_, Builtin.lenOf, Builtin.firstCells, storeCells, go_sem, sizeOf, typeInfo, hi, hnc]
theorem run_appendK_any (w : World) (ty : TypeId) (base : Nat) (v : Value) (n : Nat) (xs : List Value) (hown : w.ownsRow base 149 1 v n xs) (u : Value) (G : List Int) (hu : KsAt w u G) (h63 : n + G.length ≤ maxLen) (hbytes : n + G.length ≤ 17592186044416) (hbase : base ≤ w.heap.size) :
  ∃ v' w', (Builtin.append_ #[97, 97] ty #[v, u]).run Tryz.prog w = .ok v' w' ∧ w'.ownsRow base 149 1 v' (n + G.length) (xs ++ ks G) ∧ w.grownBy w' v.ownBlock := by
 obtain ⟨i0, hi, hz0, hz1, hz2⟩ := info_parts Tryz.info149
 obtain ⟨uo, uc, rfl⟩ := Ws.form hu
 cases uo with
 | none =>
  have h0 : G.length = 0 := by
   rcases Nat.eq_zero_or_pos G.length with h | h
   ·exact h
   ·obtain ⟨b, off, cap, e, _⟩ := Ws.cells hu h
    simp at e
  have hG : G = [] := List.eq_nil_of_length_eq_zero h0
  subst hG
  obtain ⟨ao, c, rfl⟩ := (zG hown).form
  have hnc := (zG hown).room _ _ _ rfl
  exact ⟨_, w, run_appendK_none w ty ao n c uc hnc, by simpa [ks] using hown, grownBy_refl _ _⟩
 | some ad =>
  obtain ⟨v', w', hr, h2, h3, _⟩ := run_append_own_at (P := Tryz.prog) w base 97 ty 149 i0 _ 1 8 Tryz.underlying97 hi hz0 hz1 hz2 rfl (by omega) v n xs hown ad G.length uc (ks G) (by rw [ks_length]; omega) (fun j x hx => by
   have h0 : 0 < G.length := by
    have := (List.getElem?_eq_some_iff.1 hx).1
    rw [ks_length] at this
    omega
   obtain ⟨b, off, cap, e, _, hc⟩ := Ws.cells hu h0
   simp at e
   obtain ⟨rfl, rfl⟩ := e
   have := hc j x hx
   rw [show (⟨b, off, none⟩ : Addr).add j = ⟨b, off + j, none⟩ by simp only [Addr.add_lit]]
   exact this) (ks_one G) h63 (by omega) hbase
  exact ⟨v', w', hr, h2, h3⟩
theorem wpList_appendK_any {w : World} {ops : Array Oper} {rest : List Oper} {o : Oper} {a : Act} {Q : Exit → Act → World → Prop} (hgd : o.guard = none) (s x : Operand)
  (ho : o.op = .call { callee := .builtin .append, args := #[s, x], argTypes := #[97, 97] }) (base : Nat) (v : Value) (n : Nat) (xs : List Value) (hs : a.eval s = v) (hown : w.ownsRow base 149 1 v n xs)
  (u : Value) (G : List Int) (hx : a.eval x = u) (hu : KsAt w u G) (h63 : n + G.length ≤ maxLen) (hbytes : n + G.length ≤ 17592186044416) (hbase : base ≤ w.heap.size)
  (h : ∀ v' w', w'.ownsRow base 149 1 v' (n + G.length) (xs ++ ks G) → w.grownBy w' v.ownBlock → wpList Tryz.prog ops Q rest (a.put o.dst v') w') : wpList Tryz.prog ops Q (o :: rest) a w :=
 wpList_plain hgd fun _ hK => by
  obtain ⟨v', w', hr, h2, h3⟩ := run_appendK_any w o.type base v n xs hown u G hu h63 hbytes hbase
  unfold Oper.wp execOp
  simp only [ho, resolve, invoke, builtin, Sem.run_bind, Sem.run_pure, Result.andThen_ok, List.map_toArray, List.map_cons, List.map_nil, hs, hx, hr]
  exact hK _ _ (h v' w' h2 h3)
theorem eql_nil (W : World) (a : Option Addr) (l c : Nat) : (binOp .eql 97 (.slice a l c) (.slice none 0 0)).run Tryz.prog W = .ok (.bool a.isNone) W := by
 simp only [binOp]
 simp [run_equal_slice_nil W 97 149 a l c Tryz.underlying97]
theorem owns_empty (w : World) (t : TypeId) : (w.alloc (.cells #[] t)).ownsRow w.heap.size t 1 (.slice (some ⟨w.heap.size, 0, none⟩) 0 0) 0 [] :=
 ⟨rfl, Or.inr ⟨w.heap.size, 0, #[], rfl, Nat.le_refl _, heap_alloc_new w (.cells #[] t), Nat.le_refl _, Nat.zero_le _, rfl, rfl⟩⟩
theorem clone_v (l : List Int) (v : Value) (w : World) (h : KsAt w v l) (hl : l.length ≤ 16) :
  Calls Tryz.prog 138 #[v] w fun e w' => ∃ v', e = .returned v' ∧ w'.ownsRow w.heap.size 149 1 v' l.length (ks l) ∧ Wp (fun _ => False) w w' := by
 obtain ⟨ao, cap, rfl⟩ := Ws.form h
 cases ao with
 | none =>
  have h0 : l.length = 0 := by
   rcases Nat.eq_zero_or_pos l.length with h' | h'
   ·exact h'
   ·obtain ⟨b, off, c, e, _⟩ := Ws.cells h h'
    simp at e
  obtain rfl := List.eq_nil_of_length_eq_zero h0
  have hnone : ∀ W : World, (binOp .eql 97 (.slice none 0 cap) (.slice none 0 0)).run Tryz.prog W = .ok (.bool true) W := fun W => eql_nil W none 0 cap
  clear h
  go_enter Tryz.func138, Tryz.ntmps138
  go_wp2_with fail
  go_ret
  exact ⟨_, rfl, World.ownsRow_nil _ w.heap.size 149 1, Wp.refl _ _⟩
 | some ad =>
  obtain ⟨HX, hxb, hxc⟩ := boxed w #[] 149
  have HV := zB (h.keepF (zA HX))
  have HE := zB (owns_empty w 149)
  have hsome : ∀ W : World, (binOp .eql 97 (.slice (some ad) l.length cap) (.slice none 0 0)).run Tryz.prog W = .ok (.bool false) W := fun W => eql_nil W (some ad) l.length cap
  clear hxc h
  go_enter Tryz.func138, Tryz.ntmps138
  go_wp2_with (at_builtin; refine wpList_appendK_any rfl _ _ rfl w.heap.size (.slice (some ⟨w.heap.size, 0, none⟩) 0 0) 0 [] rfl (zA HE) (.slice (some ad) l.length cap) l rfl (zA HV) (by unfold maxLen; omega) (by omega) (by simp) ?_; intro v2 w2 hown2 hgrow2)
  go_ret
  refine ⟨_, rfl, by simpa using hown2, (zA HX).grown hgrow2 ?_⟩
  intro k e hk
  simp only [Value.ownBlock, Option.some.injEq] at e
  omega
set_option maxHeartbeats 4000000
theorem slice_from (g n cap U : Nat) (h1 : U ≤ n) (W : World) : (Instr.sliceAt 97 (.slice (some ⟨g, 0, none⟩) n cap) (some (.int .i64 (U : Int))) none none).run Tryz.prog W = .ok (.slice (if cap = U then some ⟨g, 0, none⟩ else some ⟨g, 0 + U, none⟩) (n - U) (cap - U)) W := by
 have j1 : (U : Int) ≤ (n : Int) := by omega
 have j0 : (0 : Int) ≤ (U : Int) := by omega
 simp [go_sem, j1, j0]
theorem slice_to (g n cap U : Nat) (h1 : U ≤ n) (h2 : n ≤ cap) (W : World) : (Instr.sliceAt 97 (.slice (some ⟨g, 0, none⟩) n cap) none (some (.int .i64 (U : Int))) none).run Tryz.prog W = .ok (.slice (some ⟨g, 0, none⟩) U cap) W := by
 have j1 : (U : Int) ≤ (cap : Int) := by omega
 have j0 : (0 : Int) ≤ (U : Int) := by omega
 simp [go_sem, j1, j0]
theorem slice_from_nil (W : World) : (Instr.sliceAt 97 (.slice none 0 0) (some (.int .i64 0)) none none).run Tryz.prog W = .ok (.slice none 0 0) W := by
 simp [go_sem]
theorem slice_to_nil (W : World) : (Instr.sliceAt 97 (.slice none 0 0) none (some (.int .i64 0)) none).run Tryz.prog W = .ok (.slice none 0 0) W := by
 simp [go_sem]
theorem slices_of {w : World} {ao : Option Addr} {cap U : Nat} {st : List Int} (h : w.ownsRow 0 149 1 (.slice ao st.length cap) st.length (ks st)) (hU : U ≤ st.length) :
  ∃ vr vt, (∀ W' : World, (Instr.sliceAt 97 (.slice ao st.length cap) (some (.int .i64 (U : Int))) none none).run Tryz.prog W' = .ok vr W') ∧ KsAt w vr (st.drop U) ∧ (∀ W' : World, (Instr.sliceAt 97 (.slice ao st.length cap) none (some (.int .i64 (U : Int))) none).run Tryz.prog W' = .ok vt W') ∧ KsAt w vt (st.take U) := by
 have hcap := (zG h).room _ _ _ rfl
 rcases h.2 with ⟨e, h0⟩ | ⟨g, c, cur, e, _, _, hnc, _, _, _⟩
 ·simp only [Value.slice.injEq] at e
  obtain ⟨rfl, _, rfl⟩ := e
  obtain rfl := List.eq_nil_of_length_eq_zero h0
  obtain rfl : U = 0 := by simpa using hU
  exact ⟨_, _, slice_from_nil, zG (World.ownsRow_nil _ 0 149 1), slice_to_nil, zG (World.ownsRow_nil _ 0 149 1)⟩
 ·simp only [Value.slice.injEq] at e
  obtain ⟨rfl, _, rfl⟩ := e
  refine ⟨_, _, slice_from g _ _ U hU, ?_, slice_to g _ _ U hU hcap, ?_⟩
  ·have h3 := rest_row (zG h) hU (ks_length st)
   unfold KsAt
   rw [List.length_drop]
   have e : ks (st.drop U) = (ks st).drop U := by simp [ks]
   rw [e]
   exact h3
  ·unfold KsAt
   have hl : (st.take U).length = U := by rw [List.length_take]; omega
   rw [hl]
   have e : ks st = ks (st.take U) ++ ks (st.drop U) := by rw [← ks_append, List.take_append_drop]
   have h3 := zG h
   rw [e] at h3
   exact Ws.first h3 hU
theorem op_small : ∀ o ∈ ([1, 2, 3, 4, 5, 6, 7, 8, 9, 10, 11, 12, 13, 14, 15, 16, 17, 18, 19, 20, 21, 22, 23, 24, 25, 26] : List Int), (opA o).takes ≤ 2 := by decide
theorem behB_short {S : List Wq} {i : ValA} {st : List Int} (h : st.length < (opA i.kind).takes) : behB S i st = none := by unfold behB; rw [if_pos h]
theorem behB_wrong {S : List Wq} {i : ValA} {st : List Int} (h : (opA i.kind).takes ≤ st.length) (h2 : takesB S i (st.drop (st.length - (opA i.kind).takes)) = false) : behB S i st = none := by unfold behB; rw [if_neg (by omega), if_pos h2]
theorem behB_right {S : List Wq} {i : ValA} {st : List Int} (h : (opA i.kind).takes ≤ st.length) (h2 : takesB S i (st.drop (st.length - (opA i.kind).takes)) = true) : behB S i st = if (afterB S i st).length ≤ 16 then some (afterB S i st) else none := by unfold behB; rw [if_neg (by omega), if_neg (by simp [h2])]
theorem behind_v (S : List Wq) (so : Option Addr) (sc : Nat) (i : ValA) (st : List Int) (v : Value) (w : World) (hO : Ops w) (hS : Wt w (.slice so S.length sc) S) (hf : formB i = 0) (hr : rightF S i = true) (h : w.ownsRow 0 149 1 v st.length (ks st)) (hl : st.length ≤ 16) :
  Calls Tryz.prog 113 #[.agg #[.slice so S.length sc], i.v, v] w fun e w' => ∃ v', e = .returned (.tuple #[v', .bool (behB S i st).isSome]) ∧ (∀ st', behB S i st = some st' → w'.ownsRow w.heap.size 149 1 v' st'.length (ks st')) ∧ Wp (fun _ => False) w w' := by
 obtain ⟨ao, cap, rfl⟩ := (zG h).form
 have hcap := (zG h).room _ _ _ rfl
 have ho := (formB_zero hf).1
 obtain ⟨h1, h2⟩ := opdB_range ho
 have htk := op_small _ (op_cases ho)
 have hng := fun h4 : (opA i.kind).gives = 4 => names_ok hf hr (Or.inr h4)
 have HTT := zB (fun (l : List Int) (v' : Value) (w' : World) (a : Ops w') (b : Wt w' (.slice so S.length sc) S) (c : KsAt w' v' l) (d : l.length ≤ 16) => takesThese_v S so sc i l v' w' a b hf hr c d)
 have HOF := zB (fun (w' : World) (b : Wt w' (.slice so S.length sc) S) => ofField_v S so sc i (opA i.kind).gives w' b hng)
 have HB1 := zB (fun h => behB_short (S := S) (i := i) (st := st) h)
 have HB2 := zB (fun h h2 => behB_wrong (S := S) (i := i) (st := st) h h2)
 have HB3 := zB (fun h h2 => behB_right (S := S) (i := i) (st := st) h h2)
 have HAF : Hid (afterB S i st = st.take (st.length - (opA i.kind).takes) ++ (if (opA i.kind).gives ≠ 0 then [ofF S i (opA i.kind).gives] else [])) := rfl
 generalize afterB S i st = AF at *
 generalize behB S i st = BE at *
 generalize hTB : takesB S i = TB at *
 generalize ofF S i (opA i.kind).gives = GV at *
 obtain ⟨kd, n, s⟩ := i
 unfold ValA.v at *
 simp only at *
 obtain ⟨m, rfl⟩ := Int.eq_ofNat_of_zero_le (show 0 ≤ kd by omega)
 obtain ⟨HX, hxb, hxc⟩ := boxed w #[.slice so S.length sc] 24
 obtain ⟨HY, hyb, hyc⟩ := boxed (w.alloc (.cells #[.slice so S.length sc] 24)) #[.int .i64 (m : Int), .int .i64 n, str s] 60
 have x0 := ((zA HY).cell hxb id).trans (hxc 0 (.slice so S.length sc) rfl)
 have y0 := hyc 0 (.int .i64 (m : Int)) rfl
 have y1 := hyc 1 (.int .i64 n) rfl
 have y2 := hyc 2 (str s) rfl
 rw [World.size_alloc] at y0 y1 y2
 have HK := zB ((zA HX).trans (zA HY))
 have hz0 := Nat.lt_of_lt_of_le hxb (zA HY).size
 have hz1 : w.heap.size + 1 < ((w.alloc (.cells #[.slice so S.length sc] 24)).alloc (.cells #[.int .i64 (m : Int), .int .i64 n, str s] 60)).heap.size := by simp
 have hzs : ((w.alloc (.cells #[.slice so S.length sc] 24)).alloc (.cells #[.int .i64 (m : Int), .int .i64 n, str s] 60)).heap.size = w.heap.size + 2 := by simp
 obtain ⟨g1, g2, g3, g4, g0⟩ := (hO.keepF (zA HK)).at (m := m) (by omega)
 generalize hW : ((w.alloc (.cells #[.slice so S.length sc] 24)).alloc (.cells #[.int .i64 (m : Int), .int .i64 n, str s] 60)) = W at *
 generalize (opA (m : Int)).opd = D1 at *
 generalize hTK : (opA (m : Int)).takes = T at *
 generalize (opA (m : Int)).of = D3 at *
 generalize hG : (opA (m : Int)).gives = G at *
 generalize (opA (m : Int)).word = D0 at *
 obtain ⟨HZ, hzb, hzc⟩ := boxed W #[str D0, .int .i64 D1, .int .i64 (T : Int), .int .i64 D3, .int .i64 G] 151
 have u2 := hzc 2 (.int .i64 (T : Int)) rfl
 have u4 := hzc 4 (.int .i64 G) rfl
 rw [hzs] at u2 u4
 have i0 : (0 : Int) ≤ (m : Int) := by omega
 have i1 : (m : Int) < 27 := by omega
 have x0' := ((zA HZ).cell (o := 0) hz0 id).trans x0
 have y0' := ((zA HZ).cell (o := 0) hz1 id).trans y0
 have y1' := ((zA HZ).cell (o := 1) hz1 id).trans y1
 have y2' := ((zA HZ).cell (o := 2) hz1 id).trans y2
 have HKZ := zB ((zA HK).trans (zA HZ))
 have HO := zB (hO.keepF (zA HKZ))
 have HS := zB (hS.keepF (zA HKZ))
 have HST := zB (zI h (zA HKZ) (fun _ _ => id))
 have hw0 := Nat.lt_of_lt_of_le hz0 (zA HZ).size
 have hw1 := Nat.lt_of_lt_of_le hz1 (zA HZ).size
 have hw2 : w.heap.size + 2 < (W.alloc (.cells #[str D0, .int .i64 D1, .int .i64 (T : Int), .int .i64 D3, .int .i64 G] 151)).heap.size := by rw [World.size_alloc]; omega
 generalize hZ : W.alloc (.cells #[str D0, .int .i64 D1, .int .i64 (T : Int), .int .i64 D3, .int .i64 G] 151) = Z at *
 clear hxc hyc hzc hO hS h HX HY ho h1 h2 hxb hyb hng hf hr hTK hG
 go_enter Tryz.func113, Tryz.ntmps113
 by_cases hsh : st.length < T
 ·have HE := zB ((zA HB1) hsh)
  have j1 : ((st.length : Int) - (T : Int)) < 0 := by omega
  go_wp2_with fail
  go_region
  go_wp2_with fail
  go_ret2
  rw [zA HE]
  exact ⟨_, rfl, fun st' e => by simp at e, (zA HKZ).trans (Wp.refl _ Z).drew⟩
 ·obtain ⟨U, hU⟩ : ∃ U, U + T = st.length := ⟨st.length - T, by omega⟩
  have hUT : (st.length : Int) - (T : Int) = (U : Int) := by omega
  have j1 : ¬ (U : Int) < 0 := by omega
  have j2 : (0 : Int) ≤ (U : Int) := by omega
  have j3 : (U : Int) ≤ (st.length : Int) := by omega
  have j4 : (st.length : Int) ≤ (cap : Int) := by omega
  have hUl : st.length - T = U := by omega
  rw [hUl] at HB2 HB3 HAF
  obtain ⟨vr, vt, hvr, hvr', hvt, hvt'⟩ := slices_of (U := U) (zA HST) (by omega)
  have HVR := zB (hvr'.keepF (Wp.refl _ Z).drew)
  have HVT := zB (hvt'.keepF (Wp.refl _ Z).drew)
  clear hvr' hvt'
  have HOD := zB ((zA HO).keepF (Wp.refl _ Z).drew)
  have HSD := zB ((zA HS).keepF (Wp.refl _ Z).drew)
  have HQ := zB ((zA HTT) (st.drop U) vr Z.drew (zA HOD) (zA HSD) (zA HVR) (by rw [List.length_drop]; omega))
  generalize hB : TB (st.drop U) = B at *
  go_wp2_with fail
  go_region_held3 (fun w' => w'.cell? ⟨w.heap.size, 0, none⟩ = some (.slice so S.length sc) ∧ w'.cell? ⟨w.heap.size + 1, 0, none⟩ = some (.int .i64 (m : Int)) ∧ w'.cell? ⟨w.heap.size + 1, 1, none⟩ = some (.int .i64 n) ∧ w'.cell? ⟨w.heap.size + 1, 2, none⟩ = some (str s))
   (go_keep)
   (first
     | (go_at_call 137
        refine (zA HQ).mono ?_
        rintro e w2 ⟨rfl, hk2⟩
        have q0 := (hk2.cell (o := 0) hw0 id).trans x0'
        have q1 := (hk2.cell (o := 0) hw1 id).trans y0'
        have q2 := (hk2.cell (o := 1) hw1 id).trans y1'
        have q3 := (hk2.cell (o := 2) hw1 id).trans y2'))
  have k4 := (hk2.cell (o := 4) hw2 id).trans u4
  have HKD := zB (((zA HKZ).trans (Wp.refl _ Z).drew).trans hk2)
  have HVT2 := zB ((zA HVT).keepF hk2)
  have HS2 := zB ((zA HSD).keepF hk2)
  have hs2 : w.heap.size + 2 < w2.heap.size := Nat.lt_of_lt_of_le hw2 hk2.size
  clear HVT HVR HTT HO HS HOD HSD HQ hk2 x0 y0 y1 y2 g0 g1 g2 g3 g4 x0' y0' y1' y2' u2 u4 HK HZ hz0 hz1 hzb HST HKZ hzs hw0 hw1 hw2 hW hZ HB1
  cases B with
  | false =>
   have HE := zB ((zA HB2) (by omega) rfl)
   clear HB2 HB3 HAF
   have hd : decide ((U : Int) < 0) = false := decide_eq_false (by omega)
   simp only [hd, Bool.not_false, Bool.or_true]
   go_wp2_with fail
   go_ret2
   rw [zA HE]
   exact ⟨_, rfl, fun st' e => by simp at e, zA HKD⟩
  | true =>
   have HE := zB ((zA HB3) (by omega) rfl)
   clear HB2 HB3
   have hd : decide ((U : Int) < 0) = false := decide_eq_false (by omega)
   simp only [hd, Bool.not_true, Bool.or_false]
   have HC := zB (clone_v (st.take U) vt w2 (zA HVT2) (by rw [List.length_take]; omega))
   go_wp2_with fail
   refine (zA HC).mono ?_
   rintro e w5 ⟨v5, rfl, ho5, hk5⟩
   have HO5 := zB (ownsRow_lower ho5 (show w.heap.size ≤ w2.heap.size by omega))
   have HK5 := zB ((zA HKD).trans hk5)
   have k4' := (hk5.cell (o := 4) (show w.heap.size + 2 < w2.heap.size by omega) id).trans k4
   have q0' := (hk5.cell (o := 0) (show w.heap.size < w2.heap.size by omega) id).trans q0
   have q1' := (hk5.cell (o := 0) (show w.heap.size + 1 < w2.heap.size by omega) id).trans q1
   have q2' := (hk5.cell (o := 1) (show w.heap.size + 1 < w2.heap.size by omega) id).trans q2
   have q3' := (hk5.cell (o := 2) (show w.heap.size + 1 < w2.heap.size by omega) id).trans q3
   have HS5 := zB ((zA HS2).keepF hk5)
   have hs5 := hk5.size
   obtain ⟨o5, c5, rfl⟩ := (zG ho5).form
   have hlt : (st.take U).length = U := by rw [List.length_take]; omega
   rw [hlt] at HO5 ⊢
   clear HC ho5 hk5 k4 q0 q1 q2 q3 HVT2 HS2
   by_cases hg : G = 0
   ·have bg : (G != 0) = false := by simpa using hg
    have HA : Hid (AF = st.take U) := by show _ = _; rw [zA HAF, if_neg (by simpa using hg), List.append_nil]
    have hal : AF.length ≤ 16 := by rw [zA HA]; omega
    have HE2 : Hid (BE = some AF) := by show _ = _; rw [zA HE, if_pos hal]
    have j5 : (U : Int) ≤ 16 := by omega
    clear hg HE HAF
    go_wp2_with fail
    go_ret2
    rw [zA HE2]
    refine ⟨.slice o5 U c5, ?_, fun st' e => ?_, zA HK5⟩
    ·rfl
    ·simp at e
     subst e
     rw [zA HA, hlt]
     exact zA HO5
   ·have bg : (G != 0) = true := by simpa using hg
    have HA : Hid (AF = st.take U ++ [GV]) := by show _ = _; rw [zA HAF, if_pos hg]
    have hal : AF.length = U + 1 := by rw [zA HA, List.length_append, hlt]; rfl
    have HC := zB ((zA HOF) w5 (zA HS5))
    clear hg HAF HOF
    go_wp2_with fail
    refine (zA HC).mono ?_
    rintro e w6 ⟨rfl, hk6⟩
    have HO6 := zB ((zI (zA HO5) hk6 (fun _ _ => id)))
    obtain ⟨HX6, hxb6, hxc6⟩ := boxed w6 #[.int .i64 GV] 149
    have HO7 := zB ((zI (zA HO6) (zA HX6) (fun _ _ => id)))
    have HKN : Hid (KsAt (w6.alloc (.cells #[.int .i64 GV] 149)) (.slice (some ⟨w6.heap.size, 0, none⟩) 1 1) [GV]) := row_new w6 #[.int .i64 GV] 149 1 w6.heap.size rfl
    have hs6 := hk6.size
    have HK7 := zB (((zA HK5).trans hk6).trans (zA HX6))
    clear HC HO5 HK5 hk6 HO6 hxc6
    by_cases h16 : U + 1 ≤ 16
    ·have j6 : (U : Int) + 1 ≤ 16 := by omega
     have HE2 : Hid (BE = some AF) := by show _ = _; rw [zA HE, if_pos (by omega)]
     clear HE
     go_wp2_with (at_builtin; refine wpList_appendK_any rfl _ _ rfl w.heap.size (.slice o5 U c5) U (ks (st.take U)) rfl (zA HO7) (.slice (some ⟨w6.heap.size, 0, none⟩) 1 1) [GV] rfl (zA HKN) (by unfold maxLen; simp; omega) (by simp; omega) (by simp; omega) ?_; intro v8 w8 hown8 hgrow8; obtain ⟨o8, c8, rfl⟩ := (zG hown8).form; have HO8 := zB hown8; have HK8 := zB ((zA HK7).grown hgrow8 (fun q e hq => by have := ((zA HO7).lt q e).1; omega)); clear hown8 hgrow8)
     go_ret2
     rw [zA HE2]
     refine ⟨.slice o8 (U + 1) c8, ?_, fun st' e => ?_, zA HK8⟩
     ·rfl
     ·simp at e
      subst e
      have h8 := zA HO8
      rw [hal, zA HA, ks_append]
      exact h8
    ·have j6 : ¬ (U : Int) + 1 ≤ 16 := by omega
     have HE2 : Hid (BE = none) := by show _ = _; rw [zA HE, if_neg (by omega)]
     clear HE
     go_wp2_with (at_builtin; refine wpList_appendK_any rfl _ _ rfl w.heap.size (.slice o5 U c5) U (ks (st.take U)) rfl (zA HO7) (.slice (some ⟨w6.heap.size, 0, none⟩) 1 1) [GV] rfl (zA HKN) (by unfold maxLen; simp; omega) (by simp; omega) (by simp; omega) ?_; intro v8 w8 hown8 hgrow8; obtain ⟨o8, c8, rfl⟩ := (zG hown8).form; have HO8 := zB hown8; have HK8 := zB ((zA HK7).grown hgrow8 (fun q e hq => by have := ((zA HO7).lt q e).1; omega)); clear hown8 hgrow8)
     go_ret2
     rw [zA HE2]
     refine ⟨.slice o8 (U + 1) c8, ?_, fun st' e => ?_, zA HK8⟩
     ·show Ending.returned (.tuple #[.slice o8 (U + 1) c8, .bool (decide ((U : Int) + 1 ≤ 16))]) = _
      rw [decide_eq_false (by omega)]
      rfl
     ·simp at e
set_option maxHeartbeats 2000000
theorem bring_v (pb o : Nat) (r u : Bool) (va vb : Value) (la lb : List Int) (w : World) (cur : Array Value) (hB : w.heap[pb]? = some (.cells cur 99 (0, 0)))
  (c0 : w.cell? ⟨pb, o, none⟩ = some (.bool r)) (c1 : w.cell? ⟨pb, o + 1, none⟩ = some va) (c2 : w.cell? ⟨pb, o + 2, none⟩ = some (.bool u)) (ha : KsAt w va la) (hb : KsAt w vb lb) (hla : la.length ≤ 16) :
  Calls Tryz.prog 112 #[.pointer (some ⟨pb, o, none⟩), vb] w fun e w' => e = .returned (.tuple #[]) ∧ ∃ n, w' = (((w.drewN n).setCell ⟨pb, o + 2, none⟩ (.bool (u || (r && !decide (la = lb))))).setCell ⟨pb, o, none⟩ (.bool true)).setCell ⟨pb, o + 1, none⟩ vb := by
 obtain ⟨ao, capa, rfl⟩ := Ws.form ha
 obtain ⟨bo, capb, rfl⟩ := Ws.form hb
 have z0 := zF hB o
 have z1 := zF hB (o + 1)
 have z2 := zF hB (o + 2)
 have HQ := zB (equal_v w _ _ la lb ha hb (by omega))
 clear ha hb
 cases u with
 | true =>
  clear HQ
  go_enter Tryz.func112, Tryz.ntmps112
  go_wp2_with fail
  go_end0
  exact ⟨rfl, 0, rfl⟩
 | false =>
  cases r with
  | false =>
   clear HQ
   go_enter Tryz.func112, Tryz.ntmps112
   go_wp2_with fail
   go_end0
   exact ⟨rfl, 0, rfl⟩
  | true =>
   go_enter Tryz.func112, Tryz.ntmps112
   go_wp2_with fail
   refine (zA HQ).mono ?_
   rintro e w2 ⟨rfl, n, rfl⟩
   have y0 : (w.drewN n).frozen? ⟨pb, o, none⟩ = false := zF (w := w.drewN n) (by simpa using hB) o
   have y1 : (w.drewN n).frozen? ⟨pb, o + 1, none⟩ = false := zF (w := w.drewN n) (by simpa using hB) (o + 1)
   have y2 : (w.drewN n).frozen? ⟨pb, o + 2, none⟩ = false := zF (w := w.drewN n) (by simpa using hB) (o + 2)
   clear HQ
   go_wp2_with fail
   go_end0
   exact ⟨rfl, n, by simp⟩
set_option maxHeartbeats 1000000
def endG : Txt → Nat
 | [] => 0
 | c :: r => if c.toNat < 128 then 1 else if endG r = 0 then 0 else endG r + 1
theorem endG_le : ∀ t : Txt, endG t ≤ t.length
 | [] => by simp [endG]
 | c :: r => by
  have := endG_le r
  rw [endG]
  simp only [List.length_cons]
  repeat' split
  all_goals omega
theorem endG_groups : ∀ (v : Nat) (e : Txt), endG (groups v ++ e) = (groups v).length := by
 intro v
 induction v using Nat.strongRecOn with
 | ind v ih =>
  intro e
  by_cases h : v < 128
  ·rw [groups_small h]
   simp only [List.singleton_append, endG, List.length_singleton]
   rw [ofNat_lt (by omega), if_pos h]
  ·rw [groups_big (by omega)]
   simp only [List.cons_append, endG, List.length_cons]
   have hp : 0 < (groups (v / 128)).length := by
    by_cases hg : v / 128 < 128
    ·rw [groups_small hg]; simp
    ·rw [groups_big (by omega)]; simp
   rw [ofNat_lt (by omega), if_neg (by omega), ih (v / 128) (by omega) e, if_neg (by omega)]
theorem decodeP_int (s : Txt) : decodeP intS s = (takeG 0 s 0).bind fun p => if p.2 = [] then some [⟨1, backB p.1, []⟩] else none := by
 have hh : headB intS = 0 := by decide
 have h0 : head0 intS s = 0 := by unfold head0; rw [hh]; simp
 have hd : s.drop 0 = s := rfl
 have ho : opts intS = 0 := by decide
 unfold decodeP
 rw [hh, h0, hd, if_neg (by omega)]
 simp only [intS, decP]
 cases hg : takeG 0 s 0 with
 | none => simp [takeP, takeIntP, hg]
 | some p =>
  obtain ⟨U, r⟩ := p
  cases r <;> simp [takeP, takeIntP, hg]
theorem decV_int (s : Txt) : decodeV intS s = match (takeG 0 s 0).bind (fun p => if p.2 = [] then some ([⟨1, backB p.1, []⟩] : List ValA) else none) with
  | none => ([], 62)
  | some r => (r, 0) := by
 unfold decodeV
 rw [intS_ok, decodeP_int]
 rfl
theorem int_some {t r : Txt} {U : Nat} (h : takeG 0 t 0 = some (U, r)) : decodeV intS (t.take (endG t)) = ([⟨1, backB U, []⟩], 0) ∧ t.drop (endG t) = r ∧ -9223372036854775808 ≤ backB U ∧ backB U ≤ 9223372036854775807 := by
 obtain ⟨v, hv, ht, _, hU⟩ := takeG_sound t 0 0 U r (by omega) (by simp) h
 simp at hv
 subst hv
 subst ht
 rw [endG_groups, List.take_left, List.drop_left, decV_int]
 have := takeG_groups U 0 0 [] (by omega) (by simp; omega) (Or.inl rfl)
 simp at this
 rw [this]
 have h1 := backB_range U hU
 exact ⟨rfl, rfl, h1⟩
theorem int_none {t : Txt} (h : takeG 0 t 0 = none) : decodeV intS (t.take (endG t)) = ([], 62) := by
 rw [decV_int]
 cases hg : takeG 0 (t.take (endG t)) 0 with
 | none => rfl
 | some p =>
  obtain ⟨U, r⟩ := p
  have := takeG_app _ _ _ _ _ (t.drop (endG t)) hg
  rw [List.take_append_drop, h] at this
  cases this
theorem endG_drop {t : Txt} {k : Nat} {c : UInt8} (h : t[k]? = some c) : endG (t.drop k) = if c.toNat < 128 then 1 else if endG (t.drop (k + 1)) = 0 then 0 else endG (t.drop (k + 1)) + 1 := by
 obtain ⟨hk, hx⟩ := List.getElem?_eq_some_iff.1 h
 rw [List.drop_eq_getElem_cons hk, hx, endG]
theorem lastGroup_v (c : UInt8) (w : World) : Calls Tryz.prog 130 #[.int .u8 (num c)] w fun e w' => e = .returned (.bool (decide (num c < 128))) ∧ w' = w := by
 go_enter Tryz.func130, Tryz.ntmps130
 go_wp2
 all_goals (go_ret; refine ⟨ret_bool ?_, rfl⟩; simp_all)
theorem indexFunc_v (t : Txt) (v : Value) (w : World) (h : Wv w v t) (ht : t.length ≤ 4096) :
  Calls Tryz.prog 129 #[v, .func (.func 130) #[] #[]] w fun e w' => e = .returned (.int .i64 ((endG t : Int) - 1)) ∧ w' = w := by
 obtain ⟨ao, cap, rfl⟩ := Ws.form h
 have HV := zB h
 have HL := zB (endG_le t)
 clear h
 go_enter Tryz.func129, Tryz.ntmps129
 go_wp2_with fail
 go_loopw [8] (fun i wr => ∃ k : Nat, k ≤ t.length ∧ i = .int .i64 k ∧ Hid (endG t = if endG (t.drop k) = 0 then 0 else endG (t.drop k) + k) ∧ wr = w) (fun i _ => t.length - (intOf i).toNat)
 case atStart => exact ⟨0, Nat.zero_le _, rfl, by show _ = _; simp, rfl⟩
 case round =>
  obtain ⟨k, hk, rfl, HS, rfl⟩ := hrel
  by_cases hlt : k < t.length
  ·obtain ⟨x, hx⟩ : ∃ x, t[k]? = some x := ⟨_, List.getElem?_eq_getElem hlt⟩
   obtain ⟨b, off, c, e, hbl, hc⟩ := (zA HV).cells (by omega)
   simp at e
   obtain ⟨rfl, rfl⟩ := e
   have c0 := hc k x hx
   have HD := zB (endG_drop hx)
   have HQ := zB (lastGroup_v x wr)
   have i2 : (k : Int) < (t.length : Int) := by omega
   have i0' : (0 : Int) ≤ (k : Int) := by omega
   clear hc hx
   go_wp2_with fail
   refine (zA HQ).mono ?_
   rintro e w2 ⟨rfl, rfl⟩
   by_cases hf : num x < 128
   ·rw [decide_eq_true hf]
    have HE : Hid ((k : Int) = (endG t : Int) - 1) := by
     have h1 := zA HS
     have h2 := zA HD
     rw [if_pos (by unfold num at hf; omega)] at h2
     rw [h2] at h1
     simp at h1
     show _ = _
     omega
    clear hf HQ
    go_wp2_with fail
    go_ret
    exact ⟨ret_int (zA HE), rfl⟩
   ·rw [decide_eq_false hf]
    have HE : Hid (endG t = if endG (t.drop (k + 1)) = 0 then 0 else endG (t.drop (k + 1)) + (k + 1)) := by
     have h1 := zA HS
     have h2 := zA HD
     rw [if_neg (by unfold num at hf; omega)] at h2
     show _ = _
     rw [h1, h2]
     repeat' split
     all_goals omega
    clear hf HQ
    go_wp2_with fail
    go_roundw
    case rel => exact ⟨k + 1, by omega, by go_num, HE, by trivial⟩
    case measure => simp [intOf]; omega
  ·obtain rfl : k = t.length := by omega
   have i2 : ¬ (t.length : Int) < (t.length : Int) := by omega
   have HE : Hid ((-1 : Int) = (endG t : Int) - 1) := by
    have h1 := zA HS
    rw [List.drop_length] at h1
    simp [endG] at h1
    show _ = _
    omega
   clear hlt
   go_wp2_with fail
   go_ret
   exact ⟨ret_int (zA HE), rfl⟩
set_option maxHeartbeats 2000000
def TookI (w' : World) (n : Int) (y : Value) (ok : Bool) (bk : Option Nat) : Option (Int × Txt) → Prop
 | none => ok = false
 | some (m, r) => ok = true ∧ n = m ∧ Wv w' y r ∧ y.ownBlock = bk
def TookS (w' : World) (s : Txt) (y : Value) (ok : Bool) (bk : Option Nat) : Option (Txt × Txt) → Prop
 | none => ok = false
 | some (m, r) => ok = true ∧ s = m ∧ Wv w' y r ∧ y.ownBlock = bk
def byteP : Txt → Option (Int × Txt)
 | [] => none
 | c :: r => some (num c, r)
def intP (t : Txt) : Option (Int × Txt) := (takeG 0 t 0).map fun p => (backB p.1, p.2)
theorem takeByte_v (w : World) (v : Value) (t : Txt) (h : Wv w v t) (ht : t.length ≤ 4096) :
  Calls Tryz.prog 105 #[v] w fun e w' => Wp (fun _ => False) w w' ∧ ∃ n y ok, e = .returned (.tuple #[.int .i64 n, y, .bool ok]) ∧ TookI w' n y ok v.ownBlock (byteP t) := by
 obtain ⟨ao, cap, rfl⟩ := Ws.form h
 have HF := zB h
 cases t with
 | nil =>
  clear h
  go_enter Tryz.func105, Tryz.ntmps105
  go_wp2_with fail
  go_ret3
  exact ⟨Wp.refl _ _, _, _, _, rfl, rfl⟩
 | cons c r =>
  obtain ⟨b, off, cc, e1, hblt, hc⟩ := Ws.cells (zA HF) (by simp)
  simp only [Value.slice.injEq] at e1
  obtain ⟨rfl, _, rfl⟩ := e1
  have c0 := hc 0 (.int .u8 (num c)) rfl
  rw [Nat.add_zero] at c0
  have hcr := num_range c
  have hroom := Ws.room h _ _ _ rfl
  have HRB := zB (rest_bytes (zA HF) (k := 1) (by simp))
  have hlen : ((c :: r).length : Int) = (r.length : Int) + 1 := by simp
  have i1 : (1 : Int) ≤ (cap : Int) := by simp at hroom; omega
  generalize hL : (c :: r).length = L at *
  have HLL := zB hL
  have i2 : (L : Int) ≤ (cap : Int) := by omega
  have i3 : (1 : Int) ≤ (L : Int) := by omega
  clear h hc hlen hroom hL
  go_enter Tryz.func105, Tryz.ntmps105
  go_wp2_with fail
  go_region
  have HAB : Hid ((Value.slice (if cap = 1 then some (⟨b, off, none⟩ : Addr) else some ⟨b, off + 1, none⟩) (L - 1) (cap - 1)).ownBlock = some b) := by show _ = _; split <;> rfl
  generalize (if cap = 1 then some (⟨b, off, none⟩ : Addr) else some ⟨b, off + 1, none⟩) = A at *
  go_wp2_with fail
  go_ret3
  exact ⟨(Wp.refl _ _).drew, _, _, _, rfl, rfl, rfl, (zA HRB).keepF ((Wp.refl _ _).drew), zA HAB⟩
theorem takeText_v (w : World) (v : Value) (t : Txt) (h : Wv w v t) (ht : t.length ≤ 4096) :
  Calls Tryz.prog 104 #[v] w fun e w' => Wp (fun _ => False) w w' ∧ ∃ s y ok, e = .returned (.tuple #[str s, y, .bool ok]) ∧ TookS w' s y ok v.ownBlock (textP t) := by
 have HQ := zB (short_v w v t h (by omega))
 obtain ⟨ao, cap, rfl⟩ := Ws.form h
 generalize textP t = T at *
 generalize t.length = L at *
 clear h
 go_enter Tryz.func104, Tryz.ntmps104
 go_wp2_with fail
 refine (zA HQ).mono ?_
 rintro e w2 ⟨hk, x, y, ok, rfl, hT⟩
 have HK := zB hk
 clear HQ hk
 rcases T with _ | ⟨p, r⟩
 ·obtain ⟨rfl, rfl, rfl⟩ := hT
  have hconv : (convert 42 9 (.slice none 0 0)).run Tryz.prog w2 = .ok (str []) w2 := by rfl
  go_wp2_with fail
  go_ret3
  exact ⟨zA HK, [], _, _, rfl, rfl⟩
 ·obtain ⟨rfl, ⟨b, off, c, rfl, _⟩, ⟨b2, off2, c2, rfl, hbk⟩, hp, hr⟩ := hT
  have HR := zB hr
  have HBK := zB hbk
  have hconv := conv_row hp
  clear hp hr hbk
  generalize p.length = PL at *
  generalize r.length = RL at *
  go_wp2_with fail
  go_ret3
  exact ⟨zA HK, p, _, _, rfl, rfl, rfl, zA HR, zA HBK⟩
theorem codeInt_v (w : World) (b off cap : Nat) (t : Txt) (hT : Types w) (h : Wv w (.slice (some ⟨b, off, none⟩) t.length cap) t) (ht : t.length ≤ 4096) :
  Calls Tryz.prog 103 #[.slice (some ⟨b, off, none⟩) t.length cap] w fun e w' => Wp (fun _ => False) w w' ∧ ∃ n y ok, e = .returned (.tuple #[.int .i64 n, y, .bool ok]) ∧ TookI w' n y ok (some b) (intP t) := by
 have HF := zB h
 have HT := zB hT
 have hroom := Ws.room h _ _ _ rfl
 have HQ := zB (indexFunc_v t _ w h ht)
 have hle := endG_le t
 have HRB := zB (rest_bytes h (k := endG t) hle)
 have HFB := zB (first_bytes h (n := endG t) hle)
 have HI : Hid (intP t = (takeG 0 t 0).map fun p => (backB p.1, p.2)) := rfl
 have HN : Hid (takeG 0 t 0 = none → decodeV intS (t.take (endG t)) = ([], 62)) := int_none
 have HS : Hid (∀ U r, takeG 0 t 0 = some (U, r) → decodeV intS (t.take (endG t)) = ([⟨1, backB U, []⟩], 0) ∧ t.drop (endG t) = r ∧ -9223372036854775808 ≤ backB U ∧ backB U ≤ 9223372036854775807) := fun U r => int_some
 have HTL : Hid ((t.take (endG t)).length = endG t) := by show _ = _; rw [List.length_take]; omega
 clear h hT
 generalize endG t = E at *
 have i1 : (E : Int) ≤ (cap : Int) := by omega
 have i2 : (E : Int) ≤ (t.length : Int) := by omega
 have i3 : (t.length : Int) ≤ (cap : Int) := by omega
 have i4 : (0 : Int) ≤ (E : Int) := by omega
 go_enter Tryz.func103, Tryz.ntmps103
 go_wp2_with fail
 refine (zA HQ).mono ?_
 rintro e w2 ⟨rfl, rfl⟩
 have HSC := fun w3 => zB (intSchema_v w3)
 go_wp2_with fail
 rw [show (1 : Int) + ((E : Int) - 1) = (E : Int) by omega]
 go_region_with (first
  | (go_at_call 132; refine (zA (HSC _)).mono ?_; rintro e w4 ⟨sv, rfl, hsf, hk4⟩)
  | (go_at_call 131; refine (val_decode intS sv (t.take E) (.slice (some ⟨b, off, none⟩) E cap) w4 (((zA HT).keepF (Wp.refl _ w2).drew).keepF hk4) hsf (by have h := ((zA HFB).keepF (Wp.refl _ w2).drew).keepF hk4; exact h) (by have := zA HTL; omega) (Or.inr ⟨b, off, cap, by rw [zA HTL]⟩)).mono ?_; rintro e w5 ⟨r5, rfl, ho5, hk5⟩))
 have HK5 := zB (((Wp.refl (fun _ => False) w2).drew.trans hk4).trans hk5)
 have HW5 := zB ho5
 clear HQ HSC hsf hk4 ho5 hk5
 cases hg : takeG 0 t 0 with
 | none =>
  have hd := (zA HN) hg
  have he := zA HI
  rw [hg] at he
  simp only [Option.map_none] at he
  rw [hd] at HW5 ⊢
  have HE0 := zB he
  simp only at HW5 ⊢
  clear hg hd he HI HN HS
  go_wp2_with fail
  go_ret3
  rw [zA HE0]
  exact ⟨zA HK5, _, _, _, rfl, rfl⟩
 | some p =>
  obtain ⟨U, r⟩ := p
  obtain ⟨hd, hr, hu0, hu1⟩ := (zA HS) U r hg
  have he := zA HI
  rw [hg] at he
  simp only [Option.map_some] at he
  rw [hd] at HW5 ⊢
  have HE0 := zB he
  simp only at HW5 ⊢
  rw [hr] at HRB
  clear hg hd he hr HI HN HS
  obtain ⟨g5, cap5, rfl, hg51, hg52⟩ := (zA HW5).form (by simp)
  obtain ⟨b6, off6, cap6, e6, _, hc6⟩ := (zG (zA HW5)).cells (by simp)
  simp at e6
  obtain ⟨⟨rfl, rfl⟩, rfl⟩ := e6
  have q1 := hc6 1 (.int .i64 (backB U)) rfl
  rw [Nat.zero_add] at q1
  have HRB5 := zB ((zA HRB).keepF (zA HK5))
  clear hc6 HRB
  simp only [List.length_singleton]
  generalize backB U = n at *
  go_wp2_with fail
  go_region
  have HAB : Hid ((Value.slice (if cap = E then some (⟨b, off, none⟩ : Addr) else some ⟨b, off + E, none⟩) (t.length - E) (cap - E)).ownBlock = some b) := by show _ = _; split <;> rfl
  generalize (if cap = E then some (⟨b, off, none⟩ : Addr) else some ⟨b, off + E, none⟩) = A at *
  go_wp2_with fail
  go_ret3
  rw [zA HE0]
  exact ⟨(zA HK5).drew, _, _, _, rfl, rfl, rfl, (zA HRB5).keepF (Wp.refl _ _).drew, zA HAB⟩
end Go.Proofs.YtbdlcaamanhapaaGreatDoor
