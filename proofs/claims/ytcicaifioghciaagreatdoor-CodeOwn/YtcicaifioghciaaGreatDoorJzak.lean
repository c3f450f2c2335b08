import Derived.Test.YtcicaifioghciaaGreatDoorJzai
import Derived.Maps.AppendAt
import Derived.Test.YtcicaifioghciaaGreatDoorJzaj
import Derived.Test.YtcicaifioghciaaGreatDoorJzad
import Derived.Test.YtcicaifioghciaaGreatDoorJzaf
namespace Go.Proofs.YtcicaifioghciaaGreatDoor
open Go.RowKit Go.Maps

/-- Are all forms right, and the bytes few enough? -/
def rightsB (l : List ValA) : Bool := decide (firstE l = 0) && decide ((bytesC l).length ≤ 96)
theorem rightsB_of {l : List ValA} (h : rightsB l = true) : firstE l = 0 ∧ (bytesC l).length ≤ 96 ∧ encC l = (bytesC l, 0) ∧ l.length ≤ 96 := by
  unfold rightsB at h
  simp at h
  have := bytesC_len l
  exact ⟨h.1, h.2, encC_of h.1 h.2, by omega⟩
theorem firstE_append {a b : List ValA} (ha : firstE a = 0) (hb : firstE b = 0) : firstE (a ++ b) = 0 :=
  firstE_of fun i hi => by
    rcases List.mem_append.1 hi with h | h
    · exact firstE_zero ha i h
    · exact firstE_zero hb i h
theorem encC_join {a b : List ValA} (ha : firstE a = 0) (hb : firstE b = 0) : encC (a ++ b) = if 96 < (bytesC a).length + (bytesC b).length then ([], 110) else (bytesC a ++ bytesC b, 0) := by
  have e := bytesC_append a b
  by_cases h : 96 < (bytesC a).length + (bytesC b).length
  · rw [if_pos h]
    by_cases h2 : 96 < (a ++ b).length
    · exact encC_long h2
    · exact encC_big (by omega) (firstE_append ha hb) (by rw [e, List.length_append]; exact h)
  · rw [if_neg h, encC_of (firstE_append ha hb) (by rw [e, List.length_append]; omega), e]
theorem InR_append {a b : List ValA} (ha : InR a) (hb : InR b) : InR (a ++ b) := fun x hx => by
  rcases List.mem_append.1 hx with h | h
  · exact ha x h
  · exact hb x h

end Go.Proofs.YtcicaifioghciaaGreatDoor
namespace Go.Proofs.YtcicaifioghciaaGreatDoor
open Go.RowKit Go.Maps

set_option maxRecDepth 100000 in
theorem run_append_none (w : World) (ty : TypeId) (ao : Option Addr) (n c xc : Nat) (hnc : n ≤ c) : (Builtin.append_ #[29, 29] ty #[.slice ao n c, .slice none 0 xc]).run Tryz.prog w = .ok (.slice ao n c) w := by
  obtain ⟨i0, hi, hz0, hz1, hz2⟩ := info_parts Tryz.info5
  cases ao <;> simp [Builtin.append_, Builtin.lenOf, Builtin.firstCells, storeCells, go_sem, sizeOf, typeInfo, hi, hnc]
theorem grownBy_refl (w : World) (row : Option Nat) : w.grownBy w row := ⟨rfl, rfl, rfl, Nat.le_refl _, fun _ _ _ => rfl⟩
/-- Bytes appended to bytes of one's own, however many. -/
theorem run_append_any (w : World) (ty : TypeId) (base : Nat) (v : Value) (n : Nat) (xs : List Value) (hown : w.ownsRow base 5 1 v n xs) (u : Value) (G : Txt) (hu : BytesAt w u G) (h63 : n + G.length ≤ maxLen) (hbytes : n + G.length ≤ 140737488355328) (hbase : base ≤ w.heap.size) :
    ∃ v' w', (Builtin.append_ #[29, 29] ty #[v, u]).run Tryz.prog w = .ok v' w' ∧ w'.ownsRow base 5 1 v' (n + G.length) (xs ++ bs G) ∧ w.grownBy w' v.ownBlock := by
  obtain ⟨i0, hi, hz0, hz1, hz2⟩ := info_parts Tryz.info5
  obtain ⟨uo, uc, rfl⟩ := RowAt.form hu
  cases uo with
  | none =>
    have h0 : G.length = 0 := by
      rcases Nat.eq_zero_or_pos G.length with h | h
      · exact h
      · obtain ⟨b, off, cap, e, _⟩ := RowAt.cells hu h
        simp at e
    have hG : G = [] := List.eq_nil_of_length_eq_zero h0
    subst hG
    obtain ⟨ao, c, rfl⟩ := (rowAt_own hown).form
    have hnc := (rowAt_own hown).room _ _ _ rfl
    exact ⟨_, w, run_append_none w ty ao n c uc hnc, by simpa [bs] using hown, grownBy_refl _ _⟩
  | some ad =>
    obtain ⟨v', w', hr, h2, h3, _⟩ := run_append_own_at (P := Tryz.prog) w base 29 ty 5 i0 _ 1 1 Tryz.underlying29 hi hz0 hz1 hz2 rfl (by omega) v n xs hown ad G.length uc (bs G) (by rw [bs_length]; omega) (fun j x hx => by
      have h0 : 0 < G.length := by
        have := (List.getElem?_eq_some_iff.1 hx).1
        rw [bs_length] at this
        omega
      obtain ⟨b, off, cap, e, _, hc⟩ := RowAt.cells hu h0
      simp at e
      obtain ⟨rfl, rfl⟩ := e
      have := hc j x hx
      rw [show (⟨b, off, none⟩ : Addr).add j = ⟨b, off + j, none⟩ by simp only [Addr.add_lit]]
      exact this) (bs_one G) h63 (by omega) hbase
    exact ⟨v', w', hr, h2, h3⟩
theorem wpList_append_any {w : World} {ops : Array Oper} {rest : List Oper} {o : Oper} {a : Act} {Q : Exit → Act → World → Prop} (hgd : o.guard = none) (s x : Operand)
    (ho : o.op = .call { callee := .builtin .append, args := #[s, x], argTypes := #[29, 29] }) (base : Nat) (v : Value) (n : Nat) (xs : List Value) (hs : a.eval s = v) (hown : w.ownsRow base 5 1 v n xs)
    (u : Value) (G : Txt) (hx : a.eval x = u) (hu : BytesAt w u G) (h63 : n + G.length ≤ maxLen) (hbytes : n + G.length ≤ 140737488355328) (hbase : base ≤ w.heap.size)
    (h : ∀ v' w', w'.ownsRow base 5 1 v' (n + G.length) (xs ++ bs G) → w.grownBy w' v.ownBlock → wpList Tryz.prog ops Q rest (a.put o.dst v') w') : wpList Tryz.prog ops Q (o :: rest) a w :=
  wpList_plain hgd fun _ hK => by
    obtain ⟨v', w', hr, h2, h3⟩ := run_append_any w o.type base v n xs hown u G hu h63 hbytes hbase
    unfold Oper.wp execOp
    simp only [ho, resolve, invoke, builtin, Sem.run_bind, Sem.run_pure, Result.andThen_ok, List.map_toArray, List.map_cons, List.map_nil, hs, hx, hr]
    exact hK _ _ (h v' w' h2 h3)

end Go.Proofs.YtcicaifioghciaaGreatDoor
namespace Go.Proofs.YtcicaifioghciaaGreatDoor
open Go.RowKit Go.Maps

theorem Tryz.info70 : (Tryz.prog.info? 70).map (fun i => (i.zero, i.size, i.bytes)) = some (some (.int .i64 0), 1, 8) := by kernel_rfl
theorem ks_one (G : List Int) : ∀ u ∈ ks G, u.oneCell' = true := by
  intro u hu
  unfold ks at hu
  obtain ⟨k, _, rfl⟩ := List.mem_map.1 hu
  rfl
theorem ks_append (a b : List Int) : ks (a ++ b) = ks a ++ ks b := by simp [ks]
set_option maxRecDepth 100000 in
theorem run_appendK_none (w : World) (ty : TypeId) (ao : Option Addr) (n c xc : Nat) (hnc : n ≤ c) : (Builtin.append_ #[79, 79] ty #[.slice ao n c, .slice none 0 xc]).run Tryz.prog w = .ok (.slice ao n c) w := by
  obtain ⟨i0, hi, hz0, hz1, hz2⟩ := info_parts Tryz.info70
  cases ao <;> simp [Builtin.append_, Builtin.lenOf, Builtin.firstCells, storeCells, go_sem, sizeOf, typeInfo, hi, hnc]
/-- Kinds appended to kinds of one's own, however many. -/
theorem run_appendK_any (w : World) (ty : TypeId) (base : Nat) (v : Value) (n : Nat) (xs : List Value) (hown : w.ownsRow base 70 1 v n xs) (u : Value) (G : List Int) (hu : KsAt w u G) (h63 : n + G.length ≤ maxLen) (hbytes : n + G.length ≤ 17592186044416) (hbase : base ≤ w.heap.size) :
    ∃ v' w', (Builtin.append_ #[79, 79] ty #[v, u]).run Tryz.prog w = .ok v' w' ∧ w'.ownsRow base 70 1 v' (n + G.length) (xs ++ ks G) ∧ w.grownBy w' v.ownBlock := by
  obtain ⟨i0, hi, hz0, hz1, hz2⟩ := info_parts Tryz.info70
  obtain ⟨uo, uc, rfl⟩ := RowAt.form hu
  cases uo with
  | none =>
    have h0 : G.length = 0 := by
      rcases Nat.eq_zero_or_pos G.length with h | h
      · exact h
      · obtain ⟨b, off, cap, e, _⟩ := RowAt.cells hu h
        simp at e
    have hG : G = [] := List.eq_nil_of_length_eq_zero h0
    subst hG
    obtain ⟨ao, c, rfl⟩ := (rowAt_own hown).form
    have hnc := (rowAt_own hown).room _ _ _ rfl
    exact ⟨_, w, run_appendK_none w ty ao n c uc hnc, by simpa [ks] using hown, grownBy_refl _ _⟩
  | some ad =>
    obtain ⟨v', w', hr, h2, h3, _⟩ := run_append_own_at (P := Tryz.prog) w base 79 ty 70 i0 _ 1 8 Tryz.underlying79 hi hz0 hz1 hz2 rfl (by omega) v n xs hown ad G.length uc (ks G) (by rw [ks_length]; omega) (fun j x hx => by
      have h0 : 0 < G.length := by
        have := (List.getElem?_eq_some_iff.1 hx).1
        rw [ks_length] at this
        omega
      obtain ⟨b, off, cap, e, _, hc⟩ := RowAt.cells hu h0
      simp at e
      obtain ⟨rfl, rfl⟩ := e
      have := hc j x hx
      rw [show (⟨b, off, none⟩ : Addr).add j = ⟨b, off + j, none⟩ by simp only [Addr.add_lit]]
      exact this) (ks_one G) h63 (by omega) hbase
    exact ⟨v', w', hr, h2, h3⟩
theorem wpList_appendK_any {w : World} {ops : Array Oper} {rest : List Oper} {o : Oper} {a : Act} {Q : Exit → Act → World → Prop} (hgd : o.guard = none) (s x : Operand)
    (ho : o.op = .call { callee := .builtin .append, args := #[s, x], argTypes := #[79, 79] }) (base : Nat) (v : Value) (n : Nat) (xs : List Value) (hs : a.eval s = v) (hown : w.ownsRow base 70 1 v n xs)
    (u : Value) (G : List Int) (hx : a.eval x = u) (hu : KsAt w u G) (h63 : n + G.length ≤ maxLen) (hbytes : n + G.length ≤ 17592186044416) (hbase : base ≤ w.heap.size)
    (h : ∀ v' w', w'.ownsRow base 70 1 v' (n + G.length) (xs ++ ks G) → w.grownBy w' v.ownBlock → wpList Tryz.prog ops Q rest (a.put o.dst v') w') : wpList Tryz.prog ops Q (o :: rest) a w :=
  wpList_plain hgd fun _ hK => by
    obtain ⟨v', w', hr, h2, h3⟩ := run_appendK_any w o.type base v n xs hown u G hu h63 hbytes hbase
    unfold Oper.wp execOp
    simp only [ho, resolve, invoke, builtin, Sem.run_bind, Sem.run_pure, Result.andThen_ok, List.map_toArray, List.map_cons, List.map_nil, hs, hx, hr]
    exact hK _ _ (h v' w' h2 h3)

set_option maxRecDepth 100000 in
theorem eql_nil (W : World) (a : Option Addr) (l c : Nat) : (binOp .eql 79 (.slice a l c) (.slice none 0 0)).run Tryz.prog W = .ok (.bool a.isNone) W := by
  simp only [binOp]
  simp [run_equal_slice_nil W 79 70 a l c Tryz.underlying79]
theorem owns_empty (w : World) (t : TypeId) : (w.alloc (.cells #[] t)).ownsRow w.heap.size t 1 (.slice (some ⟨w.heap.size, 0, none⟩) 0 0) 0 [] :=
  ⟨rfl, Or.inr ⟨w.heap.size, 0, #[], rfl, Nat.le_refl _, heap_alloc_new w (.cells #[] t), Nat.le_refl _, Nat.zero_le _, rfl, rfl⟩⟩

set_option maxRecDepth 100000 in
set_option maxHeartbeats 1000000 in
theorem clone_v (l : List Int) (v : Value) (w : World) (h : KsAt w v l) (hl : l.length ≤ 16) :
    Calls Tryz.prog 102 #[v] w fun e w' => ∃ v', e = .returned v' ∧ w'.ownsRow w.heap.size 70 1 v' l.length (ks l) ∧ Keeps (fun _ => False) w w' := by
  obtain ⟨ao, cap, rfl⟩ := RowAt.form h
  cases ao with
  | none =>
    have h0 : l.length = 0 := by
      rcases Nat.eq_zero_or_pos l.length with h' | h'
      · exact h'
      · obtain ⟨b, off, c, e, _⟩ := RowAt.cells h h'
        simp at e
    obtain rfl := List.eq_nil_of_length_eq_zero h0
    have hnone : ∀ W : World, (binOp .eql 79 (.slice none 0 cap) (.slice none 0 0)).run Tryz.prog W = .ok (.bool true) W := fun W => eql_nil W none 0 cap
    clear h
    go_enter Tryz.func102, Tryz.ntmps102
    go_wp2_with fail
    go_ret
    exact ⟨_, rfl, World.ownsRow_nil _ w.heap.size 70 1, Keeps.refl _ _⟩
  | some ad =>
    obtain ⟨HX, hxb, hxc⟩ := boxed w #[] 70
    have HV := hide (h.keepF (unhide HX))
    have HE := hide (owns_empty w 70)
    have hsome : ∀ W : World, (binOp .eql 79 (.slice (some ad) l.length cap) (.slice none 0 0)).run Tryz.prog W = .ok (.bool false) W := fun W => eql_nil W (some ad) l.length cap
    clear hxc h
    go_enter Tryz.func102, Tryz.ntmps102
    go_wp2_with (at_builtin; refine wpList_appendK_any rfl _ _ rfl w.heap.size (.slice (some ⟨w.heap.size, 0, none⟩) 0 0) 0 [] rfl (unhide HE) (.slice (some ad) l.length cap) l rfl (unhide HV) (by unfold maxLen; omega) (by omega) (by simp) ?_; intro v2 w2 hown2 hgrow2)
    go_ret
    refine ⟨_, rfl, by simpa using hown2, (unhide HX).grown hgrow2 ?_⟩
    intro k e hk
    simp only [Value.ownBlock, Option.some.injEq] at e
    omega

end Go.Proofs.YtcicaifioghciaaGreatDoor
namespace Go.Proofs.YtcicaifioghciaaGreatDoor
open Go.RowKit Go.Maps

set_option maxRecDepth 100000 in
theorem slice_from (g n cap U : Nat) (h1 : U ≤ n) (W : World) : (Instr.sliceAt 79 (.slice (some ⟨g, 0, none⟩) n cap) (some (.int .i64 (U : Int))) none none).run Tryz.prog W = .ok (.slice (if cap = U then some ⟨g, 0, none⟩ else some ⟨g, 0 + U, none⟩) (n - U) (cap - U)) W := by
  have j1 : (U : Int) ≤ (n : Int) := by omega
  have j0 : (0 : Int) ≤ (U : Int) := by omega
  simp [go_sem, j1, j0]
set_option maxRecDepth 100000 in
theorem slice_to (g n cap U : Nat) (h1 : U ≤ n) (h2 : n ≤ cap) (W : World) : (Instr.sliceAt 79 (.slice (some ⟨g, 0, none⟩) n cap) none (some (.int .i64 (U : Int))) none).run Tryz.prog W = .ok (.slice (some ⟨g, 0, none⟩) U cap) W := by
  have j1 : (U : Int) ≤ (cap : Int) := by omega
  have j0 : (0 : Int) ≤ (U : Int) := by omega
  simp [go_sem, j1, j0]
set_option maxRecDepth 100000 in
theorem slice_from_nil (W : World) : (Instr.sliceAt 79 (.slice none 0 0) (some (.int .i64 0)) none none).run Tryz.prog W = .ok (.slice none 0 0) W := by
  simp [go_sem]
set_option maxRecDepth 100000 in
theorem slice_to_nil (W : World) : (Instr.sliceAt 79 (.slice none 0 0) none (some (.int .i64 0)) none).run Tryz.prog W = .ok (.slice none 0 0) W := by
  simp [go_sem]

theorem slices_of {w : World} {ao : Option Addr} {cap U : Nat} {st : List Int} (h : w.ownsRow 0 70 1 (.slice ao st.length cap) st.length (ks st)) (hU : U ≤ st.length) :
    ∃ vr vt, (∀ W' : World, (Instr.sliceAt 79 (.slice ao st.length cap) (some (.int .i64 (U : Int))) none none).run Tryz.prog W' = .ok vr W') ∧ KsAt w vr (st.drop U) ∧ (∀ W' : World, (Instr.sliceAt 79 (.slice ao st.length cap) none (some (.int .i64 (U : Int))) none).run Tryz.prog W' = .ok vt W') ∧ KsAt w vt (st.take U) := by
  have hcap := (rowAt_own h).room _ _ _ rfl
  rcases h.2 with ⟨e, h0⟩ | ⟨g, c, cur, e, _, _, hnc, _, _, _⟩
  · simp only [Value.slice.injEq] at e
    obtain ⟨rfl, _, rfl⟩ := e
    obtain rfl := List.eq_nil_of_length_eq_zero h0
    obtain rfl : U = 0 := by simpa using hU
    exact ⟨_, _, slice_from_nil, rowAt_own (World.ownsRow_nil _ 0 70 1), slice_to_nil, rowAt_own (World.ownsRow_nil _ 0 70 1)⟩
  · simp only [Value.slice.injEq] at e
    obtain ⟨rfl, _, rfl⟩ := e
    refine ⟨_, _, slice_from g _ _ U hU, ?_, slice_to g _ _ U hU hcap, ?_⟩
    · have h3 := rest_row (rowAt_own h) hU (ks_length st)
      unfold KsAt
      rw [List.length_drop]
      have e : ks (st.drop U) = (ks st).drop U := by simp [ks]
      rw [e]
      exact h3
    · unfold KsAt
      have hl : (st.take U).length = U := by rw [List.length_take]; omega
      rw [hl]
      have e : ks st = ks (st.take U) ++ ks (st.drop U) := by rw [← ks_append, List.take_append_drop]
      have h3 := rowAt_own h
      rw [e] at h3
      exact RowAt.first h3 hU
/-- What an operation takes and gives. -/
theorem op_small : ∀ o ∈ ([1, 2, 3, 4, 5, 6, 7, 8, 9, 10, 11, 12, 13, 14, 15, 16, 17, 18, 19, 20, 21, 22, 23, 24, 25, 26] : List Int), (opA o).takes ≤ 2 := by decide
theorem behB_short {S : List FieldA} {i : ValA} {st : List Int} (h : st.length < (opA i.kind).takes) : behB S i st = none := by unfold behB; rw [if_pos h]
theorem behB_wrong {S : List FieldA} {i : ValA} {st : List Int} (h : (opA i.kind).takes ≤ st.length) (h2 : takesB S i (st.drop (st.length - (opA i.kind).takes)) = false) : behB S i st = none := by unfold behB; rw [if_neg (by omega), if_pos h2]
theorem behB_right {S : List FieldA} {i : ValA} {st : List Int} (h : (opA i.kind).takes ≤ st.length) (h2 : takesB S i (st.drop (st.length - (opA i.kind).takes)) = true) : behB S i st = if (afterB S i st).length ≤ 16 then some (afterB S i st) else none := by unfold behB; rw [if_neg (by omega), if_neg (by simp [h2])]

set_option maxRecDepth 100000 in
set_option maxHeartbeats 4000000 in
theorem behind_v (S : List FieldA) (so : Option Addr) (sc : Nat) (i : ValA) (st : List Int) (v : Value) (w : World) (hO : Ops w) (hS : FldsAt w (.slice so S.length sc) S) (hf : formB i = 0) (hr : rightF S i = true) (h : w.ownsRow 0 70 1 v st.length (ks st)) (hl : st.length ≤ 16) :
    Calls Tryz.prog 79 #[.agg #[.slice so S.length sc], i.v, v] w fun e w' => ∃ v', e = .returned (.tuple #[v', .bool (behB S i st).isSome]) ∧ (∀ st', behB S i st = some st' → w'.ownsRow w.heap.size 70 1 v' st'.length (ks st')) ∧ Keeps (fun _ => False) w w' := by
  obtain ⟨ao, cap, rfl⟩ := (rowAt_own h).form
  have hcap := (rowAt_own h).room _ _ _ rfl
  have ho := (formB_zero hf).1
  obtain ⟨h1, h2⟩ := opdB_range ho
  have htk := op_small _ (op_cases ho)
  have hng := fun h4 : (opA i.kind).gives = 4 => names_ok hf hr (Or.inr h4)
  have HTT := hide (fun (l : List Int) (v' : Value) (w' : World) (a : Ops w') (b : FldsAt w' (.slice so S.length sc) S) (c : KsAt w' v' l) (d : l.length ≤ 16) => takesThese_v S so sc i l v' w' a b hf hr c d)
  have HOF := hide (fun (w' : World) (b : FldsAt w' (.slice so S.length sc) S) => ofField_v S so sc i (opA i.kind).gives w' b hng)
  have HB1 := hide (fun h => behB_short (S := S) (i := i) (st := st) h)
  have HB2 := hide (fun h h2 => behB_wrong (S := S) (i := i) (st := st) h h2)
  have HB3 := hide (fun h h2 => behB_right (S := S) (i := i) (st := st) h h2)
  have HAF : Hid (afterB S i st = st.take (st.length - (opA i.kind).takes) ++ (if (opA i.kind).gives ≠ 0 then [ofF S i (opA i.kind).gives] else [])) := rfl
  generalize afterB S i st = AF at *
  generalize behB S i st = BE at *
  generalize hTB : takesB S i = TB at *
  generalize ofF S i (opA i.kind).gives = GV at *
  obtain ⟨kd, n, s⟩ := i
  unfold ValA.v at *
  simp only at *
  obtain ⟨m, rfl⟩ := Int.eq_ofNat_of_zero_le (show 0 ≤ kd by omega)
  obtain ⟨HX, hxb, hxc⟩ := boxed w #[.slice so S.length sc] 24
  obtain ⟨HY, hyb, hyc⟩ := boxed (w.alloc (.cells #[.slice so S.length sc] 24)) #[.int .i64 (m : Int), .int .i64 n, str s] 51
  have x0 := ((unhide HY).cell hxb id).trans (hxc 0 (.slice so S.length sc) rfl)
  have y0 := hyc 0 (.int .i64 (m : Int)) rfl
  have y1 := hyc 1 (.int .i64 n) rfl
  have y2 := hyc 2 (str s) rfl
  rw [World.size_alloc] at y0 y1 y2
  have HK := hide ((unhide HX).trans (unhide HY))
  have hz0 := Nat.lt_of_lt_of_le hxb (unhide HY).size
  have hz1 : w.heap.size + 1 < ((w.alloc (.cells #[.slice so S.length sc] 24)).alloc (.cells #[.int .i64 (m : Int), .int .i64 n, str s] 51)).heap.size := by simp
  have hzs : ((w.alloc (.cells #[.slice so S.length sc] 24)).alloc (.cells #[.int .i64 (m : Int), .int .i64 n, str s] 51)).heap.size = w.heap.size + 2 := by simp
  obtain ⟨g1, g2, g3, g4, g0⟩ := (hO.keepF (unhide HK)).at (m := m) (by omega)
  generalize hW : ((w.alloc (.cells #[.slice so S.length sc] 24)).alloc (.cells #[.int .i64 (m : Int), .int .i64 n, str s] 51)) = W at *
  generalize (opA (m : Int)).opd = D1 at *
  generalize hTK : (opA (m : Int)).takes = T at *
  generalize (opA (m : Int)).of = D3 at *
  generalize hG : (opA (m : Int)).gives = G at *
  generalize (opA (m : Int)).word = D0 at *
  obtain ⟨HZ, hzb, hzc⟩ := boxed W #[str D0, .int .i64 D1, .int .i64 (T : Int), .int .i64 D3, .int .i64 G] 72
  have u2 := hzc 2 (.int .i64 (T : Int)) rfl
  have u4 := hzc 4 (.int .i64 G) rfl
  rw [hzs] at u2 u4
  have i0 : (0 : Int) ≤ (m : Int) := by omega
  have i1 : (m : Int) < 27 := by omega
  have x0' := ((unhide HZ).cell (o := 0) hz0 id).trans x0
  have y0' := ((unhide HZ).cell (o := 0) hz1 id).trans y0
  have y1' := ((unhide HZ).cell (o := 1) hz1 id).trans y1
  have y2' := ((unhide HZ).cell (o := 2) hz1 id).trans y2
  have HKZ := hide ((unhide HK).trans (unhide HZ))
  have HO := hide (hO.keepF (unhide HKZ))
  have HS := hide (hS.keepF (unhide HKZ))
  have HST := hide (ownsRow_kept h (unhide HKZ) (fun _ _ => id))
  have hw0 := Nat.lt_of_lt_of_le hz0 (unhide HZ).size
  have hw1 := Nat.lt_of_lt_of_le hz1 (unhide HZ).size
  have hw2 : w.heap.size + 2 < (W.alloc (.cells #[str D0, .int .i64 D1, .int .i64 (T : Int), .int .i64 D3, .int .i64 G] 72)).heap.size := by rw [World.size_alloc]; omega
  generalize hZ : W.alloc (.cells #[str D0, .int .i64 D1, .int .i64 (T : Int), .int .i64 D3, .int .i64 G] 72) = Z at *
  clear hxc hyc hzc hO hS h HX HY ho h1 h2 hxb hyb hng hf hr hTK hG
  go_enter Tryz.func79, Tryz.ntmps79
  by_cases hsh : st.length < T
  · have HE := hide ((unhide HB1) hsh)
    have j1 : ((st.length : Int) - (T : Int)) < 0 := by omega
    go_wp2_with fail
    go_region
    go_wp2_with fail
    go_ret2
    rw [unhide HE]
    exact ⟨_, rfl, fun st' e => by simp at e, (unhide HKZ).trans (Keeps.refl _ Z).drew⟩
  · obtain ⟨U, hU⟩ : ∃ U, U + T = st.length := ⟨st.length - T, by omega⟩
    have hUT : (st.length : Int) - (T : Int) = (U : Int) := by omega
    have j1 : ¬ (U : Int) < 0 := by omega
    have j2 : (0 : Int) ≤ (U : Int) := by omega
    have j3 : (U : Int) ≤ (st.length : Int) := by omega
    have j4 : (st.length : Int) ≤ (cap : Int) := by omega
    have hUl : st.length - T = U := by omega
    rw [hUl] at HB2 HB3 HAF
    obtain ⟨vr, vt, hvr, hvr', hvt, hvt'⟩ := slices_of (U := U) (unhide HST) (by omega)
    have HVR := hide (hvr'.keepF (Keeps.refl _ Z).drew)
    have HVT := hide (hvt'.keepF (Keeps.refl _ Z).drew)
    clear hvr' hvt'
    have HOD := hide ((unhide HO).keepF (Keeps.refl _ Z).drew)
    have HSD := hide ((unhide HS).keepF (Keeps.refl _ Z).drew)
    have HQ := hide ((unhide HTT) (st.drop U) vr Z.drew (unhide HOD) (unhide HSD) (unhide HVR) (by rw [List.length_drop]; omega))
    generalize hB : TB (st.drop U) = B at *
    go_wp2_with fail
    go_region_held3 (fun w' => w'.cell? ⟨w.heap.size, 0, none⟩ = some (.slice so S.length sc) ∧ w'.cell? ⟨w.heap.size + 1, 0, none⟩ = some (.int .i64 (m : Int)) ∧ w'.cell? ⟨w.heap.size + 1, 1, none⟩ = some (.int .i64 n) ∧ w'.cell? ⟨w.heap.size + 1, 2, none⟩ = some (str s))
      (go_keep)
      (first
        | (go_at_call 101
           refine (unhide HQ).mono ?_
           rintro e w2 ⟨rfl, hk2⟩
           have q0 := (hk2.cell (o := 0) hw0 id).trans x0'
           have q1 := (hk2.cell (o := 0) hw1 id).trans y0'
           have q2 := (hk2.cell (o := 1) hw1 id).trans y1'
           have q3 := (hk2.cell (o := 2) hw1 id).trans y2'))
    have k4 := (hk2.cell (o := 4) hw2 id).trans u4
    have HKD := hide (((unhide HKZ).trans (Keeps.refl _ Z).drew).trans hk2)
    have HVT2 := hide ((unhide HVT).keepF hk2)
    have HS2 := hide ((unhide HSD).keepF hk2)
    have hs2 : w.heap.size + 2 < w2.heap.size := Nat.lt_of_lt_of_le hw2 hk2.size
    clear HVT HVR HTT HO HS HOD HSD HQ hk2 x0 y0 y1 y2 g0 g1 g2 g3 g4 x0' y0' y1' y2' u2 u4 HK HZ hz0 hz1 hzb HST HKZ hzs hw0 hw1 hw2 hW hZ HB1
    cases B with
    | false =>
      have HE := hide ((unhide HB2) (by omega) rfl)
      clear HB2 HB3 HAF
      have hd : decide ((U : Int) < 0) = false := decide_eq_false (by omega)
      simp only [hd, Bool.not_false, Bool.or_true]
      go_wp2_with fail
      go_ret2
      rw [unhide HE]
      exact ⟨_, rfl, fun st' e => by simp at e, unhide HKD⟩
    | true =>
      have HE := hide ((unhide HB3) (by omega) rfl)
      clear HB2 HB3
      have hd : decide ((U : Int) < 0) = false := decide_eq_false (by omega)
      simp only [hd, Bool.not_true, Bool.or_false]
      have HC := hide (clone_v (st.take U) vt w2 (unhide HVT2) (by rw [List.length_take]; omega))
      go_wp2_with fail
      refine (unhide HC).mono ?_
      rintro e w5 ⟨v5, rfl, ho5, hk5⟩
      have HO5 := hide (ownsRow_lower ho5 (show w.heap.size ≤ w2.heap.size by omega))
      have HK5 := hide ((unhide HKD).trans hk5)
      have k4' := (hk5.cell (o := 4) (show w.heap.size + 2 < w2.heap.size by omega) id).trans k4
      have q0' := (hk5.cell (o := 0) (show w.heap.size < w2.heap.size by omega) id).trans q0
      have q1' := (hk5.cell (o := 0) (show w.heap.size + 1 < w2.heap.size by omega) id).trans q1
      have q2' := (hk5.cell (o := 1) (show w.heap.size + 1 < w2.heap.size by omega) id).trans q2
      have q3' := (hk5.cell (o := 2) (show w.heap.size + 1 < w2.heap.size by omega) id).trans q3
      have HS5 := hide ((unhide HS2).keepF hk5)
      have hs5 := hk5.size
      obtain ⟨o5, c5, rfl⟩ := (rowAt_own ho5).form
      have hlt : (st.take U).length = U := by rw [List.length_take]; omega
      rw [hlt] at HO5 ⊢
      clear HC ho5 hk5 k4 q0 q1 q2 q3 HVT2 HS2
      by_cases hg : G = 0
      · have bg : (G != 0) = false := by simpa using hg
        have HA : Hid (AF = st.take U) := by show _ = _; rw [unhide HAF, if_neg (by simpa using hg), List.append_nil]
        have hal : AF.length ≤ 16 := by rw [unhide HA]; omega
        have HE2 : Hid (BE = some AF) := by show _ = _; rw [unhide HE, if_pos hal]
        have j5 : (U : Int) ≤ 16 := by omega
        clear hg HE HAF
        go_wp2_with fail
        go_ret2
        rw [unhide HE2]
        refine ⟨.slice o5 U c5, ?_, fun st' e => ?_, unhide HK5⟩
        · rfl
        · simp at e
          subst e
          rw [unhide HA, hlt]
          exact unhide HO5
      · have bg : (G != 0) = true := by simpa using hg
        have HA : Hid (AF = st.take U ++ [GV]) := by show _ = _; rw [unhide HAF, if_pos hg]
        have hal : AF.length = U + 1 := by rw [unhide HA, List.length_append, hlt]; rfl
        have HC := hide ((unhide HOF) w5 (unhide HS5))
        clear hg HAF HOF
        go_wp2_with fail
        refine (unhide HC).mono ?_
        rintro e w6 ⟨rfl, hk6⟩
        have HO6 := hide ((ownsRow_kept (unhide HO5) hk6 (fun _ _ => id)))
        obtain ⟨HX6, hxb6, hxc6⟩ := boxed w6 #[.int .i64 GV] 70
        have HO7 := hide ((ownsRow_kept (unhide HO6) (unhide HX6) (fun _ _ => id)))
        have HKN : Hid (KsAt (w6.alloc (.cells #[.int .i64 GV] 70)) (.slice (some ⟨w6.heap.size, 0, none⟩) 1 1) [GV]) := row_new w6 #[.int .i64 GV] 70 1 w6.heap.size rfl
        have hs6 := hk6.size
        have HK7 := hide (((unhide HK5).trans hk6).trans (unhide HX6))
        clear HC HO5 HK5 hk6 HO6 hxc6
        by_cases h16 : U + 1 ≤ 16
        · have j6 : (U : Int) + 1 ≤ 16 := by omega
          have HE2 : Hid (BE = some AF) := by show _ = _; rw [unhide HE, if_pos (by omega)]
          clear HE
          go_wp2_with (at_builtin; refine wpList_appendK_any rfl _ _ rfl w.heap.size (.slice o5 U c5) U (ks (st.take U)) rfl (unhide HO7) (.slice (some ⟨w6.heap.size, 0, none⟩) 1 1) [GV] rfl (unhide HKN) (by unfold maxLen; simp; omega) (by simp; omega) (by simp; omega) ?_; intro v8 w8 hown8 hgrow8; obtain ⟨o8, c8, rfl⟩ := (rowAt_own hown8).form; have HO8 := hide hown8; have HK8 := hide ((unhide HK7).grown hgrow8 (fun q e hq => by have := ((unhide HO7).lt q e).1; omega)); clear hown8 hgrow8)
          go_ret2
          rw [unhide HE2]
          refine ⟨.slice o8 (U + 1) c8, ?_, fun st' e => ?_, unhide HK8⟩
          · rfl
          · simp at e
            subst e
            have h8 := unhide HO8
            rw [hal, unhide HA, ks_append]
            exact h8
        · have j6 : ¬ (U : Int) + 1 ≤ 16 := by omega
          have HE2 : Hid (BE = none) := by show _ = _; rw [unhide HE, if_neg (by omega)]
          clear HE
          go_wp2_with (at_builtin; refine wpList_appendK_any rfl _ _ rfl w.heap.size (.slice o5 U c5) U (ks (st.take U)) rfl (unhide HO7) (.slice (some ⟨w6.heap.size, 0, none⟩) 1 1) [GV] rfl (unhide HKN) (by unfold maxLen; simp; omega) (by simp; omega) (by simp; omega) ?_; intro v8 w8 hown8 hgrow8; obtain ⟨o8, c8, rfl⟩ := (rowAt_own hown8).form; have HO8 := hide hown8; have HK8 := hide ((unhide HK7).grown hgrow8 (fun q e hq => by have := ((unhide HO7).lt q e).1; omega)); clear hown8 hgrow8)
          go_ret2
          rw [unhide HE2]
          refine ⟨.slice o8 (U + 1) c8, ?_, fun st' e => ?_, unhide HK8⟩
          · show Ending.returned (.tuple #[.slice o8 (U + 1) c8, .bool (decide ((U : Int) + 1 ≤ 16))]) = _
            rw [decide_eq_false (by omega)]
            rfl
          · simp at e

end Go.Proofs.YtcicaifioghciaaGreatDoor
namespace Go.Proofs.YtcicaifioghciaaGreatDoor
open Go.RowKit Go.Maps

set_option maxRecDepth 100000 in
set_option maxHeartbeats 2000000 in
theorem bring_v (pb o : Nat) (r u : Bool) (va vb : Value) (la lb : List Int) (w : World) (cur : Array Value) (hB : w.heap[pb]? = some (.cells cur 81 (0, 0)))
    (c0 : w.cell? ⟨pb, o, none⟩ = some (.bool r)) (c1 : w.cell? ⟨pb, o + 1, none⟩ = some va) (c2 : w.cell? ⟨pb, o + 2, none⟩ = some (.bool u)) (ha : KsAt w va la) (hb : KsAt w vb lb) (hla : la.length ≤ 16) :
    Calls Tryz.prog 78 #[.pointer (some ⟨pb, o, none⟩), vb] w fun e w' => e = .returned (.tuple #[]) ∧ ∃ n, w' = (((w.drewN n).setCell ⟨pb, o + 2, none⟩ (.bool (u || (r && !decide (la = lb))))).setCell ⟨pb, o, none⟩ (.bool true)).setCell ⟨pb, o + 1, none⟩ vb := by
  obtain ⟨ao, capa, rfl⟩ := RowAt.form ha
  obtain ⟨bo, capb, rfl⟩ := RowAt.form hb
  have z0 := frozen_of_blk hB o
  have z1 := frozen_of_blk hB (o + 1)
  have z2 := frozen_of_blk hB (o + 2)
  have HQ := hide (equal_v w _ _ la lb ha hb (by omega))
  clear ha hb
  cases u with
  | true =>
    clear HQ
    go_enter Tryz.func78, Tryz.ntmps78
    go_wp2_with fail
    go_end0
    exact ⟨rfl, 0, rfl⟩
  | false =>
    cases r with
    | false =>
      clear HQ
      go_enter Tryz.func78, Tryz.ntmps78
      go_wp2_with fail
      go_end0
      exact ⟨rfl, 0, rfl⟩
    | true =>
      go_enter Tryz.func78, Tryz.ntmps78
      go_wp2_with fail
      refine (unhide HQ).mono ?_
      rintro e w2 ⟨rfl, n, rfl⟩
      have y0 : (w.drewN n).frozen? ⟨pb, o, none⟩ = false := frozen_of_blk (w := w.drewN n) (by simpa using hB) o
      have y1 : (w.drewN n).frozen? ⟨pb, o + 1, none⟩ = false := frozen_of_blk (w := w.drewN n) (by simpa using hB) (o + 1)
      have y2 : (w.drewN n).frozen? ⟨pb, o + 2, none⟩ = false := frozen_of_blk (w := w.drewN n) (by simpa using hB) (o + 2)
      clear HQ
      go_wp2_with fail
      go_end0
      exact ⟨rfl, n, by simp⟩

end Go.Proofs.YtcicaifioghciaaGreatDoor
namespace Go.Proofs.YtcicaifioghciaaGreatDoor
open Go.RowKit Go.Maps

theorem bitsOf_cons (f : FieldA) (x : ValA) (z : List (FieldA × ValA)) : bitsOf ((f, x) :: z) = if f.opt then decide (x.kind ≠ 0) :: bitsOf z else bitsOf z := by
  unfold bitsOf
  cases h : f.opt <;> simp [h]
theorem fits_absent {f : FieldA} {x : ValA} (h : fitsB f x = true) (hk : x.kind = 0) : f.opt = true ∧ x = ⟨0, 0, []⟩ := by
  obtain ⟨k, n, s⟩ := x
  simp only at hk
  subst hk
  simp [fitsB] at h
  simp [h]

theorem decP_enc : ∀ (l : List FieldA) (r : List ValA) (m : Nat) (e : Txt), r.length = l.length → fitAll l r = true → InR r → decP l (headN (bitsOf (l.zip r)) + 2 ^ (bitsOf (l.zip r)).length * m) (r.flatMap enc1 ++ e) = some (r, m, e)
  | [], r, m, e, hl, _, _ => by
    have : r = [] := List.eq_nil_of_length_eq_zero (by simpa using hl)
    subst this
    simp [bitsOf, headN, decP]
  | f :: l, [], m, e, hl, _, _ => by simp at hl
  | f :: l, x :: r, m, e, hl, hf, hI => by
    have hfx : fitsB f x = true := by
      unfold fitAll at hf
      simp only [List.zip_cons_cons, List.all_cons, Bool.and_eq_true] at hf
      exact hf.1
    have hfr : fitAll l r = true := by
      unfold fitAll at hf ⊢
      simp only [List.zip_cons_cons, List.all_cons, Bool.and_eq_true] at hf
      exact hf.2
    have hIx := hI x (List.mem_cons_self ..)
    have hIr : InR r := fun y hy => hI y (List.mem_cons_of_mem _ hy)
    have ih := fun m e => decP_enc l r m e (by simpa using hl) hfr hIr
    simp only [List.zip_cons_cons, bitsOf_cons, List.flatMap_cons, List.append_assoc]
    by_cases hk : x.kind = 0
    · obtain ⟨ho, rfl⟩ := fits_absent hfx hk
      rw [if_pos ho, enc1_none rfl, List.nil_append]
      simp only [headN, List.length_cons]
      have e1 : (if decide ((⟨0, 0, []⟩ : ValA).kind ≠ 0) = true then 1 else 0) + 2 * headN (bitsOf (l.zip r)) + 2 ^ ((bitsOf (l.zip r)).length + 1) * m = 2 * (headN (bitsOf (l.zip r)) + 2 ^ (bitsOf (l.zip r)).length * m) := by
        rw [Nat.pow_succ, Nat.mul_add, Nat.mul_comm (2 ^ _) 2, Nat.mul_assoc]
        simp
      rw [e1, decP, if_pos ⟨ho, by omega⟩, show 2 * (headN (bitsOf (l.zip r)) + 2 ^ (bitsOf (l.zip r)).length * m) / 2 = headN (bitsOf (l.zip r)) + 2 ^ (bitsOf (l.zip r)).length * m by omega, ih m e]
      rfl
    · have htk := fun e => takeP_enc hfx hk hIx e
      cases ho : f.opt with
      | true =>
        rw [if_pos rfl]
        simp only [headN, List.length_cons]
        have e1 : (if decide (x.kind ≠ 0) = true then 1 else 0) + 2 * headN (bitsOf (l.zip r)) + 2 ^ ((bitsOf (l.zip r)).length + 1) * m = 2 * (headN (bitsOf (l.zip r)) + 2 ^ (bitsOf (l.zip r)).length * m) + 1 := by
          rw [Nat.pow_succ, Nat.mul_add, Nat.mul_comm (2 ^ _) 2, Nat.mul_assoc, if_pos (by simp [hk])]
          omega
        rw [e1, decP, if_neg (by omega), htk]
        simp only [Option.bind_some, ho, if_true]
        rw [show (2 * (headN (bitsOf (l.zip r)) + 2 ^ (bitsOf (l.zip r)).length * m) + 1) / 2 = headN (bitsOf (l.zip r)) + 2 ^ (bitsOf (l.zip r)).length * m by omega, ih m e]
        rfl
      | false =>
        rw [if_neg (by simp), decP, if_neg (by simp [ho]), htk]
        simp only [Option.bind_some, ho]
        have := ih m e
        simp only [Bool.false_eq_true, if_false]
        rw [this]
        rfl

theorem decP_sound : ∀ (l : List FieldA) (m : Nat) (t : Txt) (r : List ValA) (m' : Nat) (e : Txt), l.all fieldOK = true → decP l m t = some (r, m', e) → r.length = l.length ∧ fitAll l r = true ∧ InR r ∧ t = r.flatMap enc1 ++ e ∧ m = headN (bitsOf (l.zip r)) + 2 ^ (bitsOf (l.zip r)).length * m'
  | [], m, t, r, m', e, _, h => by
    simp only [decP, Option.some.injEq, Prod.mk.injEq] at h
    obtain ⟨rfl, rfl, rfl⟩ := h
    simp [fitAll, InR, bitsOf, headN]
  | f :: l, m, t, r, m', e, hok, h => by
    simp only [List.all_cons, Bool.and_eq_true] at hok
    rw [decP] at h
    split at h
    · rename_i ho
      cases hd : decP l (m / 2) t with
      | none => rw [hd] at h; cases h
      | some q =>
        rw [hd] at h
        simp only [Option.map_some, Option.some.injEq, Prod.mk.injEq] at h
        obtain ⟨rfl, h2⟩ := h
        obtain ⟨h1, h3, h4, h5, h6⟩ := decP_sound l (m / 2) t q.1 m' e hok.2 (by rw [hd, ← h2])
        refine ⟨by simp [h1], ?_, ?_, ?_, ?_⟩
        · unfold fitAll at *
          simp only [List.zip_cons_cons, List.all_cons, Bool.and_eq_true]
          exact ⟨by simp [fitsB, ho.1], h3⟩
        · intro y hy
          simp only [List.mem_cons] at hy
          rcases hy with rfl | hy
          · simp
          · exact h4 y hy
        · simp only [List.flatMap_cons]
          rw [enc1_none rfl]
          exact h5
        · simp only [List.zip_cons_cons, bitsOf_cons]
          rw [if_pos ho.1]
          simp only [headN, List.length_cons, Nat.pow_succ]
          rw [Nat.mul_comm (2 ^ _) 2, Nat.mul_assoc]
          simp
          omega
    · rename_i ho
      cases htk : takeP f.type t with
      | none => rw [htk] at h; cases h
      | some p =>
        rw [htk] at h
        simp only [Option.bind_some] at h
        cases hd : decP l (if f.opt then m / 2 else m) p.2 with
        | none => rw [hd] at h; cases h
        | some q =>
          rw [hd] at h
          simp only [Option.map_some, Option.some.injEq, Prod.mk.injEq] at h
          obtain ⟨rfl, h2⟩ := h
          obtain ⟨h1, h3, h4, h5, h6⟩ := decP_sound l _ p.2 q.1 m' e hok.2 (by rw [hd, ← h2])
          obtain ⟨g1, g2, g3, g4⟩ := takeP_sound (type_of hok.1) (show takeP f.type t = some (p.1, p.2) from htk)
          have hk0 : p.1.kind ≠ 0 := by rw [g1]; have := type_of hok.1; omega
          refine ⟨by simp [h1], ?_, ?_, ?_, ?_⟩
          · unfold fitAll at *
            simp only [List.zip_cons_cons, List.all_cons, Bool.and_eq_true]
            exact ⟨g2, h3⟩
          · intro y hy
            simp only [List.mem_cons] at hy
            rcases hy with rfl | hy
            · exact g3
            · exact h4 y hy
          · simp only [List.flatMap_cons, List.append_assoc]
            rw [← h5]
            exact g4
          · simp only [List.zip_cons_cons, bitsOf_cons]
            cases hfo : f.opt with
            | true =>
              rw [hfo] at h6
              rw [if_pos rfl]
              simp only [headN, List.length_cons, Nat.pow_succ]
              rw [Nat.mul_comm (2 ^ _) 2, Nat.mul_assoc, if_pos (by simp [hk0])]
              simp only [if_true] at h6
              have hm1 : m % 2 = 1 := by
                rcases Nat.mod_two_eq_zero_or_one m with h | h
                · exact absurd ⟨hfo, by omega⟩ ho
                · exact h
              omega
            | false =>
              rw [hfo] at h6
              rw [if_neg (by simp)]
              simpa using h6

theorem decP_app : ∀ (l : List FieldA) (m : Nat) (t : Txt) (r : List ValA) (m' : Nat) (e x : Txt), decP l m t = some (r, m', e) → decP l m (t ++ x) = some (r, m', e ++ x)
  | [], m, t, r, m', e, x, h => by
    simp only [decP, Option.some.injEq, Prod.mk.injEq] at h ⊢
    exact ⟨h.1, h.2.1, by rw [h.2.2]⟩
  | f :: l, m, t, r, m', e, x, h => by
    rw [decP] at h ⊢
    split at h
    · rename_i ho
      rw [if_pos ho]
      cases hd : decP l (m / 2) t with
      | none => rw [hd] at h; cases h
      | some q =>
        rw [hd] at h
        simp only [Option.map_some, Option.some.injEq, Prod.mk.injEq] at h
        rw [decP_app l (m / 2) t q.1 m' e x (by rw [hd, ← h.2])]
        simp [h.1]
    · rename_i ho
      rw [if_neg ho]
      cases htk : takeP f.type t with
      | none => rw [htk] at h; cases h
      | some p =>
        rw [htk] at h
        rw [takeP_app (show takeP f.type t = some (p.1, p.2) from htk) x]
        simp only [Option.bind_some] at h ⊢
        cases hd : decP l (if f.opt then m / 2 else m) p.2 with
        | none => rw [hd] at h; cases h
        | some q =>
          rw [hd] at h
          simp only [Option.map_some, Option.some.injEq, Prod.mk.injEq] at h
          rw [decP_app l _ p.2 q.1 m' e x (by rw [hd, ← h.2])]
          simp [h.1]

end Go.Proofs.YtcicaifioghciaaGreatDoor
