import Derived.Test.YtcicaifioghciaaGreatDoorJzai
import Derived.Test.YtcicaifioghciaaGreatDoorXb
import Derived.Test.YtcicaifioghciaaGreatDoorJzak
namespace Go.Proofs.YtcicaifioghciaaGreatDoor
open Go.RowKit Go.Maps

def behindT : Txt := [98, 101, 104, 105, 110, 100]
def markF : FieldA := ⟨behindT, 77, false⟩
/-- A schema's fields with eight marks behind them. -/
def lentL (S : List FieldA) : List FieldA := S ++ List.replicate 8 markF
theorem fcs_app (a b : List FieldA) : fcs (a ++ b) = fcs a ++ fcs b := by simp [fcs]
theorem fcs_ones (l : List FieldA) : ∀ u ∈ fcs l, u.oneCell' = true := by
  intro u hu
  unfold fcs at hu
  obtain ⟨f, _, hf⟩ := List.mem_flatMap.1 hu
  have hf' : u ∈ [str f.name, .int .i64 f.type, .bool f.opt] := hf
  simp only [List.mem_cons, List.not_mem_nil, or_false] at hf'
  rcases hf' with rfl | rfl | rfl <;> rfl
theorem own_geO {w : World} {B e size n : Nat} {v : Value} {xs : List Value} (h : w.ownsRow B e size v n xs) {k : Nat} (hk : v.ownBlock = some k) : B ≤ k := by
  rcases h.2 with ⟨hv, _⟩ | ⟨g, cap, cur, hv, hb, hg, rest⟩
  · rw [hv] at hk; cases hk
  · rw [hv] at hk
    simp [Value.ownBlock] at hk
    subst hk
    exact hb
theorem ownsRow_low {w : World} {B C e size n : Nat} {v : Value} {xs : List Value} (h : w.ownsRow B e size v n xs) (hC : C ≤ B) : w.ownsRow C e size v n xs :=
  ⟨h.1, h.2.imp id fun ⟨g, cap, cur, a1, a2, a3⟩ => ⟨g, cap, cur, a1, Nat.le_trans hC a2, a3⟩⟩
/-- A struct in a box and a slot, handed back. -/
theorem results_cr {P : Program} {fn : Func} {p q : Tmp} {ty : TypeId} (h : fn.results = #[.cell p ty, .tmp q]) (tmps : Array Value) (w : World) (g : Nat) (t : TypeId) (cs : Array Value) (fr : Nat × Nat) (d : TypeDesc) (v : Value)
    (hp : tmps.getD p undef = .pointer (some ⟨g, 0, none⟩)) (hq : tmps.getD q undef = v) (hg : w.heap[g]? = some (.cells cs t fr))
    (hu : P.underlying ty = some d) (hd : (match d with | .struct _ | .array _ _ => true | _ => false) = true) (hi : (P.info? ty).map (·.size) = some cs.size) :
    (results fn tmps).run P w = .ok (.tuple #[.agg cs, v]) w := by
  have hp' : tmps[p]?.getD undef = .pointer (some ⟨g, 0, none⟩) := by simpa using hp
  have hq' : tmps[q]?.getD undef = v := by simpa using hq
  simp [results, h, hp', hq', asAddr, run_loadVar_row w g t ty cs fr d hg hu hd hi]
theorem narrowO {F : Nat → Prop} {a b c : World} (h : Keeps (fun _ => False) a b) (k : Keeps F b c) (hF : ∀ i, F i → a.heap.size ≤ i) : Keeps (fun _ => False) a c :=
  ⟨k.os.trans h.os, k.tape.trans h.tape, k.output.trans h.output, Nat.le_trans h.size k.size, fun i hi _ => (k.block i (Nat.lt_of_lt_of_le hi h.size) (fun e => by have := hF i e; omega)).trans (h.block i hi id)⟩

set_option maxRecDepth 100000 in
set_option maxHeartbeats 4000000 in
theorem kept_v (S : List FieldA) (v : Value) (w : World) (h : FldsAt w v (lentL S)) (hn : S.length ≤ 4398046511104) :
    Calls Tryz.prog 16 #[v] w fun e w' => e = .returned (.bool true) ∧ Keeps (fun _ => False) w w' := by
  have hlen : (lentL S).length = S.length + 8 := by simp [lentL]
  obtain ⟨b, off, cap, rfl, hb, hc⟩ := h.cells (by omega)
  rw [hlen]
  have hm : ∀ k, S.length ≤ k → k < S.length + 8 → w.cell? ⟨b, off + k * 3, none⟩ = some (.string ⟨#[98, 101, 104, 105, 110, 100]⟩) ∧ w.cell? ⟨b, off + k * 3 + 1, none⟩ = some (.int .i64 77) := fun k h1 h2 => by
    have hk : (lentL S)[k]? = some markF := by
      unfold lentL
      rw [List.getElem?_append_right h1, List.getElem?_replicate, if_pos (by omega)]
    have := hc k markF hk
    exact ⟨this.1, this.2.1⟩
  have HM := hide hm
  clear hm hc h hlen
  go_enter Tryz.func16, Tryz.ntmps16
  go_wp2_with fail
  go_loopw [3] (fun i wr => ∃ j : Nat, j ≤ 8 ∧ i = .int .i64 ((S.length + j : Nat) : Int) ∧ Hid (Keeps (fun _ => False) w wr)) (fun i _ => S.length + 8 - (intOf i).toNat)
  case atStart => exact ⟨0, by omega, by go_num, hide (Keeps.refl _ _)⟩
  case round =>
    obtain ⟨j, hj, rfl, HK⟩ := hrel
    by_cases hlt : j < 8
    · obtain ⟨m0, m1⟩ := unhide HM (S.length + j) (by omega) (by omega)
      have m0 := ((unhide HK).cell hb id).trans m0
      have m1 := ((unhide HK).cell hb id).trans m1
      have i1 : ((S.length + j : Nat) : Int) < ((S.length + 8 : Nat) : Int) := by omega
      have i2 : (0 : Int) ≤ ((S.length + j : Nat) : Int) := by omega
      go_wp2_with fail
      go_roundw
      case rel => exact ⟨j + 1, by omega, by go_num, HK⟩
      case measure => simp [intOf]; omega
    · obtain rfl : j = 8 := by omega
      go_wp2_with fail
      go_ret
      exact ⟨rfl, unhide HK⟩

theorem run_append_none_c {w : World} (base : Nat) (t ty e : TypeId) (i : TypeInfo) (size c : Nat) (ht : Tryz.prog.underlying t = some (.slice e)) (hi : Tryz.prog.info? e = some i)
    (v : Value) (n : Nat) (xs : List Value) (hown : w.ownsRow base e size v n xs) :
    (Builtin.append_ #[t, t] ty #[v, .slice none 0 c]).run Tryz.prog w = .ok v w := by
  rcases hown.2 with ⟨rfl, rfl⟩ | ⟨g, cap, cur, rfl, _, _, hnc, _⟩
  · simp [Builtin.append_, run_underlying ht, sizeOf, typeInfo, hi, Builtin.lenOf, Builtin.firstCells]
  · simp [Builtin.append_, run_underlying ht, sizeOf, typeInfo, hi, Builtin.lenOf, Builtin.firstCells, hnc, storeCells]
/-- Fields appended to a row of one's own. -/
theorem run_append_flds (w : World) (ty : TypeId) (base : Nat) (v : Value) (n : Nat) (xs : List Value) (hown : w.ownsRow base 55 3 v n xs) (u : Value) (G : List FieldA) (hu : FldsAt w u G) (hl : n + G.length ≤ 4398046511104) (hbase : base ≤ w.heap.size) :
    ∃ v' w', (Builtin.append_ #[22, 22] ty #[v, u]).run Tryz.prog w = .ok v' w' ∧ w'.ownsRow base 55 3 v' (n + G.length) (xs ++ fcs G) ∧ w.grownBy w' v.ownBlock := by
  obtain ⟨i0, hi, hz0, hz1, hz2⟩ := info_parts Tryz.info55
  obtain ⟨uo, uc, rfl⟩ := RowAt.form hu
  cases uo with
  | none =>
    have h0 : G.length = 0 := by
      rcases Nat.eq_zero_or_pos G.length with h | h
      · exact h
      · obtain ⟨b, off, cap, e, _⟩ := RowAt.cells hu h
        simp at e
    have hG : G = [] := List.eq_nil_of_length_eq_zero h0
    subst hG
    exact ⟨_, w, run_append_none_c base 22 ty 55 i0 3 uc Tryz.underlying22 hi v n xs hown, by simpa [fcs] using hown, grownBy_refl _ _⟩
  | some ad =>
    obtain ⟨v', w', hr, h2, h3, _⟩ := run_append_own_at (P := Tryz.prog) w base 22 ty 55 i0 _ 3 32 Tryz.underlying22 hi hz0 hz1 hz2 rfl (by omega) v n xs hown ad G.length uc (fcs G) (fcs_length G) (fun j x hx => by
      have h0 : 0 < G.length := by
        have := (List.getElem?_eq_some_iff.1 hx).1
        rw [fcs_length] at this
        omega
      obtain ⟨b, off, cap, e, _, hc⟩ := RowAt.cells hu h0
      simp at e
      obtain ⟨rfl, rfl⟩ := e
      have := hc j x hx
      rw [show (⟨b, off, none⟩ : Addr).add j = ⟨b, off + j, none⟩ by simp only [Addr.add_lit]]
      exact this) (fcs_ones G) (by unfold maxLen; omega) (by omega) hbase
    exact ⟨v', w', hr, h2, h3⟩
theorem wpList_append_flds {w : World} {ops : Array Oper} {rest : List Oper} {o : Oper} {a : Act} {Q : Exit → Act → World → Prop} (hgd : o.guard = none) (s x : Operand)
    (ho : o.op = .call { callee := .builtin .append, args := #[s, x], argTypes := #[22, 22] }) (base : Nat) (v : Value) (n : Nat) (xs : List Value) (hs : a.eval s = v) (hown : w.ownsRow base 55 3 v n xs)
    (u : Value) (G : List FieldA) (hx : a.eval x = u) (hu : FldsAt w u G) (hl : n + G.length ≤ 4398046511104) (hbase : base ≤ w.heap.size)
    (h : ∀ v' w', w'.ownsRow base 55 3 v' (n + G.length) (xs ++ fcs G) → w.grownBy w' v.ownBlock → wpList Tryz.prog ops Q rest (a.put o.dst v') w') : wpList Tryz.prog ops Q (o :: rest) a w :=
  wpList_plain hgd fun _ hK => by
    obtain ⟨v', w', hr, h2, h3⟩ := run_append_flds w o.type base v n xs hown u G hu hl hbase
    unfold Oper.wp execOp
    simp only [ho, resolve, invoke, builtin, Sem.run_bind, Sem.run_pure, Result.andThen_ok, List.map_toArray, List.map_cons, List.map_nil, hs, hx, hr]
    exact hK _ _ (h v' w' h2 h3)

set_option maxRecDepth 100000 in
set_option maxHeartbeats 4000000 in
theorem lent_v (S : List FieldA) (v : Value) (w : World) (h : FldsAt w v S) (hn : S.length + 8 ≤ 4398046511104) :
    Calls Tryz.prog 5 #[.agg #[v]] w fun e w' => ∃ g cap, e = .returned (.tuple #[.agg #[.slice (some ⟨g, 0, none⟩) S.length cap], .slice (some ⟨g, 0, none⟩) (S.length + 8) cap]) ∧ w'.ownsRow w.heap.size 55 3 (.slice (some ⟨g, 0, none⟩) (S.length + 8) cap) (S.length + 8) (fcs (lentL S)) ∧ Keeps (fun _ => False) w w' := by
  obtain ⟨so, sc, rfl⟩ := RowAt.form h
  obtain ⟨X, hX⟩ : ∃ X, (w.alloc (.cells #[.slice so S.length sc] 24)).alloc (.cells #[.slice none 0 0] 24) = X := ⟨_, rfl⟩
  have hk1 : Keeps (fun _ => False) w (w.alloc (.cells #[.slice so S.length sc] 24)) := (Keeps.refl _ w).alloc _
  have hk2 : Keeps (fun _ => False) (w.alloc (.cells #[.slice so S.length sc] 24)) X := by rw [← hX]; exact (Keeps.refl _ _).alloc _
  have hq : X.heap[w.heap.size]? = some (.cells #[.slice so S.length sc] 24 (0, 0)) := (hk2.block _ (by simp) id).trans (heap_alloc_new w _)
  have hz : X.heap[w.heap.size + 1]? = some (.cells #[.slice none 0 0] 24 (0, 0)) := by
    have := heap_alloc_new (w.alloc (.cells #[.slice so S.length sc] 24)) (.cells #[.slice none 0 0] 24)
    rw [hX] at this
    simpa using this
  have hxs : X.heap.size = w.heap.size + 2 := by rw [← hX]; simp
  have hk3 : Keeps (fun _ => False) X (X.alloc (.cells #[] 55)) := (Keeps.refl _ X).alloc _
  have hkx := hk1.trans hk2
  have hsl := h.keepF (hkx.trans hk3)
  have ho := World.ownsRow_lit (base := w.heap.size + 2) (e := 55) (size := 3) X #[] 0 (by omega) (by unfold maxLen; omega) (by simp)
  have c0 := (cell_of_blk ((hk3.block _ (lt_of_block hq) id).trans hq) 0).trans (show _ = some (Value.slice so S.length sc) from rfl)
  rw [hxs] at ho
  have HQ := hide ((hk3.block _ (lt_of_block hq) id).trans hq)
  have HZ := hide ((hk3.block _ (lt_of_block hz) id).trans hz)
  have HKX := hide (hkx.trans hk3)
  have HSL := hide hsl
  have HOW := hide ho
  have hs4 : w.heap.size + 3 = (X.alloc (.cells #[] 55)).heap.size := by simp [hxs]
  subst hX
  clear hk1 hk2 hk3 hkx hsl ho hq hz h hxs
  go_enter Tryz.func5, Tryz.ntmps5
  go_wp2_with (at_builtin; refine wpList_append_flds rfl _ _ rfl (w.heap.size + 2) _ 0 [] rfl (unhide HOW) _ S rfl (unhide HSL) (by omega) (by omega) ?_)
  intro v1 w2 ho1 hg1
  have hkg : Keeps (fun q => (Value.slice (some ⟨w.heap.size + 2, 0, none⟩) 0 0).ownBlock = some q) _ w2 := (Keeps.refl _ _).grown hg1 (fun q e _ => e)
  have hge : ∀ q, (Value.slice (some ⟨w.heap.size + 2, 0, none⟩) 0 0).ownBlock = some q → w.heap.size + 2 ≤ q := fun q e => by simp [Value.ownBlock] at e; omega
  have HQ2 := hide ((hkg.block _ (lt_of_block (unhide HQ)) (fun e => by have := hge _ e; omega)).trans (unhide HQ))
  have HZ2 := hide ((hkg.block _ (lt_of_block (unhide HZ)) (fun e => by have := hge _ e; omega)).trans (unhide HZ))
  have HK2 := hide (narrowO (unhide HKX) hkg (fun q e => by have := hge q e; omega))
  have hs2 : w.heap.size + 3 ≤ w2.heap.size := by have := hkg.size; omega
  have HO2 : Hid (w2.ownsRow (w.heap.size + 2) 55 3 v1 S.length (fcs S)) := by
    show World.ownsRow _ _ _ _ _ _ _
    simpa using ho1
  clear hkg hge ho1 hg1 HQ HZ HKX HSL HOW hs4 c0
  obtain ⟨vo, vc, rfl⟩ := (rowAt_own (unhide HO2)).form
  go_wp2_with fail
  go_loopw [4, 5] (fun vv i wr => ∃ j : Nat, j ≤ 8 ∧ i = .int .i64 (j : Int) ∧ Hid (wr.ownsRow (w.heap.size + 2) 55 3 vv (S.length + j) (fcs (S ++ List.replicate j markF))) ∧ Hid (wr.heap[w.heap.size]? = some (.cells #[.slice so S.length sc] 24 (0, 0))) ∧ Hid (wr.heap[w.heap.size + 1]? = some (.cells #[.slice none 0 0] 24 (0, 0))) ∧ Hid (Keeps (fun _ => False) w wr) ∧ w.heap.size + 3 ≤ wr.heap.size) (fun _ i _ => 8 - (intOf i).toNat)
  case atStart => exact ⟨0, by omega, rfl, by simpa [Hid] using unhide HO2, HQ2, HZ2, HK2, hs2⟩
  case round =>
    clear HO2 HQ2 HZ2 HK2 hs2
    obtain ⟨j, hj, rfl, HO, HQ, HZ, HK, hs⟩ := hrel
    obtain ⟨vo, vc, rfl⟩ := (rowAt_own (unhide HO)).form
    by_cases hlt : j < 8
    · have i1 : (j : Int) < 8 := by omega
      have hka : Keeps (fun _ => False) wr (wr.alloc (.cells #[str behindT, .int .i64 77, .bool false] 55)) := (Keeps.refl _ wr).alloc _
      have hfl : FldsAt (wr.alloc (.cells #[str behindT, .int .i64 77, .bool false] 55)) (.slice (some ⟨wr.heap.size, 0, none⟩) 1 1) [markF] :=
        rowAt_own (World.ownsRow_lit (base := wr.heap.size) (e := 55) (size := 3) wr #[str behindT, .int .i64 77, .bool false] 1 (Nat.le_refl _) (by unfold maxLen; omega) (by simp))
      have HFL := hide hfl
      have HOA := hide ((unhide HO).alloc (.cells #[str behindT, .int .i64 77, .bool false] 55))
      clear hfl
      go_wp2_with (at_builtin; refine wpList_append_flds rfl _ _ rfl (w.heap.size + 2) _ (S.length + j) _ rfl (unhide HOA) _ [markF] rfl (unhide HFL) (by simp; omega) (by simp; omega) ?_)
      intro v5 w5 ho5 hg5
      have hkg : Keeps (fun q => (Value.slice vo (S.length + j) vc).ownBlock = some q) wr w5 := hka.any.trans ((Keeps.refl _ _).grown hg5 (fun q e _ => e))
      have hge : ∀ q, (Value.slice vo (S.length + j) vc).ownBlock = some q → w.heap.size + 2 ≤ q := fun q e => own_geO (unhide HO) e
      have HQ5 := hide ((hkg.block _ (lt_of_block (unhide HQ)) (fun e => by have := hge _ e; omega)).trans (unhide HQ))
      have HZ5 := hide ((hkg.block _ (lt_of_block (unhide HZ)) (fun e => by have := hge _ e; omega)).trans (unhide HZ))
      have HK5 := hide (narrowO (unhide HK) hkg (fun q e => by have := hge q e; omega))
      have hs5 : w.heap.size + 3 ≤ w5.heap.size := by have := hkg.size; omega
      have HO5 : Hid (w5.ownsRow (w.heap.size + 2) 55 3 v5 (S.length + (j + 1)) (fcs (S ++ List.replicate (j + 1) markF))) := by
        show World.ownsRow _ _ _ _ _ _ _
        rw [List.replicate_succ', ← List.append_assoc, fcs_app, ← Nat.add_assoc]
        exact ho5
      clear ho5 hg5 hkg hge hka HOA HFL HO HQ HZ HK
      go_wp2_with fail
      go_roundw
      case rel => exact ⟨j + 1, by omega, by go_num, HO5, HQ5, HZ5, HK5, hs5⟩
      case measure => simp [intOf]; omega
    · obtain rfl : j = 8 := by omega
      obtain ⟨g, rfl, hg, hcap⟩ : ∃ g, vo = some ⟨g, 0, none⟩ ∧ w.heap.size + 2 ≤ g ∧ S.length + 8 ≤ vc := by
        rcases (unhide HO).2 with ⟨_, h0⟩ | ⟨g, cp, cur, a1, a2, a3, a4, _⟩
        · omega
        · simp only [Value.slice.injEq] at a1
          obtain ⟨rfl, _, rfl⟩ := a1
          exact ⟨g, rfl, a2, a4⟩
      have q0 := (cell_of_blk (unhide HQ) 0).trans (show _ = some (Value.slice so S.length sc) from rfl)
      have z0 := (cell_of_blk (unhide HZ) 0).trans (show _ = some (Value.slice none 0 0) from rfl)
      have zf : wr.frozen? ⟨w.heap.size + 1, 0, none⟩ = false := Lib.frozen_of_heap (unhide HZ) 0
      have c1 : (S.length : Int) ≤ (vc : Int) := by omega
      have c2 : S.length ≤ vc := by omega
      have hst := heap_setCell_at (o := 0) (unhide HZ) (.slice (some ⟨g, 0, none⟩) S.length vc)
      have hks := keeps_set wr (w.heap.size + 1) 0 (.slice (some ⟨g, 0, none⟩) S.length vc)
      have HOZ := hide (ownsRow_kept (unhide HO) hks (fun q e => by have := own_geO (unhide HO) e; omega))
      have HKZ := hide (narrowO (unhide HK) hks (fun q e => by omega))
      have HST := hide hst
      clear hst hks HO HQ HZ HK
      go_wp2_with fail
      exact bodyPost_ret (results_cr rfl _ _ (w.heap.size + 1) 24 _ (0, 0) _ _ rfl rfl (unhide HST) Tryz.underlying24 rfl (by kernel_rfl)) rfl ⟨g, vc, rfl, ownsRow_low (unhide HOZ) (by omega), unhide HKZ⟩

def spareTx : Txt := [115, 112, 97, 114, 101]
/-- A code with two marks behind it. -/
def markedL (l : List ValA) (m : Int) : List ValA := l ++ [⟨m, 0, spareTx⟩, ⟨m + 1, 0, []⟩]
end Go.Proofs.YtcicaifioghciaaGreatDoor
