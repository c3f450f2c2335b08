import Derived.Test.YtgdabnkjipcbhaaGreatDoorQa
namespace Go.Proofs.YtgdabnkjipcbhaaGreatDoor
open Go.RowKit Go.Maps

theorem run_append_none_c {w : World} (base : Nat) (t ty e : TypeId) (i : TypeInfo) (size c : Nat) (ht : Tryz.prog.underlying t = some (.slice e)) (hi : Tryz.prog.info? e = some i)
    (v : Value) (n : Nat) (xs : List Value) (hown : w.ownsRow base e size v n xs) :
    (Builtin.append_ #[t, t] ty #[v, .slice none 0 c]).run Tryz.prog w = .ok v w := by
  rcases hown.2 with ⟨rfl, rfl⟩ | ⟨g, cap, cur, rfl, _, _, hnc, _⟩
  · simp [Builtin.append_, run_underlying ht, sizeOf, typeInfo, hi, Builtin.lenOf, Builtin.firstCells]
  · simp [Builtin.append_, run_underlying ht, sizeOf, typeInfo, hi, Builtin.lenOf, Builtin.firstCells, hnc, storeCells]
theorem wpList_append_none_c {w : World} {ops : Array Oper} {rest : List Oper} {o : Oper} {a : Act} {Q : Exit → Act → World → Prop} (hgd : o.guard = none) (s x : Operand) (t : TypeId)
    (ho : o.op = .call { callee := .builtin .append, args := #[s, x], argTypes := #[t, t] })
    (base : Nat) (e : TypeId) (i : TypeInfo) (size c : Nat) (ht : Tryz.prog.underlying t = some (.slice e)) (hi : Tryz.prog.info? e = some i)
    (v : Value) (n : Nat) (xs : List Value) (hs : a.eval s = v) (hown : w.ownsRow base e size v n xs) (hx : a.eval x = .slice none 0 c)
    (h : wpList Tryz.prog ops Q rest (a.put o.dst v) w) : wpList Tryz.prog ops Q (o :: rest) a w := by
  refine wpList_plain hgd fun K hK => ?_
  have hrun := run_append_none_c (w := w) base t o.type e i size c ht hi v n xs hown
  unfold Oper.wp
  simp [execOp, ho, resolve, invoke, builtin, hs, hx, hrun, Result.andThen]
  exact hK _ _ h
/-- append of a list of expressions to a row of one's own. -/
theorem wpList_append_el {w : World} {ops : Array Oper} {rest : List Oper} {o : Oper} {a : Act} {Q : Exit → Act → World → Prop} (hgd : o.guard = none) (s x : Operand)
    (ho : o.op = .call { callee := .builtin .append, args := #[s, x], argTypes := #[22, 22] })
    (N B : Nat) (up : Nat) (lv v : Value) (l : EL) (n : Nat) (xs : List Value) (hs : a.eval s = v) (hown : w.ownsRow N 54 4 v n xs) (hx : a.eval x = lv) (hS : SlE (belZ B) w up lv l) (hn : n + l.len ≤ 1000) (hN : N ≤ w.heap.size)
    (h : ∀ v' w' ys, w'.ownsRow N 54 4 v' (n + l.len) (xs ++ ys) → Cs (belZ B) w l ys → Keeps (fun k => v.ownBlock = some k) w w' → wpList Tryz.prog ops Q rest (a.put o.dst v') w') : wpList Tryz.prog ops Q (o :: rest) a w := by
  obtain ⟨i0, hi, hz0, hz1, hz2⟩ := info_parts Tryz.info54
  obtain ⟨ao, cap, rfl, hc, hr⟩ := hS
  by_cases h0 : l.len = 0
  · have hl : l = .nil := by cases l with | nil => rfl | cons _ _ _ _ _ => simp [EL.len] at h0
    subst hl
    cases ao with
    | none =>
      refine wpList_append_none_c hgd s x 22 ho N 54 i0 4 cap Tryz.underlying22 hi v n xs hs hown hx ?_
      refine h v w [] ?_ rfl (Keeps.refl _ _)
      rw [List.append_nil]
      exact hown
    | some ad =>
      refine wpList_append_own w hgd s x 22 ho N 54 i0 _ 4 56 Tryz.underlying22 hi hz0 hz1 hz2 rfl (by decide) v n xs hs hown ad 0 cap [] hx (by simp) (fun j u hj => by simp at hj) (fun u hu => by simp at hu) (by unfold maxLen; omega) (by omega) hN ?_
      intro v' w' h1 h2 _
      exact h v' w' [] h1 rfl ((Keeps.refl _ w).grown h2 (fun _ e _ => e))
  · obtain ⟨b, off, rfl, _, hin⟩ := hr h0
    obtain ⟨ys, hcs, hcl⟩ := hin.cs
    refine wpList_append_own w hgd s x 22 ho N 54 i0 _ 4 56 Tryz.underlying22 hi hz0 hz1 hz2 rfl (by decide) v n xs hs hown ⟨b, off, none⟩ l.len cap ys hx hcs.length (fun j u hj => by rw [Addr.add_lit]; exact hcl j u hj) hcs.one (by unfold maxLen; omega) (by omega) hN ?_
    intro v' w' h1 h2 _
    exact h v' w' ys h1 hcs ((Keeps.refl _ w).grown h2 (fun _ e _ => e))

set_option maxRecDepth 100000 in
set_option maxHeartbeats 4000000 in
theorem rexprs_v (k l : Int) (d : Bool) (W O B : EL) (wv ov bv : Value) {Z : Zone} (w : World) (hW : SlE Z w 0 wv W) (hO : SlE Z w 0 ov O) (hB : SlE Z w 0 bv B) (hn : W.len + O.len + B.len ≤ 900) :
    Calls Tryz.prog 18 #[qV wv k ov bv d l] w fun e w' => ∃ v xs, e = .returned v ∧ w'.ownsRow (w.heap.size + 1) 54 4 v (W.len + O.len + B.len) xs ∧ Cs (belZ w.heap.size) w' ((W.app O).app B) xs ∧ Keeps (fun _ => False) w w' := by
  obtain ⟨w1, hw1, hk1, hs1, c0, c1, c2, c3, c4, c5⟩ := box6 w wv ov bv k l d
  have HW := hide ((hW.bel (B := w.heap.size) (up' := 0) (Nat.le_refl _)).keepF hk1)
  have HO := hide ((hO.bel (B := w.heap.size) (up' := 0) (Nat.le_refl _)).keepF hk1)
  have HB := hide ((hB.bel (B := w.heap.size) (up' := 0) (Nat.le_refl _)).keepF hk1)
  have HK1 := hide hk1
  obtain ⟨wa, wc, rfl, _⟩ := hW.head
  obtain ⟨oa, oc, rfl, _⟩ := hO.head
  obtain ⟨ba, bc, rfl, _⟩ := hB.head
  have hsz : w1.heap.size = w.heap.size + 1 := by rw [hw1]; simp
  have HZ := hide hsz
  subst hw1
  clear hW hO hB hk1 c1 c4 c5 hsz
  go_enter Tryz.func18, Tryz.ntmps18
  go_wp2_with (at_builtin; refine wpList_append_el rfl _ _ rfl (w.heap.size + 1) w.heap.size 0 _ _ W 0 [] rfl (World.ownsRow_nil _ _ _ _) rfl (unhide HW) (by omega) (by have := unhide HZ; omega) ?_)
  intro v1 w2 ys1 ho1 hc1 hk2
  have hk2' := hk2.mono (G := fun _ => False) (fun k _ h => by simp [Value.ownBlock] at h)
  have d2 := (hk2'.cell (o := 2) hs1 id).trans c2
  have d3 := (hk2'.cell (o := 3) hs1 id).trans c3
  have HK2 := hide ((unhide HK1).trans hk2')
  have HO2 := hide ((unhide HO).keepF hk2')
  have HB2 := hide ((unhide HB).keepF hk2')
  have HC1 := hide (Cs.keepF hk2' hc1)
  have hs2 : w.heap.size + 1 ≤ w2.heap.size := by have := unhide HZ; have := hk2'.size; omega
  have HO1 := hide ho1
  clear hk2 hk2' ho1 hc1 HW HO HB HZ c0 c2 c3 hs1 HK1
  go_wp2_with (at_builtin; refine wpList_append_el rfl _ _ rfl (w.heap.size + 1) w.heap.size 0 _ _ O W.len ys1 rfl (unhide HO1) rfl (unhide HO2) (by omega) hs2 ?_)
  intro v2 w3 ys2 ho2 hc2 hk3
  have hge : ∀ q, v1.ownBlock = some q → w.heap.size + 1 ≤ q := fun q e => own_ge (unhide HO1) e
  have d3' := (hk3.cell (o := 3) (show w.heap.size < w2.heap.size by omega) (fun e => by have := hge _ e; omega)).trans d3
  have HK3 := hide ((unhide HK2).trans_of (hk3.below (by omega) (fun q e => by have := hge q e; omega)))
  have HB3 := hide ((unhide HB2).inKeep hk3 (fun q _ (hq : q < w.heap.size) e => by have := hge q e; omega))
  have HC2 := hide (Cs.app (Cs.keepA hk3 (fun q hq e => by have := hge q e; omega) (unhide HC1)) (Cs.keepA hk3 (fun q hq e => by have := hge q e; omega) hc2))
  have hs3 : w.heap.size + 1 ≤ w3.heap.size := by have := hk3.size; omega
  have HO3 := hide ho2
  clear hk3 ho2 hc2 hge HO1 HO2 HB2 HC1 HK2 d2 d3 hs2
  go_wp2_with (at_builtin; refine wpList_append_el rfl _ _ rfl (w.heap.size + 1) w.heap.size 0 _ _ B (W.len + O.len) (ys1 ++ ys2) rfl (unhide HO3) rfl (unhide HB3) (by omega) hs3 ?_)
  intro v3 w4 ys3 ho3 hc3 hk4
  have hge : ∀ q, v2.ownBlock = some q → w.heap.size + 1 ≤ q := fun q e => own_ge (unhide HO3) e
  have HK4 := hide ((unhide HK3).trans_of (hk4.below (by omega) (fun q e => by have := hge q e; omega)))
  have HC3 := hide (Cs.app (Cs.keepA hk4 (fun q hq e => by have := hge q e; omega) (unhide HC2)) (Cs.keepA hk4 (fun q hq e => by have := hge q e; omega) hc3))
  have HO4 := hide ho3
  clear hk4 ho3 hc3 hge HO3 HB3 HC2 HK3
  go_wp2_with fail
  go_ret
  exact ⟨v3, _, rfl, unhide HO4, by have h := unhide HC3; rwa [List.append_assoc] at h, unhide HK4⟩
end Go.Proofs.YtgdabnkjipcbhaaGreatDoor
