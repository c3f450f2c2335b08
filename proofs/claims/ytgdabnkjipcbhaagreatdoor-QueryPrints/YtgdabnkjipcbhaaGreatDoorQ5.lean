import Derived.Test.YtgdabnkjipcbhaaGreatDoorQ4
import Derived.Test.YtgdabnkjipcbhaaGreatDoorWx
import Derived.Laws.EntriesVeiled
namespace Go.Proofs.YtgdabnkjipcbhaaGreatDoor
open Go.RowKit Go.Maps

/-- All five cells of a block are written. -/
def set5 (w : World) (g : Nat) (x0 x1 x2 x3 x4 : Value) : World := ((((w.setCell ⟨g, 0, none⟩ x0).setCell ⟨g, 1, none⟩ x1).setCell ⟨g, 2, none⟩ x2).setCell ⟨g, 3, none⟩ x3).setCell ⟨g, 4, none⟩ x4
theorem set5_blk {w : World} {g : Nat} {c0 c1 c2 c3 c4 : Value} {t : TypeId} (h : w.heap[g]? = some (.cells #[c0, c1, c2, c3, c4] t (0, 0))) (x0 x1 x2 x3 x4 : Value) : (set5 w g x0 x1 x2 x3 x4).heap[g]? = some (.cells #[x0, x1, x2, x3, x4] t (0, 0)) ∧ Keeps (fun k => k = g) w (set5 w g x0 x1 x2 x3 x4) := by
  have h0 := heap_setCell_at (o := 0) h x0
  have h1 := heap_setCell_at (o := 1) h0 x1
  have h2 := heap_setCell_at (o := 2) h1 x2
  have h3 := heap_setCell_at (o := 3) h2 x3
  have h4 := heap_setCell_at (o := 4) h3 x4
  exact ⟨h4, ((((keeps_set w g 0 x0).trans (keeps_set _ g 1 x1)).trans (keeps_set _ g 2 x2)).trans (keeps_set _ g 3 x3)).trans (keeps_set _ g 4 x4)⟩
theorem keeps_row (w : World) (g : Nat) (cs : Array Value) : Keeps (fun q => q = g) w (w.setRow g cs) := ⟨rfl, rfl, rfl, by simp, fun k _ hk => setRow_other w g k _ hk⟩
/-- A struct in a box and a slot, handed back. -/
theorem results_cr {P : Program} {fn : Func} {p q : Tmp} {ty : TypeId} (h : fn.results = #[.cell p ty, .tmp q]) (tmps : Array Value) (w : World) (g : Nat) (t : TypeId) (cs : Array Value) (fr : Nat × Nat) (d : TypeDesc) (v : Value)
    (hp : tmps.getD p undef = .pointer (some ⟨g, 0, none⟩)) (hq : tmps.getD q undef = v) (hg : w.heap[g]? = some (.cells cs t fr))
    (hu : P.underlying ty = some d) (hd : (match d with | .struct _ | .array _ _ => true | _ => false) = true) (hi : (P.info? ty).map (·.size) = some cs.size) :
    (results fn tmps).run P w = .ok (.tuple #[.agg cs, v]) w := by
  have hp' : tmps[p]?.getD undef = .pointer (some ⟨g, 0, none⟩) := by simpa using hp
  have hq' : tmps[q]?.getD undef = v := by simpa using hq
  simp [results, h, hp', hq', asAddr, run_loadVar_row w g t ty cs fr d hg hu hd hi]
section
variable {Q : Exit → Act → World → Prop} {K : Act → World → Prop} {o : Oper} {a : Act} {w : World}
set_option maxRecDepth 100000 in
theorem step_c27 {t s : Nat} {x y : Array Value} {b : Bool} (ho : o.op = .call { callee := .value (.func 27), args := #[.tmp t, .tmp s], argTypes := #[40, 24] }) (ht : a.tmps.getD t undef = .agg x) (hs : a.tmps.getD s undef = .agg y) (hc : Calls Tryz.prog 27 #[.agg x, .agg y] w fun e w' => e = .returned (.bool b) ∧ Keeps (fun _ => False) w w')
    (hk : ∀ w', Keeps (fun _ => False) w w' → K (a.put o.dst (.bool b)) w') : Oper.wp Tryz.prog o a w K Q := by
  have he := slot_of ht
  have hf := slot_of hs
  unfold Oper.wp
  simp [execOp, ho, he, hf, go_sem]
  refine hc.mono ?_
  rintro e w' ⟨rfl, h2⟩
  exact hk _ h2
end
set_option maxRecDepth 100000 in
set_option maxHeartbeats 8000000 in
theorem verbOf_v (wa oa ba : Option Addr) (nw no nb wc oc bc : Nat) (k l : Int) (d : Bool) (w : World) :
    Calls Tryz.prog 12 #[qV (.slice wa nw wc) k (.slice oa no oc) (.slice ba nb bc) d l] w fun e w' => ∃ (vk tok : Int) (s : Txt) (ao : Option Addr) (n c : Nat) (f : Value), e = .returned (.tuple #[vbV vk tok s (.slice ao n c) f, .bool (wellQ k nw no nb d l)]) ∧ (f = .nilFunc ∨ ∃ fn ca, f = .func fn #[] ca) ∧ (wellQ k nw no nb d l = true → vk = k ∧ s = verbT k ∧ ∃ fn ca, f = .func fn #[] ca) ∧ Keeps (fun _ => False) w w' := by
  have hmf : ∀ (fn : Fn) (first cap : Array Value) (w : World), (Instr.makeFunc fn first cap).run Tryz.prog w = .ok (.func fn first cap) w := fun _ _ _ _ => rfl
  by_cases hr : 1 ≤ k ∧ k ≤ 7
  · obtain ⟨m, rfl⟩ : ∃ m : Nat, k = (m : Int) + 1 := ⟨(k - 1).toNat, by omega⟩
    have hm7 : m < 7 := by omega
    go_enter Tryz.func12, Tryz.ntmps12
    go_wp2_with fail
    refine (verbs_v _).mono ?_
    rintro e w1 ⟨g, rfl, hg, hV, hk⟩
    have e0 : (w.alloc (.cells #[.slice wa nw wc, .int .i64 ((m : Int) + 1), .slice oa no oc, .slice ba nb bc, .bool d, .int .i64 l] 24)).heap.size = w.heap.size + 1 := by simp
    have hq : w1.heap[w.heap.size]? = some (.cells #[.slice wa nw wc, .int .i64 ((m : Int) + 1), .slice oa no oc, .slice ba nb bc, .bool d, .int .i64 l] 24 (0, 0)) := by
      rw [hk.block w.heap.size (by simp; omega) id, ((Keeps.refl (fun _ => False) _).alloc _).block w.heap.size (by simp) id]
      exact heap_alloc_new w _
    have hz : w1.heap[w.heap.size + 1]? = some (.cells #[.int .i64 0, .int .i64 0, .string ⟨#[]⟩, .slice none 0 0, .nilFunc] 40 (0, 0)) := by
      rw [hk.block (w.heap.size + 1) (by simp) id, ← e0]
      exact heap_alloc_new _ _
    have hkw : Keeps (fun _ => False) w w1 := (((Keeps.refl _ w).alloc _).alloc _).trans hk
    have HI := hide (index_v ((m : Int) + 1) g w.heap.size w1 hV ((cell_of_blk hq 1).trans rfl) (lt_of_block hq))
    rw [if_pos hr, show (m : Int) + 1 - 1 = (m : Int) by omega] at HI
    have HV := hide hV
    have HKW := hide hkw
    have HQ := hide hq
    have HZ := hide hz
    have hgw : w.heap.size + 2 ≤ g := by simpa using hg
    clear hV hkw hq hz hk hg e0
    go_wp2_with fail
    refine (unhide HI).mono ?_
    rintro e w2 ⟨rfl, hk2⟩
    obtain ⟨tok, n, c, ao, fn, ca, h1, h2, h3, h4, h5, h6⟩ := ((unhide HV).keepF hk2).2 m hm7
    have i0 : ¬ (m : Int) < 0 := by omega
    have i1 : (m : Int) < 7 := by omega
    have i2 : (0 : Int) ≤ (m : Int) := by omega
    have HQ2 := hide ((hk2.block _ (lt_of_block (unhide HQ)) id).trans (unhide HQ))
    have HZ2 := hide ((hk2.block _ (lt_of_block (unhide HZ)) id).trans (unhide HZ))
    have HK2 := hide ((unhide HKW).trans hk2)
    clear hk2 HI HQ HZ HKW
    have hw2 : w.heap.size + 2 ≤ w2.heap.size := by have := lt_of_block (unhide HZ2); omega
    have hka : Keeps (fun _ => False) w2 (w2.alloc (.cells #[.int .i64 ((m : Int) + 1), .int .i64 tok, str (verbT ((m : Int) + 1)), .slice ao n c, .func fn #[] ca] 40)) := (Keeps.refl _ w2).alloc _
    have HT := hide (heap_alloc_new w2 (.cells #[.int .i64 ((m : Int) + 1), .int .i64 tok, str (verbT ((m : Int) + 1)), .slice ao n c, .func fn #[] ca] 40))
    have HQ3 := hide ((hka.block _ (lt_of_block (unhide HQ2)) id).trans (unhide HQ2))
    have HZ3 := hide ((hka.block _ (lt_of_block (unhide HZ2)) id).trans (unhide HZ2))
    have HK3 := hide ((unhide HK2).trans hka)
    have hff := fun W' => fits_v wa oa ba ao nw no nb wc oc bc n c ((m : Int) + 1) l tok (verbT ((m : Int) + 1)) (.func fn #[] ca) d W' (by omega) (by omega) (by rw [h6]; omega)
    clear hka HQ2 HZ2 HK2
    go_upto_region 6 with fail
    rename_i Q0 K0 hc0
    refine wp_region_two (X := w2.alloc (.cells #[.int .i64 ((m : Int) + 1), .int .i64 tok, str (verbT ((m : Int) + 1)), .slice ao n c, .func fn #[] ca] 40)) (by kernel_rfl) 4 rfl _ _ rfl rfl rfl rfl (by decide) (by decide) (by kernel_rfl) (by kernel_rfl) [18, 19, 20, 21] (by decide) rfl (by first | rfl | kernel_rfl | simp [opsB]) (Keeps.refl _ _) (fun i v _ => match i with | 0 => v = .agg #[.int .i64 ((m : Int) + 1), .int .i64 tok, str (verbT ((m : Int) + 1)), .slice ao n c, .func fn #[] ca] | 1 => v = .agg #[.int .i64 ((m : Int) + 1), .int .i64 tok, str (verbT ((m : Int) + 1)), .slice ao n c, .func fn #[] ca] | 2 => v = .agg #[.slice wa nw wc, .int .i64 ((m : Int) + 1), .slice oa no oc, .slice ba nb bc, .bool d, .int .i64 l] | _ => v = .bool (wellQ ((m : Int) + 1) nw no nb d l)) ?_ ?_ ?_
    · intro i v w1 w2 hq hk
      rcases i with _ | _ | _ | i
      all_goals exact hq
    · intro i o A W1 him ho hs hk hd K' hK
      rcases i with _ | _ | _ | _ | i
      · obtain rfl := Option.some.inj ho
        exact wp_load_row 40 (.tmp 6) rfl w2.heap.size ((hs.at rfl 6 (by decide)).trans rfl) 40 _ (0, 0) _ ((hk.block _ (lt_of_block (unhide HT)) id).trans (unhide HT)) Tryz.underlying40 rfl (by kernel_rfl) (hK _ _ rfl (Keeps.refl _ _))
      · obtain rfl := Option.some.inj ho
        exact wp_load_row 40 (.tmp 6) rfl w2.heap.size ((hs.at rfl 6 (by decide)).trans rfl) 40 _ (0, 0) _ ((hk.block _ (lt_of_block (unhide HT)) id).trans (unhide HT)) Tryz.underlying40 rfl (by kernel_rfl) (hK _ _ rfl (Keeps.refl _ _))
      · obtain rfl := Option.some.inj ho
        exact wp_load_row 24 (.tmp 1) rfl w.heap.size ((hs.at rfl 1 (by decide)).trans rfl) 24 _ (0, 0) _ ((hk.block _ (lt_of_block (unhide HQ3)) id).trans (unhide HQ3)) Tryz.underlying24 rfl (by kernel_rfl) (hK _ _ rfl (Keeps.refl _ _))
      · obtain rfl := Option.some.inj ho
        exact step_c27 rfl (hd ⟨1, .data⟩ (by simp) rfl) (hd ⟨2, .data⟩ (by simp) rfl) (hff W1) (fun w' q => hK _ _ rfl q)
      · omega
    · intro A2 V hs hk hall K' hK
      have w18 : A2.tmps.getD 18 undef = .agg #[.int .i64 ((m : Int) + 1), .int .i64 tok, str (verbT ((m : Int) + 1)), .slice ao n c, .func fn #[] ca] := hall 0 (by decide)
      have w19 : A2.tmps.getD 19 undef = .agg #[.int .i64 ((m : Int) + 1), .int .i64 tok, str (verbT ((m : Int) + 1)), .slice ao n c, .func fn #[] ca] := hall 1 (by decide)
      have w20 : A2.tmps.getD 20 undef = .agg #[.slice wa nw wc, .int .i64 ((m : Int) + 1), .slice oa no oc, .slice ba nb bc, .bool d, .int .i64 l] := hall 2 (by decide)
      have w21 : A2.tmps.getD 21 undef = .bool (wellQ ((m : Int) + 1) nw no nb d l) := hall 3 (by decide)
      have hA := same_fold hs rfl
      simp only [List.foldl_cons, List.foldl_nil, w18, w19, w20, w21] at hA
      simp only [Act.put, List.setIfInBounds_toArray, List.set_cons_zero, List.set_cons_succ] at hA
      have hZV := (hk.block _ (lt_of_block (unhide HZ3)) id).trans (unhide HZ3)
      refine wp_store_row 40 (.tmp 2) (.tmp 18) rfl (w.heap.size + 1) _ ((hs.at rfl 2 (by decide)).trans rfl) w18 40 _ hZV (by kernel_rfl) rfl (by simp [Value.oneCell']) ?_
      have hsr := setRow_heap V (w.heap.size + 1) _ #[.int .i64 ((m : Int) + 1), .int .i64 tok, str (verbT ((m : Int) + 1)), .slice ao n c, .func fn #[] ca] 40 (0, 0) hZV
      have HKV : Hid (Keeps (fun _ => False) w (V.setRow (w.heap.size + 1) #[.int .i64 ((m : Int) + 1), .int .i64 tok, str (verbT ((m : Int) + 1)), .slice ao n c, .func fn #[] ca])) := hide (((unhide HK3).trans hk).narrow (keeps_row V (w.heap.size + 1) _) (fun q e => by omega))
      refine hK A2 _ (fun K2 hK2 => ?_)
      refine step_assign rfl w21 (hK2 (A2.put (some 3) (.bool (wellQ ((m : Int) + 1) nw no nb d l))) _ (hc0 _ _ ?_))
      rw [hA]
      simp only [Act.put, List.setIfInBounds_toArray, List.set_cons_zero, List.set_cons_succ]
      have HSR := hide hsr
      generalize V.setRow (w.heap.size + 1) #[.int .i64 ((m : Int) + 1), .int .i64 tok, str (verbT ((m : Int) + 1)), .slice ao n c, .func fn #[] ca] = V2 at *
      clear hs hk hall hK hK2 hA hZV hsr w18 w19 w20 w21 hff
      go_wp2_with fail
      exact bodyPost_ret (results_cr rfl _ _ (w.heap.size + 1) 40 _ (0, 0) _ _ rfl rfl (unhide HSR) Tryz.underlying40 rfl (by kernel_rfl)) rfl ⟨_, _, _, _, _, _, _, rfl, Or.inr ⟨_, _, rfl⟩, fun _ => ⟨rfl, rfl, _, _, rfl⟩, unhide HKV⟩
  · have hw : wellQ k nw no nb d l = false := by
      unfold wellQ
      rcases (by omega : k < 1 ∨ 7 < k) with h | h
      · rw [decide_eq_false (show ¬ 1 ≤ k by omega)]; simp
      · rw [decide_eq_false (show ¬ k ≤ 7 by omega)]; simp
    rw [hw]
    go_enter Tryz.func12, Tryz.ntmps12
    go_wp2_with fail
    refine (verbs_v _).mono ?_
    rintro e w1 ⟨g, rfl, hg, hV, hk⟩
    have e0 : (w.alloc (.cells #[.slice wa nw wc, .int .i64 k, .slice oa no oc, .slice ba nb bc, .bool d, .int .i64 l] 24)).heap.size = w.heap.size + 1 := by simp
    have hq : w1.heap[w.heap.size]? = some (.cells #[.slice wa nw wc, .int .i64 k, .slice oa no oc, .slice ba nb bc, .bool d, .int .i64 l] 24 (0, 0)) := by
      rw [hk.block w.heap.size (by simp; omega) id, ((Keeps.refl (fun _ => False) _).alloc _).block w.heap.size (by simp) id]
      exact heap_alloc_new w _
    have hz : w1.heap[w.heap.size + 1]? = some (.cells #[.int .i64 0, .int .i64 0, .string ⟨#[]⟩, .slice none 0 0, .nilFunc] 40 (0, 0)) := by
      rw [hk.block (w.heap.size + 1) (by simp) id, ← e0]
      exact heap_alloc_new _ _
    have hkw : Keeps (fun _ => False) w w1 := (((Keeps.refl _ w).alloc _).alloc _).trans hk
    have HI := hide (index_v k g w.heap.size w1 hV ((cell_of_blk hq 1).trans rfl) (lt_of_block hq))
    rw [if_neg hr] at HI
    have HKW := hide hkw
    have HZ := hide hz
    clear hV hkw hq hz hk hg e0
    go_wp2_with fail
    refine (unhide HI).mono ?_
    rintro e w2 ⟨rfl, hk2⟩
    have HZ2 := hide ((hk2.block _ (lt_of_block (unhide HZ)) id).trans (unhide HZ))
    have HK2 := hide ((unhide HKW).trans hk2)
    clear hk2 HI HZ HKW
    have hz := unhide HZ2
    have z0 := (cell_of_blk hz 0).trans (show _ = some (Value.int .i64 0) from rfl)
    have z1 := (cell_of_blk hz 1).trans (show _ = some (Value.int .i64 0) from rfl)
    have z2 := (cell_of_blk hz 2).trans (show _ = some (Value.string ⟨#[]⟩) from rfl)
    have z3 := (cell_of_blk hz 3).trans (show _ = some (Value.slice none 0 0) from rfl)
    have z4 := (cell_of_blk hz 4).trans (show _ = some Value.nilFunc from rfl)
    have zf : ∀ j, w2.frozen? ⟨w.heap.size + 1, j, none⟩ = false := fun j => Lib.frozen_of_heap hz j
    clear hz
    go_wp2_with fail
    obtain ⟨hb5, hk5⟩ := set5_blk (unhide HZ2) (.int .i64 0) (.int .i64 0) (.string ⟨#[]⟩) (.slice none 0 0) .nilFunc
    have HKV := hide ((unhide HK2).narrow hk5 (fun q e => by omega))
    exact bodyPost_ret (results_cr rfl _ (set5 w2 (w.heap.size + 1) (.int .i64 0) (.int .i64 0) (.string ⟨#[]⟩) (.slice none 0 0) .nilFunc) (w.heap.size + 1) 40 _ (0, 0) _ _ rfl rfl hb5 Tryz.underlying40 rfl (by kernel_rfl)) rfl ⟨_, _, [], _, _, _, _, rfl, Or.inl rfl, fun h => (by cases h), unhide HKV⟩
end Go.Proofs.YtgdabnkjipcbhaaGreatDoor
