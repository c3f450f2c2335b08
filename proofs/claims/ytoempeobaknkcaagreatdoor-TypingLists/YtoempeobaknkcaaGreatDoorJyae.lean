import Derived.Test.YtoempeobaknkcaaGreatDoorJyaw
import Derived.Test.YtoempeobaknkcaaGreatDoorKo
namespace Go.Proofs.YtoempeobaknkcaaGreatDoor
open Go.RowKit Go.Maps

set_option maxRecDepth 100000 in
set_option maxHeartbeats 4000000 in
theorem stmtRules_v (j : Nat) (w : World) :
    Calls Tryz.prog 54 #[.pointer (some ⟨j, 0, none⟩)] w fun e w' => e = .returned (.slice (some ⟨w.heap.size, 0, none⟩) 9 9) ∧ w' = w.alloc (.cells #[.nilFunc, .func (.func 77) #[.pointer (some ⟨j, 0, none⟩)] #[], .func (.func 78) #[.pointer (some ⟨j, 0, none⟩)] #[], .func (.func 78) #[.pointer (some ⟨j, 0, none⟩)] #[], .func (.func 78) #[.pointer (some ⟨j, 0, none⟩)] #[], .func (.func 79) #[.pointer (some ⟨j, 0, none⟩)] #[], .func (.func 80) #[] #[], .func (.func 80) #[] #[], .func (.func 81) #[.pointer (some ⟨j, 0, none⟩)] #[]] 100) := by
  have hmf : ∀ (fn : Fn) (first cap : Array Value) (w : World), (Instr.makeFunc fn first cap).run Tryz.prog w = .ok (.func fn first cap) w := fun _ _ _ _ => rfl
  go_enter Tryz.func54, Tryz.ntmps54
  go_wp2_with fail
  go_ret
  exact ⟨rfl, rfl⟩
end Go.Proofs.YtoempeobaknkcaaGreatDoor
namespace Go.Proofs.YtoempeobaknkcaaGreatDoor
open Go.RowKit Go.Maps

/-- The judge's own block, as it is made. -/
abbrev judgeC (mb : Nat) (x y : Value) : Array Value := #[.map (some mb), x, y]
theorem IntsAt.setJ {w w' : World} {j mb : Nat} {v : Value} {l : List Int} {a b : Option Addr} {n m p q : Nat} (h : IntsAt w v l) (hj : w.heap[j]? = some (.cells (judgeC mb (.slice a n m) (.slice b p q)) 96 (0, 0))) (hk : Keeps (fun x => x = j) w w') : IntsAt w' v l := by
  refine ⟨h.form, fun h0 => ?_, h.room⟩
  obtain ⟨bb, off, cap, e, hb, hc⟩ := RowAt.cells h h0
  refine ⟨bb, off, cap, e, Nat.lt_of_lt_of_le hb hk.size, fun i x hx => ?_⟩
  have hne : ¬ bb = j := by
    intro ej
    subst ej
    obtain ⟨y, hy⟩ : ∃ y, l[0]? = some y := ⟨_, List.getElem?_eq_getElem h0⟩
    have h1 := hc 0 (.int .i64 y) (by simp [ints, hy])
    rw [cell_of_blk hj] at h1
    match off with
    | 0 => simp at h1
    | 1 => simp at h1
    | 2 => simp at h1
    | k + 3 => simp at h1
  rw [hk.cell hb hne]
  exact hc i x hx
theorem RuleV.setJ {w w' : World} {j mb : Nat} {r : RuleA} {fv : Value} {a b : Option Addr} {n m p q : Nat} (h : RuleV w j r fv) (hj : w.heap[j]? = some (.cells (judgeC mb (.slice a n m) (.slice b p q)) 96 (0, 0))) (hk : Keeps (fun x => x = j) w w') : RuleV w' j r fv := by
  have c0 := cell_of_blk hj 0
  simp at c0
  cases r with
  | takes is ts =>
    obtain ⟨tb, ib, tv, e, h1, h2, h3, h4, h5⟩ := h
    obtain ⟨to, tc, rfl⟩ := RowAt.form h5
    have n1 : ¬ ib = j := fun e => by subst e; rw [c0] at h3; cases h3
    have n2 : ¬ tb = j := fun e => by subst e; rw [c0] at h4; cases h4
    exact ⟨tb, ib, _, e, Nat.lt_of_lt_of_le h1 hk.size, Nat.lt_of_lt_of_le h2 hk.size, (hk.cell h1 n1).trans h3, (hk.cell h2 n2).trans h4, h5.setJ hj hk⟩
  | compares ts =>
    obtain ⟨tb, tv, e, h2, h4, h5⟩ := h
    obtain ⟨to, tc, rfl⟩ := RowAt.form h5
    have n2 : ¬ tb = j := fun e => by subst e; rw [c0] at h4; cases h4
    exact ⟨tb, _, e, Nat.lt_of_lt_of_le h2 hk.size, (hk.cell h2 n2).trans h4, h5.setJ hj hk⟩
  | field => exact h
  | has => exact h
  | orElse => exact h
  | pick => exact h
/-- The table of the statements' rules. -/
def stmtC (j : Nat) : Array Value := #[.nilFunc, .func (.func 77) #[.pointer (some ⟨j, 0, none⟩)] #[], .func (.func 78) #[.pointer (some ⟨j, 0, none⟩)] #[], .func (.func 78) #[.pointer (some ⟨j, 0, none⟩)] #[], .func (.func 78) #[.pointer (some ⟨j, 0, none⟩)] #[], .func (.func 79) #[.pointer (some ⟨j, 0, none⟩)] #[], .func (.func 80) #[] #[], .func (.func 80) #[] #[], .func (.func 81) #[.pointer (some ⟨j, 0, none⟩)] #[]]
/-- What a judge holds besides. -/
def StmtsAt (w : World) (j : Nat) : Prop := ∃ t2, w.cell? ⟨j, 2, none⟩ = some (.slice (some ⟨t2, 0, none⟩) 9 9) ∧ w.heap[t2]? = some (.cells (stmtC j) 100 (0, 0))
theorem map_ne_judge {w : World} {mb n j : Nat} {D : DataW Unit} {c : Array Value} {t : TypeId} {fr : Nat × Nat} (h : w.ownsMap Tryz.prog 9 kindElem mb n D) (hj : w.heap[j]? = some (.cells c t fr)) : ¬ mb = j := by
  intro e
  subst e
  obtain ⟨es, clock, hb, _⟩ := h
  rw [hb] at hj
  cases hj

theorem judge_done {w wr w1 w2 : World} {l : List FieldA} {tab n : Nat} (hm : wr.ownsMap Tryz.prog 9 kindElem (w.heap.size + 1) n (mapD (.map []) l)) (hk : Keeps (fun _ => False) w wr) (hk1 : Keeps (fun _ => False) wr w1) (hk2 : Keeps (fun _ => False) w1 w2)
    (hj2 : w2.heap[w.heap.size + 2]? = some (.cells (judgeC (w.heap.size + 1) (.slice none 0 0) (.slice none 0 0)) 96 (0, 0))) (hs2 : w2.heap[w1.heap.size]? = some (.cells (stmtC (w.heap.size + 2)) 100 (0, 0)))
    (hru : RulesAt w1 (w.heap.size + 2) tab) (ht1 : wr.heap.size ≤ tab) (ht2 : tab < w1.heap.size) (hjl : w.heap.size + 2 < wr.heap.size) :
    let w3 := (w2.setCell ⟨w.heap.size + 2, 1, none⟩ (.slice (some ⟨tab, 0, none⟩) 26 26)).setCell ⟨w.heap.size + 2, 2, none⟩ (.slice (some ⟨w1.heap.size, 0, none⟩) 9 9)
    JudgeAt w3 (w.heap.size + 2) (w.heap.size + 1) n tab l ∧ StmtsAt w3 (w.heap.size + 2) ∧ Keeps (fun _ => False) w w3 := by
  intro w3
  have hks : Keeps (fun q => q = w.heap.size + 2) w2 w3 := (keeps_set _ _ _ _).trans (keeps_set _ _ _ _)
  have hb3 : w3.heap[w.heap.size + 2]? = some (.cells (judgeC (w.heap.size + 1) (.slice (some ⟨tab, 0, none⟩) 26 26) (.slice (some ⟨w1.heap.size, 0, none⟩) 9 9)) 96 (0, 0)) := heap_setCell_at (heap_setCell_at hj2 _) _
  have h12 := hk1.size
  have h23 := hk2.size
  have h33 := hks.size
  have hm3 := ownsMap_keep (ownsMap_keep hm (hk1.trans hk2) id) hks (by omega)
  refine ⟨⟨⟨lt_of_block hb3, ?_, hm3⟩, by omega, ?_, ?_⟩, ⟨w1.heap.size, ?_, (hks.block _ (lt_of_block hs2) (by omega)).trans hs2⟩, ((hk.trans hk1).trans hk2).narrow hks (fun q e => by omega)⟩
  · rw [cell_of_blk hb3]; rfl
  · rw [cell_of_blk hb3]; rfl
  · intro m r hr
    obtain ⟨fv, h1, h2⟩ := hru m r hr
    exact ⟨fv, (hks.cell (by omega) (by omega)).trans ((hk2.cell ht2 id).trans h1), (h2.keepF hk2).setJ hj2 hks⟩
  · rw [cell_of_blk hb3]; rfl

set_option maxRecDepth 100000 in
set_option maxHeartbeats 4000000 in
theorem newJudge_v (l : List FieldA) (v : Value) (w : World) (h : FldsAt w v l) (hS : schemaB l = true) :
    Calls Tryz.prog 31 #[.agg #[v]] w fun e w' => ∃ j mb nn tab, e = .returned (.pointer (some ⟨j, 0, none⟩)) ∧ JudgeAt w' j mb nn tab l ∧ StmtsAt w' j ∧ Keeps (fun _ => False) w w' := by
  have hl8 : l.length ≤ 8 := by
    unfold schemaB at hS
    simp only [Bool.and_eq_true, decide_eq_true_eq] at hS
    exact hS.1.1.1.2
  have hnm : ∀ f ∈ l, f.name.length ≤ 8 := by
    unfold schemaB at hS
    simp only [Bool.and_eq_true, decide_eq_true_eq] at hS
    intro f hf
    have := List.all_eq_true.1 hS.1.1.2 f hf
    unfold fieldOK at this
    simp only [Bool.and_eq_true, decide_eq_true_eq] at this
    have h2 := this.1
    unfold nameB at h2
    simp only [Bool.and_eq_true, decide_eq_true_eq] at h2
    exact h2.1.1.1.2
  obtain ⟨ao, cap, rfl⟩ := RowAt.form h
  have HF := hide h
  have hmm := @run_makeMap Tryz.prog
  have HK0 : Hid (Keeps (fun _ => False) w (((w.alloc (.cells #[.slice ao l.length cap] 24)).alloc (.map #[] 0)).alloc (.cells #[.map (some (w.heap.size + 1)), .slice none 0 0, .slice none 0 0] 96))) := (((Keeps.refl _ w).alloc _).alloc _).alloc _
  have e1 : (w.alloc (.cells #[.slice ao l.length cap] 24)).heap.size = w.heap.size + 1 := by simp
  have e2 : ((w.alloc (.cells #[.slice ao l.length cap] 24)).alloc (.map #[] 0)).heap.size = w.heap.size + 2 := by simp
  have HM0 : Hid ((((w.alloc (.cells #[.slice ao l.length cap] 24)).alloc (.map #[] 0)).alloc (.cells #[.map (some (w.heap.size + 1)), .slice none 0 0, .slice none 0 0] 96)).ownsMap Tryz.prog 9 kindElem (w.heap.size + 1) 0 (mapD (.map []) (l.take 0))) := by
    have := World.ownsMap_made (w.alloc (.cells #[.slice ao l.length cap] 24)) Tryz.prog 9 kindElem
    rw [e1] at this
    exact this.alloc _
  have HJ0 : Hid ((((w.alloc (.cells #[.slice ao l.length cap] 24)).alloc (.map #[] 0)).alloc (.cells #[.map (some (w.heap.size + 1)), .slice none 0 0, .slice none 0 0] 96)).heap[w.heap.size + 2]? = some (.cells (judgeC (w.heap.size + 1) (.slice none 0 0) (.slice none 0 0)) 96 (0, 0))) := by
    have := heap_alloc_new ((w.alloc (.cells #[.slice ao l.length cap] 24)).alloc (.map #[] 0)) (.cells #[.map (some (w.heap.size + 1)), .slice none 0 0, .slice none 0 0] 96)
    rw [e2] at this
    exact this
  have b0 : (((w.alloc (.cells #[.slice ao l.length cap] 24)).alloc (.map #[] 0)).alloc (.cells #[.map (some (w.heap.size + 1)), .slice none 0 0, .slice none 0 0] 96)).cell? ⟨w.heap.size, 0, none⟩ = some (.slice ao l.length cap) :=
    cell_past (by rw [e2]; omega) (cell_past (by rw [e1]; omega) (by rw [cell_of_blk (heap_alloc_new w _)]; rfl) _) _
  have HNM := hide hnm
  clear h hS hnm e1 e2
  go_enter Tryz.func31, Tryz.ntmps31
  go_wp2_with fail
  go_loopw [12] (fun i wr => ∃ k : Nat, k ≤ l.length ∧ i = .int .i64 k ∧ wr.ownsMap Tryz.prog 9 kindElem (w.heap.size + 1) k (mapD (.map []) (l.take k)) ∧ wr.heap[w.heap.size + 2]? = some (.cells (judgeC (w.heap.size + 1) (.slice none 0 0) (.slice none 0 0)) 96 (0, 0)) ∧ Keeps (fun _ => False) w wr) (fun i _ => l.length - (intOf i).toNat)
  case atStart => exact ⟨0, Nat.zero_le _, rfl, unhide HM0, unhide HJ0, unhide HK0⟩
  case round =>
    obtain ⟨k, hk, rfl, hmap, hjb, hkp⟩ := hrel
    have HM := hide hmap
    have HJ := hide hjb
    have HK := hide hkp
    clear HM0 HJ0 HK0
    have hjlt : w.heap.size + 2 < wr.heap.size := lt_of_block hjb
    cases h : l[k]? with
    | none =>
      have h1 := get_ge h
      obtain rfl : k = l.length := by omega
      have i1 : ¬ (l.length : Int) < (l.length : Int) := by omega
      clear h h1 hmap hjb hkp
      have HE := hide (exprRules_v (w.heap.size + 2) wr)
      go_wp2_with (first
        | (go_at_call 53; refine (unhide HE).mono ?_; rintro e w1 ⟨tab, rfl, ht1, ht2, hru, hk1⟩; have HT1 := hide ht1; have HT2 := hide ht2; have HRU := hide hru; have HK1 := hide hk1; clear ht1 ht2 hru hk1)
        | (go_at_call 54; refine (stmtRules_v (w.heap.size + 2) _).mono ?_; rintro e w2 ⟨rfl, hw2⟩; have hk2 : Keeps (fun _ => False) w1 w2 := by { rw [hw2]; exact (Keeps.refl _ _).alloc _ }; have hs2 : w2.heap[w1.heap.size]? = some (.cells (stmtC (w.heap.size + 2)) 100 (0, 0)) := by { rw [hw2]; exact heap_alloc_new w1 _ }; have hj2 := (hk2.block _ (Nat.lt_of_lt_of_le hjlt (unhide HK1).size) id).trans (((unhide HK1).block _ hjlt id).trans (unhide HJ)); have m1 := cell_of_blk hj2 1; have m2 := cell_of_blk hj2 2; simp at m1 m2; have g1 := frozen_of_blk hj2 1; have g2 := frozen_of_blk hj2 2; have HK2 := hide hk2; have HS2 := hide hs2; have HJ2 := hide hj2; clear hk2 hs2 hj2 hw2))
      go_ret
      exact ⟨w.heap.size + 2, w.heap.size + 1, l.length, tab, rfl, judge_done (by have := unhide HM; rw [List.take_length] at this; exact this) (unhide HK) (unhide HK1) (unhide HK2) (unhide HJ2) (unhide HS2) (unhide HRU) (unhide HT1) (unhide HT2) hjlt⟩
    | some f =>
      have h1 := get_lt h
      obtain ⟨b, off, c, e, hbl, hc⟩ := (unhide HF).cells (by omega)
      simp at e
      obtain ⟨rfl, rfl⟩ := e
      have q0 := (hkp.cell hbl id).trans (hc k f h).1
      have q1 := (hkp.cell hbl id).trans (hc k f h).2.1
      have q2 := (hkp.cell hbl id).trans (hc k f h).2.2
      obtain ⟨HB, hxb, hxc⟩ := boxed wr #[str f.name, .int .i64 f.type, .bool f.opt] 67
      have HTK := hide (take_snoc _ _ _ h)
      have hfl := (unhide HNM) f (List.mem_of_getElem? h)
      have i1 : (k : Int) < (l.length : Int) := by omega
      have i0 : (0 : Int) ≤ (k : Int) := by omega
      obtain ⟨w1, hrun, hm1, hturn⟩ := World.ownsMap.store (w := (wr.alloc (.cells #[str f.name, .int .i64 f.type, .bool f.opt] 67)).drew) ((hmap.alloc _).drew) strKeyed Tryz.underlying92 (by unfold maxLen; omega) (keyStr (s := f.name) (by omega)) (kindElem_mk ⟨f.type, f.opt⟩)
      have hgr := hturn.grown
      have hka : Keeps (fun q => q = w.heap.size + 1) (wr.alloc (.cells #[str f.name, .int .i64 f.type, .bool f.opt] 67)) w1 := (Keeps.refl _ _).drew.trans ((Keeps.refl _ _).grown hgr (fun q e _ => by simpa using e.symm))
      have hjw : (wr.alloc (.cells #[str f.name, .int .i64 f.type, .bool f.opt] 67)).heap[w.heap.size + 2]? = some (.cells (judgeC (w.heap.size + 1) (.slice none 0 0) (.slice none 0 0)) 96 (0, 0)) := ((unhide HB).block _ hjlt id).trans hjb
      have hjc := cell_of_blk hjw 0
      simp at hjc
      have hj2lt : w.heap.size + 2 < (wr.alloc (.cells #[str f.name, .int .i64 f.type, .bool f.opt] 67)).heap.size := lt_of_block hjw
      have SK : ∀ w', Keeps (fun q => q = w.heap.size + 1) (wr.alloc (.cells #[str f.name, .int .i64 f.type, .bool f.opt] 67)) w' → w'.cell? ⟨w.heap.size + 2, 0, none⟩ = some (.map (some (w.heap.size + 1))) ∧ w'.cell? ⟨wr.heap.size, 0, none⟩ = some (str f.name) ∧ w'.cell? ⟨wr.heap.size, 1, none⟩ = some (.int .i64 f.type) ∧ w'.cell? ⟨wr.heap.size, 2, none⟩ = some (.bool f.opt) := fun w' hk' =>
        ⟨(hk'.cell hj2lt (by omega)).trans hjc, (hk'.cell hxb (by omega)).trans (hxc 0 _ rfl), (hk'.cell hxb (by omega)).trans (hxc 1 _ rfl), (hk'.cell hxb (by omega)).trans (hxc 2 _ rfl)⟩
      have d := SK (wr.alloc (.cells #[str f.name, .int .i64 f.type, .bool f.opt] 67)).drew (Keeps.refl _ _).drew
      have d1 := SK w1 hka
      have HKA := hide hka
      have HJW := hide hjw
      have HM1 := hide hm1
      clear h hc hkp hmap hjb hxc hgr hturn hka hjw hjc SK hm1
      go_wp2_with fail
      go_region_held3 (fun w' => w'.cell? ⟨w.heap.size + 2, 0, none⟩ = some (.map (some (w.heap.size + 1))) ∧ w'.cell? ⟨wr.heap.size, 0, none⟩ = some (str f.name) ∧ w'.cell? ⟨wr.heap.size, 1, none⟩ = some (.int .i64 f.type) ∧ w'.cell? ⟨wr.heap.size, 2, none⟩ = some (.bool f.opt)) (first | with_reducible exact d | with_reducible exact d1) (fail)
      go_wp2_with fail
      go_roundw
      case rel =>
        refine ⟨k + 1, by omega, by go_num, ?_, ((unhide HKA).block _ hj2lt (by omega)).trans (unhide HJW), ((unhide HK).trans (unhide HB)).narrow (unhide HKA) (fun q e => by omega)⟩
        rw [unhide HTK, mapD_snoc]
        exact unhide HM1
      case measure => simp [intOf]; omega
end Go.Proofs.YtoempeobaknkcaaGreatDoor
