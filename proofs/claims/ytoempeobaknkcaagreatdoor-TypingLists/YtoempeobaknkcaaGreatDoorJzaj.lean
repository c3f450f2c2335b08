import Derived.Test.YtoempeobaknkcaaGreatDoorKo
import Derived.Test.YtoempeobaknkcaaGreatDoorJzai
import Derived.Test.YtoempeobaknkcaaGreatDoorJzaf
import Derived.Test.YtoempeobaknkcaaGreatDoorKh
namespace Go.Proofs.YtoempeobaknkcaaGreatDoor
open Go.RowKit Go.Maps

/-- The judge's own block, as it is made. -/
abbrev judgeC (mb : Nat) (x y : Value) : Array Value := #[.map (some mb), x, y]
theorem IntsAt.setJ {w w' : World} {j mb : Nat} {v : Value} {l : List Int} {a b : Option Addr} {n m p q : Nat} (h : IntsAt w v l) (hj : w.heap[j]? = some (.cells (judgeC mb (.slice a n m) (.slice b p q)) 96 (0, 0))) (hk : Keeps (fun x => x = j) w w') : IntsAt w' v l := by
  refine ⟨h.form, fun h0 => ?_, h.room⟩
  obtain ⟨bb, off, cap, e, hb, hc⟩ := RowAt.cells h h0
  refine ⟨bb, off, cap, e, Nat.lt_of_lt_of_le hb hk.size, fun i x hx => ?_⟩
  have hne : ¬ bb = j := by
    intro ej
    subst ej
    obtain ⟨y, hy⟩ : ∃ y, l[0]? = some y := ⟨_, List.getElem?_eq_getElem h0⟩
    have h1 := hc 0 (.int .i64 y) (by simp [ints, hy])
    rw [cell_of_blk hj] at h1
    match off with
    | 0 => simp at h1
    | 1 => simp at h1
    | 2 => simp at h1
    | k + 3 => simp at h1
  rw [hk.cell hb hne]
  exact hc i x hx
theorem RuleV.setJ {w w' : World} {j mb : Nat} {r : RuleA} {fv : Value} {a b : Option Addr} {n m p q : Nat} (h : RuleV w j r fv) (hj : w.heap[j]? = some (.cells (judgeC mb (.slice a n m) (.slice b p q)) 96 (0, 0))) (hk : Keeps (fun x => x = j) w w') : RuleV w' j r fv := by
  have c0 := cell_of_blk hj 0
  simp at c0
  cases r with
  | takes is ts =>
    obtain ⟨tb, ib, tv, e, h1, h2, h3, h4, h5⟩ := h
    obtain ⟨to, tc, rfl⟩ := RowAt.form h5
    have n1 : ¬ ib = j := fun e => by subst e; rw [c0] at h3; cases h3
    have n2 : ¬ tb = j := fun e => by subst e; rw [c0] at h4; cases h4
    exact ⟨tb, ib, _, e, Nat.lt_of_lt_of_le h1 hk.size, Nat.lt_of_lt_of_le h2 hk.size, (hk.cell h1 n1).trans h3, (hk.cell h2 n2).trans h4, h5.setJ hj hk⟩
  | compares ts =>
    obtain ⟨tb, tv, e, h2, h4, h5⟩ := h
    obtain ⟨to, tc, rfl⟩ := RowAt.form h5
    have n2 : ¬ tb = j := fun e => by subst e; rw [c0] at h4; cases h4
    exact ⟨tb, _, e, Nat.lt_of_lt_of_le h2 hk.size, (hk.cell h2 n2).trans h4, h5.setJ hj hk⟩
  | field => exact h
  | has => exact h
  | orElse => exact h
  | pick => exact h
/-- The table of the statements' rules. -/
def stmtC (j : Nat) : Array Value := #[.nilFunc, .func (.func 77) #[.pointer (some ⟨j, 0, none⟩)] #[], .func (.func 78) #[.pointer (some ⟨j, 0, none⟩)] #[], .func (.func 78) #[.pointer (some ⟨j, 0, none⟩)] #[], .func (.func 78) #[.pointer (some ⟨j, 0, none⟩)] #[], .func (.func 79) #[.pointer (some ⟨j, 0, none⟩)] #[], .func (.func 80) #[] #[], .func (.func 80) #[] #[], .func (.func 81) #[.pointer (some ⟨j, 0, none⟩)] #[]]
/-- What a judge holds besides. -/
def StmtsAt (w : World) (j : Nat) : Prop := ∃ t2, w.cell? ⟨j, 2, none⟩ = some (.slice (some ⟨t2, 0, none⟩) 9 9) ∧ w.heap[t2]? = some (.cells (stmtC j) 100 (0, 0))
theorem map_ne_judge {w : World} {mb n j : Nat} {D : DataW Unit} {c : Array Value} {t : TypeId} {fr : Nat × Nat} (h : w.ownsMap Tryz.prog 9 kindElem mb n D) (hj : w.heap[j]? = some (.cells c t fr)) : ¬ mb = j := by
  intro e
  subst e
  obtain ⟨es, clock, hb, _⟩ := h
  rw [hb] at hj
  cases hj

theorem judge_done {w wr w1 w2 : World} {l : List FieldA} {tab n : Nat} (hm : wr.ownsMap Tryz.prog 9 kindElem (w.heap.size + 1) n (mapD (.map []) l)) (hk : Keeps (fun _ => False) w wr) (hk1 : Keeps (fun _ => False) wr w1) (hk2 : Keeps (fun _ => False) w1 w2)
    (hj2 : w2.heap[w.heap.size + 2]? = some (.cells (judgeC (w.heap.size + 1) (.slice none 0 0) (.slice none 0 0)) 96 (0, 0))) (hs2 : w2.heap[w1.heap.size]? = some (.cells (stmtC (w.heap.size + 2)) 100 (0, 0)))
    (hru : RulesAt w1 (w.heap.size + 2) tab) (ht1 : wr.heap.size ≤ tab) (ht2 : tab < w1.heap.size) (hjl : w.heap.size + 2 < wr.heap.size) :
    let w3 := (w2.setCell ⟨w.heap.size + 2, 1, none⟩ (.slice (some ⟨tab, 0, none⟩) 26 26)).setCell ⟨w.heap.size + 2, 2, none⟩ (.slice (some ⟨w1.heap.size, 0, none⟩) 9 9)
    JudgeAt w3 (w.heap.size + 2) (w.heap.size + 1) n tab l ∧ StmtsAt w3 (w.heap.size + 2) ∧ Keeps (fun _ => False) w w3 := by
  intro w3
  have hks : Keeps (fun q => q = w.heap.size + 2) w2 w3 := (keeps_set _ _ _ _).trans (keeps_set _ _ _ _)
  have hb3 : w3.heap[w.heap.size + 2]? = some (.cells (judgeC (w.heap.size + 1) (.slice (some ⟨tab, 0, none⟩) 26 26) (.slice (some ⟨w1.heap.size, 0, none⟩) 9 9)) 96 (0, 0)) := heap_setCell_at (heap_setCell_at hj2 _) _
  have h12 := hk1.size
  have h23 := hk2.size
  have h33 := hks.size
  have hm3 := ownsMap_keep (ownsMap_keep hm (hk1.trans hk2) id) hks (by omega)
  refine ⟨⟨⟨lt_of_block hb3, ?_, hm3⟩, by omega, ?_, ?_⟩, ⟨w1.heap.size, ?_, (hks.block _ (lt_of_block hs2) (by omega)).trans hs2⟩, ((hk.trans hk1).trans hk2).narrow hks (fun q e => by omega)⟩
  · rw [cell_of_blk hb3]; rfl
  · rw [cell_of_blk hb3]; rfl
  · intro m r hr
    obtain ⟨fv, h1, h2⟩ := hru m r hr
    exact ⟨fv, (hks.cell (by omega) (by omega)).trans ((hk2.cell ht2 id).trans h1), (h2.keepF hk2).setJ hj2 hks⟩
  · rw [cell_of_blk hb3]; rfl

set_option maxRecDepth 100000 in
set_option maxHeartbeats 4000000 in
theorem newJudge_v (l : List FieldA) (v : Value) (w : World) (h : FldsAt w v l) (hS : schemaB l = true) :
    Calls Tryz.prog 31 #[.agg #[v]] w fun e w' => ∃ j mb nn tab, e = .returned (.pointer (some ⟨j, 0, none⟩)) ∧ JudgeAt w' j mb nn tab l ∧ StmtsAt w' j ∧ Keeps (fun _ => False) w w' := by
  have hl8 : l.length ≤ 8 := by
    unfold schemaB at hS
    simp only [Bool.and_eq_true, decide_eq_true_eq] at hS
    exact hS.1.1.1.2
  have hnm : ∀ f ∈ l, f.name.length ≤ 8 := by
    unfold schemaB at hS
    simp only [Bool.and_eq_true, decide_eq_true_eq] at hS
    intro f hf
    have := List.all_eq_true.1 hS.1.1.2 f hf
    unfold fieldOK at this
    simp only [Bool.and_eq_true, decide_eq_true_eq] at this
    have h2 := this.1
    unfold nameB at h2
    simp only [Bool.and_eq_true, decide_eq_true_eq] at h2
    exact h2.1.1.1.2
  obtain ⟨ao, cap, rfl⟩ := RowAt.form h
  have HF := hide h
  have hmm := @run_makeMap Tryz.prog
  have HK0 : Hid (Keeps (fun _ => False) w (((w.alloc (.cells #[.slice ao l.length cap] 24)).alloc (.map #[] 0)).alloc (.cells #[.map (some (w.heap.size + 1)), .slice none 0 0, .slice none 0 0] 96))) := (((Keeps.refl _ w).alloc _).alloc _).alloc _
  have e1 : (w.alloc (.cells #[.slice ao l.length cap] 24)).heap.size = w.heap.size + 1 := by simp
  have e2 : ((w.alloc (.cells #[.slice ao l.length cap] 24)).alloc (.map #[] 0)).heap.size = w.heap.size + 2 := by simp
  have HM0 : Hid ((((w.alloc (.cells #[.slice ao l.length cap] 24)).alloc (.map #[] 0)).alloc (.cells #[.map (some (w.heap.size + 1)), .slice none 0 0, .slice none 0 0] 96)).ownsMap Tryz.prog 9 kindElem (w.heap.size + 1) 0 (mapD (.map []) (l.take 0))) := by
    have := World.ownsMap_made (w.alloc (.cells #[.slice ao l.length cap] 24)) Tryz.prog 9 kindElem
    rw [e1] at this
    exact this.alloc _
  have HJ0 : Hid ((((w.alloc (.cells #[.slice ao l.length cap] 24)).alloc (.map #[] 0)).alloc (.cells #[.map (some (w.heap.size + 1)), .slice none 0 0, .slice none 0 0] 96)).heap[w.heap.size + 2]? = some (.cells (judgeC (w.heap.size + 1) (.slice none 0 0) (.slice none 0 0)) 96 (0, 0))) := by
    have := heap_alloc_new ((w.alloc (.cells #[.slice ao l.length cap] 24)).alloc (.map #[] 0)) (.cells #[.map (some (w.heap.size + 1)), .slice none 0 0, .slice none 0 0] 96)
    rw [e2] at this
    exact this
  have b0 : (((w.alloc (.cells #[.slice ao l.length cap] 24)).alloc (.map #[] 0)).alloc (.cells #[.map (some (w.heap.size + 1)), .slice none 0 0, .slice none 0 0] 96)).cell? ⟨w.heap.size, 0, none⟩ = some (.slice ao l.length cap) :=
    cell_past (by rw [e2]; omega) (cell_past (by rw [e1]; omega) (by rw [cell_of_blk (heap_alloc_new w _)]; rfl) _) _
  have HNM := hide hnm
  clear h hS hnm e1 e2
  go_enter Tryz.func31, Tryz.ntmps31
  go_wp2_with fail
  go_loopw [12] (fun i wr => ∃ k : Nat, k ≤ l.length ∧ i = .int .i64 k ∧ wr.ownsMap Tryz.prog 9 kindElem (w.heap.size + 1) k (mapD (.map []) (l.take k)) ∧ wr.heap[w.heap.size + 2]? = some (.cells (judgeC (w.heap.size + 1) (.slice none 0 0) (.slice none 0 0)) 96 (0, 0)) ∧ Keeps (fun _ => False) w wr) (fun i _ => l.length - (intOf i).toNat)
  case atStart => exact ⟨0, Nat.zero_le _, rfl, unhide HM0, unhide HJ0, unhide HK0⟩
  case round =>
    obtain ⟨k, hk, rfl, hmap, hjb, hkp⟩ := hrel
    have HM := hide hmap
    have HJ := hide hjb
    have HK := hide hkp
    clear HM0 HJ0 HK0
    have hjlt : w.heap.size + 2 < wr.heap.size := lt_of_block hjb
    cases h : l[k]? with
    | none =>
      have h1 := get_ge h
      obtain rfl : k = l.length := by omega
      have i1 : ¬ (l.length : Int) < (l.length : Int) := by omega
      clear h h1 hmap hjb hkp
      have HE := hide (exprRules_v (w.heap.size + 2) wr)
      go_wp2_with (first
        | (go_at_call 53; refine (unhide HE).mono ?_; rintro e w1 ⟨tab, rfl, ht1, ht2, hru, hk1⟩; have HT1 := hide ht1; have HT2 := hide ht2; have HRU := hide hru; have HK1 := hide hk1; clear ht1 ht2 hru hk1)
        | (go_at_call 54; refine (stmtRules_v (w.heap.size + 2) _).mono ?_; rintro e w2 ⟨rfl, hw2⟩; have hk2 : Keeps (fun _ => False) w1 w2 := by { rw [hw2]; exact (Keeps.refl _ _).alloc _ }; have hs2 : w2.heap[w1.heap.size]? = some (.cells (stmtC (w.heap.size + 2)) 100 (0, 0)) := by { rw [hw2]; exact heap_alloc_new w1 _ }; have hj2 := (hk2.block _ (Nat.lt_of_lt_of_le hjlt (unhide HK1).size) id).trans (((unhide HK1).block _ hjlt id).trans (unhide HJ)); have m1 := cell_of_blk hj2 1; have m2 := cell_of_blk hj2 2; simp at m1 m2; have g1 := frozen_of_blk hj2 1; have g2 := frozen_of_blk hj2 2; have HK2 := hide hk2; have HS2 := hide hs2; have HJ2 := hide hj2; clear hk2 hs2 hj2 hw2))
      go_ret
      exact ⟨w.heap.size + 2, w.heap.size + 1, l.length, tab, rfl, judge_done (by have := unhide HM; rw [List.take_length] at this; exact this) (unhide HK) (unhide HK1) (unhide HK2) (unhide HJ2) (unhide HS2) (unhide HRU) (unhide HT1) (unhide HT2) hjlt⟩
    | some f =>
      have h1 := get_lt h
      obtain ⟨b, off, c, e, hbl, hc⟩ := (unhide HF).cells (by omega)
      simp at e
      obtain ⟨rfl, rfl⟩ := e
      have q0 := (hkp.cell hbl id).trans (hc k f h).1
      have q1 := (hkp.cell hbl id).trans (hc k f h).2.1
      have q2 := (hkp.cell hbl id).trans (hc k f h).2.2
      obtain ⟨HB, hxb, hxc⟩ := boxed wr #[str f.name, .int .i64 f.type, .bool f.opt] 67
      have HTK := hide (take_snoc _ _ _ h)
      have hfl := (unhide HNM) f (List.mem_of_getElem? h)
      have i1 : (k : Int) < (l.length : Int) := by omega
      have i0 : (0 : Int) ≤ (k : Int) := by omega
      obtain ⟨w1, hrun, hm1, hturn⟩ := World.ownsMap.store (w := (wr.alloc (.cells #[str f.name, .int .i64 f.type, .bool f.opt] 67)).drew) ((hmap.alloc _).drew) strKeyed Tryz.underlying92 (by unfold maxLen; omega) (keyStr (s := f.name) (by omega)) (kindElem_mk ⟨f.type, f.opt⟩)
      have hgr := hturn.grown
      have hka : Keeps (fun q => q = w.heap.size + 1) (wr.alloc (.cells #[str f.name, .int .i64 f.type, .bool f.opt] 67)) w1 := (Keeps.refl _ _).drew.trans ((Keeps.refl _ _).grown hgr (fun q e _ => by simpa using e.symm))
      have hjw : (wr.alloc (.cells #[str f.name, .int .i64 f.type, .bool f.opt] 67)).heap[w.heap.size + 2]? = some (.cells (judgeC (w.heap.size + 1) (.slice none 0 0) (.slice none 0 0)) 96 (0, 0)) := ((unhide HB).block _ hjlt id).trans hjb
      have hjc := cell_of_blk hjw 0
      simp at hjc
      have hj2lt : w.heap.size + 2 < (wr.alloc (.cells #[str f.name, .int .i64 f.type, .bool f.opt] 67)).heap.size := lt_of_block hjw
      have SK : ∀ w', Keeps (fun q => q = w.heap.size + 1) (wr.alloc (.cells #[str f.name, .int .i64 f.type, .bool f.opt] 67)) w' → w'.cell? ⟨w.heap.size + 2, 0, none⟩ = some (.map (some (w.heap.size + 1))) ∧ w'.cell? ⟨wr.heap.size, 0, none⟩ = some (str f.name) ∧ w'.cell? ⟨wr.heap.size, 1, none⟩ = some (.int .i64 f.type) ∧ w'.cell? ⟨wr.heap.size, 2, none⟩ = some (.bool f.opt) := fun w' hk' =>
        ⟨(hk'.cell hj2lt (by omega)).trans hjc, (hk'.cell hxb (by omega)).trans (hxc 0 _ rfl), (hk'.cell hxb (by omega)).trans (hxc 1 _ rfl), (hk'.cell hxb (by omega)).trans (hxc 2 _ rfl)⟩
      have d := SK (wr.alloc (.cells #[str f.name, .int .i64 f.type, .bool f.opt] 67)).drew (Keeps.refl _ _).drew
      have d1 := SK w1 hka
      have HKA := hide hka
      have HJW := hide hjw
      have HM1 := hide hm1
      clear h hc hkp hmap hjb hxc hgr hturn hka hjw hjc SK hm1
      go_wp2_with fail
      go_region_held3 (fun w' => w'.cell? ⟨w.heap.size + 2, 0, none⟩ = some (.map (some (w.heap.size + 1))) ∧ w'.cell? ⟨wr.heap.size, 0, none⟩ = some (str f.name) ∧ w'.cell? ⟨wr.heap.size, 1, none⟩ = some (.int .i64 f.type) ∧ w'.cell? ⟨wr.heap.size, 2, none⟩ = some (.bool f.opt)) (first | with_reducible exact d | with_reducible exact d1) (fail)
      go_wp2_with fail
      go_roundw
      case rel =>
        refine ⟨k + 1, by omega, by go_num, ?_, ((unhide HKA).block _ hj2lt (by omega)).trans (unhide HJW), ((unhide HK).trans (unhide HB)).narrow (unhide HKA) (fun q e => by omega)⟩
        rw [unhide HTK, mapD_snoc]
        exact unhide HM1
      case measure => simp [intOf]; omega
end Go.Proofs.YtoempeobaknkcaaGreatDoor
namespace Go.Proofs.YtoempeobaknkcaaGreatDoor
open Go.RowKit Go.Maps

/-- What the reference's rule asks of the kids, and its own type. -/
def wantL (op : Int) : List (Int × Bool) × Int :=
  if op = 7 then ([(2, false)], 2) else if op = 8 then ([(1, false)], 1) else if op = 9 ∨ op = 10 ∨ op = 11 ∨ op = 21 ∨ op = 22 then ([(1, false), (1, false)], 1)
  else if op = 12 ∨ op = 13 ∨ op = 14 ∨ op = 15 then ([(-1, false), (-2, false)], 2) else if op = 16 ∨ op = 17 then ([(0, false), (-2, false)], 2) else if op = 18 ∨ op = 19 then ([(2, false), (2, false)], 2)
  else if op = 20 then ([(0, true), (-2, false)], -2) else if op = 23 then ([(3, false)], 1) else if op = 24 then ([(3, false), (3, false)], 3) else ([(2, false), (0, false), (-3, false)], -3)
def askedB (w t : Int) (ks : List KA) : Bool := if w = 0 then true else if w = -1 then (decide (t = 1) || decide (t = 3)) else if w = -2 then decide (t = (kth ks 0).t) else if w = -3 then decide (t = (kth ks 1).t) else decide (t = w)
def wantsI (ks : List KA) : List KA → List (Int × Bool) → Int
  | k :: r, w :: ws => if askedB w.1 k.t ks = false then 91 else if w.2 ≠ k.o then 92 else wantsI ks r ws
  | _, _ => 0
def tyR (ty : Int) (ks : List KA) : Int := if ty = -2 then (kth ks 0).t else if ty = -3 then (kth ks 1).t else ty
def refRule (op : Int) (ks : List KA) : KA × Int := if wantsI ks ks (wantL op).1 ≠ 0 then (⟨0, false⟩, wantsI ks ks (wantL op).1) else (⟨tyR (wantL op).2 ks, false⟩, 0)
/-- No kind where there is an error. -/
def zeroK (p : KA × Int) : KA × Int := if p.2 ≠ 0 then (⟨0, false⟩, p.2) else p
def okT (t : Int) : Prop := t = 1 ∨ t = 2 ∨ t = 3
theorem okT_fin {t : Int} (h : okT t) : ∃ i : Fin 3, t = (i.val : Int) + 1 := by
  rcases h with h | h | h
  · exact ⟨0, by simp [h]⟩
  · exact ⟨1, by simp [h]⟩
  · exact ⟨2, by simp [h]⟩
def one1 (op : Int) : Prop := ∀ (a : Fin 3) (oa : Bool), refRule op [⟨(a.val : Int) + 1, oa⟩] = zeroK (ruleP [] op [] [⟨(a.val : Int) + 1, oa⟩])
def two2 (op : Int) : Prop := ∀ (a : Fin 3) (oa : Bool) (b : Fin 3) (ob : Bool), refRule op [⟨(a.val : Int) + 1, oa⟩, ⟨(b.val : Int) + 1, ob⟩] = zeroK (ruleP [] op [] [⟨(a.val : Int) + 1, oa⟩, ⟨(b.val : Int) + 1, ob⟩])
def three3 (op : Int) : Prop := ∀ (a : Fin 3) (oa : Bool) (b : Fin 3) (ob : Bool) (c : Fin 3) (oc : Bool), refRule op [⟨(a.val : Int) + 1, oa⟩, ⟨(b.val : Int) + 1, ob⟩, ⟨(c.val : Int) + 1, oc⟩] = zeroK (ruleP [] op [] [⟨(a.val : Int) + 1, oa⟩, ⟨(b.val : Int) + 1, ob⟩, ⟨(c.val : Int) + 1, oc⟩])
instance (op : Int) : Decidable (one1 op) := by unfold one1; infer_instance
instance (op : Int) : Decidable (two2 op) := by unfold two2; infer_instance
instance (op : Int) : Decidable (three3 op) := by unfold three3; infer_instance
set_option maxRecDepth 100000 in
theorem ones : one1 7 ∧ one1 8 ∧ one1 23 := by decide
set_option maxRecDepth 100000 in
theorem twos : ∀ i : Fin 16, i.val ≠ 14 → two2 ((i.val : Int) + 9) := by decide
set_option maxRecDepth 100000 in
theorem threes : three3 25 := by decide
def RuleA.named : RuleA → Bool
  | .field => true
  | .has => true
  | _ => false
theorem rule_nofield (S : List FieldA) (op : Int) (s : Txt) (ks : List KA) (h1 : 7 ≤ op) (h2 : op ≤ 25) : ruleP S op s ks = ruleP [] op [] ks := by
  obtain ⟨m, rfl⟩ := Int.eq_ofNat_of_zero_le (show 0 ≤ op by omega)
  have h : ∀ i : Fin 26, 7 ≤ i.val → ((ruleL[i.val]?).join).map RuleA.named = some false := by decide
  have := h ⟨m, by omega⟩ (by show 7 ≤ m; omega)
  unfold ruleP
  simp only [Int.toNat_natCast]
  cases hr : (ruleL[m]?).join with
  | none => rfl
  | some r =>
    simp only [hr] at this
    cases r with
    | field => cases this
    | has => cases this
    | takes => rfl
    | compares => rfl
    | orElse => rfl
    | pick => rfl
theorem ref_rule (S : List FieldA) (op : Int) (s : Txt) (ks : List KA) (h1 : 7 ≤ op) (h2 : op ≤ 25) (hk : (ks.length : Int) = kidsB op) (hT : ∀ k ∈ ks, okT k.t) : refRule op ks = zeroK (ruleP S op s ks) := by
  rw [rule_nofield S op s ks h1 h2]
  unfold kidsB at hk
  rw [if_neg (by omega)] at hk
  by_cases hA : op = 7 ∨ op = 8 ∨ op = 23
  · rw [if_pos hA] at hk
    match ks, hk with
    | [a], _ =>
      obtain ⟨i, hi⟩ := okT_fin (hT a (by simp))
      obtain ⟨t, o⟩ := a
      subst hi
      rcases hA with rfl | rfl | rfl
      · exact ones.1 i o
      · exact ones.2.1 i o
      · exact ones.2.2 i o
    | [], hk => exact absurd hk (by simp)
    | _ :: _ :: _, hk => exact absurd hk (by simp; omega)
  rw [if_neg hA] at hk
  by_cases hB : op = 25
  · subst hB
    rw [if_neg (by omega), if_pos rfl] at hk
    match ks, hk with
    | [a, b, c], _ =>
      obtain ⟨i, hi⟩ := okT_fin (hT a (by simp))
      obtain ⟨j, hj⟩ := okT_fin (hT b (by simp))
      obtain ⟨k, hk⟩ := okT_fin (hT c (by simp))
      obtain ⟨t, o⟩ := a
      obtain ⟨t', o'⟩ := b
      obtain ⟨t'', o''⟩ := c
      subst hi hj hk
      exact threes i o j o' k o''
    | [], hk => exact absurd hk (by simp)
    | [_], hk => exact absurd hk (by simp)
    | [_, _], hk => exact absurd hk (by simp)
    | _ :: _ :: _ :: _ :: _, hk => exact absurd hk (by simp; omega)
  · rw [if_pos (by omega)] at hk
    match ks, hk with
    | [a, b], _ =>
      obtain ⟨i, hi⟩ := okT_fin (hT a (by simp))
      obtain ⟨j, hj⟩ := okT_fin (hT b (by simp))
      obtain ⟨t, o⟩ := a
      obtain ⟨t', o'⟩ := b
      subst hi hj
      obtain ⟨m, rfl⟩ := Int.eq_ofNat_of_zero_le (show 0 ≤ op by omega)
      have := twos ⟨m - 9, by omega⟩ (by show m - 9 ≠ 14; omega) i o j o'
      rw [show ((m - 9 : Nat) : Int) + 9 = (m : Int) by omega] at this
      exact this
    | [], hk => exact absurd hk (by simp)
    | [_], hk => exact absurd hk (by simp)
    | _ :: _ :: _ :: _, hk => exact absurd hk (by simp; omega)
/-- The kinds of what fits have types. -/
theorem wide_okT {t : Int} (h : 0 ≤ wideB t) : okT t := by
  unfold wideB at h
  unfold okT
  repeat' split at h
  all_goals omega
theorem field_okT {S : List FieldA} (h : schemaB S = true) {s : Txt} {f : FieldA} (hf : fieldOf S s = some f) : okT f.type := by
  have hm := List.mem_of_find?_eq_some hf
  have h3 : S.all fieldOK = true := by
    unfold schemaB at h
    simp only [Bool.and_eq_true] at h
    exact h.1.1.2
  have := List.all_eq_true.1 h3 f hm
  unfold fieldOK at this
  simp only [Bool.and_eq_true, decide_eq_true_eq] at this
  exact wide_okT this.2
end Go.Proofs.YtoempeobaknkcaaGreatDoor
namespace Go.Proofs.YtoempeobaknkcaaGreatDoor
open Go.RowKit Go.Maps

theorem name_short {s : Txt} (h : nameB s = true) : s.length ≤ 8 := by
  unfold nameB at h
  simp only [Bool.and_eq_true, decide_eq_true_eq] at h
  exact h.1.1.1.2
theorem kidsB_range (op : Int) (h : 0 ≤ kidsB op) : ∃ m : Nat, op = m ∧ 1 ≤ m ∧ m ≤ 25 ∧ kidsB op ≤ 3 := by
  have h3 : kidsB op ≤ 3 := by
    unfold kidsB
    repeat' split
    all_goals omega
  unfold kidsB at h
  have h25 : 1 ≤ op ∧ op ≤ 25 := by
    repeat' split at h
    all_goals omega
  exact ⟨op.toNat, by omega, by omega, by omega, h3⟩
theorem kindsP_err (S : List FieldA) : ∀ l : EL, (kindsP S l).2 ≠ 0 → kindsP S l = ([], (kindsP S l).2)
  | .nil, h => absurd rfl h
  | .cons op n s kids rest, h => by
    rw [kindsP_cons] at h ⊢
    by_cases h1 : (kindP S op s kids).2 = 0
    · by_cases h2 : (kindsP S rest).2 = 0
      · simp [h1, h2] at h
      · simp [h1, h2]
    · simp [h1]
theorem root_open {op n : Int} {s : Txt} {k : Nat} (h : rootB op n s k = true) : ∃ (m : Nat) (r : RuleA), op = m ∧ m ≤ 25 ∧ (ruleL[m]?).join = some r ∧ r.kids = k ∧ k ≤ 3 ∧ (r.named = true → s.length ≤ 8) := by
  unfold rootB at h
  simp only [Bool.and_eq_true, decide_eq_true_eq] at h
  obtain ⟨h1, h2, h3⟩ := h
  obtain ⟨m, rfl, hm1, hm2, hm3⟩ := kidsB_range op h1
  obtain ⟨r, hr, hk⟩ := ruleL_kids m hm1 hm2
  refine ⟨m, r, rfl, hm2, hr, by omega, by omega, fun hn => ?_⟩
  have hq : ∀ i : Fin 26, ((ruleL[i.val]?).join).map RuleA.named = some true → i.val = 4 ∨ i.val = 5 := by decide
  have h45 := hq ⟨m, by omega⟩ (by show ((ruleL[m]?).join).map RuleA.named = some true; rw [hr]; exact congrArg some hn)
  have h45' : (m : Int) = 4 ∨ (m : Int) = 5 := by
    rcases h45 with h | h
    · exact Or.inl (by have : m = 4 := h; omega)
    · exact Or.inr (by have : m = 5 := h; omega)
  unfold leafB at h3
  rw [if_neg (by omega), if_neg (by omega), if_neg (by omega), if_pos h45'] at h3
  simp only [Bool.and_eq_true, decide_eq_true_eq] at h3
  exact name_short h3.2
/-- One kind more in its place. -/
theorem ks_step {w1 : World} {b : Nat} {c : Array Value} {k n : Nat} {done : List KA} (T : Int) (O : Bool) (hb : w1.heap[b]? = some (.cells c 80 (0, 0))) (hc : c.size = n * 2) (hk : k < n) (hl : done.length = k)
    (hd : ∀ (i : Nat) (f : KA), done[i]? = some f → c[i * 2]? = some (.int .i64 f.t) ∧ c[i * 2 + 1]? = some (.bool f.o)) :
    ∃ c2 : Array Value, ((w1.setCell ⟨b, k * 2, none⟩ (.int .i64 T)).setCell ⟨b, k * 2 + 1, none⟩ (.bool O)).heap[b]? = some (.cells c2 80 (0, 0)) ∧ c2.size = n * 2 ∧ ∀ (i : Nat) (f : KA), (done ++ [⟨T, O⟩])[i]? = some f → c2[i * 2]? = some (.int .i64 f.t) ∧ c2[i * 2 + 1]? = some (.bool f.o) := by
  refine ⟨_, heap_setCell_at (heap_setCell_at hb _) _, by simp [hc], fun i f hf => ?_⟩
  rw [List.getElem?_append] at hf
  split at hf
  · rename_i hi
    obtain ⟨h1, h2⟩ := hd i f hf
    exact ⟨by rw [Array.getElem?_setIfInBounds_ne (by omega), Array.getElem?_setIfInBounds_ne (by omega)]; exact h1, by rw [Array.getElem?_setIfInBounds_ne (by omega), Array.getElem?_setIfInBounds_ne (by omega)]; exact h2⟩
  · rename_i hi
    have hik : i = k := by
      have := (List.getElem?_eq_some_iff.1 hf).1
      simp at this
      omega
    subst hik
    rw [hl, Nat.sub_self] at hf
    simp at hf
    subst hf
    exact ⟨by simp [hc, show i * 2 < n * 2 by omega], by simp [hc, show i * 2 + 1 < n * 2 by omega]⟩
theorem ks_all {w1 : World} {b : Nat} {c : Array Value} {n : Nat} {ks : List KA} (hb : w1.heap[b]? = some (.cells c 80 (0, 0))) (hl : ks.length = n)
    (hd : ∀ (i : Nat) (f : KA), ks[i]? = some f → c[i * 2]? = some (.int .i64 f.t) ∧ c[i * 2 + 1]? = some (.bool f.o)) : KsAt w1 (.slice (some ⟨b, 0, none⟩) n n) ks := by
  subst hl
  refine ⟨⟨_, _, rfl⟩, fun _ => ⟨b, 0, _, rfl, lt_of_block hb, fun j x hx => ?_⟩, fun ao m cap e => by simp at e; omega⟩
  rw [cell_of_blk hb, Nat.zero_add]
  have hj := (List.getElem?_eq_some_iff.1 hx).1
  rw [kcs_length] at hj
  obtain ⟨f, hf⟩ : ∃ f, ks[j / 2]? = some f := ⟨_, List.getElem?_eq_getElem (by omega)⟩
  obtain ⟨h1, h2⟩ := hd _ _ hf
  rcases Nat.mod_two_eq_zero_or_one j with h | h
  · have e : j = j / 2 * 2 := by omega
    rw [e] at hx ⊢
    have := kcs_get ks (j / 2) f 0 hf (by omega)
    rw [Nat.add_zero, hx] at this
    rw [h1, this]; rfl
  · have e : j = j / 2 * 2 + 1 := by omega
    rw [e] at hx ⊢
    have := kcs_get ks (j / 2) f 1 hf (by omega)
    rw [hx] at this
    rw [h2, this]; rfl
theorem list2 {ks : List KA} (h : ks.length = 2) : ∃ a b, ks = [a, b] := by
  match ks, h with
  | [a, b], _ => exact ⟨a, b, rfl⟩
theorem list3 {ks : List KA} (h : ks.length = 3) : ∃ a b c, ks = [a, b, c] := by
  match ks, h with
  | [a, b, c], _ => exact ⟨a, b, c, rfl⟩
theorem ruleP_fit {S : List FieldA} {m : Nat} {r : RuleA} {s : Txt} {ks : List KA} (h : (ruleL[m]?).join = some r) : ruleP S (m : Int) s ks = r.fit S s ks := by
  unfold ruleP
  rw [Int.toNat_natCast, h]

end Go.Proofs.YtoempeobaknkcaaGreatDoor
