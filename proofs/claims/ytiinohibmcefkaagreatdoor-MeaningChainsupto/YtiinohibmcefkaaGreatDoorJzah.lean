import Derived.Test.YtiinohibmcefkaaGreatDoorR2
import Derived.Test.YtiinohibmcefkaaGreatDoorJbc
import Derived.Test.YtiinohibmcefkaaGreatDoorJzad
import Derived.Test.YtiinohibmcefkaaGreatDoorVa
import Derived.Deep.DeepCutAuto
namespace Go.Proofs.YtiinohibmcefkaaGreatDoor
open Go.RowKit Go.Maps
set_option maxRecDepth 100000
set_option maxHeartbeats 4000000
theorem res_load {w X : World} {x : ValA} (HP : X.heap[w.heap.size]? = some (.cells #[.int .i64 0, .int .i64 0, .string ⟨#[]⟩] 41 (0, 0))) (kX : Keeps (fun _ => False) w X) :
  (X.frozen? ⟨w.heap.size, 0, none⟩ = false ∧ X.frozen? ⟨w.heap.size, 1, none⟩ = false ∧ X.frozen? ⟨w.heap.size, 2, none⟩ = false ∧ X.cell? ⟨w.heap.size, 0, none⟩ = some (.int .i64 0) ∧ X.cell? ⟨w.heap.size, 1, none⟩ = some (.int .i64 0) ∧ X.cell? ⟨w.heap.size, 2, none⟩ = some (.string ⟨#[]⟩)) ∧
  ((((X.setCell ⟨w.heap.size, 0, none⟩ (.int .i64 x.kind)).setCell ⟨w.heap.size, 1, none⟩ (.int .i64 x.n)).setCell ⟨w.heap.size, 2, none⟩ (str x.s)).cell? ⟨w.heap.size, 0, none⟩ = some (.int .i64 x.kind) ∧ (((X.setCell ⟨w.heap.size, 0, none⟩ (.int .i64 x.kind)).setCell ⟨w.heap.size, 1, none⟩ (.int .i64 x.n)).setCell ⟨w.heap.size, 2, none⟩ (str x.s)).cell? ⟨w.heap.size, 1, none⟩ = some (.int .i64 x.n) ∧ (((X.setCell ⟨w.heap.size, 0, none⟩ (.int .i64 x.kind)).setCell ⟨w.heap.size, 1, none⟩ (.int .i64 x.n)).setCell ⟨w.heap.size, 2, none⟩ (str x.s)).cell? ⟨w.heap.size, 2, none⟩ = some (str x.s)) ∧
  Hid (Keeps (fun _ => False) w (((X.setCell ⟨w.heap.size, 0, none⟩ (.int .i64 x.kind)).setCell ⟨w.heap.size, 1, none⟩ (.int .i64 x.n)).setCell ⟨w.heap.size, 2, none⟩ (str x.s))) := by
 obtain ⟨z0, z1, z2, y0, y1, y2, s0, s1, s2⟩ := res_facts HP (Keeps.refl _ X) x
 exact ⟨⟨z0, z1, z2, y0, y1, y2⟩, ⟨s0, s1, s2⟩, hide (kX.fresh (Nat.le_refl _) (keeps_set3 X w.heap.size (.int .i64 x.kind) (.int .i64 x.n) (str x.s)))⟩
theorem of20_v (a b : ValA) (kv : Value) (w : World) (h : ValsAt w kv [a, b]) : Calls Tryz.prog 94 #[.int .i64 20, kv] w fun e w' => e = .returned (if a.kind = 0 then b else a).v ∧ Keeps (fun _ => False) w w' := by
 obtain ⟨kb, ko, cap, rfl, hb, ⟨x0, x1, x2⟩, ⟨y0, y1, y2⟩⟩ := two_cells h
 obtain ⟨X, hX⟩ : ∃ X, w.alloc (.cells #[.int .i64 0, .int .i64 0, .string ⟨#[]⟩] 41) = X := ⟨_, rfl⟩
 have HP := (hX ▸ heap_alloc_new w _ : X.heap[w.heap.size]? = some (.cells #[.int .i64 0, .int .i64 0, .string ⟨#[]⟩] 41 (0, 0)))
 have kX : Keeps (fun _ => False) w X := hX ▸ kAlloc w _
 have x0' := (kX.cell hb id).trans x0
 have x1' := (kX.cell hb id).trans x1
 have x2' := (kX.cell hb id).trans x2
 have y0' := (kX.cell hb id).trans y0
 have y1' := (kX.cell hb id).trans y1
 have y2' := (kX.cell hb id).trans y2
 simp only [Nat.zero_mul, Nat.add_zero, Nat.one_mul] at x0' x1' x2' y0' y1' y2'
 by_cases h0 : a.kind = 0
 ·have h0b : (a.kind == 0) = true := by simp [h0]
  rw [if_pos h0]
  obtain ⟨⟨z0, z1, z2, u0, u1, u2⟩, ⟨s0, s1, s2⟩, HK⟩ := res_load (x := b) HP kX
  clear h hb x0 x1 x2 y0 y1 y2 kX HP h0
  show Calls _ _ _ _ fun e w' => e = .returned (.agg #[.int .i64 b.kind, .int .i64 b.n, str b.s]) ∧ _
  go_enter Tryz.func94, Tryz.ntmps94
  go_wp2_with fail
  refine bodyPost_ret (v := .agg #[.int .i64 b.kind, .int .i64 b.n, str b.s]) (by simp [results, go_sem, s0, s1, s2]) rfl ?_
  exact ⟨rfl, uh HK⟩
 ·have h0b : (a.kind == 0) = false := by simp [h0]
  rw [if_neg h0]
  obtain ⟨⟨z0, z1, z2, u0, u1, u2⟩, ⟨s0, s1, s2⟩, HK⟩ := res_load (x := a) HP kX
  clear h hb x0 x1 x2 y0 y1 y2 kX HP h0
  show Calls _ _ _ _ fun e w' => e = .returned (.agg #[.int .i64 a.kind, .int .i64 a.n, str a.s]) ∧ _
  go_enter Tryz.func94, Tryz.ntmps94
  go_wp2_with fail
  refine bodyPost_ret (v := .agg #[.int .i64 a.kind, .int .i64 a.n, str a.s]) (by simp [results, go_sem, s0, s1, s2]) rfl ?_
  exact ⟨rfl, uh HK⟩
theorem of25_v (c a b : ValA) (kv : Value) (w : World) (h : ValsAt w kv [c, a, b]) : Calls Tryz.prog 94 #[.int .i64 25, kv] w fun e w' => e = .returned (if c.n = 1 then a else b).v ∧ Keeps (fun _ => False) w w' := by
 obtain ⟨kb, ko, cap, rfl, hb, hc⟩ := h.cells (by simp)
 have hc0 := hc 0 c rfl
 have hc1 := hc 1 a rfl
 have hc2 := hc 2 b rfl
 obtain ⟨X, hX⟩ : ∃ X, w.alloc (.cells #[.int .i64 0, .int .i64 0, .string ⟨#[]⟩] 41) = X := ⟨_, rfl⟩
 have HP := (hX ▸ heap_alloc_new w _ : X.heap[w.heap.size]? = some (.cells #[.int .i64 0, .int .i64 0, .string ⟨#[]⟩] 41 (0, 0)))
 have kX : Keeps (fun _ => False) w X := hX ▸ kAlloc w _
 have c1' := (kX.cell hb id).trans hc0.2.1
 have x0' := (kX.cell hb id).trans hc1.1
 have x1' := (kX.cell hb id).trans hc1.2.1
 have x2' := (kX.cell hb id).trans hc1.2.2
 have y0' := (kX.cell hb id).trans hc2.1
 have y1' := (kX.cell hb id).trans hc2.2.1
 have y2' := (kX.cell hb id).trans hc2.2.2
 simp only [Nat.zero_mul, Nat.add_zero, Nat.one_mul, Nat.reduceMul] at c1' x0' x1' x2' y0' y1' y2'
 show Calls _ _ #[_, .slice (some ⟨kb, ko, none⟩) 3 cap] _ _
 by_cases h0 : c.n = 1
 ·have h0b : (c.n == 1) = true := by simp [h0]
  rw [if_pos h0]
  obtain ⟨⟨z0, z1, z2, u0, u1, u2⟩, ⟨s0, s1, s2⟩, HK⟩ := res_load (x := a) HP kX
  clear h hb hc hc0 hc1 hc2 kX HP h0
  show Calls _ _ _ _ fun e w' => e = .returned (.agg #[.int .i64 a.kind, .int .i64 a.n, str a.s]) ∧ _
  go_enter Tryz.func94, Tryz.ntmps94
  go_wp2_with fail
  refine bodyPost_ret (v := .agg #[.int .i64 a.kind, .int .i64 a.n, str a.s]) (by simp [results, go_sem, s0, s1, s2]) rfl ?_
  exact ⟨rfl, uh HK⟩
 ·have h0b : (c.n == 1) = false := by simp [h0]
  rw [if_neg h0]
  obtain ⟨⟨z0, z1, z2, u0, u1, u2⟩, ⟨s0, s1, s2⟩, HK⟩ := res_load (x := b) HP kX
  clear h hb hc hc0 hc1 hc2 kX HP h0
  show Calls _ _ _ _ fun e w' => e = .returned (.agg #[.int .i64 b.kind, .int .i64 b.n, str b.s]) ∧ _
  go_enter Tryz.func94, Tryz.ntmps94
  go_wp2_with fail
  refine bodyPost_ret (v := .agg #[.int .i64 b.kind, .int .i64 b.n, str b.s]) (by simp [results, go_sem, s0, s1, s2]) rfl ?_
  exact ⟨rfl, uh HK⟩
theorem fit_two {a b : KA} {x y : ValA} (h : FitL [a, b] [x, y]) : FitK a x ∧ FitK b y := by cases h with | cons h1 h2 => cases h2 with | cons h3 _ => exact ⟨h1, h3⟩
theorem comp_good {a b : KA} {x y : ValA} {ts : List Int} (h : FitL [a, b] [x, y]) (hr : (comparesK ts [a, b]).2 = 0) : goodV x ∧ goodV y ∧ x.kind = y.kind := by
 obtain ⟨h1, h2⟩ := fit_two h
 obtain ⟨q1, q2⟩ := orI_zero (show orI (plainI a ts) (plainI b [a.t]) = 0 from hr)
 obtain ⟨_, o1⟩ := plain_zero q1
 obtain ⟨t2, o2⟩ := plain_zero q2
 obtain ⟨g1, k1⟩ := h1.plain o1
 obtain ⟨g2, k2⟩ := h2.plain o2
 have : b.t = a.t := by simpa using t2
 exact ⟨g1, g2, by rw [k1, k2, this]⟩
theorem holds_less {a b : ValA} (ha : goodV a) (hb : goodV b) (hk : a.kind = b.kind) : holdsR 12 a b = decide (ordV a b < 0) ∧ holdsR 13 a b = decide (ordV a b ≤ 0) ∧ holdsR 14 a b = decide (0 < ordV a b) ∧ holdsR 15 a b = decide (0 ≤ ordV a b) := by
 obtain ⟨h1, h2⟩ := good_less ha hb hk
 refine ⟨h1, h2, ?_, ?_⟩
 ·show lessR b a = _
  have : lessR b a = !decide (ordV a b ≤ 0) := by rw [← h2, Bool.not_not]
  rw [this]
  by_cases h : ordV a b ≤ 0
  ·simp [h]
  ·simp [h]; omega
 ·show (!lessR a b) = _
  rw [h1]
  by_cases h : ordV a b < 0
  ·simp [h]
  ·simp [h]; omega
theorem of_v (S : List FieldA) (o : Nat) (s : Txt) (h7 : 7 ≤ o) (h25 : o ≤ 25) {ks : List KA} {vs : List ValA} (hf : FitL ks vs) (hl : (ks.length : Int) = kidsB o) (hr : (ruleP S o s ks).2 = 0) (hs : ∀ v ∈ vs, v.s.length ≤ 20) (kv : Value) (w : World) (h : ValsAt w kv vs) :
  Calls Tryz.prog 94 #[.int .i64 (o : Int), kv] w fun e w' => e = .returned (opV o vs).v ∧ Keeps (fun _ => False) w w' := by
 have hlen := hf.len
 have one : kidsB o = 1 → ∃ k a, ks = [k] ∧ vs = [a] := fun e => by
  match ks, vs, hf, hl, hlen with
  | [k], [a], _, _, _ => exact ⟨k, a, rfl, rfl⟩
  | [], _, _, hl, _ => simp at hl; omega
  | _ :: _ :: _, _, _, hl, _ => simp at hl; omega
 have two : kidsB o = 2 → ∃ k l a b, ks = [k, l] ∧ vs = [a, b] := fun e => by
  match ks, vs, hf, hl, hlen with
  | [k, l], [a, b], _, _, _ => exact ⟨k, l, a, b, rfl, rfl⟩
  | [], _, _, hl, _ => simp at hl; omega
  | [_], _, _, hl, _ => simp at hl; omega
  | _ :: _ :: _ :: _, _, _, hl, _ => simp at hl; omega
 have three : kidsB o = 3 → ∃ k l m a b c, ks = [k, l, m] ∧ vs = [a, b, c] := fun e => by
  match ks, vs, hf, hl, hlen with
  | [k, l, m], [a, b, c], _, _, _ => exact ⟨k, l, m, a, b, c, rfl, rfl⟩
  | [], _, _, hl, _ => simp at hl; omega
  | [_], _, _, hl, _ => simp at hl; omega
  | [_, _], _, _, hl, _ => simp at hl; omega
  | _ :: _ :: _ :: _ :: _, _, _, hl, _ => simp at hl; omega
 rcases (show o = 7 ∨ o = 8 ∨ o = 9 ∨ o = 10 ∨ o = 11 ∨ o = 12 ∨ o = 13 ∨ o = 14 ∨ o = 15 ∨ o = 16 ∨ o = 17 ∨ o = 18 ∨ o = 19 ∨ o = 20 ∨ o = 21 ∨ o = 22 ∨ o = 23 ∨ o = 24 ∨ o = 25 by omega) with rfl | rfl | rfl | rfl | rfl | rfl | rfl | rfl | rfl | rfl | rfl | rfl | rfl | rfl | rfl | rfl | rfl | rfl | rfl
 ·obtain ⟨k, a, rfl, rfl⟩ := one (by decide)
  exact of7_v a kv w h
 ·obtain ⟨k, a, rfl, rfl⟩ := one (by decide)
  exact of8_v a kv w h
 ·obtain ⟨k, l, a, b, rfl, rfl⟩ := two (by decide)
  exact of9_v a b kv w h
 ·obtain ⟨k, l, a, b, rfl, rfl⟩ := two (by decide)
  exact of10_v a b kv w h
 ·obtain ⟨k, l, a, b, rfl, rfl⟩ := two (by decide)
  exact of11_v a b kv w h
 ·obtain ⟨k, l, a, b, rfl, rfl⟩ := two (by decide)
  obtain ⟨g1, g2, g3⟩ := comp_good hf (show (comparesK [1, 3] [k, l]).2 = 0 from hr)
  have := ofH_v 12 (by decide) a b kv w h (hs a (by simp)) (hs b (by simp))
  rw [(holds_less g1 g2 g3).1] at this
  exact this
 ·obtain ⟨k, l, a, b, rfl, rfl⟩ := two (by decide)
  obtain ⟨g1, g2, g3⟩ := comp_good hf (show (comparesK [1, 3] [k, l]).2 = 0 from hr)
  have := ofH_v 13 (by decide) a b kv w h (hs a (by simp)) (hs b (by simp))
  rw [(holds_less g1 g2 g3).2.1] at this
  exact this
 ·obtain ⟨k, l, a, b, rfl, rfl⟩ := two (by decide)
  obtain ⟨g1, g2, g3⟩ := comp_good hf (show (comparesK [1, 3] [k, l]).2 = 0 from hr)
  have := ofH_v 14 (by decide) a b kv w h (hs a (by simp)) (hs b (by simp))
  rw [(holds_less g1 g2 g3).2.2.1] at this
  exact this
 ·obtain ⟨k, l, a, b, rfl, rfl⟩ := two (by decide)
  obtain ⟨g1, g2, g3⟩ := comp_good hf (show (comparesK [1, 3] [k, l]).2 = 0 from hr)
  have := ofH_v 15 (by decide) a b kv w h (hs a (by simp)) (hs b (by simp))
  rw [(holds_less g1 g2 g3).2.2.2] at this
  exact this
 ·obtain ⟨k, l, a, b, rfl, rfl⟩ := two (by decide)
  exact ofH_v 16 (by decide) a b kv w h (hs a (by simp)) (hs b (by simp))
 ·obtain ⟨k, l, a, b, rfl, rfl⟩ := two (by decide)
  exact ofH_v 17 (by decide) a b kv w h (hs a (by simp)) (hs b (by simp))
 ·obtain ⟨k, l, a, b, rfl, rfl⟩ := two (by decide)
  exact ofH_v 18 (by decide) a b kv w h (hs a (by simp)) (hs b (by simp))
 ·obtain ⟨k, l, a, b, rfl, rfl⟩ := two (by decide)
  exact ofH_v 19 (by decide) a b kv w h (hs a (by simp)) (hs b (by simp))
 ·obtain ⟨k, l, a, b, rfl, rfl⟩ := two (by decide)
  exact of20_v a b kv w h
 ·obtain ⟨k, l, a, b, rfl, rfl⟩ := two (by decide)
  exact of21_v a b kv w h
 ·obtain ⟨k, l, a, b, rfl, rfl⟩ := two (by decide)
  exact of22_v a b kv w h
 ·obtain ⟨k, a, rfl, rfl⟩ := one (by decide)
  exact of23_v a kv w h (hs a (by simp))
 ·obtain ⟨k, l, a, b, rfl, rfl⟩ := two (by decide)
  exact of24_v a b kv w h (hs a (by simp)) (hs b (by simp))
 ·obtain ⟨k, l, m, c, a, b, rfl, rfl⟩ := three (by decide)
  exact of25_v c a b kv w h
end Go.Proofs.YtiinohibmcefkaaGreatDoor
namespace Go.Proofs.YtiinohibmcefkaaGreatDoor
open Go.RowKit Go.Maps
set_option maxRecDepth 100000
set_option maxHeartbeats 4000000
theorem fold_at (V : Nat → Value) : ∀ (l : List Nat) (a : Act) (t : Nat), (l.foldl (fun a d => a.put (some d) (V d)) a).tmps[t]? = (if t ∈ l ∧ t < a.tmps.size then some (V t) else a.tmps[t]?) ∧ (l.foldl (fun a d => a.put (some d) (V d)) a).tmps.size = a.tmps.size ∧ (l.foldl (fun a d => a.put (some d) (V d)) a).defers = a.defers
 | [], a, t => by simp
 | d :: l, a, t => by
  obtain ⟨h1, h2, h3⟩ := fold_at V l (a.put (some d) (V d)) t
  have hs : (a.put (some d) (V d)).tmps.size = a.tmps.size := by unfold Act.put; simp
  have hd : (a.put (some d) (V d)).defers = a.defers := rfl
  simp only [List.foldl_cons]
  refine ⟨?_, h2.trans hs, h3.trans hd⟩
  rw [h1, hs]
  have hp : (a.put (some d) (V d)).tmps[t]? = if d = t ∧ t < a.tmps.size then some (V d) else a.tmps[t]? := by
   unfold Act.put
   simp only [Array.getElem?_setIfInBounds]
   by_cases e : d = t
   ·subst e
    by_cases hl : d < a.tmps.size
    ·simp [hl]
    ·simp [hl]
   ·simp [e]
  rw [hp]
  by_cases hl : t < a.tmps.size
  ·by_cases e : d = t
   ·subst e
    by_cases hm : d ∈ l
    ·simp [hl, hm]
    ·simp [hl, hm]
   ·have e' : ¬ t = d := fun q => e q.symm
    by_cases hm : t ∈ l
    ·simp [hl, hm]
    ·simp [hl, hm, e, e']
  ·simp [hl]
theorem same_fold {a0 A : Act} {n : Nat} {dl : List Nat} (h : Same a0 n (fun i => dl.getD i 0) A) (hn : dl.length = n) : A = dl.foldl (fun a d => a.put (some d) (A.tmps.getD d undef)) a0 := by
 have hf := fold_at (fun d => A.tmps.getD d undef) dl a0
 have ht : A.tmps = (dl.foldl (fun a d => a.put (some d) (A.tmps.getD d undef)) a0).tmps := by
  apply Array.ext_getElem?
  intro t
  rw [(hf t).1]
  by_cases hm : t ∈ dl ∧ t < a0.tmps.size
  ·rw [if_pos hm, Array.getD_eq_getD_getElem?, Array.getElem?_eq_getElem (by rw [h.size]; exact hm.2)]
   rfl
  ·rw [if_neg hm]
   by_cases hl : t < a0.tmps.size
   ·have hnm : t ∉ dl := fun q => hm ⟨q, hl⟩
    have := h.slot t fun i hi e => hnm (by rw [← e]; subst hn; rw [List.getD_eq_getElem?_getD, List.getElem?_eq_getElem hi]; exact List.getElem_mem hi)
    rw [Array.getD_eq_getD_getElem?, Array.getD_eq_getD_getElem?, Array.getElem?_eq_getElem (by rw [h.size]; exact hl), Array.getElem?_eq_getElem hl] at this
    rw [Array.getElem?_eq_getElem (by rw [h.size]; exact hl), Array.getElem?_eq_getElem hl]
    exact congrArg some this
   ·rw [Array.getElem?_eq_none (by rw [h.size]; omega), Array.getElem?_eq_none (by omega)]
 have hdf : A.defers = (dl.foldl (fun a d => a.put (some d) (A.tmps.getD d undef)) a0).defers := by rw [(hf 0).2.2, h.defers]
 cases A with
 | mk tm df =>
  generalize dl.foldl (fun a d => a.put (some d) ((⟨tm, df⟩ : Act).tmps.getD d undef)) a0 = B at ht hdf ⊢
  cases B
  simp only at ht hdf
  rw [ht, hdf]
theorem zeros_at {S : List FieldA} {i : Nat} {f : FieldA} (h : S[i]? = some f) : (zeros S)[i]? = some (zeroV f) := by
 unfold zeros
 rw [List.getElem?_map, h]
 rfl
theorem rfield_v (S : List FieldA) (sv u : Value) (h : Bool) (vals : List ValA) (i : Nat) (w : World) (hi : i < S.length) (hv : h = true → i < vals.length) (hf : FldsAt w sv S) (hu : ValsAt w u vals) :
  Calls Tryz.prog 92 #[.agg #[sv], .int .i64 (i : Int), .agg #[.bool h, u]] w fun e w' => e = .returned (((if h then vals else zeros S)[i]?).getD zV).v ∧ Keeps (fun _ => False) w w' := by
 obtain ⟨so, sc, rfl⟩ := RowAt.form hf
 obtain ⟨uo, uc, rfl⟩ := RowAt.form hu
 obtain ⟨W, hW, hkW, g0, g1, g2⟩ := boxA3 w #[.slice so S.length sc] #[.bool h, .slice uo vals.length uc] #[.int .i64 0, .int .i64 0, .string ⟨#[]⟩] 24 31 41
 have i0 : ¬ (i : Int) < 0 := by omega
 have i1 : (0 : Int) ≤ (i : Int) := by omega
 have p0 := cl1 g0
 obtain ⟨q0, q1⟩ := cl2 g1
 have HG := hide g2
 have HKW := hide hkW
 cases h with
 | false =>
  obtain ⟨f, hfi⟩ : ∃ f, S[i]? = some f := ⟨_, List.getElem?_eq_getElem hi⟩
  obtain ⟨fb, fo, fc, e1, hfb, hc⟩ := hf.cells (by omega)
  simp at e1
  obtain ⟨rfl, rfl⟩ := e1
  obtain ⟨n0, n1, n2⟩ := hc i f hfi
  replace n0 := (hkW.cell hfb id).trans n0
  replace n1 := (hkW.cell hfb id).trans n1
  replace n2 := (hkW.cell hfb id).trans n2
  have hx : (((if false then vals else zeros S)[i]?).getD zV) = zeroV f := by simp [zeros_at hfi]
  rw [hx]
  have i2 : (i : Int) < (S.length : Int) := by omega
  have HZ : Hid (Calls Tryz.prog 153 #[.agg #[str f.name, .int .i64 f.type, .bool f.opt]] W _) := hide (zeroOf_any f W)
  generalize zeroV f = x at *
  clear hc hf hu hfi hv hi hfb hkW g0 g1 g2 hx
  go_enter Tryz.func92, Tryz.ntmps92
  go_wp2_with fail
  refine (uh HZ).mono ?_
  rintro e w1 ⟨rfl, hk1⟩
  obtain ⟨z0, z1, z2, y0, y1, y2, s0, s1, s2⟩ := res_facts (uh HG) hk1 x
  have HK := hide (((uh HKW).trans hk1).fresh (by omega) (keeps_set3 w1 (w.heap.size + 1 + 1) (.int .i64 x.kind) (.int .i64 x.n) (str x.s)))
  unfold ValA.v
  clear hk1
  go_wp2_with fail
  refine bodyPost_ret (v := .agg #[.int .i64 x.kind, .int .i64 x.n, str x.s]) (by simp [results, go_sem, s0, s1, s2]) rfl ?_
  exact ⟨rfl, uh HK⟩
 | true =>
  have hvl := hv rfl
  obtain ⟨x, hxi⟩ : ∃ x, vals[i]? = some x := ⟨_, List.getElem?_eq_getElem hvl⟩
  obtain ⟨vb, vo, vc, e1, hvb, hc⟩ := hu.cells (by omega)
  simp at e1
  obtain ⟨rfl, rfl⟩ := e1
  obtain ⟨n0, n1, n2⟩ := hc i x hxi
  replace n0 := (hkW.cell hvb id).trans n0
  replace n1 := (hkW.cell hvb id).trans n1
  replace n2 := (hkW.cell hvb id).trans n2
  have hx : (((if true then vals else zeros S)[i]?).getD zV) = x := by simp [hxi]
  rw [hx]
  have i2 : (i : Int) < (vals.length : Int) := by omega
  obtain ⟨z0, z1, z2, y0, y1, y2, s0, s1, s2⟩ := res_facts (uh HG) (Keeps.refl _ W) x
  have HK := hide ((uh HKW).fresh (by omega) (keeps_set3 W (w.heap.size + 1 + 1) (.int .i64 x.kind) (.int .i64 x.n) (str x.s)))
  clear hc hf hu hxi hv hi hvb hkW g0 g1 g2 hx hvl
  show Calls _ _ _ _ fun e w' => e = .returned (.agg #[.int .i64 x.kind, .int .i64 x.n, str x.s]) ∧ _
  go_enter Tryz.func92, Tryz.ntmps92
  go_wp2_with fail
  refine bodyPost_ret (v := .agg #[.int .i64 x.kind, .int .i64 x.n, str x.s]) (by simp [results, go_sem, s0, s1, s2]) rfl ?_
  exact ⟨rfl, uh HK⟩
theorem names_nodup {S : List FieldA} (hS : schemaB S = true) : (S.map FieldA.name).Nodup := by
 unfold schemaB at hS
 simp only [Bool.and_eq_true, decide_eq_true_eq] at hS
 exact hS.1.2
theorem schema_len {S : List FieldA} (hS : schemaB S = true) : S.length ≤ 8 := by
 unfold schemaB at hS
 simp only [Bool.and_eq_true, decide_eq_true_eq] at hS
 exact hS.1.1.1.2
theorem idx_unique {S : List FieldA} (hS : schemaB S = true) {nm : Txt} {f : FieldA} {k : Nat} (h1 : fieldOf S nm = some f) (h2 : S[k]? = some f) : k = placeP S nm := by
 have h3 := find_idx h1
 have hn := names_nodup hS
 obtain ⟨l1, e1⟩ := List.getElem?_eq_some_iff.1 h2
 obtain ⟨l2, e2⟩ := List.getElem?_eq_some_iff.1 h3
 exact (List.getElem?_inj (by simpa using l1) hn).1 (by rw [List.getElem?_map, List.getElem?_map, h2, h3])
theorem rplace_v (S : List FieldA) (hS : schemaB S = true) (sv : Value) (nm : Txt) (f : FieldA) (hf : fieldOf S nm = some f) (w : World) (h : FldsAt w sv S) :
  Calls Tryz.prog 93 #[.agg #[sv], str nm] w fun e w' => e = .returned (.int .i64 (placeP S nm : Int)) ∧ Keeps (fun _ => False) w w' := by
 refine (refField_v S sv nm w h (schema_len hS)).mono ?_
 rintro e w' ⟨⟨i, rfl, hi⟩, hk⟩
 rcases hi with ⟨h0, _⟩ | ⟨k, f', h1, h2, rfl⟩
 ·rw [hf] at h0; cases h0
 ·rw [hf] at h2
  obtain rfl := Option.some.inj h2
  rw [idx_unique hS hf h1]
  exact ⟨rfl, hk⟩
end Go.Proofs.YtiinohibmcefkaaGreatDoor
namespace Go.Proofs.YtiinohibmcefkaaGreatDoor
open Go.RowKit Go.Maps
set_option maxRecDepth 100000
section
variable {Q : Exit → Act → World → Prop} {K : Act → World → Prop} {o : Oper} {a : Act} {w : World}
theorem step_fieldE0 {t b off : Nat} (ho : o.op = .fieldAddr 27 (.tmp t) 0) (ht : a.tmps.getD t undef = .pointer (some ⟨b, off, none⟩)) (hk : K (a.put o.dst (.pointer (some ⟨b, off, none⟩))) w) : Oper.wp Tryz.prog o a w K Q := by
 have he := slot_of ht
 unfold Oper.wp
 simp [execOp, ho, he, go_sem]
 exact hk
theorem step_fieldE1 {t b off : Nat} (ho : o.op = .fieldAddr 27 (.tmp t) 1) (ht : a.tmps.getD t undef = .pointer (some ⟨b, off, none⟩)) (hk : K (a.put o.dst (.pointer (some ⟨b, off + 1, none⟩))) w) : Oper.wp Tryz.prog o a w K Q := by
 have he := slot_of ht
 unfold Oper.wp
 simp [execOp, ho, he, go_sem]
 exact hk
theorem step_fieldE2 {t b off : Nat} (ho : o.op = .fieldAddr 27 (.tmp t) 2) (ht : a.tmps.getD t undef = .pointer (some ⟨b, off, none⟩)) (hk : K (a.put o.dst (.pointer (some ⟨b, off + 2, none⟩))) w) : Oper.wp Tryz.prog o a w K Q := by
 have he := slot_of ht
 unfold Oper.wp
 simp [execOp, ho, he, go_sem]
 exact hk
theorem step_fieldE3 {t b off : Nat} (ho : o.op = .fieldAddr 27 (.tmp t) 3) (ht : a.tmps.getD t undef = .pointer (some ⟨b, off, none⟩)) (hk : K (a.put o.dst (.pointer (some ⟨b, off + 3, none⟩))) w) : Oper.wp Tryz.prog o a w K Q := by
 have he := slot_of ht
 unfold Oper.wp
 simp [execOp, ho, he, go_sem]
 exact hk
theorem step_load25 {t b off : Nat} {v : Value} (ho : o.op = .load 25 (.tmp t)) (ht : a.tmps.getD t undef = .pointer (some ⟨b, off, none⟩)) (hc : w.cell? ⟨b, off, none⟩ = some v) (hk : K (a.put o.dst v) w) : Oper.wp Tryz.prog o a w K Q := by
 have he := slot_of ht
 unfold Oper.wp
 simp [execOp, ho, he, go_sem, hc]
 exact hk
theorem step_load3 {t b off : Nat} {v : Value} (ho : o.op = .load 3 (.tmp t)) (ht : a.tmps.getD t undef = .pointer (some ⟨b, off, none⟩)) (hc : w.cell? ⟨b, off, none⟩ = some v) (hk : K (a.put o.dst v) w) : Oper.wp Tryz.prog o a w K Q := by
 have he := slot_of ht
 unfold Oper.wp
 simp [execOp, ho, he, go_sem, hc]
 exact hk
theorem step_indexE {t u kb ko n cap j : Nat} (ho : o.op = .indexAddr 25 (.tmp t) (.tmp u)) (ht : a.tmps.getD t undef = .slice (some ⟨kb, ko, none⟩) n cap) (hu : a.tmps.getD u undef = .int .i64 (j : Int)) (hj : j < n) (hk : K (a.put o.dst (.pointer (some ⟨kb, ko + j * 4, none⟩))) w) : Oper.wp Tryz.prog o a w K Q := by
 have he := slot_of ht
 have he2 := slot_of hu
 have h1 : (j : Int) < (n : Int) := by omega
 have h0 : (0 : Int) ≤ (j : Int) := by omega
 unfold Oper.wp
 simp [execOp, ho, he, he2, go_sem, h1, h0]
 exact hk
theorem step_loadE {t b off : Nat} {v0 v1 v2 v3 : Value} (ho : o.op = .load 27 (.tmp t)) (ht : a.tmps.getD t undef = .pointer (some ⟨b, off, none⟩)) (h0 : w.cell? ⟨b, off, none⟩ = some v0) (h1 : w.cell? ⟨b, off + 1, none⟩ = some v1) (h2 : w.cell? ⟨b, off + 2, none⟩ = some v2) (h3 : w.cell? ⟨b, off + 3, none⟩ = some v3) (hk : K (a.put o.dst (.agg #[v0, v1, v2, v3])) w) : Oper.wp Tryz.prog o a w K Q := by
 have he := slot_of ht
 unfold Oper.wp
 simp [execOp, ho, he, go_sem, h0, h1, h2, h3]
 exact hk
def isB41 (N : Nat) (w : World) (v : Value) : Prop := ∃ g, v = .pointer (some ⟨g, 0, none⟩) ∧ N ≤ g ∧ w.heap[g]? = some (.cells #[.int .i64 0, .int .i64 0, .string ⟨#[]⟩] 41 (0, 0))
theorem isB41.keep {N : Nat} {w w' : World} {v : Value} (h : isB41 N w v) (hk : Keeps (fun _ => False) w w') : isB41 N w' v := by
 obtain ⟨g, e, hN, hg⟩ := h
 exact ⟨g, e, hN, (hk.block _ (lt_of_block hg) id).trans hg⟩
theorem step_alloc41 {N : Nat} (ho : o.op = .alloc 41) (hN : N ≤ w.heap.size) (hk : ∀ v' w', isB41 N w' v' → Keeps (fun _ => False) w w' → K (a.put o.dst v') w') : Oper.wp Tryz.prog o a w K Q := by
 unfold Oper.wp
 simp [execOp, ho, go_sem]
 exact hk _ _ ⟨w.heap.size, rfl, hN, heap_alloc_new w _⟩ (kAlloc w _)
theorem step_store41 {N t s : Nat} {x : ValA} {vb : Value} {X : World} (ho : o.op = .store 41 (.tmp t) (.tmp s)) (hd : o.dst = none) (hb : a.tmps.getD t undef = vb) (hv : a.tmps.getD s undef = x.v) (hB : isB41 N w vb) (hX : X.heap.size = N) (hk0 : Keeps (fun _ => False) X w)
  (hk : ∀ g w', vb = .pointer (some ⟨g, 0, none⟩) → N ≤ g → w'.heap[g]? = some (.cells #[.int .i64 x.kind, .int .i64 x.n, str x.s] 41 (0, 0)) → Keeps (fun _ => False) X w' → K a w') : Oper.wp Tryz.prog o a w K Q := by
 obtain ⟨g, rfl, hN, hg⟩ := hB
 refine wp_store_row 41 (.tmp t) (.tmp s) ho g #[.int .i64 x.kind, .int .i64 x.n, str x.s] hb hv 41 _ hg (by kernel_rfl) rfl (by simp [Value.oneCell']) ?_
 rw [hd]
 exact hk g _ rfl hN (setRow_heap w g _ _ 41 (0, 0) hg) (hk0.narrow (keeps_row w g _) (fun q e => by omega))
end
end Go.Proofs.YtiinohibmcefkaaGreatDoor
namespace Go.Proofs.YtiinohibmcefkaaGreatDoor
open Go.RowKit Go.Maps
set_option maxRecDepth 100000
set_option maxHeartbeats 4000000
theorem rworth1_v (S : List FieldA) (h : Bool) (vals : List ValA) (n : Int) (s : Txt) (kids : EL) (so uo xo : Option Addr) (sc uc xc : Nat) (w : World) : Calls Tryz.prog 54 #[.agg #[(.slice so S.length sc)], exV 1 n s (.slice xo kids.len xc), .agg #[.bool h, (.slice uo vals.length uc)]] w fun e w' => e = .returned (numV n).v ∧ Keeps (fun _ => False) w w' := by
 obtain ⟨W, hW, hkW, g0, g1, g2, g3⟩ := boxA4 w #[(.slice so S.length sc)] #[.int .i64 1, .int .i64 n, str s, (.slice xo kids.len xc)] #[.bool h, (.slice uo vals.length uc)] #[.int .i64 0, .int .i64 0, .string ⟨#[]⟩] 24 27 31 41
 have HKW := hide hkW
 have HG := hide g3
 obtain ⟨c0, c1, c2, c3⟩ := cl4 g1
 obtain ⟨r0, r1⟩ := cl2 g2
 clear g0 g1 g2 g3 hkW
 go_enter Tryz.func54, Tryz.ntmps54
 go_wp2_with fail
 refine (num_v n _).mono ?_
 rintro e w1 ⟨rfl, hk1⟩
 generalize hx : numV n = x at *
 have HXE := hide hx
 obtain ⟨z0, z1, z2, y0, y1, y2, s0, s1, s2⟩ := res_facts (uh HG) hk1 x
 have HK := hide (((uh HKW).trans hk1).fresh (by omega) (keeps_set3 w1 (w.heap.size + 1 + 1 + 1) (.int .i64 x.kind) (.int .i64 x.n) (str x.s)))
 unfold ValA.v
 clear hk1 hx
 go_wp2_with fail
 refine bodyPost_ret (v := .agg #[.int .i64 x.kind, .int .i64 x.n, str x.s]) (by simp [results, go_sem, s0, s1, s2]) rfl ?_
 exact ⟨by rw [← uh HXE]; rfl, uh HK⟩
theorem rworth2_v (S : List FieldA) (h : Bool) (vals : List ValA) (n : Int) (s : Txt) (kids : EL) (so uo xo : Option Addr) (sc uc xc : Nat) (w : World) : Calls Tryz.prog 54 #[.agg #[(.slice so S.length sc)], exV 2 n s (.slice xo kids.len xc), .agg #[.bool h, (.slice uo vals.length uc)]] w fun e w' => e = .returned (truV (decide (n = 1))).v ∧ Keeps (fun _ => False) w w' := by
 obtain ⟨W, hW, hkW, g0, g1, g2, g3⟩ := boxA4 w #[(.slice so S.length sc)] #[.int .i64 2, .int .i64 n, str s, (.slice xo kids.len xc)] #[.bool h, (.slice uo vals.length uc)] #[.int .i64 0, .int .i64 0, .string ⟨#[]⟩] 24 27 31 41
 have HKW := hide hkW
 have HG := hide g3
 obtain ⟨c0, c1, c2, c3⟩ := cl4 g1
 obtain ⟨r0, r1⟩ := cl2 g2
 clear g0 g1 g2 g3 hkW
 go_enter Tryz.func54, Tryz.ntmps54
 go_wp2_with fail
 refine (tru_v (decide (n = 1)) _).mono ?_
 rintro e w1 ⟨rfl, hk1⟩
 generalize hx : truV (decide (n = 1)) = x at *
 have HXE := hide hx
 obtain ⟨z0, z1, z2, y0, y1, y2, s0, s1, s2⟩ := res_facts (uh HG) hk1 x
 have HK := hide (((uh HKW).trans hk1).fresh (by omega) (keeps_set3 w1 (w.heap.size + 1 + 1 + 1) (.int .i64 x.kind) (.int .i64 x.n) (str x.s)))
 unfold ValA.v
 clear hk1 hx
 go_wp2_with fail
 refine bodyPost_ret (v := .agg #[.int .i64 x.kind, .int .i64 x.n, str x.s]) (by simp [results, go_sem, s0, s1, s2]) rfl ?_
 exact ⟨by rw [← uh HXE]; rfl, uh HK⟩
theorem rworth3_v (S : List FieldA) (h : Bool) (vals : List ValA) (n : Int) (s : Txt) (kids : EL) (so uo xo : Option Addr) (sc uc xc : Nat) (w : World) : Calls Tryz.prog 54 #[.agg #[(.slice so S.length sc)], exV 3 n s (.slice xo kids.len xc), .agg #[.bool h, (.slice uo vals.length uc)]] w fun e w' => e = .returned (bytV s).v ∧ Keeps (fun _ => False) w w' := by
 obtain ⟨W, hW, hkW, g0, g1, g2, g3⟩ := boxA4 w #[(.slice so S.length sc)] #[.int .i64 3, .int .i64 n, str s, (.slice xo kids.len xc)] #[.bool h, (.slice uo vals.length uc)] #[.int .i64 0, .int .i64 0, .string ⟨#[]⟩] 24 27 31 41
 have HKW := hide hkW
 have HG := hide g3
 obtain ⟨c0, c1, c2, c3⟩ := cl4 g1
 obtain ⟨r0, r1⟩ := cl2 g2
 clear g0 g1 g2 g3 hkW
 go_enter Tryz.func54, Tryz.ntmps54
 go_wp2_with fail
 refine (byt_v s _).mono ?_
 rintro e w1 ⟨rfl, hk1⟩
 generalize hx : bytV s = x at *
 have HXE := hide hx
 obtain ⟨z0, z1, z2, y0, y1, y2, s0, s1, s2⟩ := res_facts (uh HG) hk1 x
 have HK := hide (((uh HKW).trans hk1).fresh (by omega) (keeps_set3 w1 (w.heap.size + 1 + 1 + 1) (.int .i64 x.kind) (.int .i64 x.n) (str x.s)))
 unfold ValA.v
 clear hk1 hx
 go_wp2_with fail
 refine bodyPost_ret (v := .agg #[.int .i64 x.kind, .int .i64 x.n, str x.s]) (by simp [results, go_sem, s0, s1, s2]) rfl ?_
 exact ⟨by rw [← uh HXE]; rfl, uh HK⟩
theorem rworth6_v (S : List FieldA) (h : Bool) (vals : List ValA) (n : Int) (s : Txt) (kids : EL) (so uo xo : Option Addr) (sc uc xc : Nat) (w : World) : Calls Tryz.prog 54 #[.agg #[(.slice so S.length sc)], exV 6 n s (.slice xo kids.len xc), .agg #[.bool h, (.slice uo vals.length uc)]] w fun e w' => e = .returned (truV h).v ∧ Keeps (fun _ => False) w w' := by
 obtain ⟨W, hW, hkW, g0, g1, g2, g3⟩ := boxA4 w #[(.slice so S.length sc)] #[.int .i64 6, .int .i64 n, str s, (.slice xo kids.len xc)] #[.bool h, (.slice uo vals.length uc)] #[.int .i64 0, .int .i64 0, .string ⟨#[]⟩] 24 27 31 41
 have HKW := hide hkW
 have HG := hide g3
 obtain ⟨c0, c1, c2, c3⟩ := cl4 g1
 obtain ⟨r0, r1⟩ := cl2 g2
 clear g0 g1 g2 g3 hkW
 go_enter Tryz.func54, Tryz.ntmps54
 go_wp2_with fail
 refine (tru_v h _).mono ?_
 rintro e w1 ⟨rfl, hk1⟩
 generalize hx : truV h = x at *
 have HXE := hide hx
 obtain ⟨z0, z1, z2, y0, y1, y2, s0, s1, s2⟩ := res_facts (uh HG) hk1 x
 have HK := hide (((uh HKW).trans hk1).fresh (by omega) (keeps_set3 w1 (w.heap.size + 1 + 1 + 1) (.int .i64 x.kind) (.int .i64 x.n) (str x.s)))
 unfold ValA.v
 clear hk1 hx
 go_wp2_with fail
 refine bodyPost_ret (v := .agg #[.int .i64 x.kind, .int .i64 x.n, str x.s]) (by simp [results, go_sem, s0, s1, s2]) rfl ?_
 exact ⟨by rw [← uh HXE]; rfl, uh HK⟩
theorem rworth4_v (S : List FieldA) (h : Bool) (vals : List ValA) (n : Int) (s : Txt) (kids : EL) (so uo xo : Option Addr) (sc uc xc : Nat) (w : World) (hS : schemaB S = true) (f : FieldA) (hf : fieldOf S s = some f) (hr : Rw S h vals) (hfl : FldsAt w (.slice so S.length sc) S) (hva : ValsAt w (.slice uo vals.length uc) vals) : Calls Tryz.prog 54 #[.agg #[(.slice so S.length sc)], exV 4 n s (.slice xo kids.len xc), .agg #[.bool h, (.slice uo vals.length uc)]] w fun e w' => e = .returned ((fieldV S h vals s)).v ∧ Keeps (fun _ => False) w w' := by
 obtain ⟨W, hW, hkW, g0, g1, g2, g3⟩ := boxA4 w #[(.slice so S.length sc)] #[.int .i64 4, .int .i64 n, str s, (.slice xo kids.len xc)] #[.bool h, (.slice uo vals.length uc)] #[.int .i64 0, .int .i64 0, .string ⟨#[]⟩] 24 27 31 41
 have HKW := hide hkW
 have HG := hide g3
 obtain ⟨c0, c1, c2, c3⟩ := cl4 g1
 obtain ⟨r0, r1⟩ := cl2 g2
 have HS := hide hS
 have HF := hide hf
 have HFL := hide hfl
 have HVA := hide hva
 have HPL := hide (List.getElem?_eq_some_iff.1 (find_idx hf)).1
 have HPV := hide (fun (e : h = true) => (by rw [hr.1 e]; exact (List.getElem?_eq_some_iff.1 (find_idx hf)).1 : placeP S s < vals.length))
 have H0 := hide (fun (W' : World) (hk : Keeps (fun _ => False) W W') => (hk.block _ (lt_of_block g0) id).trans g0)
 have H1 := hide (fun (W' : World) (hk : Keeps (fun _ => False) W W') => (hk.block _ (lt_of_block g1) id).trans g1)
 have H2 := hide (fun (W' : World) (hk : Keeps (fun _ => False) W W') => (hk.block _ (lt_of_block g2) id).trans g2)
 have H3 := hide (fun (W' : World) (hk : Keeps (fun _ => False) W W') => (hk.block _ (lt_of_block g3) id).trans g3)
 have HKX := hide (Keeps.refl (fun _ => False) W)
 clear g0 g1 g2 g3 hkW hS hf hr hfl hva
 go_enter Tryz.func54, Tryz.ntmps54
 go_upto_region 9 with fail
 rename_i Q0 K0 hc0
 refine wp_region_last (X := W) (by kernel_rfl) 7 rfl _ rfl rfl (by decide) (by kernel_rfl) [31, 32, 33, 34, 35, 36, 37] (by decide) rfl (by first | rfl | kernel_rfl | simp [opsB]) (uh HKX) (fun i v W1 => match i with | 0 => v = .agg #[(.slice so S.length sc)] | 1 => v = .agg #[(.slice so S.length sc)] | 2 => v = .pointer (some ⟨w.heap.size + 1, 0 + 2, none⟩) | 3 => v = str s | 4 => v = .int .i64 (placeP S s : Int) | 5 => v = .agg #[.bool h, (.slice uo vals.length uc)] | 6 => v = (fieldV S h vals s).v | _ => True) ?_ ?_ ?_
 ·intro i v w1 w2 hq hk
  rcases i with _ | _ | _ | _ | _ | _ | _ | i
  all_goals exact hq
 ·intro i o A W1 him ho hs hk hd K' hK
  rcases i with _ | _ | _ | _ | _ | _ | _ | i
  ·obtain rfl := Option.some.inj ho
   exact step_load24 rfl ((hs.at rfl 3 (by decide)).trans rfl) (uh H0 W1 hk) (hK _ _ rfl (Keeps.refl _ _))
  ·obtain rfl := Option.some.inj ho
   exact step_load24 rfl ((hs.at rfl 3 (by decide)).trans rfl) (uh H0 W1 hk) (hK _ _ rfl (Keeps.refl _ _))
  ·obtain rfl := Option.some.inj ho
   exact step_fieldE2 rfl ((hs.at rfl 4 (by decide)).trans rfl) (hK _ _ rfl (Keeps.refl _ _))
  ·obtain rfl := Option.some.inj ho
   exact step_load9 rfl (hd ⟨2, .data⟩ (by simp) rfl) ((cB (uh H1 W1 hk) _).trans rfl) (hK _ _ rfl (Keeps.refl _ _))
  ·obtain rfl := Option.some.inj ho
   exact step_c93 rfl (hd ⟨1, .data⟩ (by simp) rfl) (hd ⟨3, .data⟩ (by simp) rfl) (rplace_v S (uh HS) (.slice so S.length sc) s f (uh HF) W1 ((uh HFL).keepF ((uh HKW).trans hk))) (fun _ q => hK _ _ rfl q)
  ·obtain rfl := Option.some.inj ho
   exact step_load31 rfl ((hs.at rfl 5 (by decide)).trans rfl) (uh H2 W1 hk) (hK _ _ rfl (Keeps.refl _ _))
  ·obtain rfl := Option.some.inj ho
   exact step_c92 rfl (hd ⟨0, .data⟩ (by simp) rfl) (hd ⟨4, .data⟩ (by simp) rfl) (hd ⟨5, .data⟩ (by simp) rfl) (rfield_v S (.slice so S.length sc) (.slice uo vals.length uc) h vals (placeP S s) W1 (uh HPL) (uh HPV) ((uh HFL).keepF ((uh HKW).trans hk)) ((uh HVA).keepF ((uh HKW).trans hk))) (fun _ q => hK _ _ rfl q)
  ·omega
 ·intro A V hs hk hall K' hK
  have hl : A.tmps.getD 37 undef = (fieldV S h vals s).v := hall 6 (by decide)
  have hb := (hs.at rfl 6 (by decide)).trans rfl
  refine wp_store_row 41 (.tmp 6) (.tmp 37) rfl _ #[.int .i64 (fieldV S h vals s).kind, .int .i64 (fieldV S h vals s).n, str (fieldV S h vals s).s] hb hl 41 _ (uh H3 V hk) (by kernel_rfl) rfl (by simp [Value.oneCell']) ?_
  refine hK _ _ (hc0 _ _ ?_)
  have HR := hide (setRow_heap V (w.heap.size + 1 + 1 + 1) _ (#[.int .i64 (fieldV S h vals s).kind, .int .i64 (fieldV S h vals s).n, str (fieldV S h vals s).s] : Array Value) 41 (0, 0) (uh H3 V hk))
  have HKE := hide (((uh HKW).trans hk).narrow (keeps_row V (w.heap.size + 1 + 1 + 1) (#[.int .i64 (fieldV S h vals s).kind, .int .i64 (fieldV S h vals s).n, str (fieldV S h vals s).s] : Array Value)) (fun i e => by omega))
  have HP4 := hide hb
  have HD := hide (hs.defers.trans rfl)
  clear hs hk hall hl hb hK
  go_wp2_with fail
  refine bodyPost_ret (v := .agg #[.int .i64 (fieldV S h vals s).kind, .int .i64 (fieldV S h vals s).n, str (fieldV S h vals s).s]) (results_cell_row rfl _ _ (w.heap.size + 1 + 1 + 1) 41 _ (0, 0) _ (uh HP4) (uh HR) Tryz.underlying41 rfl (by kernel_rfl)) (uh HD) ?_
  exact ⟨rfl, uh HKE⟩
theorem rworth5_v (S : List FieldA) (h : Bool) (vals : List ValA) (n : Int) (s : Txt) (kids : EL) (so uo xo : Option Addr) (sc uc xc : Nat) (w : World) (hS : schemaB S = true) (f : FieldA) (hf : fieldOf S s = some f) (hr : Rw S h vals) (hfl : FldsAt w (.slice so S.length sc) S) (hva : ValsAt w (.slice uo vals.length uc) vals) : Calls Tryz.prog 54 #[.agg #[(.slice so S.length sc)], exV 5 n s (.slice xo kids.len xc), .agg #[.bool h, (.slice uo vals.length uc)]] w fun e w' => e = .returned (truV (h && !decide ((fieldV S h vals s).kind = 0))).v ∧ Keeps (fun _ => False) w w' := by
 obtain ⟨W, hW, hkW, g0, g1, g2, g3⟩ := boxA4 w #[(.slice so S.length sc)] #[.int .i64 5, .int .i64 n, str s, (.slice xo kids.len xc)] #[.bool h, (.slice uo vals.length uc)] #[.int .i64 0, .int .i64 0, .string ⟨#[]⟩] 24 27 31 41
 have HKW := hide hkW
 have HG := hide g3
 obtain ⟨c0, c1, c2, c3⟩ := cl4 g1
 obtain ⟨r0, r1⟩ := cl2 g2
 have HS := hide hS
 have HF := hide hf
 have HFL := hide hfl
 have HVA := hide hva
 have HPL := hide (List.getElem?_eq_some_iff.1 (find_idx hf)).1
 have HPV := hide (fun (e : h = true) => (by rw [hr.1 e]; exact (List.getElem?_eq_some_iff.1 (find_idx hf)).1 : placeP S s < vals.length))
 have H0 := hide (fun (W' : World) (hk : Keeps (fun _ => False) W W') => (hk.block _ (lt_of_block g0) id).trans g0)
 have H1 := hide (fun (W' : World) (hk : Keeps (fun _ => False) W W') => (hk.block _ (lt_of_block g1) id).trans g1)
 have H2 := hide (fun (W' : World) (hk : Keeps (fun _ => False) W W') => (hk.block _ (lt_of_block g2) id).trans g2)
 have H3 := hide (fun (W' : World) (hk : Keeps (fun _ => False) W W') => (hk.block _ (lt_of_block g3) id).trans g3)
 have HKX := hide (Keeps.refl (fun _ => False) W)
 clear g0 g1 g2 g3 hkW hS hf hr hfl hva
 go_enter Tryz.func54, Tryz.ntmps54
 go_upto_region 11 with fail
 rename_i Q0 K0 hc0
 refine wp_region_last (X := W) (by kernel_rfl) 8 rfl _ rfl rfl (by decide) (by kernel_rfl) [40, 41, 42, 43, 44, 45, 46, 7] (by decide) rfl (by first | rfl | kernel_rfl | simp [opsB]) (uh HKX) (fun i v W1 => match i with | 0 => v = .agg #[(.slice so S.length sc)] | 1 => v = .agg #[(.slice so S.length sc)] | 2 => v = .pointer (some ⟨w.heap.size + 1, 0 + 2, none⟩) | 3 => v = str s | 4 => v = .int .i64 (placeP S s : Int) | 5 => v = .agg #[.bool h, (.slice uo vals.length uc)] | 6 => v = (fieldV S h vals s).v | 7 => isB41 W.heap.size W1 v | _ => True) ?_ ?_ ?_
 ·intro i v w1 w2 hq hk
  rcases i with _ | _ | _ | _ | _ | _ | _ | _ | i
  all_goals first | exact hq | exact isB41.keep hq hk
 ·intro i o A W1 him ho hs hk hd K' hK
  rcases i with _ | _ | _ | _ | _ | _ | _ | _ | i
  ·obtain rfl := Option.some.inj ho
   exact step_load24 rfl ((hs.at rfl 3 (by decide)).trans rfl) (uh H0 W1 hk) (hK _ _ rfl (Keeps.refl _ _))
  ·obtain rfl := Option.some.inj ho
   exact step_load24 rfl ((hs.at rfl 3 (by decide)).trans rfl) (uh H0 W1 hk) (hK _ _ rfl (Keeps.refl _ _))
  ·obtain rfl := Option.some.inj ho
   exact step_fieldE2 rfl ((hs.at rfl 4 (by decide)).trans rfl) (hK _ _ rfl (Keeps.refl _ _))
  ·obtain rfl := Option.some.inj ho
   exact step_load9 rfl (hd ⟨2, .data⟩ (by simp) rfl) ((cB (uh H1 W1 hk) _).trans rfl) (hK _ _ rfl (Keeps.refl _ _))
  ·obtain rfl := Option.some.inj ho
   exact step_c93 rfl (hd ⟨1, .data⟩ (by simp) rfl) (hd ⟨3, .data⟩ (by simp) rfl) (rplace_v S (uh HS) (.slice so S.length sc) s f (uh HF) W1 ((uh HFL).keepF ((uh HKW).trans hk))) (fun _ q => hK _ _ rfl q)
  ·obtain rfl := Option.some.inj ho
   exact step_load31 rfl ((hs.at rfl 5 (by decide)).trans rfl) (uh H2 W1 hk) (hK _ _ rfl (Keeps.refl _ _))
  ·obtain rfl := Option.some.inj ho
   exact step_c92 rfl (hd ⟨0, .data⟩ (by simp) rfl) (hd ⟨4, .data⟩ (by simp) rfl) (hd ⟨5, .data⟩ (by simp) rfl) (rfield_v S (.slice so S.length sc) (.slice uo vals.length uc) h vals (placeP S s) W1 (uh HPL) (uh HPV) ((uh HFL).keepF ((uh HKW).trans hk)) ((uh HVA).keepF ((uh HKW).trans hk))) (fun _ q => hK _ _ rfl q)
  ·obtain rfl := Option.some.inj ho
   exact step_alloc41 rfl hk.size (fun v' w' h1 h2 => hK v' w' h1 h2)
  ·omega
 ·intro A V hs hk hall K' hK
  have hl : A.tmps.getD 46 undef = (fieldV S h vals s).v := hall 6 (by decide)
  have hb : isB41 W.heap.size V (A.tmps.getD 7 undef) := hall 7 (by decide)
  refine step_store41 (X := W) (x := (fieldV S h vals s)) rfl rfl rfl hl hb rfl hk ?_
  intro gg V2 hp hg hgb hkV
  refine hK _ _ (hc0 _ _ ?_)
  have v0 : A.tmps.getD 40 undef = .agg #[(.slice so S.length sc)] := hall 0 (by decide)
  have v1 : A.tmps.getD 41 undef = .agg #[(.slice so S.length sc)] := hall 1 (by decide)
  have v2 : A.tmps.getD 42 undef = .pointer (some ⟨w.heap.size + 1, 0 + 2, none⟩) := hall 2 (by decide)
  have v3 : A.tmps.getD 43 undef = str s := hall 3 (by decide)
  have v4 : A.tmps.getD 44 undef = .int .i64 (placeP S s : Int) := hall 4 (by decide)
  have v5 : A.tmps.getD 45 undef = .agg #[.bool h, (.slice uo vals.length uc)] := hall 5 (by decide)
  have hA := same_fold hs rfl
  simp only [List.foldl_cons, List.foldl_nil, v0, v1, v2, v3, v4, v5, hl, hp] at hA
  simp only [Act.put, List.setIfInBounds_toArray, List.set_cons_zero, List.set_cons_succ] at hA
  rw [hA]
  obtain ⟨b0, b1, b2⟩ := cl3 hgb
  obtain ⟨e0, e1⟩ := cl2 (uh H2 V2 hkV)
  have HG2 := hide (uh H3 V2 hkV)
  have HKV := hide ((uh HKW).trans hkV)
  clear hs hk hall hl hb hK hp hg hgb hkV v0 v1 v2 v3 v4 v5 hA c0 c1 c2 c3 r0 r1
  have fin : ∀ (b : Bool), (h && !decide ((fieldV S h vals s).kind = 0)) = b → Hid (truV (h && !decide ((fieldV S h vals s).kind = 0)) = truV b) := fun b e => hide (by rw [e])
  have HFIN := hide fin
  clear fin
  cases h with
  | false =>
   have HXE := uh HFIN false rfl
   clear HFIN
   go_wp2_with fail
   refine (tru_v false _).mono ?_
   rintro e w1 ⟨rfl, hk1⟩
   obtain ⟨z0, z1, z2, y0, y1, y2, s0, s1, s2⟩ := res_facts (uh HG2) hk1 (truV false)
   have HK := hide (((uh HKV).trans hk1).fresh (by omega) (keeps_set3 w1 (w.heap.size + 1 + 1 + 1) (.int .i64 (truV false).kind) (.int .i64 (truV false).n) (str (truV false).s)))
   generalize truV false = x at *
   unfold ValA.v
   clear hk1
   go_wp2_with fail
   refine bodyPost_ret (v := .agg #[.int .i64 x.kind, .int .i64 x.n, str x.s]) (by simp [results, go_sem, s0, s1, s2]) rfl ?_
   exact ⟨by rw [uh HXE]; rfl, uh HK⟩
  | true =>
   cases q : decide ((fieldV S true vals s).kind = 0) with
   | true =>
    have hkn : ((fieldV S true vals s).kind != 0) = false := by simpa using q
    have HXE := uh HFIN false (by rw [q]; rfl)
    clear HFIN q
    go_wp2_with fail
    refine (tru_v false _).mono ?_
    rintro e w1 ⟨rfl, hk1⟩
    obtain ⟨z0, z1, z2, y0, y1, y2, s0, s1, s2⟩ := res_facts (uh HG2) hk1 (truV false)
    have HK := hide (((uh HKV).trans hk1).fresh (by omega) (keeps_set3 w1 (w.heap.size + 1 + 1 + 1) (.int .i64 (truV false).kind) (.int .i64 (truV false).n) (str (truV false).s)))
    generalize truV false = x at *
    unfold ValA.v
    clear hk1
    go_wp2_with fail
    refine bodyPost_ret (v := .agg #[.int .i64 x.kind, .int .i64 x.n, str x.s]) (by simp [results, go_sem, s0, s1, s2]) rfl ?_
    exact ⟨by rw [uh HXE]; rfl, uh HK⟩
   | false =>
    have hkn : ((fieldV S true vals s).kind != 0) = true := by simpa using q
    have HXE := uh HFIN true (by rw [q]; rfl)
    clear HFIN q
    go_wp2_with fail
    refine (tru_v true _).mono ?_
    rintro e w1 ⟨rfl, hk1⟩
    obtain ⟨z0, z1, z2, y0, y1, y2, s0, s1, s2⟩ := res_facts (uh HG2) hk1 (truV true)
    have HK := hide (((uh HKV).trans hk1).fresh (by omega) (keeps_set3 w1 (w.heap.size + 1 + 1 + 1) (.int .i64 (truV true).kind) (.int .i64 (truV true).n) (str (truV true).s)))
    generalize truV true = x at *
    unfold ValA.v
    clear hk1
    go_wp2_with fail
    refine bodyPost_ret (v := .agg #[.int .i64 x.kind, .int .i64 x.n, str x.s]) (by simp [results, go_sem, s0, s1, s2]) rfl ?_
    exact ⟨by rw [uh HXE]; rfl, uh HK⟩
end Go.Proofs.YtiinohibmcefkaaGreatDoor
