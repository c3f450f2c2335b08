import Derived.Test.YtiinohibmcefkaaGreatDoorR2
import Derived.Test.YtiinohibmcefkaaGreatDoorJaz
import Derived.Test.YtiinohibmcefkaaGreatDoorJax
namespace Go.Proofs.YtiinohibmcefkaaGreatDoor
open Go.RowKit Go.Maps

/-- A value that is loaded is what a box is given. -/
theorem res_load {w X : World} {x : ValA} (HP : X.heap[w.heap.size]? = some (.cells #[.int .i64 0, .int .i64 0, .string ⟨#[]⟩] 41 (0, 0))) (kX : Keeps (fun _ => False) w X) :
    (X.frozen? ⟨w.heap.size, 0, none⟩ = false ∧ X.frozen? ⟨w.heap.size, 1, none⟩ = false ∧ X.frozen? ⟨w.heap.size, 2, none⟩ = false ∧ X.cell? ⟨w.heap.size, 0, none⟩ = some (.int .i64 0) ∧ X.cell? ⟨w.heap.size, 1, none⟩ = some (.int .i64 0) ∧ X.cell? ⟨w.heap.size, 2, none⟩ = some (.string ⟨#[]⟩)) ∧
    ((((X.setCell ⟨w.heap.size, 0, none⟩ (.int .i64 x.kind)).setCell ⟨w.heap.size, 1, none⟩ (.int .i64 x.n)).setCell ⟨w.heap.size, 2, none⟩ (str x.s)).cell? ⟨w.heap.size, 0, none⟩ = some (.int .i64 x.kind) ∧ (((X.setCell ⟨w.heap.size, 0, none⟩ (.int .i64 x.kind)).setCell ⟨w.heap.size, 1, none⟩ (.int .i64 x.n)).setCell ⟨w.heap.size, 2, none⟩ (str x.s)).cell? ⟨w.heap.size, 1, none⟩ = some (.int .i64 x.n) ∧ (((X.setCell ⟨w.heap.size, 0, none⟩ (.int .i64 x.kind)).setCell ⟨w.heap.size, 1, none⟩ (.int .i64 x.n)).setCell ⟨w.heap.size, 2, none⟩ (str x.s)).cell? ⟨w.heap.size, 2, none⟩ = some (str x.s)) ∧
    Hid (Keeps (fun _ => False) w (((X.setCell ⟨w.heap.size, 0, none⟩ (.int .i64 x.kind)).setCell ⟨w.heap.size, 1, none⟩ (.int .i64 x.n)).setCell ⟨w.heap.size, 2, none⟩ (str x.s))) := by
  obtain ⟨z0, z1, z2, y0, y1, y2, s0, s1, s2⟩ := res_facts HP (Keeps.refl _ X) x
  exact ⟨⟨z0, z1, z2, y0, y1, y2⟩, ⟨s0, s1, s2⟩, hide (kX.fresh (Nat.le_refl _) (keeps_set3 X w.heap.size (.int .i64 x.kind) (.int .i64 x.n) (str x.s)))⟩
set_option maxRecDepth 100000 in
set_option maxHeartbeats 4000000 in
theorem of20_v (a b : ValA) (kv : Value) (w : World) (h : ValsAt w kv [a, b]) : Calls Tryz.prog 94 #[.int .i64 20, kv] w fun e w' => e = .returned (if a.kind = 0 then b else a).v ∧ Keeps (fun _ => False) w w' := by
  obtain ⟨kb, ko, cap, rfl, hb, ⟨x0, x1, x2⟩, ⟨y0, y1, y2⟩⟩ := two_cells h
  obtain ⟨X, hX⟩ : ∃ X, w.alloc (.cells #[.int .i64 0, .int .i64 0, .string ⟨#[]⟩] 41) = X := ⟨_, rfl⟩
  have HP := (hX ▸ heap_alloc_new w _ : X.heap[w.heap.size]? = some (.cells #[.int .i64 0, .int .i64 0, .string ⟨#[]⟩] 41 (0, 0)))
  have kX : Keeps (fun _ => False) w X := hX ▸ kAlloc w _
  have x0' := (kX.cell hb id).trans x0
  have x1' := (kX.cell hb id).trans x1
  have x2' := (kX.cell hb id).trans x2
  have y0' := (kX.cell hb id).trans y0
  have y1' := (kX.cell hb id).trans y1
  have y2' := (kX.cell hb id).trans y2
  simp only [Nat.zero_mul, Nat.add_zero, Nat.one_mul] at x0' x1' x2' y0' y1' y2'
  by_cases h0 : a.kind = 0
  · have h0b : (a.kind == 0) = true := by simp [h0]
    rw [if_pos h0]
    obtain ⟨⟨z0, z1, z2, u0, u1, u2⟩, ⟨s0, s1, s2⟩, HK⟩ := res_load (x := b) HP kX
    clear h hb x0 x1 x2 y0 y1 y2 kX HP h0
    show Calls _ _ _ _ fun e w' => e = .returned (.agg #[.int .i64 b.kind, .int .i64 b.n, str b.s]) ∧ _
    go_enter Tryz.func94, Tryz.ntmps94
    go_wp2_with fail
    refine bodyPost_ret (v := .agg #[.int .i64 b.kind, .int .i64 b.n, str b.s]) (by simp [results, go_sem, s0, s1, s2]) rfl ?_
    exact ⟨rfl, unhide HK⟩
  · have h0b : (a.kind == 0) = false := by simp [h0]
    rw [if_neg h0]
    obtain ⟨⟨z0, z1, z2, u0, u1, u2⟩, ⟨s0, s1, s2⟩, HK⟩ := res_load (x := a) HP kX
    clear h hb x0 x1 x2 y0 y1 y2 kX HP h0
    show Calls _ _ _ _ fun e w' => e = .returned (.agg #[.int .i64 a.kind, .int .i64 a.n, str a.s]) ∧ _
    go_enter Tryz.func94, Tryz.ntmps94
    go_wp2_with fail
    refine bodyPost_ret (v := .agg #[.int .i64 a.kind, .int .i64 a.n, str a.s]) (by simp [results, go_sem, s0, s1, s2]) rfl ?_
    exact ⟨rfl, unhide HK⟩
set_option maxRecDepth 100000 in
set_option maxHeartbeats 4000000 in
theorem of25_v (c a b : ValA) (kv : Value) (w : World) (h : ValsAt w kv [c, a, b]) : Calls Tryz.prog 94 #[.int .i64 25, kv] w fun e w' => e = .returned (if c.n = 1 then a else b).v ∧ Keeps (fun _ => False) w w' := by
  obtain ⟨kb, ko, cap, rfl, hb, hc⟩ := h.cells (by simp)
  have hc0 := hc 0 c rfl
  have hc1 := hc 1 a rfl
  have hc2 := hc 2 b rfl
  obtain ⟨X, hX⟩ : ∃ X, w.alloc (.cells #[.int .i64 0, .int .i64 0, .string ⟨#[]⟩] 41) = X := ⟨_, rfl⟩
  have HP := (hX ▸ heap_alloc_new w _ : X.heap[w.heap.size]? = some (.cells #[.int .i64 0, .int .i64 0, .string ⟨#[]⟩] 41 (0, 0)))
  have kX : Keeps (fun _ => False) w X := hX ▸ kAlloc w _
  have c1' := (kX.cell hb id).trans hc0.2.1
  have x0' := (kX.cell hb id).trans hc1.1
  have x1' := (kX.cell hb id).trans hc1.2.1
  have x2' := (kX.cell hb id).trans hc1.2.2
  have y0' := (kX.cell hb id).trans hc2.1
  have y1' := (kX.cell hb id).trans hc2.2.1
  have y2' := (kX.cell hb id).trans hc2.2.2
  simp only [Nat.zero_mul, Nat.add_zero, Nat.one_mul, Nat.reduceMul] at c1' x0' x1' x2' y0' y1' y2'
  show Calls _ _ #[_, .slice (some ⟨kb, ko, none⟩) 3 cap] _ _
  by_cases h0 : c.n = 1
  · have h0b : (c.n == 1) = true := by simp [h0]
    rw [if_pos h0]
    obtain ⟨⟨z0, z1, z2, u0, u1, u2⟩, ⟨s0, s1, s2⟩, HK⟩ := res_load (x := a) HP kX
    clear h hb hc hc0 hc1 hc2 kX HP h0
    show Calls _ _ _ _ fun e w' => e = .returned (.agg #[.int .i64 a.kind, .int .i64 a.n, str a.s]) ∧ _
    go_enter Tryz.func94, Tryz.ntmps94
    go_wp2_with fail
    refine bodyPost_ret (v := .agg #[.int .i64 a.kind, .int .i64 a.n, str a.s]) (by simp [results, go_sem, s0, s1, s2]) rfl ?_
    exact ⟨rfl, unhide HK⟩
  · have h0b : (c.n == 1) = false := by simp [h0]
    rw [if_neg h0]
    obtain ⟨⟨z0, z1, z2, u0, u1, u2⟩, ⟨s0, s1, s2⟩, HK⟩ := res_load (x := b) HP kX
    clear h hb hc hc0 hc1 hc2 kX HP h0
    show Calls _ _ _ _ fun e w' => e = .returned (.agg #[.int .i64 b.kind, .int .i64 b.n, str b.s]) ∧ _
    go_enter Tryz.func94, Tryz.ntmps94
    go_wp2_with fail
    refine bodyPost_ret (v := .agg #[.int .i64 b.kind, .int .i64 b.n, str b.s]) (by simp [results, go_sem, s0, s1, s2]) rfl ?_
    exact ⟨rfl, unhide HK⟩
theorem fit_two {a b : KA} {x y : ValA} (h : FitL [a, b] [x, y]) : FitK a x ∧ FitK b y := by cases h with | cons h1 h2 => cases h2 with | cons h3 _ => exact ⟨h1, h3⟩
theorem comp_good {a b : KA} {x y : ValA} {ts : List Int} (h : FitL [a, b] [x, y]) (hr : (comparesK ts [a, b]).2 = 0) : goodV x ∧ goodV y ∧ x.kind = y.kind := by
  obtain ⟨h1, h2⟩ := fit_two h
  obtain ⟨q1, q2⟩ := orI_zero (show orI (plainI a ts) (plainI b [a.t]) = 0 from hr)
  obtain ⟨_, o1⟩ := plain_zero q1
  obtain ⟨t2, o2⟩ := plain_zero q2
  obtain ⟨g1, k1⟩ := h1.plain o1
  obtain ⟨g2, k2⟩ := h2.plain o2
  have : b.t = a.t := by simpa using t2
  exact ⟨g1, g2, by rw [k1, k2, this]⟩
theorem holds_less {a b : ValA} (ha : goodV a) (hb : goodV b) (hk : a.kind = b.kind) : holdsR 12 a b = decide (ordV a b < 0) ∧ holdsR 13 a b = decide (ordV a b ≤ 0) ∧ holdsR 14 a b = decide (0 < ordV a b) ∧ holdsR 15 a b = decide (0 ≤ ordV a b) := by
  obtain ⟨h1, h2⟩ := good_less ha hb hk
  refine ⟨h1, h2, ?_, ?_⟩
  · show lessR b a = _
    have : lessR b a = !decide (ordV a b ≤ 0) := by rw [← h2, Bool.not_not]
    rw [this]
    by_cases h : ordV a b ≤ 0
    · simp [h]
    · simp [h]; omega
  · show (!lessR a b) = _
    rw [h1]
    by_cases h : ordV a b < 0
    · simp [h]
    · simp [h]; omega
/-- An operation of the document on values that fit. -/
theorem of_v (S : List FieldA) (o : Nat) (s : Txt) (h7 : 7 ≤ o) (h25 : o ≤ 25) {ks : List KA} {vs : List ValA} (hf : FitL ks vs) (hl : (ks.length : Int) = kidsB o) (hr : (ruleP S o s ks).2 = 0) (hs : ∀ v ∈ vs, v.s.length ≤ 20) (kv : Value) (w : World) (h : ValsAt w kv vs) :
    Calls Tryz.prog 94 #[.int .i64 (o : Int), kv] w fun e w' => e = .returned (opV o vs).v ∧ Keeps (fun _ => False) w w' := by
  have hlen := hf.len
  have one : kidsB o = 1 → ∃ k a, ks = [k] ∧ vs = [a] := fun e => by
    match ks, vs, hf, hl, hlen with
    | [k], [a], _, _, _ => exact ⟨k, a, rfl, rfl⟩
    | [], _, _, hl, _ => simp at hl; omega
    | _ :: _ :: _, _, _, hl, _ => simp at hl; omega
  have two : kidsB o = 2 → ∃ k l a b, ks = [k, l] ∧ vs = [a, b] := fun e => by
    match ks, vs, hf, hl, hlen with
    | [k, l], [a, b], _, _, _ => exact ⟨k, l, a, b, rfl, rfl⟩
    | [], _, _, hl, _ => simp at hl; omega
    | [_], _, _, hl, _ => simp at hl; omega
    | _ :: _ :: _ :: _, _, _, hl, _ => simp at hl; omega
  have three : kidsB o = 3 → ∃ k l m a b c, ks = [k, l, m] ∧ vs = [a, b, c] := fun e => by
    match ks, vs, hf, hl, hlen with
    | [k, l, m], [a, b, c], _, _, _ => exact ⟨k, l, m, a, b, c, rfl, rfl⟩
    | [], _, _, hl, _ => simp at hl; omega
    | [_], _, _, hl, _ => simp at hl; omega
    | [_, _], _, _, hl, _ => simp at hl; omega
    | _ :: _ :: _ :: _ :: _, _, _, hl, _ => simp at hl; omega
  rcases (show o = 7 ∨ o = 8 ∨ o = 9 ∨ o = 10 ∨ o = 11 ∨ o = 12 ∨ o = 13 ∨ o = 14 ∨ o = 15 ∨ o = 16 ∨ o = 17 ∨ o = 18 ∨ o = 19 ∨ o = 20 ∨ o = 21 ∨ o = 22 ∨ o = 23 ∨ o = 24 ∨ o = 25 by omega) with rfl | rfl | rfl | rfl | rfl | rfl | rfl | rfl | rfl | rfl | rfl | rfl | rfl | rfl | rfl | rfl | rfl | rfl | rfl
  · obtain ⟨k, a, rfl, rfl⟩ := one (by decide)
    exact of7_v a kv w h
  · obtain ⟨k, a, rfl, rfl⟩ := one (by decide)
    exact of8_v a kv w h
  · obtain ⟨k, l, a, b, rfl, rfl⟩ := two (by decide)
    exact of9_v a b kv w h
  · obtain ⟨k, l, a, b, rfl, rfl⟩ := two (by decide)
    exact of10_v a b kv w h
  · obtain ⟨k, l, a, b, rfl, rfl⟩ := two (by decide)
    exact of11_v a b kv w h
  · obtain ⟨k, l, a, b, rfl, rfl⟩ := two (by decide)
    obtain ⟨g1, g2, g3⟩ := comp_good hf (show (comparesK [1, 3] [k, l]).2 = 0 from hr)
    have := of12_v a b kv w h (hs a (by simp)) (hs b (by simp))
    rw [(holds_less g1 g2 g3).1] at this
    exact this
  · obtain ⟨k, l, a, b, rfl, rfl⟩ := two (by decide)
    obtain ⟨g1, g2, g3⟩ := comp_good hf (show (comparesK [1, 3] [k, l]).2 = 0 from hr)
    have := of13_v a b kv w h (hs a (by simp)) (hs b (by simp))
    rw [(holds_less g1 g2 g3).2.1] at this
    exact this
  · obtain ⟨k, l, a, b, rfl, rfl⟩ := two (by decide)
    obtain ⟨g1, g2, g3⟩ := comp_good hf (show (comparesK [1, 3] [k, l]).2 = 0 from hr)
    have := of14_v a b kv w h (hs a (by simp)) (hs b (by simp))
    rw [(holds_less g1 g2 g3).2.2.1] at this
    exact this
  · obtain ⟨k, l, a, b, rfl, rfl⟩ := two (by decide)
    obtain ⟨g1, g2, g3⟩ := comp_good hf (show (comparesK [1, 3] [k, l]).2 = 0 from hr)
    have := of15_v a b kv w h (hs a (by simp)) (hs b (by simp))
    rw [(holds_less g1 g2 g3).2.2.2] at this
    exact this
  · obtain ⟨k, l, a, b, rfl, rfl⟩ := two (by decide)
    exact of16_v a b kv w h (hs a (by simp)) (hs b (by simp))
  · obtain ⟨k, l, a, b, rfl, rfl⟩ := two (by decide)
    exact of17_v a b kv w h (hs a (by simp)) (hs b (by simp))
  · obtain ⟨k, l, a, b, rfl, rfl⟩ := two (by decide)
    exact of18_v a b kv w h (hs a (by simp)) (hs b (by simp))
  · obtain ⟨k, l, a, b, rfl, rfl⟩ := two (by decide)
    exact of19_v a b kv w h (hs a (by simp)) (hs b (by simp))
  · obtain ⟨k, l, a, b, rfl, rfl⟩ := two (by decide)
    exact of20_v a b kv w h
  · obtain ⟨k, l, a, b, rfl, rfl⟩ := two (by decide)
    exact of21_v a b kv w h
  · obtain ⟨k, l, a, b, rfl, rfl⟩ := two (by decide)
    exact of22_v a b kv w h
  · obtain ⟨k, a, rfl, rfl⟩ := one (by decide)
    exact of23_v a kv w h (hs a (by simp))
  · obtain ⟨k, l, a, b, rfl, rfl⟩ := two (by decide)
    exact of24_v a b kv w h (hs a (by simp)) (hs b (by simp))
  · obtain ⟨k, l, m, c, a, b, rfl, rfl⟩ := three (by decide)
    exact of25_v c a b kv w h
end Go.Proofs.YtiinohibmcefkaaGreatDoor
namespace Go.Proofs.YtiinohibmcefkaaGreatDoor
open Go.RowKit Go.Maps

theorem fold_at (V : Nat → Value) : ∀ (l : List Nat) (a : Act) (t : Nat), (l.foldl (fun a d => a.put (some d) (V d)) a).tmps[t]? = (if t ∈ l ∧ t < a.tmps.size then some (V t) else a.tmps[t]?) ∧ (l.foldl (fun a d => a.put (some d) (V d)) a).tmps.size = a.tmps.size ∧ (l.foldl (fun a d => a.put (some d) (V d)) a).defers = a.defers
  | [], a, t => by simp
  | d :: l, a, t => by
    obtain ⟨h1, h2, h3⟩ := fold_at V l (a.put (some d) (V d)) t
    have hs : (a.put (some d) (V d)).tmps.size = a.tmps.size := by unfold Act.put; simp
    have hd : (a.put (some d) (V d)).defers = a.defers := rfl
    simp only [List.foldl_cons]
    refine ⟨?_, h2.trans hs, h3.trans hd⟩
    rw [h1, hs]
    have hp : (a.put (some d) (V d)).tmps[t]? = if d = t ∧ t < a.tmps.size then some (V d) else a.tmps[t]? := by
      unfold Act.put
      simp only [Array.getElem?_setIfInBounds]
      by_cases e : d = t
      · subst e
        by_cases hl : d < a.tmps.size
        · simp [hl]
        · simp [hl]
      · simp [e]
    rw [hp]
    by_cases hl : t < a.tmps.size
    · by_cases e : d = t
      · subst e
        by_cases hm : d ∈ l
        · simp [hl, hm]
        · simp [hl, hm]
      · have e' : ¬ t = d := fun q => e q.symm
        by_cases hm : t ∈ l
        · simp [hl, hm]
        · simp [hl, hm, e, e']
    · simp [hl]
/-- What a region leaves, written out. -/
theorem same_fold {a0 A : Act} {n : Nat} {dl : List Nat} (h : Same a0 n (fun i => dl.getD i 0) A) (hn : dl.length = n) : A = dl.foldl (fun a d => a.put (some d) (A.tmps.getD d undef)) a0 := by
  have hf := fold_at (fun d => A.tmps.getD d undef) dl a0
  have ht : A.tmps = (dl.foldl (fun a d => a.put (some d) (A.tmps.getD d undef)) a0).tmps := by
    apply Array.ext_getElem?
    intro t
    rw [(hf t).1]
    by_cases hm : t ∈ dl ∧ t < a0.tmps.size
    · rw [if_pos hm, Array.getD_eq_getD_getElem?, Array.getElem?_eq_getElem (by rw [h.size]; exact hm.2)]
      rfl
    · rw [if_neg hm]
      by_cases hl : t < a0.tmps.size
      · have hnm : t ∉ dl := fun q => hm ⟨q, hl⟩
        have := h.slot t fun i hi e => hnm (by rw [← e]; subst hn; rw [List.getD_eq_getElem?_getD, List.getElem?_eq_getElem hi]; exact List.getElem_mem hi)
        rw [Array.getD_eq_getD_getElem?, Array.getD_eq_getD_getElem?, Array.getElem?_eq_getElem (by rw [h.size]; exact hl), Array.getElem?_eq_getElem hl] at this
        rw [Array.getElem?_eq_getElem (by rw [h.size]; exact hl), Array.getElem?_eq_getElem hl]
        exact congrArg some this
      · rw [Array.getElem?_eq_none (by rw [h.size]; omega), Array.getElem?_eq_none (by omega)]
  have hdf : A.defers = (dl.foldl (fun a d => a.put (some d) (A.tmps.getD d undef)) a0).defers := by rw [(hf 0).2.2, h.defers]
  cases A with
  | mk tm df =>
    generalize dl.foldl (fun a d => a.put (some d) ((⟨tm, df⟩ : Act).tmps.getD d undef)) a0 = B at ht hdf ⊢
    cases B
    simp only at ht hdf
    rw [ht, hdf]
theorem zeros_at {S : List FieldA} {i : Nat} {f : FieldA} (h : S[i]? = some f) : (zeros S)[i]? = some (zeroV f) := by
  unfold zeros
  rw [List.getElem?_map, h]
  rfl
set_option maxRecDepth 100000 in
set_option maxHeartbeats 4000000 in
/-- What a field is worth on a row, by the document. -/
theorem rfield_v (S : List FieldA) (sv u : Value) (h : Bool) (vals : List ValA) (i : Nat) (w : World) (hi : i < S.length) (hv : h = true → i < vals.length) (hf : FldsAt w sv S) (hu : ValsAt w u vals) :
    Calls Tryz.prog 92 #[.agg #[sv], .int .i64 (i : Int), .agg #[.bool h, u]] w fun e w' => e = .returned (((if h then vals else zeros S)[i]?).getD zV).v ∧ Keeps (fun _ => False) w w' := by
  obtain ⟨so, sc, rfl⟩ := RowAt.form hf
  obtain ⟨uo, uc, rfl⟩ := RowAt.form hu
  obtain ⟨W, hW, hkW, g0, g1, g2⟩ := boxA3 w #[.slice so S.length sc] #[.bool h, .slice uo vals.length uc] #[.int .i64 0, .int .i64 0, .string ⟨#[]⟩] 24 31 41
  have i0 : ¬ (i : Int) < 0 := by omega
  have i1 : (0 : Int) ≤ (i : Int) := by omega
  have p0 := cl1 g0
  obtain ⟨q0, q1⟩ := cl2 g1
  have HG := hide g2
  have HKW := hide hkW
  cases h with
  | false =>
    obtain ⟨f, hfi⟩ : ∃ f, S[i]? = some f := ⟨_, List.getElem?_eq_getElem hi⟩
    obtain ⟨fb, fo, fc, e1, hfb, hc⟩ := hf.cells (by omega)
    simp at e1
    obtain ⟨rfl, rfl⟩ := e1
    obtain ⟨n0, n1, n2⟩ := hc i f hfi
    replace n0 := (hkW.cell hfb id).trans n0
    replace n1 := (hkW.cell hfb id).trans n1
    replace n2 := (hkW.cell hfb id).trans n2
    have hx : (((if false then vals else zeros S)[i]?).getD zV) = zeroV f := by simp [zeros_at hfi]
    rw [hx]
    have i2 : (i : Int) < (S.length : Int) := by omega
    have HZ : Hid (Calls Tryz.prog 153 #[.agg #[str f.name, .int .i64 f.type, .bool f.opt]] W _) := hide (zeroOf_any f W)
    generalize zeroV f = x at *
    clear hc hf hu hfi hv hi hfb hkW g0 g1 g2 hx
    go_enter Tryz.func92, Tryz.ntmps92
    go_wp2_with fail
    refine (unhide HZ).mono ?_
    rintro e w1 ⟨rfl, hk1⟩
    obtain ⟨z0, z1, z2, y0, y1, y2, s0, s1, s2⟩ := res_facts (unhide HG) hk1 x
    have HK := hide (((unhide HKW).trans hk1).fresh (by omega) (keeps_set3 w1 (w.heap.size + 1 + 1) (.int .i64 x.kind) (.int .i64 x.n) (str x.s)))
    unfold ValA.v
    clear hk1
    go_wp2_with fail
    refine bodyPost_ret (v := .agg #[.int .i64 x.kind, .int .i64 x.n, str x.s]) (by simp [results, go_sem, s0, s1, s2]) rfl ?_
    exact ⟨rfl, unhide HK⟩
  | true =>
    have hvl := hv rfl
    obtain ⟨x, hxi⟩ : ∃ x, vals[i]? = some x := ⟨_, List.getElem?_eq_getElem hvl⟩
    obtain ⟨vb, vo, vc, e1, hvb, hc⟩ := hu.cells (by omega)
    simp at e1
    obtain ⟨rfl, rfl⟩ := e1
    obtain ⟨n0, n1, n2⟩ := hc i x hxi
    replace n0 := (hkW.cell hvb id).trans n0
    replace n1 := (hkW.cell hvb id).trans n1
    replace n2 := (hkW.cell hvb id).trans n2
    have hx : (((if true then vals else zeros S)[i]?).getD zV) = x := by simp [hxi]
    rw [hx]
    have i2 : (i : Int) < (vals.length : Int) := by omega
    obtain ⟨z0, z1, z2, y0, y1, y2, s0, s1, s2⟩ := res_facts (unhide HG) (Keeps.refl _ W) x
    have HK := hide ((unhide HKW).fresh (by omega) (keeps_set3 W (w.heap.size + 1 + 1) (.int .i64 x.kind) (.int .i64 x.n) (str x.s)))
    clear hc hf hu hxi hv hi hvb hkW g0 g1 g2 hx hvl
    show Calls _ _ _ _ fun e w' => e = .returned (.agg #[.int .i64 x.kind, .int .i64 x.n, str x.s]) ∧ _
    go_enter Tryz.func92, Tryz.ntmps92
    go_wp2_with fail
    refine bodyPost_ret (v := .agg #[.int .i64 x.kind, .int .i64 x.n, str x.s]) (by simp [results, go_sem, s0, s1, s2]) rfl ?_
    exact ⟨rfl, unhide HK⟩
theorem names_nodup {S : List FieldA} (hS : schemaB S = true) : (S.map FieldA.name).Nodup := by
  unfold schemaB at hS
  simp only [Bool.and_eq_true, decide_eq_true_eq] at hS
  exact hS.1.2
theorem schema_len {S : List FieldA} (hS : schemaB S = true) : S.length ≤ 8 := by
  unfold schemaB at hS
  simp only [Bool.and_eq_true, decide_eq_true_eq] at hS
  exact hS.1.1.1.2
theorem idx_unique {S : List FieldA} (hS : schemaB S = true) {nm : Txt} {f : FieldA} {k : Nat} (h1 : fieldOf S nm = some f) (h2 : S[k]? = some f) : k = placeP S nm := by
  have h3 := find_idx h1
  have hn := names_nodup hS
  obtain ⟨l1, e1⟩ := List.getElem?_eq_some_iff.1 h2
  obtain ⟨l2, e2⟩ := List.getElem?_eq_some_iff.1 h3
  exact (List.getElem?_inj (by simpa using l1) hn).1 (by rw [List.getElem?_map, List.getElem?_map, h2, h3])
/-- The document's number of a field that there is. -/
theorem rplace_v (S : List FieldA) (hS : schemaB S = true) (sv : Value) (nm : Txt) (f : FieldA) (hf : fieldOf S nm = some f) (w : World) (h : FldsAt w sv S) :
    Calls Tryz.prog 93 #[.agg #[sv], str nm] w fun e w' => e = .returned (.int .i64 (placeP S nm : Int)) ∧ Keeps (fun _ => False) w w' := by
  refine (refField_v S sv nm w h (schema_len hS)).mono ?_
  rintro e w' ⟨⟨i, rfl, hi⟩, hk⟩
  rcases hi with ⟨h0, _⟩ | ⟨k, f', h1, h2, rfl⟩
  · rw [hf] at h0; cases h0
  · rw [hf] at h2
    obtain rfl := Option.some.inj h2
    rw [idx_unique hS hf h1]
    exact ⟨rfl, hk⟩
end Go.Proofs.YtiinohibmcefkaaGreatDoor
