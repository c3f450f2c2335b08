import Derived.Test.YtijfnlfgehcpaaaGreatDoorZa
namespace Go.Proofs.YtijfnlfgehcpaaaGreatDoor
open Go.RowKit Go.Maps

set_option maxRecDepth 100000 in
theorem near44 (w : World) (c : Nat) (n : Int) (d : Bool) (h : w.cell? ⟨c, 0, none⟩ = some (.int .i64 n)) :
    Calls Tryz.prog 44 #[.pointer (some ⟨c, 0, none⟩), .bool d] w fun e w' => e = .returned (.bool (d || decide (67108864 < n))) ∧ Keeps (fun _ => False) w w' := by
  go_enter Tryz.func44, Tryz.ntmps44
  cases d with
  | true =>
    go_wp2_with fail
    go_ret
    exact ⟨by first | rfl | simp, Keeps.refl _ _⟩
  | false =>
    go_wp2_with fail
    go_ret
    exact ⟨by first | rfl | simp, Keeps.refl _ _⟩
set_option maxRecDepth 100000 in
set_option maxHeartbeats 800000 in
/-- Would the expressions be too great, if more were built round them? -/
theorem near_v (B up : Nat) (l : EL) (v : Value) (w : World) (hB : B ≤ w.heap.size) (hS : SlE (argZ B) w up v l) :
    Calls Tryz.prog 24 #[v] w fun e w' => ∃ r : Bool, e = .returned (.bool r) ∧ Keeps (fun _ => False) w w' ∧ (r = false → l.size ≤ 67108864) := by
  have HS := hide (hS.keepF ((Keeps.refl _ w).alloc (.cells #[.int .i64 0] 67)))
  have HK : Hid (Keeps (fun _ => False) w (w.alloc (.cells #[.int .i64 0] 67))) := hide ((Keeps.refl _ w).alloc _)
  obtain ⟨ao, cap, rfl, hc⟩ := hS.head
  clear hS
  go_enter Tryz.func24, Tryz.ntmps24
  go_wp2_with fail
  refine (parts_exprs B w.heap.size hB (l.size + 1) l (by omega) _ up _ 0 65528 (unhide HS) (heap_alloc_new w _) (by omega) (by omega) (by omega) (by omega)).mono ?_
  rintro e w1 ⟨r, n1, rfl, hc1, hk1, hn1, hr1⟩
  have m0 := (cell_of_blk hc1 0).trans rfl
  have HKE := hide (keeps_new (unhide HK) hk1)
  have HR1 := hide hr1
  clear hc1 hk1 hr1 HS
  cases r with
  | true =>
    go_wp2_with fail
    refine (near44 w1 w.heap.size n1 true m0).mono ?_
    rintro e w2 ⟨rfl, hk2⟩
    have HK2 := hide ((unhide HKE).trans hk2)
    clear hk2
    go_wp2_with fail
    go_ret
    exact ⟨true, by first | rfl | simp, unhide HK2, fun h => by cases h⟩
  | false =>
    go_wp2_with fail
    refine (near44 w1 w.heap.size n1 false m0).mono ?_
    rintro e w2 ⟨rfl, hk2⟩
    have HK2 := hide ((unhide HKE).trans hk2)
    clear hk2
    go_wp2_with fail
    go_ret
    exact ⟨decide (67108864 < n1), by first | rfl | simp, unhide HK2, fun h => by have := (unhide HR1 (by first | rfl | trivial)).1; have h2 : ¬ (67108864 < n1) := by simpa using h
                                                                                  omega⟩
/-- The world as 'same' finds it. -/
structure ProM (w X : World) (sv : Value) (h : Bool) (u : Value) (a b : Array Value) : Prop where
  kept : Keeps (fun _ => False) w X
  s0 : X.heap[w.heap.size]? = some (.cells #[sv] 24 (0, 0))
  r0 : X.heap[w.heap.size + 1]? = some (.cells #[.bool h, u] 31 (0, 0))
  a0 : X.heap[w.heap.size + 1 + 1]? = some (.cells a 27 (0, 0))
  b0 : X.heap[w.heap.size + 1 + 1 + 1]? = some (.cells b 27 (0, 0))
theorem proM_of (w : World) (sv : Value) (h : Bool) (u : Value) (a b : Array Value) : ∃ X, (((w.alloc (.cells #[sv] 24)).alloc (.cells #[.bool h, u] 31)).alloc (.cells a 27)).alloc (.cells b 27) = X ∧ ProM w X sv h u a b := by
  refine ⟨_, rfl, ((((Keeps.refl _ w).alloc _).alloc _).alloc _).alloc _, ?_, ?_, ?_, alloc_at _ _ _ (by simp)⟩
  · exact (((((Keeps.refl (fun _ => False) _).alloc _).alloc _).alloc _).block _ (by simp) id).trans (heap_alloc_new w _)
  · exact ((((Keeps.refl (fun _ => False) _).alloc _).alloc _).block _ (by simp) id).trans (alloc_at _ _ _ (by simp))
  · exact (((Keeps.refl (fun _ => False) _).alloc _).block _ (by simp) id).trans (alloc_at _ _ _ (by simp))
set_option maxRecDepth 100000 in
set_option maxHeartbeats 4000000 in
/-- Two expressions have one value, where both may be asked. -/
theorem same_v (ZA ZB : Zone) (S : List FieldA) (h : Bool) (vals : List ValA) (op n op2 n2 : Int) (s s2 : Txt) (kids kids2 : EL) (hz : kids.size + 1 ≤ 4294967294) (hz2 : kids2.size + 1 ≤ 4294967294) (sv u xv yv : Value) (w : World) (up up2 : Nat) (hT : Types w) (hF : Forms w) (hf : FldsAt w sv S) (hu : ValsAt w u vals) (hx : SlE ZA w up xv kids) (hy : SlE ZB w up2 yv kids2)
    (hP : (valueP S op n s kids h vals).2 = 0 → (valueP S op2 n2 s2 kids2 h vals).2 = 0 → (valueP S op n s kids h vals).1 = (valueP S op2 n2 s2 kids2 h vals).1) :
    Calls Tryz.prog 25 #[.agg #[sv], .agg #[.bool h, u], exV op n s xv, exV op2 n2 s2 yv] w fun e w' => e = .returned (.bool true) ∧ Keeps (fun _ => False) w w' := by
  obtain ⟨so, sc, rfl⟩ := RowAt.form hf
  obtain ⟨uo, uc, rfl⟩ := RowAt.form hu
  obtain ⟨xo, xc, rfl, _⟩ := hx.head
  obtain ⟨yo, yc, rfl, _⟩ := hy.head
  obtain ⟨X, hX, P⟩ := proM_of w (.slice so S.length sc) h (.slice uo vals.length uc) #[.int .i64 op, .int .i64 n, str s, .slice xo kids.len xc] #[.int .i64 op2, .int .i64 n2, str s2, .slice yo kids2.len yc]
  have SB : ∀ w' : World, Keeps (fun _ => False) X w' → w'.cell? ⟨w.heap.size, 0, none⟩ = some (.slice so S.length sc) ∧ w'.cell? ⟨w.heap.size + 1, 0, none⟩ = some (.bool h) ∧ w'.cell? ⟨w.heap.size + 1, 1, none⟩ = some (.slice uo vals.length uc) ∧
      w'.cell? ⟨w.heap.size + 1 + 1, 0, none⟩ = some (.int .i64 op) ∧ w'.cell? ⟨w.heap.size + 1 + 1, 1, none⟩ = some (.int .i64 n) ∧ w'.cell? ⟨w.heap.size + 1 + 1, 2, none⟩ = some (str s) ∧ w'.cell? ⟨w.heap.size + 1 + 1, 3, none⟩ = some (.slice xo kids.len xc) ∧
      w'.cell? ⟨w.heap.size + 1 + 1 + 1, 0, none⟩ = some (.int .i64 op2) ∧ w'.cell? ⟨w.heap.size + 1 + 1 + 1, 1, none⟩ = some (.int .i64 n2) ∧ w'.cell? ⟨w.heap.size + 1 + 1 + 1, 2, none⟩ = some (str s2) ∧ w'.cell? ⟨w.heap.size + 1 + 1 + 1, 3, none⟩ = some (.slice yo kids2.len yc) := fun w' hq => by
    have a := (hq.block _ (lt_of_block P.s0) id).trans P.s0
    have b := (hq.block _ (lt_of_block P.r0) id).trans P.r0
    have c := (hq.block _ (lt_of_block P.a0) id).trans P.a0
    have d := (hq.block _ (lt_of_block P.b0) id).trans P.b0
    exact ⟨(cell_of_blk a _).trans rfl, (cell_of_blk b _).trans rfl, (cell_of_blk b _).trans rfl, (cell_of_blk c _).trans rfl, (cell_of_blk c _).trans rfl, (cell_of_blk c _).trans rfl, (cell_of_blk c _).trans rfl, (cell_of_blk d _).trans rfl, (cell_of_blk d _).trans rfl, (cell_of_blk d _).trans rfl, (cell_of_blk d _).trans rfl⟩
  have HSB := hide SB
  have K := fun W' (hk : Keeps (fun _ => False) X W') => P.kept.trans hk
  have HV1 := fun W' (hk : Keeps (fun _ => False) X W') => hide (value_v ZA S op n s kids hz h vals (.slice so S.length sc) (.slice xo kids.len xc) (.slice uo vals.length uc) W' up (hT.keepF (K W' hk)) (hF.keepF (K W' hk)) (hf.keepF (K W' hk)) (hx.keepF (K W' hk)) (hu.keepF (K W' hk)))
  have HV2 := fun W' (hk : Keeps (fun _ => False) X W') => hide (value_v ZB S op2 n2 s2 kids2 hz2 h vals (.slice so S.length sc) (.slice yo kids2.len yc) (.slice uo vals.length uc) W' up2 (hT.keepF (K W' hk)) (hF.keepF (K W' hk)) (hf.keepF (K W' hk)) (hy.keepF (K W' hk)) (hu.keepF (K W' hk)))
  have HWX := hide P.kept
  have HPP := hide hP
  have s0 := SB X (Keeps.refl _ _)
  generalize valueP S op n s kids h vals = V at *
  generalize valueP S op2 n2 s2 kids2 h vals = V2 at *
  obtain ⟨⟨Vk, Vn, Vx⟩, VE⟩ := V
  obtain ⟨⟨Yk, Yn, Yx⟩, YE⟩ := V2
  simp only [ValA.v] at HV1 HV2
  clear hT hF hf hx hy hu SB P K hP
  go_enter Tryz.func25, Tryz.ntmps25
  go_wp2_with fail
  refine (unhide (HV1 _ (Keeps.refl _ _))).mono ?_
  rintro e w6 ⟨rfl, hk6⟩
  obtain ⟨HB6, hb6, hc6⟩ := boxed w6 #[.int .i64 Vk, .int .i64 Vn, str Vx] 40
  have v0 := hc6 0 (.int .i64 Vk) rfl
  have v1 := hc6 1 (.int .i64 Vn) rfl
  have v2 := hc6 2 (str Vx) rfl
  have HK6 := hide (hk6.trans (unhide HB6))
  have s6 := unhide HSB _ (unhide HK6)
  generalize hW6 : w6.alloc (.cells #[.int .i64 Vk, .int .i64 Vn, str Vx] 40) = W6 at *
  clear hk6 s0 hc6
  go_wp2_with fail
  refine (unhide (HV2 _ (unhide HK6))).mono ?_
  rintro e w7 ⟨rfl, hk7⟩
  obtain ⟨HB7, hb7, hc7⟩ := boxed w7 #[.int .i64 Yk, .int .i64 Yn, str Yx] 40
  have y0 := hc7 0 (.int .i64 Yk) rfl
  have y1 := hc7 1 (.int .i64 Yn) rfl
  have y2 := hc7 2 (str Yx) rfl
  have hkv := hk7.trans (unhide HB7)
  have t0 := (hkv.cell (o := 0) hb6 id).trans v0
  have t1 := (hkv.cell (o := 1) hb6 id).trans v1
  have t2 := (hkv.cell (o := 2) hb6 id).trans v2
  have HK7 := hide ((unhide HK6).trans hkv)
  generalize hW7 : w7.alloc (.cells #[.int .i64 Yk, .int .i64 Yn, str Yx] 40) = W7 at *
  clear hk7 s6 hc7 hkv v0 v1 v2
  by_cases h1 : VE = 0
  · subst h1
    by_cases h2 : YE = 0
    · subst h2
      have e := unhide HPP rfl rfl
      simp only [ValA.mk.injEq] at e
      obtain ⟨rfl, rfl, rfl⟩ := e
      go_wp2_with fail
      all_goals (go_ret; exact ⟨by first | rfl | simp, (unhide HWX).trans (unhide HK7)⟩)
    · have n1 : (YE != 0) = true := by simpa using h2
      go_wp2_with fail
      all_goals (go_ret; exact ⟨by first | rfl | simp, (unhide HWX).trans (unhide HK7)⟩)
  · have n1 : (VE != 0) = true := by simpa using h1
    go_wp2_with fail
    all_goals (go_ret; exact ⟨by first | rfl | simp, (unhide HWX).trans (unhide HK7)⟩)
end Go.Proofs.YtijfnlfgehcpaaaGreatDoor
