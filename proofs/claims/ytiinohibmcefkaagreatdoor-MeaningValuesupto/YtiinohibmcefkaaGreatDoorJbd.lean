import Derived.Test.YtiinohibmcefkaaGreatDoorJak
import Derived.Test.YtiinohibmcefkaaGreatDoorJaz
import Derived.Test.YtiinohibmcefkaaGreatDoorKr
import Derived.Test.YtiinohibmcefkaaGreatDoorR7
namespace Go.Proofs.YtiinohibmcefkaaGreatDoor
open Go.RowKit Go.Maps

set_option maxRecDepth 100000 in
set_option maxHeartbeats 800000 in
theorem rCheckExpr_v (Z : Zone) (op n : Int) (s : Txt) (kids : EL) (hsz : kids.size + 1 ≤ 2147483647) (w : World) (up : Nat) (v : Value) (hS : SlE Z w up v kids) :
    Calls Tryz.prog 86 #[exV op n s v] w fun e w' => e = .returned (.int .i64 (checkE (.cons op n s kids .nil))) ∧ Keeps (fun _ => False) w w' := by
  have HW := fun (w' : World) (hk : Keeps (fun _ => False) w w') => hide (wellExpr_v Z (kids.size + 1) kids (by omega) (by omega) op n s w' up v (hS.keepF hk))
  have HD := fun (w' : World) (hk : Keeps (fun _ => False) w w') => hide (depthExpr_v Z (kids.size + 1) kids (by omega) (by omega) op n s w' up v (hS.keepF hk))
  obtain ⟨ao, cap, rfl, hc⟩ := hS.head
  have e1 : wellE (.cons op n s kids .nil) = (rootB op n s kids.len && wellE kids) := by simp [wellE]
  have e2 : depthE (.cons op n s kids .nil) = 1 + depthE kids := by simp [depthE]
  unfold checkE
  rw [e1, e2]
  clear hS e1 e2
  generalize (rootB op n s kids.len && wellE kids) = bw at HW ⊢
  generalize 1 + depthE kids = nd at HD ⊢
  obtain ⟨HB, hxb, hxc⟩ := boxedT w #[.int .i64 op, .int .i64 n, str s, .slice ao kids.len cap] 27
  have c0 := hxc 0 (.int .i64 op) rfl
  have c1 := hxc 1 (.int .i64 n) rfl
  have c2 := hxc 2 (str s) rfl
  have c3 := hxc 3 (.slice ao kids.len cap) rfl
  clear hxc
  cases bw with
  | false =>
    rw [if_pos rfl]
    go_enter Tryz.func86, Tryz.ntmps86
    go_wp2_with (go_at_call 147; refine (unhide (HW _ (unhide HB))).mono ?_; rintro e w1 ⟨rfl, hk1⟩)
    go_ret
    exact ⟨rfl, (unhide HB).trans hk1⟩
  | true =>
    rw [if_neg (by simp)]
    by_cases h12 : 12 < nd
    · rw [if_pos h12]
      have g12 : (12 : Int) < (nd : Int) := by omega
      go_enter Tryz.func86, Tryz.ntmps86
      go_wp2_with (first
        | (go_at_call 147; refine (unhide (HW _ (unhide HB))).mono ?_; rintro e w1 ⟨rfl, hk1⟩; have HK1 := hide ((unhide HB).trans hk1); have r0 := (hk1.cell (o := 0) hxb id).trans c0; have r1 := (hk1.cell (o := 1) hxb id).trans c1; have r2 := (hk1.cell (o := 2) hxb id).trans c2; have r3 := (hk1.cell (o := 3) hxb id).trans c3; clear hk1)
        | (go_at_call 148; refine (unhide (HD _ (unhide HK1))).mono ?_; rintro e w2 ⟨rfl, hk2⟩; have HK2 := hide ((unhide HK1).trans hk2); clear hk2))
      go_ret
      exact ⟨rfl, unhide HK2⟩
    · rw [if_neg h12]
      have g12 : ¬ (12 : Int) < (nd : Int) := by omega
      go_enter Tryz.func86, Tryz.ntmps86
      go_wp2_with (first
        | (go_at_call 147; refine (unhide (HW _ (unhide HB))).mono ?_; rintro e w1 ⟨rfl, hk1⟩; have HK1 := hide ((unhide HB).trans hk1); have r0 := (hk1.cell (o := 0) hxb id).trans c0; have r1 := (hk1.cell (o := 1) hxb id).trans c1; have r2 := (hk1.cell (o := 2) hxb id).trans c2; have r3 := (hk1.cell (o := 3) hxb id).trans c3; clear hk1)
        | (go_at_call 148; refine (unhide (HD _ (unhide HK1))).mono ?_; rintro e w2 ⟨rfl, hk2⟩; have HK2 := hide ((unhide HK1).trans hk2); clear hk2))
      go_ret
      exact ⟨rfl, unhide HK2⟩
set_option maxRecDepth 100000 in
set_option maxHeartbeats 4000000 in
theorem refType_v (Z : Zone) (S : List FieldA) (op n : Int) (s : Txt) (kids : EL) (hsz : kids.size + 1 ≤ 2147483647) (sv xv : Value) (w : World) (up : Nat) (hf : FldsAt w sv S) (hx : SlE Z w up xv kids) :
    Calls Tryz.prog 52 #[.agg #[sv], exV op n s xv] w fun e w' => e = .returned (typV (typeP S op n s kids)) ∧ Keeps (fun _ => False) w w' := by
  obtain ⟨ao, cap, rfl, hc⟩ := hx.head
  obtain ⟨so, sc, rfl⟩ := RowAt.form hf
  have HK0 : Hid (Keeps (fun _ => False) w ((w.alloc (.cells #[.slice so S.length sc] 24)).alloc (.cells #[.int .i64 op, .int .i64 n, str s, .slice ao kids.len cap] 27))) := ((Keeps.refl _ w).alloc _).alloc _
  have e1 : (w.alloc (.cells #[.slice so S.length sc] 24)).heap.size = w.heap.size + 1 := by simp
  have hb0 : ((w.alloc (.cells #[.slice so S.length sc] 24)).alloc (.cells #[.int .i64 op, .int .i64 n, str s, .slice ao kids.len cap] 27)).heap[w.heap.size]? = some (.cells #[.slice so S.length sc] 24 (0, 0)) := (((Keeps.refl (fun _ => False) _).alloc _).block _ (by rw [e1]; omega) id).trans (heap_alloc_new w _)
  have hb1 : ((w.alloc (.cells #[.slice so S.length sc] 24)).alloc (.cells #[.int .i64 op, .int .i64 n, str s, .slice ao kids.len cap] 27)).heap[w.heap.size + 1]? = some (.cells #[.int .i64 op, .int .i64 n, str s, .slice ao kids.len cap] 27 (0, 0)) := by
    have := heap_alloc_new (w.alloc (.cells #[.slice so S.length sc] 24)) (.cells #[.int .i64 op, .int .i64 n, str s, .slice ao kids.len cap] 27)
    rw [e1] at this
    exact this
  have SB : ∀ w' : World, Keeps (fun _ => False) ((w.alloc (.cells #[.slice so S.length sc] 24)).alloc (.cells #[.int .i64 op, .int .i64 n, str s, .slice ao kids.len cap] 27)) w' → w'.cell? ⟨w.heap.size, 0, none⟩ = some (.slice so S.length sc) ∧ w'.cell? ⟨w.heap.size + 1, 0, none⟩ = some (.int .i64 op) ∧ w'.cell? ⟨w.heap.size + 1, 1, none⟩ = some (.int .i64 n) ∧ w'.cell? ⟨w.heap.size + 1, 2, none⟩ = some (str s) ∧ w'.cell? ⟨w.heap.size + 1, 3, none⟩ = some (.slice ao kids.len cap) := fun w' hk => by
    have k0 := (hk.block _ (lt_of_block hb0) id).trans hb0
    have k1 := (hk.block _ (lt_of_block hb1) id).trans hb1
    exact ⟨by rw [cell_of_blk k0]; rfl, by rw [cell_of_blk k1]; rfl, by rw [cell_of_blk k1]; rfl, by rw [cell_of_blk k1]; rfl, by rw [cell_of_blk k1]; rfl⟩
  have y := SB _ (Keeps.refl _ _)
  have HSB := hide SB
  have HCS := fun w' (hk : Keeps (fun _ => False) w w') => hide (checkSchema_any S (.slice so S.length sc) w' (hf.keepF hk))
  have HCE := fun w' (hk : Keeps (fun _ => False) w w') => hide (rCheckExpr_v Z op n s kids hsz w' up (.slice ao kids.len cap) (hx.keepF hk))
  have HF := hide hf
  have HSX := hide hx
  unfold typeP
  clear hf hx SB hb0 hb1 e1
  cases hS : schemaB S with
  | false =>
    rw [errS_bad hS] at HCS ⊢
    rw [if_pos (by decide)]
    clear HCE hS
    go_enter Tryz.func52, Tryz.ntmps52
    go_wp2_with (go_at_call 67; refine (unhide (HCS _ (unhide HK0))).mono ?_; rintro e w1 ⟨rfl, hk1⟩; have HKa := hide ((unhide HK0).trans hk1); clear hk1)
    refine bodyPost_ret (v := .tuple #[.int .i64 0, .bool false, .int .i64 60]) (by simp [results, go_sem]) rfl ?_
    exact ⟨rfl, unhide HKa⟩
  | true =>
    rw [errS_good hS] at HCS ⊢
    rw [if_neg (by decide)]
    obtain ⟨C, hC⟩ : ∃ C, C = checkE (.cons op n s kids .nil) := ⟨_, rfl⟩
    rw [← hC] at HCE ⊢
    by_cases hC0 : C = 0
    · subst hC0
      rw [if_neg (by decide)]
      have hwl : wellE (.cons op n s kids .nil) = true := by
        unfold checkE at hC
        split at hC
        · cases hC
        · rename_i h; simpa using h
      simp only [wellE, Bool.and_true, Bool.and_eq_true] at hwl
      have HKI := fun w' (hk : Keeps (fun _ => False) w w') => hide (refKind_v Z S hS so sc (kids.size + 1) kids (by omega) op n s w' up (.slice ao kids.len cap) ((unhide HSX).keepF hk) ((unhide HF).keepF hk) hwl.1 hwl.2)
      obtain ⟨⟨⟨T, O⟩, E⟩, hp⟩ : ∃ p, p = zeroK (kindP S op s kids) := ⟨_, rfl⟩
      rw [← hp] at HKI
      have HRES : Hid ((if (kindP S op s kids).2 ≠ 0 then ((0 : Int), false, (kindP S op s kids).2) else ((kindP S op s kids).1.t, (kindP S op s kids).1.o, 0)) = (T, O, E)) := by
        show _ = _
        unfold zeroK at hp
        by_cases h : (kindP S op s kids).2 = 0
        · rw [if_neg (by simpa using h)] at hp ⊢
          rw [← hp] at h ⊢
          have h' : E = 0 := h
          rw [h']
        · rw [if_pos h] at hp ⊢
          simp only [Prod.mk.injEq, KA.mk.injEq] at hp
          obtain ⟨⟨rfl, rfl⟩, h3⟩ := hp
          rw [h3]
      rw [unhide HRES]
      clear hp hwl hC hS HRES
      go_enter Tryz.func52, Tryz.ntmps52
      go_wp2_with (first
        | (go_at_call 67; refine (unhide (HCS _ (unhide HK0))).mono ?_; rintro e w1 ⟨rfl, hk1⟩; have HKa := hide ((unhide HK0).trans hk1); have HKb := hide hk1; have y1 := unhide HSB _ hk1; clear hk1)
        | (go_at_call 86; refine (unhide (HCE _ (unhide HKa))).mono ?_; rintro e w2 ⟨rfl, hk1⟩; have HKa := hide ((unhide HKa).trans hk1); have HKb := hide ((unhide HKb).trans hk1); have y2 := unhide HSB _ (unhide HKb); clear hk1)
        | (go_at_call 87; refine (unhide (HKI _ (unhide HKa))).mono ?_; rintro e w3 ⟨rfl, hk1⟩; have HKa := hide ((unhide HKa).trans hk1); clear hk1))
      go_region
      all_goals go_wp2_with fail
      all_goals (refine bodyPost_ret (v := .tuple #[.int .i64 T, .bool O, .int .i64 E]) (by simp [results, go_sem]) rfl ?_; exact ⟨rfl, ((unhide HKa).alloc _).drew⟩)
    · rw [if_pos hC0]
      have n0 : (C != 0) = true := by simpa using hC0
      clear hC hC0 hS
      go_enter Tryz.func52, Tryz.ntmps52
      go_wp2_with (first
        | (go_at_call 67; refine (unhide (HCS _ (unhide HK0))).mono ?_; rintro e w1 ⟨rfl, hk1⟩; have HKa := hide ((unhide HK0).trans hk1); have y1 := unhide HSB _ hk1; clear hk1)
        | (go_at_call 86; refine (unhide (HCE _ (unhide HKa))).mono ?_; rintro e w2 ⟨rfl, hk1⟩; have HKa := hide ((unhide HKa).trans hk1); clear hk1))
      refine bodyPost_ret (v := .tuple #[.int .i64 0, .bool false, .int .i64 C]) (by simp [results, go_sem]) rfl ?_
      exact ⟨rfl, unhide HKa⟩
end Go.Proofs.YtiinohibmcefkaaGreatDoor
namespace Go.Proofs.YtiinohibmcefkaaGreatDoor
open Go.RowKit Go.Maps

set_option maxRecDepth 100000 in
set_option maxHeartbeats 4000000 in
/-- The document's Value. -/
theorem rvalue_v (Z : Zone) (S : List FieldA) (op n : Int) (s : Txt) (kids : EL) (hsz : kids.size + 1 ≤ 2147483647) (h : Bool) (vals : List ValA) (sv xv u : Value) (w : World) (up : Nat) (hf : FldsAt w sv S) (hx : SlE Z w up xv kids) (hu : ValsAt w u vals) :
    Calls Tryz.prog 24 #[.agg #[sv], exV op n s xv, .agg #[.bool h, u]] w fun e w' => e = .returned (.tuple #[(valueP S op n s kids h vals).1.v, .int .i64 (valueP S op n s kids h vals).2]) ∧ Keeps (fun _ => False) w w' := by
  obtain ⟨so, sc, rfl⟩ := RowAt.form hf
  obtain ⟨uo, uc, rfl⟩ := RowAt.form hu
  obtain ⟨xo, xc, rfl, _⟩ := hx.head
  obtain ⟨W, hW, hkW, g0, g1, g2, g3⟩ := boxA4 w #[.slice so S.length sc] #[.int .i64 op, .int .i64 n, str s, .slice xo kids.len xc] #[.bool h, .slice uo vals.length uc] #[.int .i64 0, .int .i64 0, .string ⟨#[]⟩] 24 27 31 41
  have HT := hide (fun (W' : World) (hk : Keeps (fun _ => False) w W') => refType_v Z S op n s kids hsz (.slice so S.length sc) (.slice xo kids.len xc) W' up (hf.keepF hk) (hx.keepF hk))
  have HR := hide (fun (W' : World) (hk : Keeps (fun _ => False) w W') => checkRowR_v S (.slice so S.length sc) (.slice uo vals.length uc) h vals W' (hf.keepF hk) (hu.keepF hk))
  have HW := hide (fun (hS : schemaB S = true) (hrow : rowE S h vals = 0) (hb : rootB op n s kids.len = true) (hw : wellE kids = true) (hk0 : (kindP S op s kids).2 = 0) (W' : World) (hk : Keeps (fun _ => False) w W') => rworth_v S hS h vals hrow so uo sc uc (kids.size + 1) kids (Nat.lt_succ_self _) op n s Z up (.slice xo kids.len xc) W' hb hw hk0 (hf.keepF hk) (hu.keepF hk) (hx.keepF hk))
  have H0 := hide (fun (W' : World) (hk : Keeps (fun _ => False) W W') => (hk.block _ (lt_of_block g0) id).trans g0)
  have H1 := hide (fun (W' : World) (hk : Keeps (fun _ => False) W W') => (hk.block _ (lt_of_block g1) id).trans g1)
  have H2 := hide (fun (W' : World) (hk : Keeps (fun _ => False) W W') => (hk.block _ (lt_of_block g2) id).trans g2)
  have H3 := hide (fun (W' : World) (hk : Keeps (fun _ => False) W W') => (hk.block _ (lt_of_block g3) id).trans g3)
  have HKW := hide hkW
  have p0 := cl1 g0
  obtain ⟨c0, c1, c2, c3⟩ := cl4 g1
  have HTZ := hide (fun (e : (typeP S op n s kids).2.2 = 0) => typeP_zero e)
  have HVP : Hid (valueP S op n s kids h vals = if (typeP S op n s kids).2.2 ≠ 0 then (zV, (typeP S op n s kids).2.2) else if rowE S h vals ≠ 0 then (zV, rowE S h vals) else (nodeV S op n s kids h vals, 0)) := rfl
  obtain ⟨Ve, hVe⟩ : ∃ V, V = valueP S op n s kids h vals := ⟨_, rfl⟩
  rw [← hVe] at HVP ⊢
  clear hVe
  obtain ⟨TY, hTY⟩ : ∃ T, T = typeP S op n s kids := ⟨_, rfl⟩
  rw [← hTY] at HVP HTZ HT
  have HTY := hide hTY
  obtain ⟨t1, t2, t3⟩ := TY
  clear hTY g0 g1 g2 g3 hkW hf hx hu
  by_cases ht : t3 = 0
  · subst ht
    obtain ⟨hS, hb, hw, hk0, _⟩ := unhide HTZ rfl
    have hE : errS S = 0 := by unfold errS; rw [hS]; rfl
    have HRE := hide (fun (W' : World) (hk : Keeps (fun _ => False) w W') => (by have := unhide HR W' hk; rw [if_neg (by simpa using hE)] at this; exact this : Calls Tryz.prog 53 #[.agg #[.slice so S.length sc], .agg #[.bool h, .slice uo vals.length uc]] W' fun e w' => e = .returned (.int .i64 (rowE S h vals)) ∧ Keeps (fun _ => False) W' w'))
    have HW2 := hide (fun (q : rowE S h vals = 0) => unhide HW hS q hb hw hk0)
    generalize hRO : rowE S h vals = RO at *
    have hv : Ve = if RO ≠ 0 then (zV, RO) else (nodeV S op n s kids h vals, 0) := by have := unhide HVP; rw [if_neg (by simp)] at this; exact this
    clear hRO HVP HTZ HW HR hS hb hw hk0 hE HTY
    by_cases hr : RO = 0
    · subst hr
      rw [if_neg (by simp)] at hv
      subst hv
      have HW3 := hide (unhide HW2 rfl)
      generalize nodeV S op n s kids h vals = x at *
      show Calls _ _ _ _ fun e w' => e = .returned (.tuple #[.agg #[.int .i64 x.kind, .int .i64 x.n, str x.s], .int .i64 0]) ∧ _
      clear HW2
      go_enter Tryz.func24, Tryz.ntmps24
      go_wp2_with fail
      refine (unhide HT W (unhide HKW)).mono ?_
      rintro e w1 ⟨rfl, hk1⟩
      have HK1 := hide hk1
      have p0' := cl1 (unhide H0 w1 hk1)
      obtain ⟨r0, r1⟩ := cl2 (unhide H2 w1 hk1)
      clear hk1 p0 c0 c1 c2 c3
      go_wp2_with fail
      refine (unhide HRE w1 ((unhide HKW).trans (unhide HK1))).mono ?_
      rintro e w2 ⟨rfl, hk2⟩
      have HK2 := hide ((unhide HK1).trans hk2)
      have p0 := cl1 (unhide H0 w2 (unhide HK2))
      obtain ⟨c0, c1, c2, c3⟩ := cl4 (unhide H1 w2 (unhide HK2))
      obtain ⟨q0, q1⟩ := cl2 (unhide H2 w2 (unhide HK2))
      clear hk2 p0' r0 r1
      go_wp2_with fail
      refine (unhide HW3 w2 ((unhide HKW).trans (unhide HK2))).mono ?_
      rintro e w3 ⟨rfl, hk3⟩
      have HK3 := hide ((unhide HK2).trans hk3)
      unfold ValA.v
      have hkA := kAlloc w3 (.cells #[.int .i64 x.kind, .int .i64 x.n, str x.s] 41)
      obtain ⟨b0, b1, b2⟩ := cl3 (heap_alloc_new w3 (.cells #[.int .i64 x.kind, .int .i64 x.n, str x.s] 41))
      obtain ⟨z0, z1, z2, y0, y1, y2, s0, s1, s2⟩ := res_facts (unhide H3 _ ((unhide HK3).trans hkA)) (Keeps.refl _ _) x
      have HKF := hide ((((unhide HKW).trans (unhide HK3)).trans hkA).fresh (by omega) (keeps_set3 (w3.alloc (.cells #[.int .i64 x.kind, .int .i64 x.n, str x.s] 41)) (w.heap.size + 1 + 1 + 1) (.int .i64 x.kind) (.int .i64 x.n) (str x.s)))
      clear hk3 hkA p0 c0 c1 c2 c3 q0 q1
      generalize hV3 : w3.alloc (.cells #[.int .i64 x.kind, .int .i64 x.n, str x.s] 41) = V3 at *
      go_wp2_with fail
      refine bodyPost_ret (v := .tuple #[.agg #[.int .i64 x.kind, .int .i64 x.n, str x.s], .int .i64 0]) (by simp [results, go_sem, s0, s1, s2]) rfl ?_
      exact ⟨rfl, unhide HKF⟩
    · have nb : (RO != 0) = true := by simpa using hr
      rw [if_pos hr] at hv
      subst hv
      clear HW2 hr
      show Calls _ _ _ _ fun e w' => e = .returned (.tuple #[.agg #[.int .i64 0, .int .i64 0, .string ⟨#[]⟩], .int .i64 RO]) ∧ _
      go_enter Tryz.func24, Tryz.ntmps24
      go_wp2_with fail
      refine (unhide HT W (unhide HKW)).mono ?_
      rintro e w1 ⟨rfl, hk1⟩
      have HK1 := hide hk1
      have p0' := cl1 (unhide H0 w1 hk1)
      obtain ⟨r0, r1⟩ := cl2 (unhide H2 w1 hk1)
      clear hk1 p0 c0 c1 c2 c3
      go_wp2_with fail
      refine (unhide HRE w1 ((unhide HKW).trans (unhide HK1))).mono ?_
      rintro e w2 ⟨rfl, hk2⟩
      have HK2 := hide ((unhide HK1).trans hk2)
      obtain ⟨z0, z1, z2, y0, y1, y2, s0, s1, s2⟩ := res_facts (unhide H3 _ (unhide HK2)) (Keeps.refl _ _) zV
      have HKF := hide (((unhide HKW).trans (unhide HK2)).fresh (by omega) (keeps_set3 w2 (w.heap.size + 1 + 1 + 1) (.int .i64 0) (.int .i64 0) (.string ⟨#[]⟩)))
      clear hk2 p0' r0 r1
      go_wp2_with fail
      refine bodyPost_ret (v := .tuple #[.agg #[.int .i64 0, .int .i64 0, .string ⟨#[]⟩], .int .i64 RO]) (by have s0' := s0; have s1' := s1; have s2' := s2; simp only [zV, str] at s0' s1' s2'; simp [results, go_sem, s0', s1', s2']) rfl ?_
      exact ⟨rfl, unhide HKF⟩
  · have nb : (t3 != 0) = true := by simpa using ht
    have hv : Ve = (zV, t3) := by have := unhide HVP; rw [if_pos ht] at this; exact this
    subst hv
    clear HVP HTZ HW HR ht HTY
    show Calls _ _ _ _ fun e w' => e = .returned (.tuple #[.agg #[.int .i64 0, .int .i64 0, .string ⟨#[]⟩], .int .i64 t3]) ∧ _
    go_enter Tryz.func24, Tryz.ntmps24
    go_wp2_with fail
    refine (unhide HT W (unhide HKW)).mono ?_
    rintro e w1 ⟨rfl, hk1⟩
    have HK1 := hide hk1
    obtain ⟨z0, z1, z2, y0, y1, y2, s0, s1, s2⟩ := res_facts (unhide H3 _ hk1) (Keeps.refl _ _) zV
    have HKF := hide (((unhide HKW).trans hk1).fresh (by omega) (keeps_set3 w1 (w.heap.size + 1 + 1 + 1) (.int .i64 0) (.int .i64 0) (.string ⟨#[]⟩)))
    clear hk1 p0 c0 c1 c2 c3
    go_wp2_with fail
    refine bodyPost_ret (v := .tuple #[.agg #[.int .i64 0, .int .i64 0, .string ⟨#[]⟩], .int .i64 t3]) (by have s0' := s0; have s1' := s1; have s2' := s2; simp only [zV, str] at s0' s1' s2'; simp [results, go_sem, s0', s1', s2']) rfl ?_
    exact ⟨rfl, unhide HKF⟩
end Go.Proofs.YtiinohibmcefkaaGreatDoor
