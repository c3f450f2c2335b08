import Derived.Test.YtiinohibmcefkaaGreatDoorR7
import Derived.Test.YtiinohibmcefkaaGreatDoorR0
namespace Go.Proofs.YtiinohibmcefkaaGreatDoor
open Go.RowKit Go.Maps

set_option maxRecDepth 100000 in
set_option maxHeartbeats 4000000 in
/-- The document's Value. -/
theorem rvalue_v (Z : Zone) (S : List FieldA) (op n : Int) (s : Txt) (kids : EL) (hsz : kids.size + 1 ≤ 2147483647) (h : Bool) (vals : List ValA) (sv xv u : Value) (w : World) (up : Nat) (hf : FldsAt w sv S) (hx : SlE Z w up xv kids) (hu : ValsAt w u vals) :
    Calls Tryz.prog 24 #[.agg #[sv], exV op n s xv, .agg #[.bool h, u]] w fun e w' => e = .returned (.tuple #[(valueP S op n s kids h vals).1.v, .int .i64 (valueP S op n s kids h vals).2]) ∧ Keeps (fun _ => False) w w' := by
  obtain ⟨so, sc, rfl⟩ := RowAt.form hf
  obtain ⟨uo, uc, rfl⟩ := RowAt.form hu
  obtain ⟨xo, xc, rfl, _⟩ := hx.head
  obtain ⟨W, hW, hkW, g0, g1, g2, g3⟩ := boxA4 w #[.slice so S.length sc] #[.int .i64 op, .int .i64 n, str s, .slice xo kids.len xc] #[.bool h, .slice uo vals.length uc] #[.int .i64 0, .int .i64 0, .string ⟨#[]⟩] 24 27 31 41
  have HT := hide (fun (W' : World) (hk : Keeps (fun _ => False) w W') => refType_v Z S op n s kids hsz (.slice so S.length sc) (.slice xo kids.len xc) W' up (hf.keepF hk) (hx.keepF hk))
  have HR := hide (fun (W' : World) (hk : Keeps (fun _ => False) w W') => checkRowR_v S (.slice so S.length sc) (.slice uo vals.length uc) h vals W' (hf.keepF hk) (hu.keepF hk))
  have HW := hide (fun (hS : schemaB S = true) (hrow : rowE S h vals = 0) (hb : rootB op n s kids.len = true) (hw : wellE kids = true) (hk0 : (kindP S op s kids).2 = 0) (W' : World) (hk : Keeps (fun _ => False) w W') => rworth_v S hS h vals hrow so uo sc uc (kids.size + 1) kids (Nat.lt_succ_self _) op n s Z up (.slice xo kids.len xc) W' hb hw hk0 (hf.keepF hk) (hu.keepF hk) (hx.keepF hk))
  have H0 := hide (fun (W' : World) (hk : Keeps (fun _ => False) W W') => (hk.block _ (lt_of_block g0) id).trans g0)
  have H1 := hide (fun (W' : World) (hk : Keeps (fun _ => False) W W') => (hk.block _ (lt_of_block g1) id).trans g1)
  have H2 := hide (fun (W' : World) (hk : Keeps (fun _ => False) W W') => (hk.block _ (lt_of_block g2) id).trans g2)
  have H3 := hide (fun (W' : World) (hk : Keeps (fun _ => False) W W') => (hk.block _ (lt_of_block g3) id).trans g3)
  have HKW := hide hkW
  have p0 := cl1 g0
  obtain ⟨c0, c1, c2, c3⟩ := cl4 g1
  have HTZ := hide (fun (e : (typeP S op n s kids).2.2 = 0) => typeP_zero e)
  have HVP : Hid (valueP S op n s kids h vals = if (typeP S op n s kids).2.2 ≠ 0 then (zV, (typeP S op n s kids).2.2) else if rowE S h vals ≠ 0 then (zV, rowE S h vals) else (nodeV S op n s kids h vals, 0)) := rfl
  obtain ⟨Ve, hVe⟩ : ∃ V, V = valueP S op n s kids h vals := ⟨_, rfl⟩
  rw [← hVe] at HVP ⊢
  clear hVe
  obtain ⟨TY, hTY⟩ : ∃ T, T = typeP S op n s kids := ⟨_, rfl⟩
  rw [← hTY] at HVP HTZ HT
  have HTY := hide hTY
  obtain ⟨t1, t2, t3⟩ := TY
  clear hTY g0 g1 g2 g3 hkW hf hx hu
  by_cases ht : t3 = 0
  · subst ht
    obtain ⟨hS, hb, hw, hk0, _⟩ := unhide HTZ rfl
    have hE : errS S = 0 := by unfold errS; rw [hS]; rfl
    have HRE := hide (fun (W' : World) (hk : Keeps (fun _ => False) w W') => (by have := unhide HR W' hk; rw [if_neg (by simpa using hE)] at this; exact this : Calls Tryz.prog 53 #[.agg #[.slice so S.length sc], .agg #[.bool h, .slice uo vals.length uc]] W' fun e w' => e = .returned (.int .i64 (rowE S h vals)) ∧ Keeps (fun _ => False) W' w'))
    have HW2 := hide (fun (q : rowE S h vals = 0) => unhide HW hS q hb hw hk0)
    generalize hRO : rowE S h vals = RO at *
    have hv : Ve = if RO ≠ 0 then (zV, RO) else (nodeV S op n s kids h vals, 0) := by have := unhide HVP; rw [if_neg (by simp)] at this; exact this
    clear hRO HVP HTZ HW HR hS hb hw hk0 hE HTY
    by_cases hr : RO = 0
    · subst hr
      rw [if_neg (by simp)] at hv
      subst hv
      have HW3 := hide (unhide HW2 rfl)
      generalize nodeV S op n s kids h vals = x at *
      show Calls _ _ _ _ fun e w' => e = .returned (.tuple #[.agg #[.int .i64 x.kind, .int .i64 x.n, str x.s], .int .i64 0]) ∧ _
      clear HW2
      go_enter Tryz.func24, Tryz.ntmps24
      go_wp2_with fail
      refine (unhide HT W (unhide HKW)).mono ?_
      rintro e w1 ⟨rfl, hk1⟩
      have HK1 := hide hk1
      have p0' := cl1 (unhide H0 w1 hk1)
      obtain ⟨r0, r1⟩ := cl2 (unhide H2 w1 hk1)
      clear hk1 p0 c0 c1 c2 c3
      go_wp2_with fail
      refine (unhide HRE w1 ((unhide HKW).trans (unhide HK1))).mono ?_
      rintro e w2 ⟨rfl, hk2⟩
      have HK2 := hide ((unhide HK1).trans hk2)
      have p0 := cl1 (unhide H0 w2 (unhide HK2))
      obtain ⟨c0, c1, c2, c3⟩ := cl4 (unhide H1 w2 (unhide HK2))
      obtain ⟨q0, q1⟩ := cl2 (unhide H2 w2 (unhide HK2))
      clear hk2 p0' r0 r1
      go_wp2_with fail
      refine (unhide HW3 w2 ((unhide HKW).trans (unhide HK2))).mono ?_
      rintro e w3 ⟨rfl, hk3⟩
      have HK3 := hide ((unhide HK2).trans hk3)
      unfold ValA.v
      have hkA := kAlloc w3 (.cells #[.int .i64 x.kind, .int .i64 x.n, str x.s] 41)
      obtain ⟨b0, b1, b2⟩ := cl3 (heap_alloc_new w3 (.cells #[.int .i64 x.kind, .int .i64 x.n, str x.s] 41))
      obtain ⟨z0, z1, z2, y0, y1, y2, s0, s1, s2⟩ := res_facts (unhide H3 _ ((unhide HK3).trans hkA)) (Keeps.refl _ _) x
      have HKF := hide ((((unhide HKW).trans (unhide HK3)).trans hkA).fresh (by omega) (keeps_set3 (w3.alloc (.cells #[.int .i64 x.kind, .int .i64 x.n, str x.s] 41)) (w.heap.size + 1 + 1 + 1) (.int .i64 x.kind) (.int .i64 x.n) (str x.s)))
      clear hk3 hkA p0 c0 c1 c2 c3 q0 q1
      generalize hV3 : w3.alloc (.cells #[.int .i64 x.kind, .int .i64 x.n, str x.s] 41) = V3 at *
      go_wp2_with fail
      refine bodyPost_ret (v := .tuple #[.agg #[.int .i64 x.kind, .int .i64 x.n, str x.s], .int .i64 0]) (by simp [results, go_sem, s0, s1, s2]) rfl ?_
      exact ⟨rfl, unhide HKF⟩
    · have nb : (RO != 0) = true := by simpa using hr
      rw [if_pos hr] at hv
      subst hv
      clear HW2 hr
      show Calls _ _ _ _ fun e w' => e = .returned (.tuple #[.agg #[.int .i64 0, .int .i64 0, .string ⟨#[]⟩], .int .i64 RO]) ∧ _
      go_enter Tryz.func24, Tryz.ntmps24
      go_wp2_with fail
      refine (unhide HT W (unhide HKW)).mono ?_
      rintro e w1 ⟨rfl, hk1⟩
      have HK1 := hide hk1
      have p0' := cl1 (unhide H0 w1 hk1)
      obtain ⟨r0, r1⟩ := cl2 (unhide H2 w1 hk1)
      clear hk1 p0 c0 c1 c2 c3
      go_wp2_with fail
      refine (unhide HRE w1 ((unhide HKW).trans (unhide HK1))).mono ?_
      rintro e w2 ⟨rfl, hk2⟩
      have HK2 := hide ((unhide HK1).trans hk2)
      obtain ⟨z0, z1, z2, y0, y1, y2, s0, s1, s2⟩ := res_facts (unhide H3 _ (unhide HK2)) (Keeps.refl _ _) zV
      have HKF := hide (((unhide HKW).trans (unhide HK2)).fresh (by omega) (keeps_set3 w2 (w.heap.size + 1 + 1 + 1) (.int .i64 0) (.int .i64 0) (.string ⟨#[]⟩)))
      clear hk2 p0' r0 r1
      go_wp2_with fail
      refine bodyPost_ret (v := .tuple #[.agg #[.int .i64 0, .int .i64 0, .string ⟨#[]⟩], .int .i64 RO]) (by have s0' := s0; have s1' := s1; have s2' := s2; simp only [zV, str] at s0' s1' s2'; simp [results, go_sem, s0', s1', s2']) rfl ?_
      exact ⟨rfl, unhide HKF⟩
  · have nb : (t3 != 0) = true := by simpa using ht
    have hv : Ve = (zV, t3) := by have := unhide HVP; rw [if_pos ht] at this; exact this
    subst hv
    clear HVP HTZ HW HR ht HTY
    show Calls _ _ _ _ fun e w' => e = .returned (.tuple #[.agg #[.int .i64 0, .int .i64 0, .string ⟨#[]⟩], .int .i64 t3]) ∧ _
    go_enter Tryz.func24, Tryz.ntmps24
    go_wp2_with fail
    refine (unhide HT W (unhide HKW)).mono ?_
    rintro e w1 ⟨rfl, hk1⟩
    have HK1 := hide hk1
    obtain ⟨z0, z1, z2, y0, y1, y2, s0, s1, s2⟩ := res_facts (unhide H3 _ hk1) (Keeps.refl _ _) zV
    have HKF := hide (((unhide HKW).trans hk1).fresh (by omega) (keeps_set3 w1 (w.heap.size + 1 + 1 + 1) (.int .i64 0) (.int .i64 0) (.string ⟨#[]⟩)))
    clear hk1 p0 c0 c1 c2 c3
    go_wp2_with fail
    refine bodyPost_ret (v := .tuple #[.agg #[.int .i64 0, .int .i64 0, .string ⟨#[]⟩], .int .i64 t3]) (by have s0' := s0; have s1' := s1; have s2' := s2; simp only [zV, str] at s0' s1' s2'; simp [results, go_sem, s0', s1', s2']) rfl ?_
    exact ⟨rfl, unhide HKF⟩
end Go.Proofs.YtiinohibmcefkaaGreatDoor
