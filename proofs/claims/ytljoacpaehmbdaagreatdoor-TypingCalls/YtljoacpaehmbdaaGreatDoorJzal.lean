import Derived.Test.YtljoacpaehmbdaaGreatDoorJzaj
import Derived.Test.YtljoacpaehmbdaaGreatDoorJzah
import Derived.Test.YtljoacpaehmbdaaGreatDoorJzab
import Derived.Test.YtljoacpaehmbdaaGreatDoorJzaf
import Derived.Test.YtljoacpaehmbdaaGreatDoorJzac
import Derived.Maps.AppendAt
namespace Go.Proofs.YtljoacpaehmbdaaGreatDoor
open Go.RowKit Go.Maps

set_option maxRecDepth 100000 in
set_option maxHeartbeats 8000000 in
theorem typeOf_v (Z : Zone) (S : List FieldA) (hlS : S.length ≤ 4398046511104) (op n : Int) (s : Txt) (kids : EL) (hsz : kids.size + 1 ≤ 2147483647) (sv xv : Value) (w : World) (up : Nat) (hT : Types w) (hF : Forms w) (hf : FldsAt w sv S) (hx : SlE Z w up xv kids) :
    Calls Tryz.prog 9 #[.agg #[sv], exV op n s xv] w fun e w' => e = .returned (typV (typeP S op n s kids)) ∧ Keeps (fun _ => False) w w' := by
  obtain ⟨ao, cap, rfl, hc⟩ := hx.head
  obtain ⟨so, sc, rfl⟩ := RowAt.form hf
  have HK0 : Hid (Keeps (fun _ => False) w ((w.alloc (.cells #[.slice so S.length sc] 26)).alloc (.cells #[.int .i64 op, .int .i64 n, str s, .slice ao kids.len cap] 29))) := ((Keeps.refl _ w).alloc _).alloc _
  have e1 : (w.alloc (.cells #[.slice so S.length sc] 26)).heap.size = w.heap.size + 1 := by simp
  have hb0 : ((w.alloc (.cells #[.slice so S.length sc] 26)).alloc (.cells #[.int .i64 op, .int .i64 n, str s, .slice ao kids.len cap] 29)).heap[w.heap.size]? = some (.cells #[.slice so S.length sc] 26 (0, 0)) := (((Keeps.refl (fun _ => False) _).alloc _).block _ (by rw [e1]; omega) id).trans (heap_alloc_new w _)
  have hb1 : ((w.alloc (.cells #[.slice so S.length sc] 26)).alloc (.cells #[.int .i64 op, .int .i64 n, str s, .slice ao kids.len cap] 29)).heap[w.heap.size + 1]? = some (.cells #[.int .i64 op, .int .i64 n, str s, .slice ao kids.len cap] 29 (0, 0)) := by
    have := heap_alloc_new (w.alloc (.cells #[.slice so S.length sc] 26)) (.cells #[.int .i64 op, .int .i64 n, str s, .slice ao kids.len cap] 29)
    rw [e1] at this
    exact this
  have SB : ∀ w' : World, Keeps (fun _ => False) ((w.alloc (.cells #[.slice so S.length sc] 26)).alloc (.cells #[.int .i64 op, .int .i64 n, str s, .slice ao kids.len cap] 29)) w' → w'.cell? ⟨w.heap.size, 0, none⟩ = some (.slice so S.length sc) ∧ w'.cell? ⟨w.heap.size + 1, 0, none⟩ = some (.int .i64 op) ∧ w'.cell? ⟨w.heap.size + 1, 1, none⟩ = some (.int .i64 n) ∧ w'.cell? ⟨w.heap.size + 1, 2, none⟩ = some (str s) ∧ w'.cell? ⟨w.heap.size + 1, 3, none⟩ = some (.slice ao kids.len cap) := fun w' hk => by
    have k0 := (hk.block _ (lt_of_block hb0) id).trans hb0
    have k1 := (hk.block _ (lt_of_block hb1) id).trans hb1
    exact ⟨by rw [cell_of_blk k0]; rfl, by rw [cell_of_blk k1]; rfl, by rw [cell_of_blk k1]; rfl, by rw [cell_of_blk k1]; rfl, by rw [cell_of_blk k1]; rfl⟩
  have y := SB _ (Keeps.refl _ _)
  have HSB := hide SB
  have S1 : ∀ (g : Nat) (vo : Option Addr) (vc : Nat) (u w' : World), u.heap[g]? = some (.cells #[.slice vo S.length vc] 26 (0, 0)) → Keeps (fun _ => False) u w' → w'.heap[g]? = some (.cells #[.slice vo S.length vc] 26 (0, 0)) ∧ w'.cell? ⟨g, 0, none⟩ = some (.slice vo S.length vc) := fun g vo vc u w' h hk => by
    have k0 := (hk.block _ (lt_of_block h) id).trans h
    exact ⟨k0, by rw [cell_of_blk k0]; rfl⟩
  have S2 : ∀ (g : Nat) (vo : Option Addr) (vc : Nat) (u w' : World), u.heap[g]? = some (.cells #[.int .i64 op, .int .i64 n, str s, .slice vo kids.len vc] 29 (0, 0)) → Keeps (fun _ => False) u w' → w'.heap[g]? = some (.cells #[.int .i64 op, .int .i64 n, str s, .slice vo kids.len vc] 29 (0, 0)) ∧ w'.cell? ⟨g, 0, none⟩ = some (.int .i64 op) ∧ w'.cell? ⟨g, 1, none⟩ = some (.int .i64 n) ∧ w'.cell? ⟨g, 2, none⟩ = some (str s) ∧ w'.cell? ⟨g, 3, none⟩ = some (.slice vo kids.len vc) := fun g vo vc u w' h hk => by
    have k1 := (hk.block _ (lt_of_block h) id).trans h
    exact ⟨k1, by rw [cell_of_blk k1]; rfl, by rw [cell_of_blk k1]; rfl, by rw [cell_of_blk k1]; rfl, by rw [cell_of_blk k1]; rfl⟩
  have HS1 := hide S1
  have HS2 := hide S2
  have HCP := fun w' (hk : Keeps (fun _ => False) w w') => hide (copySchema_big w' (.slice so S.length sc) S (hf.keepF hk) hlS)
  have HCX := fun w' (hk : Keeps (fun _ => False) w w') => hide (copyExpr_of op n s kids (.slice ao kids.len cap) w' ⟨_, _, rfl⟩ (fun w2 hk2 => copyExprs_v Z (kids.size + 1) kids (by omega) (by omega) w2 up _ (hx.keepF (hk.trans hk2))))
  have HT := hide hT
  have HFM := hide hF
  have HF := hide hf
  have HSX := hide hx
  obtain ⟨⟨T, O, E⟩, hp⟩ : ∃ p, p = typeP S op n s kids := ⟨_, rfl⟩
  rw [← hp]
  have HP := hide hp.symm
  clear hT hF hf hx SB hb0 hb1 e1 S1 S2 hp
  go_enter Tryz.func9, Tryz.ntmps9
  go_wp2_with (first
    | (go_at_call 18; refine (unhide (HCP _ (unhide HK0))).mono ?_; rintro e w1 ⟨v', rfl, hown, hk1⟩; obtain ⟨vo, vc, rfl⟩ := (rowAt_own hown).form; have ha := (Keeps.refl (fun _ => False) w1).alloc (.cells #[.slice vo S.length vc] 26); have HFC := hide (RowAt.keepF (rowAt_own hown) ha : RowAt _ _ S.length (fcs S)); have HB2 := hide (heap_alloc_new w1 (.cells #[.slice vo S.length vc] 26)); have x2 := (unhide HS1 _ vo vc _ _ (unhide HB2) (Keeps.refl _ _)).2; have HKa := hide (((unhide HK0).trans hk1).trans ha); have HKb := hide (hk1.trans ha); have y1 := unhide HSB _ (unhide HKb); clear hown hk1 ha)
    | (go_at_call 19; refine (unhide (HCX _ (unhide HKa))).mono ?_; rintro e w2 ⟨kv, rfl, hs2, hk2⟩; obtain ⟨ko, kc, rfl, hkc⟩ := hs2.head; have ha := (Keeps.refl (fun _ => False) w2).alloc (.cells #[.int .i64 op, .int .i64 n, str s, .slice ko kids.len kc] 29); have HXC := hide (hs2.keepF ha); have HB3 := hide (heap_alloc_new w2 (.cells #[.int .i64 op, .int .i64 n, str s, .slice ko kids.len kc] 29)); have x3 := (unhide HS2 _ ko kc _ _ (unhide HB3) (Keeps.refl _ _)).2; have HBx := hide (unhide HS1 _ vo vc _ _ (unhide HB2) (hk2.trans ha)).1; have x2 := (unhide HS1 _ vo vc _ _ (unhide HB2) (hk2.trans ha)).2; have HFC := hide (RowAt.keepF (unhide HFC) (hk2.trans ha)); have HKa := hide ((unhide HKa).trans (hk2.trans ha)); have HKb := hide ((unhide HKb).trans (hk2.trans ha)); have y2 := unhide HSB _ (unhide HKb); clear hs2 hk2 ha)
    | (go_at_call 20; refine (type_v _ S op n s kids (Nat.le_trans hsz (by decide)) _ _ _ 0 ((unhide HT).keepF (unhide HKa)) ((unhide HFM).keepF (unhide HKa)) (unhide HFC) (unhide HXC)).mono ?_; rintro e w3 ⟨rfl, hk3⟩; rw [unhide HP]; have x2 := (unhide HS1 _ vo vc _ _ (unhide HBx) hk3).2; have HBx := hide (unhide HS1 _ vo vc _ _ (unhide HBx) hk3).1; have x3 := (unhide HS2 _ ko kc _ _ (unhide HB3) hk3).2; have HB3 := hide (unhide HS2 _ ko kc _ _ (unhide HB3) hk3).1; have HFC := hide (RowAt.keepF (unhide HFC) hk3); have HXC := hide ((unhide HXC).keepF hk3); have HKa := hide ((unhide HKa).trans hk3); have HKb := hide ((unhide HKb).trans hk3); have y3 := unhide HSB _ (unhide HKb); clear hk3)
    | (go_at_call 21; refine (eqSchema_any _ _ _ S S (unhide HFC) ((unhide HF).keepF (unhide HKa)) (by unfold maxLen; omega)).mono ?_; rintro e w4 ⟨rfl, hk4⟩; rw [decide_eq_true rfl]; have x3 := (unhide HS2 _ ko kc _ _ (unhide HB3) hk4).2; have HXC := hide ((unhide HXC).keepF hk4); have HKa := hide ((unhide HKa).trans hk4); have HKb := hide ((unhide HKb).trans hk4); have y4 := unhide HSB _ (unhide HKb); clear hk4)
    | (go_at_call 22; refine (eqExpr_same op n s kids.len kids.len kc cap ko ao _ (fun w' hk => eqExprs_same _ Z (kids.size + 1) kids (by omega) (by omega) w' 0 up _ _ ((unhide HXC).keepF hk) ((unhide HSX).keepF ((unhide HKa).trans hk)))).mono ?_; rintro e w5 ⟨rfl, hk5⟩; have HKa := hide ((unhide HKa).trans hk5); clear hk5))
  refine bodyPost_ret (v := .tuple #[.int .i64 T, .bool O, .int .i64 E]) (by simp [results, go_sem]) rfl ?_
  exact ⟨rfl, unhide HKa⟩
end Go.Proofs.YtljoacpaehmbdaaGreatDoor
namespace Go.Proofs.YtljoacpaehmbdaaGreatDoor
open Go.RowKit Go.Maps

set_option maxRecDepth 100000 in
set_option maxHeartbeats 800000 in
theorem rCheckExpr_v (Z : Zone) (op n : Int) (s : Txt) (kids : EL) (hsz : kids.size + 1 ≤ 2147483647) (w : World) (up : Nat) (v : Value) (hS : SlE Z w up v kids) :
    Calls Tryz.prog 24 #[exV op n s v] w fun e w' => e = .returned (.int .i64 (checkE (.cons op n s kids .nil))) ∧ Keeps (fun _ => False) w w' := by
  have HW := fun (w' : World) (hk : Keeps (fun _ => False) w w') => hide (wellExpr_v Z (kids.size + 1) kids (by omega) (by omega) op n s w' up v (hS.keepF hk))
  have HD := fun (w' : World) (hk : Keeps (fun _ => False) w w') => hide (depthExpr_v Z (kids.size + 1) kids (by omega) (by omega) op n s w' up v (hS.keepF hk))
  obtain ⟨ao, cap, rfl, hc⟩ := hS.head
  have e1 : wellE (.cons op n s kids .nil) = (rootB op n s kids.len && wellE kids) := by simp [wellE]
  have e2 : depthE (.cons op n s kids .nil) = 1 + depthE kids := by simp [depthE]
  unfold checkE
  rw [e1, e2]
  clear hS e1 e2
  generalize (rootB op n s kids.len && wellE kids) = bw at HW ⊢
  generalize 1 + depthE kids = nd at HD ⊢
  obtain ⟨HB, hxb, hxc⟩ := boxedT w #[.int .i64 op, .int .i64 n, str s, .slice ao kids.len cap] 29
  have c0 := hxc 0 (.int .i64 op) rfl
  have c1 := hxc 1 (.int .i64 n) rfl
  have c2 := hxc 2 (str s) rfl
  have c3 := hxc 3 (.slice ao kids.len cap) rfl
  clear hxc
  cases bw with
  | false =>
    rw [if_pos rfl]
    go_enter Tryz.func24, Tryz.ntmps24
    go_wp2_with (go_at_call 44; refine (unhide (HW _ (unhide HB))).mono ?_; rintro e w1 ⟨rfl, hk1⟩)
    go_ret
    exact ⟨rfl, (unhide HB).trans hk1⟩
  | true =>
    rw [if_neg (by simp)]
    by_cases h12 : 12 < nd
    · rw [if_pos h12]
      have g12 : (12 : Int) < (nd : Int) := by omega
      go_enter Tryz.func24, Tryz.ntmps24
      go_wp2_with (first
        | (go_at_call 44; refine (unhide (HW _ (unhide HB))).mono ?_; rintro e w1 ⟨rfl, hk1⟩; have HK1 := hide ((unhide HB).trans hk1); have r0 := (hk1.cell (o := 0) hxb id).trans c0; have r1 := (hk1.cell (o := 1) hxb id).trans c1; have r2 := (hk1.cell (o := 2) hxb id).trans c2; have r3 := (hk1.cell (o := 3) hxb id).trans c3; clear hk1)
        | (go_at_call 45; refine (unhide (HD _ (unhide HK1))).mono ?_; rintro e w2 ⟨rfl, hk2⟩; have HK2 := hide ((unhide HK1).trans hk2); clear hk2))
      go_ret
      exact ⟨rfl, unhide HK2⟩
    · rw [if_neg h12]
      have g12 : ¬ (12 : Int) < (nd : Int) := by omega
      go_enter Tryz.func24, Tryz.ntmps24
      go_wp2_with (first
        | (go_at_call 44; refine (unhide (HW _ (unhide HB))).mono ?_; rintro e w1 ⟨rfl, hk1⟩; have HK1 := hide ((unhide HB).trans hk1); have r0 := (hk1.cell (o := 0) hxb id).trans c0; have r1 := (hk1.cell (o := 1) hxb id).trans c1; have r2 := (hk1.cell (o := 2) hxb id).trans c2; have r3 := (hk1.cell (o := 3) hxb id).trans c3; clear hk1)
        | (go_at_call 45; refine (unhide (HD _ (unhide HK1))).mono ?_; rintro e w2 ⟨rfl, hk2⟩; have HK2 := hide ((unhide HK1).trans hk2); clear hk2))
      go_ret
      exact ⟨rfl, unhide HK2⟩
set_option maxRecDepth 100000 in
set_option maxHeartbeats 4000000 in
theorem refType_v (Z : Zone) (S : List FieldA) (op n : Int) (s : Txt) (kids : EL) (hsz : kids.size + 1 ≤ 2147483647) (sv xv : Value) (w : World) (up : Nat) (hf : FldsAt w sv S) (hx : SlE Z w up xv kids) :
    Calls Tryz.prog 10 #[.agg #[sv], exV op n s xv] w fun e w' => e = .returned (typV (typeP S op n s kids)) ∧ Keeps (fun _ => False) w w' := by
  obtain ⟨ao, cap, rfl, hc⟩ := hx.head
  obtain ⟨so, sc, rfl⟩ := RowAt.form hf
  have HK0 : Hid (Keeps (fun _ => False) w ((w.alloc (.cells #[.slice so S.length sc] 26)).alloc (.cells #[.int .i64 op, .int .i64 n, str s, .slice ao kids.len cap] 29))) := ((Keeps.refl _ w).alloc _).alloc _
  have e1 : (w.alloc (.cells #[.slice so S.length sc] 26)).heap.size = w.heap.size + 1 := by simp
  have hb0 : ((w.alloc (.cells #[.slice so S.length sc] 26)).alloc (.cells #[.int .i64 op, .int .i64 n, str s, .slice ao kids.len cap] 29)).heap[w.heap.size]? = some (.cells #[.slice so S.length sc] 26 (0, 0)) := (((Keeps.refl (fun _ => False) _).alloc _).block _ (by rw [e1]; omega) id).trans (heap_alloc_new w _)
  have hb1 : ((w.alloc (.cells #[.slice so S.length sc] 26)).alloc (.cells #[.int .i64 op, .int .i64 n, str s, .slice ao kids.len cap] 29)).heap[w.heap.size + 1]? = some (.cells #[.int .i64 op, .int .i64 n, str s, .slice ao kids.len cap] 29 (0, 0)) := by
    have := heap_alloc_new (w.alloc (.cells #[.slice so S.length sc] 26)) (.cells #[.int .i64 op, .int .i64 n, str s, .slice ao kids.len cap] 29)
    rw [e1] at this
    exact this
  have SB : ∀ w' : World, Keeps (fun _ => False) ((w.alloc (.cells #[.slice so S.length sc] 26)).alloc (.cells #[.int .i64 op, .int .i64 n, str s, .slice ao kids.len cap] 29)) w' → w'.cell? ⟨w.heap.size, 0, none⟩ = some (.slice so S.length sc) ∧ w'.cell? ⟨w.heap.size + 1, 0, none⟩ = some (.int .i64 op) ∧ w'.cell? ⟨w.heap.size + 1, 1, none⟩ = some (.int .i64 n) ∧ w'.cell? ⟨w.heap.size + 1, 2, none⟩ = some (str s) ∧ w'.cell? ⟨w.heap.size + 1, 3, none⟩ = some (.slice ao kids.len cap) := fun w' hk => by
    have k0 := (hk.block _ (lt_of_block hb0) id).trans hb0
    have k1 := (hk.block _ (lt_of_block hb1) id).trans hb1
    exact ⟨by rw [cell_of_blk k0]; rfl, by rw [cell_of_blk k1]; rfl, by rw [cell_of_blk k1]; rfl, by rw [cell_of_blk k1]; rfl, by rw [cell_of_blk k1]; rfl⟩
  have y := SB _ (Keeps.refl _ _)
  have HSB := hide SB
  have HCS := fun w' (hk : Keeps (fun _ => False) w w') => hide (checkSchema_any S (.slice so S.length sc) w' (hf.keepF hk))
  have HCE := fun w' (hk : Keeps (fun _ => False) w w') => hide (rCheckExpr_v Z op n s kids hsz w' up (.slice ao kids.len cap) (hx.keepF hk))
  have HF := hide hf
  have HSX := hide hx
  unfold typeP
  clear hf hx SB hb0 hb1 e1
  cases hS : schemaB S with
  | false =>
    rw [errS_bad hS] at HCS ⊢
    rw [if_pos (by decide)]
    clear HCE hS
    go_enter Tryz.func10, Tryz.ntmps10
    go_wp2_with (go_at_call 23; refine (unhide (HCS _ (unhide HK0))).mono ?_; rintro e w1 ⟨rfl, hk1⟩; have HKa := hide ((unhide HK0).trans hk1); clear hk1)
    refine bodyPost_ret (v := .tuple #[.int .i64 0, .bool false, .int .i64 60]) (by simp [results, go_sem]) rfl ?_
    exact ⟨rfl, unhide HKa⟩
  | true =>
    rw [errS_good hS] at HCS ⊢
    rw [if_neg (by decide)]
    obtain ⟨C, hC⟩ : ∃ C, C = checkE (.cons op n s kids .nil) := ⟨_, rfl⟩
    rw [← hC] at HCE ⊢
    by_cases hC0 : C = 0
    · subst hC0
      rw [if_neg (by decide)]
      have hwl : wellE (.cons op n s kids .nil) = true := by
        unfold checkE at hC
        split at hC
        · cases hC
        · rename_i h; simpa using h
      simp only [wellE, Bool.and_true, Bool.and_eq_true] at hwl
      have HKI := fun w' (hk : Keeps (fun _ => False) w w') => hide (refKind_v Z S hS so sc (kids.size + 1) kids (by omega) op n s w' up (.slice ao kids.len cap) ((unhide HSX).keepF hk) ((unhide HF).keepF hk) hwl.1 hwl.2)
      obtain ⟨⟨⟨T, O⟩, E⟩, hp⟩ : ∃ p, p = zeroK (kindP S op s kids) := ⟨_, rfl⟩
      rw [← hp] at HKI
      have HRES : Hid ((if (kindP S op s kids).2 ≠ 0 then ((0 : Int), false, (kindP S op s kids).2) else ((kindP S op s kids).1.t, (kindP S op s kids).1.o, 0)) = (T, O, E)) := by
        show _ = _
        unfold zeroK at hp
        by_cases h : (kindP S op s kids).2 = 0
        · rw [if_neg (by simpa using h)] at hp ⊢
          rw [← hp] at h ⊢
          have h' : E = 0 := h
          rw [h']
        · rw [if_pos h] at hp ⊢
          simp only [Prod.mk.injEq, KA.mk.injEq] at hp
          obtain ⟨⟨rfl, rfl⟩, h3⟩ := hp
          rw [h3]
      rw [unhide HRES]
      clear hp hwl hC hS HRES
      go_enter Tryz.func10, Tryz.ntmps10
      go_wp2_with (first
        | (go_at_call 23; refine (unhide (HCS _ (unhide HK0))).mono ?_; rintro e w1 ⟨rfl, hk1⟩; have HKa := hide ((unhide HK0).trans hk1); have HKb := hide hk1; have y1 := unhide HSB _ hk1; clear hk1)
        | (go_at_call 24; refine (unhide (HCE _ (unhide HKa))).mono ?_; rintro e w2 ⟨rfl, hk1⟩; have HKa := hide ((unhide HKa).trans hk1); have HKb := hide ((unhide HKb).trans hk1); have y2 := unhide HSB _ (unhide HKb); clear hk1)
        | (go_at_call 25; refine (unhide (HKI _ (unhide HKa))).mono ?_; rintro e w3 ⟨rfl, hk1⟩; have HKa := hide ((unhide HKa).trans hk1); clear hk1))
      go_region
      all_goals go_wp2_with fail
      all_goals (refine bodyPost_ret (v := .tuple #[.int .i64 T, .bool O, .int .i64 E]) (by simp [results, go_sem]) rfl ?_; exact ⟨rfl, ((unhide HKa).alloc _).drew⟩)
    · rw [if_pos hC0]
      have n0 : (C != 0) = true := by simpa using hC0
      clear hC hC0 hS
      go_enter Tryz.func10, Tryz.ntmps10
      go_wp2_with (first
        | (go_at_call 23; refine (unhide (HCS _ (unhide HK0))).mono ?_; rintro e w1 ⟨rfl, hk1⟩; have HKa := hide ((unhide HK0).trans hk1); have y1 := unhide HSB _ hk1; clear hk1)
        | (go_at_call 24; refine (unhide (HCE _ (unhide HKa))).mono ?_; rintro e w2 ⟨rfl, hk1⟩; have HKa := hide ((unhide HKa).trans hk1); clear hk1))
      refine bodyPost_ret (v := .tuple #[.int .i64 0, .bool false, .int .i64 C]) (by simp [results, go_sem]) rfl ?_
      exact ⟨rfl, unhide HKa⟩
end Go.Proofs.YtljoacpaehmbdaaGreatDoor
namespace Go.Proofs.YtljoacpaehmbdaaGreatDoor
open Go.RowKit Go.Maps
set_option maxRecDepth 100000 in
set_option maxHeartbeats 800000 in
theorem deepExprs (B up : Nat) (l : EL) (v : Value) (w : World) (hB : B ≤ w.heap.size) (hS : SlE (argZ B) w up v l) : Calls Tryz.prog 8 #[v] w (DPost l.size w) := by
  have HS := hide (hS.keepF ((Keeps.refl _ w).alloc (.cells #[.int .i64 0] 49)))
  have HK : Hid (Keeps (fun _ => False) w (w.alloc (.cells #[.int .i64 0] 49))) := hide ((Keeps.refl _ w).alloc _)
  obtain ⟨ao, cap, rfl, hc⟩ := hS.head
  clear hS
  go_enter Tryz.func8, Tryz.ntmps8
  go_wp2_with (go_at_call 17; refine (parts_exprs B w.heap.size hB (l.size + 1) l (by omega) _ up _ 0 65536 (unhide HS) (heap_alloc_new w _) (by omega) (by omega) (by omega) (by omega)).mono ?_; rintro e w1 ⟨r, n1, rfl, hc1, hk1, hn1, hr1⟩)
  go_ret
  exact ⟨r, rfl, keeps_new (unhide HK) hk1, fun h => by have := hr1 h; omega⟩

end Go.Proofs.YtljoacpaehmbdaaGreatDoor
namespace Go.Proofs.YtljoacpaehmbdaaGreatDoor
open Go.RowKit Go.Maps

set_option maxRecDepth 100000 in
set_option maxHeartbeats 4000000 in
theorem types_walk (S : List FieldA) (hlS : S.length ≤ 4398046511104) (op n : Int) (s : Txt) (kids : EL) (sv xv : Value) (w : World) (hT : Types w) (hF : Forms w) (hf : FldsAt w sv S) (hx : SlE (argZ w.heap.size) w 0 xv kids) :
    Calls Tryz.prog 5 #[.agg #[sv], exV op n s xv] w fun e w' => e = .returned (.bool true) ∧ Keeps (fun _ => False) w w' := by
  obtain ⟨ao, cap, rfl, hc⟩ := hx.head
  obtain ⟨so, sc, rfl⟩ := RowAt.form hf
  have hk0 : Keeps (fun _ => False) w (((w.alloc (.cells #[.slice so S.length sc] 26)).alloc (.cells #[.int .i64 op, .int .i64 n, str s, .slice ao kids.len cap] 29)).alloc (.cells #[.int .i64 op, .int .i64 n, str s, .slice ao kids.len cap] 29)) := (((Keeps.refl _ w).alloc _).alloc _).alloc _
  have e1 : (w.alloc (.cells #[.slice so S.length sc] 26)).heap.size = w.heap.size + 1 := by simp
  have e2 : ((w.alloc (.cells #[.slice so S.length sc] 26)).alloc (.cells #[.int .i64 op, .int .i64 n, str s, .slice ao kids.len cap] 29)).heap.size = w.heap.size + 2 := by simp
  have hb0 : (((w.alloc (.cells #[.slice so S.length sc] 26)).alloc (.cells #[.int .i64 op, .int .i64 n, str s, .slice ao kids.len cap] 29)).alloc (.cells #[.int .i64 op, .int .i64 n, str s, .slice ao kids.len cap] 29)).heap[w.heap.size]? = some (.cells #[.slice so S.length sc] 26 (0, 0)) := ((((Keeps.refl (fun _ => False) _).alloc _).alloc _).block _ (by rw [e1]; omega) id).trans (heap_alloc_new w _)
  have hb1 : (((w.alloc (.cells #[.slice so S.length sc] 26)).alloc (.cells #[.int .i64 op, .int .i64 n, str s, .slice ao kids.len cap] 29)).alloc (.cells #[.int .i64 op, .int .i64 n, str s, .slice ao kids.len cap] 29)).heap[w.heap.size + 1]? = some (.cells #[.int .i64 op, .int .i64 n, str s, .slice ao kids.len cap] 29 (0, 0)) := by
    have := heap_alloc_new (w.alloc (.cells #[.slice so S.length sc] 26)) (.cells #[.int .i64 op, .int .i64 n, str s, .slice ao kids.len cap] 29)
    rw [e1] at this
    exact (((Keeps.refl (fun _ => False) _).alloc _).block _ (by rw [e2]; omega) id).trans this
  have hb2 : (((w.alloc (.cells #[.slice so S.length sc] 26)).alloc (.cells #[.int .i64 op, .int .i64 n, str s, .slice ao kids.len cap] 29)).alloc (.cells #[.int .i64 op, .int .i64 n, str s, .slice ao kids.len cap] 29)).heap[w.heap.size + 2]? = some (.cells #[.int .i64 op, .int .i64 n, str s, .slice ao kids.len cap] 29 (0, 0)) := by
    have := heap_alloc_new ((w.alloc (.cells #[.slice so S.length sc] 26)).alloc (.cells #[.int .i64 op, .int .i64 n, str s, .slice ao kids.len cap] 29)) (.cells #[.int .i64 op, .int .i64 n, str s, .slice ao kids.len cap] 29)
    rw [e2] at this
    exact this
  have SB : ∀ w' : World, Keeps (fun _ => False) (((w.alloc (.cells #[.slice so S.length sc] 26)).alloc (.cells #[.int .i64 op, .int .i64 n, str s, .slice ao kids.len cap] 29)).alloc (.cells #[.int .i64 op, .int .i64 n, str s, .slice ao kids.len cap] 29)) w' → w'.cell? ⟨w.heap.size, 0, none⟩ = some (.slice so S.length sc) ∧ w'.cell? ⟨w.heap.size + 1, 0, none⟩ = some (.int .i64 op) ∧ w'.cell? ⟨w.heap.size + 1, 1, none⟩ = some (.int .i64 n) ∧ w'.cell? ⟨w.heap.size + 1, 2, none⟩ = some (str s) ∧ w'.cell? ⟨w.heap.size + 1, 3, none⟩ = some (.slice ao kids.len cap) := fun w' hk => by
    have k0 := (hk.block _ (lt_of_block hb0) id).trans hb0
    have k1 := (hk.block _ (lt_of_block hb1) id).trans hb1
    exact ⟨by rw [cell_of_blk k0]; rfl, by rw [cell_of_blk k1]; rfl, by rw [cell_of_blk k1]; rfl, by rw [cell_of_blk k1]; rfl, by rw [cell_of_blk k1]; rfl⟩
  have HSB := hide SB
  have HD := hide (deepExprs (w.heap.size + 3) 0 (.cons op n s kids .nil) (.slice (some ⟨w.heap.size + 2, 0, none⟩) 1 1) _ (by simp) (one_arg (B := w.heap.size) hb2 (by omega) (by omega) (hx.keepF hk0) (Nat.le_refl 1) 0))
  have HK0 := hide hk0
  have HTO := fun (hsz : kids.size + 1 ≤ 2147483647) w' (hk : Keeps (fun _ => False) w w') => hide (typeOf_v (argZ w.heap.size) S hlS op n s kids hsz (.slice so S.length sc) (.slice ao kids.len cap) w' 0 (hT.keepF hk) (hF.keepF hk) (hf.keepF hk) (hx.keepF hk))
  have HRT := fun (hsz : kids.size + 1 ≤ 2147483647) w' (hk : Keeps (fun _ => False) w w') => hide (refType_v (argZ w.heap.size) S op n s kids hsz (.slice so S.length sc) (.slice ao kids.len cap) w' 0 (hf.keepF hk) (hx.keepF hk))
  obtain ⟨⟨T, O, E⟩, hp⟩ : ∃ p, p = typeP S op n s kids := ⟨_, rfl⟩
  rw [← hp] at HTO HRT
  clear hT hF hf hx SB hb0 hb1 hb2 e1 e2 hp hk0
  go_enter Tryz.func5, Tryz.ntmps5
  go_wp2_with fail
  refine (unhide HD).mono ?_
  rintro e w1 ⟨r, rfl, hk1, hsz⟩
  have HK1 := hide ((unhide HK0).trans hk1)
  have HKb := hide hk1
  have y1 := unhide HSB _ hk1
  have HSZ := hide hsz
  clear hk1 hsz
  cases r with
  | true =>
    go_wp2_with fail
    go_ret
    exact ⟨rfl, unhide HK1⟩
  | false =>
    have hs : kids.size + 1 ≤ 2147483647 := by have := (unhide HSZ) rfl; simp only [EL.size] at this; omega
    go_wp2_with (first
      | (go_at_call 9; refine (unhide (HTO hs _ (unhide HK1))).mono ?_; rintro e w2 ⟨rfl, hk2⟩; have HK2 := hide ((unhide HK1).trans hk2); have HKc := hide ((unhide HKb).trans hk2); have y2 := unhide HSB _ (unhide HKc); clear hk2)
      | (go_at_call 10; refine (unhide (HRT hs _ (unhide HK2))).mono ?_; rintro e w3 ⟨rfl, hk3⟩; have HK3 := hide ((unhide HK2).trans hk3); clear hk3))
    go_ret
    exact ⟨rfl, unhide HK3⟩
end Go.Proofs.YtljoacpaehmbdaaGreatDoor
namespace Go.Proofs.YtljoacpaehmbdaaGreatDoor
open Go.RowKit Go.Maps

/-- A program's statements by their numbers. -/
def flatS : SL → SL
  | .nil => .nil
  | .cons op f x t e r => .cons op f x t e ((flatS t).app ((flatS e).app (flatS r)))
theorem flatS_len : ∀ l : SL, (flatS l).len = countS l
  | .nil => rfl
  | .cons op f x t e r => by simp only [flatS, SL.len, SL.len_app, countS, flatS_len t, flatS_len e, flatS_len r]; omega
theorem flatS_app : ∀ l m : SL, flatS (l.app m) = (flatS l).app (flatS m)
  | .nil, _ => rfl
  | .cons op f x t e r, m => by simp only [SL.app, flatS, flatS_app r m, SL.app_assoc]
theorem ExIn.arg {Z : Zone} {w : World} {A : Nat} (hA : w.heap.size ≤ A) : ∀ {l : EL} {b o : Nat}, ExIn Z w l b o → ExIn (argZ A) w l b o
  | .nil, _, _, _ => trivial
  | .cons op n s kids rest, b, o, ⟨h1, h2, h3, h4, h5, ⟨ao, cap, h6, h7, h8⟩, h9⟩ =>
    ⟨h1, Nat.lt_of_lt_of_le h1 hA, h3, h4, h5, ⟨ao, cap, h6, h7, fun h0 => by
      obtain ⟨b', o', e, _, hr⟩ := h8 h0
      exact ⟨b', o', e, trivial, hr.arg hA⟩⟩, h9.arg hA⟩
theorem SlE.arg {Z : Zone} {w : World} {A up : Nat} (hA : w.heap.size ≤ A) (up' : Nat) {v : Value} {l : EL} (h : SlE Z w up v l) : SlE (argZ A) w up' v l := by
  obtain ⟨ao, cap, e, hc, hr⟩ := h
  refine ⟨ao, cap, e, hc, fun h0 => ?_⟩
  obtain ⟨b, o, e1, _, hx⟩ := hr h0
  exact ⟨b, o, e1, trivial, hx.arg hA⟩
theorem StIn.arg {Z : Zone} {w : World} {A : Nat} (hA : w.heap.size ≤ A) : ∀ {l : SL} {b o : Nat}, StIn Z w l b o → StIn (argZ A) w l b o
  | .nil, _, _, _ => trivial
  | .cons op f ex th el rest, b, o, ⟨h1, h2, h3, h4, ⟨v, h5, h5'⟩, ⟨ao, cap, h6, h7, h8⟩, ⟨ao2, cap2, k6, k7, k8⟩, h9⟩ =>
    ⟨h1, Nat.lt_of_lt_of_le h1 hA, h3, h4, ⟨v, h5, h5'.arg hA b⟩, ⟨ao, cap, h6, h7, fun h0 => by
      obtain ⟨b', o', e, _, hr⟩ := h8 h0
      exact ⟨b', o', e, trivial, hr.arg hA⟩⟩, ⟨ao2, cap2, k6, k7, fun h0 => by
      obtain ⟨b', o', e, _, hr⟩ := k8 h0
      exact ⟨b', o', e, trivial, hr.arg hA⟩⟩, h9.arg hA⟩
theorem SlS.arg {Z : Zone} {w : World} {A up : Nat} (hA : w.heap.size ≤ A) (up' : Nat) {v : Value} {l : SL} (h : SlS Z w up v l) : SlS (argZ A) w up' v l := by
  obtain ⟨ao, cap, e, hc, hr⟩ := h
  refine ⟨ao, cap, e, hc, fun h0 => ?_⟩
  obtain ⟨b, o, e1, _, hx⟩ := hr h0
  exact ⟨b, o, e1, trivial, hx.arg hA⟩
/-- These cells hold these statements. -/
def SsIn (Z : Zone) (w : World) : SL → List Value → Prop
  | .nil, xs => xs = []
  | .cons op f x t e r, xs => ∃ xv tv ev xs', xs = .int .i64 op :: str f :: xv :: tv :: ev :: xs' ∧ SlE Z w 0 xv x ∧ SlS Z w 0 tv t ∧ SlS Z w 0 ev e ∧ SsIn Z w r xs'
theorem SsIn.len {Z : Zone} {w : World} : ∀ {l : SL} {xs : List Value}, SsIn Z w l xs → xs.length = l.len * 5
  | .nil, _, h => by have h' : _ = _ := h; subst h'; rfl
  | .cons _ _ _ _ _ _, _, ⟨xv, tv, ev, xs', e, _, _, _, h⟩ => by rw [e]; simp [SL.len, h.len]; omega
theorem SsIn.one {Z : Zone} {w : World} : ∀ {l : SL} {xs : List Value}, SsIn Z w l xs → ∀ u ∈ xs, u.oneCell' = true
  | .nil, _, h => by have h' : _ = _ := h; subst h'; simp
  | .cons _ _ _ _ _ _, _, ⟨xv, tv, ev, xs', e, h1, h2, h3, h⟩ => by
    obtain ⟨_, _, rfl, _⟩ := h1.head
    obtain ⟨_, _, rfl, _⟩ := h2.head
    obtain ⟨_, _, rfl, _⟩ := h3.head
    subst e
    intro u hu
    simp only [List.mem_cons] at hu
    rcases hu with rfl | rfl | rfl | rfl | rfl | hu
    all_goals first | rfl | exact h.one u hu
theorem SsIn.argKeep {B : Nat} {F : Nat → Prop} {w w' : World} (hk : Keeps F w w') (hF : ∀ k, F k → B ≤ k) : ∀ {l : SL} {xs : List Value}, SsIn (argZ B) w l xs → SsIn (argZ B) w' l xs
  | .nil, _, h => h
  | .cons _ _ _ _ _ _, _, ⟨xv, tv, ev, xs', e, h1, h2, h3, h⟩ => ⟨xv, tv, ev, xs', e, h1.argKeep hk hF, h2.argKeep hk hF, h3.argKeep hk hF, h.argKeep hk hF⟩
theorem SsIn.app {Z : Zone} {w : World} : ∀ {l m : SL} {xs ys : List Value}, SsIn Z w l xs → SsIn Z w m ys → SsIn Z w (l.app m) (xs ++ ys)
  | .nil, _, _, _, h, h2 => by have h' : _ = _ := h; subst h'; exact h2
  | .cons _ _ _ _ _ _, _, _, ys, ⟨xv, tv, ev, xs', e, h1, h2, h3, h⟩, hm => ⟨xv, tv, ev, xs' ++ ys, by rw [e]; rfl, h1, h2, h3, h.app hm⟩
theorem SlE.anyUp {w : World} {up : Nat} {B : Nat} (up' : Nat) {v : Value} {l : EL} (h : SlE (argZ B) w up v l) : SlE (argZ B) w up' v l := by
  obtain ⟨ao, cap, e, hc, hr⟩ := h
  refine ⟨ao, cap, e, hc, fun h0 => ?_⟩
  obtain ⟨b, o, e1, _, hx⟩ := hr h0
  exact ⟨b, o, e1, trivial, hx⟩
theorem SlS.anyUp {w : World} {up : Nat} {B : Nat} (up' : Nat) {v : Value} {l : SL} (h : SlS (argZ B) w up v l) : SlS (argZ B) w up' v l := by
  obtain ⟨ao, cap, e, hc, hr⟩ := h
  refine ⟨ao, cap, e, hc, fun h0 => ?_⟩
  obtain ⟨b, o, e1, _, hx⟩ := hr h0
  exact ⟨b, o, e1, trivial, hx⟩
/-- The cells as statements in a block. -/
theorem SsIn.stIn {B : Nat} {w : World} {A b : Nat} (hb : b < w.heap.size) (hA : w.heap.size ≤ A) : ∀ {l : SL} {xs : List Value} {o : Nat}, SsIn (argZ B) w l xs → (∀ j x, xs[j]? = some x → w.cell? ⟨b, o + j, none⟩ = some x) → StIn (argZ A) w l b o
  | .nil, _, _, _, _ => trivial
  | .cons op f x t e r, _, o, ⟨xv, tv, ev, xs', ee, h1, h2, h3, h4⟩, hc => by
    subst ee
    obtain ⟨ao, cap, et, hcap, hr⟩ := h2.arg hA b
    obtain ⟨ao2, cap2, ee2, hcap2, hr2⟩ := h3.arg hA b
    refine ⟨hb, Nat.lt_of_lt_of_le hb hA, hc 0 _ rfl, hc 1 _ rfl, ⟨xv, hc 2 _ rfl, h1.arg hA b⟩, ⟨ao, cap, by rw [← et]; exact hc 3 _ rfl, hcap, hr⟩, ⟨ao2, cap2, by rw [← ee2]; exact hc 4 _ rfl, hcap2, hr2⟩, SsIn.stIn hb hA h4 (fun j x hx => ?_)⟩
    rw [show o + 5 + j = o + (j + 5) by omega]
    exact hc (j + 5) x (by simpa using hx)
theorem Tryz.info66 : (Tryz.prog.info? 66).map (fun i => (i.zero, i.size, i.bytes)) = some (some (.agg #[.int .i64 0, .string ⟨#[]⟩, .slice none 0 0, .slice none 0 0, .slice none 0 0]), 5, 96) := by kernel_rfl
set_option maxRecDepth 100000 in
theorem run_appendS_no (w : World) (ty : TypeId) (ao : Option Addr) (n c xc : Nat) (hnc : n ≤ c) : (Builtin.append_ #[30, 30] ty #[.slice ao n c, .slice none 0 xc]).run Tryz.prog w = .ok (.slice ao n c) w := by
  obtain ⟨i0, hi, hz0, hz1, hz2⟩ := info_parts Tryz.info66
  cases ao <;> simp [Builtin.append_, Builtin.lenOf, Builtin.firstCells, storeCells, go_sem, sizeOf, typeInfo, hi, hnc]
theorem grownBy_same (w : World) (row : Option Nat) : w.grownBy w row := ⟨rfl, rfl, rfl, Nat.le_refl _, fun _ _ _ => rfl⟩
/-- A row appended to a row of one's own, however long, nil too. -/
theorem run_append_row {P : Program} (w : World) (base : Nat) (t ty e : TypeId) (i : TypeInfo) (z : Value) (size bytes : Nat) (ht : P.underlying t = some (.slice e)) (hi : P.info? e = some i) (hz : i.zero = some z)
    (hsize : i.size = size) (hby : i.bytes = bytes) (hzs : z.cells.size = size) (hsz : 0 < size)
    (v : Value) (n : Nat) (xs : List Value) (hown : w.ownsRow base e size v n xs) (u : Value) (m : Nat) (ys : List Value) (hu : RowAt w u m ys) (hl : ys.length = m * size) (h1 : ∀ u ∈ ys, u.oneCell' = true)
    (h63 : n + m ≤ maxLen) (hbytes : (n + m) * bytes ≤ 140737488355328) (hbase : base ≤ w.heap.size)
    (hno : ∀ (ao : Option Addr) (n c xc : Nat), n ≤ c → (Builtin.append_ #[t, t] ty #[.slice ao n c, .slice none 0 xc]).run P w = .ok (.slice ao n c) w) :
    ∃ v' w', (Builtin.append_ #[t, t] ty #[v, u]).run P w = .ok v' w' ∧ w'.ownsRow base e size v' (n + m) (xs ++ ys) ∧ w.grownBy w' v.ownBlock ∧ (v'.ownBlock = v.ownBlock ∨ v'.ownBlock = some w.heap.size) := by
  obtain ⟨uo, uc, rfl⟩ := RowAt.form hu
  cases uo with
  | none =>
    have h0 : m = 0 := by
      rcases Nat.eq_zero_or_pos m with h | h
      · exact h
      · obtain ⟨b, off, cap, e, _⟩ := RowAt.cells hu h
        simp at e
    subst h0
    obtain rfl : ys = [] := List.eq_nil_of_length_eq_zero (by rw [hl]; simp)
    obtain ⟨ao, c, rfl⟩ := (rowAt_own hown).form
    have hnc := (rowAt_own hown).room _ _ _ rfl
    exact ⟨_, w, hno ao n c uc hnc, by simpa using hown, grownBy_same _ _, Or.inl rfl⟩
  | some ad =>
    obtain ⟨v', w', hr, h2, h3, _, h5⟩ := run_append_own_at (P := P) w base t ty e i z size bytes ht hi hz hsize hby hzs hsz v n xs hown ad m uc ys hl (fun j x hx => by
      have h0 : 0 < m := by
        have h := (List.getElem?_eq_some_iff.1 hx).1
        rw [hl] at h
        rcases Nat.eq_zero_or_pos m with h' | h'
        · rw [h', Nat.zero_mul] at h; omega
        · exact h'
      obtain ⟨b, off, cap, e, _, hc⟩ := RowAt.cells hu h0
      simp at e
      obtain ⟨rfl, rfl⟩ := e
      have := hc j x hx
      rw [show (⟨b, off, none⟩ : Addr).add j = ⟨b, off + j, none⟩ by simp only [Addr.add_lit]]
      exact this) h1 h63 hbytes hbase
    exact ⟨v', w', hr, h2, h3, h5⟩
theorem wpList_append_row {P : Program} {w : World} {ops : Array Oper} {rest : List Oper} {o : Oper} {a : Act} {Q : Exit → Act → World → Prop} (hgd : o.guard = none) (s x : Operand) (t : TypeId)
    (ho : o.op = .call { callee := .builtin .append, args := #[s, x], argTypes := #[t, t] }) (base : Nat) (e : TypeId) (i : TypeInfo) (z : Value) (size bytes : Nat) (ht : P.underlying t = some (.slice e)) (hi : P.info? e = some i) (hz : i.zero = some z)
    (hsize : i.size = size) (hby : i.bytes = bytes) (hzs : z.cells.size = size) (hsz : 0 < size)
    (v : Value) (n : Nat) (xs : List Value) (hs : a.eval s = v) (hown : w.ownsRow base e size v n xs) (u : Value) (m : Nat) (ys : List Value) (hx : a.eval x = u) (hu : RowAt w u m ys) (hl : ys.length = m * size) (h1 : ∀ u ∈ ys, u.oneCell' = true)
    (h63 : n + m ≤ maxLen) (hbytes : (n + m) * bytes ≤ 140737488355328) (hbase : base ≤ w.heap.size)
    (hno : ∀ (ty : TypeId) (ao : Option Addr) (n c xc : Nat), n ≤ c → (Builtin.append_ #[t, t] ty #[.slice ao n c, .slice none 0 xc]).run P w = .ok (.slice ao n c) w)
    (h : ∀ v' w', w'.ownsRow base e size v' (n + m) (xs ++ ys) → w.grownBy w' v.ownBlock → (v'.ownBlock = v.ownBlock ∨ v'.ownBlock = some w.heap.size) → wpList P ops Q rest (a.put o.dst v') w') : wpList P ops Q (o :: rest) a w :=
  wpList_plain hgd fun _ hK => by
    obtain ⟨v', w', hr, h2, h3, h4⟩ := run_append_row w base t o.type e i z size bytes ht hi hz hsize hby hzs hsz v n xs hown u m ys hu hl h1 h63 hbytes hbase (hno o.type)
    unfold Oper.wp execOp
    simp only [ho, resolve, invoke, builtin, Sem.run_bind, Sem.run_pure, Result.andThen_ok, List.map_toArray, List.map_cons, List.map_nil, hs, hx, hr]
    exact hK _ _ (h v' w' h2 h3 h4)
end Go.Proofs.YtljoacpaehmbdaaGreatDoor
