import Derived.Test.YtiinohibmcefkaaGreatDoorJzab
import Derived.Test.YtiinohibmcefkaaGreatDoorJzaf
import Derived.Test.YtiinohibmcefkaaGreatDoorJzad
namespace Go.Proofs.YtiinohibmcefkaaGreatDoor
open Go.RowKit Go.Maps

set_option maxRecDepth 100000 in
set_option maxHeartbeats 800000 in
theorem rCheckExpr_v (Z : Zone) (op n : Int) (s : Txt) (kids : EL) (hsz : kids.size + 1 ≤ 2147483647) (w : World) (up : Nat) (v : Value) (hS : SlE Z w up v kids) :
    Calls Tryz.prog 86 #[exV op n s v] w fun e w' => e = .returned (.int .i64 (checkE (.cons op n s kids .nil))) ∧ Keeps (fun _ => False) w w' := by
  have HW := fun (w' : World) (hk : Keeps (fun _ => False) w w') => hide (wellExpr_v Z (kids.size + 1) kids (by omega) (by omega) op n s w' up v (hS.keepF hk))
  have HD := fun (w' : World) (hk : Keeps (fun _ => False) w w') => hide (depthExpr_v Z (kids.size + 1) kids (by omega) (by omega) op n s w' up v (hS.keepF hk))
  obtain ⟨ao, cap, rfl, hc⟩ := hS.head
  have e1 : wellE (.cons op n s kids .nil) = (rootB op n s kids.len && wellE kids) := by simp [wellE]
  have e2 : depthE (.cons op n s kids .nil) = 1 + depthE kids := by simp [depthE]
  unfold checkE
  rw [e1, e2]
  clear hS e1 e2
  generalize (rootB op n s kids.len && wellE kids) = bw at HW ⊢
  generalize 1 + depthE kids = nd at HD ⊢
  obtain ⟨HB, hxb, hxc⟩ := boxedT w #[.int .i64 op, .int .i64 n, str s, .slice ao kids.len cap] 27
  have c0 := hxc 0 (.int .i64 op) rfl
  have c1 := hxc 1 (.int .i64 n) rfl
  have c2 := hxc 2 (str s) rfl
  have c3 := hxc 3 (.slice ao kids.len cap) rfl
  clear hxc
  cases bw with
  | false =>
    rw [if_pos rfl]
    go_enter Tryz.func86, Tryz.ntmps86
    go_wp2_with (go_at_call 147; refine (unhide (HW _ (unhide HB))).mono ?_; rintro e w1 ⟨rfl, hk1⟩)
    go_ret
    exact ⟨rfl, (unhide HB).trans hk1⟩
  | true =>
    rw [if_neg (by simp)]
    by_cases h12 : 12 < nd
    · rw [if_pos h12]
      have g12 : (12 : Int) < (nd : Int) := by omega
      go_enter Tryz.func86, Tryz.ntmps86
      go_wp2_with (first
        | (go_at_call 147; refine (unhide (HW _ (unhide HB))).mono ?_; rintro e w1 ⟨rfl, hk1⟩; have HK1 := hide ((unhide HB).trans hk1); have r0 := (hk1.cell (o := 0) hxb id).trans c0; have r1 := (hk1.cell (o := 1) hxb id).trans c1; have r2 := (hk1.cell (o := 2) hxb id).trans c2; have r3 := (hk1.cell (o := 3) hxb id).trans c3; clear hk1)
        | (go_at_call 148; refine (unhide (HD _ (unhide HK1))).mono ?_; rintro e w2 ⟨rfl, hk2⟩; have HK2 := hide ((unhide HK1).trans hk2); clear hk2))
      go_ret
      exact ⟨rfl, unhide HK2⟩
    · rw [if_neg h12]
      have g12 : ¬ (12 : Int) < (nd : Int) := by omega
      go_enter Tryz.func86, Tryz.ntmps86
      go_wp2_with (first
        | (go_at_call 147; refine (unhide (HW _ (unhide HB))).mono ?_; rintro e w1 ⟨rfl, hk1⟩; have HK1 := hide ((unhide HB).trans hk1); have r0 := (hk1.cell (o := 0) hxb id).trans c0; have r1 := (hk1.cell (o := 1) hxb id).trans c1; have r2 := (hk1.cell (o := 2) hxb id).trans c2; have r3 := (hk1.cell (o := 3) hxb id).trans c3; clear hk1)
        | (go_at_call 148; refine (unhide (HD _ (unhide HK1))).mono ?_; rintro e w2 ⟨rfl, hk2⟩; have HK2 := hide ((unhide HK1).trans hk2); clear hk2))
      go_ret
      exact ⟨rfl, unhide HK2⟩
set_option maxRecDepth 100000 in
set_option maxHeartbeats 4000000 in
theorem refType_v (Z : Zone) (S : List FieldA) (op n : Int) (s : Txt) (kids : EL) (hsz : kids.size + 1 ≤ 2147483647) (sv xv : Value) (w : World) (up : Nat) (hf : FldsAt w sv S) (hx : SlE Z w up xv kids) :
    Calls Tryz.prog 52 #[.agg #[sv], exV op n s xv] w fun e w' => e = .returned (typV (typeP S op n s kids)) ∧ Keeps (fun _ => False) w w' := by
  obtain ⟨ao, cap, rfl, hc⟩ := hx.head
  obtain ⟨so, sc, rfl⟩ := RowAt.form hf
  have HK0 : Hid (Keeps (fun _ => False) w ((w.alloc (.cells #[.slice so S.length sc] 24)).alloc (.cells #[.int .i64 op, .int .i64 n, str s, .slice ao kids.len cap] 27))) := ((Keeps.refl _ w).alloc _).alloc _
  have e1 : (w.alloc (.cells #[.slice so S.length sc] 24)).heap.size = w.heap.size + 1 := by simp
  have hb0 : ((w.alloc (.cells #[.slice so S.length sc] 24)).alloc (.cells #[.int .i64 op, .int .i64 n, str s, .slice ao kids.len cap] 27)).heap[w.heap.size]? = some (.cells #[.slice so S.length sc] 24 (0, 0)) := (((Keeps.refl (fun _ => False) _).alloc _).block _ (by rw [e1]; omega) id).trans (heap_alloc_new w _)
  have hb1 : ((w.alloc (.cells #[.slice so S.length sc] 24)).alloc (.cells #[.int .i64 op, .int .i64 n, str s, .slice ao kids.len cap] 27)).heap[w.heap.size + 1]? = some (.cells #[.int .i64 op, .int .i64 n, str s, .slice ao kids.len cap] 27 (0, 0)) := by
    have := heap_alloc_new (w.alloc (.cells #[.slice so S.length sc] 24)) (.cells #[.int .i64 op, .int .i64 n, str s, .slice ao kids.len cap] 27)
    rw [e1] at this
    exact this
  have SB : ∀ w' : World, Keeps (fun _ => False) ((w.alloc (.cells #[.slice so S.length sc] 24)).alloc (.cells #[.int .i64 op, .int .i64 n, str s, .slice ao kids.len cap] 27)) w' → w'.cell? ⟨w.heap.size, 0, none⟩ = some (.slice so S.length sc) ∧ w'.cell? ⟨w.heap.size + 1, 0, none⟩ = some (.int .i64 op) ∧ w'.cell? ⟨w.heap.size + 1, 1, none⟩ = some (.int .i64 n) ∧ w'.cell? ⟨w.heap.size + 1, 2, none⟩ = some (str s) ∧ w'.cell? ⟨w.heap.size + 1, 3, none⟩ = some (.slice ao kids.len cap) := fun w' hk => by
    have k0 := (hk.block _ (lt_of_block hb0) id).trans hb0
    have k1 := (hk.block _ (lt_of_block hb1) id).trans hb1
    exact ⟨by rw [cell_of_blk k0]; rfl, by rw [cell_of_blk k1]; rfl, by rw [cell_of_blk k1]; rfl, by rw [cell_of_blk k1]; rfl, by rw [cell_of_blk k1]; rfl⟩
  have y := SB _ (Keeps.refl _ _)
  have HSB := hide SB
  have HCS := fun w' (hk : Keeps (fun _ => False) w w') => hide (checkSchema_any S (.slice so S.length sc) w' (hf.keepF hk))
  have HCE := fun w' (hk : Keeps (fun _ => False) w w') => hide (rCheckExpr_v Z op n s kids hsz w' up (.slice ao kids.len cap) (hx.keepF hk))
  have HF := hide hf
  have HSX := hide hx
  unfold typeP
  clear hf hx SB hb0 hb1 e1
  cases hS : schemaB S with
  | false =>
    rw [errS_bad hS] at HCS ⊢
    rw [if_pos (by decide)]
    clear HCE hS
    go_enter Tryz.func52, Tryz.ntmps52
    go_wp2_with (go_at_call 67; refine (unhide (HCS _ (unhide HK0))).mono ?_; rintro e w1 ⟨rfl, hk1⟩; have HKa := hide ((unhide HK0).trans hk1); clear hk1)
    refine bodyPost_ret (v := .tuple #[.int .i64 0, .bool false, .int .i64 60]) (by simp [results, go_sem]) rfl ?_
    exact ⟨rfl, unhide HKa⟩
  | true =>
    rw [errS_good hS] at HCS ⊢
    rw [if_neg (by decide)]
    obtain ⟨C, hC⟩ : ∃ C, C = checkE (.cons op n s kids .nil) := ⟨_, rfl⟩
    rw [← hC] at HCE ⊢
    by_cases hC0 : C = 0
    · subst hC0
      rw [if_neg (by decide)]
      have hwl : wellE (.cons op n s kids .nil) = true := by
        unfold checkE at hC
        split at hC
        · cases hC
        · rename_i h; simpa using h
      simp only [wellE, Bool.and_true, Bool.and_eq_true] at hwl
      have HKI := fun w' (hk : Keeps (fun _ => False) w w') => hide (refKind_v Z S hS so sc (kids.size + 1) kids (by omega) op n s w' up (.slice ao kids.len cap) ((unhide HSX).keepF hk) ((unhide HF).keepF hk) hwl.1 hwl.2)
      obtain ⟨⟨⟨T, O⟩, E⟩, hp⟩ : ∃ p, p = zeroK (kindP S op s kids) := ⟨_, rfl⟩
      rw [← hp] at HKI
      have HRES : Hid ((if (kindP S op s kids).2 ≠ 0 then ((0 : Int), false, (kindP S op s kids).2) else ((kindP S op s kids).1.t, (kindP S op s kids).1.o, 0)) = (T, O, E)) := by
        show _ = _
        unfold zeroK at hp
        by_cases h : (kindP S op s kids).2 = 0
        · rw [if_neg (by simpa using h)] at hp ⊢
          rw [← hp] at h ⊢
          have h' : E = 0 := h
          rw [h']
        · rw [if_pos h] at hp ⊢
          simp only [Prod.mk.injEq, KA.mk.injEq] at hp
          obtain ⟨⟨rfl, rfl⟩, h3⟩ := hp
          rw [h3]
      rw [unhide HRES]
      clear hp hwl hC hS HRES
      go_enter Tryz.func52, Tryz.ntmps52
      go_wp2_with (first
        | (go_at_call 67; refine (unhide (HCS _ (unhide HK0))).mono ?_; rintro e w1 ⟨rfl, hk1⟩; have HKa := hide ((unhide HK0).trans hk1); have HKb := hide hk1; have y1 := unhide HSB _ hk1; clear hk1)
        | (go_at_call 86; refine (unhide (HCE _ (unhide HKa))).mono ?_; rintro e w2 ⟨rfl, hk1⟩; have HKa := hide ((unhide HKa).trans hk1); have HKb := hide ((unhide HKb).trans hk1); have y2 := unhide HSB _ (unhide HKb); clear hk1)
        | (go_at_call 87; refine (unhide (HKI _ (unhide HKa))).mono ?_; rintro e w3 ⟨rfl, hk1⟩; have HKa := hide ((unhide HKa).trans hk1); clear hk1))
      go_region
      all_goals go_wp2_with fail
      all_goals (refine bodyPost_ret (v := .tuple #[.int .i64 T, .bool O, .int .i64 E]) (by simp [results, go_sem]) rfl ?_; exact ⟨rfl, ((unhide HKa).alloc _).drew⟩)
    · rw [if_pos hC0]
      have n0 : (C != 0) = true := by simpa using hC0
      clear hC hC0 hS
      go_enter Tryz.func52, Tryz.ntmps52
      go_wp2_with (first
        | (go_at_call 67; refine (unhide (HCS _ (unhide HK0))).mono ?_; rintro e w1 ⟨rfl, hk1⟩; have HKa := hide ((unhide HK0).trans hk1); have y1 := unhide HSB _ hk1; clear hk1)
        | (go_at_call 86; refine (unhide (HCE _ (unhide HKa))).mono ?_; rintro e w2 ⟨rfl, hk1⟩; have HKa := hide ((unhide HKa).trans hk1); clear hk1))
      refine bodyPost_ret (v := .tuple #[.int .i64 0, .bool false, .int .i64 C]) (by simp [results, go_sem]) rfl ?_
      exact ⟨rfl, unhide HKa⟩
end Go.Proofs.YtiinohibmcefkaaGreatDoor
