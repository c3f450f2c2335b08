import Derived.Test.YtoempeobaknkcaaGreatDoorJyab
import Derived.Test.YtoempeobaknkcaaGreatDoorJyae
import Derived.Test.YtoempeobaknkcaaGreatDoorKm
import Derived.Test.YtoempeobaknkcaaGreatDoorJyaq
namespace Go.Proofs.YtoempeobaknkcaaGreatDoor
open Go.RowKit Go.Maps
set_option maxRecDepth 100000 in
set_option maxHeartbeats 800000 in
theorem checkExpr_v (Z : Zone) (op n : Int) (s : Txt) (kids : EL) (hsz : kids.size + 1 ≤ 4294967294) (w : World) (up : Nat) (v : Value) (hF : Forms w) (hS : SlE Z w up v kids) :
    Calls Tryz.prog 36 #[exV op n s v] w fun e w' => e = .returned (.int .i64 (checkE (.cons op n s kids .nil))) ∧ Keeps (fun _ => False) w w' := by
  obtain ⟨ao, cap, rfl, hc⟩ := hS.head
  have HK : Hid (Keeps (fun _ => False) w ((w.alloc (.cells #[.int .i64 op, .int .i64 n, str s, .slice ao kids.len cap] 57)).alloc (.cells #[.int .i64 op, .int .i64 n, str s, .slice ao kids.len cap] 57))) := hide (((Keeps.refl _ w).alloc _).alloc _)
  have hg : ((w.alloc (.cells #[.int .i64 op, .int .i64 n, str s, .slice ao kids.len cap] 57)).alloc (.cells #[.int .i64 op, .int .i64 n, str s, .slice ao kids.len cap] 57)).heap[w.heap.size + 1]? = some (.cells #[.int .i64 op, .int .i64 n, str s, .slice ao kids.len cap] 57 (0, 0)) := by
    have h := heap_alloc_new (w.alloc (.cells #[.int .i64 op, .int .i64 n, str s, .slice ao kids.len cap] 57)) (.cells #[.int .i64 op, .int .i64 n, str s, .slice ao kids.len cap] 57)
    simpa using h
  have hone := one_at hg (hS.keepF (unhide HK)) (Nat.le_refl 1) 0
  have hsz' : (EL.cons op n s kids .nil).size ≤ 4294967294 := by simp only [EL.size]; omega
  have HW := hide (exprsWellMade_v anyZ ((EL.cons op n s kids .nil).size + 1) (.cons op n s kids .nil) (by omega) hsz' _ 0 _ (hF.keepF (unhide HK)) hone)
  have HD := fun (w' : World) (hk : Keeps (fun _ => False) _ w') => hide (exprsDepth_v anyZ ((EL.cons op n s kids .nil).size + 1) (.cons op n s kids .nil) (by omega) hsz' w' 0 _ (hone.keepF hk))
  unfold checkE
  clear hF hS hg hone hsz'
  generalize wellE (.cons op n s kids .nil) = bw at HW ⊢
  generalize depthE (.cons op n s kids .nil) = nd at HD ⊢
  cases bw with
  | false =>
    rw [if_pos rfl]
    go_enter Tryz.func36, Tryz.ntmps36
    go_wp2_with (go_at_call 55; refine (unhide HW).mono ?_; rintro e w1 ⟨rfl, hk1⟩)
    go_ret
    exact ⟨rfl, (unhide HK).trans hk1⟩
  | true =>
    rw [if_neg (by simp)]
    by_cases h12 : 12 < nd
    · rw [if_pos h12]
      have g12 : (12 : Int) < (nd : Int) := by omega
      go_enter Tryz.func36, Tryz.ntmps36
      go_wp2_with (first
        | (go_at_call 55; refine (unhide HW).mono ?_; rintro e w1 ⟨rfl, hk1⟩; have HK1 := hide hk1; clear hk1)
        | (go_at_call 56; refine (unhide (HD _ (unhide HK1))).mono ?_; rintro e w2 ⟨rfl, hk2⟩; have HK2 := hide ((unhide HK1).trans hk2); clear hk2))
      go_ret
      exact ⟨rfl, (unhide HK).trans (unhide HK2)⟩
    · rw [if_neg h12]
      have g12 : ¬ (12 : Int) < (nd : Int) := by omega
      go_enter Tryz.func36, Tryz.ntmps36
      go_wp2_with (first
        | (go_at_call 55; refine (unhide HW).mono ?_; rintro e w1 ⟨rfl, hk1⟩; have HK1 := hide hk1; clear hk1)
        | (go_at_call 56; refine (unhide (HD _ (unhide HK1))).mono ?_; rintro e w2 ⟨rfl, hk2⟩; have HK2 := hide ((unhide HK1).trans hk2); clear hk2))
      go_ret
      exact ⟨rfl, (unhide HK).trans (unhide HK2)⟩
end Go.Proofs.YtoempeobaknkcaaGreatDoor
namespace Go.Proofs.YtoempeobaknkcaaGreatDoor
open Go.RowKit Go.Maps

theorem zero_at {X w1 : World} {c0 c1 : Value} {t : TypeId} (H : Nat) (hH : X.heap.size = H) (hk : Keeps (fun _ => False) (X.alloc (.cells #[c0, c1] t)) w1) : w1.heap[H]? = some (.cells #[c0, c1] t (0, 0)) := by
  subst hH
  rw [hk.block _ (by simp) id]
  exact heap_alloc_new X _
theorem zero_atD {X w1 : World} {c0 c1 : Value} {t : TypeId} (H : Nat) (hH : X.heap.size = H) (hk : Keeps (fun _ => False) (X.alloc (.cells #[c0, c1] t)).drew w1) : w1.heap[H]? = some (.cells #[c0, c1] t (0, 0)) := zero_at H hH ((Keeps.refl _ _).drew.trans hk)

set_option maxRecDepth 100000 in
set_option maxHeartbeats 8000000 in
theorem type_fit (Z : Zone) (S : List FieldA) (op n : Int) (s : Txt) (kids : EL) (hsz : kids.size + 1 ≤ 4294967294) (sv xv : Value) (w : World) (up : Nat) (hT : Types w) (hF : Forms w) (hf : FldsAt w sv S) (hx : SlE Z w up xv kids) (hS : schemaB S = true) (hE : checkE (.cons op n s kids .nil) = 0)
    (T E : Int) (O : Bool) (hP : kindP S op s kids = (⟨T, O⟩, E)) :
    Calls Tryz.prog 16 #[.agg #[sv], exV op n s xv] w fun e w' => e = .returned (if E = 0 then .tuple #[.int .i64 T, .bool O, .int .i64 0] else .tuple #[.int .i64 0, .bool false, .int .i64 E]) ∧ Keeps (fun _ => False) w w' := by
  have hwl : wellE (.cons op n s kids .nil) = true := by
    unfold checkE at hE
    split at hE
    · cases hE
    · rename_i h; simpa using h
  simp only [wellE, Bool.and_true, Bool.and_eq_true] at hwl
  obtain ⟨ao, cap, rfl, hc⟩ := hx.head
  obtain ⟨so, sc, rfl⟩ := RowAt.form hf
  have hnd : (S.map FieldA.name).Nodup := by
    unfold schemaB at hS
    simp only [Bool.and_eq_true, decide_eq_true_eq] at hS
    exact hS.1.2
  have HK0 : Hid (Keeps (fun _ => False) w ((w.alloc (.cells #[.slice so S.length sc] 24)).alloc (.cells #[.int .i64 op, .int .i64 n, str s, .slice ao kids.len cap] 57))) := ((Keeps.refl _ w).alloc _).alloc _
  have e1 : (w.alloc (.cells #[.slice so S.length sc] 24)).heap.size = w.heap.size + 1 := by simp
  have e2 : ((w.alloc (.cells #[.slice so S.length sc] 24)).alloc (.cells #[.int .i64 op, .int .i64 n, str s, .slice ao kids.len cap] 57)).heap.size = w.heap.size + 2 := by simp
  have hb0 : ((w.alloc (.cells #[.slice so S.length sc] 24)).alloc (.cells #[.int .i64 op, .int .i64 n, str s, .slice ao kids.len cap] 57)).heap[w.heap.size]? = some (.cells #[.slice so S.length sc] 24 (0, 0)) := (((Keeps.refl (fun _ => False) _).alloc _).block _ (by rw [e1]; omega) id).trans (heap_alloc_new w _)
  have hb1 : ((w.alloc (.cells #[.slice so S.length sc] 24)).alloc (.cells #[.int .i64 op, .int .i64 n, str s, .slice ao kids.len cap] 57)).heap[w.heap.size + 1]? = some (.cells #[.int .i64 op, .int .i64 n, str s, .slice ao kids.len cap] 57 (0, 0)) := by
    have := heap_alloc_new (w.alloc (.cells #[.slice so S.length sc] 24)) (.cells #[.int .i64 op, .int .i64 n, str s, .slice ao kids.len cap] 57)
    rw [e1] at this
    exact this
  have SB : ∀ w' : World, Keeps (fun _ => False) ((w.alloc (.cells #[.slice so S.length sc] 24)).alloc (.cells #[.int .i64 op, .int .i64 n, str s, .slice ao kids.len cap] 57)) w' → w'.cell? ⟨w.heap.size, 0, none⟩ = some (.slice so S.length sc) ∧ w'.cell? ⟨w.heap.size + 1, 0, none⟩ = some (.int .i64 op) ∧ w'.cell? ⟨w.heap.size + 1, 1, none⟩ = some (.int .i64 n) ∧ w'.cell? ⟨w.heap.size + 1, 2, none⟩ = some (str s) ∧ w'.cell? ⟨w.heap.size + 1, 3, none⟩ = some (.slice ao kids.len cap) := fun w' hk => by
    have k0 := (hk.block _ (lt_of_block hb0) id).trans hb0
    have k1 := (hk.block _ (lt_of_block hb1) id).trans hb1
    exact ⟨by rw [cell_of_blk k0]; rfl, by rw [cell_of_blk k1]; rfl, by rw [cell_of_blk k1]; rfl, by rw [cell_of_blk k1]; rfl, by rw [cell_of_blk k1]; rfl⟩
  have y := SB _ (Keeps.refl _ _)
  have HSB := hide SB
  have HCS := fun w' (hk : Keeps (fun _ => False) w w') => hide (checkSchema_v S (.slice so S.length sc) w' (hT.keepF hk) (hf.keepF hk))
  have HCE := fun w' (hk : Keeps (fun _ => False) w w') => hide (checkExpr_v Z op n s kids hsz w' up (.slice ao kids.len cap) (hF.keepF hk) (hx.keepF hk))
  rw [hE] at HCE
  rw [errS_good hS] at HCS
  have HFA := hide hf
  have HSX := hide hx
  have HW1 := hide hwl.1
  have HW2 := hide hwl.2
  have HEX := fun (w' : World) (j mb nn tab : Nat) (hJ : JudgeAt w' j mb nn tab S) (hs : SlE Z w' up (.slice ao kids.len cap) kids) => hide (exprJ_v Z j mb nn tab S hnd (kids.size + 1) kids (by omega) (by omega) op n s w' up (.slice ao kids.len cap) hJ hs hwl.1 hwl.2)
  rw [hP] at HEX
  clear hT hF hf hx hwl SB hb0 hb1 hE hP e1 e2
  by_cases hE0 : E = 0
  · subst hE0
    rw [if_pos rfl]
    go_enter Tryz.func16, Tryz.ntmps16
    go_wp2_with (first
      | (go_at_call 29; refine (unhide (HCS _ (unhide HK0))).mono ?_; rintro e w1 ⟨rfl, hk1⟩; have HKa := hide ((unhide HK0).trans hk1); have HKb := hide hk1; have y1 := unhide HSB _ hk1; clear hk1)
      | (go_at_call 36; refine (unhide (HCE _ (unhide HKa))).mono ?_; rintro e w2 ⟨rfl, hk1⟩; have HKa := hide ((unhide HKa).trans hk1); have HKb := hide ((unhide HKb).trans hk1); have y2 := unhide HSB _ (unhide HKb); clear hk1))
    have hs2 : w.heap.size + 2 ≤ w2.heap.size := by have := (unhide HKb).size; simp at this; omega
    have hbs : ((w.alloc (.cells #[.slice so S.length sc] 24)).alloc (.cells #[.int .i64 op, .int .i64 n, str s, .slice ao kids.len cap] 57)).heap.size = w.heap.size + 2 := by simp
    have HBS := hide hbs
    have FD := (unhide HFA).keepF (unhide HKa).drew
    have FDA := (unhide HFA).keepF ((unhide HKa).alloc (.cells #[.int .i64 0, .bool false] 80)).drew
    clear hbs y y1 y2
    go_region_held3 (fun w' => w'.cell? ⟨w.heap.size, 0, none⟩ = some (.slice so S.length sc) ∧ w'.cell? ⟨w.heap.size + 1, 0, none⟩ = some (.int .i64 op) ∧ w'.cell? ⟨w.heap.size + 1, 1, none⟩ = some (.int .i64 n) ∧ w'.cell? ⟨w.heap.size + 1, 2, none⟩ = some (str s) ∧ w'.cell? ⟨w.heap.size + 1, 3, none⟩ = some (.slice ao kids.len cap))
      (first | with_reducible exact unhide HSB _ (unhide HKe) | with_reducible exact unhide HSB _ (unhide HKd) | with_reducible exact unhide HSB _ ((unhide HKd).alloc _) | with_reducible exact unhide HSB _ (unhide HKc) | with_reducible exact unhide HSB _ ((unhide HKc).alloc _) | with_reducible exact unhide HSB _ (unhide HKb).drew | with_reducible exact unhide HSB _ ((unhide HKb).alloc _).drew)
      ((first
      | (go_at_call 31; refine (newJudge_v S (.slice so S.length sc) _ (by first | with_reducible exact FD | with_reducible exact FDA) hS).mono ?_; rintro e w3 ⟨j, mb, nn, tab, rfl, hJ, _, hk1⟩; have HJ := hide hJ; clear hJ; first
          | (have HKx : Hid (Keeps (fun _ => False) w2 w3) := (by with_reducible exact hide ((Keeps.refl _ w2).drew.trans hk1)); have HKc := hide ((unhide HKb).trans (unhide HKx)); have HSc := hide ((unhide HSX).keepF ((unhide HKa).trans (unhide HKx))); clear hk1)
          | (have HKx : Hid (Keeps (fun _ => False) w2 w3) := hide (((Keeps.refl _ w2).alloc _).drew.trans hk1); have HZ := hide (zero_atD w2.heap.size rfl hk1); have HKc := hide ((unhide HKb).trans (unhide HKx)); have HSc := hide ((unhide HSX).keepF ((unhide HKa).trans (unhide HKx))); clear hk1))
      | (go_at_call 37; first
          | (with_reducible refine (unhide (HEX w3 j mb nn tab (unhide HJ) (unhide HSc))).mono ?_; rintro e w4 ⟨rfl, hk1⟩; have HKd := hide ((unhide HKc).trans hk1); have HKaa := hide (((unhide HKa).trans (unhide HKx)).trans hk1); first
            | (have hz := (hk1.block _ (lt_of_block (unhide HZ)) id).trans (unhide HZ); have m0 := cell_of_blk hz 0; have m1 := cell_of_blk hz 1; simp at m0 m1; have g0 := frozen_of_blk hz 0; have g1 := frozen_of_blk hz 1; have hst := set2 hz (.int .i64 T) (.bool O); have HKe := hide ((unhide HKd).narrow hst.2 (fun q e => by rw [unhide HBS]; omega)); have HKf := hide ((unhide HKaa).narrow hst.2 (fun q e => by omega)); have s0 := hst.1.1; have s1 := hst.1.2.1; clear hst hz hk1)
            | (have HKf := hide ((unhide HKaa).alloc (.cells #[.int .i64 T, .bool O] 80)); clear hk1))
          | (refine (unhide (HEX (w3.alloc (.cells #[.int .i64 0, .bool false] 80)) j mb nn tab ((unhide HJ).keepF ((Keeps.refl _ w3).alloc _)) ((unhide HSc).keepF ((Keeps.refl _ w3).alloc _)))).mono ?_; rintro e w4 ⟨rfl, hk1⟩; have hz := zero_at w3.heap.size rfl hk1; have HKd := hide ((unhide HKc).trans (((Keeps.refl _ w3).alloc _).trans hk1)); have HKaa := hide (((unhide HKa).trans (unhide HKx)).trans (((Keeps.refl _ w3).alloc _).trans hk1)); have m0 := cell_of_blk hz 0; have m1 := cell_of_blk hz 1; simp at m0 m1; have g0 := frozen_of_blk hz 0; have g1 := frozen_of_blk hz 1; have hst := set2 hz (.int .i64 T) (.bool O); have hsx := (unhide HKx).size; have HKe := hide ((unhide HKd).narrow hst.2 (fun q e => by rw [unhide HBS]; omega)); have HKf := hide ((unhide HKaa).narrow hst.2 (fun q e => by omega)); have s0 := hst.1.1; have s1 := hst.1.2.1; clear hst hz hk1))))
    all_goals go_wp2_with fail
    all_goals go_region
    all_goals go_wp2_with fail
    all_goals (refine bodyPost_ret (v := .tuple #[.int .i64 T, .bool O, .int .i64 0]) (by simp [results, go_sem]) rfl ?_; exact ⟨rfl, (unhide HKf).drew⟩)
  · rw [if_neg hE0]
    have n0 : (E != 0) = true := by simpa using hE0
    clear hE0
    go_enter Tryz.func16, Tryz.ntmps16
    go_wp2_with (first
      | (go_at_call 29; refine (unhide (HCS _ (unhide HK0))).mono ?_; rintro e w1 ⟨rfl, hk1⟩; have HKa := hide ((unhide HK0).trans hk1); have HKb := hide hk1; have y1 := unhide HSB _ hk1; clear hk1)
      | (go_at_call 36; refine (unhide (HCE _ (unhide HKa))).mono ?_; rintro e w2 ⟨rfl, hk1⟩; have HKa := hide ((unhide HKa).trans hk1); have HKb := hide ((unhide HKb).trans hk1); have y2 := unhide HSB _ (unhide HKb); clear hk1))
    have hs2 : w.heap.size + 2 ≤ w2.heap.size := by have := (unhide HKb).size; simp at this; omega
    have hbs : ((w.alloc (.cells #[.slice so S.length sc] 24)).alloc (.cells #[.int .i64 op, .int .i64 n, str s, .slice ao kids.len cap] 57)).heap.size = w.heap.size + 2 := by simp
    have HBS := hide hbs
    have FD := (unhide HFA).keepF (unhide HKa).drew
    have FDA := (unhide HFA).keepF ((unhide HKa).alloc (.cells #[.int .i64 0, .bool false] 80)).drew
    clear hbs y y1 y2
    go_region_held3 (fun w' => w'.cell? ⟨w.heap.size, 0, none⟩ = some (.slice so S.length sc) ∧ w'.cell? ⟨w.heap.size + 1, 0, none⟩ = some (.int .i64 op) ∧ w'.cell? ⟨w.heap.size + 1, 1, none⟩ = some (.int .i64 n) ∧ w'.cell? ⟨w.heap.size + 1, 2, none⟩ = some (str s) ∧ w'.cell? ⟨w.heap.size + 1, 3, none⟩ = some (.slice ao kids.len cap))
      (first | with_reducible exact unhide HSB _ (unhide HKe) | with_reducible exact unhide HSB _ (unhide HKd) | with_reducible exact unhide HSB _ ((unhide HKd).alloc _) | with_reducible exact unhide HSB _ (unhide HKc) | with_reducible exact unhide HSB _ ((unhide HKc).alloc _) | with_reducible exact unhide HSB _ (unhide HKb).drew | with_reducible exact unhide HSB _ ((unhide HKb).alloc _).drew)
      ((first
      | (go_at_call 31; refine (newJudge_v S (.slice so S.length sc) _ (by first | with_reducible exact FD | with_reducible exact FDA) hS).mono ?_; rintro e w3 ⟨j, mb, nn, tab, rfl, hJ, _, hk1⟩; have HJ := hide hJ; clear hJ; first
          | (have HKx : Hid (Keeps (fun _ => False) w2 w3) := (by with_reducible exact hide ((Keeps.refl _ w2).drew.trans hk1)); have HKc := hide ((unhide HKb).trans (unhide HKx)); have HSc := hide ((unhide HSX).keepF ((unhide HKa).trans (unhide HKx))); clear hk1)
          | (have HKx : Hid (Keeps (fun _ => False) w2 w3) := hide (((Keeps.refl _ w2).alloc _).drew.trans hk1); have HZ := hide (zero_atD w2.heap.size rfl hk1); have HKc := hide ((unhide HKb).trans (unhide HKx)); have HSc := hide ((unhide HSX).keepF ((unhide HKa).trans (unhide HKx))); clear hk1))
      | (go_at_call 37; first
          | (with_reducible refine (unhide (HEX w3 j mb nn tab (unhide HJ) (unhide HSc))).mono ?_; rintro e w4 ⟨rfl, hk1⟩; have HKd := hide ((unhide HKc).trans hk1); have HKaa := hide (((unhide HKa).trans (unhide HKx)).trans hk1); first
            | (have hz := (hk1.block _ (lt_of_block (unhide HZ)) id).trans (unhide HZ); have m0 := cell_of_blk hz 0; have m1 := cell_of_blk hz 1; simp at m0 m1; have g0 := frozen_of_blk hz 0; have g1 := frozen_of_blk hz 1; have hst := set2 hz (.int .i64 T) (.bool O); have HKe := hide ((unhide HKd).narrow hst.2 (fun q e => by rw [unhide HBS]; omega)); have HKf := hide ((unhide HKaa).narrow hst.2 (fun q e => by omega)); have s0 := hst.1.1; have s1 := hst.1.2.1; clear hst hz hk1)
            | (have HKf := hide ((unhide HKaa).alloc (.cells #[.int .i64 T, .bool O] 80)); clear hk1))
          | (refine (unhide (HEX (w3.alloc (.cells #[.int .i64 0, .bool false] 80)) j mb nn tab ((unhide HJ).keepF ((Keeps.refl _ w3).alloc _)) ((unhide HSc).keepF ((Keeps.refl _ w3).alloc _)))).mono ?_; rintro e w4 ⟨rfl, hk1⟩; have hz := zero_at w3.heap.size rfl hk1; have HKd := hide ((unhide HKc).trans (((Keeps.refl _ w3).alloc _).trans hk1)); have HKaa := hide (((unhide HKa).trans (unhide HKx)).trans (((Keeps.refl _ w3).alloc _).trans hk1)); have m0 := cell_of_blk hz 0; have m1 := cell_of_blk hz 1; simp at m0 m1; have g0 := frozen_of_blk hz 0; have g1 := frozen_of_blk hz 1; have hst := set2 hz (.int .i64 T) (.bool O); have hsx := (unhide HKx).size; have HKe := hide ((unhide HKd).narrow hst.2 (fun q e => by rw [unhide HBS]; omega)); have HKf := hide ((unhide HKaa).narrow hst.2 (fun q e => by omega)); have s0 := hst.1.1; have s1 := hst.1.2.1; clear hst hz hk1))))
    all_goals go_wp2_with fail
    all_goals (refine bodyPost_ret (v := .tuple #[.int .i64 0, .bool false, .int .i64 E]) (by simp [results, go_sem]) rfl ?_; exact ⟨rfl, unhide HKf⟩)

set_option maxRecDepth 100000 in
set_option maxHeartbeats 2000000 in
theorem type_bad (Z : Zone) (S : List FieldA) (op n : Int) (s : Txt) (kids : EL) (hsz : kids.size + 1 ≤ 4294967294) (sv xv : Value) (w : World) (up : Nat) (hT : Types w) (hF : Forms w) (hf : FldsAt w sv S) (hx : SlE Z w up xv kids) (E : Int) (hE : E ≠ 0)
    (h : schemaB S = false ∧ E = 60 ∨ schemaB S = true ∧ checkE (.cons op n s kids .nil) = E) :
    Calls Tryz.prog 16 #[.agg #[sv], exV op n s xv] w fun e w' => e = .returned (.tuple #[.int .i64 0, .bool false, .int .i64 E]) ∧ Keeps (fun _ => False) w w' := by
  obtain ⟨ao, cap, rfl, hc⟩ := hx.head
  obtain ⟨so, sc, rfl⟩ := RowAt.form hf
  have HK0 : Hid (Keeps (fun _ => False) w ((w.alloc (.cells #[.slice so S.length sc] 24)).alloc (.cells #[.int .i64 op, .int .i64 n, str s, .slice ao kids.len cap] 57))) := ((Keeps.refl _ w).alloc _).alloc _
  have e1 : (w.alloc (.cells #[.slice so S.length sc] 24)).heap.size = w.heap.size + 1 := by simp
  have hb0 : ((w.alloc (.cells #[.slice so S.length sc] 24)).alloc (.cells #[.int .i64 op, .int .i64 n, str s, .slice ao kids.len cap] 57)).heap[w.heap.size]? = some (.cells #[.slice so S.length sc] 24 (0, 0)) := (((Keeps.refl (fun _ => False) _).alloc _).block _ (by rw [e1]; omega) id).trans (heap_alloc_new w _)
  have hb1 : ((w.alloc (.cells #[.slice so S.length sc] 24)).alloc (.cells #[.int .i64 op, .int .i64 n, str s, .slice ao kids.len cap] 57)).heap[w.heap.size + 1]? = some (.cells #[.int .i64 op, .int .i64 n, str s, .slice ao kids.len cap] 57 (0, 0)) := by
    have := heap_alloc_new (w.alloc (.cells #[.slice so S.length sc] 24)) (.cells #[.int .i64 op, .int .i64 n, str s, .slice ao kids.len cap] 57)
    rw [e1] at this
    exact this
  have SB : ∀ w' : World, Keeps (fun _ => False) ((w.alloc (.cells #[.slice so S.length sc] 24)).alloc (.cells #[.int .i64 op, .int .i64 n, str s, .slice ao kids.len cap] 57)) w' → w'.cell? ⟨w.heap.size, 0, none⟩ = some (.slice so S.length sc) ∧ w'.cell? ⟨w.heap.size + 1, 0, none⟩ = some (.int .i64 op) ∧ w'.cell? ⟨w.heap.size + 1, 1, none⟩ = some (.int .i64 n) ∧ w'.cell? ⟨w.heap.size + 1, 2, none⟩ = some (str s) ∧ w'.cell? ⟨w.heap.size + 1, 3, none⟩ = some (.slice ao kids.len cap) := fun w' hk => by
    have k0 := (hk.block _ (lt_of_block hb0) id).trans hb0
    have k1 := (hk.block _ (lt_of_block hb1) id).trans hb1
    exact ⟨by rw [cell_of_blk k0]; rfl, by rw [cell_of_blk k1]; rfl, by rw [cell_of_blk k1]; rfl, by rw [cell_of_blk k1]; rfl, by rw [cell_of_blk k1]; rfl⟩
  have y := SB _ (Keeps.refl _ _)
  have HSB := hide SB
  have HCS := fun w' (hk : Keeps (fun _ => False) w w') => hide (checkSchema_v S (.slice so S.length sc) w' (hT.keepF hk) (hf.keepF hk))
  have HCE := fun w' (hk : Keeps (fun _ => False) w w') => hide (checkExpr_v Z op n s kids hsz w' up (.slice ao kids.len cap) (hF.keepF hk) (hx.keepF hk))
  clear hT hF hf hx SB hb0 hb1 e1
  rcases h with ⟨h1, rfl⟩ | ⟨h1, h2⟩
  · rw [errS_bad h1] at HCS
    clear h1 HCE
    go_enter Tryz.func16, Tryz.ntmps16
    go_wp2_with (go_at_call 29; refine (unhide (HCS _ (unhide HK0))).mono ?_; rintro e w1 ⟨rfl, hk1⟩; have HKa := hide ((unhide HK0).trans hk1); clear hk1)
    refine bodyPost_ret (v := .tuple #[.int .i64 0, .bool false, .int .i64 60]) (by simp [results, go_sem]) rfl ?_
    exact ⟨rfl, unhide HKa⟩
  · rw [errS_good h1] at HCS
    rw [h2] at HCE
    have n0 : (E != 0) = true := by simpa using hE
    clear h1 h2 hE
    go_enter Tryz.func16, Tryz.ntmps16
    go_wp2_with (first
      | (go_at_call 29; refine (unhide (HCS _ (unhide HK0))).mono ?_; rintro e w1 ⟨rfl, hk1⟩; have HKa := hide ((unhide HK0).trans hk1); have y1 := unhide HSB _ hk1; clear hk1)
      | (go_at_call 36; refine (unhide (HCE _ (unhide HKa))).mono ?_; rintro e w2 ⟨rfl, hk1⟩; have HKa := hide ((unhide HKa).trans hk1); clear hk1))
    refine bodyPost_ret (v := .tuple #[.int .i64 0, .bool false, .int .i64 E]) (by simp [results, go_sem]) rfl ?_
    exact ⟨rfl, unhide HKa⟩
/-- What Type answers, as a value. -/
abbrev typV (p : Int × Bool × Int) : Value := .tuple #[.int .i64 p.1, .bool p.2.1, .int .i64 p.2.2]
theorem type_v (Z : Zone) (S : List FieldA) (op n : Int) (s : Txt) (kids : EL) (hsz : kids.size + 1 ≤ 4294967294) (sv xv : Value) (w : World) (up : Nat) (hT : Types w) (hF : Forms w) (hf : FldsAt w sv S) (hx : SlE Z w up xv kids) :
    Calls Tryz.prog 16 #[.agg #[sv], exV op n s xv] w fun e w' => e = .returned (typV (typeP S op n s kids)) ∧ Keeps (fun _ => False) w w' := by
  unfold typeP
  cases hS : schemaB S with
  | false =>
    rw [errS_bad hS]
    exact type_bad Z S op n s kids hsz sv xv w up hT hF hf hx 60 (by decide) (Or.inl ⟨hS, rfl⟩)
  | true =>
    rw [errS_good hS]
    by_cases hE : checkE (.cons op n s kids .nil) = 0
    · have h := type_fit Z S op n s kids hsz sv xv w up hT hF hf hx hS hE (kindP S op s kids).1.t (kindP S op s kids).2 (kindP S op s kids).1.o rfl
      by_cases h0 : (kindP S op s kids).2 = 0
      · simpa [hE, h0] using h
      · simpa [hE, h0] using h
    · simpa [hE] using type_bad Z S op n s kids hsz sv xv w up hT hF hf hx _ hE (Or.inr ⟨hS, rfl⟩)
end Go.Proofs.YtoempeobaknkcaaGreatDoor
