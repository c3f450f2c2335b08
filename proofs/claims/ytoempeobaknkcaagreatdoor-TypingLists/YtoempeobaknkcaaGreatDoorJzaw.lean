import Derived.Test.YtoempeobaknkcaaGreatDoorJzaj
import Derived.Test.YtoempeobaknkcaaGreatDoorJzav
import Derived.Test.YtoempeobaknkcaaGreatDoorKm
import Derived.Test.YtoempeobaknkcaaGreatDoorJzam
import Derived.Test.YtoempeobaknkcaaGreatDoorJzan
import Derived.Test.YtoempeobaknkcaaGreatDoorJzat
import Derived.Test.YtoempeobaknkcaaGreatDoorJzau
namespace Go.Proofs.YtoempeobaknkcaaGreatDoor
open Go.RowKit Go.Maps

theorem zero_at {X w1 : World} {c0 c1 : Value} {t : TypeId} (H : Nat) (hH : X.heap.size = H) (hk : Keeps (fun _ => False) (X.alloc (.cells #[c0, c1] t)) w1) : w1.heap[H]? = some (.cells #[c0, c1] t (0, 0)) := by
  subst hH
  rw [hk.block _ (by simp) id]
  exact heap_alloc_new X _
theorem zero_atD {X w1 : World} {c0 c1 : Value} {t : TypeId} (H : Nat) (hH : X.heap.size = H) (hk : Keeps (fun _ => False) (X.alloc (.cells #[c0, c1] t)).drew w1) : w1.heap[H]? = some (.cells #[c0, c1] t (0, 0)) := zero_at H hH ((Keeps.refl _ _).drew.trans hk)

set_option maxRecDepth 100000 in
set_option maxHeartbeats 8000000 in
theorem type_fit (Z : Zone) (S : List FieldA) (op n : Int) (s : Txt) (kids : EL) (hsz : kids.size + 1 ≤ 4294967294) (sv xv : Value) (w : World) (up : Nat) (hT : Types w) (hF : Forms w) (hf : FldsAt w sv S) (hx : SlE Z w up xv kids) (hS : schemaB S = true) (hE : checkE (.cons op n s kids .nil) = 0)
    (T E : Int) (O : Bool) (hP : kindP S op s kids = (⟨T, O⟩, E)) :
    Calls Tryz.prog 16 #[.agg #[sv], exV op n s xv] w fun e w' => e = .returned (if E = 0 then .tuple #[.int .i64 T, .bool O, .int .i64 0] else .tuple #[.int .i64 0, .bool false, .int .i64 E]) ∧ Keeps (fun _ => False) w w' := by
  have hwl : wellE (.cons op n s kids .nil) = true := by
    unfold checkE at hE
    split at hE
    · cases hE
    · rename_i h; simpa using h
  simp only [wellE, Bool.and_true, Bool.and_eq_true] at hwl
  obtain ⟨ao, cap, rfl, hc⟩ := hx.head
  obtain ⟨so, sc, rfl⟩ := RowAt.form hf
  have hnd : (S.map FieldA.name).Nodup := by
    unfold schemaB at hS
    simp only [Bool.and_eq_true, decide_eq_true_eq] at hS
    exact hS.1.2
  have HK0 : Hid (Keeps (fun _ => False) w ((w.alloc (.cells #[.slice so S.length sc] 24)).alloc (.cells #[.int .i64 op, .int .i64 n, str s, .slice ao kids.len cap] 57))) := ((Keeps.refl _ w).alloc _).alloc _
  have e1 : (w.alloc (.cells #[.slice so S.length sc] 24)).heap.size = w.heap.size + 1 := by simp
  have e2 : ((w.alloc (.cells #[.slice so S.length sc] 24)).alloc (.cells #[.int .i64 op, .int .i64 n, str s, .slice ao kids.len cap] 57)).heap.size = w.heap.size + 2 := by simp
  have hb0 : ((w.alloc (.cells #[.slice so S.length sc] 24)).alloc (.cells #[.int .i64 op, .int .i64 n, str s, .slice ao kids.len cap] 57)).heap[w.heap.size]? = some (.cells #[.slice so S.length sc] 24 (0, 0)) := (((Keeps.refl (fun _ => False) _).alloc _).block _ (by rw [e1]; omega) id).trans (heap_alloc_new w _)
  have hb1 : ((w.alloc (.cells #[.slice so S.length sc] 24)).alloc (.cells #[.int .i64 op, .int .i64 n, str s, .slice ao kids.len cap] 57)).heap[w.heap.size + 1]? = some (.cells #[.int .i64 op, .int .i64 n, str s, .slice ao kids.len cap] 57 (0, 0)) := by
    have := heap_alloc_new (w.alloc (.cells #[.slice so S.length sc] 24)) (.cells #[.int .i64 op, .int .i64 n, str s, .slice ao kids.len cap] 57)
    rw [e1] at this
    exact this
  have SB : ∀ w' : World, Keeps (fun _ => False) ((w.alloc (.cells #[.slice so S.length sc] 24)).alloc (.cells #[.int .i64 op, .int .i64 n, str s, .slice ao kids.len cap] 57)) w' → w'.cell? ⟨w.heap.size, 0, none⟩ = some (.slice so S.length sc) ∧ w'.cell? ⟨w.heap.size + 1, 0, none⟩ = some (.int .i64 op) ∧ w'.cell? ⟨w.heap.size + 1, 1, none⟩ = some (.int .i64 n) ∧ w'.cell? ⟨w.heap.size + 1, 2, none⟩ = some (str s) ∧ w'.cell? ⟨w.heap.size + 1, 3, none⟩ = some (.slice ao kids.len cap) := fun w' hk => by
    have k0 := (hk.block _ (lt_of_block hb0) id).trans hb0
    have k1 := (hk.block _ (lt_of_block hb1) id).trans hb1
    exact ⟨by rw [cell_of_blk k0]; rfl, by rw [cell_of_blk k1]; rfl, by rw [cell_of_blk k1]; rfl, by rw [cell_of_blk k1]; rfl, by rw [cell_of_blk k1]; rfl⟩
  have y := SB _ (Keeps.refl _ _)
  have HSB := hide SB
  have HCS := fun w' (hk : Keeps (fun _ => False) w w') => hide (checkSchema_v S (.slice so S.length sc) w' (hT.keepF hk) (hf.keepF hk))
  have HCE := fun w' (hk : Keeps (fun _ => False) w w') => hide (checkExpr_v Z op n s kids hsz w' up (.slice ao kids.len cap) (hF.keepF hk) (hx.keepF hk))
  rw [hE] at HCE
  rw [errS_good hS] at HCS
  have HFA := hide hf
  have HSX := hide hx
  have HW1 := hide hwl.1
  have HW2 := hide hwl.2
  have HEX := fun (w' : World) (j mb nn tab : Nat) (hJ : JudgeAt w' j mb nn tab S) (hs : SlE Z w' up (.slice ao kids.len cap) kids) => hide (exprJ_v Z j mb nn tab S hnd (kids.size + 1) kids (by omega) (by omega) op n s w' up (.slice ao kids.len cap) hJ hs hwl.1 hwl.2)
  rw [hP] at HEX
  clear hT hF hf hx hwl SB hb0 hb1 hE hP e1 e2
  by_cases hE0 : E = 0
  · subst hE0
    rw [if_pos rfl]
    go_enter Tryz.func16, Tryz.ntmps16
    go_wp2_with (first
      | (go_at_call 29; refine (unhide (HCS _ (unhide HK0))).mono ?_; rintro e w1 ⟨rfl, hk1⟩; have HKa := hide ((unhide HK0).trans hk1); have HKb := hide hk1; have y1 := unhide HSB _ hk1; clear hk1)
      | (go_at_call 36; refine (unhide (HCE _ (unhide HKa))).mono ?_; rintro e w2 ⟨rfl, hk1⟩; have HKa := hide ((unhide HKa).trans hk1); have HKb := hide ((unhide HKb).trans hk1); have y2 := unhide HSB _ (unhide HKb); clear hk1))
    have hs2 : w.heap.size + 2 ≤ w2.heap.size := by have := (unhide HKb).size; simp at this; omega
    have hbs : ((w.alloc (.cells #[.slice so S.length sc] 24)).alloc (.cells #[.int .i64 op, .int .i64 n, str s, .slice ao kids.len cap] 57)).heap.size = w.heap.size + 2 := by simp
    have HBS := hide hbs
    have FD := (unhide HFA).keepF (unhide HKa).drew
    have FDA := (unhide HFA).keepF ((unhide HKa).alloc (.cells #[.int .i64 0, .bool false] 80)).drew
    clear hbs y y1 y2
    go_region_held3 (fun w' => w'.cell? ⟨w.heap.size, 0, none⟩ = some (.slice so S.length sc) ∧ w'.cell? ⟨w.heap.size + 1, 0, none⟩ = some (.int .i64 op) ∧ w'.cell? ⟨w.heap.size + 1, 1, none⟩ = some (.int .i64 n) ∧ w'.cell? ⟨w.heap.size + 1, 2, none⟩ = some (str s) ∧ w'.cell? ⟨w.heap.size + 1, 3, none⟩ = some (.slice ao kids.len cap))
      (first | with_reducible exact unhide HSB _ (unhide HKe) | with_reducible exact unhide HSB _ (unhide HKd) | with_reducible exact unhide HSB _ ((unhide HKd).alloc _) | with_reducible exact unhide HSB _ (unhide HKc) | with_reducible exact unhide HSB _ ((unhide HKc).alloc _) | with_reducible exact unhide HSB _ (unhide HKb).drew | with_reducible exact unhide HSB _ ((unhide HKb).alloc _).drew)
      ((first
      | (go_at_call 31; refine (newJudge_v S (.slice so S.length sc) _ (by first | with_reducible exact FD | with_reducible exact FDA) hS).mono ?_; rintro e w3 ⟨j, mb, nn, tab, rfl, hJ, _, hk1⟩; have HJ := hide hJ; clear hJ; first
          | (have HKx : Hid (Keeps (fun _ => False) w2 w3) := (by with_reducible exact hide ((Keeps.refl _ w2).drew.trans hk1)); have HKc := hide ((unhide HKb).trans (unhide HKx)); have HSc := hide ((unhide HSX).keepF ((unhide HKa).trans (unhide HKx))); clear hk1)
          | (have HKx : Hid (Keeps (fun _ => False) w2 w3) := hide (((Keeps.refl _ w2).alloc _).drew.trans hk1); have HZ := hide (zero_atD w2.heap.size rfl hk1); have HKc := hide ((unhide HKb).trans (unhide HKx)); have HSc := hide ((unhide HSX).keepF ((unhide HKa).trans (unhide HKx))); clear hk1))
      | (go_at_call 37; first
          | (with_reducible refine (unhide (HEX w3 j mb nn tab (unhide HJ) (unhide HSc))).mono ?_; rintro e w4 ⟨rfl, hk1⟩; have HKd := hide ((unhide HKc).trans hk1); have HKaa := hide (((unhide HKa).trans (unhide HKx)).trans hk1); first
            | (have hz := (hk1.block _ (lt_of_block (unhide HZ)) id).trans (unhide HZ); have m0 := cell_of_blk hz 0; have m1 := cell_of_blk hz 1; simp at m0 m1; have g0 := frozen_of_blk hz 0; have g1 := frozen_of_blk hz 1; have hst := set2 hz (.int .i64 T) (.bool O); have HKe := hide ((unhide HKd).narrow hst.2 (fun q e => by rw [unhide HBS]; omega)); have HKf := hide ((unhide HKaa).narrow hst.2 (fun q e => by omega)); have s0 := hst.1.1; have s1 := hst.1.2.1; clear hst hz hk1)
            | (have HKf := hide ((unhide HKaa).alloc (.cells #[.int .i64 T, .bool O] 80)); clear hk1))
          | (refine (unhide (HEX (w3.alloc (.cells #[.int .i64 0, .bool false] 80)) j mb nn tab ((unhide HJ).keepF ((Keeps.refl _ w3).alloc _)) ((unhide HSc).keepF ((Keeps.refl _ w3).alloc _)))).mono ?_; rintro e w4 ⟨rfl, hk1⟩; have hz := zero_at w3.heap.size rfl hk1; have HKd := hide ((unhide HKc).trans (((Keeps.refl _ w3).alloc _).trans hk1)); have HKaa := hide (((unhide HKa).trans (unhide HKx)).trans (((Keeps.refl _ w3).alloc _).trans hk1)); have m0 := cell_of_blk hz 0; have m1 := cell_of_blk hz 1; simp at m0 m1; have g0 := frozen_of_blk hz 0; have g1 := frozen_of_blk hz 1; have hst := set2 hz (.int .i64 T) (.bool O); have hsx := (unhide HKx).size; have HKe := hide ((unhide HKd).narrow hst.2 (fun q e => by rw [unhide HBS]; omega)); have HKf := hide ((unhide HKaa).narrow hst.2 (fun q e => by omega)); have s0 := hst.1.1; have s1 := hst.1.2.1; clear hst hz hk1))))
    all_goals go_wp2_with fail
    all_goals go_region
    all_goals go_wp2_with fail
    all_goals (refine bodyPost_ret (v := .tuple #[.int .i64 T, .bool O, .int .i64 0]) (by simp [results, go_sem]) rfl ?_; exact ⟨rfl, (unhide HKf).drew⟩)
  · rw [if_neg hE0]
    have n0 : (E != 0) = true := by simpa using hE0
    clear hE0
    go_enter Tryz.func16, Tryz.ntmps16
    go_wp2_with (first
      | (go_at_call 29; refine (unhide (HCS _ (unhide HK0))).mono ?_; rintro e w1 ⟨rfl, hk1⟩; have HKa := hide ((unhide HK0).trans hk1); have HKb := hide hk1; have y1 := unhide HSB _ hk1; clear hk1)
      | (go_at_call 36; refine (unhide (HCE _ (unhide HKa))).mono ?_; rintro e w2 ⟨rfl, hk1⟩; have HKa := hide ((unhide HKa).trans hk1); have HKb := hide ((unhide HKb).trans hk1); have y2 := unhide HSB _ (unhide HKb); clear hk1))
    have hs2 : w.heap.size + 2 ≤ w2.heap.size := by have := (unhide HKb).size; simp at this; omega
    have hbs : ((w.alloc (.cells #[.slice so S.length sc] 24)).alloc (.cells #[.int .i64 op, .int .i64 n, str s, .slice ao kids.len cap] 57)).heap.size = w.heap.size + 2 := by simp
    have HBS := hide hbs
    have FD := (unhide HFA).keepF (unhide HKa).drew
    have FDA := (unhide HFA).keepF ((unhide HKa).alloc (.cells #[.int .i64 0, .bool false] 80)).drew
    clear hbs y y1 y2
    go_region_held3 (fun w' => w'.cell? ⟨w.heap.size, 0, none⟩ = some (.slice so S.length sc) ∧ w'.cell? ⟨w.heap.size + 1, 0, none⟩ = some (.int .i64 op) ∧ w'.cell? ⟨w.heap.size + 1, 1, none⟩ = some (.int .i64 n) ∧ w'.cell? ⟨w.heap.size + 1, 2, none⟩ = some (str s) ∧ w'.cell? ⟨w.heap.size + 1, 3, none⟩ = some (.slice ao kids.len cap))
      (first | with_reducible exact unhide HSB _ (unhide HKe) | with_reducible exact unhide HSB _ (unhide HKd) | with_reducible exact unhide HSB _ ((unhide HKd).alloc _) | with_reducible exact unhide HSB _ (unhide HKc) | with_reducible exact unhide HSB _ ((unhide HKc).alloc _) | with_reducible exact unhide HSB _ (unhide HKb).drew | with_reducible exact unhide HSB _ ((unhide HKb).alloc _).drew)
      ((first
      | (go_at_call 31; refine (newJudge_v S (.slice so S.length sc) _ (by first | with_reducible exact FD | with_reducible exact FDA) hS).mono ?_; rintro e w3 ⟨j, mb, nn, tab, rfl, hJ, _, hk1⟩; have HJ := hide hJ; clear hJ; first
          | (have HKx : Hid (Keeps (fun _ => False) w2 w3) := (by with_reducible exact hide ((Keeps.refl _ w2).drew.trans hk1)); have HKc := hide ((unhide HKb).trans (unhide HKx)); have HSc := hide ((unhide HSX).keepF ((unhide HKa).trans (unhide HKx))); clear hk1)
          | (have HKx : Hid (Keeps (fun _ => False) w2 w3) := hide (((Keeps.refl _ w2).alloc _).drew.trans hk1); have HZ := hide (zero_atD w2.heap.size rfl hk1); have HKc := hide ((unhide HKb).trans (unhide HKx)); have HSc := hide ((unhide HSX).keepF ((unhide HKa).trans (unhide HKx))); clear hk1))
      | (go_at_call 37; first
          | (with_reducible refine (unhide (HEX w3 j mb nn tab (unhide HJ) (unhide HSc))).mono ?_; rintro e w4 ⟨rfl, hk1⟩; have HKd := hide ((unhide HKc).trans hk1); have HKaa := hide (((unhide HKa).trans (unhide HKx)).trans hk1); first
            | (have hz := (hk1.block _ (lt_of_block (unhide HZ)) id).trans (unhide HZ); have m0 := cell_of_blk hz 0; have m1 := cell_of_blk hz 1; simp at m0 m1; have g0 := frozen_of_blk hz 0; have g1 := frozen_of_blk hz 1; have hst := set2 hz (.int .i64 T) (.bool O); have HKe := hide ((unhide HKd).narrow hst.2 (fun q e => by rw [unhide HBS]; omega)); have HKf := hide ((unhide HKaa).narrow hst.2 (fun q e => by omega)); have s0 := hst.1.1; have s1 := hst.1.2.1; clear hst hz hk1)
            | (have HKf := hide ((unhide HKaa).alloc (.cells #[.int .i64 T, .bool O] 80)); clear hk1))
          | (refine (unhide (HEX (w3.alloc (.cells #[.int .i64 0, .bool false] 80)) j mb nn tab ((unhide HJ).keepF ((Keeps.refl _ w3).alloc _)) ((unhide HSc).keepF ((Keeps.refl _ w3).alloc _)))).mono ?_; rintro e w4 ⟨rfl, hk1⟩; have hz := zero_at w3.heap.size rfl hk1; have HKd := hide ((unhide HKc).trans (((Keeps.refl _ w3).alloc _).trans hk1)); have HKaa := hide (((unhide HKa).trans (unhide HKx)).trans (((Keeps.refl _ w3).alloc _).trans hk1)); have m0 := cell_of_blk hz 0; have m1 := cell_of_blk hz 1; simp at m0 m1; have g0 := frozen_of_blk hz 0; have g1 := frozen_of_blk hz 1; have hst := set2 hz (.int .i64 T) (.bool O); have hsx := (unhide HKx).size; have HKe := hide ((unhide HKd).narrow hst.2 (fun q e => by rw [unhide HBS]; omega)); have HKf := hide ((unhide HKaa).narrow hst.2 (fun q e => by omega)); have s0 := hst.1.1; have s1 := hst.1.2.1; clear hst hz hk1))))
    all_goals go_wp2_with fail
    all_goals (refine bodyPost_ret (v := .tuple #[.int .i64 0, .bool false, .int .i64 E]) (by simp [results, go_sem]) rfl ?_; exact ⟨rfl, unhide HKf⟩)

set_option maxRecDepth 100000 in
set_option maxHeartbeats 2000000 in
theorem type_bad (Z : Zone) (S : List FieldA) (op n : Int) (s : Txt) (kids : EL) (hsz : kids.size + 1 ≤ 4294967294) (sv xv : Value) (w : World) (up : Nat) (hT : Types w) (hF : Forms w) (hf : FldsAt w sv S) (hx : SlE Z w up xv kids) (E : Int) (hE : E ≠ 0)
    (h : schemaB S = false ∧ E = 60 ∨ schemaB S = true ∧ checkE (.cons op n s kids .nil) = E) :
    Calls Tryz.prog 16 #[.agg #[sv], exV op n s xv] w fun e w' => e = .returned (.tuple #[.int .i64 0, .bool false, .int .i64 E]) ∧ Keeps (fun _ => False) w w' := by
  obtain ⟨ao, cap, rfl, hc⟩ := hx.head
  obtain ⟨so, sc, rfl⟩ := RowAt.form hf
  have HK0 : Hid (Keeps (fun _ => False) w ((w.alloc (.cells #[.slice so S.length sc] 24)).alloc (.cells #[.int .i64 op, .int .i64 n, str s, .slice ao kids.len cap] 57))) := ((Keeps.refl _ w).alloc _).alloc _
  have e1 : (w.alloc (.cells #[.slice so S.length sc] 24)).heap.size = w.heap.size + 1 := by simp
  have hb0 : ((w.alloc (.cells #[.slice so S.length sc] 24)).alloc (.cells #[.int .i64 op, .int .i64 n, str s, .slice ao kids.len cap] 57)).heap[w.heap.size]? = some (.cells #[.slice so S.length sc] 24 (0, 0)) := (((Keeps.refl (fun _ => False) _).alloc _).block _ (by rw [e1]; omega) id).trans (heap_alloc_new w _)
  have hb1 : ((w.alloc (.cells #[.slice so S.length sc] 24)).alloc (.cells #[.int .i64 op, .int .i64 n, str s, .slice ao kids.len cap] 57)).heap[w.heap.size + 1]? = some (.cells #[.int .i64 op, .int .i64 n, str s, .slice ao kids.len cap] 57 (0, 0)) := by
    have := heap_alloc_new (w.alloc (.cells #[.slice so S.length sc] 24)) (.cells #[.int .i64 op, .int .i64 n, str s, .slice ao kids.len cap] 57)
    rw [e1] at this
    exact this
  have SB : ∀ w' : World, Keeps (fun _ => False) ((w.alloc (.cells #[.slice so S.length sc] 24)).alloc (.cells #[.int .i64 op, .int .i64 n, str s, .slice ao kids.len cap] 57)) w' → w'.cell? ⟨w.heap.size, 0, none⟩ = some (.slice so S.length sc) ∧ w'.cell? ⟨w.heap.size + 1, 0, none⟩ = some (.int .i64 op) ∧ w'.cell? ⟨w.heap.size + 1, 1, none⟩ = some (.int .i64 n) ∧ w'.cell? ⟨w.heap.size + 1, 2, none⟩ = some (str s) ∧ w'.cell? ⟨w.heap.size + 1, 3, none⟩ = some (.slice ao kids.len cap) := fun w' hk => by
    have k0 := (hk.block _ (lt_of_block hb0) id).trans hb0
    have k1 := (hk.block _ (lt_of_block hb1) id).trans hb1
    exact ⟨by rw [cell_of_blk k0]; rfl, by rw [cell_of_blk k1]; rfl, by rw [cell_of_blk k1]; rfl, by rw [cell_of_blk k1]; rfl, by rw [cell_of_blk k1]; rfl⟩
  have y := SB _ (Keeps.refl _ _)
  have HSB := hide SB
  have HCS := fun w' (hk : Keeps (fun _ => False) w w') => hide (checkSchema_v S (.slice so S.length sc) w' (hT.keepF hk) (hf.keepF hk))
  have HCE := fun w' (hk : Keeps (fun _ => False) w w') => hide (checkExpr_v Z op n s kids hsz w' up (.slice ao kids.len cap) (hF.keepF hk) (hx.keepF hk))
  clear hT hF hf hx SB hb0 hb1 e1
  rcases h with ⟨h1, rfl⟩ | ⟨h1, h2⟩
  · rw [errS_bad h1] at HCS
    clear h1 HCE
    go_enter Tryz.func16, Tryz.ntmps16
    go_wp2_with (go_at_call 29; refine (unhide (HCS _ (unhide HK0))).mono ?_; rintro e w1 ⟨rfl, hk1⟩; have HKa := hide ((unhide HK0).trans hk1); clear hk1)
    refine bodyPost_ret (v := .tuple #[.int .i64 0, .bool false, .int .i64 60]) (by simp [results, go_sem]) rfl ?_
    exact ⟨rfl, unhide HKa⟩
  · rw [errS_good h1] at HCS
    rw [h2] at HCE
    have n0 : (E != 0) = true := by simpa using hE
    clear h1 h2 hE
    go_enter Tryz.func16, Tryz.ntmps16
    go_wp2_with (first
      | (go_at_call 29; refine (unhide (HCS _ (unhide HK0))).mono ?_; rintro e w1 ⟨rfl, hk1⟩; have HKa := hide ((unhide HK0).trans hk1); have y1 := unhide HSB _ hk1; clear hk1)
      | (go_at_call 36; refine (unhide (HCE _ (unhide HKa))).mono ?_; rintro e w2 ⟨rfl, hk1⟩; have HKa := hide ((unhide HKa).trans hk1); clear hk1))
    refine bodyPost_ret (v := .tuple #[.int .i64 0, .bool false, .int .i64 E]) (by simp [results, go_sem]) rfl ?_
    exact ⟨rfl, unhide HKa⟩
/-- What Type answers, as a value. -/
abbrev typV (p : Int × Bool × Int) : Value := .tuple #[.int .i64 p.1, .bool p.2.1, .int .i64 p.2.2]
theorem type_v (Z : Zone) (S : List FieldA) (op n : Int) (s : Txt) (kids : EL) (hsz : kids.size + 1 ≤ 4294967294) (sv xv : Value) (w : World) (up : Nat) (hT : Types w) (hF : Forms w) (hf : FldsAt w sv S) (hx : SlE Z w up xv kids) :
    Calls Tryz.prog 16 #[.agg #[sv], exV op n s xv] w fun e w' => e = .returned (typV (typeP S op n s kids)) ∧ Keeps (fun _ => False) w w' := by
  unfold typeP
  cases hS : schemaB S with
  | false =>
    rw [errS_bad hS]
    exact type_bad Z S op n s kids hsz sv xv w up hT hF hf hx 60 (by decide) (Or.inl ⟨hS, rfl⟩)
  | true =>
    rw [errS_good hS]
    by_cases hE : checkE (.cons op n s kids .nil) = 0
    · have h := type_fit Z S op n s kids hsz sv xv w up hT hF hf hx hS hE (kindP S op s kids).1.t (kindP S op s kids).2 (kindP S op s kids).1.o rfl
      by_cases h0 : (kindP S op s kids).2 = 0
      · simpa [hE, h0] using h
      · simpa [hE, h0] using h
    · simpa [hE] using type_bad Z S op n s kids hsz sv xv w up hT hF hf hx _ hE (Or.inr ⟨hS, rfl⟩)
end Go.Proofs.YtoempeobaknkcaaGreatDoor
namespace Go.Proofs.YtoempeobaknkcaaGreatDoor
open Go.RowKit Go.Maps

theorem refKind_v (Z : Zone) (S : List FieldA) (hS : schemaB S = true) (so : Option Addr) (sc : Nat) (N : Nat) : ∀ (l : EL), l.size < N → ∀ (op n : Int) (s : Txt) (w : World) (up : Nat) (v : Value), SlE Z w up v l → FldsAt w (.slice so S.length sc) S → rootB op n s l.len = true → wellE l = true →
    Calls Tryz.prog 65 #[.agg #[.slice so S.length sc], exV op n s v] w fun e w' => e = .returned (refV (zeroK (kindP S op s l))) ∧ Keeps (fun _ => False) w w' := by
  induction N with
  | zero => intro l h; omega
  | succ N ih =>
    intro l hsz op n s w up v hSl hf hroot hwell
    obtain ⟨m, r, rfl, hm25, hr, hrk, hl3, _⟩ := root_open hroot
    by_cases hm7 : 7 ≤ m
    · exact refKind_big Z S hS so sc l (fun l' hl' => ih l' (by omega)) m n s w up v hf hSl hroot hwell hm7
    · have hm1 : 1 ≤ m := by
        rcases Nat.eq_zero_or_pos m with h | h
        · subst h; cases hr
        · exact h
      have h0 : l.len = 0 := by
        have hb : rootB (m : Int) n s l.len = true := hroot
        unfold rootB at hb
        simp only [Bool.and_eq_true, decide_eq_true_eq] at hb
        have hk := hb.2.1
        unfold kidsB at hk
        rw [if_pos (by omega)] at hk
        omega
      obtain rfl := EL.len0 h0
      obtain ⟨ao, cap, rfl, _⟩ := hSl.head
      have hl8 : S.length ≤ 8 := by
        unfold schemaB at hS
        simp only [Bool.and_eq_true, decide_eq_true_eq] at hS
        exact hS.1.1.1.2
      rw [kindP_leaf]
      by_cases h45 : m = 4 ∨ m = 5
      · exact refKind_field S _ m n s ao _ cap w hf hl8 h45
      · exact refKind_lit S _ m n s ao _ cap w hf (by omega)

end Go.Proofs.YtoempeobaknkcaaGreatDoor
namespace Go.Proofs.YtoempeobaknkcaaGreatDoor
open Go.RowKit Go.Maps

end Go.Proofs.YtoempeobaknkcaaGreatDoor
namespace Go.Proofs.YtoempeobaknkcaaGreatDoor
open Go.RowKit Go.Maps

theorem ExIn.up {w : World} {B A : Nat} (hA : B ≤ A) : ∀ {l : EL} {b o : Nat}, ExIn (argZ B) w l b o → ExIn (argZ A) w l b o
  | .nil, _, _, _ => trivial
  | .cons op n s kids rest, b, o, ⟨h1, h2, h3, h4, h5, ⟨ao, cap, h6, h7, h8⟩, h9⟩ => by
    have hb : b < B := h2
    refine ⟨h1, (by show b < A; omega), h3, h4, h5, ⟨ao, cap, h6, h7, fun h0 => ?_⟩, ExIn.up hA h9⟩
    obtain ⟨b', o', e, _, hr⟩ := h8 h0
    exact ⟨b', o', e, trivial, ExIn.up hA hr⟩
theorem one_arg {w : World} {B A g : Nat} {op n : Int} {s : Txt} {v : Value} {kids : EL} {up c : Nat} (hb : w.heap[g]? = some (.cells #[.int .i64 op, .int .i64 n, str s, v] 57 (0, 0))) (hg : g < A) (hBA : B ≤ A) (hS : SlE (argZ B) w up v kids) (hc : 1 ≤ c) (up' : Nat) :
    SlE (argZ A) w up' (.slice (some ⟨g, 0, none⟩) 1 c) (.cons op n s kids .nil) := by
  obtain ⟨ao, cap, rfl, hl, hr⟩ := hS
  refine ⟨_, c, rfl, hc, fun _ => ⟨g, 0, rfl, trivial, lt_of_block hb, hg, ?_, ?_, ?_, ⟨ao, cap, ?_, hl, fun h0 => ?_⟩, trivial⟩⟩
  all_goals try (rw [cell_of_blk hb]; rfl)
  obtain ⟨b', o', e, _, hr⟩ := hr h0
  exact ⟨b', o', e, trivial, ExIn.up hBA hr⟩
theorem alloc_last (w : World) (o : Obj) {g : Nat} (hg : g = w.heap.size) : (w.alloc o).heap[g]? = some o := by
  subst hg
  exact heap_alloc_new w o


end Go.Proofs.YtoempeobaknkcaaGreatDoor
namespace Go.Proofs.YtoempeobaknkcaaGreatDoor
open Go.ChangeShapes Go.WideShapes Go.ChangeAt Go.RowKit Go.Deep

theorem gTypes : Tryz.prog.globalNamed "arbor/value.types" = some 0 := by kernel_rfl
theorem tTypes : (Tryz.prog.globals[0]?).map (·.type) = some 116 := by kernel_rfl

theorem c92 : Tryz.prog.cellsOf 115 = 2 := by kernel_rfl
theorem c93 : Tryz.prog.cellsOf 116 = 8 := by kernel_rfl

theorem types_el {W : World} {m : Nat} {a b : Value} {x : DataW Unit × List MemPlace} {s : Txt} {n : Int} (h : DataW.trod (fun _ => ()) Tryz.prog W 0 (fun _ => true) false m 115 [a, b] = some x) (hx : x.1 = .agg [.lit (.string s), .lit (.int .i64 n)]) : a = str s ∧ b = .int .i64 n := by
  obtain ⟨xs, k, _, rfl, hl, hlen, hf⟩ := DataW.trod_struct Tryz.underlying115 h
  match xs, hlen with
  | [y0, y1], _ =>
    have h0 : DataW.trod (fun _ => ()) Tryz.prog W 0 (fun _ => true) false k 9 (([a, b].drop 0).take (Tryz.prog.cellsOf 9)) = some y0 := hf 0 _ rfl
    have h1 : DataW.trod (fun _ => ()) Tryz.prog W 0 (fun _ => true) false k 3 (([a, b].drop 1).take (Tryz.prog.cellsOf 3)) = some y1 := hf 1 _ rfl
    rw [e9] at h0
    rw [e3] at h1
    obtain ⟨s', q0, hs', _⟩ := DataW.trod_string Tryz.underlying9 h0
    obtain ⟨n', q1, hn', _⟩ := DataW.trod_int Tryz.underlying3 h1
    simp only [DataW.agg.injEq, List.map_cons, List.map_nil, List.cons.injEq, and_true] at hx
    rw [hs', hn'] at hx
    simp at hx q0 q1
    rw [q0, q1, str_of, hx.1, hx.2]
    exact ⟨rfl, rfl⟩

set_option maxRecDepth 100000 in
theorem types_met {W : World} (h : laidMetH Tryz.prog [("arbor/value.types", Rows.laid_arbor_value_types)] W) : Types W := by
  rw [MakeChecks.laidMetH_plain _ _ _ (by kernel_rfl)] at h
  obtain ⟨ps, ⟨g0, t0, cs0, f0, p0, q0, hg0, ht0, hv0, hd0, _, _⟩, _, _⟩ := h
  obtain rfl := Option.some.inj (gTypes.symm.trans hg0)
  obtain rfl := Option.some.inj (tTypes.symm.trans ht0)
  obtain ⟨xs, m1, rfl, hx1, hlen, hn3, hel⟩ := DataW.trod_array Tryz.underlying116 hd0
  have q := fun j => World.var?_cell hg0 hv0 j
  obtain ⟨cl⟩ := cs0
  have hlen' : cl.length = 8 := hlen.trans c93
  have hel' : ∀ i, i < 4 → DataW.trod (fun _ => ()) Tryz.prog W 0 (fun _ => true) false m1 115 ((cl.drop (i * 2)).take 2) = xs[i]? := fun i hi => by
    have := hel i hi
    rw [c92] at this
    exact this
  clear hel hlen hd0
  match cl, hlen', xs, hn3 with
  | [c0, c1, c2, c3, c4, c5, c6, c7], _, [x0, x1, x2, x3], _ =>
    simp only [Prod.mk.injEq, Rows.laid_arbor_value_types, DataW.agg.injEq, List.map_cons, List.map_nil, List.cons.injEq, and_true] at hx1
    obtain ⟨⟨e0, e1, e2, e3⟩, _⟩ := hx1
    have h0 := types_el (hel' 0 (by decide)) e0.symm
    have h1 := types_el (hel' 1 (by decide)) e1.symm
    have h2 := types_el (hel' 2 (by decide)) e2.symm
    have h3 := types_el (hel' 3 (by decide)) e3.symm
    have hq0 := q 0
    have hlt : 0 < W.heap.size := by
      have := World.block_lt_of_cell? W ⟨0, 0, none⟩ (u := c0) (by rw [hq0]; rfl)
      exact this
    refine ⟨hlt, fun j x hx => ?_⟩
    rw [q j]
    obtain ⟨rfl, rfl⟩ := h0
    obtain ⟨rfl, rfl⟩ := h1
    obtain ⟨rfl, rfl⟩ := h2
    obtain ⟨rfl, rfl⟩ := h3
    exact hx

theorem types_of {W : World} {l : List (String × _)} (hl : l = [("arbor/value.types", Rows.laid_arbor_value_types), ("arbor/syntax.forms", Rows.laid_arbor_syntax_forms)]) (h : laidMetH Tryz.prog l W) : Types W ∧ Forms W := by
  subst hl
  have h1 := h.filter (fun x => x.1 == "arbor/value.types")
  have h2 := h.filter (fun x => x.1 == "arbor/syntax.forms")
  rw [show [("arbor/value.types", Rows.laid_arbor_value_types), ("arbor/syntax.forms", Rows.laid_arbor_syntax_forms)].filter (fun x => x.1 == "arbor/value.types") = [("arbor/value.types", Rows.laid_arbor_value_types)] by rfl] at h1
  rw [show [("arbor/value.types", Rows.laid_arbor_value_types), ("arbor/syntax.forms", Rows.laid_arbor_syntax_forms)].filter (fun x => x.1 == "arbor/syntax.forms") = [("arbor/syntax.forms", Rows.laid_arbor_syntax_forms)] by rfl] at h2
  exact ⟨types_met h1, forms_met h2⟩
theorem e4 : Tryz.prog.cellsOf 4 = 1 := by kernel_rfl
theorem e43 : Tryz.prog.cellsOf 67 = 3 := by kernel_rfl
theorem e24 : Tryz.prog.cellsOf 24 = 1 := by kernel_rfl
theorem b43 : Tryz.prog.bytesOf 67 = 32 := by kernel_rfl
section
variable {H : Type} {enc : TypeId × Value → H} {W : World}
set_option maxRecDepth 100000 in
theorem field_read {fuel : Nat} {cs : List Value} {x : DataW H × List MemPlace} (h : DataW.trod enc Tryz.prog W 0 (fun _ => true) true fuel 67 cs = some x) : ∃ f : FieldA, cs = f.cs := by
  obtain ⟨xs, m, hm, _, hl, hlen, hf⟩ := DataW.trod_struct Tryz.underlying67 h
  have hl' : cs.length = 3 := hl.trans e43
  match xs, hlen, cs, hl' with
  | [y0, y1, y2], _, [c0, c1, c2], _ =>
    have h0 : DataW.trod enc Tryz.prog W 0 (fun _ => true) true m 9 (([c0, c1, c2].drop 0).take (Tryz.prog.cellsOf 9)) = some y0 := hf 0 _ rfl
    have h1 : DataW.trod enc Tryz.prog W 0 (fun _ => true) true m 3 (([c0, c1, c2].drop 1).take (Tryz.prog.cellsOf 3)) = some y1 := hf 1 _ rfl
    have h2 : DataW.trod enc Tryz.prog W 0 (fun _ => true) true m 4 (([c0, c1, c2].drop 2).take (Tryz.prog.cellsOf 4)) = some y2 := hf 2 _ rfl
    rw [e9] at h0
    rw [e3] at h1
    rw [e4] at h2
    simp only [List.drop_zero, List.take_succ_cons, List.take_zero, List.drop_succ_cons] at h0 h1 h2
    obtain ⟨s, q0, _, _⟩ := DataW.trod_string Tryz.underlying9 h0
    obtain ⟨k, q1, _, _⟩ := DataW.trod_int Tryz.underlying3 h1
    obtain ⟨o, q2, _⟩ := DataW.trod_bool Tryz.underlying4 h2
    simp at q0 q1 q2
    exact ⟨⟨s.data.toList, k, o⟩, by rw [q0, q1, q2, str_of]; rfl⟩
end
end Go.Proofs.YtoempeobaknkcaaGreatDoor
namespace Go.Proofs.YtoempeobaknkcaaGreatDoor
open Go.ChangeShapes Go.WideShapes Go.ChangeAt Go.RowKit Go.Deep

instance : Inhabited FieldA := ⟨⟨[], 0, false⟩⟩
theorem fcs_at : ∀ (l : List FieldA) (j : Nat), (fcs l)[j]? = (l[j / 3]?).bind fun x => x.cs[j % 3]?
  | [], j => by simp [fcs]
  | y :: r, j => by
    have e : fcs (y :: r) = y.cs ++ fcs r := rfl
    have hy : y.cs.length = 3 := rfl
    rw [e]
    by_cases h : j < 3
    · rw [List.getElem?_append_left (by rw [hy]; exact h), Nat.div_eq_of_lt h, Nat.mod_eq_of_lt h]
      rfl
    · rw [List.getElem?_append_right (by rw [hy]; omega), hy, fcs_at r (j - 3)]
      have h1 : j / 3 = (j - 3) / 3 + 1 := by omega
      have h2 : j % 3 = (j - 3) % 3 := by omega
      rw [h1, h2]
      rfl
section
variable {H : Type} {enc : TypeId × Value → H} {W : World}
set_option maxRecDepth 100000 in
/-- The schema that came in, with a bound on its length by what it weighs. -/
theorem schema_in {fuel : Nat} {cs : List Value} {x : DataW H × List MemPlace} (h : DataW.trod enc Tryz.prog W 0 (fun _ => true) true fuel 24 cs = some x) (hw : ∀ n ∈ x.1.weights Tryz.prog 24, n ≤ reachBytes) :
    ∃ (sv : Value) (S : List FieldA), cs = [sv] ∧ FldsAt W sv S ∧ S.length + 64 ≤ 4398046511104 := by
  obtain ⟨xs, m, hm, hx, hl, hlen, hf⟩ := DataW.trod_struct Tryz.underlying24 h
  have hl' : cs.length = 1 := hl.trans e24
  match xs, hlen, cs, hl' with
  | [y0], _, [c0], _ =>
    have h0 : DataW.trod enc Tryz.prog W 0 (fun _ => true) true m 22 (([c0].drop 0).take (Tryz.prog.cellsOf 22)) = some y0 := hf 0 _ rfl
    rw [show Tryz.prog.cellsOf 22 = 1 by kernel_rfl] at h0
    simp only [List.drop_zero, List.take_succ_cons, List.take_zero] at h0
    refine ⟨c0, ?_⟩
    have hw0 : ∀ n ∈ y0.1.weights Tryz.prog 22, n ≤ reachBytes := fun n hn => hw n (by
      rw [hx]
      simp only [DataW.weights, Tryz.underlying24, List.map_cons, List.map_nil, DataW.weightsEach, List.append_nil]
      exact hn)
    have hsl := slice_read Tryz.underlying22 e43 (by omega) h0
    rcases DataW.trod_slice Tryz.underlying22 h0 with ⟨hcs, _⟩ | ⟨a, len, cap, elems, rest, n, hn, hcs, hxx, _, hlc, _, hel, _, _, _⟩
    · simp at hcs
      subst hcs
      exact ⟨[], rfl, ⟨⟨_, _, rfl⟩, fun h0 => by simp at h0, fun ao m cap e => by simp at e; omega⟩, by simp⟩
    · have hbound : len + 64 ≤ 4398046511104 := by
        have := hw0 ((elems.length + rest.length) * 32) (by
          rw [hxx]
          simp only [DataW.weights, Tryz.underlying22, List.length_map, b43]
          exact List.mem_cons_self ..)
        unfold reachBytes at this
        omega
      simp at hcs
      subst hcs
      rcases hsl with hn0 | ⟨b, off, len', cap', n', spot, he, hlc', _, hels⟩
      · cases hn0
      · obtain ⟨e1, e2, e3⟩ := Value.slice.inj he
        subst e2 e3
        have e1' := Option.some.inj e1
        subst e1'
        have hev : ∀ i, i < len → ∃ f : FieldA, ∀ j v, f.cs[j]? = some v → W.cell? ⟨b, off + i * 3 + j, none⟩ = some v := fun i hi => by
          obtain ⟨_, _, cs, y, hc, ht, _⟩ := hels i hi
          obtain ⟨f, rfl⟩ := field_read ht
          exact ⟨f, hc⟩
        obtain ⟨f, hff⟩ := choose_lt hev
        refine ⟨(List.range len).map f, rfl, ⟨⟨_, _, by simp; exact ⟨rfl, rfl⟩⟩, fun h0 => ?_, fun ao m cap e => by simp at e; omega⟩, by rw [List.length_map, List.length_range]; exact hbound⟩
        simp at h0
        obtain ⟨rfl, hb, _⟩ := hels 0 h0
        refine ⟨b, off, cap, by simp, hb, fun j v hv => ?_⟩
        rw [fcs_at] at hv
        cases hi : ((List.range len).map f)[j / 3]? with
        | none => rw [hi] at hv; cases hv
        | some p =>
          rw [hi] at hv
          have hil : j / 3 < len := by
            have := (List.getElem?_eq_some_iff.1 hi).1
            simpa using this
          have hpe : f (j / 3) = p := by simpa [hil] using hi
          have := hff (j / 3) hil (j % 3) v (by rw [hpe]; exact hv)
          rw [show off + j = off + j / 3 * 3 + j % 3 by omega]
          exact this
end
end Go.Proofs.YtoempeobaknkcaaGreatDoor
namespace Go.Proofs.YtoempeobaknkcaaGreatDoor
open Go.RowKit Go.Maps

/-- A row's values, with all optional fields there, or away. -/
def rowV (S : List FieldA) (p : Bool) : List ValA := S.map fun f => if f.opt && !p then ⟨0, 0, []⟩ else ⟨f.type, 0, []⟩
end Go.Proofs.YtoempeobaknkcaaGreatDoor
namespace Go.Proofs.YtoempeobaknkcaaGreatDoor
open Go.RowKit Go.Maps

/-- The number of a field. -/
def idxF (S : List FieldA) (nm : Txt) : Option Nat := S.findIdx? fun f => decide (f.name = nm)
/-- The kind of a leaf's value on a row (of these kinds); none: it goes wrong. -/
def leafG (S : List FieldA) (rk : List Int) (op : Int) (s : Txt) : Option Int :=
  if op = 1 then some 1 else if op = 2 ∨ op = 6 then some 2 else if op = 3 then some 3
  else if op = 4 then (idxF S s).bind (fun i => rk[i]?)
  else (fieldOf S s).bind (fun f => if f.opt then some 2 else none)
/-- The first expression's operation and text. -/
def headOp : EL → Int × Txt
  | .nil => (0, [])
  | .cons op _ s _ _ => (op, s)
/-- The kind of what an operation gives. -/
def workG (S : List FieldA) (op : Int) (h : Int × Txt) (ks : List Int) : Option Int :=
  if op = 20 then match ks with
    | [a, b] => if h.1 ≠ 4 then none else (fieldOf S h.2).bind fun f => if f.opt = false ∨ b = 0 then none else if a = 0 ∨ a = b then some b else none
    | _ => none
  else if ks.contains 0 then none
  else if op = 7 then (if ks = [2] then some 2 else none) else if op = 8 then (if ks = [1] then some 1 else none) else if op = 23 then (if ks = [3] then some 1 else none)
  else if op = 9 ∨ op = 10 ∨ op = 11 ∨ op = 21 ∨ op = 22 then (if ks = [1, 1] then some 1 else none) else if op = 24 then (if ks = [3, 3] then some 3 else none)
  else if op = 18 ∨ op = 19 then (if ks = [2, 2] then some 2 else none)
  else if op = 16 ∨ op = 17 then (match ks with | [a, b] => if a = b then some 2 else none | _ => none)
  else if op = 12 ∨ op = 13 ∨ op = 14 ∨ op = 15 then (match ks with | [a, b] => if a = b ∧ a ≠ 2 then some 2 else none | _ => none)
  else match ks with | [a, b, c] => if a = 2 ∧ b = c then some b else none | _ => none
/-- The kinds of a list's values. -/
def goG (S : List FieldA) (rk : List Int) : EL → Option (List Int)
  | .nil => some []
  | .cons op _ s kids rest => (if op ≤ 6 then leafG S rk op s else (goG S rk kids).bind (workG S op (headOp kids))).bind fun t => (goG S rk rest).map (t :: ·)
def nodeG (S : List FieldA) (rk : List Int) (op : Int) (s : Txt) (kids : EL) : Option Int := if op ≤ 6 then leafG S rk op s else (goG S rk kids).bind (workG S op (headOp kids))
theorem goG_cons (S : List FieldA) (rk : List Int) (op n : Int) (s : Txt) (kids rest : EL) : goG S rk (.cons op n s kids rest) = (nodeG S rk op s kids).bind fun t => (goG S rk rest).map (t :: ·) := rfl
/-- The kind of a kind's value on the row with all optional fields absent. -/
def KA.gone (k : KA) : Int := if k.o then 0 else k.t
def rowH (S : List FieldA) : List Int := S.map FieldA.type
def rowG (S : List FieldA) : List Int := S.map fun f => if f.opt then 0 else f.type

def KAs : List KA := [⟨1, false⟩, ⟨2, false⟩, ⟨3, false⟩, ⟨1, true⟩, ⟨2, true⟩, ⟨3, true⟩]
theorem mem_KAs {k : KA} (h : okT k.t) : k ∈ KAs := by
  obtain ⟨t, o⟩ := k
  rcases h with h | h | h
  all_goals
    simp only at h
    subst h
    cases o <;> decide
/-- A rule against what goes wrong, for an operation that is no ??. -/
def agree (op : Int) (ks : List KA) : Bool :=
  if (ruleP [] op [] ks).2 = 0 then decide (workG [] op (0, []) (ks.map KA.t) = some (ruleP [] op [] ks).1.t) && decide (workG [] op (0, []) (ks.map KA.gone) = some (ruleP [] op [] ks).1.t) && !(ruleP [] op [] ks).1.o
  else (decide (workG [] op (0, []) (ks.map KA.t) = none) || decide (workG [] op (0, []) (ks.map KA.gone) = none)) && (decide ((ruleP [] op [] ks).2 = 91) || decide ((ruleP [] op [] ks).2 = 92))
set_option maxRecDepth 100000 in
theorem agree1 : ∀ op ∈ ([7, 8, 23] : List Int), ∀ a ∈ KAs, agree op [a] = true := by decide
set_option maxRecDepth 100000 in
theorem agree2 : ∀ op ∈ ([9, 10, 11, 12, 13, 14, 15, 16, 17, 18, 19, 21, 22, 24] : List Int), ∀ a ∈ KAs, ∀ b ∈ KAs, agree op [a, b] = true := by decide
set_option maxRecDepth 100000 in
theorem agree3 : ∀ a ∈ KAs, ∀ b ∈ KAs, ∀ c ∈ KAs, agree 25 [a, b, c] = true := by decide
theorem workG_nofield (S : List FieldA) (op : Int) (h : Int × Txt) (ks : List Int) (h20 : op ≠ 20) : workG S op h ks = workG [] op (0, []) ks := by
  unfold workG
  rw [if_neg h20, if_neg h20]
end Go.Proofs.YtoempeobaknkcaaGreatDoor
namespace Go.Proofs.YtoempeobaknkcaaGreatDoor
open Go.RowKit Go.Maps

/-- What an operation's two answers tell. -/
def Worked (e : Ending) (o : Option Int) : Prop := ∃ (t : Int) (ok : Bool), e = .returned (.tuple #[.int .i64 t, .bool ok]) ∧ match o with
  | none => ok = false
  | some u => ok = true ∧ t = u
theorem worked_no {t : Int} {e : Ending} (h : e = .returned (.tuple #[.int .i64 t, .bool false])) : Worked e none := ⟨t, false, h, rfl⟩
theorem worked_yes {t : Int} {e : Ending} (h : e = .returned (.tuple #[.int .i64 t, .bool true])) : Worked e (some t) := ⟨t, true, h, rfl, rfl⟩
theorem work_zero {S : List FieldA} {op : Int} {h : Int × Txt} {ks : List Int} (h20 : op ≠ 20) (hc : ks.contains 0 = true) : workG S op h ks = none := by
  unfold workG
  rw [if_neg h20, if_pos hc]
theorem contains_at {ks : List Int} {j : Nat} (h : ks[j]? = some 0) : ks.contains 0 = true := by
  simp
  exact List.mem_of_getElem? h
theorem contains_not {ks : List Int} (h : ∀ i, i < ks.length → ks[i]? ≠ some 0) : ks.contains 0 = false := by
  simp
  intro hm
  obtain ⟨i, hi⟩ := List.mem_iff_getElem?.1 hm
  exact h i (get_lt hi) hi

end Go.Proofs.YtoempeobaknkcaaGreatDoor
namespace Go.Proofs.YtoempeobaknkcaaGreatDoor
open Go.RowKit Go.Maps

end Go.Proofs.YtoempeobaknkcaaGreatDoor
namespace Go.Proofs.YtoempeobaknkcaaGreatDoor
open Go.RowKit Go.Maps

end Go.Proofs.YtoempeobaknkcaaGreatDoor
namespace Go.Proofs.YtoempeobaknkcaaGreatDoor
open Go.RowKit Go.Maps

end Go.Proofs.YtoempeobaknkcaaGreatDoor
namespace Go.Proofs.YtoempeobaknkcaaGreatDoor
open Go.RowKit Go.Maps

end Go.Proofs.YtoempeobaknkcaaGreatDoor
namespace Go.Proofs.YtoempeobaknkcaaGreatDoor
open Go.RowKit Go.Maps

end Go.Proofs.YtoempeobaknkcaaGreatDoor
namespace Go.Proofs.YtoempeobaknkcaaGreatDoor
open Go.RowKit Go.Maps

end Go.Proofs.YtoempeobaknkcaaGreatDoor
namespace Go.Proofs.YtoempeobaknkcaaGreatDoor
open Go.RowKit Go.Maps

theorem kids_of {op n : Int} {s : Txt} {k : Nat} (h : rootB op n s k = true) : (k : Int) = kidsB op := by
  unfold rootB at h
  simp only [Bool.and_eq_true, decide_eq_true_eq] at h
  exact h.2.1
theorem intl1 {ks : List Int} (h : ks.length = 1) : ∃ a, ks = [a] := by
  match ks, h with
  | [a], _ => exact ⟨a, rfl⟩
theorem intl2 {ks : List Int} (h : ks.length = 2) : ∃ a b, ks = [a, b] := by
  match ks, h with
  | [a, b], _ => exact ⟨a, b, rfl⟩
theorem intl3 {ks : List Int} (h : ks.length = 3) : ∃ a b c, ks = [a, b, c] := by
  match ks, h with
  | [a, b, c], _ => exact ⟨a, b, c, rfl⟩
end Go.Proofs.YtoempeobaknkcaaGreatDoor
