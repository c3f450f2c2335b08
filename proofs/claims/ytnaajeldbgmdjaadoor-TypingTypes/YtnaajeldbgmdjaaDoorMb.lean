import Derived.Test.YtnaajeldbgmdjaaDoorMa
import Derived.Test.YtnaajeldbgmdjaaDoorOc
namespace Go.Proofs.YtnaajeldbgmdjaaDoor
open Go.RowKit Go.Maps

set_option maxRecDepth 100000 in
set_option maxHeartbeats 8000000 in
theorem typeOf_v (Z : Zone) (S : List FieldA) (hlS : S.length ≤ 4398046511104) (op n : Int) (s : Txt) (kids : EL) (hsz : kids.size + 1 ≤ 2147483647) (sv xv : Value) (w : World) (up : Nat) (hT : Types w) (hF : Forms w) (hf : FldsAt w sv S) (hx : SlE Z w up xv kids) :
    Calls Tryd.prog 10 #[.agg #[sv], exV op n s xv] w fun e w' => e = .returned (typV (typeP S op n s kids)) ∧ Keeps (fun _ => False) w w' := by
  obtain ⟨ao, cap, rfl, hc⟩ := hx.head
  obtain ⟨so, sc, rfl⟩ := RowAt.form hf
  have HK0 : Hid (Keeps (fun _ => False) w ((w.alloc (.cells #[.slice so S.length sc] 24)).alloc (.cells #[.int .i64 op, .int .i64 n, str s, .slice ao kids.len cap] 27))) := ((Keeps.refl _ w).alloc _).alloc _
  have e1 : (w.alloc (.cells #[.slice so S.length sc] 24)).heap.size = w.heap.size + 1 := by simp
  have hb0 : ((w.alloc (.cells #[.slice so S.length sc] 24)).alloc (.cells #[.int .i64 op, .int .i64 n, str s, .slice ao kids.len cap] 27)).heap[w.heap.size]? = some (.cells #[.slice so S.length sc] 24 (0, 0)) := (((Keeps.refl (fun _ => False) _).alloc _).block _ (by rw [e1]; omega) id).trans (heap_alloc_new w _)
  have hb1 : ((w.alloc (.cells #[.slice so S.length sc] 24)).alloc (.cells #[.int .i64 op, .int .i64 n, str s, .slice ao kids.len cap] 27)).heap[w.heap.size + 1]? = some (.cells #[.int .i64 op, .int .i64 n, str s, .slice ao kids.len cap] 27 (0, 0)) := by
    have := heap_alloc_new (w.alloc (.cells #[.slice so S.length sc] 24)) (.cells #[.int .i64 op, .int .i64 n, str s, .slice ao kids.len cap] 27)
    rw [e1] at this
    exact this
  have SB : ∀ w' : World, Keeps (fun _ => False) ((w.alloc (.cells #[.slice so S.length sc] 24)).alloc (.cells #[.int .i64 op, .int .i64 n, str s, .slice ao kids.len cap] 27)) w' → w'.cell? ⟨w.heap.size, 0, none⟩ = some (.slice so S.length sc) ∧ w'.cell? ⟨w.heap.size + 1, 0, none⟩ = some (.int .i64 op) ∧ w'.cell? ⟨w.heap.size + 1, 1, none⟩ = some (.int .i64 n) ∧ w'.cell? ⟨w.heap.size + 1, 2, none⟩ = some (str s) ∧ w'.cell? ⟨w.heap.size + 1, 3, none⟩ = some (.slice ao kids.len cap) := fun w' hk => by
    have k0 := (hk.block _ (lt_of_block hb0) id).trans hb0
    have k1 := (hk.block _ (lt_of_block hb1) id).trans hb1
    exact ⟨by rw [cell_of_blk k0]; rfl, by rw [cell_of_blk k1]; rfl, by rw [cell_of_blk k1]; rfl, by rw [cell_of_blk k1]; rfl, by rw [cell_of_blk k1]; rfl⟩
  have y := SB _ (Keeps.refl _ _)
  have HSB := hide SB
  have S1 : ∀ (g : Nat) (vo : Option Addr) (vc : Nat) (u w' : World), u.heap[g]? = some (.cells #[.slice vo S.length vc] 24 (0, 0)) → Keeps (fun _ => False) u w' → w'.heap[g]? = some (.cells #[.slice vo S.length vc] 24 (0, 0)) ∧ w'.cell? ⟨g, 0, none⟩ = some (.slice vo S.length vc) := fun g vo vc u w' h hk => by
    have k0 := (hk.block _ (lt_of_block h) id).trans h
    exact ⟨k0, by rw [cell_of_blk k0]; rfl⟩
  have S2 : ∀ (g : Nat) (vo : Option Addr) (vc : Nat) (u w' : World), u.heap[g]? = some (.cells #[.int .i64 op, .int .i64 n, str s, .slice vo kids.len vc] 27 (0, 0)) → Keeps (fun _ => False) u w' → w'.heap[g]? = some (.cells #[.int .i64 op, .int .i64 n, str s, .slice vo kids.len vc] 27 (0, 0)) ∧ w'.cell? ⟨g, 0, none⟩ = some (.int .i64 op) ∧ w'.cell? ⟨g, 1, none⟩ = some (.int .i64 n) ∧ w'.cell? ⟨g, 2, none⟩ = some (str s) ∧ w'.cell? ⟨g, 3, none⟩ = some (.slice vo kids.len vc) := fun g vo vc u w' h hk => by
    have k1 := (hk.block _ (lt_of_block h) id).trans h
    exact ⟨k1, by rw [cell_of_blk k1]; rfl, by rw [cell_of_blk k1]; rfl, by rw [cell_of_blk k1]; rfl, by rw [cell_of_blk k1]; rfl⟩
  have HS1 := hide S1
  have HS2 := hide S2
  have HCP := fun w' (hk : Keeps (fun _ => False) w w') => hide (copySchema_big w' (.slice so S.length sc) S (hf.keepF hk) hlS)
  have HCX := fun w' (hk : Keeps (fun _ => False) w w') => hide (copyExpr_of op n s kids (.slice ao kids.len cap) w' ⟨_, _, rfl⟩ (fun w2 hk2 => copyExprs_v Z (kids.size + 1) kids (by omega) (by omega) w2 up _ (hx.keepF (hk.trans hk2))))
  have HT := hide hT
  have HFM := hide hF
  have HF := hide hf
  have HSX := hide hx
  obtain ⟨⟨T, O, E⟩, hp⟩ : ∃ p, p = typeP S op n s kids := ⟨_, rfl⟩
  rw [← hp]
  have HP := hide hp.symm
  clear hT hF hf hx SB hb0 hb1 e1 S1 S2 hp
  go_enter Tryd.func10, Tryd.ntmps10
  go_wp2_with (first
    | (go_at_call 28; refine (unhide (HCP _ (unhide HK0))).mono ?_; rintro e w1 ⟨v', rfl, hown, hk1⟩; obtain ⟨vo, vc, rfl⟩ := (rowAt_own hown).form; have ha := (Keeps.refl (fun _ => False) w1).alloc (.cells #[.slice vo S.length vc] 24); have HFC := hide (RowAt.keepF (rowAt_own hown) ha : RowAt _ _ S.length (fcs S)); have HB2 := hide (heap_alloc_new w1 (.cells #[.slice vo S.length vc] 24)); have x2 := (unhide HS1 _ vo vc _ _ (unhide HB2) (Keeps.refl _ _)).2; have HKa := hide (((unhide HK0).trans hk1).trans ha); have HKb := hide (hk1.trans ha); have y1 := unhide HSB _ (unhide HKb); clear hown hk1 ha)
    | (go_at_call 29; refine (unhide (HCX _ (unhide HKa))).mono ?_; rintro e w2 ⟨kv, rfl, hs2, hk2⟩; obtain ⟨ko, kc, rfl, hkc⟩ := hs2.head; have ha := (Keeps.refl (fun _ => False) w2).alloc (.cells #[.int .i64 op, .int .i64 n, str s, .slice ko kids.len kc] 27); have HXC := hide (hs2.keepF ha); have HB3 := hide (heap_alloc_new w2 (.cells #[.int .i64 op, .int .i64 n, str s, .slice ko kids.len kc] 27)); have x3 := (unhide HS2 _ ko kc _ _ (unhide HB3) (Keeps.refl _ _)).2; have HBx := hide (unhide HS1 _ vo vc _ _ (unhide HB2) (hk2.trans ha)).1; have x2 := (unhide HS1 _ vo vc _ _ (unhide HB2) (hk2.trans ha)).2; have HFC := hide (RowAt.keepF (unhide HFC) (hk2.trans ha)); have HKa := hide ((unhide HKa).trans (hk2.trans ha)); have HKb := hide ((unhide HKb).trans (hk2.trans ha)); have y2 := unhide HSB _ (unhide HKb); clear hs2 hk2 ha)
    | (go_at_call 30; refine (type_v _ S op n s kids hsz _ _ _ 0 ((unhide HT).keepF (unhide HKa)) ((unhide HFM).keepF (unhide HKa)) (unhide HFC) (unhide HXC)).mono ?_; rintro e w3 ⟨rfl, hk3⟩; rw [unhide HP]; have x2 := (unhide HS1 _ vo vc _ _ (unhide HBx) hk3).2; have HBx := hide (unhide HS1 _ vo vc _ _ (unhide HBx) hk3).1; have x3 := (unhide HS2 _ ko kc _ _ (unhide HB3) hk3).2; have HB3 := hide (unhide HS2 _ ko kc _ _ (unhide HB3) hk3).1; have HFC := hide (RowAt.keepF (unhide HFC) hk3); have HXC := hide ((unhide HXC).keepF hk3); have HKa := hide ((unhide HKa).trans hk3); have HKb := hide ((unhide HKb).trans hk3); have y3 := unhide HSB _ (unhide HKb); clear hk3)
    | (go_at_call 31; refine (eqSchema_any _ _ _ S S (unhide HFC) ((unhide HF).keepF (unhide HKa)) (by unfold maxLen; omega)).mono ?_; rintro e w4 ⟨rfl, hk4⟩; rw [decide_eq_true rfl]; have x3 := (unhide HS2 _ ko kc _ _ (unhide HB3) hk4).2; have HXC := hide ((unhide HXC).keepF hk4); have HKa := hide ((unhide HKa).trans hk4); have HKb := hide ((unhide HKb).trans hk4); have y4 := unhide HSB _ (unhide HKb); clear hk4)
    | (go_at_call 32; refine (eqExpr_same op n s kids.len kids.len kc cap ko ao _ (fun w' hk => eqExprs_same _ Z (kids.size + 1) kids (by omega) (by omega) w' 0 up _ _ ((unhide HXC).keepF hk) ((unhide HSX).keepF ((unhide HKa).trans hk)))).mono ?_; rintro e w5 ⟨rfl, hk5⟩; have HKa := hide ((unhide HKa).trans hk5); clear hk5))
  refine bodyPost_ret (v := .tuple #[.int .i64 T, .bool O, .int .i64 E]) (by simp [results, go_sem]) rfl ?_
  exact ⟨rfl, unhide HKa⟩
end Go.Proofs.YtnaajeldbgmdjaaDoor
