import Derived.Test.YtnaajeldbgmdjaaDoorKi
namespace Go.Proofs.YtnaajeldbgmdjaaDoor
open Go.RowKit Go.Maps

theorem namedJ_led (j mb n : Nat) (S : List FieldA) (hS : (S.map FieldA.name).Nodup) (nm : Txt) (hl : nm.length ≤ 1000) {w : World} (h : MapAt w j mb n S) {R : Nat} {L : List (Nat × Int)} {cur : World} (hL : Led w R L cur) :
    Calls Tryd.prog 106 #[.pointer (some ⟨j, 0, none⟩), str nm] cur fun e w' => e = .returned (.tuple #[.agg #[.int .i64 (namedK S nm).1.t, .bool (namedK S nm).1.o], .int .i64 (namedK S nm).2]) ∧ Led w R L w' :=
  (namedJ_v j mb n S hS nm hl cur (h.keepF hL.kept)).mono fun _ _ ⟨he, hk⟩ => ⟨he, hL.keep hk⟩

set_option maxRecDepth 100000 in
set_option maxHeartbeats 1000000 in
theorem fieldF_v (j mb nn : Nat) (S : List FieldA) (hS : (S.map FieldA.name).Nodup) (op n : Int) (s : Txt) (hl : s.length ≤ 1000) (ao : Option Addr) (xn xc : Nat) (ko : Option Addr) (kn kc : Nat) (w : World) (h : MapAt w j mb nn S) :
    Calls Tryd.prog 90 #[.pointer (some ⟨j, 0, none⟩), .agg #[.int .i64 op, .int .i64 n, str s, .slice ao xn xc], .slice ko kn kc] w fun e w' => e = .returned (kerV (namedK S s)) ∧ Keeps (fun _ => False) w w' := by
  have HL := hide (led_start w #[.int .i64 op, .int .i64 n, str s, .slice ao xn xc] 27)
  have HN := hide (namedJ_led j mb nn S hS s hl h (unhide HL))
  have hk2 : kerV (namedK S s) = .tuple #[.agg #[.int .i64 (namedK S s).1.t, .bool (namedK S s).1.o], .int .i64 (namedK S s).2] := rfl
  rw [hk2]
  generalize (namedK S s).1.t = T at *
  generalize (namedK S s).1.o = O at *
  generalize (namedK S s).2 = E at *
  clear hk2 h
  go_enter Tryd.func90, Tryd.ntmps90
  go_wp2_with (go_at_call 106; refine (unhide HN).mono ?_; rintro e w1 ⟨rfl, hl1⟩; have m0 := cell_of_blk hl1.res 0; have m1 := cell_of_blk hl1.res 1; simp at m0 m1; have g0 := frozen_of_blk hl1.res 0; have g1 := frozen_of_blk hl1.res 1; have HL := hide hl1; clear hl1)
  obtain ⟨⟨s0, s1, _⟩, _⟩ := set2 (unhide HL).res (.int .i64 T) (.bool O)
  refine bodyPost_ret (v := .tuple #[.agg #[.int .i64 T, .bool O], .int .i64 E]) (by simp [results, go_sem, s0, s1]) rfl ?_
  exact ⟨rfl, (unhide HL).done (by omega) _ _⟩

theorem or_keep (es : List Int) (n : Nat) (hn : n = es.length) (hl : es.length ≤ 1000) (cur : World) : Calls Tryd.prog 107 #[.slice (some ⟨cur.heap.size, 0, none⟩) n n] (cur.alloc (.cells (ints es).toArray 29)) fun e w' => e = .returned (.int .i64 (orL es)) ∧ Keeps (fun _ => False) cur w' :=
  (or_v es _ _ (ints_new cur es 29 n hn) hl).mono fun _ _ ⟨he, hw⟩ => ⟨he, by subst hw; exact (Keeps.refl _ _).alloc _⟩
set_option maxRecDepth 100000 in
set_option maxHeartbeats 2000000 in
theorem hasF_v (j mb nn : Nat) (S : List FieldA) (hS : (S.map FieldA.name).Nodup) (op n : Int) (s : Txt) (hl : s.length ≤ 1000) (ao : Option Addr) (xn xc : Nat) (ko : Option Addr) (kn kc : Nat) (w : World) (h : MapAt w j mb nn S) :
    Calls Tryd.prog 91 #[.pointer (some ⟨j, 0, none⟩), .agg #[.int .i64 op, .int .i64 n, str s, .slice ao xn xc], .slice ko kn kc] w fun e w' => e = .returned (kerV (hasK S s)) ∧ Keeps (fun _ => False) w w' := by
  have HL := hide (led_start w #[.int .i64 op, .int .i64 n, str s, .slice ao xn xc] 27)
  have HN := hide (namedJ_led j mb nn S hS s hl h (unhide HL))
  have hk2 : kerV (hasK S s) = .tuple #[.agg #[.int .i64 2, .bool false], .int .i64 (orI (namedK S s).2 (optI ⟨(namedK S s).1.t, (namedK S s).1.o⟩))] := rfl
  rw [hk2]
  generalize (namedK S s).1.t = T at *
  generalize (namedK S s).1.o = O at *
  generalize (namedK S s).2 = E at *
  have hR : w.heap.size ≤ w.heap.size + 1 := Nat.le_succ _
  rw [← orL_two]
  clear hk2 h
  go_enter Tryd.func91, Tryd.ntmps91
  go_wp2_with (go_at_call 106; refine (unhide HN).mono ?_; rintro e w1 ⟨rfl, hl1⟩; have HLO := hide (lt_of_block hl1.res); have HB0 := hide (boxed w1 #[.int .i64 T, .bool O] 90); have HL := hide (hl1.keep ((Keeps.refl _ w1).alloc (.cells #[.int .i64 T, .bool O] 90))); clear hl1)
  have hb0 := unhide HB0
  have hxb := hb0.2.1
  have SK : ∀ w' : World, Keeps (fun _ => False) (w1.alloc (.cells #[.int .i64 T, .bool O] 90)) w' → w'.cell? ⟨w1.heap.size, 0, none⟩ = some (.int .i64 T) ∧ w'.cell? ⟨w1.heap.size, 1, none⟩ = some (.bool O) := fun w' hk =>
    ⟨(hk.cell hxb id).trans (hb0.2.2 0 (.int .i64 T) rfl), (hk.cell hxb id).trans (hb0.2.2 1 (.bool O) rfl)⟩
  have HSK := hide SK
  have HKB : Hid (Keeps (fun _ => False) (w1.alloc (.cells #[.int .i64 T, .bool O] 90)) (w1.alloc (.cells #[.int .i64 T, .bool O] 90))) := Keeps.refl _ _
  have hlo : w.heap.size + 1 < w1.heap.size := unhide HLO
  have hlo2 : w.heap.size + 1 < (w1.alloc (.cells #[.int .i64 T, .bool O] 90)).heap.size := Nat.lt_trans hlo hxb
  have hne : ¬ w1.heap.size = w.heap.size + 1 := by omega
  have d := unhide HSK (w1.alloc (.cells #[.int .i64 T, .bool O] 90)).drew (unhide HKB).drew
  clear SK hb0 HB0 HN
  go_region_held3 (fun w' => w'.cell? ⟨w1.heap.size, 0, none⟩ = some (.int .i64 T) ∧ w'.cell? ⟨w1.heap.size, 1, none⟩ = some (.bool O)) (first | with_reducible exact d | with_reducible exact unhide HSK _ (unhide HKB) | with_reducible exact unhide HSK _ ((unhide HKB).alloc _) | with_reducible exact t0)
    ((first
    | (go_at_call 105; refine (plain_v 2 _).mono ?_; rintro e w2 ⟨rfl, hk1⟩; have HL := hide ((unhide HL).keep ((Keeps.refl _ _).drew.trans hk1)); have HKB := hide ((unhide HKB).trans ((Keeps.refl _ _).drew.trans hk1)); clear hk1)
    | (go_at_call 108; refine (isOptional_v ⟨T, O⟩ _).mono ?_; rintro e w3 ⟨rfl, hk1⟩; have HL := hide ((unhide HL).keep hk1); have HKB := hide ((unhide HKB).trans hk1); clear hk1)
    | (go_at_call 107; refine (or_keep [E, optI ⟨T, O⟩] 2 rfl (by simp) _).mono ?_; rintro e w4 ⟨rfl, hk1⟩; have HL := hide ((unhide HL).keep hk1); have HKB := hide ((unhide HKB).trans hk1); have m0 := cell_of_blk (unhide HL).res 0; have m1 := cell_of_blk (unhide HL).res 1; simp at m0 m1; have g0 := frozen_of_blk (unhide HL).res 0; have g1 := frozen_of_blk (unhide HL).res 1; have hx4 := Nat.lt_of_lt_of_le hxb (unhide HKB).size; have t0 : ((w4.setCell ⟨w.heap.size + 1, 0, none⟩ (.int .i64 2)).setCell ⟨w.heap.size + 1, 1, none⟩ (.bool false)).cell? ⟨w1.heap.size, 0, none⟩ = some (.int .i64 T) ∧ ((w4.setCell ⟨w.heap.size + 1, 0, none⟩ (.int .i64 2)).setCell ⟨w.heap.size + 1, 1, none⟩ (.bool false)).cell? ⟨w1.heap.size, 1, none⟩ = some (.bool O) := ⟨((keeps_set2 w4 (w.heap.size + 1) _ _).cell hx4 hne).trans (unhide HSK _ (unhide HKB)).1, ((keeps_set2 w4 (w.heap.size + 1) _ _).cell hx4 hne).trans (unhide HSK _ (unhide HKB)).2⟩; clear hk1)))
  all_goals go_wp2_with fail
  all_goals (obtain ⟨⟨s0, s1, _⟩, _⟩ := set2 (unhide HL).res (.int .i64 2) (.bool false); refine bodyPost_ret (v := .tuple #[.agg #[.int .i64 2, .bool false], .int .i64 (orL [E, optI ⟨T, O⟩])]) (by simp [results, go_sem, s0, s1]) rfl ?_; exact ⟨rfl, (unhide HL).done (by omega) _ _⟩)
end Go.Proofs.YtnaajeldbgmdjaaDoor
