import Derived.Test.YtcfnlnceoalnoaaDoorJt
namespace Go.Proofs.YtcfnlnceoalnoaaDoor
open Go.RowKit Go.Maps
theorem kAlloc (w : World) (o : Obj) : Keeps (fun _ => False) w (w.alloc o) := (Keeps.refl _ _).alloc _
set_option maxRecDepth 100000 in
set_option maxHeartbeats 4000000 in
theorem shape_one (k : Int) (key : Txt) (vo co : Option Addr) (n vc q cc : Nat) (f1 f2 : Bool) (h1 : decide (0 < n) = f1) (h2 : decide (0 < q) = f2) (w : World) (hSh : Shapes w) :
    Calls Tryd.prog 13 #[.agg #[.int .i64 k, str key, .slice vo n vc, .slice co q cc]] w fun e w' => e = .returned (.bool (decide ((k, f1, f2) ∈ shapesL))) ∧ Keeps (fun _ => False) w w' := by
  have s0 : w.cell? ⟨0, 0, none⟩ = some (.int .i64 1) := hSh.cell 0 _ rfl
  have s1 : w.cell? ⟨0, 1, none⟩ = some (.bool true) := hSh.cell 1 _ rfl
  have s2 : w.cell? ⟨0, 2, none⟩ = some (.bool false) := hSh.cell 2 _ rfl
  have s3 : w.cell? ⟨0, 3, none⟩ = some (.int .i64 1) := hSh.cell 3 _ rfl
  have s4 : w.cell? ⟨0, 4, none⟩ = some (.bool false) := hSh.cell 4 _ rfl
  have s5 : w.cell? ⟨0, 5, none⟩ = some (.bool false) := hSh.cell 5 _ rfl
  have s6 : w.cell? ⟨0, 6, none⟩ = some (.int .i64 2) := hSh.cell 6 _ rfl
  have s7 : w.cell? ⟨0, 7, none⟩ = some (.bool false) := hSh.cell 7 _ rfl
  have s8 : w.cell? ⟨0, 8, none⟩ = some (.bool false) := hSh.cell 8 _ rfl
  have s9 : w.cell? ⟨0, 9, none⟩ = some (.int .i64 3) := hSh.cell 9 _ rfl
  have s10 : w.cell? ⟨0, 10, none⟩ = some (.bool false) := hSh.cell 10 _ rfl
  have s11 : w.cell? ⟨0, 11, none⟩ = some (.bool true) := hSh.cell 11 _ rfl
  have s12 : w.cell? ⟨0, 12, none⟩ = some (.int .i64 3) := hSh.cell 12 _ rfl
  have s13 : w.cell? ⟨0, 13, none⟩ = some (.bool false) := hSh.cell 13 _ rfl
  have s14 : w.cell? ⟨0, 14, none⟩ = some (.bool false) := hSh.cell 14 _ rfl
  have hlt := hSh.lt
  have x0 : ∀ w, (Instr.index 55 (.agg #[.int .i64 1, .bool true, .bool false, .int .i64 1, .bool false, .bool false, .int .i64 2, .bool false, .bool false, .int .i64 3, .bool false, .bool true, .int .i64 3, .bool false, .bool false]) (.int .i64 0)).run Tryd.prog w = .ok (.agg #[.int .i64 1, .bool true, .bool false]) w := fun _ => by kernel_rfl
  have x1 : ∀ w, (Instr.index 55 (.agg #[.int .i64 1, .bool true, .bool false, .int .i64 1, .bool false, .bool false, .int .i64 2, .bool false, .bool false, .int .i64 3, .bool false, .bool true, .int .i64 3, .bool false, .bool false]) (.int .i64 1)).run Tryd.prog w = .ok (.agg #[.int .i64 1, .bool false, .bool false]) w := fun _ => by kernel_rfl
  have x2 : ∀ w, (Instr.index 55 (.agg #[.int .i64 1, .bool true, .bool false, .int .i64 1, .bool false, .bool false, .int .i64 2, .bool false, .bool false, .int .i64 3, .bool false, .bool true, .int .i64 3, .bool false, .bool false]) (.int .i64 2)).run Tryd.prog w = .ok (.agg #[.int .i64 2, .bool false, .bool false]) w := fun _ => by kernel_rfl
  have x3 : ∀ w, (Instr.index 55 (.agg #[.int .i64 1, .bool true, .bool false, .int .i64 1, .bool false, .bool false, .int .i64 2, .bool false, .bool false, .int .i64 3, .bool false, .bool true, .int .i64 3, .bool false, .bool false]) (.int .i64 3)).run Tryd.prog w = .ok (.agg #[.int .i64 3, .bool false, .bool true]) w := fun _ => by kernel_rfl
  have x4 : ∀ w, (Instr.index 55 (.agg #[.int .i64 1, .bool true, .bool false, .int .i64 1, .bool false, .bool false, .int .i64 2, .bool false, .bool false, .int .i64 3, .bool false, .bool true, .int .i64 3, .bool false, .bool false]) (.int .i64 4)).run Tryd.prog w = .ok (.agg #[.int .i64 3, .bool false, .bool false]) w := fun _ => by kernel_rfl
  have hK := (kAlloc w (.cells #[.int .i64 k, str key, .slice vo n vc, .slice co q cc] 28)).alloc (.cells #[.int .i64 k, .bool f1, .bool f2] 54)
  have HK := hide hK
  obtain ⟨R, HR⟩ : ∃ R, Hid (decide ((k, f1, f2) ∈ shapesL) = R) := ⟨_, rfl⟩
  rw [unhide HR]
  clear hSh hK
  go_enter Tryd.func13, Tryd.ntmps13
  go_wp2_with fail
  have b1 := heap_alloc_new (w.alloc (.cells #[.int .i64 k, str key, .slice vo n vc, .slice co q cc] 28)) (.cells #[.int .i64 k, .bool f1, .bool f2] 54)
  rw [show (w.alloc (.cells #[.int .i64 k, str key, .slice vo n vc, .slice co q cc] 28)).heap.size = w.heap.size + 1 by simp] at b1
  have HB1 := hide b1
  generalize hW : (w.alloc (.cells #[.int .i64 k, str key, .slice vo n vc, .slice co q cc] 28)).alloc (.cells #[.int .i64 k, .bool f1, .bool f2] 54) = W at *
  clear s0 s1 s2 s3 s4 s5 s6 s7 s8 s9 s10 s11 s12 s13 s14 hlt b1 hW h1 h2
  go_loopw [18] (fun i wr => ∃ j : Nat, j ≤ 5 ∧ i = .int .i64 j ∧ Hid (∀ t, t < j → shapesL[t]? ≠ some (k, f1, f2)) ∧ Keeps (fun _ => False) W wr) (fun i _ => 5 - (intOf i).toNat)
  case atStart => exact ⟨0, by omega, rfl, fun t ht => by omega, Keeps.refl _ _⟩
  case round =>
    obtain ⟨j, hj, rfl, HN, hkp⟩ := hrel
    have hb := (hkp.block _ (lt_of_block (unhide HB1)) id).trans (unhide HB1)
    have c0 : wr.cell? ⟨w.heap.size + 1, 0, none⟩ = some (.int .i64 k) := (cell_of_blk hb _).trans rfl
    have c1 : wr.cell? ⟨w.heap.size + 1, 1, none⟩ = some (.bool f1) := (cell_of_blk hb _).trans rfl
    have c2 : wr.cell? ⟨w.heap.size + 1, 2, none⟩ = some (.bool f2) := (cell_of_blk hb _).trans rfl
    have c3 := lt_of_block hb
    have HKP := hide hkp
    clear hb hkp
    rcases (by omega : j = 0 ∨ j = 1 ∨ j = 2 ∨ j = 3 ∨ j = 4 ∨ j = 5) with rfl | rfl | rfl | rfl | rfl | rfl
    · by_cases he : k = 1 ∧ f1 = true ∧ f2 = false
      · obtain ⟨rfl, rfl, rfl⟩ := he
        have HRT : Hid (R = true) := by show _ = _; rw [← unhide HR]; decide
        go_wp2_with fail
        go_ret
        exact ⟨ret_bool (unhide HRT).symm, (unhide HK).trans ((unhide HKP).alloc _)⟩
      · have HN2 : Hid (∀ t, t < 1 → shapesL[t]? ≠ some (k, f1, f2)) := fun t ht => by
          rcases (by omega : t < 0 ∨ t = 0) with q | rfl
          · exact unhide HN t q
          · intro q
            simp only [shapesL, List.getElem?_cons_zero, Option.some.injEq, Prod.mk.injEq] at q
            exact he ⟨q.1.symm, q.2.1.symm, q.2.2.symm⟩
        have hd : (k == 1 && f1 == true && f2 == false) = false := by
          apply Bool.eq_false_iff.2
          intro q
          simp only [Bool.and_eq_true, beq_iff_eq] at q
          exact he ⟨q.1.1, q.1.2, q.2⟩
        have HE := hide he
        clear he
        cases f1 <;> cases f2
        all_goals
          first
            | (have hk : (k == 1) = false := by simpa using hd
               clear hd
               go_wp2_with fail
               go_roundw
               case rel => exact ⟨1, by omega, rfl, unhide HN2, (unhide HKP).alloc _⟩
               case measure => simp [intOf])
            | (clear hd
               go_wp2_with fail
               go_roundw
               case rel => exact ⟨1, by omega, rfl, unhide HN2, (unhide HKP).alloc _⟩
               case measure => simp [intOf])
    · by_cases he : k = 1 ∧ f1 = false ∧ f2 = false
      · obtain ⟨rfl, rfl, rfl⟩ := he
        have HRT : Hid (R = true) := by show _ = _; rw [← unhide HR]; decide
        go_wp2_with fail
        go_ret
        exact ⟨ret_bool (unhide HRT).symm, (unhide HK).trans ((unhide HKP).alloc _)⟩
      · have HN2 : Hid (∀ t, t < 2 → shapesL[t]? ≠ some (k, f1, f2)) := fun t ht => by
          rcases (by omega : t < 1 ∨ t = 1) with q | rfl
          · exact unhide HN t q
          · intro q
            simp only [shapesL, List.getElem?_cons_zero, List.getElem?_cons_succ, Option.some.injEq, Prod.mk.injEq] at q
            exact he ⟨q.1.symm, q.2.1.symm, q.2.2.symm⟩
        have hd : (k == 1 && f1 == false && f2 == false) = false := by
          apply Bool.eq_false_iff.2
          intro q
          simp only [Bool.and_eq_true, beq_iff_eq] at q
          exact he ⟨q.1.1, q.1.2, q.2⟩
        have HE := hide he
        clear he
        cases f1 <;> cases f2
        all_goals
          first
            | (have hk : (k == 1) = false := by simpa using hd
               clear hd
               go_wp2_with fail
               go_roundw
               case rel => exact ⟨2, by omega, rfl, unhide HN2, (unhide HKP).alloc _⟩
               case measure => simp [intOf])
            | (clear hd
               go_wp2_with fail
               go_roundw
               case rel => exact ⟨2, by omega, rfl, unhide HN2, (unhide HKP).alloc _⟩
               case measure => simp [intOf])
    · by_cases he : k = 2 ∧ f1 = false ∧ f2 = false
      · obtain ⟨rfl, rfl, rfl⟩ := he
        have HRT : Hid (R = true) := by show _ = _; rw [← unhide HR]; decide
        go_wp2_with fail
        go_ret
        exact ⟨ret_bool (unhide HRT).symm, (unhide HK).trans ((unhide HKP).alloc _)⟩
      · have HN2 : Hid (∀ t, t < 3 → shapesL[t]? ≠ some (k, f1, f2)) := fun t ht => by
          rcases (by omega : t < 2 ∨ t = 2) with q | rfl
          · exact unhide HN t q
          · intro q
            simp only [shapesL, List.getElem?_cons_zero, List.getElem?_cons_succ, Option.some.injEq, Prod.mk.injEq] at q
            exact he ⟨q.1.symm, q.2.1.symm, q.2.2.symm⟩
        have hd : (k == 2 && f1 == false && f2 == false) = false := by
          apply Bool.eq_false_iff.2
          intro q
          simp only [Bool.and_eq_true, beq_iff_eq] at q
          exact he ⟨q.1.1, q.1.2, q.2⟩
        have HE := hide he
        clear he
        cases f1 <;> cases f2
        all_goals
          first
            | (have hk : (k == 2) = false := by simpa using hd
               clear hd
               go_wp2_with fail
               go_roundw
               case rel => exact ⟨3, by omega, rfl, unhide HN2, (unhide HKP).alloc _⟩
               case measure => simp [intOf])
            | (clear hd
               go_wp2_with fail
               go_roundw
               case rel => exact ⟨3, by omega, rfl, unhide HN2, (unhide HKP).alloc _⟩
               case measure => simp [intOf])
    · by_cases he : k = 3 ∧ f1 = false ∧ f2 = true
      · obtain ⟨rfl, rfl, rfl⟩ := he
        have HRT : Hid (R = true) := by show _ = _; rw [← unhide HR]; decide
        go_wp2_with fail
        go_ret
        exact ⟨ret_bool (unhide HRT).symm, (unhide HK).trans ((unhide HKP).alloc _)⟩
      · have HN2 : Hid (∀ t, t < 4 → shapesL[t]? ≠ some (k, f1, f2)) := fun t ht => by
          rcases (by omega : t < 3 ∨ t = 3) with q | rfl
          · exact unhide HN t q
          · intro q
            simp only [shapesL, List.getElem?_cons_zero, List.getElem?_cons_succ, Option.some.injEq, Prod.mk.injEq] at q
            exact he ⟨q.1.symm, q.2.1.symm, q.2.2.symm⟩
        have hd : (k == 3 && f1 == false && f2 == true) = false := by
          apply Bool.eq_false_iff.2
          intro q
          simp only [Bool.and_eq_true, beq_iff_eq] at q
          exact he ⟨q.1.1, q.1.2, q.2⟩
        have HE := hide he
        clear he
        cases f1 <;> cases f2
        all_goals
          first
            | (have hk : (k == 3) = false := by simpa using hd
               clear hd
               go_wp2_with fail
               go_roundw
               case rel => exact ⟨4, by omega, rfl, unhide HN2, (unhide HKP).alloc _⟩
               case measure => simp [intOf])
            | (clear hd
               go_wp2_with fail
               go_roundw
               case rel => exact ⟨4, by omega, rfl, unhide HN2, (unhide HKP).alloc _⟩
               case measure => simp [intOf])
    · by_cases he : k = 3 ∧ f1 = false ∧ f2 = false
      · obtain ⟨rfl, rfl, rfl⟩ := he
        have HRT : Hid (R = true) := by show _ = _; rw [← unhide HR]; decide
        go_wp2_with fail
        go_ret
        exact ⟨ret_bool (unhide HRT).symm, (unhide HK).trans ((unhide HKP).alloc _)⟩
      · have HN2 : Hid (∀ t, t < 5 → shapesL[t]? ≠ some (k, f1, f2)) := fun t ht => by
          rcases (by omega : t < 4 ∨ t = 4) with q | rfl
          · exact unhide HN t q
          · intro q
            simp only [shapesL, List.getElem?_cons_zero, List.getElem?_cons_succ, Option.some.injEq, Prod.mk.injEq] at q
            exact he ⟨q.1.symm, q.2.1.symm, q.2.2.symm⟩
        have hd : (k == 3 && f1 == false && f2 == false) = false := by
          apply Bool.eq_false_iff.2
          intro q
          simp only [Bool.and_eq_true, beq_iff_eq] at q
          exact he ⟨q.1.1, q.1.2, q.2⟩
        have HE := hide he
        clear he
        cases f1 <;> cases f2
        all_goals
          first
            | (have hk : (k == 3) = false := by simpa using hd
               clear hd
               go_wp2_with fail
               go_roundw
               case rel => exact ⟨5, by omega, rfl, unhide HN2, (unhide HKP).alloc _⟩
               case measure => simp [intOf])
            | (clear hd
               go_wp2_with fail
               go_roundw
               case rel => exact ⟨5, by omega, rfl, unhide HN2, (unhide HKP).alloc _⟩
               case measure => simp [intOf])
    · have HRF : Hid (R = false) := by
        show _ = _
        rw [← unhide HR, decide_eq_false_iff_not]
        intro hm
        obtain ⟨t, ht⟩ := List.mem_iff_getElem?.1 hm
        have hl : t < 5 := (List.getElem?_eq_some_iff.1 ht).1
        exact unhide HN t hl ht
      go_wp2_with fail
      go_ret
      exact ⟨ret_bool (unhide HRF).symm, (unhide HK).trans (unhide HKP)⟩
end Go.Proofs.YtcfnlnceoalnoaaDoor
