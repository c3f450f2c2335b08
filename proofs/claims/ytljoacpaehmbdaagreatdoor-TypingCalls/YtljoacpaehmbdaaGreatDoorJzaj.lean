import Derived.Test.YtljoacpaehmbdaaGreatDoorJzad
import Derived.Test.YtljoacpaehmbdaaGreatDoorJac
import Derived.Test.YtljoacpaehmbdaaGreatDoorJan
import Derived.Test.YtljoacpaehmbdaaGreatDoorKm
import Derived.Test.YtljoacpaehmbdaaGreatDoorJzai
import Derived.Test.YtljoacpaehmbdaaGreatDoorJzab
namespace Go.Proofs.YtljoacpaehmbdaaGreatDoor
open Go.RowKit Go.Maps
set_option maxRecDepth 100000 in
set_option maxHeartbeats 800000 in
theorem checkExpr_v (Z : Zone) (op n : Int) (s : Txt) (kids : EL) (hsz : kids.size + 1 ≤ 4294967294) (w : World) (up : Nat) (v : Value) (hF : Forms w) (hS : SlE Z w up v kids) :
    Calls Tryz.prog 37 #[exV op n s v] w fun e w' => e = .returned (.int .i64 (checkE (.cons op n s kids .nil))) ∧ Keeps (fun _ => False) w w' := by
  obtain ⟨ao, cap, rfl, hc⟩ := hS.head
  have HK : Hid (Keeps (fun _ => False) w ((w.alloc (.cells #[.int .i64 op, .int .i64 n, str s, .slice ao kids.len cap] 29)).alloc (.cells #[.int .i64 op, .int .i64 n, str s, .slice ao kids.len cap] 29))) := hide (((Keeps.refl _ w).alloc _).alloc _)
  have hg : ((w.alloc (.cells #[.int .i64 op, .int .i64 n, str s, .slice ao kids.len cap] 29)).alloc (.cells #[.int .i64 op, .int .i64 n, str s, .slice ao kids.len cap] 29)).heap[w.heap.size + 1]? = some (.cells #[.int .i64 op, .int .i64 n, str s, .slice ao kids.len cap] 29 (0, 0)) := by
    have h := heap_alloc_new (w.alloc (.cells #[.int .i64 op, .int .i64 n, str s, .slice ao kids.len cap] 29)) (.cells #[.int .i64 op, .int .i64 n, str s, .slice ao kids.len cap] 29)
    simpa using h
  have hone := one_at hg (hS.keepF (unhide HK)) (Nat.le_refl 1) 0
  have hsz' : (EL.cons op n s kids .nil).size ≤ 4294967294 := by simp only [EL.size]; omega
  have HW := hide (exprsWellMade_v anyZ ((EL.cons op n s kids .nil).size + 1) (.cons op n s kids .nil) (by omega) hsz' _ 0 _ (hF.keepF (unhide HK)) hone)
  have HD := fun (w' : World) (hk : Keeps (fun _ => False) _ w') => hide (exprsDepth_v anyZ ((EL.cons op n s kids .nil).size + 1) (.cons op n s kids .nil) (by omega) hsz' w' 0 _ (hone.keepF hk))
  unfold checkE
  clear hF hS hg hone hsz'
  generalize wellE (.cons op n s kids .nil) = bw at HW ⊢
  generalize depthE (.cons op n s kids .nil) = nd at HD ⊢
  cases bw with
  | false =>
    rw [if_pos rfl]
    go_enter Tryz.func37, Tryz.ntmps37
    go_wp2_with (go_at_call 63; refine (unhide HW).mono ?_; rintro e w1 ⟨rfl, hk1⟩)
    go_ret
    exact ⟨rfl, (unhide HK).trans hk1⟩
  | true =>
    rw [if_neg (by simp)]
    by_cases h12 : 12 < nd
    · rw [if_pos h12]
      have g12 : (12 : Int) < (nd : Int) := by omega
      go_enter Tryz.func37, Tryz.ntmps37
      go_wp2_with (first
        | (go_at_call 63; refine (unhide HW).mono ?_; rintro e w1 ⟨rfl, hk1⟩; have HK1 := hide hk1; clear hk1)
        | (go_at_call 64; refine (unhide (HD _ (unhide HK1))).mono ?_; rintro e w2 ⟨rfl, hk2⟩; have HK2 := hide ((unhide HK1).trans hk2); clear hk2))
      go_ret
      exact ⟨rfl, (unhide HK).trans (unhide HK2)⟩
    · rw [if_neg h12]
      have g12 : ¬ (12 : Int) < (nd : Int) := by omega
      go_enter Tryz.func37, Tryz.ntmps37
      go_wp2_with (first
        | (go_at_call 63; refine (unhide HW).mono ?_; rintro e w1 ⟨rfl, hk1⟩; have HK1 := hide hk1; clear hk1)
        | (go_at_call 64; refine (unhide (HD _ (unhide HK1))).mono ?_; rintro e w2 ⟨rfl, hk2⟩; have HK2 := hide ((unhide HK1).trans hk2); clear hk2))
      go_ret
      exact ⟨rfl, (unhide HK).trans (unhide HK2)⟩
end Go.Proofs.YtljoacpaehmbdaaGreatDoor
namespace Go.Proofs.YtljoacpaehmbdaaGreatDoor
open Go.RowKit Go.Maps

theorem RowAt.first {w : World} {a : Option Addr} {n cap m : Nat} {xs ys : List Value} (h : RowAt w (.slice a n cap) n (xs ++ ys)) (hm : m ≤ n) : RowAt w (.slice a m cap) m xs := by
  refine ⟨⟨_, _, rfl⟩, fun h0 => ?_, fun ao m' cap' e => ?_⟩
  · obtain ⟨b, off, cap', e, hb, hc⟩ := h.cells (by omega)
    simp at e
    obtain ⟨rfl, rfl⟩ := e
    exact ⟨b, off, cap, rfl, hb, fun j x hx => hc j x (by rw [List.getElem?_append_left (get_lt hx)]; exact hx)⟩
  · simp at e
    obtain ⟨rfl, rfl, rfl⟩ := e
    have := h.room _ _ _ rfl
    omega
theorem FldsAt.first {w : World} {a : Option Addr} {cap : Nat} {l : List FieldA} (h : FldsAt w (.slice a l.length cap) l) (k : Nat) (hk : k ≤ l.length) : FldsAt w (.slice a k cap) (l.take k) := by
  have e : fcs l = fcs (l.take k) ++ fcs (l.drop k) := by unfold fcs; rw [← List.flatMap_append, List.take_append_drop]
  unfold FldsAt at *
  rw [e] at h
  rw [List.length_take, Nat.min_eq_left hk]
  exact h.first hk

theorem fieldOK_form (f : FieldA) : fieldOK f = (nameB f.name && decide (0 ≤ wideB f.type)) := rfl
theorem namedB_false {l : List FieldA} {nm : Txt} (h : namedB l nm = false) : ∀ g ∈ l, g.name ≠ nm := by
  intro g hg
  have := List.any_eq_false.1 h g hg
  simpa using this
theorem namedB_true {l : List FieldA} {k : Nat} {f : FieldA} (hf : l[k]? = some f) (h : namedB (l.take k) f.name = true) : schemaB l = false := by
  obtain ⟨g, hg, e⟩ := List.any_eq_true.1 h
  simp only [decide_eq_true_eq] at e
  obtain ⟨j, hj⟩ := List.getElem?_of_mem hg
  rw [List.getElem?_take] at hj
  split at hj
  · rename_i hlt
    exact schemaB_twice hf hj hlt e
  · cases hj

set_option maxRecDepth 100000 in
set_option maxHeartbeats 2000000 in
theorem checkSchema_v (l : List FieldA) (v : Value) (w : World) (hT : Types w) (h : FldsAt w v l) :
    Calls Tryz.prog 36 #[.agg #[v]] w fun e w' => e = .returned (.int .i64 (errS l)) ∧ Keeps (fun _ => False) w w' := by
  obtain ⟨ao, cap, rfl⟩ := RowAt.form h
  obtain ⟨HB, hb, hbc⟩ := boxed w #[.slice ao l.length cap] 26
  have hp := hbc 0 (.slice ao l.length cap) rfl
  have HF := hide (h.keepF (unhide HB))
  have HT := hide (hT.keepF (unhide HB))
  clear hbc h hT
  by_cases hl1 : (l.length : Int) < 1
  · have HE : Hid (errS l = 60) := errS_bad (by unfold schemaB; rw [decide_eq_false (show ¬ 1 ≤ l.length by omega)]; simp)
    go_enter Tryz.func36, Tryz.ntmps36
    go_wp2
    go_ret
    exact ⟨ret_int (unhide HE).symm, (Keeps.refl _ _).alloc _⟩
  by_cases hl2 : (8 : Int) < (l.length : Int)
  · have HE : Hid (errS l = 60) := errS_bad (by unfold schemaB; rw [decide_eq_false (show ¬ l.length ≤ 8 by omega)]; simp)
    go_enter Tryz.func36, Tryz.ntmps36
    go_wp2
    go_ret
    exact ⟨ret_int (unhide HE).symm, (Keeps.refl _ _).alloc _⟩
  have hl3 : (1 : Int) ≤ (l.length : Int) := by omega
  have hl4 : (l.length : Int) ≤ 8 := by omega
  clear hl1 hl2
  go_enter Tryz.func36, Tryz.ntmps36
  go_wp2_with fail
  generalize w.alloc (.cells #[.slice ao l.length cap] 26) = w2 at *
  generalize w.heap.size = sb at *
  go_loopw [18] (fun i wr => ∃ k : Nat, k ≤ l.length ∧ i = .int .i64 k ∧ Hid ((l.take k).all fieldOK = true) ∧ Hid ((l.take k).map FieldA.name).Nodup ∧ Keeps (fun _ => False) w2 wr) (fun i _ => l.length - (intOf i).toNat)
  case atStart => exact ⟨0, Nat.zero_le _, rfl, by simp [Hid], by simp [Hid], Keeps.refl _ _⟩
  case round =>
    obtain ⟨k, hk, rfl, HA, HN, hkp⟩ := hrel
    have hp' := (hkp.cell (o := 0) hb id).trans hp
    cases h : l[k]? with
    | none =>
      have h1 := get_ge h
      obtain rfl : k = l.length := by omega
      rw [List.take_length] at HA HN
      have HW := hide (width_v l _ _ ((unhide HT).keepF hkp) ((unhide HF).keepF hkp) (by omega) (unhide HA))
      have HE := hide (schemaB_end (by omega) (by omega) (unhide HA) (unhide HN))
      have HK := hide hkp
      clear hkp h h1
      go_wp2_with fail
      refine (unhide HW).mono ?_
      rintro e w3 ⟨rfl, hk3⟩
      have HK3 := hide hk3
      clear hk3
      by_cases hw : (64 : Int) < widthB l
      · go_wp2_with fail
        go_ret
        exact ⟨ret_int (errS_bad (by rw [unhide HE]; exact decide_eq_false (by omega))).symm, ((unhide HB).trans (unhide HK)).trans (unhide HK3)⟩
      · go_wp2_with fail
        go_ret
        exact ⟨ret_int (errS_good (by rw [unhide HE]; exact decide_eq_true (by omega))).symm, ((unhide HB).trans (unhide HK)).trans (unhide HK3)⟩
    | some f =>
      have h1 := get_lt h
      obtain ⟨b, off, c, e, hbl, hc⟩ := (unhide HF).cells (by omega)
      simp at e
      obtain ⟨rfl, rfl⟩ := e
      have c0 := (hkp.cell hbl id).trans (hc k f h).1
      have c1 := (hkp.cell hbl id).trans (hc k f h).2.1
      have c2 := (hkp.cell hbl id).trans (hc k f h).2.2
      have HH := hide h
      have HK := hide hkp
      obtain ⟨HX, hxb, hxc⟩ := boxed wr #[str f.name, .int .i64 f.type, .bool f.opt] 70
      have x0 := hxc 0 (str f.name) rfl
      have x1 := hxc 1 (.int .i64 f.type) rfl
      have HQ := hide (named_v (l.take k) _ f.name _ ((((((unhide HF).keepF hkp).keepF (unhide HX)).first k hk)).keepF (keeps_drewN _ 1)) (by rw [List.length_take]; omega))
      have hp3 := ((unhide HX).cell (o := 0) (Nat.lt_of_lt_of_le hb hkp.size) id).trans hp'
      have i2 : (k : Int) ≤ (l.length : Int) := by omega
      have HO := hide (fieldOK_form f)
      have hroom : l.length ≤ cap := RowAt.room (unhide HF) _ _ _ rfl
      have i3 : (k : Int) ≤ (cap : Int) := by omega
      have i4 : (0 : Int) ≤ (k : Int) := by omega
      have HX4 := hide (((unhide HK).trans (unhide HX)).drewN 1)
      have hz0 : wr.heap.size < ((wr.alloc (.cells #[str f.name, .int .i64 f.type, .bool f.opt] 70)).drewN 1).heap.size := hxb
      have hz1 : sb < ((wr.alloc (.cells #[str f.name, .int .i64 f.type, .bool f.opt] 70)).drewN 1).heap.size := Nat.lt_of_lt_of_le hb (unhide HX4).size
      clear hkp h hc hxc
      cases hnm : nameB f.name with
      | false =>
        have HE : Hid (errS l = 60) := errS_bad (schemaB_name (List.mem_of_getElem? (unhide HH)) (by rw [unhide HO, hnm]; rfl))
        have HN1 : Hid (∀ w, Calls Tryz.prog 59 #[str f.name] w fun e w' => e = .returned (.bool false) ∧ w' = w) := fun w => by
          have := name_v f.name w
          rw [hnm] at this
          exact this
        clear hnm HO HQ
        go_wp2_with fail
        go_quiet ((go_at_call 59; exact Calls.quiet_of_same (unhide HN1 _)))
        go_wp2_with fail
        go_ret
        exact ⟨ret_int (unhide HE).symm, (unhide HB).trans ((((unhide HK).trans (unhide HX))).drewN _)⟩
      | true =>
        have HN1 : Hid (∀ w, Calls Tryz.prog 59 #[str f.name] w fun e w' => e = .returned (.bool true) ∧ w' = w) := fun w => by
          have := name_v f.name w
          rw [hnm] at this
          exact this
        cases hty : decide (0 ≤ wideB f.type) with
        | false =>
          have HE : Hid (errS l = 60) := errS_bad (schemaB_name (List.mem_of_getElem? (unhide HH)) (by rw [unhide HO, hnm, hty]; rfl))
          have HN2 : Hid (∀ w, Calls Tryz.prog 60 #[.int .i64 f.type] w fun e w' => e = .returned (.bool false) ∧ w' = w) := fun w => by
            have := isType_v f.type w
            rw [hty] at this
            exact this
          clear hnm hty HO HQ
          go_wp2_with fail
          go_quiet ((first | (go_at_call 59; exact Calls.quiet_of_same (unhide HN1 _)) | (go_at_call 60; exact Calls.quiet_of_same (unhide HN2 _))))
          go_wp2_with fail
          go_ret
          exact ⟨ret_int (unhide HE).symm, (unhide HB).trans ((((unhide HK).trans (unhide HX))).drewN _)⟩
        | true =>
          have HN2 : Hid (∀ w, Calls Tryz.prog 60 #[.int .i64 f.type] w fun e w' => e = .returned (.bool true) ∧ w' = w) := fun w => by
            have := isType_v f.type w
            rw [hty] at this
            exact this
          have HFO : Hid (fieldOK f = true) := by show _ = _; rw [unhide HO, hnm, hty]; rfl
          clear hnm hty HO
          go_wp2_with fail
          go_region_held3 (fun w' => w'.cell? ⟨wr.heap.size, 0, none⟩ = some (str f.name) ∧ w'.cell? ⟨wr.heap.size, 1, none⟩ = some (.int .i64 f.type) ∧ w'.cell? ⟨sb, 0, none⟩ = some (.slice (some ⟨b, off, none⟩) l.length cap))
            (go_keep)
            (first
              | (go_at_call 59
                 refine (unhide HN1 _).mono ?_
                 rintro e w4 ⟨rfl, rfl⟩)
              | (go_at_call 60
                 refine (unhide HN2 _).mono ?_
                 rintro e w4 ⟨rfl, rfl⟩)
              | (go_at_call 61
                 refine (unhide HQ).mono ?_
                 rintro e w4 ⟨rfl, hk4⟩
                 have q0 := (hk4.cell (o := 0) hz0 id).trans x0
                 have q1 := (hk4.cell (o := 1) hz0 id).trans x1
                 have q2 := (hk4.cell (o := 0) hz1 id).trans hp3
                 have K4 := hide ((unhide HX4).trans hk4)
                 clear hk4))
          cases hnd : namedB (l.take k) f.name with
          | true =>
            have HE : Hid (errS l = 60) := errS_bad (namedB_true (unhide HH) hnd)
            go_wp2_with fail
            go_ret
            exact ⟨ret_int (unhide HE).symm, (unhide HB).trans (unhide K4)⟩
          | false =>
            have HD := hide (namedB_false hnd)
            go_wp2_with fail
            go_roundw
            case rel =>
              refine ⟨k + 1, by omega, by go_num, ?_, ?_, unhide K4⟩
              · show _ = true
                rw [take_snoc _ _ _ (unhide HH), List.all_append, unhide HA]
                simp [unhide HFO]
              · show List.Nodup _
                rw [take_snoc _ _ _ (unhide HH)]
                exact nodup_snoc (unhide HN) (unhide HD)
            case measure => simp [intOf]; omega

end Go.Proofs.YtljoacpaehmbdaaGreatDoor
namespace Go.Proofs.YtljoacpaehmbdaaGreatDoor
open Go.RowKit Go.Maps

theorem zero_at {X w1 : World} {c0 c1 : Value} {t : TypeId} (H : Nat) (hH : X.heap.size = H) (hk : Keeps (fun _ => False) (X.alloc (.cells #[c0, c1] t)) w1) : w1.heap[H]? = some (.cells #[c0, c1] t (0, 0)) := by
  subst hH
  rw [hk.block _ (by simp) id]
  exact heap_alloc_new X _
theorem zero_atD {X w1 : World} {c0 c1 : Value} {t : TypeId} (H : Nat) (hH : X.heap.size = H) (hk : Keeps (fun _ => False) (X.alloc (.cells #[c0, c1] t)).drew w1) : w1.heap[H]? = some (.cells #[c0, c1] t (0, 0)) := zero_at H hH ((Keeps.refl _ _).drew.trans hk)

set_option maxRecDepth 100000 in
set_option maxHeartbeats 8000000 in
theorem type_fit (Z : Zone) (S : List FieldA) (op n : Int) (s : Txt) (kids : EL) (hsz : kids.size + 1 ≤ 4294967294) (sv xv : Value) (w : World) (up : Nat) (hT : Types w) (hF : Forms w) (hf : FldsAt w sv S) (hx : SlE Z w up xv kids) (hS : schemaB S = true) (hE : checkE (.cons op n s kids .nil) = 0)
    (T E : Int) (O : Bool) (hP : kindP S op s kids = (⟨T, O⟩, E)) :
    Calls Tryz.prog 20 #[.agg #[sv], exV op n s xv] w fun e w' => e = .returned (if E = 0 then .tuple #[.int .i64 T, .bool O, .int .i64 0] else .tuple #[.int .i64 0, .bool false, .int .i64 E]) ∧ Keeps (fun _ => False) w w' := by
  have hwl : wellE (.cons op n s kids .nil) = true := by
    unfold checkE at hE
    split at hE
    · cases hE
    · rename_i h; simpa using h
  simp only [wellE, Bool.and_true, Bool.and_eq_true] at hwl
  obtain ⟨ao, cap, rfl, hc⟩ := hx.head
  obtain ⟨so, sc, rfl⟩ := RowAt.form hf
  have hnd : (S.map FieldA.name).Nodup := by
    unfold schemaB at hS
    simp only [Bool.and_eq_true, decide_eq_true_eq] at hS
    exact hS.1.2
  have HK0 : Hid (Keeps (fun _ => False) w ((w.alloc (.cells #[.slice so S.length sc] 26)).alloc (.cells #[.int .i64 op, .int .i64 n, str s, .slice ao kids.len cap] 29))) := ((Keeps.refl _ w).alloc _).alloc _
  have e1 : (w.alloc (.cells #[.slice so S.length sc] 26)).heap.size = w.heap.size + 1 := by simp
  have e2 : ((w.alloc (.cells #[.slice so S.length sc] 26)).alloc (.cells #[.int .i64 op, .int .i64 n, str s, .slice ao kids.len cap] 29)).heap.size = w.heap.size + 2 := by simp
  have hb0 : ((w.alloc (.cells #[.slice so S.length sc] 26)).alloc (.cells #[.int .i64 op, .int .i64 n, str s, .slice ao kids.len cap] 29)).heap[w.heap.size]? = some (.cells #[.slice so S.length sc] 26 (0, 0)) := (((Keeps.refl (fun _ => False) _).alloc _).block _ (by rw [e1]; omega) id).trans (heap_alloc_new w _)
  have hb1 : ((w.alloc (.cells #[.slice so S.length sc] 26)).alloc (.cells #[.int .i64 op, .int .i64 n, str s, .slice ao kids.len cap] 29)).heap[w.heap.size + 1]? = some (.cells #[.int .i64 op, .int .i64 n, str s, .slice ao kids.len cap] 29 (0, 0)) := by
    have := heap_alloc_new (w.alloc (.cells #[.slice so S.length sc] 26)) (.cells #[.int .i64 op, .int .i64 n, str s, .slice ao kids.len cap] 29)
    rw [e1] at this
    exact this
  have SB : ∀ w' : World, Keeps (fun _ => False) ((w.alloc (.cells #[.slice so S.length sc] 26)).alloc (.cells #[.int .i64 op, .int .i64 n, str s, .slice ao kids.len cap] 29)) w' → w'.cell? ⟨w.heap.size, 0, none⟩ = some (.slice so S.length sc) ∧ w'.cell? ⟨w.heap.size + 1, 0, none⟩ = some (.int .i64 op) ∧ w'.cell? ⟨w.heap.size + 1, 1, none⟩ = some (.int .i64 n) ∧ w'.cell? ⟨w.heap.size + 1, 2, none⟩ = some (str s) ∧ w'.cell? ⟨w.heap.size + 1, 3, none⟩ = some (.slice ao kids.len cap) := fun w' hk => by
    have k0 := (hk.block _ (lt_of_block hb0) id).trans hb0
    have k1 := (hk.block _ (lt_of_block hb1) id).trans hb1
    exact ⟨by rw [cell_of_blk k0]; rfl, by rw [cell_of_blk k1]; rfl, by rw [cell_of_blk k1]; rfl, by rw [cell_of_blk k1]; rfl, by rw [cell_of_blk k1]; rfl⟩
  have y := SB _ (Keeps.refl _ _)
  have HSB := hide SB
  have HCS := fun w' (hk : Keeps (fun _ => False) w w') => hide (checkSchema_v S (.slice so S.length sc) w' (hT.keepF hk) (hf.keepF hk))
  have HCE := fun w' (hk : Keeps (fun _ => False) w w') => hide (checkExpr_v Z op n s kids hsz w' up (.slice ao kids.len cap) (hF.keepF hk) (hx.keepF hk))
  rw [hE] at HCE
  rw [errS_good hS] at HCS
  have HFA := hide hf
  have HSX := hide hx
  have HW1 := hide hwl.1
  have HW2 := hide hwl.2
  have HEX := fun (w' : World) (j mb nn tab : Nat) (hJ : JudgeAt w' j mb nn tab S) (hs : SlE Z w' up (.slice ao kids.len cap) kids) => hide (exprJ_v Z j mb nn tab S hnd (kids.size + 1) kids (by omega) (by omega) op n s w' up (.slice ao kids.len cap) hJ hs hwl.1 hwl.2)
  rw [hP] at HEX
  clear hT hF hf hx hwl SB hb0 hb1 hE hP e1 e2
  by_cases hE0 : E = 0
  · subst hE0
    rw [if_pos rfl]
    go_enter Tryz.func20, Tryz.ntmps20
    go_wp2_with (first
      | (go_at_call 36; refine (unhide (HCS _ (unhide HK0))).mono ?_; rintro e w1 ⟨rfl, hk1⟩; have HKa := hide ((unhide HK0).trans hk1); have HKb := hide hk1; have y1 := unhide HSB _ hk1; clear hk1)
      | (go_at_call 37; refine (unhide (HCE _ (unhide HKa))).mono ?_; rintro e w2 ⟨rfl, hk1⟩; have HKa := hide ((unhide HKa).trans hk1); have HKb := hide ((unhide HKb).trans hk1); have y2 := unhide HSB _ (unhide HKb); clear hk1))
    have hs2 : w.heap.size + 2 ≤ w2.heap.size := by have := (unhide HKb).size; simp at this; omega
    have hbs : ((w.alloc (.cells #[.slice so S.length sc] 26)).alloc (.cells #[.int .i64 op, .int .i64 n, str s, .slice ao kids.len cap] 29)).heap.size = w.heap.size + 2 := by simp
    have HBS := hide hbs
    have FD := (unhide HFA).keepF (unhide HKa).drew
    have FDA := (unhide HFA).keepF ((unhide HKa).alloc (.cells #[.int .i64 0, .bool false] 73)).drew
    clear hbs y y1 y2
    go_region_held3 (fun w' => w'.cell? ⟨w.heap.size, 0, none⟩ = some (.slice so S.length sc) ∧ w'.cell? ⟨w.heap.size + 1, 0, none⟩ = some (.int .i64 op) ∧ w'.cell? ⟨w.heap.size + 1, 1, none⟩ = some (.int .i64 n) ∧ w'.cell? ⟨w.heap.size + 1, 2, none⟩ = some (str s) ∧ w'.cell? ⟨w.heap.size + 1, 3, none⟩ = some (.slice ao kids.len cap))
      (first | with_reducible exact unhide HSB _ (unhide HKe) | with_reducible exact unhide HSB _ (unhide HKd) | with_reducible exact unhide HSB _ ((unhide HKd).alloc _) | with_reducible exact unhide HSB _ (unhide HKc) | with_reducible exact unhide HSB _ ((unhide HKc).alloc _) | with_reducible exact unhide HSB _ (unhide HKb).drew | with_reducible exact unhide HSB _ ((unhide HKb).alloc _).drew)
      ((first
      | (go_at_call 38; refine (newJudge_v S (.slice so S.length sc) _ (by first | with_reducible exact FD | with_reducible exact FDA) hS).mono ?_; rintro e w3 ⟨j, mb, nn, tab, rfl, hJ, _, hk1⟩; have HJ := hide hJ; clear hJ; first
          | (have HKx : Hid (Keeps (fun _ => False) w2 w3) := (by with_reducible exact hide ((Keeps.refl _ w2).drew.trans hk1)); have HKc := hide ((unhide HKb).trans (unhide HKx)); have HSc := hide ((unhide HSX).keepF ((unhide HKa).trans (unhide HKx))); clear hk1)
          | (have HKx : Hid (Keeps (fun _ => False) w2 w3) := hide (((Keeps.refl _ w2).alloc _).drew.trans hk1); have HZ := hide (zero_atD w2.heap.size rfl hk1); have HKc := hide ((unhide HKb).trans (unhide HKx)); have HSc := hide ((unhide HSX).keepF ((unhide HKa).trans (unhide HKx))); clear hk1))
      | (go_at_call 39; first
          | (with_reducible refine (unhide (HEX w3 j mb nn tab (unhide HJ) (unhide HSc))).mono ?_; rintro e w4 ⟨rfl, hk1⟩; have HKd := hide ((unhide HKc).trans hk1); have HKaa := hide (((unhide HKa).trans (unhide HKx)).trans hk1); first
            | (have hz := (hk1.block _ (lt_of_block (unhide HZ)) id).trans (unhide HZ); have m0 := cell_of_blk hz 0; have m1 := cell_of_blk hz 1; simp at m0 m1; have g0 := frozen_of_blk hz 0; have g1 := frozen_of_blk hz 1; have hst := set2 hz (.int .i64 T) (.bool O); have HKe := hide ((unhide HKd).narrow hst.2 (fun q e => by rw [unhide HBS]; omega)); have HKf := hide ((unhide HKaa).narrow hst.2 (fun q e => by omega)); have s0 := hst.1.1; have s1 := hst.1.2.1; clear hst hz hk1)
            | (have HKf := hide ((unhide HKaa).alloc (.cells #[.int .i64 T, .bool O] 73)); clear hk1))
          | (refine (unhide (HEX (w3.alloc (.cells #[.int .i64 0, .bool false] 73)) j mb nn tab ((unhide HJ).keepF ((Keeps.refl _ w3).alloc _)) ((unhide HSc).keepF ((Keeps.refl _ w3).alloc _)))).mono ?_; rintro e w4 ⟨rfl, hk1⟩; have hz := zero_at w3.heap.size rfl hk1; have HKd := hide ((unhide HKc).trans (((Keeps.refl _ w3).alloc _).trans hk1)); have HKaa := hide (((unhide HKa).trans (unhide HKx)).trans (((Keeps.refl _ w3).alloc _).trans hk1)); have m0 := cell_of_blk hz 0; have m1 := cell_of_blk hz 1; simp at m0 m1; have g0 := frozen_of_blk hz 0; have g1 := frozen_of_blk hz 1; have hst := set2 hz (.int .i64 T) (.bool O); have hsx := (unhide HKx).size; have HKe := hide ((unhide HKd).narrow hst.2 (fun q e => by rw [unhide HBS]; omega)); have HKf := hide ((unhide HKaa).narrow hst.2 (fun q e => by omega)); have s0 := hst.1.1; have s1 := hst.1.2.1; clear hst hz hk1))))
    all_goals go_wp2_with fail
    all_goals go_region
    all_goals go_wp2_with fail
    all_goals (refine bodyPost_ret (v := .tuple #[.int .i64 T, .bool O, .int .i64 0]) (by simp [results, go_sem]) rfl ?_; exact ⟨rfl, (unhide HKf).drew⟩)
  · rw [if_neg hE0]
    have n0 : (E != 0) = true := by simpa using hE0
    clear hE0
    go_enter Tryz.func20, Tryz.ntmps20
    go_wp2_with (first
      | (go_at_call 36; refine (unhide (HCS _ (unhide HK0))).mono ?_; rintro e w1 ⟨rfl, hk1⟩; have HKa := hide ((unhide HK0).trans hk1); have HKb := hide hk1; have y1 := unhide HSB _ hk1; clear hk1)
      | (go_at_call 37; refine (unhide (HCE _ (unhide HKa))).mono ?_; rintro e w2 ⟨rfl, hk1⟩; have HKa := hide ((unhide HKa).trans hk1); have HKb := hide ((unhide HKb).trans hk1); have y2 := unhide HSB _ (unhide HKb); clear hk1))
    have hs2 : w.heap.size + 2 ≤ w2.heap.size := by have := (unhide HKb).size; simp at this; omega
    have hbs : ((w.alloc (.cells #[.slice so S.length sc] 26)).alloc (.cells #[.int .i64 op, .int .i64 n, str s, .slice ao kids.len cap] 29)).heap.size = w.heap.size + 2 := by simp
    have HBS := hide hbs
    have FD := (unhide HFA).keepF (unhide HKa).drew
    have FDA := (unhide HFA).keepF ((unhide HKa).alloc (.cells #[.int .i64 0, .bool false] 73)).drew
    clear hbs y y1 y2
    go_region_held3 (fun w' => w'.cell? ⟨w.heap.size, 0, none⟩ = some (.slice so S.length sc) ∧ w'.cell? ⟨w.heap.size + 1, 0, none⟩ = some (.int .i64 op) ∧ w'.cell? ⟨w.heap.size + 1, 1, none⟩ = some (.int .i64 n) ∧ w'.cell? ⟨w.heap.size + 1, 2, none⟩ = some (str s) ∧ w'.cell? ⟨w.heap.size + 1, 3, none⟩ = some (.slice ao kids.len cap))
      (first | with_reducible exact unhide HSB _ (unhide HKe) | with_reducible exact unhide HSB _ (unhide HKd) | with_reducible exact unhide HSB _ ((unhide HKd).alloc _) | with_reducible exact unhide HSB _ (unhide HKc) | with_reducible exact unhide HSB _ ((unhide HKc).alloc _) | with_reducible exact unhide HSB _ (unhide HKb).drew | with_reducible exact unhide HSB _ ((unhide HKb).alloc _).drew)
      ((first
      | (go_at_call 38; refine (newJudge_v S (.slice so S.length sc) _ (by first | with_reducible exact FD | with_reducible exact FDA) hS).mono ?_; rintro e w3 ⟨j, mb, nn, tab, rfl, hJ, _, hk1⟩; have HJ := hide hJ; clear hJ; first
          | (have HKx : Hid (Keeps (fun _ => False) w2 w3) := (by with_reducible exact hide ((Keeps.refl _ w2).drew.trans hk1)); have HKc := hide ((unhide HKb).trans (unhide HKx)); have HSc := hide ((unhide HSX).keepF ((unhide HKa).trans (unhide HKx))); clear hk1)
          | (have HKx : Hid (Keeps (fun _ => False) w2 w3) := hide (((Keeps.refl _ w2).alloc _).drew.trans hk1); have HZ := hide (zero_atD w2.heap.size rfl hk1); have HKc := hide ((unhide HKb).trans (unhide HKx)); have HSc := hide ((unhide HSX).keepF ((unhide HKa).trans (unhide HKx))); clear hk1))
      | (go_at_call 39; first
          | (with_reducible refine (unhide (HEX w3 j mb nn tab (unhide HJ) (unhide HSc))).mono ?_; rintro e w4 ⟨rfl, hk1⟩; have HKd := hide ((unhide HKc).trans hk1); have HKaa := hide (((unhide HKa).trans (unhide HKx)).trans hk1); first
            | (have hz := (hk1.block _ (lt_of_block (unhide HZ)) id).trans (unhide HZ); have m0 := cell_of_blk hz 0; have m1 := cell_of_blk hz 1; simp at m0 m1; have g0 := frozen_of_blk hz 0; have g1 := frozen_of_blk hz 1; have hst := set2 hz (.int .i64 T) (.bool O); have HKe := hide ((unhide HKd).narrow hst.2 (fun q e => by rw [unhide HBS]; omega)); have HKf := hide ((unhide HKaa).narrow hst.2 (fun q e => by omega)); have s0 := hst.1.1; have s1 := hst.1.2.1; clear hst hz hk1)
            | (have HKf := hide ((unhide HKaa).alloc (.cells #[.int .i64 T, .bool O] 73)); clear hk1))
          | (refine (unhide (HEX (w3.alloc (.cells #[.int .i64 0, .bool false] 73)) j mb nn tab ((unhide HJ).keepF ((Keeps.refl _ w3).alloc _)) ((unhide HSc).keepF ((Keeps.refl _ w3).alloc _)))).mono ?_; rintro e w4 ⟨rfl, hk1⟩; have hz := zero_at w3.heap.size rfl hk1; have HKd := hide ((unhide HKc).trans (((Keeps.refl _ w3).alloc _).trans hk1)); have HKaa := hide (((unhide HKa).trans (unhide HKx)).trans (((Keeps.refl _ w3).alloc _).trans hk1)); have m0 := cell_of_blk hz 0; have m1 := cell_of_blk hz 1; simp at m0 m1; have g0 := frozen_of_blk hz 0; have g1 := frozen_of_blk hz 1; have hst := set2 hz (.int .i64 T) (.bool O); have hsx := (unhide HKx).size; have HKe := hide ((unhide HKd).narrow hst.2 (fun q e => by rw [unhide HBS]; omega)); have HKf := hide ((unhide HKaa).narrow hst.2 (fun q e => by omega)); have s0 := hst.1.1; have s1 := hst.1.2.1; clear hst hz hk1))))
    all_goals go_wp2_with fail
    all_goals (refine bodyPost_ret (v := .tuple #[.int .i64 0, .bool false, .int .i64 E]) (by simp [results, go_sem]) rfl ?_; exact ⟨rfl, unhide HKf⟩)

set_option maxRecDepth 100000 in
set_option maxHeartbeats 2000000 in
theorem type_bad (Z : Zone) (S : List FieldA) (op n : Int) (s : Txt) (kids : EL) (hsz : kids.size + 1 ≤ 4294967294) (sv xv : Value) (w : World) (up : Nat) (hT : Types w) (hF : Forms w) (hf : FldsAt w sv S) (hx : SlE Z w up xv kids) (E : Int) (hE : E ≠ 0)
    (h : schemaB S = false ∧ E = 60 ∨ schemaB S = true ∧ checkE (.cons op n s kids .nil) = E) :
    Calls Tryz.prog 20 #[.agg #[sv], exV op n s xv] w fun e w' => e = .returned (.tuple #[.int .i64 0, .bool false, .int .i64 E]) ∧ Keeps (fun _ => False) w w' := by
  obtain ⟨ao, cap, rfl, hc⟩ := hx.head
  obtain ⟨so, sc, rfl⟩ := RowAt.form hf
  have HK0 : Hid (Keeps (fun _ => False) w ((w.alloc (.cells #[.slice so S.length sc] 26)).alloc (.cells #[.int .i64 op, .int .i64 n, str s, .slice ao kids.len cap] 29))) := ((Keeps.refl _ w).alloc _).alloc _
  have e1 : (w.alloc (.cells #[.slice so S.length sc] 26)).heap.size = w.heap.size + 1 := by simp
  have hb0 : ((w.alloc (.cells #[.slice so S.length sc] 26)).alloc (.cells #[.int .i64 op, .int .i64 n, str s, .slice ao kids.len cap] 29)).heap[w.heap.size]? = some (.cells #[.slice so S.length sc] 26 (0, 0)) := (((Keeps.refl (fun _ => False) _).alloc _).block _ (by rw [e1]; omega) id).trans (heap_alloc_new w _)
  have hb1 : ((w.alloc (.cells #[.slice so S.length sc] 26)).alloc (.cells #[.int .i64 op, .int .i64 n, str s, .slice ao kids.len cap] 29)).heap[w.heap.size + 1]? = some (.cells #[.int .i64 op, .int .i64 n, str s, .slice ao kids.len cap] 29 (0, 0)) := by
    have := heap_alloc_new (w.alloc (.cells #[.slice so S.length sc] 26)) (.cells #[.int .i64 op, .int .i64 n, str s, .slice ao kids.len cap] 29)
    rw [e1] at this
    exact this
  have SB : ∀ w' : World, Keeps (fun _ => False) ((w.alloc (.cells #[.slice so S.length sc] 26)).alloc (.cells #[.int .i64 op, .int .i64 n, str s, .slice ao kids.len cap] 29)) w' → w'.cell? ⟨w.heap.size, 0, none⟩ = some (.slice so S.length sc) ∧ w'.cell? ⟨w.heap.size + 1, 0, none⟩ = some (.int .i64 op) ∧ w'.cell? ⟨w.heap.size + 1, 1, none⟩ = some (.int .i64 n) ∧ w'.cell? ⟨w.heap.size + 1, 2, none⟩ = some (str s) ∧ w'.cell? ⟨w.heap.size + 1, 3, none⟩ = some (.slice ao kids.len cap) := fun w' hk => by
    have k0 := (hk.block _ (lt_of_block hb0) id).trans hb0
    have k1 := (hk.block _ (lt_of_block hb1) id).trans hb1
    exact ⟨by rw [cell_of_blk k0]; rfl, by rw [cell_of_blk k1]; rfl, by rw [cell_of_blk k1]; rfl, by rw [cell_of_blk k1]; rfl, by rw [cell_of_blk k1]; rfl⟩
  have y := SB _ (Keeps.refl _ _)
  have HSB := hide SB
  have HCS := fun w' (hk : Keeps (fun _ => False) w w') => hide (checkSchema_v S (.slice so S.length sc) w' (hT.keepF hk) (hf.keepF hk))
  have HCE := fun w' (hk : Keeps (fun _ => False) w w') => hide (checkExpr_v Z op n s kids hsz w' up (.slice ao kids.len cap) (hF.keepF hk) (hx.keepF hk))
  clear hT hF hf hx SB hb0 hb1 e1
  rcases h with ⟨h1, rfl⟩ | ⟨h1, h2⟩
  · rw [errS_bad h1] at HCS
    clear h1 HCE
    go_enter Tryz.func20, Tryz.ntmps20
    go_wp2_with (go_at_call 36; refine (unhide (HCS _ (unhide HK0))).mono ?_; rintro e w1 ⟨rfl, hk1⟩; have HKa := hide ((unhide HK0).trans hk1); clear hk1)
    refine bodyPost_ret (v := .tuple #[.int .i64 0, .bool false, .int .i64 60]) (by simp [results, go_sem]) rfl ?_
    exact ⟨rfl, unhide HKa⟩
  · rw [errS_good h1] at HCS
    rw [h2] at HCE
    have n0 : (E != 0) = true := by simpa using hE
    clear h1 h2 hE
    go_enter Tryz.func20, Tryz.ntmps20
    go_wp2_with (first
      | (go_at_call 36; refine (unhide (HCS _ (unhide HK0))).mono ?_; rintro e w1 ⟨rfl, hk1⟩; have HKa := hide ((unhide HK0).trans hk1); have y1 := unhide HSB _ hk1; clear hk1)
      | (go_at_call 37; refine (unhide (HCE _ (unhide HKa))).mono ?_; rintro e w2 ⟨rfl, hk1⟩; have HKa := hide ((unhide HKa).trans hk1); clear hk1))
    refine bodyPost_ret (v := .tuple #[.int .i64 0, .bool false, .int .i64 E]) (by simp [results, go_sem]) rfl ?_
    exact ⟨rfl, unhide HKa⟩
/-- What Type answers, as a value. -/
abbrev typV (p : Int × Bool × Int) : Value := .tuple #[.int .i64 p.1, .bool p.2.1, .int .i64 p.2.2]
theorem type_v (Z : Zone) (S : List FieldA) (op n : Int) (s : Txt) (kids : EL) (hsz : kids.size + 1 ≤ 4294967294) (sv xv : Value) (w : World) (up : Nat) (hT : Types w) (hF : Forms w) (hf : FldsAt w sv S) (hx : SlE Z w up xv kids) :
    Calls Tryz.prog 20 #[.agg #[sv], exV op n s xv] w fun e w' => e = .returned (typV (typeP S op n s kids)) ∧ Keeps (fun _ => False) w w' := by
  unfold typeP
  cases hS : schemaB S with
  | false =>
    rw [errS_bad hS]
    exact type_bad Z S op n s kids hsz sv xv w up hT hF hf hx 60 (by decide) (Or.inl ⟨hS, rfl⟩)
  | true =>
    rw [errS_good hS]
    by_cases hE : checkE (.cons op n s kids .nil) = 0
    · have h := type_fit Z S op n s kids hsz sv xv w up hT hF hf hx hS hE (kindP S op s kids).1.t (kindP S op s kids).2 (kindP S op s kids).1.o rfl
      by_cases h0 : (kindP S op s kids).2 = 0
      · simpa [hE, h0] using h
      · simpa [hE, h0] using h
    · simpa [hE] using type_bad Z S op n s kids hsz sv xv w up hT hF hf hx _ hE (Or.inr ⟨hS, rfl⟩)
end Go.Proofs.YtljoacpaehmbdaaGreatDoor
namespace Go.Proofs.YtljoacpaehmbdaaGreatDoor
open Go.RowKit Go.Maps

theorem refKind_v (Z : Zone) (S : List FieldA) (hS : schemaB S = true) (so : Option Addr) (sc : Nat) (N : Nat) : ∀ (l : EL), l.size < N → ∀ (op n : Int) (s : Txt) (w : World) (up : Nat) (v : Value), SlE Z w up v l → FldsAt w (.slice so S.length sc) S → rootB op n s l.len = true → wellE l = true →
    Calls Tryz.prog 25 #[.agg #[.slice so S.length sc], exV op n s v] w fun e w' => e = .returned (refV (zeroK (kindP S op s l))) ∧ Keeps (fun _ => False) w w' := by
  induction N with
  | zero => intro l h; omega
  | succ N ih =>
    intro l hsz op n s w up v hSl hf hroot hwell
    obtain ⟨m, r, rfl, hm25, hr, hrk, hl3, _⟩ := root_open hroot
    by_cases hm7 : 7 ≤ m
    · exact refKind_big Z S hS so sc l (fun l' hl' => ih l' (by omega)) m n s w up v hf hSl hroot hwell hm7
    · have hm1 : 1 ≤ m := by
        rcases Nat.eq_zero_or_pos m with h | h
        · subst h; cases hr
        · exact h
      have h0 : l.len = 0 := by
        have hb : rootB (m : Int) n s l.len = true := hroot
        unfold rootB at hb
        simp only [Bool.and_eq_true, decide_eq_true_eq] at hb
        have hk := hb.2.1
        unfold kidsB at hk
        rw [if_pos (by omega)] at hk
        omega
      obtain rfl := EL.len0 h0
      obtain ⟨ao, cap, rfl, _⟩ := hSl.head
      have hl8 : S.length ≤ 8 := by
        unfold schemaB at hS
        simp only [Bool.and_eq_true, decide_eq_true_eq] at hS
        exact hS.1.1.1.2
      rw [kindP_leaf]
      by_cases h45 : m = 4 ∨ m = 5
      · exact refKind_field S _ m n s ao _ cap w hf hl8 h45
      · exact refKind_lit S _ m n s ao _ cap w hf (by omega)

end Go.Proofs.YtljoacpaehmbdaaGreatDoor
namespace Go.Proofs.YtljoacpaehmbdaaGreatDoor
open Go.RowKit Go.Maps

set_option maxRecDepth 100000 in
set_option maxHeartbeats 2000000 in
theorem copySchema_big (w : World) (v : Value) (l : List FieldA) (h : FldsAt w v l) (hl : l.length ≤ 4398046511104) :
    Calls Tryz.prog 18 #[.agg #[v]] w fun e w' => ∃ v', e = .returned (.agg #[v']) ∧ w'.ownsRow w.heap.size 70 3 v' l.length (fcs l) ∧ Keeps (fun _ => False) w w' := by
  obtain ⟨i0, hi, hz0, hz1, hz2⟩ := info_parts Tryz.info70
  obtain ⟨ao, cap, rfl⟩ := RowAt.form h
  obtain ⟨w3, hw3⟩ : ∃ w3, w3 = ((w.alloc (.cells #[.slice ao l.length cap] 26)).alloc (.cells #[.slice none 0 0] 26)).alloc (.cells #[.slice none 0 0] 26) := ⟨_, rfl⟩
  have hK : Keeps (fun _ => False) w w3 := by rw [hw3]; exact (((Keeps.refl _ _).alloc _).alloc _).alloc _
  have hs3 : w3.heap.size = w.heap.size + 3 := by rw [hw3]; simp
  have b0 : w3.heap[w.heap.size]? = some (.cells #[.slice ao l.length cap] 26 (0, 0)) := by
    rw [hw3, Below.heap_alloc _ _ _ (by simp; omega), Below.heap_alloc _ _ _ (by simp)]
    exact heap_alloc_new w _
  have b1 : w3.heap[w.heap.size + 1]? = some (.cells #[.slice none 0 0] 26 (0, 0)) := by
    rw [hw3, Below.heap_alloc _ _ _ (by simp)]
    have := heap_alloc_new (w.alloc (.cells #[.slice ao l.length cap] 26)) (.cells #[.slice none 0 0] 26)
    simpa using this
  have b2 : w3.heap[w.heap.size + 1 + 1]? = some (.cells #[.slice none 0 0] 26 (0, 0)) := by
    rw [hw3]
    have := heap_alloc_new ((w.alloc (.cells #[.slice ao l.length cap] 26)).alloc (.cells #[.slice none 0 0] 26)) (.cells #[.slice none 0 0] 26)
    simpa using this
  have HF := hide (h.keepF hK)
  have HW := hide hw3
  have HK := hide hK
  have HL := hide hl
  have B0 := hide b0
  have B1 := hide b1
  have B2 := hide b2
  have HS := hide hs3
  clear h hw3 hK b0 b1 b2 hs3 hl
  have hl' : l.length ≤ 9223372036854775807 := by have := unhide HL; omega
  go_enter Tryz.func18, Tryz.ntmps18
  go_wp2
  rw [← unhide HW]
  go_loopw [4] (fun i wr => ∃ (k : Nat) (o : Value), k ≤ l.length ∧ i = .int .i64 k ∧ wr.heap[w.heap.size + 1 + 1]? = some (.cells #[o] 26 (0, 0)) ∧ wr.ownsRow w3.heap.size 70 3 o k (fcs (l.take k)) ∧ Keeps (fun q => q = w.heap.size + 1 + 1) w3 wr) (fun i _ => l.length - (intOf i).toNat)
  case atStart => exact ⟨0, _, Nat.zero_le _, rfl, unhide B2, by simpa [fcs] using World.ownsRow_nil w3 w3.heap.size 70 3, Keeps.refl _ _⟩
  case round =>
    obtain ⟨k, o, hk, rfl, hbo, hown, hkp⟩ := hrel
    obtain ⟨oo, oc, rfl⟩ := (rowAt_own hown).form
    have HBo := hide hbo
    have HO := hide hown
    have HP := hide hkp
    have p0 : wr.cell? ⟨w.heap.size, 0, none⟩ = some (.slice ao l.length cap) := (hkp.cell (lt_of_block (unhide B0)) (by show ¬ _ = _; omega)).trans (by rw [cell_of_blk (unhide B0)]; rfl)
    have p2 : wr.cell? ⟨w.heap.size + 1 + 1, 0, none⟩ = some (.slice oo k oc) := by rw [cell_of_blk hbo]; rfl
    have f2 := frozen_of_blk hbo 0
    have z2 := lt_of_block hbo
    have z0 : w.heap.size < wr.heap.size := by omega
    by_cases hlt : k < l.length
    · obtain ⟨b, off, c1, e1, hbl, hc⟩ := (unhide HF).cells (by omega)
      simp at e1
      obtain ⟨rfl, rfl⟩ := e1
      obtain ⟨f, hf⟩ : ∃ f, l[k]? = some f := ⟨_, List.getElem?_eq_getElem hlt⟩
      have hbne : b ≠ w.heap.size + 1 + 1 := by
        rintro rfl
        have h1 := (hc k f hf).2.1
        have h2 := (hc k f hf).2.2
        rw [cell_of_blk (unhide B2)] at h1 h2
        rw [Array.getElem?_eq_none (by simp)] at h2
        cases h2
      have c0 := (hkp.cell hbl (by show ¬ _ = _; omega)).trans (hc k f hf).1
      have c1 := (hkp.cell hbl (by show ¬ _ = _; omega)).trans (hc k f hf).2.1
      have c2 := (hkp.cell hbl (by show ¬ _ = _; omega)).trans (hc k f hf).2.2
      have z1 : b < wr.heap.size := Nat.lt_of_lt_of_le hbl hkp.size
      have HX := hide hf
      have HN := hide (ownsRow_ne hown hbo (by decide))
      have i1 : (k : Int) < (l.length : Int) := by omega
      have i0' : (0 : Int) ≤ (k : Int) := by omega
      clear hc hf hbo hown hkp
      go_wp2_with fail
      go_region_law (first
        | (refine step_append_lies _ (by rfl) _ _ _ (by rfl) w3.heap.size 70 i0 _ 3 32 Tryz.underlying24 hi hz0 hz1 hz2 rfl (by omega) (.slice oo k oc) k (fcs (l.take k)) (by rfl) (((unhide HO).alloc _).drew)
            ⟨wr.heap.size, 0, none⟩ 1 1 f.cs (by rfl) (by rfl) (World.news_of_block (cs := #[str f.name, .int .i64 f.type, .bool f.opt]) (t := 70) (fr := (0, 0)) (by exact heap_alloc_new wr _)) (by simp [Value.oneCell', FieldA.cs])
            (by omega) (by unfold maxLen; omega) (by have := unhide HL; omega) (by have := (unhide HP).size; simp; omega) (wr.heap.size + 1) (by simp) ?_; intro g cap' w5 hown2 hgrow hat hlt2
           have f2' : w5.frozen? ⟨w.heap.size + 1 + 1, 0, none⟩ = false := by (rw [hgrow.frozen_far _ (by simp; omega) (Ne.symm (unhide HN))]; simpa [World.frozen?_alloc_past, z2] using f2)
           have p2' : w5.cell? ⟨w.heap.size + 1 + 1, 0, none⟩ = some (.slice oo k oc) := by (rw [hgrow.cell_far _ (by simp; omega) (Ne.symm (unhide HN))]; simpa [World.cell?_alloc_past, z2] using p2)))
      all_goals
        have hb5 : w5.heap[w.heap.size + 1 + 1]? = some (.cells #[.slice oo k oc] 26 (0, 0)) := by
          rw [hgrow.block (w.heap.size + 1 + 1) (by simp; omega) (Ne.symm (unhide HN))]
          show (wr.alloc _).heap[w.heap.size + 1 + 1]? = _
          rw [Below.heap_alloc _ _ _ z2]
          exact unhide HBo
        have H5 := hide hb5
        have HO2 := hide hown2
        have HG2 := hide hgrow
        clear hb5 hown2 hgrow
        go_wp2
        go_roundw
        case rel =>
          refine ⟨k + 1, .slice (some ⟨g, 0, none⟩) (k + 1) cap', by omega, by go_num, ?_, ?_, ?_⟩
          · rw [heap_setCell_at (unhide H5)]; rfl
          · rw [take_snoc _ _ _ (unhide HX)]
            have h1 : w5.ownsRow w3.heap.size 70 3 (.slice (some ⟨g, 0, none⟩) (k + 1) cap') (k + 1) (fcs (l.take k ++ [f])) := by simpa [fcs] using unhide HO2
            exact ownsRow_kept (F := fun q => q = w.heap.size + 1 + 1) h1 (keeps_set w5 _ 0 _) (fun q e e2 => by subst e2; exact ownsRow_ne h1 (unhide H5) (by decide) e)
          · exact ((((unhide HP).alloc _).drew).grown (unhide HG2) (fun q e hq => by have := ((unhide HO).lt q e).1; omega)).setCell (fun _ => rfl) _
        case measure => simp [intOf]; omega
    · obtain rfl : k = l.length := by omega
      have hb1 : wr.heap[w.heap.size + 1]? = some (.cells #[.slice none 0 0] 26 (0, 0)) := by rw [hkp.block _ (lt_of_block (unhide B1)) (by show ¬ _ = _; omega)]; exact unhide B1
      have p1 : wr.cell? ⟨w.heap.size + 1, 0, none⟩ = some (.slice none 0 0) := by rw [cell_of_blk hb1]; rfl
      have f1 := frozen_of_blk hb1 0
      have H1 := hide hb1
      have HN1 := hide (ownsRow_ne hown hb1 (by decide))
      clear hb1 hown hkp hbo
      go_wp2
      have hq : (wr.setCell ⟨w.heap.size + 1, 0, none⟩ (.slice oo l.length oc)).cell? ⟨w.heap.size + 1, 0, none⟩ = some (.slice oo l.length oc) := by rw [cell_of_blk (heap_setCell_at (unhide H1) _)]; rfl
      refine bodyPost_ret (v := .agg #[.slice oo l.length oc]) (by simp [results, go_sem, hq]) rfl ?_
      refine ⟨.slice oo l.length oc, rfl, ?_, ?_⟩
      · have h1 := unhide HO
        rw [List.take_length] at h1
        exact ownsRow_lower (ownsRow_kept (F := fun q => q = w.heap.size + 1) h1 (keeps_set wr _ 0 _) (fun q e e2 => unhide HN1 (by rw [← e2]; exact e))) (unhide HK).size
      · exact (unhide HK).narrow (F := fun q => q = w.heap.size + 1 + 1 ∨ q = w.heap.size + 1) (((unhide HP).mono (fun q _ h => Or.inl h)).then (keeps_set wr (w.heap.size + 1) 0 _) (fun q _ h => Or.inr h)) (fun q h => by omega)

end Go.Proofs.YtljoacpaehmbdaaGreatDoor
namespace Go.Proofs.YtljoacpaehmbdaaGreatDoor
open Go.RowKit Go.Maps

theorem ExIn.up {w : World} {B A : Nat} (hA : B ≤ A) : ∀ {l : EL} {b o : Nat}, ExIn (argZ B) w l b o → ExIn (argZ A) w l b o
  | .nil, _, _, _ => trivial
  | .cons op n s kids rest, b, o, ⟨h1, h2, h3, h4, h5, ⟨ao, cap, h6, h7, h8⟩, h9⟩ => by
    have hb : b < B := h2
    refine ⟨h1, (by show b < A; omega), h3, h4, h5, ⟨ao, cap, h6, h7, fun h0 => ?_⟩, ExIn.up hA h9⟩
    obtain ⟨b', o', e, _, hr⟩ := h8 h0
    exact ⟨b', o', e, trivial, ExIn.up hA hr⟩
theorem one_arg {w : World} {B A g : Nat} {op n : Int} {s : Txt} {v : Value} {kids : EL} {up c : Nat} (hb : w.heap[g]? = some (.cells #[.int .i64 op, .int .i64 n, str s, v] 29 (0, 0))) (hg : g < A) (hBA : B ≤ A) (hS : SlE (argZ B) w up v kids) (hc : 1 ≤ c) (up' : Nat) :
    SlE (argZ A) w up' (.slice (some ⟨g, 0, none⟩) 1 c) (.cons op n s kids .nil) := by
  obtain ⟨ao, cap, rfl, hl, hr⟩ := hS
  refine ⟨_, c, rfl, hc, fun _ => ⟨g, 0, rfl, trivial, lt_of_block hb, hg, ?_, ?_, ?_, ⟨ao, cap, ?_, hl, fun h0 => ?_⟩, trivial⟩⟩
  all_goals try (rw [cell_of_blk hb]; rfl)
  obtain ⟨b', o', e, _, hr⟩ := hr h0
  exact ⟨b', o', e, trivial, ExIn.up hBA hr⟩
end Go.Proofs.YtljoacpaehmbdaaGreatDoor
