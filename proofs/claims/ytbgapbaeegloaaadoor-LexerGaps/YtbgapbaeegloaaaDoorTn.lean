import Derived.Test.YtbgapbaeegloaaaDoorTm
namespace Go.Proofs.YtbgapbaeegloaaaDoor
open Go.RowKit Go.Maps

theorem join_one (x : TokA) : joinP [x] = if (textB x).2 then ((textB x).1, 0) else ([], 72) := by
  unfold joinP okAll texts
  cases h : (textB x).2 with
  | false => simp [h]
  | true =>
    have h1 := text_le h
    have h2 : ¬ 256 < (textB x).1.length := by omega
    simp [h, jt, h2]
theorem gap_len (k : Int) : (gapB k).length ≤ 9 := (gaps_facts _ (gapB_mem k)).2.2

set_option maxRecDepth 100000 in
set_option maxHeartbeats 8000000 in
theorem lexerGaps_walk (l : List TokA) (v : Value) (gs : List Int) (vg : Value) (w : World) (hE : Env w) (hT : ToksAt w v l) (hG : RowAt w vg gs.length (gs.map fun n => Value.int .i64 n)) (hl : l.length ≤ 3518437208883) (hgl : gs.length ≤ 140737488355328) (hb : ∀ x ∈ l, x.n ≤ 9223372036854775807) :
    Calls Tryd.prog 7 #[v, vg] w fun e w' => e = .returned (.bool true) ∧ Keeps (fun _ => False) w w' := by
  obtain ⟨i0, hi, hz0, hz1, hz2⟩ := info_parts Tryd.info25
  have HE := hide hE
  have HQ0 := hide (lex_v [105, 102] (by decide) w hE)
  rw [show lexP [105, 102] = ([⟨4, [105, 102], 0, 0⟩], 0, 0) by decide +kernel] at HQ0
  simp only [List.length_cons, List.length_nil] at HQ0
  obtain ⟨ao, cap, rfl⟩ := RowAt.form hT
  obtain ⟨go, gcap, rfl⟩ := RowAt.form hG
  have HT := hide hT
  have HG := hide hG
  have HB := hide hb
  clear hE hT hG hb
  go_enter Tryd.func7, Tryd.ntmps7
  go_wp2_with fail
  refine (unhide HQ0).mono ?_
  rintro e w1 ⟨v0, rfl, ho0, hk0⟩
  obtain ⟨ao0, cap0, rfl⟩ := (rowAt_own ho0).form
  have HK1 := hide hk0
  clear ho0 hk0 HQ0
  go_wp2_with fail
  go_loopg [8, 9, 10] (l.length + 1) (fun g sv wv iv wr => ∃ (i : Nat) (A : Txt) (wl : List TokA), i ≤ l.length ∧ l.length + 1 ≤ i + g ∧ iv = .int .i64 i ∧ sv = .string ⟨A.toArray⟩ ∧ A.length ≤ 400 ∧ wr.ownsRow w1.heap.size 25 4 wv i (tcs wl) ∧ Hid (wl.length = i) ∧ Hid (256 < A.length ∨ Reach A wl) ∧ Keeps (fun _ => False) w1 wr)
  case atStart => exact ⟨0, [], [], by omega, by omega, rfl, rfl, by simp, by simpa [tcs] using World.ownsRow_nil w1 w1.heap.size 25 4, rfl, .inr reach_nil, Keeps.refl _ _⟩
  case round =>
    obtain ⟨i, A, wl, hil, hg, rfl, rfl, hA, hown, HWL, HR, hkp⟩ := hrel
    obtain ⟨g0, rfl⟩ : ∃ g', gk = g' + 1 := ⟨gk - 1, by omega⟩
    have HO := hide hown
    have HK := hide hkp
    have HKW := hide ((unhide HK1).trans hkp)
    clear hown hkp
    cases hx : l[i]? with
    | none =>
      have h1 := get_ge hx
      obtain rfl : i = l.length := by omega
      clear hx h1
      have HQ := hide (lex_v A (by omega) wr ((unhide HE).keepF (unhide HKW)))
      by_cases h256 : 256 < A.length
      · have e : lexP A = ([], 70, 0) := by unfold lexP; rw [if_pos h256]
        rw [e] at HQ
        simp only [List.length_nil] at HQ
        have h' : (256 : Int) < (A.length : Int) := by omega
        clear h256 HR e
        go_wp2_with fail
        refine (unhide HQ).mono ?_
        rintro e w5 ⟨v5, rfl, ho5, hk5⟩
        obtain ⟨ao5, cap5, rfl⟩ := (rowAt_own ho5).form
        have HK5 := hide ((unhide HKW).trans hk5)
        clear ho5 hk5 HQ
        go_wp2_with fail
        all_goals
          go_ret
          exact ⟨rfl, unhide HK5⟩
      · have hre : Reach A wl := (unhide HR).resolve_left h256
        have e : lexP A = (wl, 0, 0) := by rw [reach_lex hre, if_neg h256]
        rw [e] at HQ
        simp only at HQ
        have h' : ¬ (256 : Int) < (A.length : Int) := by omega
        clear h256 HR e hre
        go_wp2_with fail
        refine (unhide HQ).mono ?_
        rintro e w5 ⟨v5, rfl, ho5, hk5⟩
        have HT5 : Hid (ToksAt w5 v5 wl) := rowAt_own ho5
        have HW5 : Hid (ToksAt w5 u9 wl) := by
          show RowAt _ _ _ _
          rw [unhide HWL]
          exact rowAt_own (owns_keep (unhide HO) hk5)
        have HEQ := hide (eqTokens_same w5 v5 u9 wl (unhide HT5) (unhide HW5) (by rw [unhide HWL]; omega))
        obtain ⟨ao5, cap5, rfl⟩ := (rowAt_own ho5).form
        have HK5 := hide ((unhide HKW).trans hk5)
        clear ho5 hk5 HQ HT5 HW5
        go_wp2_with fail
        refine (unhide HEQ).mono ?_
        rintro e w6 ⟨rfl, hk6⟩
        have HK6 := hide ((unhide HK5).trans hk6)
        clear hk6 HEQ
        go_wp2_with fail
        all_goals
          go_ret
          exact ⟨rfl, unhide HK6⟩
    | some x =>
      have h1 := get_lt hx
      have hi1 : (i : Int) < (l.length : Int) := by omega
      obtain ⟨b, off, cp, ev, hbl, hc⟩ := (unhide HT).cells (by omega)
      simp at ev
      obtain ⟨rfl, rfl⟩ := ev
      obtain ⟨c0, c1, c2, c3⟩ := hc i x hx
      have d0 := ((unhide HKW).cell hbl id).trans c0
      have d1 := ((unhide HKW).cell hbl id).trans c1
      have d2 := ((unhide HKW).cell hbl id).trans c2
      have d3 := ((unhide HKW).cell hbl id).trans c3
      have hxn := (unhide HB) x (List.mem_of_getElem? hx)
      have HJ := hide (join_v [x] (.slice (some ⟨wr.heap.size, 0, none⟩) 1 1) (wr.alloc (.cells #[.int .i64 x.kind, str x.text, .int .i64 x.n, .int .i64 x.pos] 25)) ((unhide HE).keepF ((unhide HKW).alloc _)).pow (one_tok wr x))
      rw [join_one] at HJ
      have HC0 := hide c0
      have HC1 := hide c1
      have HC2 := hide c2
      have HC3 := hide c3
      clear hc c0 c1 c2 c3 hx
      cases hok : (textB x).2 with
      | false =>
        rw [hok] at HJ
        simp only [Bool.false_eq_true, if_false] at HJ
        clear hok
        go_wp2_with fail
        refine (unhide HJ).mono ?_
        rintro e w4 ⟨rfl, hk4⟩
        have HK4 := hide (((unhide HKW).alloc _).trans hk4)
        clear hk4 HJ
        go_wp2_with fail
        go_ret
        exact ⟨rfl, unhide HK4⟩
      | true =>
        have HRD := hide (tok_back hok hxn)
        have htl := text_le hok
        rw [hok] at HJ
        simp only [if_true] at HJ
        generalize (textB x).1 = X at *
        clear hok hxn
        go_wp2_with fail
        refine (unhide HJ).mono ?_
        rintro e w4 ⟨rfl, hk4⟩
        have hkw4 := ((unhide HKW).alloc _).trans hk4
        have HK4 := hide (((unhide HK).alloc _).trans hk4)
        have HO4 := hide (owns_keep ((unhide HO).alloc _) hk4)
        have f0 := (hkw4.cell hbl id).trans (unhide HC0)
        have f1 := (hkw4.cell hbl id).trans (unhide HC1)
        have f2 := (hkw4.cell hbl id).trans (unhide HC2)
        have f3 := (hkw4.cell hbl id).trans (unhide HC3)
        have hnew := heap_alloc_new (w4.alloc (.cells #[.int .i64 x.kind, str x.text, .int .i64 x.n, .int .i64 (A.length : Int)] 25)) (.cells #[.int .i64 x.kind, str x.text, .int .i64 x.n, .int .i64 (A.length : Int)] 25)
        rw [World.size_alloc] at hnew
        have HNW := hide hnew
        have s4 := (unhide HK4).size
        clear hnew hk4 HJ HO hkw4 d0 d1 d2 d3
        by_cases h256 : 256 < A.length
        · have h' : (256 : Int) < (A.length : Int) := by omega
          go_wp2_with (at_builtin; refine wpList_append_lies _ rfl _ _ _ rfl w1.heap.size 25 i0 _ 4 40 Tryd.underlying22 hi hz0 hz1 hz2 rfl (by omega) u9 i (tcs wl) rfl (((unhide HO4).alloc _).alloc _) ⟨w4.heap.size + 1, 0, none⟩ 1 1 (TokA.cs ⟨x.kind, x.text, x.n, (A.length : Int)⟩) rfl rfl (World.news_of_block (cs := #[.int .i64 x.kind, str x.text, .int .i64 x.n, .int .i64 (A.length : Int)]) (t := 25) (fr := (0, 0)) (unhide HNW)) (by simp [Value.oneCell', TokA.cs]) (by omega) (by unfold maxLen; omega) (by omega) (by simp; omega) (w4.heap.size + 2) (by simp) ?_; intro g cap w5 hown5 hgrow hat hlt5)
          have HO5 : Hid (w5.ownsRow w1.heap.size 25 4 (.slice (some ⟨g, 0, none⟩) (i + 1) cap) (i + 1) (tcs (wl ++ [⟨x.kind, x.text, x.n, (A.length : Int)⟩]))) := by
            have h := hown5
            show World.ownsRow _ _ _ _ _ _ _
            rw [show tcs (wl ++ [⟨x.kind, x.text, x.n, (A.length : Int)⟩]) = tcs wl ++ TokA.cs ⟨x.kind, x.text, x.n, (A.length : Int)⟩ by simp [tcs]]
            exact h
          have HK5 := hide ((((unhide HK4).alloc _).alloc _).grown hgrow (fun q e hq => by have := ((unhide HO4).lt q e).1; omega))
          have HWL5 : Hid ((wl ++ [(⟨x.kind, x.text, x.n, (A.length : Int)⟩ : TokA)]).length = i + 1) := by show _ = _; rw [List.length_append, unhide HWL]; rfl
          clear hown5 hgrow hat hlt5 HO4 HNW
          go_roundg g0
          case rel => exact ⟨i + 1, A, wl ++ [⟨x.kind, x.text, x.n, (A.length : Int)⟩], by omega, by omega, by go_num, rfl, hA, unhide HO5, HWL5, .inl h256, unhide HK5⟩
          case measure => omega
        · have h' : ¬ (256 : Int) < (A.length : Int) := by omega
          have hgl9 := gap_len (i : Int)
          have HRX := hide ((unhide HR).resolve_left h256 |>.tok (unhide HRD) (gapB_mem (i : Int)))
          have HGV := hide (gap_v (i : Int))
          generalize gapB (i : Int) = G at *
          have t1 : ∀ w' : World, (Op.stringOp .add (ByteArray.mk A.toArray) (ByteArray.mk X.toArray)).run Tryd.prog w' = .ok (str (A ++ X)) w' := fun w' => add_str w' A X (by omega)
          have t2 : ∀ w' : World, (Op.stringOp .add (ByteArray.mk (A ++ X).toArray) (ByteArray.mk G.toArray)).run Tryd.prog w' = .ok (str (A ++ X ++ G)) w' := fun w' => add_str w' (A ++ X) G (by simp; omega)
          go_wp2_with (at_builtin; refine wpList_append_lies _ rfl _ _ _ rfl w1.heap.size 25 i0 _ 4 40 Tryd.underlying22 hi hz0 hz1 hz2 rfl (by omega) u9 i (tcs wl) rfl (((unhide HO4).alloc _).alloc _) ⟨w4.heap.size + 1, 0, none⟩ 1 1 (TokA.cs ⟨x.kind, x.text, x.n, (A.length : Int)⟩) rfl rfl (World.news_of_block (cs := #[.int .i64 x.kind, str x.text, .int .i64 x.n, .int .i64 (A.length : Int)]) (t := 25) (fr := (0, 0)) (unhide HNW)) (by simp [Value.oneCell', TokA.cs]) (by omega) (by unfold maxLen; omega) (by omega) (by simp; omega) (w4.heap.size + 2) (by simp) ?_; intro g cap w5 hown5 hgrow hat hlt5)
          have HO5 : Hid (w5.ownsRow w1.heap.size 25 4 (.slice (some ⟨g, 0, none⟩) (i + 1) cap) (i + 1) (tcs (wl ++ [⟨x.kind, x.text, x.n, (A.length : Int)⟩]))) := by
            have h := hown5
            show World.ownsRow _ _ _ _ _ _ _
            rw [show tcs (wl ++ [⟨x.kind, x.text, x.n, (A.length : Int)⟩]) = tcs wl ++ TokA.cs ⟨x.kind, x.text, x.n, (A.length : Int)⟩ by simp [tcs]]
            exact h
          have HK5 := hide ((((unhide HK4).alloc _).alloc _).grown hgrow (fun q e hq => by have := ((unhide HO4).lt q e).1; omega))
          have HWL5 : Hid ((wl ++ [(⟨x.kind, x.text, x.n, (A.length : Int)⟩ : TokA)]).length = i + 1) := by show _ = _; rw [List.length_append, unhide HWL]; rfl
          clear hown5 hgrow hat hlt5 HO4 HNW
          refine (unhide HGV w5).mono ?_
          rintro e w6 ⟨rfl, rfl⟩
          obtain ⟨B, HBB⟩ : ∃ B : Txt, Hid (A ++ X ++ G = B) := ⟨_, hide rfl⟩
          have hBl : B.length ≤ 400 := by rw [← unhide HBB]; simp only [List.length_append]; omega
          rw [unhide HBB] at HRX t2
          have HRB : Hid (256 < B.length ∨ Reach B (wl ++ [⟨x.kind, x.text, x.n, (A.length : Int)⟩])) := .inr (unhide HRX)
          have HKW5 := hide ((unhide HK1).trans (unhide HK5))
          generalize wl ++ [(⟨x.kind, x.text, x.n, (A.length : Int)⟩ : TokA)] = wl2 at *
          clear HRX HRD HGV h256 HR HK4 f0 f1 f2 f3 htl
          go_wp2_with fail
          go_loopg [8, 14] (gs.length + 1) (fun m sv kv wq => ∃ (k : Nat) (A2 : Txt), k ≤ gs.length ∧ gs.length + 1 ≤ k + m ∧ kv = .int .i64 k ∧ sv = .string ⟨A2.toArray⟩ ∧ A2.length ≤ 400 ∧ Hid (256 < A2.length ∨ Reach A2 wl2) ∧ wq = w6)
          case atStart => exact ⟨0, B, by omega, by omega, rfl, rfl, hBl, unhide HRB, rfl⟩
          case round =>
            obtain ⟨k, A2, hk, hm, rfl, rfl, hA2, HR2, rfl⟩ := hrel
            obtain ⟨m, rfl⟩ : ∃ m', gk = m' + 1 := ⟨gk - 1, by omega⟩
            by_cases hkl : k < gs.length
            · have hk1 : (k : Int) < (gs.length : Int) := by omega
              by_cases h2 : 256 < A2.length
              · have h2' : ¬ (A2.length : Int) ≤ 256 := by omega
                go_wp2_with fail
                go_roundg g0
                case rel => exact ⟨i + 1, A2, wl2, by omega, by omega, by go_num, rfl, hA2, unhide HO5, HWL5, .inl h2, unhide HK5⟩
                case measure => omega
              · have h2' : (A2.length : Int) ≤ 256 := by omega
                obtain ⟨gb, goff, gc, ge, gbl, gcells⟩ := (unhide HG).cells (by omega)
                simp at ge
                obtain ⟨rfl, rfl⟩ := ge
                obtain ⟨z, hz⟩ : ∃ z, gs[k]? = some z := ⟨_, List.getElem?_eq_getElem hkl⟩
                have gz := ((unhide HKW5).cell gbl id).trans (gcells k (.int .i64 z) (by rw [List.getElem?_map, hz]; rfl))
                clear gcells hz
                by_cases hmod : ((k : Int) + (i : Int)).tmod 3 = 0
                · by_cases hz0' : 0 ≤ z
                  · have HGV := hide (gap_v z)
                    have hg9 := gap_len z
                    have HRX := hide ((unhide HR2).resolve_left h2 |>.gap (gapB_mem z))
                    generalize gapB z = G2 at *
                    have t3 : ∀ w' : World, (Op.stringOp .add (ByteArray.mk A2.toArray) (ByteArray.mk G2.toArray)).run Tryd.prog w' = .ok (str (A2 ++ G2)) w' := fun w' => add_str w' A2 G2 (by omega)
                    go_wp2_with fail
                    refine (unhide HGV _).mono ?_
                    rintro e w8 ⟨rfl, rfl⟩
                    go_wp2_with fail
                    go_roundg m
                    case rel => exact ⟨k + 1, A2 ++ G2, by omega, by omega, by go_num, rfl, by simp; omega, .inr (unhide HRX), rfl⟩
                    case measure => omega
                  · go_wp2_with fail
                    go_roundg m
                    case rel => exact ⟨k + 1, A2, by omega, by omega, by go_num, rfl, hA2, unhide HR2, rfl⟩
                    case measure => omega
                · have hmod' : (((k : Int) + (i : Int)).tmod 3 == 0) = false := by simpa using hmod
                  go_wp2_with fail
                  go_roundg m
                  case rel => exact ⟨k + 1, A2, by omega, by omega, by go_num, rfl, hA2, unhide HR2, rfl⟩
                  case measure => omega
            · have hk1 : ¬ (k : Int) < (gs.length : Int) := by omega
              go_wp2_with fail
              go_roundg g0
              case rel => exact ⟨i + 1, A2, wl2, by omega, by omega, by go_num, rfl, hA2, unhide HO5, HWL5, unhide HR2, unhide HK5⟩
              case measure => omega
end Go.Proofs.YtbgapbaeegloaaaDoor
