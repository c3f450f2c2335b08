import Derived.Test.YtgdabnkjipcbhaaGreatDoorQd
namespace Go.Proofs.YtgdabnkjipcbhaaGreatDoor
open Go.RowKit Go.Maps

/-- Each expression of a list within the bounds. -/
def okL : EL → Prop
  | .nil => True
  | .cons _ n _ k r => (k.size + 1 ≤ 2147483647 ∧ (-9223372036854775808 ≤ n ∧ n ≤ 9223372036854775807) ∧ intE k) ∧ okL r
theorem okL_app : ∀ a b : EL, okL a → okL b → okL (a.app b)
  | .nil, _, _, h => h
  | .cons _ _ _ _ r, b, h, h2 => ⟨h.1, okL_app r b h.2 h2⟩
theorem okL_back : ∀ a b : EL, okL (a.app b) → okL b
  | .nil, _, h => h
  | .cons _ _ _ _ r, b, h => okL_back r b h.2
theorem okL_of : ∀ l : EL, okE l → okL l
  | .nil, _ => trivial
  | .cons _ _ _ k r, ⟨h1, h2, h3, h4⟩ => ⟨⟨by simp only [EL.size] at h1; omega, h2, h3⟩, okL_of r ⟨by simp only [EL.size] at h1; omega, h4⟩⟩
theorem one_text (l : EL) : (l.len = 0 → exsT l = []) ∧ (l.len = 1 → ∃ t, exsT l = [t]) := by
  have h := exsT_len l
  refine ⟨fun h0 => List.length_eq_zero_iff.1 (h.trans h0), fun h1 => ?_⟩
  rw [h1] at h
  exact List.length_eq_one_iff.1 h

set_option maxRecDepth 100000 in
set_option maxHeartbeats 8000000 in
theorem rprintQ_v (k l : Int) (d : Bool) (W O B : EL) (wv ov bv : Value) {Z : Zone} (w : World) (hW : SlE Z w 0 wv W) (hO : SlE Z w 0 ov O) (hB : SlE Z w 0 bv B) (kW : okE W) (kO : okE O) (kB : okE B) (l0 : -9223372036854775808 ≤ l) (l1 : l ≤ 9223372036854775807) (hP : Pow w) (hT : Tabs w) :
    Calls Tryz.prog 7 #[qV wv k ov bv d l] w fun e w' => e = .returned (.tuple #[str (ansQ k W O B d l).1, .int .i64 (ansQ k W O B d l).2]) ∧ Keeps (fun _ => False) w w' := by
  obtain ⟨wa, wc, rfl, _⟩ := hW.head
  obtain ⟨oa, oc, rfl, _⟩ := hO.head
  obtain ⟨ba, bc, rfl, _⟩ := hB.head
  have HV := fun W' => hide (well_v wa oa ba W.len O.len B.len wc oc bc k l d W')
  obtain ⟨w1, hw1, hk1, hs1, c0, c1, c2, c3, c4, c5⟩ := box6 w (.slice wa W.len wc) (.slice oa O.len oc) (.slice ba B.len bc) k l d
  unfold ansQ
  by_cases hwell : wellQ k W.len O.len B.len d l = true
  · rw [if_pos hwell]
    have hlen : W.len ≤ 1 ∧ O.len ≤ 1 ∧ B.len ≤ 1 ∧ (O.len = 0 ∨ B.len = 0) := by
      unfold wellQ at hwell
      simp only [Bool.and_eq_true, decide_eq_true_eq] at hwell
      obtain ⟨⟨⟨⟨⟨_, _⟩, h1⟩, h2⟩, h3⟩, h4⟩ := hwell
      refine ⟨h1, ?_, h2, ?_⟩
      · split at h3 <;> omega
      · by_cases h5 : k = 1
        · rw [if_pos (Or.inl h5)] at h3; exact Or.inl h3
        · rw [if_neg h5] at h4; simp at h4; exact Or.inr h4.1.1
    rw [ref_text k W O B d l hlen.1 hlen.2.1 hlen.2.2.1]
    have hle : ∀ x ∈ exsT ((W.app O).app B), x.length ≤ 700000000000 := by
      have h1 : ∀ q : EL, q.len ≤ 1 → okE q → ∀ x ∈ exsT q, x.length ≤ 700000000000 := fun q hq ho x hx => by
        cases q with
        | nil => simp [exsT] at hx
        | cons op n s kd r =>
          cases r with
          | nil => simp [exsT] at hx; subst hx; exact printE_len op n s kd ho
          | cons _ _ _ _ _ => simp [EL.len] at hq
      intro x hx
      rw [exsT_app, exsT_app] at hx
      rcases List.mem_append.1 hx with hx | hx
      · rcases List.mem_append.1 hx with hx | hx
        · exact h1 W hlen.1 kW x hx
        · exact h1 O hlen.2.1 kO x hx
      · exact h1 B hlen.2.2.1 kB x hx
    obtain ⟨AN, hAN⟩ : ∃ AN : Txt × Int, AN = (if errQ W O B = 0 then (refT k W O B d l, 0) else ([], errQ W O B)) := ⟨_, rfl⟩
    rw [← hAN]
    have HAN := hide hAN
    have HX := fun (W' : World) (hk : Keeps (fun _ => False) w W') => hide (rexprs_v k l d W O B (.slice wa W.len wc) (.slice oa O.len oc) (.slice ba B.len bc) W' (hW.keepF hk) (hO.keepF hk) (hB.keepF hk) (by omega))
    have hLn : ((W.app O).app B).len = W.len + O.len + B.len := by rw [EL.len_app, EL.len_app]
    have HLO := hide (okL_app _ _ (okL_app _ _ (okL_of W kW) (okL_of O kO)) (okL_of B kB))
    subst hw1
    go_enter Tryz.func7, Tryz.ntmps7
    go_wp2_with fail
    refine (unhide (HV _)).mono ?_
    rintro e w2 ⟨rfl, hk2⟩
    rw [hwell]
    have d0 := (hk2.cell (o := 0) hs1 id).trans c0
    have d1 := (hk2.cell (o := 1) hs1 id).trans c1
    have d2 := (hk2.cell (o := 2) hs1 id).trans c2
    have d3 := (hk2.cell (o := 3) hs1 id).trans c3
    have d4 := (hk2.cell (o := 4) hs1 id).trans c4
    have d5 := (hk2.cell (o := 5) hs1 id).trans c5
    have HK2 := hide (hk1.trans hk2)
    have hs2 : w.heap.size < w2.heap.size := Nat.lt_of_lt_of_le hs1 hk2.size
    clear hAN hwell hk2 hk1 hs1 c0 c1 c2 c3 c4 c5 HV
    go_wp2_with fail
    refine (unhide (HX _ (unhide HK2))).mono ?_
    rintro e w3 ⟨v, xs, rfl, hown, hcs, hk3⟩
    have f0 := (hk3.cell (o := 0) hs2 id).trans d0
    have f1 := (hk3.cell (o := 1) hs2 id).trans d1
    have f2 := (hk3.cell (o := 2) hs2 id).trans d2
    have f3 := (hk3.cell (o := 3) hs2 id).trans d3
    have f4 := (hk3.cell (o := 4) hs2 id).trans d4
    have f5 := (hk3.cell (o := 5) hs2 id).trans d5
    have HK3 := hide ((unhide HK2).trans hk3)
    have hs3 : w.heap.size < w3.heap.size := Nat.lt_of_lt_of_le hs2 hk3.size
    have HP := hide (hP.keepF (unhide HK3))
    have HT := hide (hT.keepF (unhide HK3))
    obtain ⟨vo, vc, rfl⟩ : ∃ vo vc, v = .slice vo (W.len + O.len + B.len) vc := by
      rcases hown.2 with ⟨hv, h0⟩ | ⟨g, cp, cur, a1, _⟩
      · rw [hv, h0]; exact ⟨none, 0, rfl⟩
      · exact ⟨_, _, a1⟩
    have HOWN := hide hown
    have HCS := hide hcs
    obtain ⟨L, hL⟩ : ∃ L, L = (W.app O).app B := ⟨_, rfl⟩
    rw [← hL] at hcs hLn hle
    have HL := hide hL
    have HLE := hide hle
    obtain ⟨NN, hNN⟩ : ∃ NN, NN = W.len + O.len + B.len := ⟨_, rfl⟩
    rw [← hNN] at hLn hown
    have hnn2 : NN ≤ 2 := by omega
    rw [← hNN] at HOWN ⊢
    clear hown hcs hk3 d0 d1 d2 d3 d4 d5 HK2 HX hW hO hB hP hT hL hle
    go_wp2_with fail
    go_loopw [5, 6] (fun tv i wr => ∃ (pre rest : EL) (j : Nat), i = .int .i64 (j : Int) ∧ L = pre.app rest ∧ j = pre.len ∧ Hid (wr.ownsRow w3.heap.size 9 1 tv j ((exsT pre).map str)) ∧ Hid (exsC pre = 0) ∧ Hid (Keeps (fun _ => False) w3 wr)) (fun _ i _ => NN - (intOf i).toNat)
    case atStart => exact ⟨.nil, L, 0, rfl, rfl, rfl, World.ownsRow_nil _ _ _ _, rfl, hide (Keeps.refl _ _)⟩
    case round =>
      obtain ⟨pre, rest, j, rfl, hap, hj, HO, HC, HK⟩ := hrel
      have hln := congrArg EL.len hap
      rw [EL.len_app, hLn] at hln
      obtain ⟨tto, tc, rfl⟩ := (rowAt_own (unhide HO)).form
      cases rest with
      | cons op n s kids rest =>
        subst hj
        have hjl : pre.len < NN := by simp only [EL.len] at hln; omega
        obtain ⟨g, rfl, hg, hgl, _, hcap, hcell⟩ := own_cell (unhide HOWN) (by omega)
        have hcs' : Cs (belZ w2.heap.size) w3 (pre.app (.cons op n s kids rest)) xs := by rw [← hap, unhide HL]; exact unhide HCS
        obtain ⟨kv, up, x0, x1, x2, x3, hsk⟩ := hcs'.at
        obtain ⟨kao, kcap, rfl, _⟩ := hsk.head
        have hok : okL (.cons op n s kids rest) := okL_back pre _ (by rw [← hap, unhide HL]; exact unhide HLO)
        have y0 := ((unhide HK).cell hgl id).trans (hcell _ _ x0)
        have y1 := ((unhide HK).cell hgl id).trans (hcell _ _ x1)
        have y2 := ((unhide HK).cell hgl id).trans (hcell _ _ x2)
        have y3 := ((unhide HK).cell hgl id).trans (hcell _ _ x3)
        have HC19 := hide (rPrintExpr_v rlib _ op n s kids hok.1.1 hok.1.2.1.1 hok.1.2.1.2 hok.1.2.2 wr up _ ((unhide HP).keepF (unhide HK)) ((unhide HT).keepF (unhide HK)) (hsk.keepF (unhide HK)))
        have HE : Hid (exsC L = if checkE (.cons op n s kids .nil) = 0 then exsC rest else checkE (.cons op n s kids .nil)) := by
          show _ = _
          rw [hap, exsC_app _ _ (unhide HC)]; rfl
        have i1 : (pre.len : Int) < (NN : Int) := by omega
        have i2 : (0 : Int) ≤ (pre.len : Int) := by omega
        by_cases hc0 : checkE (.cons op n s kids .nil) = 0
        · rw [hc0] at HC19
          obtain ⟨i0, hi, hz0, hz1, hz2⟩ := info_parts Tryz.info9
          have HAP := hide hap
          have HTX : Hid ((exsT (pre.app (.cons op n s kids .nil))).map str = (exsT pre).map str ++ [str (printE op n s kids)]) := by show _ = _; rw [exsT_app]; simp [exsT]
          have HEC : Hid (exsC (pre.app (.cons op n s kids .nil)) = 0) := by show _ = _; rw [exsC_app _ _ (unhide HC)]; simp [exsC, hc0]
          clear hap hcs' hsk hok hcell x0 x1 x2 x3 hln HE
          go_wp2_with fail
          refine (unhide HC19).mono ?_
          rintro e w4 ⟨rfl, hk4⟩
          have HO4 := hide (own_kept (unhide HO) hk4 (fun _ _ => id))
          have HK4 := hide ((unhide HK).trans hk4)
          have hs4 : w3.heap.size ≤ w4.heap.size := (unhide HK4).size
          clear hk4 HC19 HO y0 y1 y2 y3
          go_wp2_with (at_builtin; refine wpList_append_own _ rfl _ _ 44 rfl w3.heap.size 9 i0 (.string ⟨#[]⟩) 1 16 Tryz.underlying44 hi hz0 hz1 hz2 rfl (by decide) _ _ _ rfl ((unhide HO4).alloc _) ⟨w4.heap.size, 0, none⟩ 1 1 [str (printE op n s kids)] rfl rfl ?c1 ?c2 ?c3 ?c4 ?c5 ?_)
          case c1 =>
            intro q u hq
            rcases q with _ | q
            · simp at hq; subst hq; rw [Addr.add_lit]; exact (cell_of_blk (heap_alloc_new w4 _) 0).trans rfl
            · simp at hq
          case c2 => intro u hu; simp at hu; subst hu; rfl
          case c3 => unfold maxLen; omega
          case c4 => omega
          case c5 => simp; omega
          intro v5 w5 ho5 hg5 _
          have hkg : Keeps (fun q => (Value.slice tto pre.len tc).ownBlock = some q) w4 w5 := ((Keeps.refl _ w4).alloc _).grown hg5 (fun q e _ => e)
          have HK5 := hide ((unhide HK4).trans_of (hkg.below hs4 (fun q e => own_ge (unhide HO4) e)))
          have HO5 := hide ho5
          clear ho5 hg5 hkg
          go_wp2_with fail
          go_roundw
          case rel =>
            refine ⟨pre.app (.cons op n s kids .nil), rest, pre.len + 1, by go_num, by rw [app_one]; exact unhide HAP, by rw [EL.len_app]; rfl, ?_, HEC, HK5⟩
            show World.ownsRow _ _ _ _ _ _ _
            rw [unhide HTX]
            exact unhide HO5
          case measure => simp [intOf]; omega
        · have hc1 : (checkE (.cons op n s kids .nil) != 0) = true := by simpa using hc0
          have hans : AN = ([], checkE (.cons op n s kids .nil)) := by
            have hq : errQ W O B = checkE (.cons op n s kids .nil) := by rw [← ref_err W O B hlen.1 hlen.2.1 hlen.2.2.1, ← unhide HL, unhide HE, if_neg hc0]
            rw [unhide HAN, hq, if_neg hc0]
          have HANS := hide hans
          generalize checkE (.cons op n s kids .nil) = C at HC19 hc1 HANS
          clear hans hap hcs' hsk hok hcell x0 x1 x2 x3 hln HE HAN hc0
          go_wp2_with fail
          refine (unhide HC19).mono ?_
          rintro e w4 ⟨rfl, hk4⟩
          have HK4 := hide ((unhide HK3).trans ((unhide HK).trans hk4))
          clear hk4 HC19
          go_wp2_with fail
          go_ret2
          rw [unhide HANS]
          exact ⟨rfl, unhide HK4⟩
      | nil =>
        rw [EL.app_nil] at hap
        subst hap
        have hj' : j = NN := by simp only [EL.len] at hln; omega
        have hans : AN = (refT k W O B d l, 0) := by
          have hq : errQ W O B = 0 := by rw [← ref_err W O B hlen.1 hlen.2.1 hlen.2.2.1, ← unhide HL]; exact unhide HC
          rw [unhide HAN, if_pos hq]
        have hvl : (verbT k).length ≤ 700000000000 := verbT_le k
        have hdl : (decimal l).length ≤ 21 := decimal_len l l0 l1
        have hte : exsT L = exsT W ++ exsT O ++ exsT B := by rw [unhide HL, exsT_app, exsT_app]
        have hle := unhide HLE
        rw [hte] at hle
        have ho := unhide HO
        rw [hte] at ho
        have g0 := ((unhide HK).cell (o := 0) hs3 id).trans f0
        have g1 := ((unhide HK).cell (o := 1) hs3 id).trans f1
        have g2 := ((unhide HK).cell (o := 2) hs3 id).trans f2
        have g3 := ((unhide HK).cell (o := 3) hs3 id).trans f3
        have g4 := ((unhide HK).cell (o := 4) hs3 id).trans f4
        have g5 := ((unhide HK).cell (o := 5) hs3 id).trans f5
        have HKE := hide ((unhide HK3).trans (unhide HK))
        subst hj'
        have i1 : ¬ (j : Int) < (j : Int) := by omega
        clear hj f0 f1 f2 f3 f4 f5 HL HLE HLO HAN HP HT HOWN HCS HC HO HK HK3 hte hln hLn
        rcases (by omega : (W.len = 0 ∨ W.len = 1) ∧ ((O.len = 0 ∧ B.len = 0) ∨ (O.len = 1 ∧ B.len = 0) ∨ (O.len = 0 ∧ B.len = 1))) with ⟨w0 | w0, o0 | o0 | o0⟩
        · have tx1 := (one_text W).1 (by omega)
          have tx2 := (one_text O).1 (by omega)
          have tx3 := (one_text B).1 (by omega)
          have w1 : W.len = 0 := by omega
          have w2' : O.len = 0 := by omega
          have w3' : B.len = 0 := by omega
          obtain rfl : j = 0 := by omega
          rw [w1] at g0
          rw [w2'] at g2
          rw [w3'] at g3
          rw [tx1, tx2, tx3] at ho hle
          clear ho hle
          clear hlen w0 hNN hnn2
          clear o0
          by_cases hk1 : k = 1
          · subst hk1
            by_cases hl0 : 0 ≤ l
            · cases d
              · have HANS : Hid (AN = (verbT 1 ++ [32, 108, 105, 109, 105, 116, 32] ++ decimal l, 0)) := by show _ = _; rw [hans]; unfold refT; rw [tx1, tx2, tx3, if_neg (show ¬ (false = true) by decide), if_pos ⟨rfl, hl0⟩]; simp [limitT]
                clear hans tx1 tx2 tx3
                go_wp2_with (first | (go_at_call 20; refine (rverb_v _ _).mono ?_; rintro e w6 ⟨rfl, rfl⟩) | (go_at_call 21; refine (decimal_any l l0 l1 _).mono ?_; rintro e w7 ⟨rfl, hk7⟩; replace HKE := hide ((unhide HKE).trans hk7); clear hk7))
                go_ret2
                rw [unhide HANS]
                refine ⟨?_, unhide HKE⟩
                simp [cat2, str]
              · have HANS : Hid (AN = (verbT 1 ++ [32, 100, 111, 119, 110] ++ [32, 108, 105, 109, 105, 116, 32] ++ decimal l, 0)) := by show _ = _; rw [hans]; unfold refT; rw [tx1, tx2, tx3, if_pos rfl, if_pos ⟨rfl, hl0⟩]; simp [downT, limitT]
                clear hans tx1 tx2 tx3
                go_wp2_with (first | (go_at_call 20; refine (rverb_v _ _).mono ?_; rintro e w6 ⟨rfl, rfl⟩) | (go_at_call 21; refine (decimal_any l l0 l1 _).mono ?_; rintro e w7 ⟨rfl, hk7⟩; replace HKE := hide ((unhide HKE).trans hk7); clear hk7))
                go_ret2
                rw [unhide HANS]
                refine ⟨?_, unhide HKE⟩
                simp [cat2, str]
            · cases d
              · have HANS : Hid (AN = (verbT 1, 0)) := by show _ = _; rw [hans]; unfold refT; rw [tx1, tx2, tx3, if_neg (show ¬ (false = true) by decide), if_neg (fun h => hl0 h.2)]; simp
                clear hans tx1 tx2 tx3
                go_wp2_with (go_at_call 20; refine (rverb_v _ _).mono ?_; rintro e w6 ⟨rfl, rfl⟩)
                go_ret2
                rw [unhide HANS]
                refine ⟨?_, unhide HKE⟩
                simp [cat2, str]
              · have HANS : Hid (AN = (verbT 1 ++ [32, 100, 111, 119, 110], 0)) := by show _ = _; rw [hans]; unfold refT; rw [tx1, tx2, tx3, if_pos rfl, if_neg (fun h => hl0 h.2)]; simp [downT]
                clear hans tx1 tx2 tx3
                go_wp2_with (go_at_call 20; refine (rverb_v _ _).mono ?_; rintro e w6 ⟨rfl, rfl⟩)
                go_ret2
                rw [unhide HANS]
                refine ⟨?_, unhide HKE⟩
                simp [cat2, str]
          · cases d
            · have HANS : Hid (AN = (verbT k, 0)) := by show _ = _; rw [hans]; unfold refT; rw [tx1, tx2, tx3, if_neg (show ¬ (false = true) by decide), if_neg (fun h => hk1 h.1)]; simp
              clear hans tx1 tx2 tx3
              have hk2 : (k == 1) = false := by simpa using hk1
              go_wp2_with (go_at_call 20; refine (rverb_v _ _).mono ?_; rintro e w6 ⟨rfl, rfl⟩)
              go_ret2
              rw [unhide HANS]
              refine ⟨?_, unhide HKE⟩
              simp [cat2, str]
            · have HANS : Hid (AN = (verbT k ++ [32, 100, 111, 119, 110], 0)) := by show _ = _; rw [hans]; unfold refT; rw [tx1, tx2, tx3, if_pos rfl, if_neg (fun h => hk1 h.1)]; simp [downT]
              clear hans tx1 tx2 tx3
              have hk2 : (k == 1) = false := by simpa using hk1
              go_wp2_with (go_at_call 20; refine (rverb_v _ _).mono ?_; rintro e w6 ⟨rfl, rfl⟩)
              go_ret2
              rw [unhide HANS]
              refine ⟨?_, unhide HKE⟩
              simp [cat2, str]
        · have tx1 := (one_text W).1 (by omega)
          obtain ⟨t2, tx2⟩ := (one_text O).2 (by omega)
          have tx3 := (one_text B).1 (by omega)
          have w1 : W.len = 0 := by omega
          have w2' : O.len = 1 := by omega
          have w3' : B.len = 0 := by omega
          obtain rfl : j = 1 := by omega
          rw [w1] at g0
          rw [w2'] at g2
          rw [w3'] at g3
          rw [tx1, tx2, tx3] at ho hle
          have hl2 := hle t2 (by simp)
          obtain ⟨g', rfl, _, hgl', _, hcap', hcell'⟩ := own_cell ho (by omega)
          have p0 := hcell' 0 (str t2) rfl
          clear hcell' ho hle
          clear hlen w0 hNN hnn2
          clear o0
          by_cases hk1 : k = 1
          · subst hk1
            by_cases hl0 : 0 ≤ l
            · cases d
              · have HANS : Hid (AN = (verbT 1 ++ [32] ++ t2 ++ [32, 108, 105, 109, 105, 116, 32] ++ decimal l, 0)) := by show _ = _; rw [hans]; unfold refT; rw [tx1, tx2, tx3, if_neg (show ¬ (false = true) by decide), if_pos ⟨rfl, hl0⟩]; simp [limitT]
                clear hans tx1 tx2 tx3
                go_wp2_with (first | (go_at_call 20; refine (rverb_v _ _).mono ?_; rintro e w6 ⟨rfl, rfl⟩) | (go_at_call 21; refine (decimal_any l l0 l1 _).mono ?_; rintro e w7 ⟨rfl, hk7⟩; replace HKE := hide ((unhide HKE).trans hk7); clear hk7))
                go_ret2
                rw [unhide HANS]
                refine ⟨?_, unhide HKE⟩
                simp [cat2, str]
              · have HANS : Hid (AN = (verbT 1 ++ [32] ++ t2 ++ [32, 100, 111, 119, 110] ++ [32, 108, 105, 109, 105, 116, 32] ++ decimal l, 0)) := by show _ = _; rw [hans]; unfold refT; rw [tx1, tx2, tx3, if_pos rfl, if_pos ⟨rfl, hl0⟩]; simp [downT, limitT]
                clear hans tx1 tx2 tx3
                go_wp2_with (first | (go_at_call 20; refine (rverb_v _ _).mono ?_; rintro e w6 ⟨rfl, rfl⟩) | (go_at_call 21; refine (decimal_any l l0 l1 _).mono ?_; rintro e w7 ⟨rfl, hk7⟩; replace HKE := hide ((unhide HKE).trans hk7); clear hk7))
                go_ret2
                rw [unhide HANS]
                refine ⟨?_, unhide HKE⟩
                simp [cat2, str]
            · cases d
              · have HANS : Hid (AN = (verbT 1 ++ [32] ++ t2, 0)) := by show _ = _; rw [hans]; unfold refT; rw [tx1, tx2, tx3, if_neg (show ¬ (false = true) by decide), if_neg (fun h => hl0 h.2)]; simp
                clear hans tx1 tx2 tx3
                go_wp2_with (go_at_call 20; refine (rverb_v _ _).mono ?_; rintro e w6 ⟨rfl, rfl⟩)
                go_ret2
                rw [unhide HANS]
                refine ⟨?_, unhide HKE⟩
                simp [cat2, str]
              · have HANS : Hid (AN = (verbT 1 ++ [32] ++ t2 ++ [32, 100, 111, 119, 110], 0)) := by show _ = _; rw [hans]; unfold refT; rw [tx1, tx2, tx3, if_pos rfl, if_neg (fun h => hl0 h.2)]; simp [downT]
                clear hans tx1 tx2 tx3
                go_wp2_with (go_at_call 20; refine (rverb_v _ _).mono ?_; rintro e w6 ⟨rfl, rfl⟩)
                go_ret2
                rw [unhide HANS]
                refine ⟨?_, unhide HKE⟩
                simp [cat2, str]
          · cases d
            · have HANS : Hid (AN = (verbT k ++ [32] ++ t2, 0)) := by show _ = _; rw [hans]; unfold refT; rw [tx1, tx2, tx3, if_neg (show ¬ (false = true) by decide), if_neg (fun h => hk1 h.1)]; simp
              clear hans tx1 tx2 tx3
              have hk2 : (k == 1) = false := by simpa using hk1
              go_wp2_with (go_at_call 20; refine (rverb_v _ _).mono ?_; rintro e w6 ⟨rfl, rfl⟩)
              go_ret2
              rw [unhide HANS]
              refine ⟨?_, unhide HKE⟩
              simp [cat2, str]
            · have HANS : Hid (AN = (verbT k ++ [32] ++ t2 ++ [32, 100, 111, 119, 110], 0)) := by show _ = _; rw [hans]; unfold refT; rw [tx1, tx2, tx3, if_pos rfl, if_neg (fun h => hk1 h.1)]; simp [downT]
              clear hans tx1 tx2 tx3
              have hk2 : (k == 1) = false := by simpa using hk1
              go_wp2_with (go_at_call 20; refine (rverb_v _ _).mono ?_; rintro e w6 ⟨rfl, rfl⟩)
              go_ret2
              rw [unhide HANS]
              refine ⟨?_, unhide HKE⟩
              simp [cat2, str]
        · have tx1 := (one_text W).1 (by omega)
          have tx2 := (one_text O).1 (by omega)
          obtain ⟨t3, tx3⟩ := (one_text B).2 (by omega)
          have w1 : W.len = 0 := by omega
          have w2' : O.len = 0 := by omega
          have w3' : B.len = 1 := by omega
          obtain rfl : j = 1 := by omega
          rw [w1] at g0
          rw [w2'] at g2
          rw [w3'] at g3
          rw [tx1, tx2, tx3] at ho hle
          have hl3 := hle t3 (by simp)
          obtain ⟨g', rfl, _, hgl', _, hcap', hcell'⟩ := own_cell ho (by omega)
          have p0 := hcell' 0 (str t3) rfl
          clear hcell' ho hle
          clear hlen w0 hNN hnn2
          clear o0
          by_cases hk1 : k = 1
          · subst hk1
            by_cases hl0 : 0 ≤ l
            · cases d
              · have HANS : Hid (AN = (verbT 1 ++ [32, 98, 121, 32] ++ t3 ++ [32, 108, 105, 109, 105, 116, 32] ++ decimal l, 0)) := by show _ = _; rw [hans]; unfold refT; rw [tx1, tx2, tx3, if_neg (show ¬ (false = true) by decide), if_pos ⟨rfl, hl0⟩]; simp [byT, limitT]
                clear hans tx1 tx2 tx3
                go_wp2_with (first | (go_at_call 20; refine (rverb_v _ _).mono ?_; rintro e w6 ⟨rfl, rfl⟩) | (go_at_call 21; refine (decimal_any l l0 l1 _).mono ?_; rintro e w7 ⟨rfl, hk7⟩; replace HKE := hide ((unhide HKE).trans hk7); clear hk7))
                go_ret2
                rw [unhide HANS]
                refine ⟨?_, unhide HKE⟩
                simp [cat2, str]
              · have HANS : Hid (AN = (verbT 1 ++ [32, 98, 121, 32] ++ t3 ++ [32, 100, 111, 119, 110] ++ [32, 108, 105, 109, 105, 116, 32] ++ decimal l, 0)) := by show _ = _; rw [hans]; unfold refT; rw [tx1, tx2, tx3, if_pos rfl, if_pos ⟨rfl, hl0⟩]; simp [byT, downT, limitT]
                clear hans tx1 tx2 tx3
                go_wp2_with (first | (go_at_call 20; refine (rverb_v _ _).mono ?_; rintro e w6 ⟨rfl, rfl⟩) | (go_at_call 21; refine (decimal_any l l0 l1 _).mono ?_; rintro e w7 ⟨rfl, hk7⟩; replace HKE := hide ((unhide HKE).trans hk7); clear hk7))
                go_ret2
                rw [unhide HANS]
                refine ⟨?_, unhide HKE⟩
                simp [cat2, str]
            · cases d
              · have HANS : Hid (AN = (verbT 1 ++ [32, 98, 121, 32] ++ t3, 0)) := by show _ = _; rw [hans]; unfold refT; rw [tx1, tx2, tx3, if_neg (show ¬ (false = true) by decide), if_neg (fun h => hl0 h.2)]; simp [byT]
                clear hans tx1 tx2 tx3
                go_wp2_with (go_at_call 20; refine (rverb_v _ _).mono ?_; rintro e w6 ⟨rfl, rfl⟩)
                go_ret2
                rw [unhide HANS]
                refine ⟨?_, unhide HKE⟩
                simp [cat2, str]
              · have HANS : Hid (AN = (verbT 1 ++ [32, 98, 121, 32] ++ t3 ++ [32, 100, 111, 119, 110], 0)) := by show _ = _; rw [hans]; unfold refT; rw [tx1, tx2, tx3, if_pos rfl, if_neg (fun h => hl0 h.2)]; simp [byT, downT]
                clear hans tx1 tx2 tx3
                go_wp2_with (go_at_call 20; refine (rverb_v _ _).mono ?_; rintro e w6 ⟨rfl, rfl⟩)
                go_ret2
                rw [unhide HANS]
                refine ⟨?_, unhide HKE⟩
                simp [cat2, str]
          · cases d
            · have HANS : Hid (AN = (verbT k ++ [32, 98, 121, 32] ++ t3, 0)) := by show _ = _; rw [hans]; unfold refT; rw [tx1, tx2, tx3, if_neg (show ¬ (false = true) by decide), if_neg (fun h => hk1 h.1)]; simp [byT]
              clear hans tx1 tx2 tx3
              have hk2 : (k == 1) = false := by simpa using hk1
              go_wp2_with (go_at_call 20; refine (rverb_v _ _).mono ?_; rintro e w6 ⟨rfl, rfl⟩)
              go_ret2
              rw [unhide HANS]
              refine ⟨?_, unhide HKE⟩
              simp [cat2, str]
            · have HANS : Hid (AN = (verbT k ++ [32, 98, 121, 32] ++ t3 ++ [32, 100, 111, 119, 110], 0)) := by show _ = _; rw [hans]; unfold refT; rw [tx1, tx2, tx3, if_pos rfl, if_neg (fun h => hk1 h.1)]; simp [byT, downT]
              clear hans tx1 tx2 tx3
              have hk2 : (k == 1) = false := by simpa using hk1
              go_wp2_with (go_at_call 20; refine (rverb_v _ _).mono ?_; rintro e w6 ⟨rfl, rfl⟩)
              go_ret2
              rw [unhide HANS]
              refine ⟨?_, unhide HKE⟩
              simp [cat2, str]
        · obtain ⟨t1, tx1⟩ := (one_text W).2 (by omega)
          have tx2 := (one_text O).1 (by omega)
          have tx3 := (one_text B).1 (by omega)
          have w1 : W.len = 1 := by omega
          have w2' : O.len = 0 := by omega
          have w3' : B.len = 0 := by omega
          obtain rfl : j = 1 := by omega
          rw [w1] at g0
          rw [w2'] at g2
          rw [w3'] at g3
          rw [tx1, tx2, tx3] at ho hle
          have hl1 := hle t1 (by simp)
          obtain ⟨g', rfl, _, hgl', _, hcap', hcell'⟩ := own_cell ho (by omega)
          have p0 := hcell' 0 (str t1) rfl
          clear hcell' ho hle
          clear hlen w0 hNN hnn2
          clear o0
          by_cases hk1 : k = 1
          · subst hk1
            by_cases hl0 : 0 ≤ l
            · cases d
              · have HANS : Hid (AN = ([119, 104, 101, 114, 101, 32] ++ t1 ++ [32] ++ verbT 1 ++ [32, 108, 105, 109, 105, 116, 32] ++ decimal l, 0)) := by show _ = _; rw [hans]; unfold refT; rw [tx1, tx2, tx3, if_neg (show ¬ (false = true) by decide), if_pos ⟨rfl, hl0⟩]; simp [whereT, limitT]
                clear hans tx1 tx2 tx3
                go_wp2_with (first | (go_at_call 20; refine (rverb_v _ _).mono ?_; rintro e w6 ⟨rfl, rfl⟩) | (go_at_call 21; refine (decimal_any l l0 l1 _).mono ?_; rintro e w7 ⟨rfl, hk7⟩; replace HKE := hide ((unhide HKE).trans hk7); clear hk7))
                go_ret2
                rw [unhide HANS]
                refine ⟨?_, unhide HKE⟩
                simp [cat2, str]
              · have HANS : Hid (AN = ([119, 104, 101, 114, 101, 32] ++ t1 ++ [32] ++ verbT 1 ++ [32, 100, 111, 119, 110] ++ [32, 108, 105, 109, 105, 116, 32] ++ decimal l, 0)) := by show _ = _; rw [hans]; unfold refT; rw [tx1, tx2, tx3, if_pos rfl, if_pos ⟨rfl, hl0⟩]; simp [whereT, downT, limitT]
                clear hans tx1 tx2 tx3
                go_wp2_with (first | (go_at_call 20; refine (rverb_v _ _).mono ?_; rintro e w6 ⟨rfl, rfl⟩) | (go_at_call 21; refine (decimal_any l l0 l1 _).mono ?_; rintro e w7 ⟨rfl, hk7⟩; replace HKE := hide ((unhide HKE).trans hk7); clear hk7))
                go_ret2
                rw [unhide HANS]
                refine ⟨?_, unhide HKE⟩
                simp [cat2, str]
            · cases d
              · have HANS : Hid (AN = ([119, 104, 101, 114, 101, 32] ++ t1 ++ [32] ++ verbT 1, 0)) := by show _ = _; rw [hans]; unfold refT; rw [tx1, tx2, tx3, if_neg (show ¬ (false = true) by decide), if_neg (fun h => hl0 h.2)]; simp [whereT]
                clear hans tx1 tx2 tx3
                go_wp2_with (go_at_call 20; refine (rverb_v _ _).mono ?_; rintro e w6 ⟨rfl, rfl⟩)
                go_ret2
                rw [unhide HANS]
                refine ⟨?_, unhide HKE⟩
                simp [cat2, str]
              · have HANS : Hid (AN = ([119, 104, 101, 114, 101, 32] ++ t1 ++ [32] ++ verbT 1 ++ [32, 100, 111, 119, 110], 0)) := by show _ = _; rw [hans]; unfold refT; rw [tx1, tx2, tx3, if_pos rfl, if_neg (fun h => hl0 h.2)]; simp [whereT, downT]
                clear hans tx1 tx2 tx3
                go_wp2_with (go_at_call 20; refine (rverb_v _ _).mono ?_; rintro e w6 ⟨rfl, rfl⟩)
                go_ret2
                rw [unhide HANS]
                refine ⟨?_, unhide HKE⟩
                simp [cat2, str]
          · cases d
            · have HANS : Hid (AN = ([119, 104, 101, 114, 101, 32] ++ t1 ++ [32] ++ verbT k, 0)) := by show _ = _; rw [hans]; unfold refT; rw [tx1, tx2, tx3, if_neg (show ¬ (false = true) by decide), if_neg (fun h => hk1 h.1)]; simp [whereT]
              clear hans tx1 tx2 tx3
              have hk2 : (k == 1) = false := by simpa using hk1
              go_wp2_with (go_at_call 20; refine (rverb_v _ _).mono ?_; rintro e w6 ⟨rfl, rfl⟩)
              go_ret2
              rw [unhide HANS]
              refine ⟨?_, unhide HKE⟩
              simp [cat2, str]
            · have HANS : Hid (AN = ([119, 104, 101, 114, 101, 32] ++ t1 ++ [32] ++ verbT k ++ [32, 100, 111, 119, 110], 0)) := by show _ = _; rw [hans]; unfold refT; rw [tx1, tx2, tx3, if_pos rfl, if_neg (fun h => hk1 h.1)]; simp [whereT, downT]
              clear hans tx1 tx2 tx3
              have hk2 : (k == 1) = false := by simpa using hk1
              go_wp2_with (go_at_call 20; refine (rverb_v _ _).mono ?_; rintro e w6 ⟨rfl, rfl⟩)
              go_ret2
              rw [unhide HANS]
              refine ⟨?_, unhide HKE⟩
              simp [cat2, str]
        · obtain ⟨t1, tx1⟩ := (one_text W).2 (by omega)
          obtain ⟨t2, tx2⟩ := (one_text O).2 (by omega)
          have tx3 := (one_text B).1 (by omega)
          have w1 : W.len = 1 := by omega
          have w2' : O.len = 1 := by omega
          have w3' : B.len = 0 := by omega
          obtain rfl : j = 2 := by omega
          rw [w1] at g0
          rw [w2'] at g2
          rw [w3'] at g3
          rw [tx1, tx2, tx3] at ho hle
          have hl1 := hle t1 (by simp)
          have hl2 := hle t2 (by simp)
          obtain ⟨g', rfl, _, hgl', _, hcap', hcell'⟩ := own_cell ho (by omega)
          have p0 := hcell' 0 (str t1) rfl
          have p1 := hcell' 1 (str t2) rfl
          clear hcell' ho hle
          clear hlen w0 hNN hnn2
          clear o0
          by_cases hk1 : k = 1
          · subst hk1
            by_cases hl0 : 0 ≤ l
            · cases d
              · have HANS : Hid (AN = ([119, 104, 101, 114, 101, 32] ++ t1 ++ [32] ++ verbT 1 ++ [32] ++ t2 ++ [32, 108, 105, 109, 105, 116, 32] ++ decimal l, 0)) := by show _ = _; rw [hans]; unfold refT; rw [tx1, tx2, tx3, if_neg (show ¬ (false = true) by decide), if_pos ⟨rfl, hl0⟩]; simp [whereT, limitT]
                clear hans tx1 tx2 tx3
                go_wp2_with (first | (go_at_call 20; refine (rverb_v _ _).mono ?_; rintro e w6 ⟨rfl, rfl⟩) | (go_at_call 21; refine (decimal_any l l0 l1 _).mono ?_; rintro e w7 ⟨rfl, hk7⟩; replace HKE := hide ((unhide HKE).trans hk7); clear hk7))
                go_ret2
                rw [unhide HANS]
                refine ⟨?_, unhide HKE⟩
                simp [cat2, str]
              · have HANS : Hid (AN = ([119, 104, 101, 114, 101, 32] ++ t1 ++ [32] ++ verbT 1 ++ [32] ++ t2 ++ [32, 100, 111, 119, 110] ++ [32, 108, 105, 109, 105, 116, 32] ++ decimal l, 0)) := by show _ = _; rw [hans]; unfold refT; rw [tx1, tx2, tx3, if_pos rfl, if_pos ⟨rfl, hl0⟩]; simp [whereT, downT, limitT]
                clear hans tx1 tx2 tx3
                go_wp2_with (first | (go_at_call 20; refine (rverb_v _ _).mono ?_; rintro e w6 ⟨rfl, rfl⟩) | (go_at_call 21; refine (decimal_any l l0 l1 _).mono ?_; rintro e w7 ⟨rfl, hk7⟩; replace HKE := hide ((unhide HKE).trans hk7); clear hk7))
                go_ret2
                rw [unhide HANS]
                refine ⟨?_, unhide HKE⟩
                simp [cat2, str]
            · cases d
              · have HANS : Hid (AN = ([119, 104, 101, 114, 101, 32] ++ t1 ++ [32] ++ verbT 1 ++ [32] ++ t2, 0)) := by show _ = _; rw [hans]; unfold refT; rw [tx1, tx2, tx3, if_neg (show ¬ (false = true) by decide), if_neg (fun h => hl0 h.2)]; simp [whereT]
                clear hans tx1 tx2 tx3
                go_wp2_with (go_at_call 20; refine (rverb_v _ _).mono ?_; rintro e w6 ⟨rfl, rfl⟩)
                go_ret2
                rw [unhide HANS]
                refine ⟨?_, unhide HKE⟩
                simp [cat2, str]
              · have HANS : Hid (AN = ([119, 104, 101, 114, 101, 32] ++ t1 ++ [32] ++ verbT 1 ++ [32] ++ t2 ++ [32, 100, 111, 119, 110], 0)) := by show _ = _; rw [hans]; unfold refT; rw [tx1, tx2, tx3, if_pos rfl, if_neg (fun h => hl0 h.2)]; simp [whereT, downT]
                clear hans tx1 tx2 tx3
                go_wp2_with (go_at_call 20; refine (rverb_v _ _).mono ?_; rintro e w6 ⟨rfl, rfl⟩)
                go_ret2
                rw [unhide HANS]
                refine ⟨?_, unhide HKE⟩
                simp [cat2, str]
          · cases d
            · have HANS : Hid (AN = ([119, 104, 101, 114, 101, 32] ++ t1 ++ [32] ++ verbT k ++ [32] ++ t2, 0)) := by show _ = _; rw [hans]; unfold refT; rw [tx1, tx2, tx3, if_neg (show ¬ (false = true) by decide), if_neg (fun h => hk1 h.1)]; simp [whereT]
              clear hans tx1 tx2 tx3
              have hk2 : (k == 1) = false := by simpa using hk1
              go_wp2_with (go_at_call 20; refine (rverb_v _ _).mono ?_; rintro e w6 ⟨rfl, rfl⟩)
              go_ret2
              rw [unhide HANS]
              refine ⟨?_, unhide HKE⟩
              simp [cat2, str]
            · have HANS : Hid (AN = ([119, 104, 101, 114, 101, 32] ++ t1 ++ [32] ++ verbT k ++ [32] ++ t2 ++ [32, 100, 111, 119, 110], 0)) := by show _ = _; rw [hans]; unfold refT; rw [tx1, tx2, tx3, if_pos rfl, if_neg (fun h => hk1 h.1)]; simp [whereT, downT]
              clear hans tx1 tx2 tx3
              have hk2 : (k == 1) = false := by simpa using hk1
              go_wp2_with (go_at_call 20; refine (rverb_v _ _).mono ?_; rintro e w6 ⟨rfl, rfl⟩)
              go_ret2
              rw [unhide HANS]
              refine ⟨?_, unhide HKE⟩
              simp [cat2, str]
        · obtain ⟨t1, tx1⟩ := (one_text W).2 (by omega)
          have tx2 := (one_text O).1 (by omega)
          obtain ⟨t3, tx3⟩ := (one_text B).2 (by omega)
          have w1 : W.len = 1 := by omega
          have w2' : O.len = 0 := by omega
          have w3' : B.len = 1 := by omega
          obtain rfl : j = 2 := by omega
          rw [w1] at g0
          rw [w2'] at g2
          rw [w3'] at g3
          rw [tx1, tx2, tx3] at ho hle
          have hl1 := hle t1 (by simp)
          have hl3 := hle t3 (by simp)
          obtain ⟨g', rfl, _, hgl', _, hcap', hcell'⟩ := own_cell ho (by omega)
          have p0 := hcell' 0 (str t1) rfl
          have p1 := hcell' 1 (str t3) rfl
          clear hcell' ho hle
          clear hlen w0 hNN hnn2
          clear o0
          by_cases hk1 : k = 1
          · subst hk1
            by_cases hl0 : 0 ≤ l
            · cases d
              · have HANS : Hid (AN = ([119, 104, 101, 114, 101, 32] ++ t1 ++ [32] ++ verbT 1 ++ [32, 98, 121, 32] ++ t3 ++ [32, 108, 105, 109, 105, 116, 32] ++ decimal l, 0)) := by show _ = _; rw [hans]; unfold refT; rw [tx1, tx2, tx3, if_neg (show ¬ (false = true) by decide), if_pos ⟨rfl, hl0⟩]; simp [whereT, byT, limitT]
                clear hans tx1 tx2 tx3
                go_wp2_with (first | (go_at_call 20; refine (rverb_v _ _).mono ?_; rintro e w6 ⟨rfl, rfl⟩) | (go_at_call 21; refine (decimal_any l l0 l1 _).mono ?_; rintro e w7 ⟨rfl, hk7⟩; replace HKE := hide ((unhide HKE).trans hk7); clear hk7))
                go_ret2
                rw [unhide HANS]
                refine ⟨?_, unhide HKE⟩
                simp [cat2, str]
              · have HANS : Hid (AN = ([119, 104, 101, 114, 101, 32] ++ t1 ++ [32] ++ verbT 1 ++ [32, 98, 121, 32] ++ t3 ++ [32, 100, 111, 119, 110] ++ [32, 108, 105, 109, 105, 116, 32] ++ decimal l, 0)) := by show _ = _; rw [hans]; unfold refT; rw [tx1, tx2, tx3, if_pos rfl, if_pos ⟨rfl, hl0⟩]; simp [whereT, byT, downT, limitT]
                clear hans tx1 tx2 tx3
                go_wp2_with (first | (go_at_call 20; refine (rverb_v _ _).mono ?_; rintro e w6 ⟨rfl, rfl⟩) | (go_at_call 21; refine (decimal_any l l0 l1 _).mono ?_; rintro e w7 ⟨rfl, hk7⟩; replace HKE := hide ((unhide HKE).trans hk7); clear hk7))
                go_ret2
                rw [unhide HANS]
                refine ⟨?_, unhide HKE⟩
                simp [cat2, str]
            · cases d
              · have HANS : Hid (AN = ([119, 104, 101, 114, 101, 32] ++ t1 ++ [32] ++ verbT 1 ++ [32, 98, 121, 32] ++ t3, 0)) := by show _ = _; rw [hans]; unfold refT; rw [tx1, tx2, tx3, if_neg (show ¬ (false = true) by decide), if_neg (fun h => hl0 h.2)]; simp [whereT, byT]
                clear hans tx1 tx2 tx3
                go_wp2_with (go_at_call 20; refine (rverb_v _ _).mono ?_; rintro e w6 ⟨rfl, rfl⟩)
                go_ret2
                rw [unhide HANS]
                refine ⟨?_, unhide HKE⟩
                simp [cat2, str]
              · have HANS : Hid (AN = ([119, 104, 101, 114, 101, 32] ++ t1 ++ [32] ++ verbT 1 ++ [32, 98, 121, 32] ++ t3 ++ [32, 100, 111, 119, 110], 0)) := by show _ = _; rw [hans]; unfold refT; rw [tx1, tx2, tx3, if_pos rfl, if_neg (fun h => hl0 h.2)]; simp [whereT, byT, downT]
                clear hans tx1 tx2 tx3
                go_wp2_with (go_at_call 20; refine (rverb_v _ _).mono ?_; rintro e w6 ⟨rfl, rfl⟩)
                go_ret2
                rw [unhide HANS]
                refine ⟨?_, unhide HKE⟩
                simp [cat2, str]
          · cases d
            · have HANS : Hid (AN = ([119, 104, 101, 114, 101, 32] ++ t1 ++ [32] ++ verbT k ++ [32, 98, 121, 32] ++ t3, 0)) := by show _ = _; rw [hans]; unfold refT; rw [tx1, tx2, tx3, if_neg (show ¬ (false = true) by decide), if_neg (fun h => hk1 h.1)]; simp [whereT, byT]
              clear hans tx1 tx2 tx3
              have hk2 : (k == 1) = false := by simpa using hk1
              go_wp2_with (go_at_call 20; refine (rverb_v _ _).mono ?_; rintro e w6 ⟨rfl, rfl⟩)
              go_ret2
              rw [unhide HANS]
              refine ⟨?_, unhide HKE⟩
              simp [cat2, str]
            · have HANS : Hid (AN = ([119, 104, 101, 114, 101, 32] ++ t1 ++ [32] ++ verbT k ++ [32, 98, 121, 32] ++ t3 ++ [32, 100, 111, 119, 110], 0)) := by show _ = _; rw [hans]; unfold refT; rw [tx1, tx2, tx3, if_pos rfl, if_neg (fun h => hk1 h.1)]; simp [whereT, byT, downT]
              clear hans tx1 tx2 tx3
              have hk2 : (k == 1) = false := by simpa using hk1
              go_wp2_with (go_at_call 20; refine (rverb_v _ _).mono ?_; rintro e w6 ⟨rfl, rfl⟩)
              go_ret2
              rw [unhide HANS]
              refine ⟨?_, unhide HKE⟩
              simp [cat2, str]
  · rw [if_neg hwell]
    have hwf : wellQ k W.len O.len B.len d l = false := by simpa using hwell
    subst hw1
    go_enter Tryz.func7, Tryz.ntmps7
    go_wp2_with fail
    refine (unhide (HV _)).mono ?_
    rintro e w2 ⟨rfl, hk2⟩
    have HK := hide (hk1.trans hk2)
    rw [hwf]
    go_wp2_with fail
    go_ret2
    exact ⟨rfl, unhide HK⟩
end Go.Proofs.YtgdabnkjipcbhaaGreatDoor
