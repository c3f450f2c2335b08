import Derived.Test.YtoempeobaknkcaaGreatDoorKl
namespace Go.Proofs.YtoempeobaknkcaaGreatDoor
open Go.RowKit Go.Maps

theorem Led.set {w : World} {R B : Nat} {cur w' : World} (h : Led w R [] cur) (hq : Keeps (fun q => q = B) cur w') (hB : w.heap.size ≤ B) (hne : R ≠ B) : Led w R [] w' :=
  ⟨h.kept.narrow hq (fun q e => by omega), (hq.block R (lt_of_block h.res) hne).trans h.res, fun p hp => by simp at hp⟩
def RuleA.tl : RuleA → Nat
  | .compares ts => ts.length
  | _ => 0
theorem rule_small {m : Nat} {r : RuleA} (hr : (ruleL[m]?).join = some r) : r.tl ≤ 3 := by
  have h : ∀ i : Fin 26, ∀ x, ((ruleL[i.val]?).join).map RuleA.tl = some x → x ≤ 3 := by
    have : ∀ i : Fin 26, (match ((ruleL[i.val]?).join).map RuleA.tl with | some x => decide (x ≤ 3) | none => true) = true := by decide
    intro i x hx
    have h := this i
    rw [hx] at h
    simpa using h
  by_cases hm : m < 26
  · exact h ⟨m, hm⟩ _ (by show ((ruleL[m]?).join).map RuleA.tl = some _; rw [hr]; rfl)
  · have : ruleL[m]? = none := List.getElem?_eq_none (by show 26 ≤ m; omega)
    rw [this] at hr
    cases hr
theorem st_keep {w1 : World} {R j tab x m : Nat} {v0 v1 v2 v3 v4 v5 : Value} (hj : ¬ j = R) (ht : ¬ tab = R) (hx : ¬ x = R) (lj : j < w1.heap.size) (lt : tab < w1.heap.size) (lx : x < w1.heap.size) (a b : Value)
    (h : w1.cell? ⟨j, 1, none⟩ = some v0 ∧ w1.cell? ⟨tab, m, none⟩ = some v1 ∧ w1.cell? ⟨x, 0, none⟩ = some v2 ∧ w1.cell? ⟨x, 1, none⟩ = some v3 ∧ w1.cell? ⟨x, 2, none⟩ = some v4 ∧ w1.cell? ⟨x, 3, none⟩ = some v5) :
    ((w1.setCell ⟨R, 0, none⟩ a).setCell ⟨R, 1, none⟩ b).cell? ⟨j, 1, none⟩ = some v0 ∧ ((w1.setCell ⟨R, 0, none⟩ a).setCell ⟨R, 1, none⟩ b).cell? ⟨tab, m, none⟩ = some v1 ∧ ((w1.setCell ⟨R, 0, none⟩ a).setCell ⟨R, 1, none⟩ b).cell? ⟨x, 0, none⟩ = some v2 ∧ ((w1.setCell ⟨R, 0, none⟩ a).setCell ⟨R, 1, none⟩ b).cell? ⟨x, 1, none⟩ = some v3 ∧ ((w1.setCell ⟨R, 0, none⟩ a).setCell ⟨R, 1, none⟩ b).cell? ⟨x, 2, none⟩ = some v4 ∧ ((w1.setCell ⟨R, 0, none⟩ a).setCell ⟨R, 1, none⟩ b).cell? ⟨x, 3, none⟩ = some v5 := by
  have hk := keeps_set2 w1 R a b
  exact ⟨(hk.cell lj hj).trans h.1, (hk.cell lt ht).trans h.2.1, (hk.cell lx hx).trans h.2.2.1, (hk.cell lx hx).trans h.2.2.2.1, (hk.cell lx hx).trans h.2.2.2.2.1, (hk.cell lx hx).trans h.2.2.2.2.2⟩

set_option maxRecDepth 100000 in
set_option maxHeartbeats 16000000 in
theorem exprJ_v (Z : Zone) (j mb nn tab : Nat) (S : List FieldA) (hS : (S.map FieldA.name).Nodup) (N : Nat) : ∀ (l : EL), l.size < N → l.size ≤ 4294967294 → ∀ (op n : Int) (s : Txt) (w : World) (up : Nat) (v : Value), JudgeAt w j mb nn tab S → SlE Z w up v l → rootB op n s l.len = true → wellE l = true →
    Calls Tryz.prog 37 #[.pointer (some ⟨j, 0, none⟩), exV op n s v] w fun e w' => e = .returned (kerV (kindP S op s l)) ∧ Keeps (fun _ => False) w w' := by
  induction N with
  | zero => intro l h; omega
  | succ N ih =>
    intro l hsz hlen' op n s w up v hJ hSl hroot hwell
    obtain ⟨m, r, rfl, hm25, hr, hrk, hl3, hnm⟩ := root_open hroot
    obtain ⟨ao, cap, b, off, rfl, hcap, ha, hx⟩ := hSl.open
    obtain ⟨HB, hxb, hxc⟩ := boxedT w #[.int .i64 (m : Int), .int .i64 n, str s, .slice ao l.len cap] 57
    have HL0 := hide (led_start w #[.int .i64 (m : Int), .int .i64 n, str s, .slice ao l.len cap] 57)
    obtain ⟨c0, hc0, hrun⟩ := run_mkK l.len (by omega) ((w.alloc (.cells #[.int .i64 (m : Int), .int .i64 n, str s, .slice ao l.len cap] 57)).alloc (.cells #[.int .i64 0, .bool false] 80))
    have e2 : ((w.alloc (.cells #[.int .i64 (m : Int), .int .i64 n, str s, .slice ao l.len cap] 57)).alloc (.cells #[.int .i64 0, .bool false] 80)).heap.size = w.heap.size + 2 := by simp
    rw [e2] at hrun
    have HL1 : Hid (Led w (w.heap.size + 1) [] (((w.alloc (.cells #[.int .i64 (m : Int), .int .i64 n, str s, .slice ao l.len cap] 57)).alloc (.cells #[.int .i64 0, .bool false] 80)).alloc (.cells c0 80))) := (unhide HL0).keep ((Keeps.refl _ _).alloc _)
    have HC0 : Hid ((((w.alloc (.cells #[.int .i64 (m : Int), .int .i64 n, str s, .slice ao l.len cap] 57)).alloc (.cells #[.int .i64 0, .bool false] 80)).alloc (.cells c0 80)).heap[w.heap.size + 2]? = some (.cells c0 80 (0, 0))) := by
      have h := heap_alloc_new ((w.alloc (.cells #[.int .i64 (m : Int), .int .i64 n, str s, .slice ao l.len cap] 57)).alloc (.cells #[.int .i64 0, .bool false] 80)) (.cells c0 80)
      rw [e2] at h
      exact h
    have SB : ∀ w' : World, Keeps (fun _ => False) (w.alloc (.cells #[.int .i64 (m : Int), .int .i64 n, str s, .slice ao l.len cap] 57)) w' → w'.cell? ⟨w.heap.size, 0, none⟩ = some (.int .i64 (m : Int)) ∧ w'.cell? ⟨w.heap.size, 1, none⟩ = some (.int .i64 n) ∧ w'.cell? ⟨w.heap.size, 2, none⟩ = some (str s) ∧ w'.cell? ⟨w.heap.size, 3, none⟩ = some (.slice ao l.len cap) := fun w' hk =>
      ⟨(hk.cell hxb id).trans (hxc 0 _ rfl), (hk.cell hxb id).trans (hxc 1 _ rfl), (hk.cell hxb id).trans (hxc 2 _ rfl), (hk.cell hxb id).trans (hxc 3 _ rfl)⟩
    have HKB1 : Hid (Keeps (fun _ => False) (w.alloc (.cells #[.int .i64 (m : Int), .int .i64 n, str s, .slice ao l.len cap] 57)) (((w.alloc (.cells #[.int .i64 (m : Int), .int .i64 n, str s, .slice ao l.len cap] 57)).alloc (.cells #[.int .i64 0, .bool false] 80)).alloc (.cells c0 80))) := ((Keeps.refl _ _).alloc _).alloc _
    have y3 := (SB _ (unhide HKB1)).2.2.2
    have HSB := hide SB
    have IH := hide ih
    have HX := hide hx
    have HA := hide ha
    have HJ := hide hJ
    have HW := hide hwell
    have HR := hide hr
    have HNM := hide hnm
    clear hSl ih hx ha hJ hwell hr hnm hxc SB hroot e2
    go_enter Tryz.func37, Tryz.ntmps37
    go_wp2_with fail
    go_loopw [18] (fun i wr => ∃ (rest : EL) (k : Nat) (done : List KA) (c : Array Value), i = .int .i64 k ∧ k + rest.len = l.len ∧ rest.size ≤ l.size ∧ done.length = k ∧ wellE rest = true ∧ (kindsP S l = if (kindsP S rest).2 ≠ 0 then ([], (kindsP S rest).2) else (done ++ (kindsP S rest).1, 0)) ∧ wr.heap[w.heap.size + 2]? = some (.cells c 80 (0, 0)) ∧ c.size = l.len * 2 ∧ (∀ (i : Nat) (f : KA), done[i]? = some f → c[i * 2]? = some (.int .i64 f.t) ∧ c[i * 2 + 1]? = some (.bool f.o)) ∧ Led w (w.heap.size + 1) [] wr ∧ Keeps (fun _ => False) (w.alloc (.cells #[.int .i64 (m : Int), .int .i64 n, str s, .slice ao l.len cap] 57)) wr ∧ ExIn Z w rest b (off + k * 4)) (fun i _ => l.len - (intOf i).toNat)
    case atStart =>
      refine ⟨l, 0, [], c0, rfl, by omega, Nat.le_refl _, rfl, unhide HW, ?_, unhide HC0, hc0, fun i f hf => by simp at hf, unhide HL1, unhide HKB1, ?_⟩
      · by_cases h : (kindsP S l).2 = 0
        · rw [if_neg (by simpa using h), List.nil_append, ← h]
        · rw [if_pos h]
          exact kindsP_err S l h
      · simpa using unhide HX
    case round =>
      obtain ⟨rest, k, done, c, rfl, hkl, hrs, hdl, hwe, heq, hblk, hcs, hdone, hled, hkb, hr⟩ := hrel
      have HEQ := hide heq
      have HBLK := hide hblk
      have HDONE := hide hdone
      have HL := hide hled
      have HKB := hide hkb
      have hszb : w.heap.size + 2 < wr.heap.size := lt_of_block hblk
      clear HC0 HL1 HKB1 hc0 hrun heq hdone hled hkb y3
      cases rest with
      | cons op' n' s' kids rest =>
        obtain ⟨h1, h2, h3, h4, h5, ⟨kao, kcap, h6, h7, h8⟩, h9⟩ := hr
        simp only [EL.len, EL.size, wellE, Bool.and_eq_true] at hkl hrs hwe
        obtain ⟨rfl, hp⟩ := (unhide HA) (by omega)
        have HKID : Hid (SlE Z w b (.slice kao kids.len kcap) kids) := ⟨kao, kcap, rfl, h7, h8⟩
        have HR9 := hide h9
        have HWR := hide hwe.2.2
        have i1 : (k : Int) < (l.len : Int) := by omega
        have i0 : (0 : Int) ≤ (k : Int) := by omega
        have q0 := ((unhide HL).kept.cell h1 id).trans h3
        have q1 := ((unhide HL).kept.cell h1 id).trans h4
        have q2 := ((unhide HL).kept.cell h1 id).trans h5
        have q3 := ((unhide HL).kept.cell h1 id).trans h6
        obtain ⟨HBk, hkbb, hkc⟩ := boxedT wr #[.int .i64 op', .int .i64 n', str s', .slice kao kids.len kcap] 57
        have hkeep : Keeps (fun _ => False) w (wr.alloc (.cells #[.int .i64 op', .int .i64 n', str s', .slice kao kids.len kcap] 57)) := (unhide HL).kept.trans (unhide HBk)
        have HC := hide (unhide IH kids (by omega) (by omega) op' n' s' _ b (.slice kao kids.len kcap) ((unhide HJ).keepF hkeep) ((unhide HKID).keepF hkeep) hwe.1 hwe.2.1)
        have hAB := kindsP_step S op' n' s' kids rest done (kindsP S l) (unhide HEQ)
        obtain ⟨⟨⟨T, O⟩, E⟩, hpp⟩ : ∃ p, p = kindP S op' s' kids := ⟨_, rfl⟩
        rw [← hpp] at HC hAB
        obtain ⟨hA, hB⟩ := hAB
        have HLk := hide ((unhide HL).keep (unhide HBk))
        have HKBk := hide ((unhide HKB).trans (unhide HBk))
        have HBLKk := hide (((unhide HBk).block _ hszb id).trans (unhide HBLK))
        have hszk := lt_of_block (unhide HBLKk)
        clear h2 h3 h4 h5 h6 h8 h9 hwe hkc hkeep hblk hpp HEQ
        by_cases hE : E = 0
        · subst hE
          have HB1 := hide (hB rfl)
          obtain ⟨x0, hx0⟩ : ∃ x, c[k * 2]? = some x := ⟨_, Array.getElem?_eq_getElem (by omega)⟩
          obtain ⟨x1, hx1⟩ : ∃ x, c[k * 2 + 1]? = some x := ⟨_, Array.getElem?_eq_getElem (by omega)⟩
          clear hA hB
          go_wp2_with (go_at_call 37; refine (unhide HC).mono ?_; rintro e w1 ⟨rfl, hk1⟩; have hka := hk1.trans ((Keeps.refl (fun _ => False) w1).alloc (.cells #[.int .i64 T, .bool O] 80)); have hb2 := (hka.block _ hszk id).trans (unhide HBLKk); have a0 := (cell_of_blk hb2 (k * 2)).trans hx0; have a1 := (cell_of_blk hb2 (k * 2 + 1)).trans hx1; have z0 := frozen_of_blk hb2 (k * 2); have z1 := frozen_of_blk hb2 (k * 2 + 1); have HB2 := hide hb2; have HKA := hide hka; clear hb2 hka hk1)
          obtain ⟨c2, hc2, hcs2, hd2⟩ := ks_step T O (unhide HB2) hcs (by omega) hdl (unhide HDONE)
          have hks2 : Keeps (fun q => q = w.heap.size + 2) (w1.alloc (.cells #[.int .i64 T, .bool O] 80)) (((w1.alloc (.cells #[.int .i64 T, .bool O] 80)).setCell ⟨w.heap.size + 2, k * 2, none⟩ (.int .i64 T)).setCell ⟨w.heap.size + 2, k * 2 + 1, none⟩ (.bool O)) := (keeps_set _ _ _ _).trans (keeps_set _ _ _ _)
          go_roundw
          case rel =>
            refine ⟨rest, k + 1, done ++ [⟨T, O⟩], c2, by go_num, by omega, by omega, by simp [hdl], unhide HWR, unhide HB1, hc2, hcs2, hd2, ((unhide HLk).keep (unhide HKA)).set hks2 (by omega) (by omega), ((unhide HKBk).trans (unhide HKA)).narrow hks2 (fun q e => by simp; omega), ?_⟩
            rw [show off + (k + 1) * 4 = off + k * 4 + 4 by omega]
            exact unhide HR9
          case measure => simp [intOf]; omega
        · have n0 : (E != 0) = true := by simpa using hE
          have HPV : Hid (kindP S (m : Int) s l = (⟨0, false⟩, E)) := by
            show _ = _
            unfold kindP
            rw [hA hE]
            simp [hE]
          clear hA hB hE
          go_wp2_with (go_at_call 37; refine (unhide HC).mono ?_; rintro e w1 ⟨rfl, hk1⟩; have hka := hk1.trans ((Keeps.refl (fun _ => False) w1).alloc (.cells #[.int .i64 T, .bool O] 80)); have hl1 := (unhide HLk).keep hka; have m0 := cell_of_blk hl1.res 0; have m1 := cell_of_blk hl1.res 1; simp at m0 m1; have g0 := frozen_of_blk hl1.res 0; have g1 := frozen_of_blk hl1.res 1; have HL2 := hide hl1; clear hl1 hka hk1)
          obtain ⟨⟨s0, s1, _⟩, _⟩ := set2 (unhide HL2).res (.int .i64 0) (.bool false)
          refine bodyPost_ret (v := kerV (⟨0, false⟩, E)) (by simp [results, go_sem, s0, s1]) rfl ?_
          exact ⟨by rw [unhide HPV], (unhide HL2).done (by omega) _ _⟩
      | nil =>
        simp only [EL.len, EL.size] at hkl hrs
        have i1 : ¬ (k : Int) < (l.len : Int) := by omega
        have heq2 : kindsP S l = (done, 0) := by have := unhide HEQ; simpa [kindsP] using this
        have hdl2 : done.length = l.len := by omega
        have hfit : kindP S (m : Int) s l = r.fit S s done := by
          unfold kindP
          rw [heq2]
          simp only [ne_eq, not_true_eq_false, if_false]
          exact ruleP_fit (unhide HR)
        have HKS := hide ((ks_all (unhide HBLK) hdl2 (unhide HDONE)).keepF (Keeps.refl _ wr).drew)
        have hJw := ((unhide HJ).keepF (unhide HL).kept)
        have HJD := hide (hJw.keepF (Keeps.refl _ wr).drew)
        obtain ⟨fv, hfc, hrule⟩ := hJw.rules m r (unhide HR)
        have hbx := unhide HSB wr (unhide HKB)
        have hsm := rule_small (unhide HR)
        have hj1 := hJw.exprs
        have hjl := hJw.map.lt
        have htl := hJw.lt
        have o0 : (0 : Int) ≤ (m : Int) := by omega
        have o1 : (m : Int) < 26 := by omega
        have hxw : w.heap.size < wr.heap.size := by omega
        have SK : ∀ w' : World, Keeps (fun _ => False) wr w' → w'.cell? ⟨j, 1, none⟩ = some (.slice (some ⟨tab, 0, none⟩) 26 26) ∧ w'.cell? ⟨tab, m, none⟩ = some fv ∧ w'.cell? ⟨w.heap.size, 0, none⟩ = some (.int .i64 (m : Int)) ∧ w'.cell? ⟨w.heap.size, 1, none⟩ = some (.int .i64 n) ∧ w'.cell? ⟨w.heap.size, 2, none⟩ = some (str s) ∧ w'.cell? ⟨w.heap.size, 3, none⟩ = some (.slice ao l.len cap) := fun w' hk =>
          ⟨(hk.cell hjl id).trans hj1, (hk.cell htl id).trans hfc, (hk.cell hxw id).trans hbx.1, (hk.cell hxw id).trans hbx.2.1, (hk.cell hxw id).trans hbx.2.2.1, (hk.cell hxw id).trans hbx.2.2.2⟩
        have HSK := hide SK
        have d := SK wr.drew (Keeps.refl _ wr).drew
        have hjR : ¬ j = w.heap.size + 1 := by have := (unhide HJ).map.lt; omega
        have htR : ¬ tab = w.heap.size + 1 := by have := (unhide HJ).lt; omega
        have hxR : ¬ w.heap.size = w.heap.size + 1 := by omega
        obtain ⟨⟨⟨T, O⟩, E⟩, hpp⟩ : ∃ p, p = kindP S (m : Int) s l := ⟨_, rfl⟩
        have HPV := hide hpp.symm
        clear hr hblk HEQ heq2 hJw hfc hbx hj1 SK HDONE
        cases r with
        | takes is ts =>
          obtain ⟨tb, ib, tv, rfl, hib, htb, hi, ht, hts⟩ := hrule
          have hkk : ts.length = l.len := hrk
          have HCALL : Hid (Calls Tryz.prog 92 #[.agg #[.int .i64 (m : Int), .int .i64 n, str s, .slice ao l.len cap], .slice (some ⟨w.heap.size + 2, 0, none⟩) l.len l.len, .pointer (some ⟨tb, 0, none⟩), .pointer (some ⟨ib, 0, none⟩)] wr.drew fun e w' => e = .returned (kerV (kindP S (m : Int) s l)) ∧ Keeps (fun _ => False) wr.drew w') := by
            show Calls _ _ _ _ _
            rw [hfit]
            exact takesF_v (m : Int) n s ao l.len cap done ts is _ tv tb ib wr.drew (unhide HKS) hib htb hi ht (hts.keepF (Keeps.refl _ wr).drew) (by omega) (by omega)
          rw [← hpp] at HCALL
          clear hfit hpp
          go_wp2_with fail
          go_region_held3 (fun w' => w'.cell? ⟨j, 1, none⟩ = some (.slice (some ⟨tab, 0, none⟩) 26 26) ∧ w'.cell? ⟨tab, m, none⟩ = some (.func (.func 92) #[] #[.pointer (some ⟨tb, 0, none⟩), .pointer (some ⟨ib, 0, none⟩)]) ∧ w'.cell? ⟨w.heap.size, 0, none⟩ = some (.int .i64 (m : Int)) ∧ w'.cell? ⟨w.heap.size, 1, none⟩ = some (.int .i64 n) ∧ w'.cell? ⟨w.heap.size, 2, none⟩ = some (str s) ∧ w'.cell? ⟨w.heap.size, 3, none⟩ = some (.slice ao l.len cap)) (first | with_reducible exact d | with_reducible exact r0 | with_reducible exact t0)
            ((go_at_call 92; refine (unhide HCALL).mono ?_; rintro e w1 ⟨rfl, hk1⟩; have hkd := (Keeps.refl (fun _ => False) wr).drew.trans hk1; have r0 := unhide HSK _ hkd; have hl1 := (unhide HL).keep hkd; have m0 := cell_of_blk hl1.res 0; have m1 := cell_of_blk hl1.res 1; simp at m0 m1; have g0 := frozen_of_blk hl1.res 0; have g1 := frozen_of_blk hl1.res 1; have t0 := st_keep hjR htR hxR (Nat.lt_of_lt_of_le hjl hkd.size) (Nat.lt_of_lt_of_le htl hkd.size) (Nat.lt_of_lt_of_le hxw hkd.size) (.int .i64 T) (.bool O) r0; have HL2 := hide hl1; clear hl1 hkd hk1))
          all_goals go_wp2_with fail
          all_goals (obtain ⟨⟨s0, s1, _⟩, _⟩ := set2 (unhide HL2).res (.int .i64 T) (.bool O); refine bodyPost_ret (v := kerV (⟨T, O⟩, E)) (by simp [results, go_sem, s0, s1]) rfl ?_; exact ⟨by rw [unhide HPV], (unhide HL2).done (by omega) _ _⟩)
        | field =>
          obtain rfl := hrule
          have HCALL : Hid (Calls Tryz.prog 72 #[.pointer (some ⟨j, 0, none⟩), .agg #[.int .i64 (m : Int), .int .i64 n, str s, .slice ao l.len cap], .slice (some ⟨w.heap.size + 2, 0, none⟩) l.len l.len] wr.drew fun e w' => e = .returned (kerV (kindP S (m : Int) s l)) ∧ Keeps (fun _ => False) wr.drew w') := by
            show Calls _ _ _ _ _
            rw [hfit]
            exact fieldF_v j mb nn S hS (m : Int) n s (by have := unhide HNM rfl; omega) ao l.len cap _ _ _ wr.drew (unhide HJD).map
          rw [← hpp] at HCALL
          clear hfit hpp
          go_wp2_with fail
          go_region_held3 (fun w' => w'.cell? ⟨j, 1, none⟩ = some (.slice (some ⟨tab, 0, none⟩) 26 26) ∧ w'.cell? ⟨tab, m, none⟩ = some (.func (.func 72) #[.pointer (some ⟨j, 0, none⟩)] #[]) ∧ w'.cell? ⟨w.heap.size, 0, none⟩ = some (.int .i64 (m : Int)) ∧ w'.cell? ⟨w.heap.size, 1, none⟩ = some (.int .i64 n) ∧ w'.cell? ⟨w.heap.size, 2, none⟩ = some (str s) ∧ w'.cell? ⟨w.heap.size, 3, none⟩ = some (.slice ao l.len cap)) (first | with_reducible exact d | with_reducible exact r0 | with_reducible exact t0)
            ((go_at_call 72; refine (unhide HCALL).mono ?_; rintro e w1 ⟨rfl, hk1⟩; have hkd := (Keeps.refl (fun _ => False) wr).drew.trans hk1; have r0 := unhide HSK _ hkd; have hl1 := (unhide HL).keep hkd; have m0 := cell_of_blk hl1.res 0; have m1 := cell_of_blk hl1.res 1; simp at m0 m1; have g0 := frozen_of_blk hl1.res 0; have g1 := frozen_of_blk hl1.res 1; have t0 := st_keep hjR htR hxR (Nat.lt_of_lt_of_le hjl hkd.size) (Nat.lt_of_lt_of_le htl hkd.size) (Nat.lt_of_lt_of_le hxw hkd.size) (.int .i64 T) (.bool O) r0; have HL2 := hide hl1; clear hl1 hkd hk1))
          all_goals go_wp2_with fail
          all_goals (obtain ⟨⟨s0, s1, _⟩, _⟩ := set2 (unhide HL2).res (.int .i64 T) (.bool O); refine bodyPost_ret (v := kerV (⟨T, O⟩, E)) (by simp [results, go_sem, s0, s1]) rfl ?_; exact ⟨by rw [unhide HPV], (unhide HL2).done (by omega) _ _⟩)
        | has =>
          obtain rfl := hrule
          have HCALL : Hid (Calls Tryz.prog 73 #[.pointer (some ⟨j, 0, none⟩), .agg #[.int .i64 (m : Int), .int .i64 n, str s, .slice ao l.len cap], .slice (some ⟨w.heap.size + 2, 0, none⟩) l.len l.len] wr.drew fun e w' => e = .returned (kerV (kindP S (m : Int) s l)) ∧ Keeps (fun _ => False) wr.drew w') := by
            show Calls _ _ _ _ _
            rw [hfit]
            exact hasF_v j mb nn S hS (m : Int) n s (by have := unhide HNM rfl; omega) ao l.len cap _ _ _ wr.drew (unhide HJD).map
          rw [← hpp] at HCALL
          clear hfit hpp
          go_wp2_with fail
          go_region_held3 (fun w' => w'.cell? ⟨j, 1, none⟩ = some (.slice (some ⟨tab, 0, none⟩) 26 26) ∧ w'.cell? ⟨tab, m, none⟩ = some (.func (.func 73) #[.pointer (some ⟨j, 0, none⟩)] #[]) ∧ w'.cell? ⟨w.heap.size, 0, none⟩ = some (.int .i64 (m : Int)) ∧ w'.cell? ⟨w.heap.size, 1, none⟩ = some (.int .i64 n) ∧ w'.cell? ⟨w.heap.size, 2, none⟩ = some (str s) ∧ w'.cell? ⟨w.heap.size, 3, none⟩ = some (.slice ao l.len cap)) (first | with_reducible exact d | with_reducible exact r0 | with_reducible exact t0)
            ((go_at_call 73; refine (unhide HCALL).mono ?_; rintro e w1 ⟨rfl, hk1⟩; have hkd := (Keeps.refl (fun _ => False) wr).drew.trans hk1; have r0 := unhide HSK _ hkd; have hl1 := (unhide HL).keep hkd; have m0 := cell_of_blk hl1.res 0; have m1 := cell_of_blk hl1.res 1; simp at m0 m1; have g0 := frozen_of_blk hl1.res 0; have g1 := frozen_of_blk hl1.res 1; have t0 := st_keep hjR htR hxR (Nat.lt_of_lt_of_le hjl hkd.size) (Nat.lt_of_lt_of_le htl hkd.size) (Nat.lt_of_lt_of_le hxw hkd.size) (.int .i64 T) (.bool O) r0; have HL2 := hide hl1; clear hl1 hkd hk1))
          all_goals go_wp2_with fail
          all_goals (obtain ⟨⟨s0, s1, _⟩, _⟩ := set2 (unhide HL2).res (.int .i64 T) (.bool O); refine bodyPost_ret (v := kerV (⟨T, O⟩, E)) (by simp [results, go_sem, s0, s1]) rfl ?_; exact ⟨by rw [unhide HPV], (unhide HL2).done (by omega) _ _⟩)
        | compares ts =>
          obtain ⟨tb, tv, rfl, htb, ht, hts⟩ := hrule
          obtain ⟨k0, k1, rfl⟩ := list2 (show done.length = 2 by have : 2 = l.len := hrk; omega)
          have HCALL : Hid (Calls Tryz.prog 98 #[.agg #[.int .i64 (m : Int), .int .i64 n, str s, .slice ao l.len cap], .slice (some ⟨w.heap.size + 2, 0, none⟩) l.len l.len, .pointer (some ⟨tb, 0, none⟩)] wr.drew fun e w' => e = .returned (kerV (kindP S (m : Int) s l)) ∧ Keeps (fun _ => False) wr.drew w') := by
            show Calls _ _ _ _ _
            rw [hfit]
            exact comparesF_v (m : Int) n s ao l.len cap k0 k1 ts _ tv tb wr.drew (unhide HKS) htb ht (hts.keepF (Keeps.refl _ wr).drew) (by have : ts.length ≤ 3 := hsm; omega)
          rw [← hpp] at HCALL
          clear hfit hpp
          go_wp2_with fail
          go_region_held3 (fun w' => w'.cell? ⟨j, 1, none⟩ = some (.slice (some ⟨tab, 0, none⟩) 26 26) ∧ w'.cell? ⟨tab, m, none⟩ = some (.func (.func 98) #[] #[.pointer (some ⟨tb, 0, none⟩)]) ∧ w'.cell? ⟨w.heap.size, 0, none⟩ = some (.int .i64 (m : Int)) ∧ w'.cell? ⟨w.heap.size, 1, none⟩ = some (.int .i64 n) ∧ w'.cell? ⟨w.heap.size, 2, none⟩ = some (str s) ∧ w'.cell? ⟨w.heap.size, 3, none⟩ = some (.slice ao l.len cap)) (first | with_reducible exact d | with_reducible exact r0 | with_reducible exact t0)
            ((go_at_call 98; refine (unhide HCALL).mono ?_; rintro e w1 ⟨rfl, hk1⟩; have hkd := (Keeps.refl (fun _ => False) wr).drew.trans hk1; have r0 := unhide HSK _ hkd; have hl1 := (unhide HL).keep hkd; have m0 := cell_of_blk hl1.res 0; have m1 := cell_of_blk hl1.res 1; simp at m0 m1; have g0 := frozen_of_blk hl1.res 0; have g1 := frozen_of_blk hl1.res 1; have t0 := st_keep hjR htR hxR (Nat.lt_of_lt_of_le hjl hkd.size) (Nat.lt_of_lt_of_le htl hkd.size) (Nat.lt_of_lt_of_le hxw hkd.size) (.int .i64 T) (.bool O) r0; have HL2 := hide hl1; clear hl1 hkd hk1))
          all_goals go_wp2_with fail
          all_goals (obtain ⟨⟨s0, s1, _⟩, _⟩ := set2 (unhide HL2).res (.int .i64 T) (.bool O); refine bodyPost_ret (v := kerV (⟨T, O⟩, E)) (by simp [results, go_sem, s0, s1]) rfl ?_; exact ⟨by rw [unhide HPV], (unhide HL2).done (by omega) _ _⟩)
        | orElse =>
          obtain rfl := hrule
          obtain ⟨k0, k1, rfl⟩ := list2 (show done.length = 2 by have : 2 = l.len := hrk; omega)
          have HCALL : Hid (Calls Tryz.prog 75 #[.agg #[.int .i64 (m : Int), .int .i64 n, str s, .slice ao l.len cap], .slice (some ⟨w.heap.size + 2, 0, none⟩) l.len l.len] wr.drew fun e w' => e = .returned (kerV (kindP S (m : Int) s l)) ∧ Keeps (fun _ => False) wr.drew w') := by
            show Calls _ _ _ _ _
            rw [hfit]
            exact orElseF_v (m : Int) n s ao l.len cap k0 k1 _ wr.drew (unhide HKS)
          rw [← hpp] at HCALL
          clear hfit hpp
          go_wp2_with fail
          go_region_held3 (fun w' => w'.cell? ⟨j, 1, none⟩ = some (.slice (some ⟨tab, 0, none⟩) 26 26) ∧ w'.cell? ⟨tab, m, none⟩ = some (.func (.func 75) #[] #[]) ∧ w'.cell? ⟨w.heap.size, 0, none⟩ = some (.int .i64 (m : Int)) ∧ w'.cell? ⟨w.heap.size, 1, none⟩ = some (.int .i64 n) ∧ w'.cell? ⟨w.heap.size, 2, none⟩ = some (str s) ∧ w'.cell? ⟨w.heap.size, 3, none⟩ = some (.slice ao l.len cap)) (first | with_reducible exact d | with_reducible exact r0 | with_reducible exact t0)
            ((go_at_call 75; refine (unhide HCALL).mono ?_; rintro e w1 ⟨rfl, hk1⟩; have hkd := (Keeps.refl (fun _ => False) wr).drew.trans hk1; have r0 := unhide HSK _ hkd; have hl1 := (unhide HL).keep hkd; have m0 := cell_of_blk hl1.res 0; have m1 := cell_of_blk hl1.res 1; simp at m0 m1; have g0 := frozen_of_blk hl1.res 0; have g1 := frozen_of_blk hl1.res 1; have t0 := st_keep hjR htR hxR (Nat.lt_of_lt_of_le hjl hkd.size) (Nat.lt_of_lt_of_le htl hkd.size) (Nat.lt_of_lt_of_le hxw hkd.size) (.int .i64 T) (.bool O) r0; have HL2 := hide hl1; clear hl1 hkd hk1))
          all_goals go_wp2_with fail
          all_goals (obtain ⟨⟨s0, s1, _⟩, _⟩ := set2 (unhide HL2).res (.int .i64 T) (.bool O); refine bodyPost_ret (v := kerV (⟨T, O⟩, E)) (by simp [results, go_sem, s0, s1]) rfl ?_; exact ⟨by rw [unhide HPV], (unhide HL2).done (by omega) _ _⟩)
        | pick =>
          obtain rfl := hrule
          obtain ⟨k0, k1, k2, rfl⟩ := list3 (show done.length = 3 by have : 3 = l.len := hrk; omega)
          have HCALL : Hid (Calls Tryz.prog 76 #[.agg #[.int .i64 (m : Int), .int .i64 n, str s, .slice ao l.len cap], .slice (some ⟨w.heap.size + 2, 0, none⟩) l.len l.len] wr.drew fun e w' => e = .returned (kerV (kindP S (m : Int) s l)) ∧ Keeps (fun _ => False) wr.drew w') := by
            show Calls _ _ _ _ _
            rw [hfit]
            exact pickF_v (m : Int) n s ao l.len cap k0 k1 k2 _ wr.drew (unhide HKS)
          rw [← hpp] at HCALL
          clear hfit hpp
          go_wp2_with fail
          go_region_held3 (fun w' => w'.cell? ⟨j, 1, none⟩ = some (.slice (some ⟨tab, 0, none⟩) 26 26) ∧ w'.cell? ⟨tab, m, none⟩ = some (.func (.func 76) #[] #[]) ∧ w'.cell? ⟨w.heap.size, 0, none⟩ = some (.int .i64 (m : Int)) ∧ w'.cell? ⟨w.heap.size, 1, none⟩ = some (.int .i64 n) ∧ w'.cell? ⟨w.heap.size, 2, none⟩ = some (str s) ∧ w'.cell? ⟨w.heap.size, 3, none⟩ = some (.slice ao l.len cap)) (first | with_reducible exact d | with_reducible exact r0 | with_reducible exact t0)
            ((go_at_call 76; refine (unhide HCALL).mono ?_; rintro e w1 ⟨rfl, hk1⟩; have hkd := (Keeps.refl (fun _ => False) wr).drew.trans hk1; have r0 := unhide HSK _ hkd; have hl1 := (unhide HL).keep hkd; have m0 := cell_of_blk hl1.res 0; have m1 := cell_of_blk hl1.res 1; simp at m0 m1; have g0 := frozen_of_blk hl1.res 0; have g1 := frozen_of_blk hl1.res 1; have t0 := st_keep hjR htR hxR (Nat.lt_of_lt_of_le hjl hkd.size) (Nat.lt_of_lt_of_le htl hkd.size) (Nat.lt_of_lt_of_le hxw hkd.size) (.int .i64 T) (.bool O) r0; have HL2 := hide hl1; clear hl1 hkd hk1))
          all_goals go_wp2_with fail
          all_goals (obtain ⟨⟨s0, s1, _⟩, _⟩ := set2 (unhide HL2).res (.int .i64 T) (.bool O); refine bodyPost_ret (v := kerV (⟨T, O⟩, E)) (by simp [results, go_sem, s0, s1]) rfl ?_; exact ⟨by rw [unhide HPV], (unhide HL2).done (by omega) _ _⟩)
end Go.Proofs.YtoempeobaknkcaaGreatDoor
