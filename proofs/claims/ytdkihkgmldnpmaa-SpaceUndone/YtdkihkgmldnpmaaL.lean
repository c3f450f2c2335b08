import Derived.Test.YtdkihkgmldnpmaaK
namespace Go.Proofs.Ytdkihkgmldnpmaa
open Go.RowKit Go.Maps

theorem two_new {w w1 w2 : World} {n : Nat} (h1 : SpaceAt w1 w.heap.size (newSP w.heap.size n)) (z1 : w1.heap.size = w.heap.size + 7) (k1 : Keeps (fun _ => False) w w1)
    (h2 : SpaceAt w2 w1.heap.size (newSP w1.heap.size n)) (k2 : Keeps (fun _ => False) w1 w2) : Two w w2 w.heap.size (w.heap.size + 7) n (newBk n) (newBk n) := by
  refine ⟨h1.keepF k2, ?_, rfl, rfl, Nat.le_refl _, (k1.trans k2).below (Nat.le_refl _) (fun _ f => f.elim)⟩
  have := h2.lower (C := w.heap.size) k1.size
  rw [z1] at this
  exact this


set_option maxRecDepth 100000 in
set_option maxHeartbeats 2000000 in
theorem spaceUndone_any (w : World) (n : Nat) (va vd : Value) (la ld : List Int) (hA : Cells w va (is la)) (hD : Cells w vd (is ld)) (h1 : 1 ≤ n) (h2 : n ≤ 2048) (hla : la.length ≤ 2147483647) (hld : ld.length ≤ 2147483647) :
    Calls Try.prog 6 #[.int .i64 n, va, vd] w fun e w' => e = .returned (.bool true) ∧ Below w.heap.size w w' := by
  obtain ⟨ao, ac, rfl⟩ := hA.form
  obtain ⟨do', dc, rfl⟩ := hD.form
  simp only [is_length] at *
  have HA := hide hA
  have HD := hide hD
  clear hA hD
  have hNa : decide ((2147483647 : Int) < (la.length : Int)) = false := by simp; omega
  have hNd : decide ((2147483647 : Int) < (ld.length : Int)) = false := by simp; omega
  have i1 : (1 : Int) ≤ (n : Int) := by omega
  have i2 : (n : Int) ≤ 2048 := by omega
  go_enter Try.func6, Try.ntmps6
  go_wp2_with fail
  refine (long_any _ _).mono ?_; rintro e w ⟨rfl, rfl⟩
  go_wp2_with fail
  refine (long_any _ _).mono ?_; rintro e w ⟨rfl, rfl⟩
  clear hNa hNd
  go_wp2_with fail
  refine (new_yes _ n h1 h2).mono ?_
  rintro e w1 ⟨rfl, hs1, hz1, hk1⟩
  have HN2 := hide (new_yes w1 n h1 h2)
  rw [hz1] at HN2
  have HS1 := hide hs1
  have HZ1 := hide hz1
  have HK1 := hide hk1
  clear hs1 hz1 hk1
  go_wp2_with fail
  refine (unhide HN2).mono ?_
  rintro e w2 ⟨rfl, hs2, hz2, hk2⟩
  rw [← unhide HZ1] at hs2
  have HT := hide (two_new (unhide HS1) (unhide HZ1) (unhide HK1) hs2 hk2)
  have HL1 := hide (unhide HT).left1
  rw [newBk_left] at HL1
  clear hs2 hz2 hk2 HS1 HZ1 HK1 HN2
  go_wp2_with fail
  refine (unhide HL1).mono ?_
  rintro e w3 ⟨rfl, hT3, -⟩
  have HT3 := hide hT3
  clear hT3 HT HL1
  go_wp2_with fail
  go_loopw [11] (fun i wr => ∃ k : Nat, k ≤ la.length ∧ i = .int .i64 k ∧ Two w wr w.heap.size (w.heap.size + 7) n (doesAll (newBk n) (la.take k)) (doesAll (newBk n) (la.take k))) (fun i _ => la.length - (intOf i).toNat)
  case atStart => exact ⟨0, Nat.zero_le _, rfl, unhide HT3⟩
  case round =>
    obtain ⟨k, hk, rfl, hT⟩ := hrel
    have HT := hide hT
    clear hT
    by_cases hlt : k < la.length
    · obtain ⟨b, off, c, e1, hblt, hc⟩ := (unhide HA).cells (by rw [is_length]; omega)
      simp [is_length] at e1
      obtain ⟨rfl, rfl⟩ := e1
      obtain ⟨x, hx⟩ : ∃ x, la[k]? = some x := ⟨_, List.getElem?_eq_getElem hlt⟩
      have q0 := hc k (.int .i64 x) (by rw [is_get, hx]; rfl)
      have d0 := ((unhide HT).below.cell (p := ⟨b, off + k, none⟩) hblt).trans q0
      have i3 : (k : Int) < (la.length : Int) := by omega
      have i4 : (0 : Int) ≤ (k : Int) := by omega
      have HSN := hide (doesAll_snoc (newBk n) la k x hx)
      have HQ := hide q0
      have H1 := hide ((unhide HT).does1 x)
      clear hc hx q0
      go_wp2_with fail
      refine (unhide H1).mono ?_
      rintro e w4 ⟨rfl, hT4⟩
      have d1 := (hT4.below.cell (p := ⟨b, off + k, none⟩) hblt).trans (unhide HQ)
      have H2 := hide (hT4.does2 x)
      clear hT4
      go_wp2_with fail
      refine (unhide H2).mono ?_
      rintro e w5 ⟨rfl, hT5⟩
      have HT5 := hide hT5
      clear hT5
      go_wp2
      go_roundw
      case rel => exact ⟨k + 1, by omega, by go_num, by rw [unhide HSN]; exact unhide HT5⟩
      case measure => simp [intOf]; omega
    · have e : k = la.length := by omega
      subst e
      rw [List.take_length] at HT
      generalize doesAll (newBk n) la = b at HT
      have H1 := hide (unhide HT).mark1
      clear HT HT3
      go_wp2_with fail
      refine (unhide H1).mono ?_
      rintro e w4 ⟨rfl, hT4⟩
      have H2 := hide hT4.mark2
      clear hT4
      go_wp2_with fail
      refine (unhide H2).mono ?_
      rintro e w5 ⟨rfl, hT5⟩
      have HT5 := hide hT5
      clear hT5
      go_wp2_with fail
      go_loopw [12] (fun i wr => ∃ k : Nat, k ≤ ld.length ∧ i = .int .i64 k ∧ ∃ b2 : Bk, b2.mark = b.now ∧ b2.last = b.last ∧ Two w wr w.heap.size (w.heap.size + 7) n b2 b.setMark) (fun i _ => ld.length - (intOf i).toNat)
      case atStart => exact ⟨0, Nat.zero_le _, rfl, b.setMark, rfl, rfl, unhide HT5⟩
      case round =>
        obtain ⟨k, hk, rfl, b2, hm2, hl2, hT⟩ := hrel
        have HM2 := hide hm2
        have HL2 := hide hl2
        have HT := hide hT
        clear hm2 hl2 hT
        by_cases hlt : k < ld.length
        · obtain ⟨bb, off, c, e1, hblt, hc⟩ := (unhide HD).cells (by rw [is_length]; omega)
          simp [is_length] at e1
          obtain ⟨rfl, rfl⟩ := e1
          obtain ⟨x, hx⟩ : ∃ x, ld[k]? = some x := ⟨_, List.getElem?_eq_getElem hlt⟩
          have q0 := hc k (.int .i64 x) (by rw [is_get, hx]; rfl)
          have d0 := ((unhide HT).below.cell (p := ⟨bb, off + k, none⟩) hblt).trans q0
          have i3 : (k : Int) < (ld.length : Int) := by omega
          have i4 : (0 : Int) ≤ (k : Int) := by omega
          clear hc hx q0
          by_cases hx1 : -1 ≤ x
          · have H1 := hide ((unhide HT).does1 x)
            have hdk := does_kept b2 x hx1
            have HDK := hide hdk
            clear hdk
            go_wp2_with fail
            refine (unhide H1).mono ?_
            rintro e w4 ⟨rfl, hT4⟩
            have HT4 := hide hT4
            clear hT4
            go_wp2
            go_roundw
            case rel => exact ⟨k + 1, by omega, by go_num, _, (unhide HDK).1.trans (unhide HM2), (unhide HDK).2.trans (unhide HL2), unhide HT4⟩
            case measure => simp [intOf]; omega
          · have hx2 : decide (-1 ≤ x) = false := by simp; omega
            go_wp2
            go_roundw
            case rel => exact ⟨k + 1, by omega, by go_num, b2, unhide HM2, unhide HL2, unhide HT⟩
            case measure => simp [intOf]; omega
        · have H1 := hide (unhide HT).undo1
          have hbu : b2.undo = b.setMark := by
            have h1 := unhide HM2
            have h2 := unhide HL2
            have h3 := (unhide HT).bn
            have h4 := (unhide HT).cn
            cases b2
            simp only [Bk.undo, Bk.setMark] at *
            rw [h1, h2, h3, h4]
          rw [hbu] at H1
          generalize b.setMark = d at *
          clear hbu HT HT5 HM2 HL2
          go_wp2_with fail
          refine (unhide H1).mono ?_
          rintro e w4 ⟨rfl, hT4⟩
          have H2 := hide hT4.used1
          clear hT4
          go_wp2_with fail
          refine (unhide H2).mono ?_
          rintro e w5 ⟨ua, rfl, hua, hfa, hT5, -⟩
          have HUA := hide hua
          have HFA := hide hfa
          have H3 := hide hT5.used2
          clear hT5 hua hfa
          go_wp2_with fail
          refine (unhide H3).mono ?_
          rintro e w6 ⟨ub, rfl, hub, hfb, hT6, hk6⟩
          have HFB := hide hfb
          have HUB := hide hub
          have HUA := hide ((unhide HUA).keepF hk6)
          have H4 := hide hT6.bits1
          clear hT6 hub hk6 hfb
          go_wp2_with fail
          refine (unhide H4).mono ?_
          rintro e w7 ⟨xa, rfl, hxa, hfc, hT7, hk7⟩
          have HFC := hide hfc
          have HXA := hide hxa
          have HUA := hide ((unhide HUA).keepF hk7)
          have HUB := hide ((unhide HUB).keepF hk7)
          have H5 := hide hT7.bits2
          clear hT7 hxa hk7 hfc
          go_wp2_with fail
          refine (unhide H5).mono ?_
          rintro e w8 ⟨xb, rfl, hxb, hfd, hT8, hk8⟩
          have HFD := hide hfd
          have HXB := hide hxb
          have HXA := hide ((unhide HXA).keepF hk8)
          have HUA := hide ((unhide HUA).keepF hk8)
          have HUB := hide ((unhide HUB).keepF hk8)
          have H6 := hide hT8.left1
          clear hT8 hxb hk8 hfd
          go_wp2_with fail
          refine (unhide H6).mono ?_
          rintro e w9 ⟨rfl, hT9, hk9⟩
          have HXB := hide ((unhide HXB).keepF hk9)
          have HXA := hide ((unhide HXA).keepF hk9)
          have HUA := hide ((unhide HUA).keepF hk9)
          have HUB := hide ((unhide HUB).keepF hk9)
          have H7 := hide hT9.left2
          clear hT9 hk9
          go_wp2_with fail
          refine (unhide H7).mono ?_
          rintro e w10 ⟨rfl, hT10, hk10⟩
          have HXB := hide ((unhide HXB).keepF hk10)
          have HXA := hide ((unhide HXA).keepF hk10)
          have HUA := hide ((unhide HUA).keepF hk10)
          have HUB := hide ((unhide HUB).keepF hk10)
          have H8 := hide hT10.take1
          have HT10 := hide hT10
          clear hT10 hk10
          go_wp2_with fail
          refine (unhide H8).mono ?_
          rintro e w11 ⟨rfl, hT11, hk11⟩
          have HXB := hide ((unhide HT10).far1 (unhide HXB) (unhide HFD) hk11)
          have HXA := hide ((unhide HT10).far1 (unhide HXA) (unhide HFC) hk11)
          have HUA := hide ((unhide HT10).far1 (unhide HUA) (unhide HFA) hk11)
          have HUB := hide ((unhide HT10).far1 (unhide HUB) (unhide HFB) hk11)
          have H9 := hide hT11.take2
          have HT11 := hide hT11
          clear hT11 hk11
          go_wp2_with fail
          refine (unhide H9).mono ?_
          rintro e w12 ⟨rfl, hT12, hk12⟩
          have HXB := hide ((unhide HT11).far2 (unhide HXB) (unhide HFD) hk12)
          have HXA := hide ((unhide HT11).far2 (unhide HXA) (unhide HFC) hk12)
          have HUA := hide ((unhide HT11).far2 (unhide HUA) (unhide HFA) hk12)
          have HUB := hide ((unhide HT11).far2 (unhide HUB) (unhide HFB) hk12)
          have HE1 := hide (eqInts_any _ _ _ _ _ (unhide HUA) (unhide HUB) (by have := usedTo_le d.now n; unfold maxLen; omega))
          rw [decide_eq_true rfl] at HE1
          have HE2 := hide (fun q => eqBytes_any _ _ _ _ _ ((unhide HXA).drewN q) ((unhide HXB).drewN q) (by have h4 : d.now.length = n := (unhide HT10).two.now.len; rw [pack_length, h4]; unfold maxLen; omega))
          rw [decide_eq_true rfl] at HE2
          have HB12 := hide hT12.below
          clear hT12 hk12
          go_wp2_with fail
          refine (unhide HE1).mono ?_
          rintro e w13 ⟨rfl, k13, rfl⟩
          go_wp2_with fail
          refine (unhide HE2 _).mono ?_
          rintro e w14 ⟨rfl, k14, rfl⟩
          have hte := d.takeE_eq
          have hcl : d.left ≤ 2048 := by have h3 := cnt_le d.isOpen d.n; have h4 := (unhide HT10).cn; show cnt d.isOpen d.n ≤ 2048; omega
          by_cases hl0 : 0 < d.left
          · rw [if_pos hl0] at hte
            rw [hte]
            have hg : (0 : Int) < (d.left : Int) := by omega
            go_wp2
            go_ret
            refine ⟨ret_bool (by first | rfl | simp), ?_⟩
            exact (unhide HB12).trans ((keeps_drewN _ _).below (unhide HB12).size (fun _ f => f.elim))
          · rw [if_neg hl0] at hte
            rw [hte]
            have hg : decide ((0 : Int) < (d.left : Int)) = false := by simp; omega
            go_wp2
            go_ret
            refine ⟨ret_bool (by first | rfl | simp), ?_⟩
            exact (unhide HB12).trans ((keeps_drewN _ _).below (unhide HB12).size (fun _ f => f.elim))

set_option maxRecDepth 100000 in
set_option maxHeartbeats 400000 in
theorem spaceUndone_long (w : World) (n : Int) (ao bo : Option Addr) (al ac bl bc : Nat) (h : 2147483647 < al ∨ 2147483647 < bl) :
    Calls Try.prog 6 #[.int .i64 n, .slice ao al ac, .slice bo bl bc] w fun e w' => e = .returned (.bool true) ∧ Below w.heap.size w w' := by
  by_cases h1 : 2147483647 < al
  · have hd : decide ((2147483647 : Int) < (al : Int)) = true := by simp; omega
    clear h h1
    go_enter Try.func6, Try.ntmps6
    go_wp2_with fail
    refine (long_any _ _).mono ?_; rintro e w ⟨rfl, rfl⟩
    go_wp2
    go_ret
    exact ⟨rfl, Below.refl _ _⟩
  · have hd1 : decide ((2147483647 : Int) < (al : Int)) = false := by simp; omega
    have hd : decide ((2147483647 : Int) < (bl : Int)) = true := by simp; omega
    clear h h1
    go_enter Try.func6, Try.ntmps6
    go_wp2_with fail
    refine (long_any _ _).mono ?_; rintro e w ⟨rfl, rfl⟩
    go_wp2_with fail
    refine (long_any _ _).mono ?_; rintro e w ⟨rfl, rfl⟩
    go_wp2
    go_ret
    exact ⟨rfl, Below.refl _ _⟩

set_option maxRecDepth 100000 in
set_option maxHeartbeats 400000 in
theorem spaceUndone_arg (w : World) (n : Int) (ao bo : Option Addr) (al ac bl bc : Nat) (h1 : al ≤ 2147483647) (h2 : bl ≤ 2147483647) (h : n < 1 ∨ 2048 < n) :
    Calls Try.prog 6 #[.int .i64 n, .slice ao al ac, .slice bo bl bc] w fun e w' => e = .returned (.bool true) ∧ Below w.heap.size w w' := by
  have hd1 : decide ((2147483647 : Int) < (al : Int)) = false := by simp; omega
  have hd2 : decide ((2147483647 : Int) < (bl : Int)) = false := by simp; omega
  have HN := hide (fun w => new_no w n h)
  clear h1 h2
  by_cases h3 : n < 1
  all_goals
    go_enter Try.func6, Try.ntmps6
    go_wp2_with fail
    refine (long_any _ _).mono ?_; rintro e w ⟨rfl, rfl⟩
    go_wp2_with fail
    refine (long_any _ _).mono ?_; rintro e w ⟨rfl, rfl⟩
    go_wp2_with fail
    refine (unhide HN _).mono ?_; rintro e w ⟨rfl, rfl⟩
    go_wp2_with fail
    refine (unhide HN _).mono ?_; rintro e w ⟨rfl, rfl⟩
    go_wp2
    go_ret
    exact ⟨rfl, Below.refl _ _⟩

theorem undoneWalk (w : World) (a0 : Int) (o1 : Option Addr) (l1 c1 : Nat) (x1 : List Int) (hx1 : Cells w (.slice o1 l1 c1) (is x1)) (hl1 : x1.length = l1) (_hb1 : ∀ x ∈ x1, -9223372036854775808 ≤ x ∧ x ≤ 9223372036854775807)
    (o2 : Option Addr) (l2 c2 : Nat) (x2 : List Int) (hx2 : Cells w (.slice o2 l2 c2) (is x2)) (hl2 : x2.length = l2) (_hb2 : ∀ x ∈ x2, -9223372036854775808 ≤ x ∧ x ≤ 9223372036854775807) :
    Calls Try.prog 6 #[.int .i64 a0, .slice o1 l1 c1, .slice o2 l2 c2] w fun e w' => e = .returned (.bool true) ∧ Below w.heap.size w w' := by
  by_cases hlong : 2147483647 < l1 ∨ 2147483647 < l2
  · exact spaceUndone_long w a0 o1 o2 l1 c1 l2 c2 hlong
  · by_cases h : a0 < 1 ∨ 2048 < a0
    · exact spaceUndone_arg w a0 o1 o2 l1 c1 l2 c2 (by omega) (by omega) h
    · obtain ⟨n, rfl⟩ := Int.eq_ofNat_of_zero_le (show 0 ≤ a0 by omega)
      exact spaceUndone_any w n _ _ x1 x2 hx1 hx2 (by omega) (by omega) (by omega) (by omega)

end Go.Proofs.Ytdkihkgmldnpmaa
