import Derived.Test.YtdkihkgmldnpmabCa
namespace Go.Proofs.Ytdkihkgmldnpmab
open Go.RowKit Go.Maps

set_option maxRecDepth 100000 in
set_option maxHeartbeats 8000000 in
theorem keeps_any (w : World) (V B : Nat) (st : Nat → Slot) (k : Kp) (cl cb : Nat → List Int) (h : LK w V B st k cl cb) (hB : B ≤ w.heap.size) (o : OpA) (hO : OpAt w B o) :
    Calls Try.prog 21 #[.pointer (some ⟨k.K, 0, none⟩), .pointer (some ⟨V, 0, none⟩), .agg o.cells] w fun e w' => e = .returned (.tuple #[]) ∧ ∃ k' cl' cb', LK w' V B st k' cl' cb' ∧ k'.K = k.K ∧ Keeps (fun x => B ≤ x) w w' := by
  obtain ⟨j51, hi1, hy0, hy1, hy2⟩ := info_parts Try.info51
  obtain ⟨j37, hi2, hx0, hx1, hx2⟩ := info_parts Try.info37
  obtain ⟨wh, kd, a, bv0, bytes⟩ := o
  obtain ⟨bo, bc, hbv⟩ := hO.bits.form
  simp only [bs_length] at hbv
  subst hbv
  simp only [OpA.cells]
  obtain ⟨i, hi, hi3⟩ := mod3 wh
  obtain ⟨i2, hi', hi23⟩ := mod3 ((i : Int) + 1)
  obtain ⟨w1, hw1⟩ : ∃ w1, w1 = w.alloc (.cells #[.int .i64 wh, .int .i64 kd, .int .i64 a, .slice bo bytes.length bc] 39) := ⟨_, rfl⟩
  have hb1 : w1.heap[w.heap.size]? = some (.cells #[.int .i64 wh, .int .i64 kd, .int .i64 a, .slice bo bytes.length bc] 39 (0, 0)) := by rw [hw1]; exact heap_alloc_new w _
  have hk1 : Keeps (fun _ => False) w w1 := by rw [hw1]; exact (Keeps.refl _ _).alloc _
  have h1 := h.keep hk1
  have hwho := who_any wh
  rw [hi] at hwho
  have HWH := hide hwho
  have HI := hide hi
  have HI2 : Hid (IntKind.i64.wrap ((i : Int) + 1) % 3 = (i2 : Int)) := by
    rw [show IntKind.i64.wrap ((i : Int) + 1) = (i : Int) + 1 from by
      obtain rfl | rfl | rfl : i = 0 ∨ i = 1 ∨ i = 2 := by omega
      all_goals first | rfl | decide]
    exact hi'
  have hB1 : B ≤ w1.heap.size := Nat.le_trans hB hk1.size
  have hi0 : (0 : Int) ≤ (i : Int) := by omega
  have hi3' : (i : Int) < 3 := by omega
  have hi20 : (0 : Int) ≤ (i2 : Int) := by omega
  have hi23' : (i2 : Int) < 3 := by omega
  have HB1 : Hid (∃ c, w1.heap[w.heap.size]? = some (.cells c 39 (0, 0)) ∧ c[0]? = some (.int .i64 wh)) := ⟨_, hb1, rfl⟩
  have HW1 := hide hw1
  have HK1 := hide hk1
  have HH1 := hide h1
  clear h hO hb1 hw1 hk1 h1 hwho hi hi'
  go_enter Try.func21, Try.ntmps21
  go_wp2_with fail
  rw [← unhide HW1]
  go_loopw [6] (fun iv wr => ∃ (n : Nat) (k' : Kp) (cl' cb' : Nat → List Int), n ≤ 3 ∧ iv = .int .i64 n ∧ LK wr V B st k' cl' cb' ∧ k'.K = k.K ∧ Keeps (fun x => B ≤ x) w wr ∧ (∃ c, wr.heap[w.heap.size]? = some (.cells c 39 (0, 0)) ∧ c[0]? = some (.int .i64 wh)) ∧ B ≤ wr.heap.size) (fun iv _ => 3 - (intOf iv).toNat)
  case atStart => exact ⟨0, k, cl, cb, by omega, rfl, unhide HH1, rfl, (unhide HK1).any, unhide HB1, hB1⟩
  case round =>
    obtain ⟨n, k', cl', cb', hn, rfl, hL, hKK, hKp, hOb, hBr⟩ := hrel
    obtain ⟨K, lv, bv, ll, bl⟩ := k'
    simp only at hKK
    subst hKK
    obtain ⟨lo', lc, e1, _⟩ := own_form hL.k.rl
    simp only at e1
    subst e1
    have hblk := hL.k.blk
    have c0 := cell_of_blk hblk 0
    simp at c0
    have hll : (ll.length : Int) ≤ 200 := by have := hL.k.most; simp only at this; omega
    have hll0 : (0 : Int) ≤ (ll.length : Int) := by omega
    have hKlt := lt_of_block hblk
    simp only at hKlt
    have HL := hide hL
    have HKp := hide hKp
    have HOb := hide hOb
    clear hL hKp hOb hblk
    by_cases hlt : n < 3
    · have hn1 : (n : Int) < 3 := by omega
      by_cases hmost : ll.length < 200
      · have hm1 : (ll.length : Int) < 200 := by omega
        obtain ⟨oc, hoc, hoc0⟩ := unhide HOb
        have d0 := cell_of_blk hoc 0
        rw [hoc0] at d0
        have hVlt := lt_of_block (unhide HL).t.blk
        have HOC := hide hoc
        clear hoc hoc0
        by_cases hone : n = 1
        case' pos =>
          subst hone
          obtain ⟨pv, _⟩ := slot_cells (unhide HL).t i hi3
          obtain ⟨pp0, hpp0⟩ : ∃ pp, slotP (st i) = .pointer pp := ⟨_, rfl⟩
          rw [hpp0] at pv
          obtain ⟨pv2, _⟩ := slot_cells (unhide HL).t i2 hi23
          obtain ⟨pp, hpp⟩ : ∃ pp, slotP (st i2) = .pointer pp := ⟨_, rfl⟩
          rw [hpp] at pv2
          have HPP := hide hpp
          clear hpp hpp0
          go_wp2_with fail
          go_region_held3 (fun w' => w'.cell? ⟨w.heap.size, 0, none⟩ = some (.int .i64 wh) ∧ w'.cell? ⟨V, i, none⟩ = some (.pointer pp0))
            (go_keep)
            (first | (go_at_call 8; refine (unhide HWH _).mono ?_; rintro e wa ⟨rfl, rfl⟩))
          go_wp2_with fail
          go_region_held3 (fun w' => w'.cell? ⟨w.heap.size, 0, none⟩ = some (.int .i64 wh) ∧ w'.cell? ⟨V, i2, none⟩ = some (.pointer pp))
            (go_keep)
            (first
              | (go_at_call 8; refine (who_any _ _).mono ?_; rintro e wa ⟨rfl, rfl⟩; first | rw [unhide HI] | rw [unhide HI2]))
          obtain ⟨wc, hwc⟩ : ∃ wc, wc = wr.drew.drew := ⟨_, rfl⟩
          have hkc : Keeps (fun _ => False) wr wc := by rw [hwc]; exact (Keeps.refl _ wr).drew.drew
          rw [← hwc]
          obtain ⟨q, hq⟩ : ∃ q, q = i2 := ⟨_, rfl⟩
          rw [← hq] at HPP
        case' neg =>
          have hone' : ((n : Int) == 1) = false := beq_eq_false_iff_ne.2 (by omega)
          obtain ⟨pv, _⟩ := slot_cells (unhide HL).t i hi3
          obtain ⟨pp, hpp⟩ : ∃ pp, slotP (st i) = .pointer pp := ⟨_, rfl⟩
          rw [hpp] at pv
          have HPP := hide hpp
          clear hpp
          go_wp2_with fail
          go_region_held3 (fun w' => w'.cell? ⟨w.heap.size, 0, none⟩ = some (.int .i64 wh) ∧ w'.cell? ⟨V, i, none⟩ = some (.pointer pp))
            (go_keep)
            (first | (go_at_call 8; refine (unhide HWH _).mono ?_; rintro e wa ⟨rfl, rfl⟩))
          obtain ⟨wc, hwc⟩ : ∃ wc, wc = wr.drew := ⟨_, rfl⟩
          have hkc : Keeps (fun _ => False) wr wc := by rw [hwc]; exact (Keeps.refl _ wr).drew
          rw [← hwc]
          obtain ⟨q, hq⟩ : ∃ q, q = i := ⟨_, rfl⟩
          rw [← hq] at HPP
        all_goals
          clear hwc hq
          have hc := (unhide HL).keep hkc
          obtain ⟨l, hl, hp⟩ := p_used hc.t q
          rw [unhide HPP] at hp
          have HP := hide hp
          have HC := hide hc
          have HKC := hide hkc
          clear hp hc hkc
          go_wp2_with fail
          refine (unhide HP).mono ?_
          rintro e w3 ⟨ao, cap, rfl, hrow, hk3⟩
          obtain ⟨l2, hl2, hp2⟩ := p_bits ((unhide HC).keep hk3).t q
          rw [unhide HPP] at hp2
          have HP2 := hide hp2
          have HROW := hide hrow
          have HK3 := hide hk3
          clear hp2 hrow hk3 HP
          go_wp2_with fail
          refine (unhide HP2).mono ?_
          rintro e w4 ⟨ao2, cap2, rfl, hrow2, hk4⟩
          have hkc4 : Keeps (fun _ => False) wc w4 := (unhide HK3).trans hk4
          have h4 := (unhide HC).keep hkc4
          have hsz4 := hkc4.size
          have hszc := (unhide HKC).size
          have hB4 : B ≤ w4.heap.size := by omega
          have rowL : w4.ownsRow wc.heap.size 3 1 (.slice ao l.length cap) l.length (is l) := ownsRow_kept (unhide HROW) hk4 (fun _ _ => id)
          have rowB : w4.ownsRow wc.heap.size 5 1 (.slice ao2 l2.length cap2) l2.length (bs l2) := ownsRow_lower hrow2 (unhide HK3).size
          have hblk4 := h4.k.blk
          have g0 := cell_of_blk hblk4 0
          have g1' := cell_of_blk hblk4 1
          simp at g0 g1'
          have f4 : ∀ j, w4.frozen? ⟨k.K, j, none⟩ = false := frozen_of_blk hblk4
          have hKlt4 := lt_of_block hblk4
          simp only at hKlt4
          have hnl : (Value.slice lo' ll.length lc).ownBlock ≠ some k.K := fun e => by
            obtain ⟨_, c, h'⟩ := rowBlock h4.k.rl e; rw [hblk4] at h'; cases h'
          have hnb : bv.ownBlock ≠ some k.K := fun e => by
            obtain ⟨_, c, h'⟩ := rowBlock h4.k.rb e; rw [hblk4] at h'; cases h'
          have hlb : ∀ x, (Value.slice lo' ll.length lc).ownBlock = some x → bv.ownBlock ≠ some x := fun x hx => row_ne h4.k.rl h4.k.rb (by decide) hx
          have HNLB : Hid (bl.length = ll.length) := h4.k.nlb
          have hbl : bl.length < 200 := by have := h4.k.nlb; simp only at this; omega
          have RL := hide (show w4.ownsRow B 51 1 (.slice lo' ll.length lc) ll.length ll from h4.k.rl)
          have RB := hide (show w4.ownsRow B 37 1 bv bl.length bl from h4.k.rb)
          have HBLK4 := hide hblk4
          have H4 := hide h4
          have HKC4 := hide hkc4
          have HRL := hide rowL
          have HRB := hide rowB
          have HNL := hide hnl
          have HNB := hide hnb
          have HLB := hide hlb
          clear hrow2 hk4 hkc4 h4 rowL rowB hblk4 hnl hnb hlb c0 pv HP2 HROW HK3
          go_wp2_with (first
            | (at_builtin
               refine wpList_append_lies _ rfl _ _ _ rfl B 51 j51 _ 1 24 Try.underlying32 hi1 hy0 hy1 hy2 rfl (by omega) (.slice lo' ll.length lc) ll.length ll rfl ((unhide RL).alloc _) ⟨w4.heap.size, 0, none⟩ 1 1 [.slice ao l.length cap] rfl rfl (World.news_of_block (cs := #[.slice ao l.length cap]) (t := 51) (fr := (0, 0)) (heap_alloc_new w4 _)) (by simp [Value.oneCell']) (by omega) (by unfold maxLen; omega) (by omega) (by simp; omega) (w4.heap.size + 1) (by simp) ?_
               intro g1 cap1 w5 hrl1 hgr1 hat1 hlt1
               have fs := field_step2 0 (unhide HBLK4) (unhide HNL) hrl1 hgr1 hat1
               have c50 := cell_of_blk fs.1 0
               have c51 := cell_of_blk fs.1 1
               simp at c50 c51
               have f5 : ∀ j, w5.frozen? ⟨k.K, j, none⟩ = false := frozen_of_blk fs.1
               have hKlt5 := lt_of_block fs.1
               have FS := hide fs
               have HAT1 := hide hat1
               have RB6 := hide (ownsRow_kept (unhide RB) fs.2.2.2 (fun q hq h => h.elim (fun e => unhide HNB (e ▸ hq)) (fun e => unhide HLB q e hq)))
               have hs5 : w4.heap.size + 1 ≤ w5.heap.size := by have := hgr1.size; simp at this; omega
               clear fs hrl1 hgr1 hat1 g0 g1')
            | (at_builtin
               refine wpList_append_lies _ rfl _ _ _ rfl B 37 j37 _ 1 24 Try.underlying33 hi2 hx0 hx1 hx2 rfl (by omega) bv bl.length bl rfl ((unhide RB6).alloc _) ⟨w5.heap.size, 0, none⟩ 1 1 [.slice ao2 l2.length cap2] rfl rfl (World.news_of_block (cs := #[.slice ao2 l2.length cap2]) (t := 37) (fr := (0, 0)) (by have := heap_alloc_new (w5.setCell ⟨k.K, 0, none⟩ (.slice (some ⟨g1, 0, none⟩) (ll.length + 1) cap1)) (.cells #[.slice ao2 l2.length cap2] 37); simpa using this)) (by simp [Value.oneCell']) (by omega) (by unfold maxLen; omega) (by omega) (by simp; omega) (w5.heap.size + 1) (by simp) ?_
               intro g2 cap3 w7 hrb1 hgr2 hat2 hlt2
               have fs2 := field_step2 1 (unhide FS).2.1 (unhide HNB) hrb1 hgr2 (by simpa using hat2)
               have c71 := cell_of_blk fs2.1 1
               simp at c71
               have f7 : ∀ j, w7.frozen? ⟨k.K, j, none⟩ = false := frozen_of_blk fs2.1
               have hKlt7 := lt_of_block fs2.1
               have FS2 := hide fs2
               have hs7 : w5.heap.size + 1 ≤ w7.heap.size := by have := hgr2.size; simp at this; omega
               clear fs2 hrb1 hgr2 hat2))
          obtain ⟨w6, hw6⟩ : ∃ w6, w6 = w5.setCell ⟨k.K, 0, none⟩ (.slice (some ⟨g1, 0, none⟩) (ll.length + 1) cap1) := ⟨_, rfl⟩
          obtain ⟨w8, hw8⟩ : ∃ w8, w8 = w7.setCell ⟨k.K, 1, none⟩ (.slice (some ⟨g2, 0, none⟩) (bl.length + 1) cap3) := ⟨_, rfl⟩
          rw [← hw6] at FS FS2 RB6
          rw [← hw8] at FS2
          rw [← hw8]
          have ka := (unhide FS).2.2.2
          have kb := (unhide FS2).2.2.2
          have hc := unhide HC
          have h4 := unhide H4
          have kab : Keeps (fun x => Kp.own ⟨k.K, .slice lo' ll.length lc, bv, ll, bl⟩ x) w4 w8 := (ka.mono (fun x _ e => e.elim Or.inl (fun e => Or.inr (Or.inl e)))).trans (kb.mono (fun x _ e => e.elim Or.inl (fun e => Or.inr (Or.inr e))))
          have rl8 := ownsRow_kept (unhide FS).2.2.1 kb (fun x hx e => e.elim (fun e => by
              obtain ⟨_, c, h'⟩ := rowBlock (unhide FS).2.2.1 hx
              rw [e, (unhide FS).2.1] at h'
              cases h') (fun e => row_ne (unhide FS).2.2.1 (unhide RB6) (by decide) hx e))
          have rb8 := (unhide FS2).2.2.1
          have hown_lt : ∀ x, Kp.own ⟨k.K, .slice lo' ll.length lc, bv, ll, bl⟩ x → x < wc.heap.size := fun x hx => by
            obtain ⟨_, c, t, h', _⟩ := hc.k.own_at hx
            exact lt_of_block h'
          have hF_lt : ∀ x, Kp.F ⟨k.K, .slice lo' ll.length lc, bv, ll, bl⟩ x → x < wc.heap.size := fun x hx => by
            obtain ⟨_, c, t, h', _⟩ := hc.k.F_at hx
            exact lt_of_block h'
          have hBc : B ≤ wc.heap.size := by omega
          have rowL8 := ownsRow_lower (ownsRow_kept (unhide HRL) kab (fun x hx e => by have := ((unhide HRL).lt x hx).1; have := hown_lt x e; omega)) hBc
          have rowB8 := ownsRow_lower (ownsRow_kept (unhide HRB) kab (fun x hx e => by have := ((unhide HRB).lt x hx).1; have := hown_lt x e; omega)) hBc
          have sl8 := (h4.k.sl.keep kab (fun x hx => h4.k.F_own (Or.inl hx))).snoc rowL8 hl (fun x hx e => by have := ((unhide HRL).lt x hx).1; have := hF_lt x (Or.inl e); omega)
          have sb8 := (h4.k.sb.keep kab (fun x hx => h4.k.F_own (Or.inr hx))).snoc rowB8 hl2 (fun x hx e => by have := ((unhide HRB).lt x hx).1; have := hF_lt x (Or.inr e); omega)
          have kept8 : KeptAt w8 B ⟨k.K, .slice (some ⟨g1, 0, none⟩) (ll.length + 1) cap1, .slice (some ⟨g2, 0, none⟩) (bl.length + 1) cap3, ll ++ [.slice ao l.length cap], bl ++ [.slice ao2 l2.length cap2]⟩ _ _ :=
            ⟨(unhide FS2).2.1, h4.k.lo, by simpa using rl8, by simpa using rb8, by have := unhide HNLB; simp; omega, by simp; omega, sl8, sb8⟩
          have l8 := hc.more kept8 ((unhide HKC4).any.trans kab) (by
            rintro x (hx | hx)
            · rcases inL_snoc hx with hx | hx
              · exact Or.inl (Or.inl hx)
              · exact Or.inr ((unhide HRL).lt x hx).1
            · rcases inL_snoc hx with hx | hx
              · exact Or.inl (Or.inr hx)
              · exact Or.inr ((unhide HRB).lt x hx).1)
          have HL8 := hide l8
          have HK8 := hide ((unhide HKp).trans ((unhide HKC).any.trans ((unhide HKC4).any.trans (kab.mono (fun x _ e => (h4.k.own_at e).1)))))
          have HO8 : Hid (∃ c, w8.heap[w.heap.size]? = some (.cells c 39 (0, 0)) ∧ c[0]? = some (.int .i64 wh)) := by
            obtain ⟨c, e1, e2⟩ := unhide HOb
            have e4 : w4.heap[w.heap.size]? = some (.cells c 39 (0, 0)) := (((unhide HKC).trans (unhide HKC4)).block _ (lt_of_block e1) id).trans e1
            refine ⟨c, (kab.block _ (lt_of_block e4) (fun ho => ?_)).trans e4, e2⟩
            obtain ⟨_, c', t, h5, h6⟩ := h4.k.own_at ho
            rw [e4] at h5
            simp at h5
            have e5 := h5.2
            rcases h6 with rfl | rfl | rfl <;> exact absurd e5 (by decide)
          have hB8 : B ≤ w8.heap.size := by have := kab.size; omega
          clear l8 kept8 sl8 sb8 rowL8 rowB8 hF_lt hown_lt rl8 rb8 kab h4 hc ka kb FS FS2
          go_roundw
          case rel => first | exact ⟨n + 1, _, _, _, by omega, by go_num, unhide HL8, rfl, unhide HK8, unhide HO8, hB8⟩ | exact ⟨2, _, _, _, by omega, by go_num, unhide HL8, rfl, unhide HK8, unhide HO8, hB8⟩
          case measure => first | (simp [intOf]; omega) | simp [intOf]
      · have hm1 : ¬ (ll.length : Int) < 200 := by omega
        go_wp2
        go_end0
        exact ⟨rfl, _, ⟨_, _, unhide HL⟩, rfl, unhide HKp⟩
    · have hn1 : ¬ (n : Int) < 3 := by omega
      go_wp2
      go_end0
      exact ⟨rfl, _, ⟨_, _, unhide HL⟩, rfl, unhide HKp⟩

end Go.Proofs.Ytdkihkgmldnpmab
