import Derived.Test.YtdkihkgmldnpmaaG
namespace Go.Proofs.Ytdkihkgmldnpmaa
open Go.RowKit Go.Maps

theorem wrap_nat (q : Nat) (h : q ≤ 16777216) : wrap64 (q : Int) = (q : Int) := IntWalk.wrap64_in _ (by omega)
theorem idx8 (k m : Nat) (h : k < 8 * m) : k / 8 < m ∧ (k : Int) / 8 = ((k / 8 : Nat) : Int) ∧ ((k / 8 : Nat) : Int) < (m : Int) ∧ (k : Int) < 8 * (m : Int) ∧ (k : Int) % 8 = ((k % 8 : Nat) : Int) ∧ k % 8 ≤ 7 := by omega

set_option maxRecDepth 100000 in
set_option maxHeartbeats 2000000 in
theorem spaceLoads_fit (w : World) (n : Nat) (v : Value) (l : List Int) (hR : Cells w v (bs l)) (hb : ∀ x ∈ l, 0 ≤ x ∧ x ≤ 255) (h1 : 1 ≤ n) (h2 : n ≤ 2048) (hl : l.length = nb n) :
    Calls Try.prog 3 #[.int .i64 n, v] w fun e w' => e = .returned (.bool true) ∧ Below w.heap.size w w' := by
  obtain ⟨i0, hi, hz0, hz1, hz2⟩ := info_parts Try.info3
  have hm : nb n ≤ 256 := by unfold nb; omega
  have hnm : n ≤ 8 * nb n := by unfold nb; omega
  have HC := hide (copyBytes_any w v l hR (by omega))
  have HN := hide (fun w v hR => load_fit w n h1 h2 v l hR hl)
  obtain ⟨ao, cap, rfl⟩ := hR.form
  have i1 : (1 : Int) ≤ (n : Int) := by omega
  have i2 : (n : Int) ≤ 2048 := by omega
  have hq : (((nb n : Nat) : Int) != ((n : Int) + 7) / 8) = false := by simp [nb]
  have HL := hide hl
  have HB := hide hb
  rw [bs_length, hl] at hR ⊢
  rw [bs_length, hl] at HC
  have HR := hide hR
  clear hR hb hl
  generalize hmn : nb n = m at *
  have HMN := hide hmn
  clear hmn
  go_enter Try.func3, Try.ntmps3
  go_wp2_with fail
  refine (unhide HC).mono ?_
  rintro e w1 ⟨v', rfl, ho, hk⟩
  have hcl := cells_row ho (by rw [bs_length]; exact unhide HL)
  have HK := hide hk
  have HN1 := hide (unhide HN w1 v' hcl)
  clear ho hk hcl
  go_wp2_with fail
  refine (unhide HN1).mono ?_
  rintro e w2 ⟨hk2, hcase⟩
  obtain ⟨pv, ev, rfl, hcase2⟩ : ∃ pv ev, e = .returned (.tuple #[pv, .int .i64 ev]) ∧ (((∀ i, n ≤ i → i < 8 * l.length → bitI l i = false) ∧ pv = .pointer (some ⟨w1.heap.size + 6, 0, none⟩) ∧ ev = 0 ∧ SpaceAt w2 w1.heap.size (loadedSP w1.heap.size n (unpack n l))) ∨
       ((∃ i, n ≤ i ∧ i < 8 * l.length ∧ bitI l i = true) ∧ pv = .pointer none ∧ ev = 31)) := by
    rcases hcase with ⟨a, b, c⟩ | ⟨a, b⟩
    · exact ⟨_, _, b, Or.inl ⟨a, rfl, rfl, c⟩⟩
    · exact ⟨_, _, b, Or.inr ⟨a, rfl, rfl⟩⟩
  have HCASE := hide hcase2
  have HK2 := hide ((unhide HK).trans hk2)
  clear hk2 hcase hcase2 HN1 HN HC
  go_wp2
  go_loopw [7, 8] (fun o i wr => ∃ k : Nat, k ≤ 8 * m ∧ i = .int .i64 k ∧ wr.ownsRow w2.heap.size 3 1 o (numsTo (bitI l) k).length (is (numsTo (bitI l) k)) ∧ Keeps (fun _ => False) w2 wr) (fun _ i _ => 8 * m - (intOf i).toNat)
  case atStart => exact ⟨0, Nat.zero_le _, rfl, by simpa [is, numsTo] using World.ownsRow_nil w2 w2.heap.size 3 1, Keeps.refl _ _⟩
  case round =>
    obtain ⟨k, hk, rfl, hown, hkeep⟩ := hrel
    have hul := numsTo_le (bitI l) k
    have HNM := hide hnm
    have HKK := hide hk
    have hkb : k ≤ 2048 := by omega
    clear hq hnm hk
    have HO := hide hown
    have HKR := hide hkeep
    clear hown hkeep
    by_cases hlt : k < 8 * m
    · obtain ⟨hk8, hq2, i3, i4, i5, i6⟩ := idx8 k m hlt
      have hk8' : k / 8 < l.length := by have := unhide HL; omega
      obtain ⟨b, off, c, e1, hblt, hc⟩ := (unhide HR).cells (by rw [bs_length]; omega)
      simp [bs_length, unhide HL] at e1
      obtain ⟨rfl, rfl⟩ := e1
      have p0 := ((unhide HKR).cell (o := off + k / 8) (Nat.lt_of_lt_of_le hblt (unhide HK2).size) id).trans (((unhide HK2).cell (o := off + k / 8) hblt id).trans (hc (k / 8) (.int .u8 l[k / 8]) (by rw [bs_get, List.getElem?_eq_getElem hk8']; rfl)))
      have HBL := hide (bit_law l (unhide HB) k hk8')
      have HU := hide (numsTo_succ (bitI l) k)
      have hq9 : k / 8 ≤ 256 := by omega
      have HLT := hide hlt
      generalize l[k / 8] = x at p0 HBL
      generalize k / 8 = q at *
      generalize k % 8 = r at *
      clear hc hlt hk8
      obtain ⟨u, HE⟩ : ∃ u, Hid (numsTo (bitI l) k = u) := ⟨_, rfl⟩
      rw [unhide HE] at HO HU hul
      cases hbt : bitI l k with
      | true =>
        rw [hbt] at HU HBL
        have hbe := unhide HBL
        clear HBL hbt
        go_wp2_with (at_builtin; refine wpList_append_lies _ rfl _ _ _ rfl w2.heap.size 3 i0 _ 1 8 Try.underlying28 hi hz0 hz1 hz2 rfl (by omega) u7 u.length (is u) rfl ((unhide HO).alloc _) ⟨wr.heap.size, 0, none⟩ 1 1 [.int .i64 (k : Int)] rfl rfl (World.news_of_block (cs := #[.int .i64 (k : Int)]) (t := 3) (fr := (0, 0)) (heap_alloc_new wr _)) (by simp [Value.oneCell']) (by omega) (by unfold maxLen; omega) (by omega) (by have := (unhide HKR).size; simp; omega) (wr.heap.size + 1) (by simp) ?_; intro g cap w1 hown1 hgrow hat hlt1)
        go_roundw
        case rel =>
          refine ⟨k + 1, by have := unhide HLT; omega, by go_num, ?_, ((unhide HKR).alloc _).grown hgrow (fun q e hq => by have := ((unhide HO).lt q e).1; omega)⟩
          rw [unhide HU]
          simpa [is] using hown1
        case measure => (have := unhide HLT); simp [intOf]; omega
      | false =>
        rw [hbt] at HU HBL
        have hbe := unhide HBL
        clear HBL hbt
        go_wp2
        go_roundw
        case rel =>
          refine ⟨k + 1, by have := unhide HLT; omega, by go_num, ?_, unhide HKR⟩
          rw [unhide HU]
          simp only [Bool.false_eq_true, if_false, List.append_nil]
          exact unhide HO
        case measure => (have := unhide HLT); simp [intOf]; omega
    · have hkm : k = 8 * m := by have := unhide HKK; omega
      subst hkm
      have hcu := cells_row (unhide HO) (is_length _)
      obtain ⟨uo, uc, rfl⟩ := hcu.form
      rw [is_length] at *
      have HCU := hide hcu
      clear hcu
      have hlen := unhide HL
      rcases unhide HCASE with ⟨hno, rfl, rfl, hsp⟩ | ⟨⟨i, hi1, hi2, hi3⟩, rfl, rfl⟩
      · have hnums : numsTo (bitI l) (8 * m) = usedTo (unpack n l) n := by
          have hnm := unhide HNM
          have := numsTo_cut (bitI l) n (8 * m - n) (fun i h3 h4 => hno i h3 (by omega))
          rw [show n + (8 * m - n) = 8 * m by omega] at this
          rw [this, usedTo_nums]
          exact numsTo_congr (fun i hi => (on_unpack n l i hi).symm)
        have hpk : pack (unpack n l) = l := pack_unpack n l (by rw [hlen, ← unhide HMN]; rfl) (unhide HB) hno
        have hlast : ∀ x ∈ numsTo (bitI l) (8 * m), x < (n : Int) := by
          intro x hx
          rw [hnums] at hx
          obtain ⟨i, rfl, h3, _⟩ := numsTo_mem hx
          omega
        have hspr := hsp.keepF (unhide HKR)
        have HU := hide (used_any wr _ _ hspr)
        have HBM := hide (fun w' (hk : Keeps (fun _ => False) wr w') => bitmap_any w' _ _ (hspr.keepF hk))
        have HLF := hide (fun w' (hk : Keeps (fun _ => False) wr w') => left_any w' _ _ (hspr.keepF hk))
        have hlu := left_used (unpack n l) (loadedSP w1.heap.size n (unpack n l)) (fun i => by
          simp only [SP.isOpen, loadedSP]
          cases on (unpack n l) i <;> rfl) n
        rw [← hnums] at hlu
        have HLU := hide hlu
        simp only [loadedSP, newSP] at HU HBM HLF HLU
        generalize SP.leftTo _ n = L at HLF HLU
        rw [← hnums] at HU
        rw [hpk] at HBM
        have HLT := hide hlast
        clear hnums hpk hlast hspr hlu hsp hno HCASE
        have hRr := (unhide HR).keepF ((unhide HK2).trans (unhide HKR))
        have HRR := hide hRr
        clear hRr HR
        have HKB := hide ((unhide HK2).trans (unhide HKR))
        clear HKR HK2
        generalize numsTo (bitI l) (8 * m) = u at *
        by_cases hu0 : u.length = 0
        case' pos =>
          obtain rfl := List.length_eq_zero_iff.1 hu0
          clear hu0
        case' neg =>
          obtain ⟨b, off, c, e1, hblt, hc⟩ := (unhide HCU).cells (by rw [is_length]; omega)
          simp [is_length] at e1
          obtain ⟨rfl, rfl⟩ := e1
          have hget := List.getElem?_eq_getElem (l := u) (show u.length - 1 < u.length by omega)
          have p1 := hc (u.length - 1) (.int .i64 _) (by rw [is_get, hget]; rfl)
          have hx := unhide HLT _ (List.mem_of_getElem? hget)
          generalize u[u.length - 1] = x at p1 hx
          clear hget hc
          have hg1 : (0 : Int) < (u.length : Int) := by omega
          have hg2 : ((u.length : Int) - 1) = ((u.length - 1 : Nat) : Int) := by omega
          have hg3 : ((u.length - 1 : Nat) : Int) < (u.length : Int) := by omega
        all_goals
          go_wp2_with fail
          refine (unhide HU).mono ?_
          rintro e w3 ⟨uv, rfl, ho3, hk3⟩
          have HC3 := hide (cells_row ho3 (is_length _))
          have HK3 := hide hk3
          clear ho3 hk3
          go_wp2_with fail
          refine (unhide HBM _ (unhide HK3)).mono ?_
          rintro e w4 ⟨rfl, hw4⟩
          have hk4 : Keeps (fun _ => False) w3 w4 := by rw [hw4]; exact (Keeps.refl _ _).alloc _
          have hc4 : Cells w4 (.slice (some ⟨w3.heap.size, 0, none⟩) (nb n) (nb n)) (bs l) := by
            have h4 : w4.heap[w3.heap.size]? = some (.cells (bs l).toArray 5 (0, 0)) := by rw [hw4]; exact heap_alloc_new w3 _
            have := cells_block (c := nb n) h4
            rwa [bs_length, unhide HL, ← unhide HMN] at this
          have HK4 := hide ((unhide HK3).trans hk4)
          have HC4 := hide hc4
          have HC34 := hide ((unhide HC3).keepF hk4)
          have HCU4 := hide (((unhide HCU).keepF (unhide HK3)).keepF hk4)
          have HRR4 := hide (((unhide HRR).keepF (unhide HK3)).keepF hk4)
          clear hw4 hk4 hc4
          go_wp2_with fail
          refine (unhide HLF _ (unhide HK4)).mono ?_
          rintro e w5 ⟨rfl, k5, rfl⟩
          have HE1 := hide (eqInts_any _ _ _ _ _ ((unhide HC34).drewN k5) ((unhide HCU4).drewN k5) (by first | (unfold maxLen; omega) | simp [maxLen]))
          rw [decide_eq_true rfl] at HE1
          go_wp2_with fail
          refine (unhide HE1).mono ?_
          rintro e w6 ⟨rfl, k6, rfl⟩
          have HE2 := hide (eqBytes_any _ _ _ l l ((unhide HC4).drewN (k5 + k6)) ((unhide HRR4).drewN (k5 + k6)) (by have := unhide HL; unfold maxLen; omega))
          rw [decide_eq_true rfl] at HE2
          go_wp2_with fail
          refine (unhide HE2).mono ?_
          rintro e w7 ⟨rfl, k7, rfl⟩
          have hlu := unhide HLU
          have hl1 : L ≤ 2048 := by omega
          first
            | have hl2 : ((n : Int) - ((u.length : Nat) : Int)) = (L : Int) := by omega
            | (simp only [List.length_nil, Nat.add_zero] at hlu; subst hlu)
          go_wp2
          go_ret
          refine ⟨ret_bool ?_, ((((unhide HKB).trans (unhide HK4)).drewN (k5 + k6 + k7))).below (Nat.le_refl _) (fun _ f => f.elim)⟩
          first | rfl | simp
      · obtain ⟨j, hj1, hj2, hj3⟩ := numsTo_last (bitI l) (8 * m) i (by omega) hi3
        have HKB := hide ((unhide HK2).trans (unhide HKR))
        clear HKR HK2 HCASE HR HNM HK
        generalize numsTo (bitI l) (8 * m) = u at *
        obtain ⟨b, off, c, e1, hblt, hc⟩ := (unhide HCU).cells (by rw [is_length]; omega)
        simp [is_length] at e1
        obtain ⟨rfl, rfl⟩ := e1
        have p1 := hc (u.length - 1) (.int .i64 (j : Int)) (by rw [is_get, hj2]; rfl)
        clear hc hj2
        have hx : (n : Int) ≤ (j : Int) := by omega
        have hg1 : (0 : Int) < (u.length : Int) := by omega
        have hg2 : ((u.length : Int) - 1) = ((u.length - 1 : Nat) : Int) := by omega
        have hg3 : ((u.length - 1 : Nat) : Int) < (u.length : Int) := by omega
        go_wp2
        go_ret
        exact ⟨rfl, (unhide HKB).below (Nat.le_refl _) (fun _ f => f.elim)⟩

end Go.Proofs.Ytdkihkgmldnpmaa
