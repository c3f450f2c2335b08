import Derived.Test.YtdkihkgmldnpmabU
namespace Go.Proofs.Ytdkihkgmldnpmab
open Go.RowKit Go.Maps

theorem idx8' (k m : Nat) (h : k / 8 < m) : (k : Int) / 8 = ((k / 8 : Nat) : Int) ∧ ((k / 8 : Nat) : Int) < (m : Int) ∧ (k : Int) % 8 = ((k % 8 : Nat) : Int) ∧ k % 8 < 8 := by omega

set_option maxRecDepth 100000 in
set_option maxHeartbeats 1000000 in
theorem rbit_any (w : World) (v : Value) (l : List Int) (hR : Cells w v (bs l)) (hb : ∀ x ∈ l, 0 ≤ x ∧ x ≤ 255) (i : Nat) (hi : i / 8 < l.length) (hl : l.length ≤ 256) :
    Calls Try.prog 29 #[v, .int .i64 i] w fun e w' => e = .returned (.bool (bitI l i)) ∧ w' = w := by
  obtain ⟨b, off, c, rfl, hblt, hc⟩ := hR.cells (by rw [bs_length]; omega)
  rw [bs_length] at *
  have p0 := hc (i / 8) (.int .u8 l[i / 8]) (by rw [bs_get, List.getElem?_eq_getElem hi]; rfl)
  have hx := hb l[i / 8] (List.getElem_mem hi)
  have hbit : bitI l i = decide (bits .and .u8 l[i / 8] (pw (i % 8)) ≠ 0) := by
    unfold bitI; rw [List.getElem?_eq_getElem hi]; rfl
  obtain ⟨hq2, i3, i5, i6⟩ := idx8' i l.length hi
  obtain ⟨x, hx'⟩ := Int.eq_ofNat_of_zero_le hx.1
  have h8 := b8_div ⟨i % 8, i6⟩ ⟨x, by omega⟩
  simp only at h8
  rw [hx'] at p0 hbit
  rw [← hbit] at h8
  obtain ⟨hp1, hp2⟩ := pw_le (i % 8) i6
  have HP := hide (power_any w (i % 8) i6)
  have hxx : x ≤ 255 := by omega
  have hq9 : i / 8 ≤ 256 := by omega
  have hib : i ≤ 4096 := by omega
  obtain ⟨d, hd, hd0, hd1⟩ : ∃ d : Int, (x : Int) / pw (i % 8) = d ∧ 0 ≤ d ∧ d ≤ 255 := ⟨_, rfl, Int.ediv_nonneg (by omega) (by omega), Int.le_trans (Int.ediv_le_self _ (by omega)) (by omega)⟩
  rw [hd] at h8
  have hpz : (pw (i % 8) == 0) = false := by rw [beq_eq_false_iff_ne]; omega
  generalize bitI l i = r at *
  generalize pw (i % 8) = p at *
  generalize i / 8 = q at *
  generalize i % 8 = s at *
  clear hc hb hR hx hx' hbit hi
  go_enter Try.func29, Try.ntmps29
  go_wp2_with fail
  refine (unhide HP).mono ?_; rintro e w ⟨rfl, rfl⟩
  go_wp2
  go_ret
  exact ⟨rfl, rfl⟩

theorem part_range (f : List Bool) (k : Nat) : ∀ j, 0 ≤ part f k j ∧ part f k j ≤ pw j - 1
  | 0 => by simp [part, pw]
  | j + 1 => by
    have ih := part_range f k j
    have h1 : 0 < pw j := Int.pow_pos (by decide)
    rw [pw_succ]
    simp only [part]
    split <;> omega

set_option maxRecDepth 100000 in
set_option maxHeartbeats 2000000 in
theorem rbitmap_any (w : World) (B t : Nat) (T : TR) (b : Bk) (h : TriBk w B t T b) :
    Calls Try.prog 19 #[.pointer (some ⟨T.V, 0, none⟩)] w fun e w' => ∃ v, e = .returned v ∧ w'.ownsRow w.heap.size 5 1 v (nb b.n) (bs (pack b.now)) ∧ Keeps (fun _ => False) w w' := by
  obtain ⟨i0, hi, hz0, hz1, hz2⟩ := info_parts Try.info5
  have n2 := h.n2
  have HS := hide h
  have c0 := h.c0
  have hnb : nb b.n ≤ 256 := by unfold nb; omega
  have HNB : Hid (((b.n : Int) + 7) / 8 = ((nb b.n : Nat) : Int)) := by show _ = _; unfold nb; omega
  clear h
  go_enter Try.func19, Try.ntmps19
  go_wp2
  go_loopw [3, 4, 5, 6, 7] (fun o i _ _ _ wr => ∃ k : Nat, k ≤ nb b.n ∧ i = .int .i64 k ∧ wr.ownsRow w.heap.size 5 1 o k (bs ((pack b.now).take k)) ∧ Keeps (fun _ => False) w wr) (fun _ i _ _ _ _ => nb b.n - (intOf i).toNat)
  case atStart => exact ⟨0, Nat.zero_le _, rfl, by simpa [bs] using World.ownsRow_nil w w.heap.size 5 1, Keeps.refl _ _⟩
  case round =>
    obtain ⟨k, hk, rfl, hown, hkeep⟩ := hrel
    have HO := hide hown
    have HK := hide hkeep
    have d0 : wr.cell? ⟨T.V, 0, none⟩ = some (.slice (some ⟨T.g1, 0, none⟩) b.n T.c1) := ((unhide HS).keepF hkeep).c0
    have HSR := hide ((unhide HS).keepF hkeep)
    clear hown hkeep
    have hq := unhide HNB
    by_cases hlt : k < nb b.n
    · have i3 : (k : Int) < ((nb b.n : Nat) : Int) := by omega
      have HPK := hide (pack_get b.now k (by rw [(unhide HS).ln]; exact hlt))
      go_wp2
      clear i3
      go_loop [5, 6, 7] (fun a i _ => ∃ j : Nat, j ≤ 8 ∧ a = .int .i64 (part b.now k j) ∧ i = .int .i64 j) (fun _ i _ => 8 - (intOf i).toNat)
      case atStart => exact ⟨0, Nat.zero_le _, rfl, rfl⟩
      case round =>
        obtain ⟨j, hj, rfl, rfl⟩ := hrel
        have hpr := part_range b.now k j
        have HPS : Hid (part b.now k (j + 1) = part b.now k j + (if on b.now (8 * k + j) then pw j else 0)) := rfl
        by_cases hj8 : j < 8
        · obtain ⟨hp1, hp2⟩ := pw_le j hj8
          have hpa : part b.now k j ≤ 127 := by omega
          have hpb : 0 ≤ part b.now k j := hpr.1
          have HP := hide (fun w => power_any w j hj8)
          have hkk : k ≤ 256 := by omega
          clear hpr
          by_cases hin : 8 * k + j < b.n
          · have p1 := (unhide HSR).e1 hin
            have i5 : 8 * (k : Int) + (j : Int) = ((8 * k + j : Nat) : Int) := by omega
            have i6 : ((8 * k + j : Nat) : Int) < (b.n : Int) := by omega
            have i7 : (j : Int) < 8 := by omega
            have i9 : 8 * k + j ≤ 4096 := by omega
            clear hq
            cases hon : on b.now (8 * k + j) with
            | true =>
              rw [hon] at p1 HPS
              clear hon
              generalize part b.now k j = P at *
              generalize pw j = Q at *
              generalize 8 * k + j = m at *
              go_wp2_with fail
              refine (unhide HP _).mono ?_; rintro e wq ⟨rfl, rfl⟩
              go_wp2
              go_round
              case rel => exact ⟨j + 1, by omega, by rw [unhide HPS]; simp, by go_num⟩
              case measure => simp [intOf]; omega
            | false =>
              rw [hon] at p1 HPS
              clear hon
              generalize part b.now k j = P at *
              generalize pw j = Q at *
              generalize 8 * k + j = m at *
              go_wp2
              go_round
              case rel => exact ⟨j + 1, by omega, by rw [unhide HPS]; simp, by go_num⟩
              case measure => simp [intOf]; omega
          · have hon : on b.now (8 * k + j) = false := on_past (by rw [(unhide HS).ln]; omega)
            rw [hon] at HPS
            have i6 : (b.n : Int) ≤ 8 * (k : Int) + (j : Int) := by omega
            have i7 : (j : Int) < 8 := by omega
            clear hq hon
            generalize part b.now k j = P at *
            generalize pw j = Q at *
            go_wp2
            go_round
            case rel => exact ⟨j + 1, by omega, by rw [unhide HPS]; simp, by go_num⟩
            case measure => simp [intOf]; omega
        · obtain rfl : j = 8 := by omega
          have hpa : part b.now k 8 ≤ 255 := by have : pw 8 = 256 := rfl; omega
          have hpb : 0 ≤ part b.now k 8 := hpr.1
          have HPB : Hid (byteAt b.now k = part b.now k 8) := rfl
          have hmod : part b.now k 8 % 256 = part b.now k 8 := by omega
          clear hpr hq
          generalize part b.now k 8 = P at *
          go_wp2_with (at_builtin; refine wpList_append_lies _ rfl _ _ _ rfl w.heap.size 5 i0 _ 1 1 Try.underlying37 hi hz0 hz1 hz2 rfl (by omega) u3 k (bs ((pack b.now).take k)) rfl ((unhide HO).alloc _) ⟨wr.heap.size, 0, none⟩ 1 1 [.int .u8 P] rfl rfl (World.news_of_block (cs := #[.int .u8 P]) (t := 5) (fr := (0, 0)) (heap_alloc_new wr _)) (by simp [Value.oneCell']) (by omega) (by unfold maxLen; omega) (by omega) (by have := (unhide HK).size; simp; omega) (wr.heap.size + 1) (by simp) ?_; intro g cap w1 hown1 hgrow hat hlt1)
          go_roundw
          case rel =>
            refine ⟨k + 1, by omega, by go_num, ?_, ((unhide HK).alloc _).grown hgrow (fun q e hq => by have := ((unhide HO).lt q e).1; omega)⟩
            rw [take_snoc _ _ _ (unhide HPK), unhide HPB]
            simpa [bs] using hown1
          case measure => simp [intOf]; omega
    · have i3 : ¬ (k : Int) < ((nb b.n : Nat) : Int) := by omega
      have e : k = nb b.n := by omega
      go_wp2
      go_ret
      refine ⟨_, rfl, ?_, unhide HK⟩
      have h5 := unhide HO
      rw [List.take_of_length_le (by rw [pack_length, (unhide HS).ln, e]; exact Nat.le_refl _)] at h5
      rw [← e]
      exact h5

end Go.Proofs.Ytdkihkgmldnpmab
