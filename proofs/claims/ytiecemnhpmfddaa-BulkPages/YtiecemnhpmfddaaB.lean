import Derived.Test.YtiecemnhpmfddaaA
namespace Go.Proofs.Ytiecemnhpmfddaa
open Go.RowKit Go.Maps

/-- The nodes of the levels above one of so many, to those that are counted. -/
def tot (F : Int) : Nat → Int → Int → Int
  | 0, _, a => a
  | k + 1, n, a => if 1 < n then tot F k (few n F) (wrap64 (a + few n F)) else a
def pagesP (f l b n : Int) : Int := if n < 0 ∨ okM f l b = false then 0 else tot f (few n l).toNat (few n l) (few n l)
theorem tot_stop (F : Int) (k : Nat) (n a : Int) (h : n ≤ 1) : tot F k n a = a := by
  cases k
  · rfl
  · simp only [tot]
    rw [if_neg (by omega)]
/-- More rounds than there are nodes change nothing. -/
theorem tot_more (F : Int) (hF : 2 ≤ F) : ∀ (k j : Nat) (n a : Int), n ≤ k → n ≤ j → tot F k n a = tot F j n a
  | 0, j, n, a, h1, _ => by rw [tot_stop F 0 n a (by omega), tot_stop F j n a (by omega)]
  | k + 1, 0, n, a, _, h2 => by rw [tot_stop F (k + 1) n a (by omega), tot_stop F 0 n a (by omega)]
  | k + 1, j + 1, n, a, h1, h2 => by
    simp only [tot]
    split
    · rename_i h
      have := few_lt hF (show 2 ≤ n by omega)
      exact tot_more F hF k j _ _ (by omega) (by omega)
    · rfl
theorem tot_step {F : Int} (hF : 2 ≤ F) {n : Int} (a : Int) (h : 1 < n) : tot F n.toNat n a = tot F (few n F).toNat (few n F) (wrap64 (a + few n F)) := by
  obtain ⟨k, hk⟩ : ∃ k, n.toNat = k + 1 := ⟨n.toNat - 1, by omega⟩
  rw [hk]
  simp only [tot]
  rw [if_pos h]
  have := few_lt hF (show 2 ≤ n by omega)
  exact tot_more F hF _ _ _ _ (by omega) (by omega)
set_option maxRecDepth 100000 in
theorem bpages_v (w : World) (f l b n : Int) (hn : n ≤ 9223372036854775807) :
    Calls Try.prog 4 #[.agg #[.int .i64 f, .int .i64 l, .int .i64 b], .int .i64 n] w fun e w' => e = .returned (.int .i64 (pagesP f l b n)) ∧ Keeps (fun _ => False) w w' := by
  obtain ⟨p, hp⟩ : ∃ x, x = pagesP f l b n := ⟨_, rfl⟩
  rw [← hp]
  have hk0 := kAlloc w (.cells #[.int .i64 f, .int .i64 l, .int .i64 b] 23)
  have hX := heap_alloc_new w (.cells #[.int .i64 f, .int .i64 l, .int .i64 b] 23)
  have Q0 := bmeas_v (w.alloc (.cells #[.int .i64 f, .int .i64 l, .int .i64 b] 23)) f l b
  obtain ⟨ok, hok⟩ : ∃ x, x = okM f l b := ⟨_, rfl⟩
  rw [← hok] at Q0
  have Q := hide Q0
  clear Q0
  have HK0 := hide hk0
  have HX := hide hX
  have HP := hide (And.intro hp hok)
  clear hk0 hX hp hok
  go_enter Try.func4, Try.ntmps4
  go_wp2_with fail
  · have h0 : 0 ≤ n := by assumption
    refine (unhide Q).mono ?_
    rintro e w1 ⟨rfl, hk1⟩
    have HK1 := hide ((unhide HK0).trans hk1)
    have HB := hide (blk_keep hk1 (unhide HX))
    clear Q HK0 HX hk1
    cases ok
    · go_wp2_with fail
      go_ret
      obtain ⟨hp, hok⟩ := unhide HP
      exact ⟨ret_int (by rw [hp, pagesP, if_pos (Or.inr hok.symm)]), unhide HK1⟩
    · obtain ⟨hp, hok⟩ := unhide HP
      have h' := hok.symm
      simp only [okM, Bool.and_eq_true, decide_eq_true_eq] at h'
      obtain ⟨⟨⟨⟨g1, g2⟩, g3⟩, g4⟩, g5⟩ := h'
      have hp2 : p = tot f (few n l).toNat (few n l) (few n l) := by
        rw [hp, pagesP, if_neg (by rw [← hok]; simp; omega)]
      have c1 := cell_of_blk (unhide HB) 1
      simp at c1
      have Q2 := hide (few_v w1 n l g3 h0 hn g4)
      have R1 := few_range g3 h0 hn
      have HP2 := hide hp2
      clear hp hok hp2 HP
      go_wp2_with fail
      refine (unhide Q2).mono ?_
      rintro e w2 ⟨rfl, hk2⟩
      have HK2 := hide ((unhide HK1).trans hk2)
      have HB2 := hide (blk_keep hk2 (unhide HB))
      obtain ⟨m, hm⟩ : ∃ m, m = few n l := ⟨_, rfl⟩
      rw [← hm] at R1
      have HP3 := hide (show p = tot f m.toNat m m from by rw [hm]; exact unhide HP2)
      rw [← hm]
      clear hk2 HK1 HB Q2 HP2 hm c1
      go_wp2_with fail
      go_loopw [5, 6] (fun u v wx => ∃ x a : Int, u = .int .i64 x ∧ v = .int .i64 a ∧ 1 ≤ x ∧ x ≤ 9223372036854775807 ∧ p = tot f x.toNat x a ∧ Keeps (fun _ => False) w wx ∧ wx.heap[w.heap.size]? = some (.cells #[.int .i64 f, .int .i64 l, .int .i64 b] 23 (0, 0))) (fun u _ _ => (intOf u).toNat)
      case atStart => exact ⟨m, m, rfl, rfl, R1.1, R1.2, unhide HP3, unhide HK2, unhide HB2⟩
      case round =>
        obtain ⟨x, a, rfl, rfl, x1, x2, hp, hk, hb⟩ := hrel
        have c0 := cell_of_blk hb 0
        simp at c0
        have HK := hide hk
        have HB := hide hb
        have HP := hide hp
        clear hk hb hp HP3 HK2 HB2
        by_cases hlt : 1 < x
        · have Q3 := hide (few_v wr x f (by omega) (by omega) x2 (by omega))
          have L := few_lt (show (2 : Int) ≤ f by omega) (show (2 : Int) ≤ x by omega)
          go_wp2_with fail
          refine (unhide Q3).mono ?_
          rintro e wz ⟨rfl, hkz⟩
          have HKz := hide ((unhide HK).trans hkz)
          have HBz := hide (blk_keep hkz (unhide HB))
          have HT := hide ((unhide HP).trans (tot_step (show (2 : Int) ≤ f by omega) a hlt))
          clear Q3 HK HB hkz c0
          generalize few x f = y at *
          go_wp2_with fail
          go_roundw
          case rel => exact ⟨y, wrap64 (a + y), rfl, rfl, by omega, by omega, unhide HT, unhide HKz, unhide HBz⟩
          case measure => simp [intOf]; omega
        · have hp := unhide HP
          rw [tot_stop f _ x a (by omega)] at hp
          go_wp2_with fail
          go_ret
          exact ⟨ret_int (by first | rfl | exact hp.symm), unhide HK⟩
  · have h0 : n < 0 := by assumption
    obtain ⟨hp, hok⟩ := unhide HP
    go_ret
    exact ⟨ret_int (by rw [hp, pagesP, if_pos (Or.inl h0)]), unhide HK0⟩
set_option maxRecDepth 100000 in
theorem rpages_v (w : World) (f l b n : Int) (hn : n ≤ 9223372036854775807) :
    Calls Try.prog 5 #[.agg #[.int .i64 f, .int .i64 l, .int .i64 b], .int .i64 n] w fun e w' => e = .returned (.int .i64 (pagesP f l b n)) ∧ Keeps (fun _ => False) w w' := by
  obtain ⟨p, hp⟩ : ∃ x, x = pagesP f l b n := ⟨_, rfl⟩
  rw [← hp]
  have hk0 := kAlloc w (.cells #[.int .i64 f, .int .i64 l, .int .i64 b] 23)
  have hX := heap_alloc_new w (.cells #[.int .i64 f, .int .i64 l, .int .i64 b] 23)
  have Q0 := rmeas_v (w.alloc (.cells #[.int .i64 f, .int .i64 l, .int .i64 b] 23)) f l b
  obtain ⟨ok, hok⟩ : ∃ x, x = okM f l b := ⟨_, rfl⟩
  rw [← hok] at Q0
  have Q := hide Q0
  clear Q0
  have HK0 := hide hk0
  have HX := hide hX
  have HP := hide (And.intro hp hok)
  clear hk0 hX hp hok
  go_enter Try.func5, Try.ntmps5
  go_wp2_with fail
  · have h0 : 0 ≤ n := by assumption
    refine (unhide Q).mono ?_
    rintro e w1 ⟨rfl, hk1⟩
    have HK1 := hide ((unhide HK0).trans hk1)
    have HB := hide (blk_keep hk1 (unhide HX))
    clear Q HK0 HX hk1
    cases ok
    · go_wp2_with fail
      go_ret
      obtain ⟨hp, hok⟩ := unhide HP
      exact ⟨ret_int (by rw [hp, pagesP, if_pos (Or.inr hok.symm)]), unhide HK1⟩
    · obtain ⟨hp, hok⟩ := unhide HP
      have h' := hok.symm
      simp only [okM, Bool.and_eq_true, decide_eq_true_eq] at h'
      obtain ⟨⟨⟨⟨g1, g2⟩, g3⟩, g4⟩, g5⟩ := h'
      have hp2 : p = tot f (few n l).toNat (few n l) (few n l) := by
        rw [hp, pagesP, if_neg (by rw [← hok]; simp; omega)]
      have c1 := cell_of_blk (unhide HB) 1
      simp at c1
      have Q2 := hide (parts_v w1 n l g3 h0 hn g4)
      have R1 := few_range g3 h0 hn
      have HP2 := hide hp2
      clear hp hok hp2 HP
      go_wp2_with fail
      refine (unhide Q2).mono ?_
      rintro e w2 ⟨rfl, hk2⟩
      have HK2 := hide ((unhide HK1).trans hk2)
      have HB2 := hide (blk_keep hk2 (unhide HB))
      obtain ⟨m, hm⟩ : ∃ m, m = few n l := ⟨_, rfl⟩
      rw [← hm] at R1
      have HP3 := hide (show p = tot f m.toNat m m from by rw [hm]; exact unhide HP2)
      rw [← hm]
      clear hk2 HK1 HB Q2 HP2 hm c1
      go_wp2_with fail
      go_loopw [5, 6] (fun u v wx => ∃ x a : Int, u = .int .i64 x ∧ v = .int .i64 a ∧ 1 ≤ x ∧ x ≤ 9223372036854775807 ∧ p = tot f x.toNat x a ∧ Keeps (fun _ => False) w wx ∧ wx.heap[w.heap.size]? = some (.cells #[.int .i64 f, .int .i64 l, .int .i64 b] 23 (0, 0))) (fun u _ _ => (intOf u).toNat)
      case atStart => exact ⟨m, m, rfl, rfl, R1.1, R1.2, unhide HP3, unhide HK2, unhide HB2⟩
      case round =>
        obtain ⟨x, a, rfl, rfl, x1, x2, hp, hk, hb⟩ := hrel
        have c0 := cell_of_blk hb 0
        simp at c0
        have HK := hide hk
        have HB := hide hb
        have HP := hide hp
        clear hk hb hp HP3 HK2 HB2
        by_cases hlt : 1 < x
        · have Q3 := hide (parts_v wr x f (by omega) (by omega) x2 (by omega))
          have L := few_lt (show (2 : Int) ≤ f by omega) (show (2 : Int) ≤ x by omega)
          go_wp2_with fail
          refine (unhide Q3).mono ?_
          rintro e wz ⟨rfl, hkz⟩
          have HKz := hide ((unhide HK).trans hkz)
          have HBz := hide (blk_keep hkz (unhide HB))
          have HT := hide ((unhide HP).trans (tot_step (show (2 : Int) ≤ f by omega) a hlt))
          clear Q3 HK HB hkz c0
          generalize few x f = y at *
          go_wp2_with fail
          go_roundw
          case rel => exact ⟨y, wrap64 (a + y), rfl, rfl, by omega, by omega, unhide HT, unhide HKz, unhide HBz⟩
          case measure => simp [intOf]; omega
        · have hp := unhide HP
          rw [tot_stop f _ x a (by omega)] at hp
          go_wp2_with fail
          go_ret
          exact ⟨ret_int (by first | rfl | exact hp.symm), unhide HK⟩
  · have h0 : n < 0 := by assumption
    obtain ⟨hp, hok⟩ := unhide HP
    go_ret
    exact ⟨ret_int (by rw [hp, pagesP, if_pos (Or.inl h0)]), unhide HK0⟩
structure Box (w v : World) (f l b : Int) : Prop where
  keeps : Keeps (fun _ => False) w v
  blk : v.heap[w.heap.size]? = some (.cells #[.int .i64 f, .int .i64 l, .int .i64 b] 23 (0, 0))
theorem Box.cells {w v : World} {f l b : Int} (h : Box w v f l b) : v.cell? ⟨w.heap.size, 0, none⟩ = some (.int .i64 f) ∧ v.cell? ⟨w.heap.size, 1, none⟩ = some (.int .i64 l) ∧ v.cell? ⟨w.heap.size, 2, none⟩ = some (.int .i64 b) :=
  ⟨by rw [cell_of_blk h.blk]; rfl, by rw [cell_of_blk h.blk]; rfl, by rw [cell_of_blk h.blk]; rfl⟩
theorem Box.then {w v u : World} {f l b : Int} (h : Box w v f l b) (k : Keeps (fun _ => False) v u) : Box w u f l b := ⟨h.keeps.trans k, blk_keep k h.blk⟩
set_option maxRecDepth 100000 in
theorem pages_law (w : World) (f l b n : Int) (hn : n ≤ 9223372036854775807) :
    Calls Try.prog 3 #[.agg #[.int .i64 f, .int .i64 l, .int .i64 b], .int .i64 n] w fun e w' => e = .returned (.bool true) ∧ Keeps (fun _ => False) w w' := by
  have Q1 := fun (v : World) => bpages_v v f l b n hn
  have Q2 := fun (v : World) => rpages_v v f l b n hn
  obtain ⟨p, hp⟩ : ∃ x, x = pagesP f l b n := ⟨_, rfl⟩
  rw [← hp] at Q1 Q2
  have Q1 := hide Q1
  have Q2 := hide Q2
  have HX : Hid (Box w (w.alloc (.cells #[.int .i64 f, .int .i64 l, .int .i64 b] 23)).drew f l b) := ⟨(kAlloc w _).drew, heap_alloc_new w _⟩
  obtain ⟨c0, c1, c2⟩ := Box.cells (unhide HX)
  clear hp
  go_enter Try.func3, Try.ntmps3
  go_wp2_with fail
  generalize w.alloc (.cells #[.int .i64 f, .int .i64 l, .int .i64 b] 23) = W at *
  go_region_law (first
    | (go_simp; go_at_call 4; refine (unhide Q1 _).mono ?_; rintro e wa ⟨rfl, hka⟩; have HY := hide ((unhide HX).then hka); obtain ⟨d0, d1, d2⟩ := Box.cells (unhide HY); clear hka; dsimp only)
    | (go_simp; go_at_call 5; refine (unhide Q2 _).mono ?_; rintro e wb ⟨rfl, hkb⟩; have HZ := hide ((unhide HY).then hkb); clear hkb; dsimp only))
  all_goals (go_wp2_with fail; go_ret; exact ⟨ret_bool (by simp), (unhide HZ).keeps⟩)
end Go.Proofs.Ytiecemnhpmfddaa
