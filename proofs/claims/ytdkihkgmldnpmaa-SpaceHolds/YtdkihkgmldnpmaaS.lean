import Derived.Test.YtdkihkgmldnpmaaR
namespace Go.Proofs.Ytdkihkgmldnpmaa
open Go.RowKit Go.Maps

abbrev nilS : Value := .slice none 0 0

theorem Tri.grown {w w2 : World} {B t V : Nat} {nv mv lv : Value} {a b c : List Bool} {o : Obj} (h : Tri w B t V nv mv lv a b c) (hg : (w.alloc o).grownBy w2 nv.ownBlock) :
    Keeps (fun k => nv.ownBlock = some k) w w2 ∧ w2.cell? ⟨V, 0, none⟩ = some nv ∧ w2.frozen? ⟨V, 0, none⟩ = false := by
  have hK : Keeps (fun q => nv.ownBlock = some q) w w2 := ((Keeps.refl _ _).alloc _).grown hg (fun q e _ => e)
  have hb2 : w2.heap[V]? = some (.cells #[nv, mv, lv] t (0, 0)) := by rw [hK.block _ (lt_of_block h.blk) h.neV.1]; exact h.blk
  exact ⟨hK, by rw [cell_of_blk hb2]; rfl, frozen_of_blk hb2 0⟩

theorem tri_new (w : World) (t : Nat) (B : Nat) (hB : B ≤ w.heap.size) (t4 : t ≠ 4) : Tri (w.alloc (.cells #[nilS, nilS, nilS] t)) B t w.heap.size nilS nilS nilS [] [] [] :=
  ⟨heap_alloc_new w _, World.ownsRow_nil _ _ _ _, World.ownsRow_nil _ _ _ _, World.ownsRow_nil _ _ _ _, fun _ e => (by cases e), fun _ e => (by cases e), fun _ e => (by cases e), hB, t4⟩

section
variable {w0 w : World} {B n V g1 c1 m : Nat} {mv lv : Value} {a b c : List Bool} {bk : Bk}
theorem one_tri' {w' : World} {nv : Value} (h1 : One w0 w B n bk) (h2 : Tri w w0.heap.size 44 V nv mv lv a b c) (hk : Keeps (triHas V nv mv lv) w w') : One w0 w' B n bk :=
  ⟨h1.one.kept hk (fun _ e1 e2 => apart_kinds h1.one h2 (Or.inl rfl) e1 e2), h1.bn, h1.below.trans (hk.below h1.below.size h2.has_lo)⟩
theorem same_first (h1 : One w0 w B n bk) (h2 : Tri w w0.heap.size 44 V (.slice (some ⟨g1, 0, none⟩) m c1) mv lv a b c) (hm : a.length = m) (ha : 0 < m) (ha2 : m ≤ 2048) :
    Calls Try.prog 20 #[.slice (some ⟨g1, 0, none⟩) m c1] w fun e w' => ∃ g cp, e = .returned (.slice (some ⟨g, 0, none⟩) m cp) ∧ (∃ x, w'.cell? ⟨V, 1, none⟩ = some x) ∧ w'.frozen? ⟨V, 1, none⟩ = false ∧
      One w0 (w'.setCell ⟨V, 1, none⟩ (.slice (some ⟨g, 0, none⟩) m cp)) B n bk ∧ Tri (w'.setCell ⟨V, 1, none⟩ (.slice (some ⟨g, 0, none⟩) m cp)) w0.heap.size 44 V (.slice (some ⟨g1, 0, none⟩) m c1) (.slice (some ⟨g, 0, none⟩) m cp) lv a a c := by
  subst hm
  have hc := cells_row h2.r1 (bl_length _)
  refine (same_any w _ a hc ha2).mono ?_
  rintro e w' ⟨v, rfl, hr, hk⟩
  have h2' := h2.keepF hk
  obtain ⟨g, cp, rfl⟩ := row_form hr ha
  have hg := (hr.lt g rfl).1
  have hB : w0.heap.size ≤ w.heap.size := h1.below.size
  obtain ⟨h3, h4⟩ := h2'.set1 (ownsRow_lower hr hB) (fun k e e2 => by have := (h2.r1.lt k e2).2; simp [Value.ownBlock] at e; omega) (fun k e e2 => by have := (h2.r3.lt k e2).2; simp [Value.ownBlock] at e; omega)
  exact ⟨g, cp, rfl, ⟨_, h2'.c1⟩, h2'.fz 1, one_tri' (h1.keepF hk) h2' (h4.mono (fun k _ e => Or.inl e)), h3⟩
theorem same_second (h1 : One w0 w B n bk) (h2 : Tri w w0.heap.size 44 V (.slice (some ⟨g1, 0, none⟩) m c1) mv lv a b c) (hm : a.length = m) (ha : 0 < m) (ha2 : m ≤ 2048) :
    Calls Try.prog 20 #[.slice (some ⟨g1, 0, none⟩) m c1] w fun e w' => ∃ g cp, e = .returned (.slice (some ⟨g, 0, none⟩) m cp) ∧ (∃ x, w'.cell? ⟨V, 2, none⟩ = some x) ∧ w'.frozen? ⟨V, 2, none⟩ = false ∧
      One w0 (w'.setCell ⟨V, 2, none⟩ (.slice (some ⟨g, 0, none⟩) m cp)) B n bk ∧ Tri (w'.setCell ⟨V, 2, none⟩ (.slice (some ⟨g, 0, none⟩) m cp)) w0.heap.size 44 V (.slice (some ⟨g1, 0, none⟩) m c1) mv (.slice (some ⟨g, 0, none⟩) m cp) a b a := by
  subst hm
  have hc := cells_row h2.r1 (bl_length _)
  refine (same_any w _ a hc ha2).mono ?_
  rintro e w' ⟨v, rfl, hr, hk⟩
  have h2' := h2.keepF hk
  obtain ⟨g, cp, rfl⟩ := row_form hr ha
  have hg := (hr.lt g rfl).1
  have hB : w0.heap.size ≤ w.heap.size := h1.below.size
  obtain ⟨h3, h4⟩ := h2'.set2 (ownsRow_lower hr hB) (fun k e e2 => by have := (h2.r1.lt k e2).2; simp [Value.ownBlock] at e; omega) (fun k e e2 => by have := (h2.r2.lt k e2).2; simp [Value.ownBlock] at e; omega)
  exact ⟨g, cp, rfl, ⟨_, h2'.c2⟩, h2'.fz 2, one_tri' (h1.keepF hk) h2' (h4.mono (fun k _ e => Or.inl e)), h3⟩
end

theorem does_give (b : Bk) (k : Int) (h : 0 ≤ k) : b.does k = b.give k := by simp [Bk.does, h]

set_option maxRecDepth 100000 in
set_option maxHeartbeats 4000000 in
theorem spaceHolds_any (w : World) (n : Nat) (va : Value) (la : List Int) (hA : Cells w va (is la)) (h1 : 1 ≤ n) (h2 : n ≤ 2048) (hla : la.length ≤ 2147483647) :
    Calls Try.prog 5 #[.int .i64 n, va] w fun e w' => e = .returned (.bool true) ∧ Below w.heap.size w w' := by
  obtain ⟨i0, hi, hz0, hz1, hz2⟩ := info_parts Try.info4
  obtain ⟨ao, ac, rfl⟩ := hA.form
  simp only [is_length] at *
  have HA := hide hA
  clear hA
  have hNa : decide ((2147483647 : Int) < (la.length : Int)) = false := by simp; omega
  have i1 : (1 : Int) ≤ (n : Int) := by omega
  have i2 : (n : Int) ≤ 2048 := by omega
  go_enter Try.func5, Try.ntmps5
  go_wp2_with fail
  refine (long_any _ _).mono ?_; rintro e w ⟨rfl, rfl⟩
  clear hNa
  go_wp2_with fail
  refine (One.new _ n h1 h2).mono ?_
  rintro e w1 ⟨rfl, hO1⟩
  have HO1 := hide hO1
  have HT1 := hide (tri_new w1 44 w.heap.size hO1.below.size (by decide))
  obtain ⟨V, HV⟩ : ∃ V, Hid (w1.heap.size = V) := ⟨_, rfl⟩
  clear hO1
  go_wp2_with fail
  rw [unhide HV] at HT1 ⊢
  go_loopw [8] (fun i wr => ∃ k : Nat, k ≤ n ∧ i = .int .i64 k ∧ One w wr w.heap.size n (newBk n) ∧ ∃ nv, Tri wr w.heap.size 44 V nv nilS nilS (List.replicate k false) [] []) (fun i _ => n - (intOf i).toNat)
  case atStart => exact ⟨0, Nat.zero_le _, rfl, (unhide HO1).keepF ((Keeps.refl _ _).alloc _), nilS, unhide HT1⟩
  case round =>
    obtain ⟨k, hk, rfl, hO, nv, hT⟩ := hrel
    have HO := hide hO
    have HT := hide hT
    clear hO hT
    by_cases hlt : k < n
    · have c0 := (unhide HT).c0
      have HR1 : Hid (wr.ownsRow w.heap.size 4 1 nv k (bl (List.replicate k false))) := by
        have := (unhide HT).r1
        rwa [List.length_replicate] at this
      go_wp2_with (at_builtin; refine wpList_append_lies _ rfl _ _ _ rfl w.heap.size 4 i0 _ 1 1 Try.underlying42 hi hz0 hz1 hz2 rfl (by omega) nv k (bl (List.replicate k false)) rfl ((unhide HR1).alloc _) ⟨wr.heap.size, 0, none⟩ 1 1 [.bool false] rfl rfl (World.news_of_block (cs := #[.bool false]) (t := 4) (fr := (0, 0)) (heap_alloc_new wr _)) (by simp [Value.oneCell']) (by omega) (by unfold maxLen; omega) (by omega) (by have := (unhide HO).below.size; simp; omega) (wr.heap.size + 1) (by simp) ?_; intro g cap w2 hown1 hgrow hat hlt1; obtain ⟨hK, d0, d1⟩ := (unhide HT).grown hgrow; have HK := hide hK; have HW := hide hown1; have HAT := hide hat; clear hK hown1 hgrow hat)
      go_roundw
      case rel =>
        have hr : w2.ownsRow w.heap.size 4 1 (.slice (some ⟨g, 0, none⟩) (k + 1) cap) (List.replicate (k + 1) false).length (bl (List.replicate (k + 1) false)) := by
          have := unhide HW
          rw [List.length_replicate, List.replicate_succ']
          simpa [bl] using this
        obtain ⟨h3, h4⟩ := (unhide HT).grow0 (unhide HK) hr (fun q e => by
          simp [Value.ownBlock] at e
          rcases unhide HAT with h5 | h5
          · left; rw [h5, e]
          · right; omega)
        refine ⟨k + 1, by omega, by go_num, ⟨(unhide HO).one.kept h4 (fun _ e1 e2 => apart_kinds (unhide HO).one (unhide HT) (Or.inl rfl) e1 e2), (unhide HO).bn, (unhide HO).below.trans (h4.below (unhide HO).below.size (unhide HT).has_lo)⟩, _, h3⟩
      case measure => simp [intOf]; omega
    · obtain rfl : k = n := by omega
      have hln : (List.replicate k false).length = k := List.length_replicate
      obtain ⟨g1, c1, rfl⟩ := row_form (unhide HT).r1 (by rw [hln]; exact h1)
      rw [hln] at HT
      have HS1 := hide (same_first (unhide HO) (unhide HT) hln h1 h2)
      have d0 := (unhide HT).c0
      clear HO HT HO1 HT1
      go_wp2_with fail
      refine (unhide HS1).mono ?_
      rintro e w2 ⟨g2, c2, rfl, ⟨x, hx⟩, hfz, hO2, hT2⟩
      have HO2 := hide hO2
      have HT2 := hide hT2
      have d1 := hT2.c0
      have HS2 := hide (same_second hO2 hT2 hln h1 h2)
      clear hO2 hT2 hln
      go_wp2_with fail
      refine (unhide HS2).mono ?_
      rintro e w3 ⟨g3, c3, rfl, ⟨y, hy⟩, hfz3, hO3, hT3⟩
      have HI3 : Hid (HI w (w3.setCell ⟨V, 2, none⟩ (.slice (some ⟨g3, 0, none⟩) k c3)) w.heap.size k ⟨V, g1, c1, g2, c2, g3, c3⟩ (newBk k)) := ⟨hO3, hT3, List.length_replicate, List.length_replicate, List.length_replicate, h1, h2⟩
      clear hO3 hT3 HO2 HT2
      go_wp2_with fail
      clear hx hy hfz hfz3 d0 d1
      go_loopw [9, 10, 11, 12, 13] (fun i _ _ _ _ wr => ∃ (j g1 c1 g2 c2 g3 c3 : Nat) (b : Bk), j ≤ la.length ∧ i = .int .i64 j ∧ HI w wr w.heap.size k ⟨V, g1, c1, g2, c2, g3, c3⟩ b) (fun i _ _ _ _ _ => la.length - (intOf i).toNat)
      case atStart => exact ⟨0, _, _, _, _, _, _, _, Nat.zero_le _, rfl, unhide HI3⟩
      case round =>
        obtain ⟨j, g1, c1, g2, c2, g3, c3, b, hj, rfl, hI⟩ := hrel
        have HII := hide hI
        clear hI HI3
        by_cases hlt : j < la.length
        · obtain ⟨bb, off, cc, e1, hblt, hc⟩ := (unhide HA).cells (by rw [is_length]; omega)
          simp [is_length] at e1
          obtain ⟨rfl, rfl⟩ := e1
          obtain ⟨x, hx⟩ : ∃ x, la[j]? = some x := ⟨_, List.getElem?_eq_getElem hlt⟩
          have q0 := hc j (.int .i64 x) (by rw [is_get, hx]; rfl)
          have d0 := ((unhide HII).one.below.cell (p := ⟨bb, off + j, none⟩) hblt).trans q0
          have i3 : (j : Int) < (la.length : Int) := by omega
          have i4 : (0 : Int) ≤ (j : Int) := by omega
          have HQ := hide q0
          clear hc hx q0
          by_cases hx0 : 0 ≤ x
          · have H1 := hide ((unhide HII).give x)
            go_wp2_with fail
            refine (unhide H1).mono ?_
            rintro e w4 ⟨rfl, hO4, hT4⟩
            have d1 := (hO4.below.cell (p := ⟨bb, off + j, none⟩) hblt).trans (unhide HQ)
            have H2 := hide (hi_gave hO4 hT4)
            clear hO4 hT4
            go_wp2_with fail
            refine (unhide H2).mono ?_
            rintro e w5 ⟨rfl, hI5⟩
            have HI5 := hide hI5
            clear hI5
            go_wp2
            go_roundw
            case rel => exact ⟨j + 1, _, _, _, _, _, _, _, by omega, by go_num, unhide HI5⟩
            case measure => simp [intOf]; omega
          · by_cases hx1 : x = -1
            · subst hx1
              have H1 := hide (unhide HII).take
              clear hx0
              go_wp2_with fail
              refine (unhide H1).mono ?_
              rintro e w4 ⟨rfl, hO4, hT4⟩
              have H2 := hide (hi_took hO4 hT4)
              clear hO4 hT4
              go_wp2_with fail
              refine (unhide H2).mono ?_
              rintro e w5 ⟨rfl, hI5⟩
              have HI5 := hide hI5
              clear hI5
              go_wp2
              go_roundw
              case rel => exact ⟨j + 1, _, _, _, _, _, _, _, by omega, by go_num, unhide HI5⟩
              case measure => simp [intOf]; omega
            · by_cases hx2 : x = -2
              · subst hx2
                have H1 := hide (unhide HII).settle
                clear hx0 hx1
                go_wp2_with fail
                refine (unhide H1).mono ?_
                rintro e w4 ⟨rfl, hO4, hT4⟩
                have d1 := hT4.c0
                have H2 := hide (same_now hO4 hT4 1 (Or.inl rfl))
                simp only [if_true] at H2 d1
                clear hO4 hT4
                go_wp2_with fail
                refine (unhide H2).mono ?_
                rintro e w5 ⟨g4, c4, rfl, ⟨y, hy⟩, hfz, hO5, hT5⟩
                have d2 := hT5.c0
                have H3 := hide (same_now hO5 hT5 2 (Or.inr rfl))
                simp only [show ((2 : Nat) = 1) = False from by simp, if_false] at H3 d2
                clear hO5 hT5
                go_wp2_with fail
                refine (unhide H3).mono ?_
                rintro e w6 ⟨g5, c5, rfl, ⟨z, hz⟩, hfz6, hO6, hT6⟩
                have HI5 : Hid (HI w _ w.heap.size k ⟨V, g1, c1, g4, c4, g5, c5⟩ b.settle) := ⟨hO6, hT6⟩
                clear hO6 hT6
                go_wp2
                go_roundw
                case rel => exact ⟨j + 1, _, _, _, _, _, _, _, by omega, by go_num, unhide HI5⟩
                case measure => simp [intOf]; omega
              · by_cases hx3 : x = -3
                · subst hx3
                  have H1 := hide (unhide HII).mark
                  clear hx0 hx1 hx2
                  go_wp2_with fail
                  refine (unhide H1).mono ?_
                  rintro e w4 ⟨rfl, hO4, hT4⟩
                  have d1 := hT4.c0
                  have H2 := hide (same_now hO4 hT4 1 (Or.inl rfl))
                  simp only [if_true] at H2 d1
                  clear hO4 hT4
                  go_wp2_with fail
                  refine (unhide H2).mono ?_
                  rintro e w5 ⟨g4, c4, rfl, ⟨y, hy⟩, hfz, hO5, hT5⟩
                  have HI5 : Hid (HI w _ w.heap.size k ⟨V, g1, c1, g4, c4, g3, c3⟩ b.setMark) := ⟨hO5, hT5⟩
                  clear hO5 hT5
                  go_wp2
                  go_roundw
                  case rel => exact ⟨j + 1, _, _, _, _, _, _, _, by omega, by go_num, unhide HI5⟩
                  case measure => simp [intOf]; omega
                · by_cases hx4 : x = -4
                  · subst hx4
                    have H1 := hide (unhide HII).undo
                    clear hx0 hx1 hx2 hx3
                    go_wp2_with fail
                    refine (unhide H1).mono ?_
                    rintro e w4 ⟨rfl, hO4, hT4⟩
                    have d1 := hT4.c1
                    have H2 := hide (same_mark hO4 hT4)
                    simp only at H2 d1
                    clear hO4 hT4
                    go_wp2_with fail
                    refine (unhide H2).mono ?_
                    rintro e w5 ⟨g4, c4, rfl, ⟨y, hy⟩, hfz, hO5, hT5⟩
                    have HI5 : Hid (HI w _ w.heap.size k ⟨V, g4, c4, g2, c2, g3, c3⟩ b.undo) := ⟨hO5, hT5⟩
                    clear hO5 hT5
                    go_wp2
                    go_roundw
                    case rel => exact ⟨j + 1, _, _, _, _, _, _, _, by omega, by go_num, unhide HI5⟩
                    case measure => simp [intOf]; omega
                  · have e1 : (x == -1) = false := by rw [beq_eq_false_iff_ne]; exact hx1
                    have e2 : (x == -2) = false := by rw [beq_eq_false_iff_ne]; exact hx2
                    have e3 : (x == -3) = false := by rw [beq_eq_false_iff_ne]; exact hx3
                    have e4 : (x == -4) = false := by rw [beq_eq_false_iff_ne]; exact hx4
                    clear hx1 hx2 hx3 hx4
                    go_wp2
                    go_roundw
                    case rel => exact ⟨j + 1, _, _, _, _, _, _, _, by omega, by go_num, unhide HII⟩
                    case measure => simp [intOf]; omega
        · have HB := hide (unhide HII).one.below
          go_wp2
          go_ret
          exact ⟨rfl, unhide HB⟩

set_option maxRecDepth 100000 in
set_option maxHeartbeats 400000 in
theorem spaceHolds_long (w : World) (n : Int) (ao : Option Addr) (al ac : Nat) (h : 2147483647 < al) :
    Calls Try.prog 5 #[.int .i64 n, .slice ao al ac] w fun e w' => e = .returned (.bool true) ∧ Below w.heap.size w w' := by
  have hd : decide ((2147483647 : Int) < (al : Int)) = true := by simp; omega
  clear h
  go_enter Try.func5, Try.ntmps5
  go_wp2_with fail
  refine (long_any _ _).mono ?_; rintro e w ⟨rfl, rfl⟩
  go_wp2
  go_ret
  exact ⟨rfl, Below.refl _ _⟩

set_option maxRecDepth 100000 in
set_option maxHeartbeats 400000 in
theorem spaceHolds_arg (w : World) (n : Int) (ao : Option Addr) (al ac : Nat) (h1 : al ≤ 2147483647) (h : n < 1 ∨ 2048 < n) :
    Calls Try.prog 5 #[.int .i64 n, .slice ao al ac] w fun e w' => e = .returned (.bool true) ∧ Below w.heap.size w w' := by
  have hd1 : decide ((2147483647 : Int) < (al : Int)) = false := by simp; omega
  have HN := hide (fun w => new_no w n h)
  clear h1
  by_cases h3 : n < 1
  all_goals
    go_enter Try.func5, Try.ntmps5
    go_wp2_with fail
    refine (long_any _ _).mono ?_; rintro e w ⟨rfl, rfl⟩
    go_wp2_with fail
    refine (unhide HN _).mono ?_; rintro e w ⟨rfl, rfl⟩
    go_wp2
    go_ret
    exact ⟨rfl, Below.refl _ _⟩

theorem holdsWalk (w : World) (a0 : Int) (o1 : Option Addr) (l1 c1 : Nat) (x1 : List Int) (hx1 : Cells w (.slice o1 l1 c1) (is x1)) (hl1 : x1.length = l1) (_hb1 : ∀ x ∈ x1, -9223372036854775808 ≤ x ∧ x ≤ 9223372036854775807) :
    Calls Try.prog 5 #[.int .i64 a0, .slice o1 l1 c1] w fun e w' => e = .returned (.bool true) ∧ Below w.heap.size w w' := by
  by_cases hlong : 2147483647 < l1
  · exact spaceHolds_long w a0 o1 l1 c1 hlong
  · by_cases h : a0 < 1 ∨ 2048 < a0
    · exact spaceHolds_arg w a0 o1 l1 c1 (by omega) h
    · obtain ⟨n, rfl⟩ := Int.eq_ofNat_of_zero_le (show 0 ≤ a0 by omega)
      exact spaceHolds_any w n _ x1 hx1 (by omega) (by omega) (by omega)

end Go.Proofs.Ytdkihkgmldnpmaa
