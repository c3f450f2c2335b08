import Derived.Test.YtafniangljmjeaaDoorI
namespace Go.Proofs.YtafniangljmjeaaDoor
open Go.RowKit Go.Maps

theorem errS_bad {l : List FieldA} (h : schemaB l = false) : errS l = 60 := by simp [errS, h]
theorem errS_good {l : List FieldA} (h : schemaB l = true) : errS l = 0 := by simp [errS, h]
theorem schemaB_name {l : List FieldA} {f : FieldA} (hm : f ∈ l) (h : fieldOK f = false) : schemaB l = false := by
  have : l.all fieldOK = false := List.all_eq_false.2 ⟨f, hm, by simp [h]⟩
  simp [schemaB, this]
theorem schemaB_twice {l : List FieldA} {i j : Nat} {f g : FieldA} (hi : l[i]? = some f) (hj : l[j]? = some g) (hij : j < i) (h : g.name = f.name) : schemaB l = false := by
  have : ¬ (l.map FieldA.name).Nodup := by
    intro hn
    have e1 : (l.map FieldA.name)[j]? = some g.name := by simp [hj]
    have e2 : (l.map FieldA.name)[i]? = some f.name := by simp [hi]
    obtain ⟨hjl, e1'⟩ := List.getElem?_eq_some_iff.1 e1
    obtain ⟨hil, e2'⟩ := List.getElem?_eq_some_iff.1 e2
    have := List.pairwise_iff_getElem.1 hn j i hjl hil hij
    exact this (by rw [e1', e2', h])
  simp [schemaB, this]
theorem schemaB_end {l : List FieldA} (h1 : 1 ≤ l.length) (h2 : l.length ≤ 8) (h3 : l.all fieldOK = true) (h4 : (l.map FieldA.name).Nodup) : schemaB l = decide (widthB l ≤ 64) := by
  unfold schemaB
  rw [h3, decide_eq_true h1, decide_eq_true h2, decide_eq_true h4]
  rfl
theorem nodup_snoc {l : List FieldA} {f : FieldA} (h : (l.map FieldA.name).Nodup) (hn : ∀ g ∈ l, g.name ≠ f.name) : ((l ++ [f]).map FieldA.name).Nodup := by
  rw [List.map_append, List.nodup_append]
  refine ⟨h, by simp, ?_⟩
  intro a ha b hb
  obtain ⟨g, hg, rfl⟩ := List.mem_map.1 ha
  simp at hb
  subst hb
  exact hn g hg

set_option maxRecDepth 100000 in
set_option maxHeartbeats 2000000 in
theorem checkSchema_any (l : List FieldA) (v : Value) (w : World) (h : FldsAt w v l) :
    Calls Tryd.prog 52 #[.agg #[v]] w fun e w' => e = .returned (.int .i64 (errS l)) ∧ Keeps (fun _ => False) w w' := by
  obtain ⟨ao, cap, rfl⟩ := RowAt.form h
  obtain ⟨HB, hb, hbc⟩ := boxed w #[.slice ao l.length cap] 39
  have hp := hbc 0 (.slice ao l.length cap) rfl
  have HF := hide (h.keepF (unhide HB))
  clear hbc h
  by_cases hl1 : (l.length : Int) < 1
  · have HE : Hid (errS l = 60) := errS_bad (by unfold schemaB; rw [decide_eq_false (show ¬ 1 ≤ l.length by omega)]; simp)
    go_enter Tryd.func52, Tryd.ntmps52
    go_wp2
    go_ret
    exact ⟨ret_int (unhide HE).symm, (Keeps.refl _ _).alloc _⟩
  by_cases hl2 : (8 : Int) < (l.length : Int)
  · have HE : Hid (errS l = 60) := errS_bad (by unfold schemaB; rw [decide_eq_false (show ¬ l.length ≤ 8 by omega)]; simp)
    go_enter Tryd.func52, Tryd.ntmps52
    go_wp2
    go_ret
    exact ⟨ret_int (unhide HE).symm, (Keeps.refl _ _).alloc _⟩
  have hl3 : (1 : Int) ≤ (l.length : Int) := by omega
  have hl4 : (l.length : Int) ≤ 8 := by omega
  clear hl1 hl2
  go_enter Tryd.func52, Tryd.ntmps52
  go_wp2_with fail
  generalize w.alloc (.cells #[.slice ao l.length cap] 39) = w2 at *
  generalize w.heap.size = sb at *
  go_loopw [3] (fun i wr => ∃ k : Nat, k ≤ l.length ∧ i = .int .i64 k ∧ Hid ((l.take k).all fieldOK = true) ∧ Hid ((l.take k).map FieldA.name).Nodup ∧ Keeps (fun _ => False) w2 wr) (fun i _ => l.length - (intOf i).toNat)
  case atStart => exact ⟨0, Nat.zero_le _, rfl, by simp [Hid], by simp [Hid], Keeps.refl _ _⟩
  case round =>
    obtain ⟨k, hk, rfl, HA, HN, hkp⟩ := hrel
    have hp' := (hkp.cell (o := 0) hb id).trans hp
    cases h : l[k]? with
    | none =>
      have h1 := get_ge h
      obtain rfl : k = l.length := by omega
      rw [List.take_length] at HA HN
      have HW := hide (width_any l _ _ ((unhide HF).keepF hkp) (by omega))
      have HE := hide (schemaB_end (by omega) (by omega) (unhide HA) (unhide HN))
      have HK := hide hkp
      clear hkp h h1
      go_wp2_with fail
      refine (unhide HW).mono ?_
      rintro e w3 ⟨rfl, hk3⟩
      have HK3 := hide hk3
      clear hk3
      by_cases hw : (64 : Int) < widthB l
      · go_wp2_with fail
        go_ret
        exact ⟨ret_int (errS_bad (by rw [unhide HE]; exact decide_eq_false (by omega))).symm, ((unhide HB).trans (unhide HK)).trans (unhide HK3)⟩
      · go_wp2_with fail
        go_ret
        exact ⟨ret_int (errS_good (by rw [unhide HE]; exact decide_eq_true (by omega))).symm, ((unhide HB).trans (unhide HK)).trans (unhide HK3)⟩
    | some f =>
      have h1 := get_lt h
      obtain ⟨b, off, c, e, hbl, hc⟩ := (unhide HF).cells (by omega)
      simp at e
      obtain ⟨rfl, rfl⟩ := e
      have c0 := (hkp.cell hbl id).trans (hc k f h).1
      have c1 := (hkp.cell hbl id).trans (hc k f h).2.1
      have c2 := (hkp.cell hbl id).trans (hc k f h).2.2
      have HC := hide hc
      have HH := hide h
      have HK := hide hkp
      clear hkp h hc
      obtain ⟨HX, hxb, hxc⟩ := boxed wr #[str f.name, .int .i64 f.type, .bool f.opt] 62
      have x0 := hxc 0 (str f.name) rfl
      have x1 := hxc 1 (.int .i64 f.type) rfl
      go_wp2_with fail
      refine (name_any f.name _).mono ?_
      rintro e w4 ⟨rfl, hk4⟩
      have x0' := (hk4.cell hxb id).trans x0
      have x1' := (hk4.cell hxb id).trans x1
      have hxb' := Nat.lt_of_lt_of_le hxb hk4.size
      have HK4 := hide (((unhide HK).trans (unhide HX)).trans hk4)
      clear hxc x0 x1 hxb hk4 HX c0 c1 c2 hp'
      generalize wr.alloc _ = wd at *
      generalize wr.heap.size = fb at *
      have HO : Hid (fieldOK f = (nameB f.name && decide (0 ≤ wideB f.type))) := rfl
      go_wp2_with fail
      refine (wide_any f.type w4).mono ?_
      rintro e w5 ⟨rfl, rfl⟩
      have hp' := ((unhide HK4).cell (o := 0) hb id).trans hp
      cases hfo : fieldOK f with
      | false =>
        have HE : Hid (errS l = 60) := errS_bad (schemaB_name (List.mem_of_getElem? (unhide HH)) hfo)
        have ho := (unhide HO).symm.trans hfo
        generalize nameB f.name = nm at *
        generalize wideB f.type = wi at *
        clear hfo HO
        cases nm
        · go_wp2_with fail
          go_ret
          exact ⟨ret_int (unhide HE).symm, (unhide HB).trans (unhide HK4)⟩
        · have hw : wi < 0 := by simpa using ho
          clear ho
          go_wp2_with fail
          go_ret
          exact ⟨ret_int (unhide HE).symm, (unhide HB).trans (unhide HK4)⟩
      | true =>
        have ho := (unhide HO).symm.trans hfo
        rw [Bool.and_eq_true, decide_eq_true_eq] at ho
        obtain ⟨hnm, hwi⟩ := ho
        rw [hnm]
        generalize wideB f.type = wi at *
        have HFO := hide hfo
        clear hnm hfo HO
        go_wp2_with fail
        go_loopw [7] (fun i w6 => ∃ j : Nat, j ≤ k ∧ i = .int .i64 j ∧ Hid (∀ g ∈ l.take j, g.name ≠ f.name) ∧ Keeps (fun _ => False) w5 w6) (fun i _ => k - (intOf i).toNat)
        case atStart => exact ⟨0, Nat.zero_le _, rfl, by simp [Hid], Keeps.refl _ _⟩
        case round =>
          obtain ⟨j, hj, rfl, HD, hk6⟩ := hrel
          have HK6 := hide hk6
          by_cases hjk : j < k
          · obtain ⟨g, hg⟩ : ∃ g, l[j]? = some g := ⟨_, List.getElem?_eq_getElem (by omega)⟩
            have y0 := (hk6.cell hxb' id).trans x0'
            have hp6 := (hk6.cell (o := 0) (Nat.lt_of_lt_of_le hb (unhide HK4).size) id).trans hp'
            have g0 := (((unhide HK4).trans hk6).cell hbl id).trans ((unhide HC) j g hg).1
            have HG := hide hg
            clear hk6 hg
            have i1 : (j : Int) < (k : Int) := by omega
            have i2 : (j : Int) < (l.length : Int) := by omega
            go_wp2_with fail
            go_quiet (fail)
            go_wp2_with fail
            case roundEnd =>
              rename_i hne
              go_roundw
              case rel =>
                refine ⟨j + 1, by omega, by go_num, ?_, (unhide HK6).drewN _⟩
                intro x hx
                rw [take_snoc _ _ _ (unhide HG), List.mem_append] at hx
                rcases hx with hx | hx
                · exact unhide HD x hx
                · simp at hx; rw [hx]; simpa using hne
              case measure => simp [intOf]; omega
            rename_i hne
            have HE : Hid (errS l = 60) := errS_bad (schemaB_twice (unhide HH) (unhide HG) hjk (by simpa using hne))
            go_ret
            exact ⟨ret_int (unhide HE).symm, ((unhide HB).trans ((unhide HK4).trans (unhide HK6))).drewN _⟩
          · obtain rfl : j = k := by omega
            clear hk6
            go_wp2_with fail
            go_roundw
            case rel =>
              refine ⟨j + 1, by omega, by go_num, ?_, ?_, (unhide HK4).trans (unhide HK6)⟩
              · show _ = true
                rw [take_snoc _ _ _ (unhide HH), List.all_append, unhide HA]
                simp [unhide HFO]
              · show List.Nodup _
                rw [take_snoc _ _ _ (unhide HH)]
                exact nodup_snoc (unhide HN) (unhide HD)
            case measure => simp [intOf]; omega

end Go.Proofs.YtafniangljmjeaaDoor
