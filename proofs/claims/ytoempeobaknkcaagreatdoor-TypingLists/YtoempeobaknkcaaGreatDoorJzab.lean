import Derived.Test.YtoempeobaknkcaaGreatDoorJzaa
namespace Go.Proofs.YtoempeobaknkcaaGreatDoor
open Go.RowKit Go.Maps

def wides (l : List FieldA) : Int := (l.map fun f => wideB f.type).sum
def widthB (l : List FieldA) : Int := headB l + wides l
theorem wides_snoc (l : List FieldA) (f : FieldA) : wides (l ++ [f]) = wides l + wideB f.type := by simp [wides, List.sum_append]
theorem wideB_range (t : Int) : -1 ≤ wideB t ∧ wideB t ≤ 21 := by unfold wideB; repeat' split
                                                                  all_goals omega
theorem wides_range : ∀ l : List FieldA, -(l.length : Int) ≤ wides l ∧ wides l ≤ 21 * (l.length : Int)
  | [] => by simp [wides]
  | f :: r => by
    have h1 := wides_range r
    have h2 := wideB_range f.type
    unfold wides at *
    simp only [List.map_cons, List.sum_cons, List.length_cons]
    omega
theorem headB_le (l : List FieldA) : headB l ≤ l.length := by
  unfold headB
  have := opts_le l
  rcases Nat.eq_zero_or_pos (opts l) with h | h
  · rw [h]; omega
  · omega

set_option maxRecDepth 100000 in
set_option maxHeartbeats 1000000 in
theorem width_any (l : List FieldA) (v : Value) (w : World) (h : FldsAt w v l) (hl : l.length ≤ 8) :
    Calls Tryz.prog 60 #[.agg #[v]] w fun e w' => e = .returned (.int .i64 (widthB l)) ∧ Keeps (fun _ => False) w w' := by
  obtain ⟨ao, cap, rfl⟩ := RowAt.form h
  obtain ⟨HB, hb, hbc⟩ := boxed w #[.slice ao l.length cap] 24
  have hp := hbc 0 (.slice ao l.length cap) rfl
  have hF2 := h.keepF (unhide HB)
  have HH := hide (head_any l _ _ hF2 (by omega))
  have hh := headB_le l
  have HE : Hid (widthB l = headB l + wides l) := rfl
  generalize widthB l = R at *
  generalize headB l = H at *
  have HF2 := hide hF2
  clear hbc h hF2
  go_enter Tryz.func60, Tryz.ntmps60
  go_wp2_with fail
  refine (unhide HH).mono ?_
  rintro e w2 ⟨rfl, hk⟩
  have HF3 := hide ((unhide HF2).keepF hk)
  have HB2 := hide ((unhide HB).trans hk)
  have hb2 : w.heap.size < w2.heap.size := Nat.lt_of_lt_of_le hb hk.size
  have hp2 := (hk.cell hb id).trans hp
  generalize w.alloc (.cells #[.slice ao l.length cap] 24) = w1 at *
  clear HH HF2 HB hk hp hb
  generalize w.heap.size = sb at *
  go_wp2_with fail
  go_loopw [3, 4] (fun n i wr => ∃ k : Nat, k ≤ l.length ∧ i = .int .i64 k ∧ n = .int .i64 (H + wides (l.take k)) ∧ Keeps (fun _ => False) w2 wr) (fun _ i _ => l.length - (intOf i).toNat)
  case atStart => exact ⟨0, Nat.zero_le _, rfl, by simp [wides], Keeps.refl _ _⟩
  case round =>
    obtain ⟨k, hk, rfl, rfl, hkp⟩ := hrel
    have hp' := (hkp.cell (o := 0) hb2 id).trans hp2
    have HK := hide hkp
    have ho := wides_range (l.take k)
    rw [List.length_take] at ho
    cases h : l[k]? with
    | none =>
      have h1 := get_ge h
      obtain rfl : k = l.length := by omega
      clear hkp h h1
      rw [List.take_length] at *
      go_wp2_with fail
      go_ret
      exact ⟨ret_int (unhide HE).symm, (unhide HB2).trans (unhide HK)⟩
    | some f =>
      have h1 := get_lt h
      obtain ⟨b, off, c, e, hbl, hc⟩ := (unhide HF3).cells (by omega)
      simp at e
      obtain ⟨rfl, rfl⟩ := e
      have c1 := (hkp.cell hbl id).trans (hc k f h).2.1
      have HO : Hid (wides (l.take (k + 1)) = wides (l.take k) + wideB f.type) := by show _ = _; rw [take_snoc _ _ _ h, wides_snoc]
      have hwr := wideB_range f.type
      generalize wides (l.take k) = o at *
      clear hkp h hc
      go_wp2_with fail
      refine (wide_any f.type wr).mono ?_
      rintro e w3 ⟨rfl, rfl⟩
      generalize wideB f.type = W at *
      go_wp2_with fail
      go_roundw
      case rel => exact ⟨k + 1, by omega, by go_num, by rw [unhide HO]; go_num, unhide HK⟩
      case measure => simp [intOf]; omega

/-- May a schema be so? -/
def fieldOK (f : FieldA) : Bool := nameB f.name && decide (0 ≤ wideB f.type)
def schemaB (l : List FieldA) : Bool := decide (1 ≤ l.length) && decide (l.length ≤ 8) && l.all fieldOK && decide (l.map FieldA.name).Nodup && decide (widthB l ≤ 64)
def errS (l : List FieldA) : Int := if schemaB l then 0 else 60

end Go.Proofs.YtoempeobaknkcaaGreatDoor
namespace Go.Proofs.YtoempeobaknkcaaGreatDoor
open Go.RowKit Go.Maps

theorem errS_bad {l : List FieldA} (h : schemaB l = false) : errS l = 60 := by simp [errS, h]
theorem errS_good {l : List FieldA} (h : schemaB l = true) : errS l = 0 := by simp [errS, h]
theorem schemaB_name {l : List FieldA} {f : FieldA} (hm : f ∈ l) (h : fieldOK f = false) : schemaB l = false := by
  have : l.all fieldOK = false := List.all_eq_false.2 ⟨f, hm, by simp [h]⟩
  simp [schemaB, this]
theorem schemaB_twice {l : List FieldA} {i j : Nat} {f g : FieldA} (hi : l[i]? = some f) (hj : l[j]? = some g) (hij : j < i) (h : g.name = f.name) : schemaB l = false := by
  have : ¬ (l.map FieldA.name).Nodup := by
    intro hn
    have e1 : (l.map FieldA.name)[j]? = some g.name := by simp [hj]
    have e2 : (l.map FieldA.name)[i]? = some f.name := by simp [hi]
    obtain ⟨hjl, e1'⟩ := List.getElem?_eq_some_iff.1 e1
    obtain ⟨hil, e2'⟩ := List.getElem?_eq_some_iff.1 e2
    have := List.pairwise_iff_getElem.1 hn j i hjl hil hij
    exact this (by rw [e1', e2', h])
  simp [schemaB, this]
theorem schemaB_end {l : List FieldA} (h1 : 1 ≤ l.length) (h2 : l.length ≤ 8) (h3 : l.all fieldOK = true) (h4 : (l.map FieldA.name).Nodup) : schemaB l = decide (widthB l ≤ 64) := by
  unfold schemaB
  rw [h3, decide_eq_true h1, decide_eq_true h2, decide_eq_true h4]
  rfl
theorem nodup_snoc {l : List FieldA} {f : FieldA} (h : (l.map FieldA.name).Nodup) (hn : ∀ g ∈ l, g.name ≠ f.name) : ((l ++ [f]).map FieldA.name).Nodup := by
  rw [List.map_append, List.nodup_append]
  refine ⟨h, by simp, ?_⟩
  intro a ha b hb
  obtain ⟨g, hg, rfl⟩ := List.mem_map.1 ha
  simp at hb
  subst hb
  exact hn g hg

set_option maxRecDepth 100000 in
set_option maxHeartbeats 2000000 in
theorem checkSchema_any (l : List FieldA) (v : Value) (w : World) (h : FldsAt w v l) :
    Calls Tryz.prog 41 #[.agg #[v]] w fun e w' => e = .returned (.int .i64 (errS l)) ∧ Keeps (fun _ => False) w w' := by
  obtain ⟨ao, cap, rfl⟩ := RowAt.form h
  obtain ⟨HB, hb, hbc⟩ := boxed w #[.slice ao l.length cap] 24
  have hp := hbc 0 (.slice ao l.length cap) rfl
  have HF := hide (h.keepF (unhide HB))
  clear hbc h
  by_cases hl1 : (l.length : Int) < 1
  · have HE : Hid (errS l = 60) := errS_bad (by unfold schemaB; rw [decide_eq_false (show ¬ 1 ≤ l.length by omega)]; simp)
    go_enter Tryz.func41, Tryz.ntmps41
    go_wp2
    go_ret
    exact ⟨ret_int (unhide HE).symm, (Keeps.refl _ _).alloc _⟩
  by_cases hl2 : (8 : Int) < (l.length : Int)
  · have HE : Hid (errS l = 60) := errS_bad (by unfold schemaB; rw [decide_eq_false (show ¬ l.length ≤ 8 by omega)]; simp)
    go_enter Tryz.func41, Tryz.ntmps41
    go_wp2
    go_ret
    exact ⟨ret_int (unhide HE).symm, (Keeps.refl _ _).alloc _⟩
  have hl3 : (1 : Int) ≤ (l.length : Int) := by omega
  have hl4 : (l.length : Int) ≤ 8 := by omega
  clear hl1 hl2
  go_enter Tryz.func41, Tryz.ntmps41
  go_wp2_with fail
  generalize w.alloc (.cells #[.slice ao l.length cap] 24) = w2 at *
  generalize w.heap.size = sb at *
  go_loopw [3] (fun i wr => ∃ k : Nat, k ≤ l.length ∧ i = .int .i64 k ∧ Hid ((l.take k).all fieldOK = true) ∧ Hid ((l.take k).map FieldA.name).Nodup ∧ Keeps (fun _ => False) w2 wr) (fun i _ => l.length - (intOf i).toNat)
  case atStart => exact ⟨0, Nat.zero_le _, rfl, by simp [Hid], by simp [Hid], Keeps.refl _ _⟩
  case round =>
    obtain ⟨k, hk, rfl, HA, HN, hkp⟩ := hrel
    have hp' := (hkp.cell (o := 0) hb id).trans hp
    cases h : l[k]? with
    | none =>
      have h1 := get_ge h
      obtain rfl : k = l.length := by omega
      rw [List.take_length] at HA HN
      have HW := hide (width_any l _ _ ((unhide HF).keepF hkp) (by omega))
      have HE := hide (schemaB_end (by omega) (by omega) (unhide HA) (unhide HN))
      have HK := hide hkp
      clear hkp h h1
      go_wp2_with fail
      refine (unhide HW).mono ?_
      rintro e w3 ⟨rfl, hk3⟩
      have HK3 := hide hk3
      clear hk3
      by_cases hw : (64 : Int) < widthB l
      · go_wp2_with fail
        go_ret
        exact ⟨ret_int (errS_bad (by rw [unhide HE]; exact decide_eq_false (by omega))).symm, ((unhide HB).trans (unhide HK)).trans (unhide HK3)⟩
      · go_wp2_with fail
        go_ret
        exact ⟨ret_int (errS_good (by rw [unhide HE]; exact decide_eq_true (by omega))).symm, ((unhide HB).trans (unhide HK)).trans (unhide HK3)⟩
    | some f =>
      have h1 := get_lt h
      obtain ⟨b, off, c, e, hbl, hc⟩ := (unhide HF).cells (by omega)
      simp at e
      obtain ⟨rfl, rfl⟩ := e
      have c0 := (hkp.cell hbl id).trans (hc k f h).1
      have c1 := (hkp.cell hbl id).trans (hc k f h).2.1
      have c2 := (hkp.cell hbl id).trans (hc k f h).2.2
      have HC := hide hc
      have HH := hide h
      have HK := hide hkp
      clear hkp h hc
      obtain ⟨HX, hxb, hxc⟩ := boxed wr #[str f.name, .int .i64 f.type, .bool f.opt] 67
      have x0 := hxc 0 (str f.name) rfl
      have x1 := hxc 1 (.int .i64 f.type) rfl
      go_wp2_with fail
      refine (name_any f.name _).mono ?_
      rintro e w4 ⟨rfl, hk4⟩
      have x0' := (hk4.cell hxb id).trans x0
      have x1' := (hk4.cell hxb id).trans x1
      have hxb' := Nat.lt_of_lt_of_le hxb hk4.size
      have HK4 := hide (((unhide HK).trans (unhide HX)).trans hk4)
      clear hxc x0 x1 hxb hk4 HX c0 c1 c2 hp'
      generalize wr.alloc _ = wd at *
      generalize wr.heap.size = fb at *
      have HO : Hid (fieldOK f = (nameB f.name && decide (0 ≤ wideB f.type))) := rfl
      go_wp2_with fail
      refine (wide_any f.type w4).mono ?_
      rintro e w5 ⟨rfl, rfl⟩
      have hp' := ((unhide HK4).cell (o := 0) hb id).trans hp
      cases hfo : fieldOK f with
      | false =>
        have HE : Hid (errS l = 60) := errS_bad (schemaB_name (List.mem_of_getElem? (unhide HH)) hfo)
        have ho := (unhide HO).symm.trans hfo
        generalize nameB f.name = nm at *
        generalize wideB f.type = wi at *
        clear hfo HO
        cases nm
        · go_wp2_with fail
          go_ret
          exact ⟨ret_int (unhide HE).symm, (unhide HB).trans (unhide HK4)⟩
        · have hw : wi < 0 := by simpa using ho
          clear ho
          go_wp2_with fail
          go_ret
          exact ⟨ret_int (unhide HE).symm, (unhide HB).trans (unhide HK4)⟩
      | true =>
        have ho := (unhide HO).symm.trans hfo
        rw [Bool.and_eq_true, decide_eq_true_eq] at ho
        obtain ⟨hnm, hwi⟩ := ho
        rw [hnm]
        generalize wideB f.type = wi at *
        have HFO := hide hfo
        clear hnm hfo HO
        go_wp2_with fail
        go_loopw [7] (fun i w6 => ∃ j : Nat, j ≤ k ∧ i = .int .i64 j ∧ Hid (∀ g ∈ l.take j, g.name ≠ f.name) ∧ Keeps (fun _ => False) w5 w6) (fun i _ => k - (intOf i).toNat)
        case atStart => exact ⟨0, Nat.zero_le _, rfl, by simp [Hid], Keeps.refl _ _⟩
        case round =>
          obtain ⟨j, hj, rfl, HD, hk6⟩ := hrel
          have HK6 := hide hk6
          by_cases hjk : j < k
          · obtain ⟨g, hg⟩ : ∃ g, l[j]? = some g := ⟨_, List.getElem?_eq_getElem (by omega)⟩
            have y0 := (hk6.cell hxb' id).trans x0'
            have hp6 := (hk6.cell (o := 0) (Nat.lt_of_lt_of_le hb (unhide HK4).size) id).trans hp'
            have g0 := (((unhide HK4).trans hk6).cell hbl id).trans ((unhide HC) j g hg).1
            have HG := hide hg
            clear hk6 hg
            have i1 : (j : Int) < (k : Int) := by omega
            have i2 : (j : Int) < (l.length : Int) := by omega
            go_wp2_with fail
            go_quiet (fail)
            go_wp2_with fail
            case roundEnd =>
              rename_i hne
              go_roundw
              case rel =>
                refine ⟨j + 1, by omega, by go_num, ?_, (unhide HK6).drewN _⟩
                intro x hx
                rw [take_snoc _ _ _ (unhide HG), List.mem_append] at hx
                rcases hx with hx | hx
                · exact unhide HD x hx
                · simp at hx; rw [hx]; simpa using hne
              case measure => simp [intOf]; omega
            rename_i hne
            have HE : Hid (errS l = 60) := errS_bad (schemaB_twice (unhide HH) (unhide HG) hjk (by simpa using hne))
            go_ret
            exact ⟨ret_int (unhide HE).symm, ((unhide HB).trans ((unhide HK4).trans (unhide HK6))).drewN _⟩
          · obtain rfl : j = k := by omega
            clear hk6
            go_wp2_with fail
            go_roundw
            case rel =>
              refine ⟨j + 1, by omega, by go_num, ?_, ?_, (unhide HK4).trans (unhide HK6)⟩
              · show _ = true
                rw [take_snoc _ _ _ (unhide HH), List.all_append, unhide HA]
                simp [unhide HFO]
              · show List.Nodup _
                rw [take_snoc _ _ _ (unhide HH)]
                exact nodup_snoc (unhide HN) (unhide HD)
            case measure => simp [intOf]; omega

end Go.Proofs.YtoempeobaknkcaaGreatDoor
namespace Go.Proofs.YtoempeobaknkcaaGreatDoor
open Go.RowKit Go.Maps

/-- How many bytes at the head of a text may stand in a name. -/
def runB (x : Txt) : Nat := scan x (fun c => partB (num c)) 0

set_option maxRecDepth 100000 in
theorem run_v (x : Txt) (hx : x.length ≤ 1099511627776) (w : World) : Calls Tryz.prog 67 #[str x] w fun e w' => e = .returned (.int .i64 (runB x)) ∧ w' = w := by
  go_enter Tryz.func67, Tryz.ntmps67
  go_wp2
  go_loopw [6] (fun i wr => ∃ k : Nat, k ≤ x.length ∧ i = .int .i64 k ∧ Hid (runB x = scan x (fun c => partB (num c)) k) ∧ wr = w) (fun i _ => x.length - (intOf i).toNat)
  case atStart => exact ⟨0, by omega, rfl, rfl, rfl⟩
  case round =>
    obtain ⟨k, hk, rfl, HS, rfl⟩ := hrel
    cases h : x[k]? with
    | none =>
      have h1 := get_ge h
      obtain rfl : k = x.length := by omega
      have HH := hide h
      clear h
      go_wp2
      go_ret
      exact ⟨ret_int (by rw [unhide HS, scan_none (unhide HH)]), rfl⟩
    | some y =>
      have h1 := get_lt h
      have q := str_at h
      have HH := hide h
      clear h
      have e1 : (y.toNat : Int) = num y := rfl
      go_wp2_with fail
      refine (inRun_any (num y) wr).mono ?_
      rintro e w1 ⟨rfl, rfl⟩
      cases hp : partB (num y) with
      | true =>
        go_wp2
        go_roundw
        case rel => exact ⟨k + 1, by omega, by go_num, (unhide HS).trans (scan_go (unhide HH) hp), trivial⟩
        case measure => simp [intOf]; omega
      | false =>
        go_wp2
        go_ret
        exact ⟨ret_int (by rw [unhide HS, scan_stop (unhide HH) hp]), rfl⟩

theorem takeWhile_all {p : UInt8 → Bool} : ∀ l : Txt, ((l.takeWhile p).length = l.length) = (l.all p = true)
  | [] => by simp
  | c :: r => by
    cases h : p c
    · simp [h]
    · have := takeWhile_all (p := p) r
      simp only [List.takeWhile_cons, h, List.length_cons, List.all_cons, Bool.true_and, if_true]
      rw [← this]
      simp
theorem runB_full (x : Txt) : ((runB x : Int) == (x.length : Int)) = x.all (fun c => partB (num c)) := by
  have h := takeWhile_all (p := fun c => partB (num c)) x
  unfold runB scan
  rw [List.drop_zero, Nat.zero_add]
  apply Bool.eq_iff_iff.2
  rw [beq_iff_eq, ← h]
  omega

theorem nameB_form (x : Txt) (c : UInt8) (h : x[0]? = some c) (h8 : x.length ≤ 8) : nameB x = (!digitB (num c) && (x.all (fun c => partB (num c)) && !decide (x ∈ kws))) := by
  unfold nameB digitB
  have : x ≠ [] := by rintro rfl; simp at h
  rw [h, decide_eq_true h8, decide_eq_true this]
  simp [Bool.and_assoc]

set_option maxRecDepth 100000 in
set_option maxHeartbeats 1000000 in
theorem name_v (x : Txt) (w : World) : Calls Tryz.prog 46 #[str x] w fun e w' => e = .returned (.bool (nameB x)) ∧ w' = w := by
  cases h : x[0]? with
  | none =>
    obtain rfl : x = [] := List.eq_nil_of_length_eq_zero (by have := get_ge h; omega)
    go_enter Tryz.func46, Tryz.ntmps46
    go_wp2
    go_ret
    exact ⟨rfl, rfl⟩
  | some c =>
    have h1 := get_lt h
    have q := str_at h
    have e1 : (c.toNat : Int) = num c := rfl
    by_cases hl : (8 : Int) < (x.length : Int)
    · have HN : Hid (nameB x = false) := by show _ = _; unfold nameB; rw [show decide (x.length ≤ 8) = false from decide_eq_false (by omega)]; simp
      clear h
      go_enter Tryz.func46, Tryz.ntmps46
      go_wp2
      go_ret
      exact ⟨ret_bool (unhide HN).symm, rfl⟩
    have hl2 : (x.length : Int) ≤ 8 := by omega
    have HN := hide (nameB_form x c h (by omega))
    have HR := hide (run_v x (by omega) w)
    have HK := hide (keyword_v x w)
    have HD := hide (digit_any (num c) w)
    have HF := hide (runB_full x)
    generalize nameB x = N at *
    generalize digitB (num c) = D at *
    generalize x.all (fun c => partB (num c)) = P at *
    generalize decide (x ∈ kws) = K at *
    clear h hl
    go_enter Tryz.func46, Tryz.ntmps46
    go_wp2_with fail
    refine (unhide HD).mono ?_
    rintro e w' ⟨rfl, rfl⟩
    cases D with
    | true =>
      go_wp2_with fail
      go_ret
      exact ⟨ret_bool (unhide HN).symm, rfl⟩
    | false =>
      go_wp2_with fail
      refine (unhide HR).mono ?_
      rintro e w' ⟨rfl, rfl⟩
      have hf := unhide HF
      cases P with
      | false =>
        go_wp2_with fail
        go_ret
        exact ⟨ret_bool (unhide HN).symm, rfl⟩
      | true =>
        go_wp2_with fail
        refine (unhide HK).mono ?_
        rintro e w' ⟨rfl, rfl⟩
        go_wp2_with fail
        go_ret
        exact ⟨ret_bool (by rw [unhide HN]; cases K <;> rfl), rfl⟩

theorem typeB (t : Int) : (t == 1 || t == 2 || t == 3) = decide (0 ≤ wideB t) := by
  unfold wideB
  apply Bool.eq_iff_iff.2
  simp only [Bool.or_eq_true, beq_iff_eq, decide_eq_true_eq]
  repeat' split
  all_goals omega

set_option maxRecDepth 100000 in
theorem isType_v (t : Int) (w : World) : Calls Tryz.prog 47 #[.int .i64 t] w fun e w' => e = .returned (.bool (decide (0 ≤ wideB t))) ∧ w' = w := by
  go_enter Tryz.func47, Tryz.ntmps47
  go_wp2
  all_goals (go_ret; refine ⟨ret_bool ?_, rfl⟩; rw [← typeB]; try simp_all)

end Go.Proofs.YtoempeobaknkcaaGreatDoor
namespace Go.Proofs.YtoempeobaknkcaaGreatDoor
open Go.RowKit Go.Maps

/-- How many kids an operation has; -1: there is no such operation. -/
def kidsB (op : Int) : Int := if 1 ≤ op ∧ op ≤ 6 then 0 else if op = 7 ∨ op = 8 ∨ op = 23 then 1 else if 9 ≤ op ∧ op ≤ 24 then 2 else if op = 25 then 3 else -1
/-- May a leaf hold this number and this text? -/
def leafB (op n : Int) (s : Txt) : Bool :=
  if op = 1 then decide (s = []) else if op = 2 then decide (s = []) && (decide (n = 0) || decide (n = 1)) else if op = 3 then decide (n = 0) && decide (s.length ≤ 20)
  else if op = 4 ∨ op = 5 then decide (n = 0) && nameB s else decide (n = 0) && decide (s = [])
/-- Has an expression just what its operation has? -/
def rootB (op n : Int) (s : Txt) (k : Nat) : Bool := decide (0 ≤ kidsB op) && (decide ((k : Int) = kidsB op) && leafB op n s)
def wellE : EL → Bool
  | .nil => true
  | .cons op n s k r => rootB op n s k.len && (wellE k && wellE r)
/-- Has a statement just the parts that its operation has? -/
def headS (op : Int) (f : Txt) (x t e : Nat) : Bool :=
  if op = 1 ∨ op = 2 ∨ op = 3 ∨ op = 4 then nameB f && (decide (x = 1) && (decide (t = 0) && decide (e = 0)))
  else if op = 5 then nameB f && (decide (x = 0) && (decide (t = 0) && decide (e = 0)))
  else if op = 6 ∨ op = 7 then decide (f = []) && (decide (x = 0) && (decide (t = 0) && decide (e = 0)))
  else if op = 8 then decide (f = []) && decide (x = 1) else false
def wellS : SL → Bool
  | .nil => true
  | .cons op f x t e r => headS op f x.len t.len e.len && (wellE x && (wellS t && (wellS e && wellS r)))
def depthE : EL → Nat
  | .nil => 0
  | .cons _ _ _ k r => max (1 + depthE k) (depthE r)
def depthS : SL → Nat
  | .nil => 0
  | .cons _ _ x t e r => max (1 + max (depthE x) (max (depthS t) (depthS e))) (depthS r)
def countS : SL → Nat
  | .nil => 0
  | .cons _ _ _ t e r => 1 + countS t + countS e + countS r
def checkS (l : SL) : Int := if wellS l = false then 83 else if 32 < countS l then 82 else if 12 < depthS l then 81 else 0
def checkE (l : EL) : Int := if wellE l = false then 83 else if 12 < depthE l then 81 else 0
theorem depthE_le : ∀ l : EL, depthE l ≤ l.size
  | .nil => Nat.le_refl _
  | .cons _ _ _ k r => by have := depthE_le k; have := depthE_le r; simp only [depthE, EL.size]; omega
theorem depthS_le : ∀ l : SL, depthS l ≤ l.size
  | .nil => Nat.le_refl _
  | .cons _ _ x t e r => by have := depthE_le x; have := depthS_le t; have := depthS_le e; have := depthS_le r; simp only [depthS, SL.size]; omega
theorem countS_le : ∀ l : SL, countS l ≤ l.size
  | .nil => Nat.le_refl _
  | .cons _ _ x t e r => by have := countS_le t; have := countS_le e; have := countS_le r; simp only [countS, SL.size]; omega
end Go.Proofs.YtoempeobaknkcaaGreatDoor
namespace Go.Proofs.YtoempeobaknkcaaGreatDoor
open Go.RowKit Go.Maps

theorem SlE.open {Z : Zone} {w : World} {up : Nat} {v : Value} {l : EL} (h : SlE Z w up v l) : ∃ ao cap b off, v = .slice ao l.len cap ∧ l.len ≤ cap ∧ (l.len ≠ 0 → ao = some ⟨b, off, none⟩ ∧ Z.P up b) ∧ ExIn Z w l b off := by
  obtain ⟨ao, cap, e, hc, hr⟩ := h
  by_cases h0 : l.len = 0
  · exact ⟨ao, cap, 0, 0, e, hc, fun h => absurd h0 h, by rw [EL.len0 h0]; trivial⟩
  · obtain ⟨b, o, e1, hp, hx⟩ := hr h0
    exact ⟨ao, cap, b, o, e, hc, fun _ => ⟨e1, hp⟩, hx⟩
theorem SlS.open {Z : Zone} {w : World} {up : Nat} {v : Value} {l : SL} (h : SlS Z w up v l) : ∃ ao cap b off, v = .slice ao l.len cap ∧ l.len ≤ cap ∧ (l.len ≠ 0 → ao = some ⟨b, off, none⟩ ∧ Z.P up b) ∧ StIn Z w l b off := by
  obtain ⟨ao, cap, e, hc, hr⟩ := h
  by_cases h0 : l.len = 0
  · exact ⟨ao, cap, 0, 0, e, hc, fun h => absurd h0 h, by rw [SL.len0 h0]; trivial⟩
  · obtain ⟨b, o, e1, hp, hx⟩ := hr h0
    exact ⟨ao, cap, b, o, e, hc, fun _ => ⟨e1, hp⟩, hx⟩
/-- What came in: all blocks below B. -/
def argZ (B : Nat) : Zone := ⟨fun _ _ k => k < B, fun _ _ => True, fun _ _ h => h⟩
section
variable {B c : Nat} {w w' : World} {F : Nat → Prop}
theorem ExIn.argKeep {l : EL} {b o : Nat} (h : ExIn (argZ B) w l b o) (hk : Keeps F w w') (hF : ∀ k, F k → B ≤ k) : ExIn (argZ B) w' l b o :=
  ExIn.keep (Q := fun _ => True) (fun _ _ _ _ => trivial) hk (fun s k _ _ (hg : k < B) => ⟨fun f => by have := hF k f; omega, hg⟩) trivial h
theorem SlE.argKeep {up : Nat} {v : Value} {l : EL} (h : SlE (argZ B) w up v l) (hk : Keeps F w w') (hF : ∀ k, F k → B ≤ k) : SlE (argZ B) w' up v l :=
  SlE.keep (Q := fun _ => True) (fun _ _ _ _ => trivial) hk (fun s k _ _ (hg : k < B) => ⟨fun f => by have := hF k f; omega, hg⟩) trivial h
theorem StIn.argKeep {l : SL} {b o : Nat} (h : StIn (argZ B) w l b o) (hk : Keeps F w w') (hF : ∀ k, F k → B ≤ k) : StIn (argZ B) w' l b o :=
  StIn.keep (Q := fun _ => True) (fun _ _ _ _ => trivial) hk (fun s k _ _ (hg : k < B) => ⟨fun f => by have := hF k f; omega, hg⟩) trivial h
theorem SlS.argKeep {up : Nat} {v : Value} {l : SL} (h : SlS (argZ B) w up v l) (hk : Keeps F w w') (hF : ∀ k, F k → B ≤ k) : SlS (argZ B) w' up v l :=
  SlS.keep (Q := fun _ => True) (fun _ _ _ _ => trivial) hk (fun s k _ _ (hg : k < B) => ⟨fun f => by have := hF k f; omega, hg⟩) trivial h
end

/-- What counting parts leaves: the count, or that there are too many. -/
def PPost (c : Nat) (n : Int) (sz : Nat) (w : World) (e : Ending) (w' : World) : Prop :=
  ∃ (r : Bool) (n' : Int), e = .returned (.bool r) ∧ w'.heap[c]? = some (.cells #[.int .i64 n'] 38 (0, 0)) ∧ Keeps (fun k => k = c) w w' ∧ 0 ≤ n' ∧ (r = false → n' = n + sz ∧ n' ≤ 2147483647)

set_option maxRecDepth 100000 in
set_option maxHeartbeats 800000 in
theorem parts_exprs (B c : Nat) (hBc : B ≤ c) (N : Nat) : ∀ (l : EL), l.size < N → ∀ (w : World) (up : Nat) (v : Value) (n left : Int), SlE (argZ B) w up v l → w.heap[c]? = some (.cells #[.int .i64 n] 38 (0, 0)) → 0 ≤ n → n ≤ 2147483647 → 0 ≤ left → left ≤ 65536 →
    Calls Tryz.prog 27 #[.pointer (some ⟨c, 0, none⟩), v, .int .i64 left] w (PPost c n l.size w) := by
  induction N with
  | zero => intro l h; omega
  | succ N ih =>
    intro l hsz w up v n left hS hb hn0 hn1 hl0 hl1
    obtain ⟨ao, cap, b, off, rfl, hcap, ha, hx⟩ := hS.open
    have IH := hide ih
    have HX := hide hx
    have HA := hide ha
    have HB := hide hb
    clear hS ih hx ha hb
    go_enter Tryz.func27, Tryz.ntmps27
    go_wp2_with fail
    go_loopw [7] (fun i wr => ∃ (rest : EL) (k : Nat) (m : Int), i = .int .i64 k ∧ k + rest.len = l.len ∧ rest.size ≤ l.size ∧ m + rest.size = n + l.size ∧ n + k ≤ m ∧ m ≤ 2147483647 ∧ wr.heap[c]? = some (.cells #[.int .i64 m] 38 (0, 0)) ∧ Keeps (fun k => k = c) w wr ∧ ExIn (argZ B) wr rest b (off + k * 4)) (fun i _ => l.len - (intOf i).toNat)
    case atStart => exact ⟨l, 0, n, rfl, by omega, Nat.le_refl _, rfl, by omega, hn1, unhide HB, Keeps.refl _ _, by simpa using unhide HX⟩
    case round =>
      obtain ⟨rest, k, m, rfl, hkl, hrs, hm, hnk, hm1, hc, hkeep, hr⟩ := hrel
      cases rest with
      | nil =>
        simp only [EL.len, EL.size] at hkl hm hrs
        have HC := hide hc
        have HK := hide hkeep
        clear hc hkeep hr
        have i1 : ¬ (k : Int) < (l.len : Int) := by omega
        go_wp2_with fail
        go_ret
        exact ⟨_, _, rfl, unhide HC, unhide HK, by omega, fun _ => ⟨by omega, hm1⟩⟩
      | cons op nn s kids rest =>
        obtain ⟨h1, h2, h3, h4, h5, ⟨kao, kcap, h6, h7, h8⟩, h9⟩ := hr
        simp only [EL.len, EL.size] at hkl hm hrs
        obtain ⟨rfl, hp⟩ := (unhide HA) (by omega)
        have HKID : Hid (SlE (argZ B) wr b (.slice kao kids.len kcap) kids) := ⟨kao, kcap, rfl, h7, h8⟩
        have HR := hide h9
        have HK := hide hkeep
        have HC := hide hc
        have hcc := cell_of_blk hc 0
        have hfz := frozen_of_blk hc 0
        simp at hcc
        have i1 : (k : Int) < (l.len : Int) := by omega
        have i0 : (0 : Int) ≤ (k : Int) := by omega
        clear hc hkeep h3 h4 h5 h8 h9
        have hbc : b ≠ c := by have : b < B := h2; omega
        have hcb : c ≠ b := fun e => hbc e.symm
        have HC1 : Hid ((wr.setCell ⟨c, 0, none⟩ (.int .i64 (m + 1))).heap[c]? = some (.cells #[.int .i64 (m + 1)] 38 (0, 0))) := by
          have := heap_setCell_at (unhide HC) (o := 0) (.int .i64 (m + 1))
          exact hide (by simpa using this)
        have HK1 : Hid (Keeps (fun k => k = c) w (wr.setCell ⟨c, 0, none⟩ (.int .i64 (m + 1)))) := (unhide HK).setCell (fun _ => rfl) _
        have HKS : Hid (Keeps (fun k => k = c) wr (wr.setCell ⟨c, 0, none⟩ (.int .i64 (m + 1)))) := (Keeps.refl (fun k => k = c) wr).setCell (fun _ => rfl) _
        clear h2
        by_cases hq : left = 0
        · subst hq
          go_wp2_with fail
          go_ret
          exact ⟨true, _, rfl, unhide HC1, unhide HK1, by omega, fun h => by cases h⟩
        · have hq' : (left == 0) = false := by simpa using hq
          by_cases hm2 : m = 2147483647
          · subst hm2
            go_wp2_with fail
            go_ret
            exact ⟨true, _, rfl, unhide HC1, unhide HK1, by omega, fun h => by cases h⟩
          · have hm3 : ¬ (2147483647 : Int) < m + 1 := by omega
            have HCALL := hide (unhide IH kids (by omega) _ b (.slice kao kids.len kcap) (m + 1) (left - 1) ((unhide HKID).argKeep (unhide HKS) (fun k e => by omega)) (unhide HC1) (by omega) (by omega) (by omega) (by omega))
            go_wp2_with (go_at_call 27; refine (unhide HCALL).mono ?_; rintro e w1 ⟨r, n1, rfl, hc1, hk1, hn1, hr1⟩)
            · go_ret
              exact ⟨true, _, rfl, hc1, (unhide HK1).trans hk1, hn1, fun h => by cases h⟩
            · obtain ⟨e1, e2⟩ := hr1 (by cases r <;> simp_all)
              go_roundw
              case rel =>
                refine ⟨rest, k + 1, n1, by go_num, by omega, by omega, by omega, by omega, e2, hc1, (unhide HK1).trans hk1, ?_⟩
                rw [show off + (k + 1) * 4 = off + k * 4 + 4 by omega]
                exact (unhide HR).argKeep ((unhide HKS).trans hk1) (fun k e => by omega)
              case measure => simp [intOf]; omega
end Go.Proofs.YtoempeobaknkcaaGreatDoor
namespace Go.Proofs.YtoempeobaknkcaaGreatDoor
open Go.RowKit Go.Maps

set_option maxRecDepth 100000 in
set_option maxHeartbeats 1600000 in
theorem parts_stmts (B c : Nat) (hBc : B ≤ c) (N : Nat) : ∀ (l : SL), l.size < N → ∀ (w : World) (up : Nat) (v : Value) (n left : Int), SlS (argZ B) w up v l → w.heap[c]? = some (.cells #[.int .i64 n] 38 (0, 0)) → 0 ≤ n → n ≤ 2147483647 → 0 ≤ left → left ≤ 65536 →
    Calls Tryz.prog 11 #[.pointer (some ⟨c, 0, none⟩), v, .int .i64 left] w (PPost c n l.size w) := by
  induction N with
  | zero => intro l h; omega
  | succ N ih =>
    intro l hsz w up v n left hS hb hn0 hn1 hl0 hl1
    obtain ⟨ao, cap, b, off, rfl, hcap, ha, hx⟩ := hS.open
    have IH := hide ih
    have HX := hide hx
    have HA := hide ha
    have HB := hide hb
    clear hS ih hx ha hb
    go_enter Tryz.func11, Tryz.ntmps11
    go_wp2_with fail
    go_loopw [7] (fun i wr => ∃ (rest : SL) (k : Nat) (m : Int), i = .int .i64 k ∧ k + rest.len = l.len ∧ rest.size ≤ l.size ∧ m + rest.size = n + l.size ∧ n + k ≤ m ∧ m ≤ 2147483647 ∧ wr.heap[c]? = some (.cells #[.int .i64 m] 38 (0, 0)) ∧ Keeps (fun k => k = c) w wr ∧ StIn (argZ B) wr rest b (off + k * 5)) (fun i _ => l.len - (intOf i).toNat)
    case atStart => exact ⟨l, 0, n, rfl, by omega, Nat.le_refl _, rfl, by omega, hn1, unhide HB, Keeps.refl _ _, by simpa using unhide HX⟩
    case round =>
      obtain ⟨rest, k, m, rfl, hkl, hrs, hm, hnk, hm1, hc, hkeep, hr⟩ := hrel
      cases rest with
      | nil =>
        simp only [SL.len, SL.size] at hkl hm hrs
        have HC := hide hc
        have HK := hide hkeep
        clear hc hkeep hr
        have i1 : ¬ (k : Int) < (l.len : Int) := by omega
        go_wp2_with fail
        go_ret
        exact ⟨_, _, rfl, unhide HC, unhide HK, by omega, fun _ => ⟨by omega, hm1⟩⟩
      | cons op f ex th el rest =>
        obtain ⟨h1, h2, h3, h4, ⟨xv, h5, hxs⟩, ⟨tao, tcap, h6, h7, h8⟩, ⟨eao, ecap, g6, g7, g8⟩, h9⟩ := hr
        simp only [SL.len, SL.size] at hkl hm hrs
        obtain ⟨rfl, hp⟩ := (unhide HA) (by omega)
        have HEX := hide hxs
        have HTH : Hid (SlS (argZ B) wr b (.slice tao th.len tcap) th) := ⟨tao, tcap, rfl, h7, h8⟩
        have HEL : Hid (SlS (argZ B) wr b (.slice eao el.len ecap) el) := ⟨eao, ecap, rfl, g7, g8⟩
        have HR := hide h9
        have HK := hide hkeep
        have HC := hide hc
        have hcc := cell_of_blk hc 0
        have hfz := frozen_of_blk hc 0
        simp at hcc
        have i1 : (k : Int) < (l.len : Int) := by omega
        have i0 : (0 : Int) ≤ (k : Int) := by omega
        have hbc : b ≠ c := by have : b < B := h2; omega
        have hcb : c ≠ b := fun e => hbc e.symm
        have HC1 : Hid ((wr.setCell ⟨c, 0, none⟩ (.int .i64 (m + 1))).heap[c]? = some (.cells #[.int .i64 (m + 1)] 38 (0, 0))) := by
          have := heap_setCell_at (unhide HC) (o := 0) (.int .i64 (m + 1))
          exact hide (by simpa using this)
        have HK1 : Hid (Keeps (fun k => k = c) w (wr.setCell ⟨c, 0, none⟩ (.int .i64 (m + 1)))) := (unhide HK).setCell (fun _ => rfl) _
        have HKS : Hid (Keeps (fun k => k = c) wr (wr.setCell ⟨c, 0, none⟩ (.int .i64 (m + 1)))) := (Keeps.refl (fun k => k = c) wr).setCell (fun _ => rfl) _
        clear hc hkeep h2 h3 h4 h8 g8 h9 hxs
        by_cases hq : left = 0
        · subst hq
          go_wp2_with fail
          go_ret
          exact ⟨true, _, rfl, unhide HC1, unhide HK1, by omega, fun h => by cases h⟩
        · have hq' : (left == 0) = false := by simpa using hq
          by_cases hm2 : m = 2147483647
          · subst hm2
            go_wp2_with fail
            go_ret
            exact ⟨true, _, rfl, unhide HC1, unhide HK1, by omega, fun h => by cases h⟩
          · have hm3 : ¬ (2147483647 : Int) < m + 1 := by omega
            obtain ⟨xao, xcap, rfl, hxl⟩ := (unhide HEX).head
            have HCALL := hide (parts_exprs B c hBc (ex.size + 1) ex (by omega) _ b (.slice xao ex.len xcap) (m + 1) (left - 1) ((unhide HEX).argKeep (unhide HKS) (fun k e => by omega)) (unhide HC1) (by omega) (by omega) (by omega) (by omega))
            go_wp2_with (first
              | (go_at_call 27; refine (unhide HCALL).mono ?_; rintro e w1 ⟨r, n1, rfl, hc1, hk1, hn1, hr1⟩; have HC2 := hide hc1; have HN1 := hide hn1; have HR1 := hide hr1; have HKW := hide ((unhide HKS).trans hk1); have HKT := hide ((unhide HK1).trans hk1); have q6 := ((unhide HKW).cell h1 hbc).trans h6; have q7 := ((unhide HKW).cell h1 hbc).trans g6; clear hc1 hk1 hn1 hr1)
              | (go_at_call_of 11 (Value.slice tao th.len tcap); have HE1 := hide ((unhide HR1) (by assumption)); refine (unhide IH th (by omega) _ b _ n1 (left - 1) ((unhide HTH).argKeep (unhide HKW) (fun k e => by omega)) (unhide HC2) (unhide HN1) (unhide HE1).2 (by omega) (by omega)).mono ?_; rintro e w2 ⟨r2, n2, rfl, hc1, hk1, hn1, hr1⟩; have HC3 := hide hc1; have HN2 := hide hn1; have HR2 := hide hr1; have HKW2 := hide ((unhide HKW).trans hk1); have HKT2 := hide ((unhide HKT).trans hk1); have q8 := ((unhide HKW2).cell h1 hbc).trans g6; clear hc1 hk1 hn1 hr1)
              | (go_at_call_of 11 (Value.slice eao el.len ecap); have HE2 := hide ((unhide HR2) (by assumption)); refine (unhide IH el (by omega) _ b _ n2 (left - 1) ((unhide HEL).argKeep (unhide HKW2) (fun k e => by omega)) (unhide HC3) (unhide HN2) (unhide HE2).2 (by omega) (by omega)).mono ?_; rintro e w3 ⟨r3, n3, rfl, hc1, hk1, hn1, hr1⟩; have HC4 := hide hc1; have HN3 := hide hn1; have HR3 := hide hr1; have HKW3 := hide ((unhide HKW2).trans hk1); have HKT3 := hide ((unhide HKT2).trans hk1); clear hc1 hk1 hn1 hr1))
            · go_ret
              exact ⟨true, _, rfl, unhide HC2, unhide HKT, unhide HN1, fun h => by cases h⟩
            · go_ret
              exact ⟨true, _, rfl, unhide HC3, unhide HKT2, unhide HN2, fun h => by cases h⟩
            · go_ret
              exact ⟨true, _, rfl, unhide HC4, unhide HKT3, unhide HN3, fun h => by cases h⟩
            · obtain ⟨e1, e2⟩ := (unhide HR1) (by assumption)
              obtain ⟨e3, e4⟩ := (unhide HR2) (by assumption)
              obtain ⟨e5, e6⟩ := (unhide HR3) (by assumption)
              go_roundw
              case rel =>
                refine ⟨rest, k + 1, n3, by go_num, by omega, by omega, by omega, by omega, e6, unhide HC4, unhide HKT3, ?_⟩
                rw [show off + (k + 1) * 5 = off + k * 5 + 5 by omega]
                exact (unhide HR).argKeep (unhide HKW3) (fun k e => by omega)
              case measure => simp [intOf]; omega
end Go.Proofs.YtoempeobaknkcaaGreatDoor
namespace Go.Proofs.YtoempeobaknkcaaGreatDoor
open Go.RowKit Go.Maps

/-- Are there too many parts? -/
def DPost (sz : Nat) (w : World) (e : Ending) (w' : World) : Prop := ∃ r : Bool, e = .returned (.bool r) ∧ Keeps (fun _ => False) w w' ∧ (r = false → sz ≤ 2147483647)
theorem keeps_new {w w1 w2 : World} (h1 : Keeps (fun _ => False) w w1) (h2 : Keeps (fun k => k = w.heap.size) w1 w2) : Keeps (fun _ => False) w w2 :=
  h1.then h2 (fun i hi e => by omega)

set_option maxRecDepth 100000 in
set_option maxHeartbeats 800000 in
theorem deepStmts (B up : Nat) (l : SL) (v : Value) (w : World) (hB : B ≤ w.heap.size) (hS : SlS (argZ B) w up v l) : Calls Tryz.prog 4 #[v] w (DPost l.size w) := by
  have HS := hide (hS.keepF ((Keeps.refl _ w).alloc (.cells #[.int .i64 0] 38)))
  have HK : Hid (Keeps (fun _ => False) w (w.alloc (.cells #[.int .i64 0] 38))) := hide ((Keeps.refl _ w).alloc _)
  obtain ⟨ao, cap, rfl, hc⟩ := hS.head
  clear hS
  go_enter Tryz.func4, Tryz.ntmps4
  go_wp2_with (go_at_call 11; refine (parts_stmts B w.heap.size hB (l.size + 1) l (by omega) _ up _ 0 65536 (unhide HS) (heap_alloc_new w _) (by omega) (by omega) (by omega) (by omega)).mono ?_; rintro e w1 ⟨r, n1, rfl, hc1, hk1, hn1, hr1⟩)
  go_ret
  exact ⟨r, rfl, keeps_new (unhide HK) hk1, fun h => by have := hr1 h; omega⟩
end Go.Proofs.YtoempeobaknkcaaGreatDoor
