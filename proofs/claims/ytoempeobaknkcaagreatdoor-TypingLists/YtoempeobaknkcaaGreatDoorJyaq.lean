import Derived.Test.YtoempeobaknkcaaGreatDoorJzab
import Derived.Test.YtoempeobaknkcaaGreatDoorJyak
import Derived.Test.YtoempeobaknkcaaGreatDoorJyaf
namespace Go.Proofs.YtoempeobaknkcaaGreatDoor
open Go.RowKit Go.Maps

def namedB (l : List FieldA) (nm : Txt) : Bool := l.any fun f => decide (f.name = nm)
theorem namedB_snoc (l : List FieldA) (f : FieldA) (nm : Txt) : namedB (l ++ [f]) nm = (namedB l nm || decide (f.name = nm)) := by simp [namedB]

set_option maxRecDepth 100000 in
set_option maxHeartbeats 1000000 in
theorem named_v (l : List FieldA) (v : Value) (nm : Txt) (w : World) (h : FldsAt w v l) (hl : l.length ≤ 8) :
    Calls Tryz.prog 48 #[v, str nm] w fun e w' => e = .returned (.bool (namedB l nm)) ∧ Keeps (fun _ => False) w w' := by
  obtain ⟨ao, cap, rfl⟩ := RowAt.form h
  have HF := hide h
  clear h
  go_enter Tryz.func48, Tryz.ntmps48
  go_wp2
  go_loopw [9] (fun i wr => ∃ k : Nat, k ≤ l.length ∧ i = .int .i64 k ∧ Hid (namedB (l.take k) nm = false) ∧ Keeps (fun _ => False) w wr) (fun i _ => l.length - (intOf i).toNat)
  case atStart => exact ⟨0, Nat.zero_le _, rfl, by simp [Hid, namedB], Keeps.refl _ _⟩
  case round =>
    obtain ⟨k, hk, rfl, HS, hkp⟩ := hrel
    have HK := hide hkp
    cases h : l[k]? with
    | none =>
      have h1 := get_ge h
      obtain rfl : k = l.length := by omega
      clear hkp h h1
      rw [List.take_length] at HS
      go_wp2
      go_ret
      exact ⟨ret_bool (unhide HS).symm, unhide HK⟩
    | some f =>
      have h1 := get_lt h
      obtain ⟨b, off, c, e, hbl, hc⟩ := (unhide HF).cells (by omega)
      simp at e
      obtain ⟨rfl, rfl⟩ := e
      have c0 := (hkp.cell hbl id).trans (hc k f h).1
      have c1 := (hkp.cell hbl id).trans (hc k f h).2.1
      have c2 := (hkp.cell hbl id).trans (hc k f h).2.2
      have HH := hide h
      have HO : Hid (namedB (l.take (k + 1)) nm = (namedB (l.take k) nm || decide (f.name = nm))) := by show _ = _; rw [take_snoc _ _ _ h, namedB_snoc]
      clear hkp h hc
      go_wp2
      case roundEnd =>
        rename_i hne
        go_roundw
        case rel => exact ⟨k + 1, by omega, by go_num, by show _ = _; rw [unhide HO, unhide HS]; simpa using hne, (unhide HK).alloc _⟩
        case measure => simp [intOf]; omega
      rename_i hne
      go_ret
      refine ⟨ret_bool ?_, (unhide HK).alloc _⟩
      symm
      exact List.any_eq_true.2 ⟨f, List.mem_of_getElem? (unhide HH), by simpa using hne⟩

set_option maxRecDepth 100000 in
set_option maxHeartbeats 1000000 in
theorem head_v (l : List FieldA) (v : Value) (w : World) (h : FldsAt w v l) (hl : l.length ≤ 8) :
    Calls Tryz.prog 69 #[.agg #[v]] w fun e w' => e = .returned (.int .i64 (headB l)) ∧ Keeps (fun _ => False) w w' := by
  obtain ⟨ao, cap, rfl⟩ := RowAt.form h
  have HF := hide h
  clear h
  go_enter Tryz.func69, Tryz.ntmps69
  go_wp2
  obtain ⟨HB, hb, hbc⟩ := boxed w #[.slice ao l.length cap] 24
  have hp := hbc 0 (.slice ao l.length cap) rfl
  have HF2 := hide ((unhide HF).keepF (unhide HB))
  clear hbc HF
  generalize w.alloc (.cells #[.slice ao l.length cap] 24) = w2 at *
  generalize w.heap.size = sb at *
  go_loopw [3, 9] (fun n i wr => ∃ k : Nat, k ≤ l.length ∧ i = .int .i64 k ∧ n = .int .i64 (opts (l.take k)) ∧ Keeps (fun _ => False) w2 wr) (fun _ i _ => l.length - (intOf i).toNat)
  case atStart => exact ⟨0, Nat.zero_le _, rfl, rfl, Keeps.refl _ _⟩
  case round =>
    obtain ⟨k, hk, rfl, rfl, hkp⟩ := hrel
    have HK := hide hkp
    have ho := opts_le (l.take k)
    rw [List.length_take] at ho
    cases h : l[k]? with
    | none =>
      have h1 := get_ge h
      obtain rfl : k = l.length := by omega
      clear hkp h h1
      rw [List.take_length] at *
      go_wp2
      go_ret
      exact ⟨ret_int (by unfold headB; omega), (unhide HB).trans (unhide HK)⟩
    | some f =>
      have h1 := get_lt h
      obtain ⟨b, off, c, e, hbl, hc⟩ := (unhide HF2).cells (by omega)
      simp at e
      obtain ⟨rfl, rfl⟩ := e
      have c0 := (hkp.cell hbl id).trans (hc k f h).1
      have c1 := (hkp.cell hbl id).trans (hc k f h).2.1
      have c2 := (hkp.cell hbl id).trans (hc k f h).2.2
      have HO : Hid (opts (l.take (k + 1)) = opts (l.take k) + (if f.opt then 1 else 0)) := by show _ = _; rw [take_snoc _ _ _ h, opts_snoc]
      generalize opts (l.take k) = o at *
      clear hkp h hc
      cases hfo : f.opt with
      | true =>
        rw [hfo] at c2 HO
        go_wp2
        go_roundw
        case rel => exact ⟨k + 1, by omega, by go_num, by rw [unhide HO]; go_num, (unhide HK).alloc _⟩
        case measure => simp [intOf]; omega
      | false =>
        rw [hfo] at c2 HO
        go_wp2
        go_roundw
        case rel => exact ⟨k + 1, by omega, by go_num, by rw [unhide HO]; go_num, (unhide HK).alloc _⟩
        case measure => simp [intOf]; omega

/-- The table of package value's types lies as its initialiser lays it. -/
def typesC : Array Value := #[str [], .int .i64 0, str [105, 110, 116], .int .i64 10, str [98, 111, 111, 108], .int .i64 1, str [98, 121, 116, 101, 115], .int .i64 21]
structure Types (w : World) : Prop where
  lt : 0 < w.heap.size
  cell : ∀ j x, typesC[j]? = some x → w.cell? ⟨0, j, none⟩ = some x
theorem Types.keep {F : Nat → Prop} {w w' : World} (h : Types w) (hk : Keeps F w w') (hF : ¬ F 0) : Types w' :=
  ⟨Nat.lt_of_lt_of_le h.lt hk.size, fun j x hx => by rw [hk.cell h.lt hF]; exact h.cell j x hx⟩
theorem Types.keepF {w w' : World} (h : Types w) (hk : Keeps (fun _ => False) w w') : Types w' := h.keep hk id
theorem Types.width {w : World} (h : Types w) {t : Int} (ht : 0 ≤ wideB t) : ∃ n : Nat, t = n ∧ n < 4 ∧ w.cell? ⟨0, n * 2 + 1, none⟩ = some (.int .i64 (wideB t)) := by
  by_cases h1 : t = 1
  · subst h1; exact ⟨1, rfl, by omega, h.cell 3 _ rfl⟩
  by_cases h2 : t = 2
  · subst h2; exact ⟨2, rfl, by omega, h.cell 5 _ rfl⟩
  by_cases h3 : t = 3
  · subst h3; exact ⟨3, rfl, by omega, h.cell 7 _ rfl⟩
  · simp [wideB, h1, h2, h3] at ht

set_option maxRecDepth 100000 in
set_option maxHeartbeats 1000000 in
theorem width_v (l : List FieldA) (v : Value) (w : World) (hT : Types w) (h : FldsAt w v l) (hl : l.length ≤ 8) (hok : l.all fieldOK = true) :
    Calls Tryz.prog 49 #[.agg #[v]] w fun e w' => e = .returned (.int .i64 (widthB l)) ∧ Keeps (fun _ => False) w w' := by
  obtain ⟨ao, cap, rfl⟩ := RowAt.form h
  obtain ⟨HB, hb, hbc⟩ := boxed w #[.slice ao l.length cap] 24
  have hp := hbc 0 (.slice ao l.length cap) rfl
  have hF2 := h.keepF (unhide HB)
  have HH := hide (head_v l _ _ hF2 (by omega))
  have HT := hide (hT.keepF (unhide HB))
  have HOK := hide hok
  have hh := headB_le l
  have HE : Hid (widthB l = headB l + wides l) := rfl
  generalize widthB l = R at *
  generalize headB l = H at *
  have HF2 := hide hF2
  clear hbc h hF2 hT hok
  go_enter Tryz.func49, Tryz.ntmps49
  go_wp2_with fail
  refine (unhide HH).mono ?_
  rintro e w2 ⟨rfl, hk⟩
  have HF3 := hide ((unhide HF2).keepF hk)
  have HT3 := hide ((unhide HT).keepF hk)
  have HB2 := hide ((unhide HB).trans hk)
  have hb2 : w.heap.size < w2.heap.size := Nat.lt_of_lt_of_le hb hk.size
  have hp2 := (hk.cell hb id).trans hp
  generalize w.alloc (.cells #[.slice ao l.length cap] 24) = w1 at *
  clear HH HF2 HB hk hp hb HT
  generalize w.heap.size = sb at *
  go_wp2_with fail
  go_loopw [3, 11] (fun n i wr => ∃ k : Nat, k ≤ l.length ∧ i = .int .i64 k ∧ n = .int .i64 (H + wides (l.take k)) ∧ Keeps (fun _ => False) w2 wr) (fun _ i _ => l.length - (intOf i).toNat)
  case atStart => exact ⟨0, Nat.zero_le _, rfl, by simp [wides], Keeps.refl _ _⟩
  case round =>
    obtain ⟨k, hk, rfl, rfl, hkp⟩ := hrel
    have HK := hide hkp
    have ho := wides_range (l.take k)
    rw [List.length_take] at ho
    cases h : l[k]? with
    | none =>
      have h1 := get_ge h
      obtain rfl : k = l.length := by omega
      clear hkp h h1
      rw [List.take_length] at *
      go_wp2_with fail
      go_ret
      exact ⟨ret_int (unhide HE).symm, (unhide HB2).trans (unhide HK)⟩
    | some f =>
      have h1 := get_lt h
      obtain ⟨b, off, c, e, hbl, hc⟩ := (unhide HF3).cells (by omega)
      simp at e
      obtain ⟨rfl, rfl⟩ := e
      have c0 := (hkp.cell hbl id).trans (hc k f h).1
      have c1 := (hkp.cell hbl id).trans (hc k f h).2.1
      have c2 := (hkp.cell hbl id).trans (hc k f h).2.2
      have HO : Hid (wides (l.take (k + 1)) = wides (l.take k) + wideB f.type) := by show _ = _; rw [take_snoc _ _ _ h, wides_snoc]
      have hwr := wideB_range f.type
      have hfo : 0 ≤ wideB f.type := by
        have := List.all_eq_true.1 (unhide HOK) f (List.mem_of_getElem? h)
        unfold fieldOK at this
        simp only [Bool.and_eq_true, decide_eq_true_eq] at this
        exact this.2
      obtain ⟨n, hn, hn4, hcell⟩ := (((unhide HT3).keepF hkp).keepF ((Keeps.refl _ wr).alloc (.cells #[str f.name, .int .i64 f.type, .bool f.opt] 67))).width hfo
      rw [hn] at c1 hcell
      rw [← hn] at hcell
      generalize wides (l.take k) = o at *
      generalize wideB f.type = W at *
      rw [hn] at hcell
      clear hkp h hc hn hfo
      go_wp2_with fail
      go_roundw
      case rel => exact ⟨k + 1, by omega, by go_num, by rw [unhide HO]; go_num, (unhide HK).alloc _⟩
      case measure => simp [intOf]; omega

end Go.Proofs.YtoempeobaknkcaaGreatDoor
namespace Go.Proofs.YtoempeobaknkcaaGreatDoor
open Go.RowKit Go.Maps

theorem RowAt.first {w : World} {a : Option Addr} {n cap m : Nat} {xs ys : List Value} (h : RowAt w (.slice a n cap) n (xs ++ ys)) (hm : m ≤ n) : RowAt w (.slice a m cap) m xs := by
  refine ⟨⟨_, _, rfl⟩, fun h0 => ?_, fun ao m' cap' e => ?_⟩
  · obtain ⟨b, off, cap', e, hb, hc⟩ := h.cells (by omega)
    simp at e
    obtain ⟨rfl, rfl⟩ := e
    exact ⟨b, off, cap, rfl, hb, fun j x hx => hc j x (by rw [List.getElem?_append_left (get_lt hx)]; exact hx)⟩
  · simp at e
    obtain ⟨rfl, rfl, rfl⟩ := e
    have := h.room _ _ _ rfl
    omega
theorem FldsAt.first {w : World} {a : Option Addr} {cap : Nat} {l : List FieldA} (h : FldsAt w (.slice a l.length cap) l) (k : Nat) (hk : k ≤ l.length) : FldsAt w (.slice a k cap) (l.take k) := by
  have e : fcs l = fcs (l.take k) ++ fcs (l.drop k) := by unfold fcs; rw [← List.flatMap_append, List.take_append_drop]
  unfold FldsAt at *
  rw [e] at h
  rw [List.length_take, Nat.min_eq_left hk]
  exact h.first hk

theorem fieldOK_form (f : FieldA) : fieldOK f = (nameB f.name && decide (0 ≤ wideB f.type)) := rfl
theorem namedB_false {l : List FieldA} {nm : Txt} (h : namedB l nm = false) : ∀ g ∈ l, g.name ≠ nm := by
  intro g hg
  have := List.any_eq_false.1 h g hg
  simpa using this
theorem namedB_true {l : List FieldA} {k : Nat} {f : FieldA} (hf : l[k]? = some f) (h : namedB (l.take k) f.name = true) : schemaB l = false := by
  obtain ⟨g, hg, e⟩ := List.any_eq_true.1 h
  simp only [decide_eq_true_eq] at e
  obtain ⟨j, hj⟩ := List.getElem?_of_mem hg
  rw [List.getElem?_take] at hj
  split at hj
  · rename_i hlt
    exact schemaB_twice hf hj hlt e
  · cases hj

set_option maxRecDepth 100000 in
set_option maxHeartbeats 2000000 in
theorem checkSchema_v (l : List FieldA) (v : Value) (w : World) (hT : Types w) (h : FldsAt w v l) :
    Calls Tryz.prog 29 #[.agg #[v]] w fun e w' => e = .returned (.int .i64 (errS l)) ∧ Keeps (fun _ => False) w w' := by
  obtain ⟨ao, cap, rfl⟩ := RowAt.form h
  obtain ⟨HB, hb, hbc⟩ := boxed w #[.slice ao l.length cap] 24
  have hp := hbc 0 (.slice ao l.length cap) rfl
  have HF := hide (h.keepF (unhide HB))
  have HT := hide (hT.keepF (unhide HB))
  clear hbc h hT
  by_cases hl1 : (l.length : Int) < 1
  · have HE : Hid (errS l = 60) := errS_bad (by unfold schemaB; rw [decide_eq_false (show ¬ 1 ≤ l.length by omega)]; simp)
    go_enter Tryz.func29, Tryz.ntmps29
    go_wp2
    go_ret
    exact ⟨ret_int (unhide HE).symm, (Keeps.refl _ _).alloc _⟩
  by_cases hl2 : (8 : Int) < (l.length : Int)
  · have HE : Hid (errS l = 60) := errS_bad (by unfold schemaB; rw [decide_eq_false (show ¬ l.length ≤ 8 by omega)]; simp)
    go_enter Tryz.func29, Tryz.ntmps29
    go_wp2
    go_ret
    exact ⟨ret_int (unhide HE).symm, (Keeps.refl _ _).alloc _⟩
  have hl3 : (1 : Int) ≤ (l.length : Int) := by omega
  have hl4 : (l.length : Int) ≤ 8 := by omega
  clear hl1 hl2
  go_enter Tryz.func29, Tryz.ntmps29
  go_wp2_with fail
  generalize w.alloc (.cells #[.slice ao l.length cap] 24) = w2 at *
  generalize w.heap.size = sb at *
  go_loopw [18] (fun i wr => ∃ k : Nat, k ≤ l.length ∧ i = .int .i64 k ∧ Hid ((l.take k).all fieldOK = true) ∧ Hid ((l.take k).map FieldA.name).Nodup ∧ Keeps (fun _ => False) w2 wr) (fun i _ => l.length - (intOf i).toNat)
  case atStart => exact ⟨0, Nat.zero_le _, rfl, by simp [Hid], by simp [Hid], Keeps.refl _ _⟩
  case round =>
    obtain ⟨k, hk, rfl, HA, HN, hkp⟩ := hrel
    have hp' := (hkp.cell (o := 0) hb id).trans hp
    cases h : l[k]? with
    | none =>
      have h1 := get_ge h
      obtain rfl : k = l.length := by omega
      rw [List.take_length] at HA HN
      have HW := hide (width_v l _ _ ((unhide HT).keepF hkp) ((unhide HF).keepF hkp) (by omega) (unhide HA))
      have HE := hide (schemaB_end (by omega) (by omega) (unhide HA) (unhide HN))
      have HK := hide hkp
      clear hkp h h1
      go_wp2_with fail
      refine (unhide HW).mono ?_
      rintro e w3 ⟨rfl, hk3⟩
      have HK3 := hide hk3
      clear hk3
      by_cases hw : (64 : Int) < widthB l
      · go_wp2_with fail
        go_ret
        exact ⟨ret_int (errS_bad (by rw [unhide HE]; exact decide_eq_false (by omega))).symm, ((unhide HB).trans (unhide HK)).trans (unhide HK3)⟩
      · go_wp2_with fail
        go_ret
        exact ⟨ret_int (errS_good (by rw [unhide HE]; exact decide_eq_true (by omega))).symm, ((unhide HB).trans (unhide HK)).trans (unhide HK3)⟩
    | some f =>
      have h1 := get_lt h
      obtain ⟨b, off, c, e, hbl, hc⟩ := (unhide HF).cells (by omega)
      simp at e
      obtain ⟨rfl, rfl⟩ := e
      have c0 := (hkp.cell hbl id).trans (hc k f h).1
      have c1 := (hkp.cell hbl id).trans (hc k f h).2.1
      have c2 := (hkp.cell hbl id).trans (hc k f h).2.2
      have HH := hide h
      have HK := hide hkp
      obtain ⟨HX, hxb, hxc⟩ := boxed wr #[str f.name, .int .i64 f.type, .bool f.opt] 67
      have x0 := hxc 0 (str f.name) rfl
      have x1 := hxc 1 (.int .i64 f.type) rfl
      have HQ := hide (named_v (l.take k) _ f.name _ ((((((unhide HF).keepF hkp).keepF (unhide HX)).first k hk)).keepF (keeps_drewN _ 1)) (by rw [List.length_take]; omega))
      have hp3 := ((unhide HX).cell (o := 0) (Nat.lt_of_lt_of_le hb hkp.size) id).trans hp'
      have i2 : (k : Int) ≤ (l.length : Int) := by omega
      have HO := hide (fieldOK_form f)
      have hroom : l.length ≤ cap := RowAt.room (unhide HF) _ _ _ rfl
      have i3 : (k : Int) ≤ (cap : Int) := by omega
      have i4 : (0 : Int) ≤ (k : Int) := by omega
      have HX4 := hide (((unhide HK).trans (unhide HX)).drewN 1)
      have hz0 : wr.heap.size < ((wr.alloc (.cells #[str f.name, .int .i64 f.type, .bool f.opt] 67)).drewN 1).heap.size := hxb
      have hz1 : sb < ((wr.alloc (.cells #[str f.name, .int .i64 f.type, .bool f.opt] 67)).drewN 1).heap.size := Nat.lt_of_lt_of_le hb (unhide HX4).size
      clear hkp h hc hxc
      cases hnm : nameB f.name with
      | false =>
        have HE : Hid (errS l = 60) := errS_bad (schemaB_name (List.mem_of_getElem? (unhide HH)) (by rw [unhide HO, hnm]; rfl))
        have HN1 : Hid (∀ w, Calls Tryz.prog 46 #[str f.name] w fun e w' => e = .returned (.bool false) ∧ w' = w) := fun w => by
          have := name_v f.name w
          rw [hnm] at this
          exact this
        clear hnm HO HQ
        go_wp2_with fail
        go_quiet ((go_at_call 46; exact Calls.quiet_of_same (unhide HN1 _)))
        go_wp2_with fail
        go_ret
        exact ⟨ret_int (unhide HE).symm, (unhide HB).trans ((((unhide HK).trans (unhide HX))).drewN _)⟩
      | true =>
        have HN1 : Hid (∀ w, Calls Tryz.prog 46 #[str f.name] w fun e w' => e = .returned (.bool true) ∧ w' = w) := fun w => by
          have := name_v f.name w
          rw [hnm] at this
          exact this
        cases hty : decide (0 ≤ wideB f.type) with
        | false =>
          have HE : Hid (errS l = 60) := errS_bad (schemaB_name (List.mem_of_getElem? (unhide HH)) (by rw [unhide HO, hnm, hty]; rfl))
          have HN2 : Hid (∀ w, Calls Tryz.prog 47 #[.int .i64 f.type] w fun e w' => e = .returned (.bool false) ∧ w' = w) := fun w => by
            have := isType_v f.type w
            rw [hty] at this
            exact this
          clear hnm hty HO HQ
          go_wp2_with fail
          go_quiet ((first | (go_at_call 46; exact Calls.quiet_of_same (unhide HN1 _)) | (go_at_call 47; exact Calls.quiet_of_same (unhide HN2 _))))
          go_wp2_with fail
          go_ret
          exact ⟨ret_int (unhide HE).symm, (unhide HB).trans ((((unhide HK).trans (unhide HX))).drewN _)⟩
        | true =>
          have HN2 : Hid (∀ w, Calls Tryz.prog 47 #[.int .i64 f.type] w fun e w' => e = .returned (.bool true) ∧ w' = w) := fun w => by
            have := isType_v f.type w
            rw [hty] at this
            exact this
          have HFO : Hid (fieldOK f = true) := by show _ = _; rw [unhide HO, hnm, hty]; rfl
          clear hnm hty HO
          go_wp2_with fail
          go_region_held3 (fun w' => w'.cell? ⟨wr.heap.size, 0, none⟩ = some (str f.name) ∧ w'.cell? ⟨wr.heap.size, 1, none⟩ = some (.int .i64 f.type) ∧ w'.cell? ⟨sb, 0, none⟩ = some (.slice (some ⟨b, off, none⟩) l.length cap))
            (go_keep)
            (first
              | (go_at_call 46
                 refine (unhide HN1 _).mono ?_
                 rintro e w4 ⟨rfl, rfl⟩)
              | (go_at_call 47
                 refine (unhide HN2 _).mono ?_
                 rintro e w4 ⟨rfl, rfl⟩)
              | (go_at_call 48
                 refine (unhide HQ).mono ?_
                 rintro e w4 ⟨rfl, hk4⟩
                 have q0 := (hk4.cell (o := 0) hz0 id).trans x0
                 have q1 := (hk4.cell (o := 1) hz0 id).trans x1
                 have q2 := (hk4.cell (o := 0) hz1 id).trans hp3
                 have K4 := hide ((unhide HX4).trans hk4)
                 clear hk4))
          cases hnd : namedB (l.take k) f.name with
          | true =>
            have HE : Hid (errS l = 60) := errS_bad (namedB_true (unhide HH) hnd)
            go_wp2_with fail
            go_ret
            exact ⟨ret_int (unhide HE).symm, (unhide HB).trans (unhide K4)⟩
          | false =>
            have HD := hide (namedB_false hnd)
            go_wp2_with fail
            go_roundw
            case rel =>
              refine ⟨k + 1, by omega, by go_num, ?_, ?_, unhide K4⟩
              · show _ = true
                rw [take_snoc _ _ _ (unhide HH), List.all_append, unhide HA]
                simp [unhide HFO]
              · show List.Nodup _
                rw [take_snoc _ _ _ (unhide HH)]
                exact nodup_snoc (unhide HN) (unhide HD)
            case measure => simp [intOf]; omega

end Go.Proofs.YtoempeobaknkcaaGreatDoor
namespace Go.Proofs.YtoempeobaknkcaaGreatDoor
open Go.RowKit Go.Maps

def roomT : Txt := [114, 111, 111, 109]
def roomF (i : Nat) : FieldA := ⟨roomT, 100 + (i : Int), false⟩
/-- The first j marks. -/
def roomsF (j : Nat) : List FieldA := (List.range j).map roomF
theorem roomsF_succ (j : Nat) : roomsF (j + 1) = roomsF j ++ [roomF j] := by simp [roomsF, List.range_succ]
theorem roomsF_len (j : Nat) : (roomsF j).length = j := by simp [roomsF]
theorem fcs_app (a b : List FieldA) : fcs (a ++ b) = fcs a ++ fcs b := by simp [fcs]
theorem fcs_ones (l : List FieldA) : ∀ u ∈ fcs l, u.oneCell' = true := by
  intro u hu
  unfold fcs at hu
  obtain ⟨f, _, hf⟩ := List.mem_flatMap.1 hu
  have hf' : u ∈ [str f.name, .int .i64 f.type, .bool f.opt] := hf
  simp only [List.mem_cons, List.not_mem_nil, or_false] at hf'
  rcases hf' with rfl | rfl | rfl <;> rfl
theorem own_geO {w : World} {B e size n : Nat} {v : Value} {xs : List Value} (h : w.ownsRow B e size v n xs) {k : Nat} (hk : v.ownBlock = some k) : B ≤ k := by
  rcases h.2 with ⟨hv, _⟩ | ⟨g, cap, cur, hv, hb, hg, rest⟩
  · rw [hv] at hk; cases hk
  · rw [hv] at hk
    simp [Value.ownBlock] at hk
    subst hk
    exact hb
theorem ownsRow_low {w : World} {B C e size n : Nat} {v : Value} {xs : List Value} (h : w.ownsRow B e size v n xs) (hC : C ≤ B) : w.ownsRow C e size v n xs :=
  ⟨h.1, h.2.imp id fun ⟨g, cap, cur, a1, a2, a3⟩ => ⟨g, cap, cur, a1, Nat.le_trans hC a2, a3⟩⟩
/-- A struct in a box and a slot, handed back. -/
theorem results_cr {P : Program} {fn : Func} {p q : Tmp} {ty : TypeId} (h : fn.results = #[.cell p ty, .tmp q]) (tmps : Array Value) (w : World) (g : Nat) (t : TypeId) (cs : Array Value) (fr : Nat × Nat) (d : TypeDesc) (v : Value)
    (hp : tmps.getD p undef = .pointer (some ⟨g, 0, none⟩)) (hq : tmps.getD q undef = v) (hg : w.heap[g]? = some (.cells cs t fr))
    (hu : P.underlying ty = some d) (hd : (match d with | .struct _ | .array _ _ => true | _ => false) = true) (hi : (P.info? ty).map (·.size) = some cs.size) :
    (results fn tmps).run P w = .ok (.tuple #[.agg cs, v]) w := by
  have hp' : tmps[p]?.getD undef = .pointer (some ⟨g, 0, none⟩) := by simpa using hp
  have hq' : tmps[q]?.getD undef = v := by simpa using hq
  simp [results, h, hp', hq', asAddr, run_loadVar_row w g t ty cs fr d hg hu hd hi]
theorem narrowO {F : Nat → Prop} {a b c : World} (h : Keeps (fun _ => False) a b) (k : Keeps F b c) (hF : ∀ i, F i → a.heap.size ≤ i) : Keeps (fun _ => False) a c :=
  ⟨k.os.trans h.os, k.tape.trans h.tape, k.output.trans h.output, Nat.le_trans h.size k.size, fun i hi _ => (k.block i (Nat.lt_of_lt_of_le hi h.size) (fun e => by have := hF i e; omega)).trans (h.block i hi id)⟩
/-- A field appended to a row of one's own. -/
theorem wpList_append_fld {w : World} {ops : Array Oper} {rest : List Oper} {o : Oper} {a : Act} {Q : Exit → Act → World → Prop} (hgd : o.guard = none) (s x : Operand)
    (ho : o.op = .call { callee := .builtin .append, args := #[s, x], argTypes := #[22, 22] }) (base : Nat) (v : Value) (n : Nat) (xs : List Value) (hs : a.eval s = v) (hown : w.ownsRow base 67 3 v n xs)
    (ad c : Nat) (f : FieldA) (hx : a.eval x = .slice (some ⟨ad, 0, none⟩) 1 c) (hu : w.ownsRow 0 67 3 (.slice (some ⟨ad, 0, none⟩) 1 c) 1 (fcs [f])) (hl : n + 1 ≤ 4398046511104) (hbase : base ≤ w.heap.size)
    (h : ∀ v' w', w'.ownsRow base 67 3 v' (n + 1) (xs ++ fcs [f]) → w.grownBy w' v.ownBlock → wpList Tryz.prog ops Q rest (a.put o.dst v') w') : wpList Tryz.prog ops Q (o :: rest) a w :=
  wpList_plain hgd fun _ hK => by
    obtain ⟨i0, hi, hz0, hz1, hz2⟩ := info_parts Tryz.info67
    obtain ⟨v', w', hr, h2, h3, _⟩ := run_append_own_at (P := Tryz.prog) w base 22 o.type 67 i0 _ 3 32 Tryz.underlying22 hi hz0 hz1 hz2 rfl (by omega) v n xs hown ⟨ad, 0, none⟩ 1 c (fcs [f]) (by rw [fcs_length]; rfl) (hu.cells rfl) (fcs_ones [f]) (by unfold maxLen; omega) (by omega) hbase
    unfold Oper.wp execOp
    simp only [ho, resolve, invoke, builtin, Sem.run_bind, Sem.run_pure, Result.andThen_ok, List.map_toArray, List.map_cons, List.map_nil, hs, hx, hr]
    exact hK _ _ (h v' w' h2 h3)
theorem fld_lit (w : World) (a : Txt) (t : Int) (b : Bool) : (w.alloc (.cells #[str a, .int .i64 t, .bool b] 67)).ownsRow 0 67 3 (.slice (some ⟨w.heap.size, 0, none⟩) 1 1) 1 (fcs [⟨a, t, b⟩]) :=
  World.ownsRow_lit (base := 0) (e := 67) (size := 3) w #[str a, .int .i64 t, .bool b] 1 (Nat.zero_le _) (by unfold maxLen; omega) (by simp)

set_option maxRecDepth 100000 in
set_option maxHeartbeats 4000000 in
theorem roomFields_v (S : List FieldA) (v : Value) (w : World) (h : FldsAt w v S) (hn : S.length + 64 ≤ 4398046511104) :
    Calls Tryz.prog 12 #[.agg #[v]] w fun e w' => ∃ g cap, e = .returned (.tuple #[.agg #[.slice (some ⟨g, 0, none⟩) S.length cap], .slice (some ⟨g, 0, none⟩) (S.length + 64) cap]) ∧ w'.ownsRow w.heap.size 67 3 (.slice (some ⟨g, 0, none⟩) (S.length + 64) cap) (S.length + 64) (fcs (S ++ roomsF 64)) ∧ Keeps (fun _ => False) w w' := by
  obtain ⟨so, sc, rfl⟩ := RowAt.form h
  obtain ⟨X, hX⟩ : ∃ X, (w.alloc (.cells #[.slice so S.length sc] 24)).alloc (.cells #[.slice none 0 0] 24) = X := ⟨_, rfl⟩
  have hk1 : Keeps (fun _ => False) w (w.alloc (.cells #[.slice so S.length sc] 24)) := (Keeps.refl _ w).alloc _
  have hk2 : Keeps (fun _ => False) (w.alloc (.cells #[.slice so S.length sc] 24)) X := by rw [← hX]; exact (Keeps.refl _ _).alloc _
  have hq : X.heap[w.heap.size]? = some (.cells #[.slice so S.length sc] 24 (0, 0)) := (hk2.block _ (by simp) id).trans (heap_alloc_new w _)
  have hz : X.heap[w.heap.size + 1]? = some (.cells #[.slice none 0 0] 24 (0, 0)) := by
    have := heap_alloc_new (w.alloc (.cells #[.slice so S.length sc] 24)) (.cells #[.slice none 0 0] 24)
    rw [hX] at this
    simpa using this
  have hxs : w.heap.size + 2 ≤ X.heap.size := by rw [← hX]; simp
  have hkx := hk1.trans hk2
  have HX := hide hX
  have HQ := hide hq
  have HZ := hide hz
  have HKX := hide hkx
  have HL := hide h
  have HNN := hide hn
  clear hk1 hk2 hkx hq hz h hX
  go_enter Tryz.func12, Tryz.ntmps12
  go_wp2_with fail
  rw [unhide HX]
  go_loopw [4, 5] (fun vv i wr => ∃ j : Nat, j ≤ S.length ∧ i = .int .i64 (j : Int) ∧ Hid (wr.ownsRow (w.heap.size + 2) 67 3 vv j (fcs (S.take j))) ∧ Hid (wr.heap[w.heap.size]? = some (.cells #[.slice so S.length sc] 24 (0, 0))) ∧ Hid (wr.heap[w.heap.size + 1]? = some (.cells #[.slice none 0 0] 24 (0, 0))) ∧ Hid (Keeps (fun _ => False) w wr) ∧ w.heap.size + 2 ≤ wr.heap.size) (fun _ i _ => S.length - (intOf i).toNat)
  case atStart => exact ⟨0, Nat.zero_le _, rfl, by show World.ownsRow _ _ _ _ _ _ _; simpa [fcs] using World.ownsRow_nil X (w.heap.size + 2) 67 3, HQ, HZ, HKX, hxs⟩
  case round =>
    clear HQ HZ HKX hxs
    obtain ⟨j, hj, rfl, HO, HQ, HZ, HK, hs⟩ := hrel
    obtain ⟨vo, vc, rfl⟩ := (rowAt_own (unhide HO)).form
    have q0 := (cell_of_blk (unhide HQ) 0).trans (show _ = some (Value.slice so S.length sc) from rfl)
    by_cases hlt : j < S.length
    · obtain ⟨b, off, cap', e, hb, hc⟩ := (unhide HL).cells (by omega)
      simp only [Value.slice.injEq] at e
      obtain ⟨rfl, _, rfl⟩ := e
      obtain ⟨f, hf⟩ : ∃ f, S[j]? = some f := ⟨_, List.getElem?_eq_getElem hlt⟩
      obtain ⟨y0, y1, y2⟩ := hc j f hf
      have y0 := ((unhide HK).cell hb id).trans y0
      have y1 := ((unhide HK).cell hb id).trans y1
      have y2 := ((unhide HK).cell hb id).trans y2
      have HFL := hide (fld_lit wr f.name f.type f.opt)
      have HOA := hide ((unhide HO).alloc (.cells #[str f.name, .int .i64 f.type, .bool f.opt] 67))
      have i1 : (j : Int) < (S.length : Int) := by omega
      have i2 : (0 : Int) ≤ (j : Int) := by omega
      have hl_ : j + 1 ≤ 4398046511104 := by have := unhide HNN; omega
      have hb_ : w.heap.size + 2 ≤ (wr.alloc (.cells #[str f.name, .int .i64 f.type, .bool f.opt] 67)).heap.size := by simp; omega
      clear hc
      go_wp2_with (at_builtin; refine wpList_append_fld rfl _ _ rfl (w.heap.size + 2) _ j _ rfl (unhide HOA) _ 1 ⟨f.name, f.type, f.opt⟩ rfl (unhide HFL) hl_ hb_ ?_)
      intro v5 w5 ho5 hg5
      have hkg : Keeps (fun q => (Value.slice vo j vc).ownBlock = some q) wr w5 := ((Keeps.refl (fun _ => False) wr).alloc (.cells #[str f.name, .int .i64 f.type, .bool f.opt] 67)).any.trans ((Keeps.refl _ _).grown hg5 (fun q e _ => e))
      have hge : ∀ q, (Value.slice vo j vc).ownBlock = some q → w.heap.size + 2 ≤ q := fun q e => own_geO (unhide HO) e
      have HQ5 := hide ((hkg.block _ (lt_of_block (unhide HQ)) (fun e => by have := hge _ e; omega)).trans (unhide HQ))
      have HZ5 := hide ((hkg.block _ (lt_of_block (unhide HZ)) (fun e => by have := hge _ e; omega)).trans (unhide HZ))
      have HK5 := hide (narrowO (unhide HK) hkg (fun q e => by have := hge q e; omega))
      have hs5 : w.heap.size + 2 ≤ w5.heap.size := by have := hkg.size; omega
      have HO5 : Hid (w5.ownsRow (w.heap.size + 2) 67 3 v5 (j + 1) (fcs (S.take (j + 1)))) := by
        show World.ownsRow _ _ _ _ _ _ _
        rw [take_snoc _ _ _ hf, fcs_app]
        exact ho5
      clear ho5 hg5 hkg hge HOA HFL HO HQ HZ HK
      go_wp2_with fail
      go_roundw
      case rel => exact ⟨j + 1, by omega, by go_num, HO5, HQ5, HZ5, HK5, hs5⟩
      case measure => simp [intOf]; omega
    · obtain rfl : j = S.length := by omega
      have i1 : ¬ (S.length : Int) < (S.length : Int) := by omega
      have HO0 : Hid (wr.ownsRow (w.heap.size + 2) 67 3 (.slice vo S.length vc) (S.length + 0) (fcs (S ++ roomsF 0))) := by
        have := unhide HO
        rw [List.take_length] at this
        show World.ownsRow _ _ _ _ _ _ _
        simpa [roomsF] using this
      clear HO hlt hj
      obtain ⟨w3, rfl⟩ : ∃ W, W = wr := ⟨_, rfl⟩
      go_wp2_with fail
      go_loopw [4, 6] (fun vv i wr => ∃ j : Nat, j ≤ 64 ∧ i = .int .i64 (j : Int) ∧ Hid (wr.ownsRow (w.heap.size + 2) 67 3 vv (S.length + j) (fcs (S ++ roomsF j))) ∧ Hid (wr.heap[w.heap.size]? = some (.cells #[.slice so S.length sc] 24 (0, 0))) ∧ Hid (wr.heap[w.heap.size + 1]? = some (.cells #[.slice none 0 0] 24 (0, 0))) ∧ Hid (Keeps (fun _ => False) w wr) ∧ w.heap.size + 2 ≤ wr.heap.size) (fun _ i _ => 64 - (intOf i).toNat)
      case atStart => exact ⟨0, by omega, rfl, HO0, HQ, HZ, HK, hs⟩
      case round =>
        clear HO0 HQ HZ HK hs q0
        obtain ⟨j, hj, rfl, HO, HQ, HZ, HK, hs⟩ := hrel
        obtain ⟨vo, vc, rfl⟩ := (rowAt_own (unhide HO)).form
        by_cases hlt : j < 64
        · have i1 : (j : Int) < 64 := by omega
          have HFL := hide (fld_lit wr roomT (100 + (j : Int)) false)
          have HOA := hide ((unhide HO).alloc (.cells #[str roomT, .int .i64 (100 + (j : Int)), .bool false] 67))
          have hl_ : S.length + j + 1 ≤ 4398046511104 := by have := unhide HNN; omega
          have hb_ : w.heap.size + 2 ≤ (wr.alloc (.cells #[str roomT, .int .i64 (100 + (j : Int)), .bool false] 67)).heap.size := by simp; omega
          go_wp2_with (at_builtin; refine wpList_append_fld rfl _ _ rfl (w.heap.size + 2) _ (S.length + j) _ rfl (unhide HOA) _ 1 ⟨roomT, 100 + (j : Int), false⟩ rfl (unhide HFL) hl_ hb_ ?_)
          intro v5 w5 ho5 hg5
          have hkg : Keeps (fun q => (Value.slice vo (S.length + j) vc).ownBlock = some q) wr w5 := ((Keeps.refl (fun _ => False) wr).alloc (.cells #[str roomT, .int .i64 (100 + (j : Int)), .bool false] 67)).any.trans ((Keeps.refl _ _).grown hg5 (fun q e _ => e))
          have hge : ∀ q, (Value.slice vo (S.length + j) vc).ownBlock = some q → w.heap.size + 2 ≤ q := fun q e => own_geO (unhide HO) e
          have HQ5 := hide ((hkg.block _ (lt_of_block (unhide HQ)) (fun e => by have := hge _ e; omega)).trans (unhide HQ))
          have HZ5 := hide ((hkg.block _ (lt_of_block (unhide HZ)) (fun e => by have := hge _ e; omega)).trans (unhide HZ))
          have HK5 := hide (narrowO (unhide HK) hkg (fun q e => by have := hge q e; omega))
          have hs5 : w.heap.size + 2 ≤ w5.heap.size := by have := hkg.size; omega
          have HO5 : Hid (w5.ownsRow (w.heap.size + 2) 67 3 v5 (S.length + (j + 1)) (fcs (S ++ roomsF (j + 1)))) := by
            show World.ownsRow _ _ _ _ _ _ _
            rw [roomsF_succ, ← List.append_assoc, fcs_app, ← Nat.add_assoc]
            exact ho5
          clear ho5 hg5 hkg hge HOA HFL HO HQ HZ HK
          go_wp2_with fail
          go_roundw
          case rel => exact ⟨j + 1, by omega, by go_num, HO5, HQ5, HZ5, HK5, hs5⟩
          case measure => simp [intOf]; omega
        · obtain rfl : j = 64 := by omega
          obtain ⟨g, rfl, hg, hcap⟩ : ∃ g, vo = some ⟨g, 0, none⟩ ∧ w.heap.size + 2 ≤ g ∧ S.length + 64 ≤ vc := by
            rcases (unhide HO).2 with ⟨_, h0⟩ | ⟨g, cp, cur, a1, a2, a3, a4, _⟩
            · omega
            · simp only [Value.slice.injEq] at a1
              obtain ⟨rfl, _, rfl⟩ := a1
              exact ⟨g, rfl, a2, a4⟩
          have q0 := (cell_of_blk (unhide HQ) 0).trans (show _ = some (Value.slice so S.length sc) from rfl)
          have z0 := (cell_of_blk (unhide HZ) 0).trans (show _ = some (Value.slice none 0 0) from rfl)
          have zf : wr.frozen? ⟨w.heap.size + 1, 0, none⟩ = false := Lib.frozen_of_heap (unhide HZ) 0
          have c1 : (S.length : Int) ≤ (vc : Int) := by omega
          have c2 : S.length ≤ vc := by omega
          have hst := heap_setCell_at (o := 0) (unhide HZ) (.slice (some ⟨g, 0, none⟩) S.length vc)
          have hks := keeps_set wr (w.heap.size + 1) 0 (.slice (some ⟨g, 0, none⟩) S.length vc)
          have HOZ := hide (ownsRow_kept (unhide HO) hks (fun q e => by have := own_geO (unhide HO) e; omega))
          have HKZ := hide (narrowO (unhide HK) hks (fun q e => by omega))
          have HST := hide hst
          clear hst hks HO HQ HZ HK
          go_wp2_with fail
          exact bodyPost_ret (results_cr rfl _ _ (w.heap.size + 1) 24 _ (0, 0) _ _ rfl rfl (unhide HST) Tryz.underlying24 rfl (by kernel_rfl)) rfl ⟨g, vc, rfl, ownsRow_low (unhide HOZ) (by omega), unhide HKZ⟩
end Go.Proofs.YtoempeobaknkcaaGreatDoor
namespace Go.Proofs.YtoempeobaknkcaaGreatDoor
open Go.RowKit Go.Maps

theorem own_lt {w : World} {B e z n : Nat} {v : Value} {xs : List Value} (h : w.ownsRow B e z v n xs) {k : Nat} (hk : v.ownBlock = some k) : k < w.heap.size := by
  rcases h.2 with ⟨rfl, _⟩ | ⟨g, cap, cur, rfl, _, hg, _⟩
  · cases hk
  · simp [Value.ownBlock] at hk
    subst hk
    exact lt_of_block hg
theorem own_typed {w : World} {B e z n : Nat} {v : Value} {xs : List Value} (h : w.ownsRow B e z v n xs) {k : Nat} (hk : v.ownBlock = some k) : B ≤ k ∧ ∃ c, w.heap[k]? = some (.cells c e (0, 0)) := by
  rcases h.2 with ⟨rfl, _⟩ | ⟨g, cap, cur, rfl, hb, hg, _⟩
  · cases hk
  · simp [Value.ownBlock] at hk
    subst hk
    exact ⟨hb, cur, hg⟩

/-- The kind of a tree's block. -/
def kindT (s : Bool) : TypeId := if s then 53 else 57
/-- In these blocks alone, each of its kind. -/
def tyZ (A : Nat → Prop) : Zone := ⟨fun w s k => A k ∧ ∃ c, w.heap[k]? = some (.cells c (kindT s) (0, 0)), fun _ _ => True, fun hk hl ⟨h0, c, h⟩ => ⟨h0, c, (hk.block _ hl id).trans h⟩⟩
section
variable {A C F : Nat → Prop} {w w' : World}
theorem tyZ_keep (hk : Keeps F w w') (hF : ∀ s k c, A k → w.heap[k]? = some (.cells c (kindT s) (0, 0)) → ¬ F k) (s : Bool) (k : Nat) (hG : (tyZ A).G w s k) : ¬ F k ∧ (tyZ A).G w' s k := by
  obtain ⟨h0, c, hc⟩ := hG
  have hn := hF s k c h0 hc
  exact ⟨hn, h0, c, (hk.block k (lt_of_block hc) hn).trans hc⟩
theorem ExIn.tyKeep {l : EL} {b o : Nat} (h : ExIn (tyZ A) w l b o) (hk : Keeps F w w') (hF : ∀ s k c, A k → w.heap[k]? = some (.cells c (kindT s) (0, 0)) → ¬ F k) : ExIn (tyZ A) w' l b o :=
  ExIn.keep (Q := fun _ => True) (fun _ _ _ _ => trivial) hk (fun s k _ _ hg => tyZ_keep hk hF s k hg) trivial h
theorem SlE.tyKeep {up : Nat} {v : Value} {l : EL} (h : SlE (tyZ A) w up v l) (hk : Keeps F w w') (hF : ∀ s k c, A k → w.heap[k]? = some (.cells c (kindT s) (0, 0)) → ¬ F k) : SlE (tyZ A) w' up v l :=
  SlE.keep (Q := fun _ => True) (fun _ _ _ _ => trivial) hk (fun s k _ _ hg => tyZ_keep hk hF s k hg) trivial h
theorem StIn.tyKeep {l : SL} {b o : Nat} (h : StIn (tyZ A) w l b o) (hk : Keeps F w w') (hF : ∀ s k c, A k → w.heap[k]? = some (.cells c (kindT s) (0, 0)) → ¬ F k) : StIn (tyZ A) w' l b o :=
  StIn.keep (Q := fun _ => True) (fun _ _ _ _ => trivial) hk (fun s k _ _ hg => tyZ_keep hk hF s k hg) trivial h
theorem SlS.tyKeep {up : Nat} {v : Value} {l : SL} (h : SlS (tyZ A) w up v l) (hk : Keeps F w w') (hF : ∀ s k c, A k → w.heap[k]? = some (.cells c (kindT s) (0, 0)) → ¬ F k) : SlS (tyZ A) w' up v l :=
  SlS.keep (Q := fun _ => True) (fun _ _ _ _ => trivial) hk (fun s k _ _ hg => tyZ_keep hk hF s k hg) trivial h
theorem ExIn.tyMono (hAC : ∀ k, k < w.heap.size → A k → C k) : ∀ {l : EL} {b o : Nat}, ExIn (tyZ A) w l b o → ExIn (tyZ C) w l b o
  | .nil, _, _, _ => trivial
  | .cons _ _ _ _ _, _, _, ⟨h1, ⟨h2, hc⟩, h3, h4, h5, ⟨ao, cap, h6, h7, h8⟩, h9⟩ => ⟨h1, ⟨hAC _ h1 h2, hc⟩, h3, h4, h5, ⟨ao, cap, h6, h7, fun h0 => by
      obtain ⟨b', o', e, _, hr⟩ := h8 h0
      exact ⟨b', o', e, trivial, hr.tyMono hAC⟩⟩, h9.tyMono hAC⟩
theorem SlE.tyMono {up up' : Nat} {v : Value} {l : EL} (h : SlE (tyZ A) w up v l) (hAC : ∀ k, k < w.heap.size → A k → C k) : SlE (tyZ C) w up' v l := by
  obtain ⟨ao, cap, e, hc, hr⟩ := h
  refine ⟨ao, cap, e, hc, fun h0 => ?_⟩
  obtain ⟨b, o, e1, _, hx⟩ := hr h0
  exact ⟨b, o, e1, trivial, hx.tyMono hAC⟩
end
/-- These cells hold these expressions. -/
def TsE (A : Nat → Prop) (w : World) : EL → List Value → Prop
  | .nil, xs => xs = []
  | .cons op n s kids rest, xs => ∃ kv xs', xs = .int .i64 op :: .int .i64 n :: str s :: kv :: xs' ∧ SlE (tyZ A) w 0 kv kids ∧ TsE A w rest xs'
theorem TsE.keep {A F : Nat → Prop} {w w' : World} (hk : Keeps F w w') (hF : ∀ s k c, A k → w.heap[k]? = some (.cells c (kindT s) (0, 0)) → ¬ F k) : ∀ {l : EL} {xs : List Value}, TsE A w l xs → TsE A w' l xs
  | .nil, _, h => h
  | .cons _ _ _ _ _, _, ⟨kv, xs', e, h1, h2⟩ => ⟨kv, xs', e, h1.tyKeep hk hF, h2.keep hk hF⟩
theorem TsE.mono {A C : Nat → Prop} {w : World} (hAC : ∀ k, k < w.heap.size → A k → C k) : ∀ {l : EL} {xs : List Value}, TsE A w l xs → TsE C w l xs
  | .nil, _, h => h
  | .cons _ _ _ _ _, _, ⟨kv, xs', e, h1, h2⟩ => ⟨kv, xs', e, h1.tyMono hAC, h2.mono hAC⟩
theorem TsE.snoc {A : Nat → Prop} {w : World} {op n : Int} {s : Txt} {kids : EL} {kv : Value} (hk : SlE (tyZ A) w 0 kv kids) : ∀ {l : EL} {xs : List Value}, TsE A w l xs → TsE A w (l.app (.cons op n s kids .nil)) (xs ++ [.int .i64 op, .int .i64 n, str s, kv])
  | .nil, _, h => by
    have h' : _ = _ := h
    subst h'
    exact ⟨kv, [], rfl, hk, rfl⟩
  | .cons _ _ _ _ _, _, ⟨kv', xs', e, h1, h2⟩ => ⟨kv', xs' ++ [.int .i64 op, .int .i64 n, str s, kv], by rw [e]; rfl, h1, h2.snoc hk⟩
theorem TsE.length {A : Nat → Prop} {w : World} : ∀ {l : EL} {xs : List Value}, TsE A w l xs → xs.length = l.len * 4
  | .nil, _, h => by have h' : _ = _ := h; subst h'; rfl
  | .cons _ _ _ _ r, _, ⟨kv, xs', e, _, h⟩ => by have := TsE.length h; subst e; simp [EL.len, this]; omega
theorem TsE.exIn {A C : Nat → Prop} {w : World} {b : Nat} {c : Array Value} (hb : w.heap[b]? = some (.cells c 57 (0, 0))) (hC : C b) (hAC : ∀ k, k < w.heap.size → A k → C k) : ∀ {l : EL} {xs : List Value} {o : Nat}, TsE A w l xs → (∀ j x, xs[j]? = some x → w.cell? ⟨b, o + j, none⟩ = some x) → ExIn (tyZ C) w l b o
  | .nil, _, _, _, _ => trivial
  | .cons _ _ _ _ _, _, o, ⟨kv, xs', e, h1, h2⟩, hc => by
    subst e
    obtain ⟨ao, cap, ek, hcap, hr⟩ := h1.tyMono (up' := b) hAC
    refine ⟨lt_of_block hb, ⟨hC, c, hb⟩, hc 0 _ rfl, hc 1 _ rfl, hc 2 _ rfl, ⟨ao, cap, by rw [← ek]; exact hc 3 _ rfl, hcap, fun h0 => ?_⟩, TsE.exIn hb hC hAC h2 (fun j x hx => ?_)⟩
    · obtain ⟨b', o', e1, _, hx⟩ := hr h0
      exact ⟨b', o', e1, trivial, hx⟩
    · rw [show o + 4 + j = o + (j + 4) by omega]
      exact hc (j + 4) x (by simpa using hx)

/-- A list that is lent out: its block, how many of its own, its room. -/
structure Lent where
  g : Nat
  n : Nat
  cap : Nat
def Lent.v (p : Lent) : Value := .slice (some ⟨p.g, 0, none⟩) (p.n + 64) p.cap
def Lent.c (p : Lent) : Value := .int .i64 (p.n : Int)
def MarkE (w : World) (p : Lent) : Prop := p.n ≤ 4294967294 ∧ ∃ c, w.heap[p.g]? = some (.cells c 57 (0, 0)) ∧ ∀ k, k < 64 → c[(p.n + k) * 4]? = some (.int .i64 77) ∧ c[(p.n + k) * 4 + 1]? = some (.int .i64 (k : Int)) ∧ c[(p.n + k) * 4 + 2]? = some (.string ⟨#[]⟩) ∧ c[(p.n + k) * 4 + 3]? = some (.slice none 0 0)
def MarkS (w : World) (p : Lent) : Prop := p.n ≤ 4294967294 ∧ ∃ c, w.heap[p.g]? = some (.cells c 53 (0, 0)) ∧ ∀ k, k < 64 → c[(p.n + k) * 5]? = some (.int .i64 (1000 + (k : Int))) ∧ c[(p.n + k) * 5 + 1]? = some (str roomT) ∧ c[(p.n + k) * 5 + 2]? = some (.slice none 0 0) ∧ c[(p.n + k) * 5 + 3]? = some (.slice none 0 0) ∧ c[(p.n + k) * 5 + 4]? = some (.slice none 0 0)
theorem MarkE.keep {F : Nat → Prop} {w w' : World} {p : Lent} (h : MarkE w p) (hk : Keeps F w w') (hF : ¬ F p.g) : MarkE w' p := by
  obtain ⟨hn, c, hc, hm⟩ := h
  exact ⟨hn, c, (hk.block _ (lt_of_block hc) hF).trans hc, hm⟩
theorem MarkS.keep {F : Nat → Prop} {w w' : World} {p : Lent} (h : MarkS w p) (hk : Keeps F w w') (hF : ¬ F p.g) : MarkS w' p := by
  obtain ⟨hn, c, hc, hm⟩ := h
  exact ⟨hn, c, (hk.block _ (lt_of_block hc) hF).trans hc, hm⟩
/-- The book of all that is lent out. -/
structure RoomsAt (w : World) (B g : Nat) (LE LS : List Lent) (vS vE vNS vNE : Value) : Prop where
  lo : B ≤ g
  blk : w.heap[g]? = some (.cells #[vS, vE, vNS, vNE] 47 (0, 0))
  rowS : w.ownsRow B 25 1 vS LS.length (LS.map Lent.v)
  rowE : w.ownsRow B 51 1 vE LE.length (LE.map Lent.v)
  rowNS : w.ownsRow B 3 1 vNS LS.length (LS.map Lent.c)
  rowNE : w.ownsRow B 3 1 vNE LE.length (LE.map Lent.c)
  apart : ∀ q, vNS.ownBlock = some q → vNE.ownBlock = some q → False
  ex : ∀ p ∈ LE, MarkE w p
  st : ∀ p ∈ LS, MarkS w p
/-- What may be written: the book and its rows. -/
def BF (w : World) (B g k : Nat) : Prop := k = g ∨ (B ≤ k ∧ ∃ c t, (t = 25 ∨ t = 51 ∨ t = 3) ∧ w.heap[k]? = some (.cells c t (0, 0)))
theorem BF.lo {w : World} {B g k : Nat} (h : BF w B g k) (hg : B ≤ g) : B ≤ k := by
  rcases h with rfl | ⟨h, _⟩
  · exact hg
  · exact h
theorem bf_trans {a b c : World} {B g : Nat} (h : Keeps (BF a B g) a b) (k : Keeps (BF b B g) b c) : Keeps (BF a B g) a c :=
  h.then k fun i hi hf => by
    rcases hf with rfl | ⟨hB, x, t, ht, hx⟩
    · exact Or.inl rfl
    · by_cases hq : BF a B g i
      · exact hq
      · exact Or.inr ⟨hB, x, t, ht, (h.block i hi hq).symm.trans hx⟩
/-- A tree's block is none that may be written. -/
theorem ty_bf {w : World} {B g : Nat} {LE LS : List Lent} {vS vE vNS vNE : Value} (h : RoomsAt w B g LE LS vS vE vNS vNE) {s : Bool} {k : Nat} {c : Array Value} (hc : w.heap[k]? = some (.cells c (kindT s) (0, 0))) : ¬ BF w B g k := by
  rintro (rfl | ⟨_, x, t, ht, hx⟩)
  · rw [h.blk] at hc
    simp only [Option.some.injEq, Obj.cells.injEq] at hc
    have := hc.2.1
    cases s <;> simp [kindT] at this
  · rw [hx] at hc
    simp only [Option.some.injEq, Obj.cells.injEq] at hc
    have := hc.2.1
    rcases ht with rfl | rfl | rfl <;> cases s <;> simp [kindT] at this
theorem RoomsAt.keep {w w' : World} {B g : Nat} {LE LS : List Lent} {vS vE vNS vNE : Value} {F : Nat → Prop} (h : RoomsAt w B g LE LS vS vE vNS vNE) (hk : Keeps F w w') (hg : ¬ F g) (hS : ∀ b, vS.ownBlock = some b → ¬ F b) (hE : ∀ b, vE.ownBlock = some b → ¬ F b) (hNS : ∀ b, vNS.ownBlock = some b → ¬ F b) (hNE : ∀ b, vNE.ownBlock = some b → ¬ F b) (h1 : ∀ p ∈ LE, ¬ F p.g) (h2 : ∀ p ∈ LS, ¬ F p.g) : RoomsAt w' B g LE LS vS vE vNS vNE :=
  ⟨h.lo, (hk.block g (lt_of_block h.blk) hg).trans h.blk, ownsRow_kept h.rowS hk hS, ownsRow_kept h.rowE hk hE, ownsRow_kept h.rowNS hk hNS, ownsRow_kept h.rowNE hk hNE, h.apart, fun p hp => (h.ex p hp).keep hk (h1 p hp), fun p hp => (h.st p hp).keep hk (h2 p hp)⟩
theorem RoomsAt.keepF {w w' : World} {B g : Nat} {LE LS : List Lent} {vS vE vNS vNE : Value} (h : RoomsAt w B g LE LS vS vE vNS vNE) (hk : Keeps (fun _ => False) w w') : RoomsAt w' B g LE LS vS vE vNS vNE :=
  h.keep hk id (fun _ _ => id) (fun _ _ => id) (fun _ _ => id) (fun _ _ => id) (fun _ _ => id) (fun _ _ => id)
/-- A block of trees that is not lent out yet is written. -/
theorem RoomsAt.tree {w w' : World} {B g : Nat} {LE LS : List Lent} {vS vE vNS vNE : Value} (h : RoomsAt w B g LE LS vS vE vNS vNE) {F : Nat → Prop} (hF : ∀ k, k < w.heap.size → F k → ∃ s c, w.heap[k]? = some (.cells c (kindT s) (0, 0))) (h1 : ∀ p ∈ LE, ¬ F p.g) (h2 : ∀ p ∈ LS, ¬ F p.g) (hk : Keeps F w w') : RoomsAt w' B g LE LS vS vE vNS vNE := by
  have hn : ∀ k, k < w.heap.size → F k → ¬ BF w B g k := fun k hl hf => by
    obtain ⟨s, c, hc⟩ := hF k hl hf
    exact ty_bf h hc
  refine h.keep hk (fun e => hn g (lt_of_block h.blk) e (Or.inl rfl)) (fun b hb e => ?_) (fun b hb e => ?_) (fun b hb e => ?_) (fun b hb e => ?_) h1 h2
  · obtain ⟨q1, c, q2⟩ := own_typed h.rowS hb
    exact hn b (lt_of_block q2) e (Or.inr ⟨q1, c, 25, Or.inl rfl, q2⟩)
  · obtain ⟨q1, c, q2⟩ := own_typed h.rowE hb
    exact hn b (lt_of_block q2) e (Or.inr ⟨q1, c, 51, Or.inr (Or.inl rfl), q2⟩)
  · obtain ⟨q1, c, q2⟩ := own_typed h.rowNS hb
    exact hn b (lt_of_block q2) e (Or.inr ⟨q1, c, 3, Or.inr (Or.inr rfl), q2⟩)
  · obtain ⟨q1, c, q2⟩ := own_typed h.rowNE hb
    exact hn b (lt_of_block q2) e (Or.inr ⟨q1, c, 3, Or.inr (Or.inr rfl), q2⟩)
end Go.Proofs.YtoempeobaknkcaaGreatDoor
