import Derived.Test.YtcicaifioghciaaGreatDoorJzaa
namespace Go.Proofs.YtcicaifioghciaaGreatDoor
open Go.RowKit Go.Maps

/-- How many bytes at the head of a text may stand in a name. -/
def runB (x : Txt) : Nat := scan x (fun c => partB (num c)) 0

set_option maxRecDepth 100000 in
theorem run_v (x : Txt) (hx : x.length ≤ 1099511627776) (w : World) : Calls Tryz.prog 98 #[str x] w fun e w' => e = .returned (.int .i64 (runB x)) ∧ w' = w := by
  go_enter Tryz.func98, Tryz.ntmps98
  go_wp2
  go_loopw [6] (fun i wr => ∃ k : Nat, k ≤ x.length ∧ i = .int .i64 k ∧ Hid (runB x = scan x (fun c => partB (num c)) k) ∧ wr = w) (fun i _ => x.length - (intOf i).toNat)
  case atStart => exact ⟨0, by omega, rfl, rfl, rfl⟩
  case round =>
    obtain ⟨k, hk, rfl, HS, rfl⟩ := hrel
    cases h : x[k]? with
    | none =>
      have h1 := get_ge h
      obtain rfl : k = x.length := by omega
      have HH := hide h
      clear h
      go_wp2
      go_ret
      exact ⟨ret_int (by rw [unhide HS, scan_none (unhide HH)]), rfl⟩
    | some y =>
      have h1 := get_lt h
      have q := str_at h
      have HH := hide h
      clear h
      have e1 : (y.toNat : Int) = num y := rfl
      go_wp2_with fail
      refine (inRun_any (num y) wr).mono ?_
      rintro e w1 ⟨rfl, rfl⟩
      cases hp : partB (num y) with
      | true =>
        go_wp2
        go_roundw
        case rel => exact ⟨k + 1, by omega, by go_num, (unhide HS).trans (scan_go (unhide HH) hp), trivial⟩
        case measure => simp [intOf]; omega
      | false =>
        go_wp2
        go_ret
        exact ⟨ret_int (by rw [unhide HS, scan_stop (unhide HH) hp]), rfl⟩

theorem takeWhile_all {p : UInt8 → Bool} : ∀ l : Txt, ((l.takeWhile p).length = l.length) = (l.all p = true)
  | [] => by simp
  | c :: r => by
    cases h : p c
    · simp [h]
    · have := takeWhile_all (p := p) r
      simp only [List.takeWhile_cons, h, List.length_cons, List.all_cons, Bool.true_and, if_true]
      rw [← this]
      simp
theorem runB_full (x : Txt) : ((runB x : Int) == (x.length : Int)) = x.all (fun c => partB (num c)) := by
  have h := takeWhile_all (p := fun c => partB (num c)) x
  unfold runB scan
  rw [List.drop_zero, Nat.zero_add]
  apply Bool.eq_iff_iff.2
  rw [beq_iff_eq, ← h]
  omega

theorem nameB_form (x : Txt) (c : UInt8) (h : x[0]? = some c) (h8 : x.length ≤ 8) : nameB x = (!digitB (num c) && (x.all (fun c => partB (num c)) && !decide (x ∈ kws))) := by
  unfold nameB digitB
  have : x ≠ [] := by rintro rfl; simp at h
  rw [h, decide_eq_true h8, decide_eq_true this]
  simp [Bool.and_assoc]

set_option maxRecDepth 100000 in
set_option maxHeartbeats 1000000 in
theorem name_v (x : Txt) (w : World) : Calls Tryz.prog 72 #[str x] w fun e w' => e = .returned (.bool (nameB x)) ∧ w' = w := by
  cases h : x[0]? with
  | none =>
    obtain rfl : x = [] := List.eq_nil_of_length_eq_zero (by have := get_ge h; omega)
    go_enter Tryz.func72, Tryz.ntmps72
    go_wp2
    go_ret
    exact ⟨rfl, rfl⟩
  | some c =>
    have h1 := get_lt h
    have q := str_at h
    have e1 : (c.toNat : Int) = num c := rfl
    by_cases hl : (8 : Int) < (x.length : Int)
    · have HN : Hid (nameB x = false) := by show _ = _; unfold nameB; rw [show decide (x.length ≤ 8) = false from decide_eq_false (by omega)]; simp
      clear h
      go_enter Tryz.func72, Tryz.ntmps72
      go_wp2
      go_ret
      exact ⟨ret_bool (unhide HN).symm, rfl⟩
    have hl2 : (x.length : Int) ≤ 8 := by omega
    have HN := hide (nameB_form x c h (by omega))
    have HR := hide (run_v x (by omega) w)
    have HK := hide (keyword_v x w)
    have HD := hide (digit_any (num c) w)
    have HF := hide (runB_full x)
    generalize nameB x = N at *
    generalize digitB (num c) = D at *
    generalize x.all (fun c => partB (num c)) = P at *
    generalize decide (x ∈ kws) = K at *
    clear h hl
    go_enter Tryz.func72, Tryz.ntmps72
    go_wp2_with fail
    refine (unhide HD).mono ?_
    rintro e w' ⟨rfl, rfl⟩
    cases D with
    | true =>
      go_wp2_with fail
      go_ret
      exact ⟨ret_bool (unhide HN).symm, rfl⟩
    | false =>
      go_wp2_with fail
      refine (unhide HR).mono ?_
      rintro e w' ⟨rfl, rfl⟩
      have hf := unhide HF
      cases P with
      | false =>
        go_wp2_with fail
        go_ret
        exact ⟨ret_bool (unhide HN).symm, rfl⟩
      | true =>
        go_wp2_with fail
        refine (unhide HK).mono ?_
        rintro e w' ⟨rfl, rfl⟩
        go_wp2_with fail
        go_ret
        exact ⟨ret_bool (by rw [unhide HN]; cases K <;> rfl), rfl⟩

theorem typeB (t : Int) : (t == 1 || t == 2 || t == 3) = decide (0 ≤ wideB t) := by
  unfold wideB
  apply Bool.eq_iff_iff.2
  simp only [Bool.or_eq_true, beq_iff_eq, decide_eq_true_eq]
  repeat' split
  all_goals omega

set_option maxRecDepth 100000 in
theorem isType_v (t : Int) (w : World) : Calls Tryz.prog 73 #[.int .i64 t] w fun e w' => e = .returned (.bool (decide (0 ≤ wideB t))) ∧ w' = w := by
  go_enter Tryz.func73, Tryz.ntmps73
  go_wp2
  all_goals (go_ret; refine ⟨ret_bool ?_, rfl⟩; rw [← typeB]; try simp_all)

end Go.Proofs.YtcicaifioghciaaGreatDoor
namespace Go.Proofs.YtcicaifioghciaaGreatDoor
open Go.RowKit Go.Maps

def namedB (l : List FieldA) (nm : Txt) : Bool := l.any fun f => decide (f.name = nm)
theorem namedB_snoc (l : List FieldA) (f : FieldA) (nm : Txt) : namedB (l ++ [f]) nm = (namedB l nm || decide (f.name = nm)) := by simp [namedB]

set_option maxRecDepth 100000 in
set_option maxHeartbeats 1000000 in
theorem named_v (l : List FieldA) (v : Value) (nm : Txt) (w : World) (h : FldsAt w v l) (hl : l.length ≤ 8) :
    Calls Tryz.prog 74 #[v, str nm] w fun e w' => e = .returned (.bool (namedB l nm)) ∧ Keeps (fun _ => False) w w' := by
  obtain ⟨ao, cap, rfl⟩ := RowAt.form h
  have HF := hide h
  clear h
  go_enter Tryz.func74, Tryz.ntmps74
  go_wp2
  go_loopw [9] (fun i wr => ∃ k : Nat, k ≤ l.length ∧ i = .int .i64 k ∧ Hid (namedB (l.take k) nm = false) ∧ Keeps (fun _ => False) w wr) (fun i _ => l.length - (intOf i).toNat)
  case atStart => exact ⟨0, Nat.zero_le _, rfl, by simp [Hid, namedB], Keeps.refl _ _⟩
  case round =>
    obtain ⟨k, hk, rfl, HS, hkp⟩ := hrel
    have HK := hide hkp
    cases h : l[k]? with
    | none =>
      have h1 := get_ge h
      obtain rfl : k = l.length := by omega
      clear hkp h h1
      rw [List.take_length] at HS
      go_wp2
      go_ret
      exact ⟨ret_bool (unhide HS).symm, unhide HK⟩
    | some f =>
      have h1 := get_lt h
      obtain ⟨b, off, c, e, hbl, hc⟩ := (unhide HF).cells (by omega)
      simp at e
      obtain ⟨rfl, rfl⟩ := e
      have c0 := (hkp.cell hbl id).trans (hc k f h).1
      have c1 := (hkp.cell hbl id).trans (hc k f h).2.1
      have c2 := (hkp.cell hbl id).trans (hc k f h).2.2
      have HH := hide h
      have HO : Hid (namedB (l.take (k + 1)) nm = (namedB (l.take k) nm || decide (f.name = nm))) := by show _ = _; rw [take_snoc _ _ _ h, namedB_snoc]
      clear hkp h hc
      go_wp2
      case roundEnd =>
        rename_i hne
        go_roundw
        case rel => exact ⟨k + 1, by omega, by go_num, by show _ = _; rw [unhide HO, unhide HS]; simpa using hne, (unhide HK).alloc _⟩
        case measure => simp [intOf]; omega
      rename_i hne
      go_ret
      refine ⟨ret_bool ?_, (unhide HK).alloc _⟩
      symm
      exact List.any_eq_true.2 ⟨f, List.mem_of_getElem? (unhide HH), by simpa using hne⟩

set_option maxRecDepth 100000 in
set_option maxHeartbeats 1000000 in
theorem head_v (l : List FieldA) (v : Value) (w : World) (h : FldsAt w v l) (hl : l.length ≤ 8) :
    Calls Tryz.prog 89 #[.agg #[v]] w fun e w' => e = .returned (.int .i64 (headB l)) ∧ Keeps (fun _ => False) w w' := by
  obtain ⟨ao, cap, rfl⟩ := RowAt.form h
  have HF := hide h
  clear h
  go_enter Tryz.func89, Tryz.ntmps89
  go_wp2
  obtain ⟨HB, hb, hbc⟩ := boxed w #[.slice ao l.length cap] 24
  have hp := hbc 0 (.slice ao l.length cap) rfl
  have HF2 := hide ((unhide HF).keepF (unhide HB))
  clear hbc HF
  generalize w.alloc (.cells #[.slice ao l.length cap] 24) = w2 at *
  generalize w.heap.size = sb at *
  go_loopw [3, 9] (fun n i wr => ∃ k : Nat, k ≤ l.length ∧ i = .int .i64 k ∧ n = .int .i64 (opts (l.take k)) ∧ Keeps (fun _ => False) w2 wr) (fun _ i _ => l.length - (intOf i).toNat)
  case atStart => exact ⟨0, Nat.zero_le _, rfl, rfl, Keeps.refl _ _⟩
  case round =>
    obtain ⟨k, hk, rfl, rfl, hkp⟩ := hrel
    have HK := hide hkp
    have ho := opts_le (l.take k)
    rw [List.length_take] at ho
    cases h : l[k]? with
    | none =>
      have h1 := get_ge h
      obtain rfl : k = l.length := by omega
      clear hkp h h1
      rw [List.take_length] at *
      go_wp2
      go_ret
      exact ⟨ret_int (by unfold headB; omega), (unhide HB).trans (unhide HK)⟩
    | some f =>
      have h1 := get_lt h
      obtain ⟨b, off, c, e, hbl, hc⟩ := (unhide HF2).cells (by omega)
      simp at e
      obtain ⟨rfl, rfl⟩ := e
      have c0 := (hkp.cell hbl id).trans (hc k f h).1
      have c1 := (hkp.cell hbl id).trans (hc k f h).2.1
      have c2 := (hkp.cell hbl id).trans (hc k f h).2.2
      have HO : Hid (opts (l.take (k + 1)) = opts (l.take k) + (if f.opt then 1 else 0)) := by show _ = _; rw [take_snoc _ _ _ h, opts_snoc]
      generalize opts (l.take k) = o at *
      clear hkp h hc
      cases hfo : f.opt with
      | true =>
        rw [hfo] at c2 HO
        go_wp2
        go_roundw
        case rel => exact ⟨k + 1, by omega, by go_num, by rw [unhide HO]; go_num, (unhide HK).alloc _⟩
        case measure => simp [intOf]; omega
      | false =>
        rw [hfo] at c2 HO
        go_wp2
        go_roundw
        case rel => exact ⟨k + 1, by omega, by go_num, by rw [unhide HO]; go_num, (unhide HK).alloc _⟩
        case measure => simp [intOf]; omega

/-- The table of package value's types lies as its initialiser lays it. -/
def typesC : Array Value := #[str [], .int .i64 0, str [105, 110, 116], .int .i64 10, str [98, 111, 111, 108], .int .i64 1, str [98, 121, 116, 101, 115], .int .i64 21]
structure Types (w : World) : Prop where
  lt : 1 < w.heap.size
  cell : ∀ j x, typesC[j]? = some x → w.cell? ⟨1, j, none⟩ = some x
theorem Types.keep {F : Nat → Prop} {w w' : World} (h : Types w) (hk : Keeps F w w') (hF : ¬ F 1) : Types w' :=
  ⟨Nat.lt_of_lt_of_le h.lt hk.size, fun j x hx => by rw [hk.cell h.lt hF]; exact h.cell j x hx⟩
theorem Types.keepF {w w' : World} (h : Types w) (hk : Keeps (fun _ => False) w w') : Types w' := h.keep hk id
theorem Types.width {w : World} (h : Types w) {t : Int} (ht : 0 ≤ wideB t) : ∃ n : Nat, t = n ∧ n < 4 ∧ w.cell? ⟨1, n * 2 + 1, none⟩ = some (.int .i64 (wideB t)) := by
  by_cases h1 : t = 1
  · subst h1; exact ⟨1, rfl, by omega, h.cell 3 _ rfl⟩
  by_cases h2 : t = 2
  · subst h2; exact ⟨2, rfl, by omega, h.cell 5 _ rfl⟩
  by_cases h3 : t = 3
  · subst h3; exact ⟨3, rfl, by omega, h.cell 7 _ rfl⟩
  · simp [wideB, h1, h2, h3] at ht

set_option maxRecDepth 100000 in
set_option maxHeartbeats 1000000 in
theorem width_v (l : List FieldA) (v : Value) (w : World) (hT : Types w) (h : FldsAt w v l) (hl : l.length ≤ 8) (hok : l.all fieldOK = true) :
    Calls Tryz.prog 75 #[.agg #[v]] w fun e w' => e = .returned (.int .i64 (widthB l)) ∧ Keeps (fun _ => False) w w' := by
  obtain ⟨ao, cap, rfl⟩ := RowAt.form h
  obtain ⟨HB, hb, hbc⟩ := boxed w #[.slice ao l.length cap] 24
  have hp := hbc 0 (.slice ao l.length cap) rfl
  have hF2 := h.keepF (unhide HB)
  have HH := hide (head_v l _ _ hF2 (by omega))
  have HT := hide (hT.keepF (unhide HB))
  have HOK := hide hok
  have hh := headB_le l
  have HE : Hid (widthB l = headB l + wides l) := rfl
  generalize widthB l = R at *
  generalize headB l = H at *
  have HF2 := hide hF2
  clear hbc h hF2 hT hok
  go_enter Tryz.func75, Tryz.ntmps75
  go_wp2_with fail
  refine (unhide HH).mono ?_
  rintro e w2 ⟨rfl, hk⟩
  have HF3 := hide ((unhide HF2).keepF hk)
  have HT3 := hide ((unhide HT).keepF hk)
  have HB2 := hide ((unhide HB).trans hk)
  have hb2 : w.heap.size < w2.heap.size := Nat.lt_of_lt_of_le hb hk.size
  have hp2 := (hk.cell hb id).trans hp
  generalize w.alloc (.cells #[.slice ao l.length cap] 24) = w1 at *
  clear HH HF2 HB hk hp hb HT
  generalize w.heap.size = sb at *
  go_wp2_with fail
  go_loopw [3, 11] (fun n i wr => ∃ k : Nat, k ≤ l.length ∧ i = .int .i64 k ∧ n = .int .i64 (H + wides (l.take k)) ∧ Keeps (fun _ => False) w2 wr) (fun _ i _ => l.length - (intOf i).toNat)
  case atStart => exact ⟨0, Nat.zero_le _, rfl, by simp [wides], Keeps.refl _ _⟩
  case round =>
    obtain ⟨k, hk, rfl, rfl, hkp⟩ := hrel
    have HK := hide hkp
    have ho := wides_range (l.take k)
    rw [List.length_take] at ho
    cases h : l[k]? with
    | none =>
      have h1 := get_ge h
      obtain rfl : k = l.length := by omega
      clear hkp h h1
      rw [List.take_length] at *
      go_wp2_with fail
      go_ret
      exact ⟨ret_int (unhide HE).symm, (unhide HB2).trans (unhide HK)⟩
    | some f =>
      have h1 := get_lt h
      obtain ⟨b, off, c, e, hbl, hc⟩ := (unhide HF3).cells (by omega)
      simp at e
      obtain ⟨rfl, rfl⟩ := e
      have c0 := (hkp.cell hbl id).trans (hc k f h).1
      have c1 := (hkp.cell hbl id).trans (hc k f h).2.1
      have c2 := (hkp.cell hbl id).trans (hc k f h).2.2
      have HO : Hid (wides (l.take (k + 1)) = wides (l.take k) + wideB f.type) := by show _ = _; rw [take_snoc _ _ _ h, wides_snoc]
      have hwr := wideB_range f.type
      have hfo : 0 ≤ wideB f.type := by
        have := List.all_eq_true.1 (unhide HOK) f (List.mem_of_getElem? h)
        unfold fieldOK at this
        simp only [Bool.and_eq_true, decide_eq_true_eq] at this
        exact this.2
      obtain ⟨n, hn, hn4, hcell⟩ := (((unhide HT3).keepF hkp).keepF ((Keeps.refl _ wr).alloc (.cells #[str f.name, .int .i64 f.type, .bool f.opt] 55))).width hfo
      rw [hn] at c1 hcell
      rw [← hn] at hcell
      generalize wides (l.take k) = o at *
      generalize wideB f.type = W at *
      rw [hn] at hcell
      clear hkp h hc hn hfo
      go_wp2_with fail
      go_roundw
      case rel => exact ⟨k + 1, by omega, by go_num, by rw [unhide HO]; go_num, (unhide HK).alloc _⟩
      case measure => simp [intOf]; omega

end Go.Proofs.YtcicaifioghciaaGreatDoor
namespace Go.Proofs.YtcicaifioghciaaGreatDoor
open Go.RowKit Go.Maps

theorem RowAt.first {w : World} {a : Option Addr} {n cap m : Nat} {xs ys : List Value} (h : RowAt w (.slice a n cap) n (xs ++ ys)) (hm : m ≤ n) : RowAt w (.slice a m cap) m xs := by
  refine ⟨⟨_, _, rfl⟩, fun h0 => ?_, fun ao m' cap' e => ?_⟩
  · obtain ⟨b, off, cap', e, hb, hc⟩ := h.cells (by omega)
    simp at e
    obtain ⟨rfl, rfl⟩ := e
    exact ⟨b, off, cap, rfl, hb, fun j x hx => hc j x (by rw [List.getElem?_append_left (get_lt hx)]; exact hx)⟩
  · simp at e
    obtain ⟨rfl, rfl, rfl⟩ := e
    have := h.room _ _ _ rfl
    omega
theorem FldsAt.first {w : World} {a : Option Addr} {cap : Nat} {l : List FieldA} (h : FldsAt w (.slice a l.length cap) l) (k : Nat) (hk : k ≤ l.length) : FldsAt w (.slice a k cap) (l.take k) := by
  have e : fcs l = fcs (l.take k) ++ fcs (l.drop k) := by unfold fcs; rw [← List.flatMap_append, List.take_append_drop]
  unfold FldsAt at *
  rw [e] at h
  rw [List.length_take, Nat.min_eq_left hk]
  exact h.first hk

theorem fieldOK_form (f : FieldA) : fieldOK f = (nameB f.name && decide (0 ≤ wideB f.type)) := rfl
theorem namedB_false {l : List FieldA} {nm : Txt} (h : namedB l nm = false) : ∀ g ∈ l, g.name ≠ nm := by
  intro g hg
  have := List.any_eq_false.1 h g hg
  simpa using this
theorem namedB_true {l : List FieldA} {k : Nat} {f : FieldA} (hf : l[k]? = some f) (h : namedB (l.take k) f.name = true) : schemaB l = false := by
  obtain ⟨g, hg, e⟩ := List.any_eq_true.1 h
  simp only [decide_eq_true_eq] at e
  obtain ⟨j, hj⟩ := List.getElem?_of_mem hg
  rw [List.getElem?_take] at hj
  split at hj
  · rename_i hlt
    exact schemaB_twice hf hj hlt e
  · cases hj

set_option maxRecDepth 100000 in
set_option maxHeartbeats 2000000 in
theorem checkSchema_v (l : List FieldA) (v : Value) (w : World) (hT : Types w) (h : FldsAt w v l) :
    Calls Tryz.prog 51 #[.agg #[v]] w fun e w' => e = .returned (.int .i64 (errS l)) ∧ Keeps (fun _ => False) w w' := by
  obtain ⟨ao, cap, rfl⟩ := RowAt.form h
  obtain ⟨HB, hb, hbc⟩ := boxed w #[.slice ao l.length cap] 24
  have hp := hbc 0 (.slice ao l.length cap) rfl
  have HF := hide (h.keepF (unhide HB))
  have HT := hide (hT.keepF (unhide HB))
  clear hbc h hT
  by_cases hl1 : (l.length : Int) < 1
  · have HE : Hid (errS l = 60) := errS_bad (by unfold schemaB; rw [decide_eq_false (show ¬ 1 ≤ l.length by omega)]; simp)
    go_enter Tryz.func51, Tryz.ntmps51
    go_wp2
    go_ret
    exact ⟨ret_int (unhide HE).symm, (Keeps.refl _ _).alloc _⟩
  by_cases hl2 : (8 : Int) < (l.length : Int)
  · have HE : Hid (errS l = 60) := errS_bad (by unfold schemaB; rw [decide_eq_false (show ¬ l.length ≤ 8 by omega)]; simp)
    go_enter Tryz.func51, Tryz.ntmps51
    go_wp2
    go_ret
    exact ⟨ret_int (unhide HE).symm, (Keeps.refl _ _).alloc _⟩
  have hl3 : (1 : Int) ≤ (l.length : Int) := by omega
  have hl4 : (l.length : Int) ≤ 8 := by omega
  clear hl1 hl2
  go_enter Tryz.func51, Tryz.ntmps51
  go_wp2_with fail
  generalize w.alloc (.cells #[.slice ao l.length cap] 24) = w2 at *
  generalize w.heap.size = sb at *
  go_loopw [18] (fun i wr => ∃ k : Nat, k ≤ l.length ∧ i = .int .i64 k ∧ Hid ((l.take k).all fieldOK = true) ∧ Hid ((l.take k).map FieldA.name).Nodup ∧ Keeps (fun _ => False) w2 wr) (fun i _ => l.length - (intOf i).toNat)
  case atStart => exact ⟨0, Nat.zero_le _, rfl, by simp [Hid], by simp [Hid], Keeps.refl _ _⟩
  case round =>
    obtain ⟨k, hk, rfl, HA, HN, hkp⟩ := hrel
    have hp' := (hkp.cell (o := 0) hb id).trans hp
    cases h : l[k]? with
    | none =>
      have h1 := get_ge h
      obtain rfl : k = l.length := by omega
      rw [List.take_length] at HA HN
      have HW := hide (width_v l _ _ ((unhide HT).keepF hkp) ((unhide HF).keepF hkp) (by omega) (unhide HA))
      have HE := hide (schemaB_end (by omega) (by omega) (unhide HA) (unhide HN))
      have HK := hide hkp
      clear hkp h h1
      go_wp2_with fail
      refine (unhide HW).mono ?_
      rintro e w3 ⟨rfl, hk3⟩
      have HK3 := hide hk3
      clear hk3
      by_cases hw : (64 : Int) < widthB l
      · go_wp2_with fail
        go_ret
        exact ⟨ret_int (errS_bad (by rw [unhide HE]; exact decide_eq_false (by omega))).symm, ((unhide HB).trans (unhide HK)).trans (unhide HK3)⟩
      · go_wp2_with fail
        go_ret
        exact ⟨ret_int (errS_good (by rw [unhide HE]; exact decide_eq_true (by omega))).symm, ((unhide HB).trans (unhide HK)).trans (unhide HK3)⟩
    | some f =>
      have h1 := get_lt h
      obtain ⟨b, off, c, e, hbl, hc⟩ := (unhide HF).cells (by omega)
      simp at e
      obtain ⟨rfl, rfl⟩ := e
      have c0 := (hkp.cell hbl id).trans (hc k f h).1
      have c1 := (hkp.cell hbl id).trans (hc k f h).2.1
      have c2 := (hkp.cell hbl id).trans (hc k f h).2.2
      have HH := hide h
      have HK := hide hkp
      obtain ⟨HX, hxb, hxc⟩ := boxed wr #[str f.name, .int .i64 f.type, .bool f.opt] 55
      have x0 := hxc 0 (str f.name) rfl
      have x1 := hxc 1 (.int .i64 f.type) rfl
      have HQ := hide (named_v (l.take k) _ f.name _ ((((((unhide HF).keepF hkp).keepF (unhide HX)).first k hk)).keepF (keeps_drewN _ 1)) (by rw [List.length_take]; omega))
      have hp3 := ((unhide HX).cell (o := 0) (Nat.lt_of_lt_of_le hb hkp.size) id).trans hp'
      have i2 : (k : Int) ≤ (l.length : Int) := by omega
      have HO := hide (fieldOK_form f)
      have hroom : l.length ≤ cap := RowAt.room (unhide HF) _ _ _ rfl
      have i3 : (k : Int) ≤ (cap : Int) := by omega
      have i4 : (0 : Int) ≤ (k : Int) := by omega
      have HX4 := hide (((unhide HK).trans (unhide HX)).drewN 1)
      have hz0 : wr.heap.size < ((wr.alloc (.cells #[str f.name, .int .i64 f.type, .bool f.opt] 55)).drewN 1).heap.size := hxb
      have hz1 : sb < ((wr.alloc (.cells #[str f.name, .int .i64 f.type, .bool f.opt] 55)).drewN 1).heap.size := Nat.lt_of_lt_of_le hb (unhide HX4).size
      clear hkp h hc hxc
      cases hnm : nameB f.name with
      | false =>
        have HE : Hid (errS l = 60) := errS_bad (schemaB_name (List.mem_of_getElem? (unhide HH)) (by rw [unhide HO, hnm]; rfl))
        have HN1 : Hid (∀ w, Calls Tryz.prog 72 #[str f.name] w fun e w' => e = .returned (.bool false) ∧ w' = w) := fun w => by
          have := name_v f.name w
          rw [hnm] at this
          exact this
        clear hnm HO HQ
        go_wp2_with fail
        go_quiet ((go_at_call 72; exact Calls.quiet_of_same (unhide HN1 _)))
        go_wp2_with fail
        go_ret
        exact ⟨ret_int (unhide HE).symm, (unhide HB).trans ((((unhide HK).trans (unhide HX))).drewN _)⟩
      | true =>
        have HN1 : Hid (∀ w, Calls Tryz.prog 72 #[str f.name] w fun e w' => e = .returned (.bool true) ∧ w' = w) := fun w => by
          have := name_v f.name w
          rw [hnm] at this
          exact this
        cases hty : decide (0 ≤ wideB f.type) with
        | false =>
          have HE : Hid (errS l = 60) := errS_bad (schemaB_name (List.mem_of_getElem? (unhide HH)) (by rw [unhide HO, hnm, hty]; rfl))
          have HN2 : Hid (∀ w, Calls Tryz.prog 73 #[.int .i64 f.type] w fun e w' => e = .returned (.bool false) ∧ w' = w) := fun w => by
            have := isType_v f.type w
            rw [hty] at this
            exact this
          clear hnm hty HO HQ
          go_wp2_with fail
          go_quiet ((first | (go_at_call 72; exact Calls.quiet_of_same (unhide HN1 _)) | (go_at_call 73; exact Calls.quiet_of_same (unhide HN2 _))))
          go_wp2_with fail
          go_ret
          exact ⟨ret_int (unhide HE).symm, (unhide HB).trans ((((unhide HK).trans (unhide HX))).drewN _)⟩
        | true =>
          have HN2 : Hid (∀ w, Calls Tryz.prog 73 #[.int .i64 f.type] w fun e w' => e = .returned (.bool true) ∧ w' = w) := fun w => by
            have := isType_v f.type w
            rw [hty] at this
            exact this
          have HFO : Hid (fieldOK f = true) := by show _ = _; rw [unhide HO, hnm, hty]; rfl
          clear hnm hty HO
          go_wp2_with fail
          go_region_held3 (fun w' => w'.cell? ⟨wr.heap.size, 0, none⟩ = some (str f.name) ∧ w'.cell? ⟨wr.heap.size, 1, none⟩ = some (.int .i64 f.type) ∧ w'.cell? ⟨sb, 0, none⟩ = some (.slice (some ⟨b, off, none⟩) l.length cap))
            (go_keep)
            (first
              | (go_at_call 72
                 refine (unhide HN1 _).mono ?_
                 rintro e w4 ⟨rfl, rfl⟩)
              | (go_at_call 73
                 refine (unhide HN2 _).mono ?_
                 rintro e w4 ⟨rfl, rfl⟩)
              | (go_at_call 74
                 refine (unhide HQ).mono ?_
                 rintro e w4 ⟨rfl, hk4⟩
                 have q0 := (hk4.cell (o := 0) hz0 id).trans x0
                 have q1 := (hk4.cell (o := 1) hz0 id).trans x1
                 have q2 := (hk4.cell (o := 0) hz1 id).trans hp3
                 have K4 := hide ((unhide HX4).trans hk4)
                 clear hk4))
          cases hnd : namedB (l.take k) f.name with
          | true =>
            have HE : Hid (errS l = 60) := errS_bad (namedB_true (unhide HH) hnd)
            go_wp2_with fail
            go_ret
            exact ⟨ret_int (unhide HE).symm, (unhide HB).trans (unhide K4)⟩
          | false =>
            have HD := hide (namedB_false hnd)
            go_wp2_with fail
            go_roundw
            case rel =>
              refine ⟨k + 1, by omega, by go_num, ?_, ?_, unhide K4⟩
              · show _ = true
                rw [take_snoc _ _ _ (unhide HH), List.all_append, unhide HA]
                simp [unhide HFO]
              · show List.Nodup _
                rw [take_snoc _ _ _ (unhide HH)]
                exact nodup_snoc (unhide HN) (unhide HD)
            case measure => simp [intOf]; omega

end Go.Proofs.YtcicaifioghciaaGreatDoor
namespace Go.Proofs.YtcicaifioghciaaGreatDoor
open Go.RowKit Go.Maps

/-- Is it a record of the fields? -/
def fitAll (l : List FieldA) (r : List ValA) : Bool := (l.zip r).all fun p => fitsB p.1 p.2
def recB (l : List FieldA) (r : List ValA) : Bool := decide (r.length = l.length) && fitAll l r
def errR (l : List FieldA) (r : List ValA) : Int := if schemaB l then (if recB l r then 0 else 61) else 60

theorem zip_get {l : List FieldA} {r : List ValA} {k : Nat} {f : FieldA} {x : ValA} (h : l[k]? = some f) (g : r[k]? = some x) : (l.zip r)[k]? = some (f, x) := by
  simp [List.getElem?_zip_eq_some, h, g]
theorem schemaB_len {l : List FieldA} (h : schemaB l = true) : 1 ≤ l.length ∧ l.length ≤ 8 := by
  unfold schemaB at h
  simp only [Bool.and_eq_true, decide_eq_true_eq] at h
  exact ⟨h.1.1.1.1, h.1.1.1.2⟩
theorem errS_eq (l : List FieldA) : (schemaB l = true ∧ errS l = 0) ∨ (schemaB l = false ∧ errS l = 60) := by
  unfold errS
  cases h : schemaB l <;> simp

end Go.Proofs.YtcicaifioghciaaGreatDoor
namespace Go.Proofs.YtcicaifioghciaaGreatDoor
open Go.RowKit Go.Maps

set_option maxRecDepth 100000 in
set_option maxHeartbeats 1000000 in
theorem fits_v (f : FieldA) (x : ValA) (hf : f.type = 1 ∨ f.type = 2 ∨ f.type = 3) (w : World) : Calls Tryz.prog 121 #[f.v, x.v] w fun e w' => e = .returned (.bool (fitsB f x)) ∧ Keeps (fun _ => False) w w' := by
  obtain ⟨nm, t, o⟩ := f
  obtain ⟨k1, n1, s1⟩ := x
  unfold ValA.v FieldA.v
  have HF := hide hf
  clear hf
  go_enter Tryz.func121, Tryz.ntmps121
  go_wp2
  all_goals (go_ret; refine ⟨ret_bool ?_, ((Keeps.refl _ _).alloc _).alloc _⟩; have hf := unhide HF; apply Bool.eq_iff_iff.2; clear HF; simp_all [fitsB]; try omega)

end Go.Proofs.YtcicaifioghciaaGreatDoor
namespace Go.Proofs.YtcicaifioghciaaGreatDoor
open Go.RowKit Go.Maps

theorem type_of {f : FieldA} (h : fieldOK f = true) : f.type = 1 ∨ f.type = 2 ∨ f.type = 3 := by
  unfold fieldOK at h
  simp only [Bool.and_eq_true, decide_eq_true_eq] at h
  have h2 := h.2
  unfold wideB at h2
  repeat' split at h2
  all_goals omega
theorem schemaB_ok {l : List FieldA} (h : schemaB l = true) : l.all fieldOK = true := by
  unfold schemaB at h
  simp only [Bool.and_eq_true, decide_eq_true_eq] at h
  exact h.1.1.2

set_option maxRecDepth 100000 in
set_option maxHeartbeats 2000000 in
theorem fit_v (l : List FieldA) (v : Value) (r : List ValA) (u : Value) (w : World) (h : FldsAt w v l) (hr : ValsAt w u r) (hl : l.length ≤ 8) (hrl : r.length ≤ l.length) (hok : l.all fieldOK = true) :
    Calls Tryz.prog 108 #[.agg #[v], u] w fun e w' => e = .returned (.bool (fitAll l r)) ∧ Keeps (fun _ => False) w w' := by
  obtain ⟨ao, cap, rfl⟩ := RowAt.form h
  obtain ⟨bo, cbp, rfl⟩ := RowAt.form hr
  obtain ⟨HB, hb, hbc⟩ := boxed w #[.slice ao l.length cap] 24
  have hp := hbc 0 (.slice ao l.length cap) rfl
  have HF := hide (h.keepF (unhide HB))
  have HV := hide (hr.keepF (unhide HB))
  have HOK := hide hok
  clear hbc h hr hok
  go_enter Tryz.func108, Tryz.ntmps108
  go_wp2_with fail
  generalize w.alloc (.cells #[.slice ao l.length cap] 24) = w2 at *
  generalize w.heap.size = sb at *
  go_loopw [9] (fun i wr => ∃ k : Nat, k ≤ r.length ∧ i = .int .i64 k ∧ Hid (((l.zip r).take k).all (fun p => fitsB p.1 p.2) = true) ∧ Keeps (fun _ => False) w2 wr) (fun i _ => r.length - (intOf i).toNat)
  case atStart => exact ⟨0, Nat.zero_le _, rfl, by simp [Hid], Keeps.refl _ _⟩
  case round =>
    obtain ⟨k, hk, rfl, HA, hkp⟩ := hrel
    have HK := hide hkp
    cases hx : r[k]? with
    | none =>
      have h1 := get_ge hx
      obtain rfl : k = r.length := by omega
      have HT : Hid (fitAll l r = true) := by
        have h := unhide HA
        rw [List.take_of_length_le (by simp; omega)] at h
        exact h
      clear hx h1 hkp
      go_wp2_with fail
      go_ret
      exact ⟨ret_bool (unhide HT).symm, (unhide HB).trans (unhide HK)⟩
    | some x =>
      have h1 := get_lt hx
      obtain ⟨f, hf⟩ : ∃ f, l[k]? = some f := ⟨_, List.getElem?_eq_getElem (by omega)⟩
      obtain ⟨b, off, c, e, hbl, hc⟩ := (unhide HF).cells (by omega)
      simp at e
      obtain ⟨rfl, rfl⟩ := e
      obtain ⟨b', off', c', e', hbl', hc'⟩ := (unhide HV).cells (by omega)
      simp at e'
      obtain ⟨rfl, rfl⟩ := e'
      have d0 := (hkp.cell hbl' id).trans (hc' k x hx).1
      have d1 := (hkp.cell hbl' id).trans (hc' k x hx).2.1
      have d2 := (hkp.cell hbl' id).trans (hc' k x hx).2.2
      obtain ⟨HX, hxb, hxc⟩ := boxed wr #[.int .i64 x.kind, .int .i64 x.n, str x.s] 118
      have K1 := hkp.trans (unhide HX)
      have c0 := (K1.cell hbl id).trans (hc k f hf).1
      have c1 := (K1.cell hbl id).trans (hc k f hf).2.1
      have c2 := (K1.cell hbl id).trans (hc k f hf).2.2
      have x0 := hxc 0 _ rfl
      have x1 := hxc 1 _ rfl
      have x2 := hxc 2 _ rfl
      have hp' := (K1.cell (o := 0) hb id).trans hp
      have HZ := hide (zip_get hf hx)
      have i1 : (k : Int) < (r.length : Int) := by omega
      have i2 : (k : Int) < (l.length : Int) := by omega
      have i0 : (0 : Int) ≤ (k : Int) := by omega
      have HQ := hide (fits_v f x (type_of (List.all_eq_true.1 (unhide HOK) f (List.mem_of_getElem? hf))) ((wr.alloc (.cells #[.int .i64 x.kind, .int .i64 x.n, str x.s] 118)).drewN 1))
      have z0 : sb < ((wr.alloc (.cells #[.int .i64 x.kind, .int .i64 x.n, str x.s] 118)).drewN 1).heap.size := Nat.lt_of_lt_of_le hb K1.size
      have z1 : b < ((wr.alloc (.cells #[.int .i64 x.kind, .int .i64 x.n, str x.s] 118)).drewN 1).heap.size := Nat.lt_of_lt_of_le hbl K1.size
      have z2 : wr.heap.size < ((wr.alloc (.cells #[.int .i64 x.kind, .int .i64 x.n, str x.s] 118)).drewN 1).heap.size := hxb
      have HK1 := hide (K1.drewN 1)
      clear hkp hc hc' hf hx hxc K1
      unfold FieldA.v ValA.v at HQ
      go_wp2_with fail
      go_region_held3 (fun w' => w'.cell? ⟨sb, 0, none⟩ = some (.slice (some ⟨b, off, none⟩) l.length cap) ∧ w'.cell? ⟨b, off + k * 3, none⟩ = some (str f.name) ∧ w'.cell? ⟨b, off + k * 3 + 1, none⟩ = some (.int .i64 f.type) ∧ w'.cell? ⟨b, off + k * 3 + 2, none⟩ = some (.bool f.opt) ∧ w'.cell? ⟨wr.heap.size, 0, none⟩ = some (.int .i64 x.kind) ∧ w'.cell? ⟨wr.heap.size, 1, none⟩ = some (.int .i64 x.n) ∧ w'.cell? ⟨wr.heap.size, 2, none⟩ = some (str x.s))
        (go_keep)
        (first
          | (go_at_call 121
             refine (unhide HQ).mono ?_
             rintro e w4 ⟨rfl, hk4⟩
             have q0 := (hk4.cell (o := 0) z0 id).trans hp'
             have q1 := (hk4.cell z1 id).trans c0
             have q2 := (hk4.cell z1 id).trans c1
             have q3 := (hk4.cell z1 id).trans c2
             have q4 := (hk4.cell z2 id).trans x0
             have q5 := (hk4.cell z2 id).trans x1
             have q6 := (hk4.cell z2 id).trans x2
             have K4 := hide ((unhide HK1).trans hk4)
             clear hk4))
      cases hfit : fitsB f x with
      | true =>
        have HT : Hid (((l.zip r).take (k + 1)).all (fun p => fitsB p.1 p.2) = true) := by
          show _ = true
          rw [take_snoc _ _ _ (unhide HZ), List.all_append, unhide HA]
          simp [hfit]
        go_wp2_with fail
        go_roundw
        case rel => exact ⟨k + 1, by omega, by go_num, HT, unhide K4⟩
        case measure => simp [intOf]; omega
      | false =>
        have HT : Hid (fitAll l r = false) := List.all_eq_false.2 ⟨(f, x), List.mem_of_getElem? (unhide HZ), by simp [hfit]⟩
        go_wp2_with fail
        go_ret
        exact ⟨ret_bool (unhide HT).symm, (unhide HB).trans (unhide K4)⟩

set_option maxRecDepth 100000 in
set_option maxHeartbeats 2000000 in
theorem val_check (l : List FieldA) (v : Value) (r : List ValA) (u : Value) (w : World) (hT : Types w) (h : FldsAt w v l) (hr : ValsAt w u r) :
    Calls Tryz.prog 88 #[.agg #[v], u] w fun e w' => e = .returned (.int .i64 (errR l r)) ∧ Keeps (fun _ => False) w w' := by
  obtain ⟨ao, cap, rfl⟩ := RowAt.form h
  obtain ⟨bo, cbp, rfl⟩ := RowAt.form hr
  obtain ⟨HB, hb, hbc⟩ := boxed w #[.slice ao l.length cap] 24
  have hp := hbc 0 (.slice ao l.length cap) rfl
  have HF := hide (h.keepF (unhide HB))
  have HV := hide (hr.keepF (unhide HB))
  have HS := hide (checkSchema_v l _ _ (hT.keepF (unhide HB)) (unhide HF))
  clear hbc h hr hT
  go_enter Tryz.func88, Tryz.ntmps88
  go_wp2_with fail
  refine (unhide HS).mono ?_
  rintro e w2 ⟨rfl, hk2⟩
  have hp2 := (hk2.cell (o := 0) hb id).trans hp
  have HF2 := hide ((unhide HF).keepF hk2)
  have HV2 := hide ((unhide HV).keepF hk2)
  have HB2 := hide ((unhide HB).trans hk2)
  clear HS HF HV HB hk2 hp hb
  generalize w.alloc (.cells #[.slice ao l.length cap] 24) = w1 at *
  generalize w.heap.size = sb at *
  rcases errS_eq l with ⟨hs, he⟩ | ⟨hs, he⟩
  · rw [he]
    have hl8 := (schemaB_len hs).2
    by_cases hlen : r.length = l.length
    · have hlen' : ((r.length : Int) != (l.length : Int)) = false := by simp [hlen]
      have HR : Hid (errR l r = if fitAll l r then 0 else 61) := by show _ = _; simp [errR, hs, recB, hlen]
      have HQ := hide (fit_v l _ r _ _ (unhide HF2) (unhide HV2) hl8 (by omega) (schemaB_ok hs))
      clear hlen hs he
      generalize fitAll l r = F at *
      go_wp2_with fail
      refine (unhide HQ).mono ?_
      rintro e w4 ⟨rfl, hk4⟩
      have K4 := hide ((unhide HB2).trans hk4)
      clear hk4 HQ
      cases F with
      | true =>
        go_wp2_with fail
        go_ret
        exact ⟨ret_int (unhide HR).symm, unhide K4⟩
      | false =>
        go_wp2_with fail
        go_ret
        exact ⟨ret_int (unhide HR).symm, unhide K4⟩
    · have hlen' : ((r.length : Int) != (l.length : Int)) = true := by rw [bne_iff_ne]; omega
      have HR : Hid (errR l r = 61) := by show _ = _; simp [errR, hs, recB, hlen]
      clear hlen hs he
      go_wp2_with fail
      go_ret
      exact ⟨ret_int (unhide HR).symm, unhide HB2⟩
  · rw [he]
    have HR : Hid (errR l r = 60) := by show _ = _; simp [errR, hs]
    clear hs he
    go_wp2_with fail
    go_ret
    exact ⟨ret_int (unhide HR).symm, unhide HB2⟩

end Go.Proofs.YtcicaifioghciaaGreatDoor
namespace Go.Proofs.YtcicaifioghciaaGreatDoor
open Go.RowKit Go.Maps

theorem Tryz.info5 : (Tryz.prog.info? 5).map (fun i => (i.zero, i.size, i.bytes)) = some (some (.int .u8 0), 1, 1) := by kernel_rfl
theorem Tryz.info118 : (Tryz.prog.info? 118).map (fun i => (i.zero, i.size, i.bytes)) = some (some (.agg #[.int .i64 0, .int .i64 0, .string ⟨#[]⟩]), 3, 32) := by kernel_rfl
theorem Tryz.info55 : (Tryz.prog.info? 55).map (fun i => (i.zero, i.size, i.bytes)) = some (some (.agg #[.string ⟨#[]⟩, .int .i64 0, .bool false]), 3, 32) := by kernel_rfl

theorem BytesAt.cells {w : World} {v : Value} {l : Txt} (h : BytesAt w v l) (h0 : 0 < l.length) :
    ∃ b off cap, v = .slice (some ⟨b, off, none⟩) l.length cap ∧ b < w.heap.size ∧ ∀ i c, l[i]? = some c → w.cell? ⟨b, off + i, none⟩ = some (.int .u8 (num c)) := by
  obtain ⟨b, off, cap, e, hb, hc⟩ := RowAt.cells h h0
  exact ⟨b, off, cap, e, hb, fun i c hi => hc i _ (by rw [bs_get, hi]; rfl)⟩

set_option maxRecDepth 100000 in
set_option maxHeartbeats 1000000 in
theorem copyBytes_any (w : World) (v : Value) (l : Txt) (hR : BytesAt w v l) (hl : l.length ≤ 140737488355328) :
    Calls Tryz.prog 18 #[v] w fun e w' => ∃ v', e = .returned v' ∧ w'.ownsRow w.heap.size 5 1 v' l.length (bs l) ∧ Keeps (fun _ => False) w w' := by
  obtain ⟨i0, hi, hz0, hz1, hz2⟩ := info_parts Tryz.info5
  obtain ⟨ao, cap, rfl⟩ := RowAt.form hR
  have HR := hide hR
  have HL := hide hl
  have hl' : l.length ≤ 9223372036854775807 := by omega
  clear hR hl
  go_enter Tryz.func18, Tryz.ntmps18
  go_wp2
  go_loopw [3, 4] (fun o i wr => ∃ k : Nat, k ≤ l.length ∧ i = .int .i64 k ∧ wr.ownsRow w.heap.size 5 1 o k (bs (l.take k)) ∧ Keeps (fun _ => False) w wr) (fun _ i _ => l.length - (intOf i).toNat)
  case atStart => exact ⟨0, Nat.zero_le _, rfl, by simpa [bs] using World.ownsRow_nil w w.heap.size 5 1, Keeps.refl _ _⟩
  case round =>
    obtain ⟨k, hk, rfl, hown, hkeep⟩ := hrel
    have HO := hide hown
    have HK := hide hkeep
    clear hown hkeep
    by_cases hlt : k < l.length
    · obtain ⟨b, off, c, e1, hblt, hc⟩ := (unhide HR).cells (by omega)
      simp at e1
      obtain ⟨rfl, rfl⟩ := e1
      obtain ⟨x, hx⟩ : ∃ x, l[k]? = some x := ⟨_, List.getElem?_eq_getElem hlt⟩
      have p0 := ((unhide HK).cell (o := off + k) hblt id).trans (hc k x hx)
      have HX := hide hx
      have i1 : (k : Int) < (l.length : Int) := by omega
      have i0' : (0 : Int) ≤ (k : Int) := by omega
      clear hc hx
      go_wp2_with (at_builtin; refine wpList_append_lies _ rfl _ _ _ rfl w.heap.size 5 i0 _ 1 1 Tryz.underlying29 hi hz0 hz1 hz2 rfl (by omega) u3 k (bs (l.take k)) rfl ((unhide HO).alloc _) ⟨wr.heap.size, 0, none⟩ 1 1 [.int .u8 (num x)] rfl rfl (World.news_of_block (cs := #[.int .u8 (num x)]) (t := 5) (fr := (0, 0)) (heap_alloc_new wr _)) (by simp [Value.oneCell']) (by omega) (by unfold maxLen; omega) (by have := unhide HL; omega) (by have := (unhide HK).size; simp; omega) (wr.heap.size + 1) (by simp) ?_; intro g cap w1 hown1 hgrow hat hlt1)
      go_roundw
      case rel =>
        refine ⟨k + 1, by omega, by go_num, ?_, ((unhide HK).alloc _).grown hgrow (fun q e hq => by have := ((unhide HO).lt q e).1; omega)⟩
        rw [take_snoc _ _ _ (unhide HX)]
        simpa [bs] using hown1
      case measure => simp [intOf]; omega
    · go_wp2
      go_ret
      obtain rfl : k = l.length := by omega
      refine ⟨_, rfl, ?_, unhide HK⟩
      have := unhide HO
      rwa [List.take_length] at this

end Go.Proofs.YtcicaifioghciaaGreatDoor
