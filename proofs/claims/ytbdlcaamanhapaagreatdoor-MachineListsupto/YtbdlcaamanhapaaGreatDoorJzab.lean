import Derived.Test.YtbdlcaamanhapaaGreatDoorJzaa
import Derived.Laws.BitsLemmas
namespace Go.Proofs.YtbdlcaamanhapaaGreatDoor
open Go.RowKit Go.Maps
set_option maxRecDepth 100000
set_option maxHeartbeats 1000000
def namedB (l : List Wq) (nm : Txt) : Bool := l.any fun f => decide (f.name = nm)
theorem namedB_snoc (l : List Wq) (f : Wq) (nm : Txt) : namedB (l ++ [f]) nm = (namedB l nm || decide (f.name = nm)) := by simp [namedB]
theorem named_v (l : List Wq) (v : Value) (nm : Txt) (w : World) (h : Wt w v l) (hl : l.length ≤ 8) :
  Calls Tryz.prog 66 #[v, str nm] w fun e w' => e = .returned (.bool (namedB l nm)) ∧ Wp (fun _ => False) w w' := by
 obtain ⟨ao, cap, rfl⟩ := Ws.form h
 have HF := zB h
 clear h
 go_enter Tryz.func66, Tryz.ntmps66
 go_wp2
 go_loopw [9] (fun i wr => ∃ k : Nat, k ≤ l.length ∧ i = .int .i64 k ∧ Hid (namedB (l.take k) nm = false) ∧ Wp (fun _ => False) w wr) (fun i _ => l.length - (intOf i).toNat)
 case atStart => exact ⟨0, Nat.zero_le _, rfl, by simp [Hid, namedB], Wp.refl _ _⟩
 case round =>
  obtain ⟨k, hk, rfl, HS, hkp⟩ := hrel
  have HK := zB hkp
  cases h : l[k]? with
  | none =>
   have h1 := get_ge h
   obtain rfl : k = l.length := by omega
   clear hkp h h1
   rw [List.take_length] at HS
   go_wp2
   go_ret
   exact ⟨ret_bool (zA HS).symm, zA HK⟩
  | some f =>
   have h1 := get_lt h
   obtain ⟨b, off, c, e, hbl, hc⟩ := (zA HF).cells (by omega)
   simp at e
   obtain ⟨rfl, rfl⟩ := e
   have c0 := (hkp.cell hbl id).trans (hc k f h).1
   have c1 := (hkp.cell hbl id).trans (hc k f h).2.1
   have c2 := (hkp.cell hbl id).trans (hc k f h).2.2
   have HH := zB h
   have HO : Hid (namedB (l.take (k + 1)) nm = (namedB (l.take k) nm || decide (f.name = nm))) := by show _ = _; rw [take_snoc _ _ _ h, namedB_snoc]
   clear hkp h hc
   go_wp2
   case roundEnd =>
    rename_i hne
    go_roundw
    case rel => exact ⟨k + 1, by omega, by go_num, by show _ = _; rw [zA HO, zA HS]; simpa using hne, (zA HK).alloc _⟩
    case measure => simp [intOf]; omega
   rename_i hne
   go_ret
   refine ⟨ret_bool ?_, (zA HK).alloc _⟩
   symm
   exact List.any_eq_true.2 ⟨f, List.mem_of_getElem? (zA HH), by simpa using hne⟩
theorem head_v (l : List Wq) (v : Value) (w : World) (h : Wt w v l) (hl : l.length ≤ 8) :
  Calls Tryz.prog 101 #[.agg #[v]] w fun e w' => e = .returned (.int .i64 (headB l)) ∧ Wp (fun _ => False) w w' := by
 obtain ⟨ao, cap, rfl⟩ := Ws.form h
 have HF := zB h
 clear h
 go_enter Tryz.func101, Tryz.ntmps101
 go_wp2
 obtain ⟨HB, hb, hbc⟩ := boxed w #[.slice ao l.length cap] 24
 have hp := hbc 0 (.slice ao l.length cap) rfl
 have HF2 := zB ((zA HF).keepF (zA HB))
 clear hbc HF
 generalize w.alloc (.cells #[.slice ao l.length cap] 24) = w2 at *
 generalize w.heap.size = sb at *
 go_loopw [3, 9] (fun n i wr => ∃ k : Nat, k ≤ l.length ∧ i = .int .i64 k ∧ n = .int .i64 (opts (l.take k)) ∧ Wp (fun _ => False) w2 wr) (fun _ i _ => l.length - (intOf i).toNat)
 case atStart => exact ⟨0, Nat.zero_le _, rfl, rfl, Wp.refl _ _⟩
 case round =>
  obtain ⟨k, hk, rfl, rfl, hkp⟩ := hrel
  have HK := zB hkp
  have ho := opts_le (l.take k)
  rw [List.length_take] at ho
  cases h : l[k]? with
  | none =>
   have h1 := get_ge h
   obtain rfl : k = l.length := by omega
   clear hkp h h1
   rw [List.take_length] at *
   go_wp2
   go_ret
   exact ⟨ret_int (by unfold headB; omega), (zA HB).trans (zA HK)⟩
  | some f =>
   have h1 := get_lt h
   obtain ⟨b, off, c, e, hbl, hc⟩ := (zA HF2).cells (by omega)
   simp at e
   obtain ⟨rfl, rfl⟩ := e
   have c0 := (hkp.cell hbl id).trans (hc k f h).1
   have c1 := (hkp.cell hbl id).trans (hc k f h).2.1
   have c2 := (hkp.cell hbl id).trans (hc k f h).2.2
   have HO : Hid (opts (l.take (k + 1)) = opts (l.take k) + (if f.opt then 1 else 0)) := by show _ = _; rw [take_snoc _ _ _ h, opts_snoc]
   generalize opts (l.take k) = o at *
   clear hkp h hc
   cases hfo : f.opt with
   | true =>
    rw [hfo] at c2 HO
    go_wp2
    go_roundw
    case rel => exact ⟨k + 1, by omega, by go_num, by rw [zA HO]; go_num, (zA HK).alloc _⟩
    case measure => simp [intOf]; omega
   | false =>
    rw [hfo] at c2 HO
    go_wp2
    go_roundw
    case rel => exact ⟨k + 1, by omega, by go_num, by rw [zA HO]; go_num, (zA HK).alloc _⟩
    case measure => simp [intOf]; omega
def typesC : Array Value := #[str [], .int .i64 0, str [105, 110, 116], .int .i64 10, str [98, 111, 111, 108], .int .i64 1, str [98, 121, 116, 101, 115], .int .i64 21]
structure Types (w : World) : Prop where
 lt : 0 < w.heap.size
 cell : ∀ j x, typesC[j]? = some x → w.cell? ⟨0, j, none⟩ = some x
theorem Types.keep {F : Nat → Prop} {w w' : World} (h : Types w) (hk : Wp F w w') (hF : ¬ F 0) : Types w' :=
 ⟨Nat.lt_of_lt_of_le h.lt hk.size, fun j x hx => by rw [hk.cell h.lt hF]; exact h.cell j x hx⟩
theorem Types.keepF {w w' : World} (h : Types w) (hk : Wp (fun _ => False) w w') : Types w' := h.keep hk id
theorem Types.width {w : World} (h : Types w) {t : Int} (ht : 0 ≤ wideB t) : ∃ n : Nat, t = n ∧ n < 4 ∧ w.cell? ⟨0, n * 2 + 1, none⟩ = some (.int .i64 (wideB t)) := by
 by_cases h1 : t = 1
 ·subst h1; exact ⟨1, rfl, by omega, h.cell 3 _ rfl⟩
 by_cases h2 : t = 2
 ·subst h2; exact ⟨2, rfl, by omega, h.cell 5 _ rfl⟩
 by_cases h3 : t = 3
 ·subst h3; exact ⟨3, rfl, by omega, h.cell 7 _ rfl⟩
 ·simp [wideB, h1, h2, h3] at ht
theorem width_v (l : List Wq) (v : Value) (w : World) (hT : Types w) (h : Wt w v l) (hl : l.length ≤ 8) (hok : l.all fieldOK = true) :
  Calls Tryz.prog 67 #[.agg #[v]] w fun e w' => e = .returned (.int .i64 (widthB l)) ∧ Wp (fun _ => False) w w' := by
 obtain ⟨ao, cap, rfl⟩ := Ws.form h
 obtain ⟨HB, hb, hbc⟩ := boxed w #[.slice ao l.length cap] 24
 have hp := hbc 0 (.slice ao l.length cap) rfl
 have hF2 := h.keepF (zA HB)
 have HH := zB (head_v l _ _ hF2 (by omega))
 have HT := zB (hT.keepF (zA HB))
 have HOK := zB hok
 have hh := headB_le l
 have HE : Hid (widthB l = headB l + wides l) := rfl
 generalize widthB l = R at *
 generalize headB l = H at *
 have HF2 := zB hF2
 clear hbc h hF2 hT hok
 go_enter Tryz.func67, Tryz.ntmps67
 go_wp2_with fail
 refine (zA HH).mono ?_
 rintro e w2 ⟨rfl, hk⟩
 have HF3 := zB ((zA HF2).keepF hk)
 have HT3 := zB ((zA HT).keepF hk)
 have HB2 := zB ((zA HB).trans hk)
 have hb2 : w.heap.size < w2.heap.size := Nat.lt_of_lt_of_le hb hk.size
 have hp2 := (hk.cell hb id).trans hp
 generalize w.alloc (.cells #[.slice ao l.length cap] 24) = w1 at *
 clear HH HF2 HB hk hp hb HT
 generalize w.heap.size = sb at *
 go_wp2_with fail
 go_loopw [3, 11] (fun n i wr => ∃ k : Nat, k ≤ l.length ∧ i = .int .i64 k ∧ n = .int .i64 (H + wides (l.take k)) ∧ Wp (fun _ => False) w2 wr) (fun _ i _ => l.length - (intOf i).toNat)
 case atStart => exact ⟨0, Nat.zero_le _, rfl, by simp [wides], Wp.refl _ _⟩
 case round =>
  obtain ⟨k, hk, rfl, rfl, hkp⟩ := hrel
  have HK := zB hkp
  have ho := wides_range (l.take k)
  rw [List.length_take] at ho
  cases h : l[k]? with
  | none =>
   have h1 := get_ge h
   obtain rfl : k = l.length := by omega
   clear hkp h h1
   rw [List.take_length] at *
   go_wp2_with fail
   go_ret
   exact ⟨ret_int (zA HE).symm, (zA HB2).trans (zA HK)⟩
  | some f =>
   have h1 := get_lt h
   obtain ⟨b, off, c, e, hbl, hc⟩ := (zA HF3).cells (by omega)
   simp at e
   obtain ⟨rfl, rfl⟩ := e
   have c0 := (hkp.cell hbl id).trans (hc k f h).1
   have c1 := (hkp.cell hbl id).trans (hc k f h).2.1
   have c2 := (hkp.cell hbl id).trans (hc k f h).2.2
   have HO : Hid (wides (l.take (k + 1)) = wides (l.take k) + wideB f.type) := by show _ = _; rw [take_snoc _ _ _ h, wides_snoc]
   have hwr := wideB_range f.type
   have hfo : 0 ≤ wideB f.type := by
    have := List.all_eq_true.1 (zA HOK) f (List.mem_of_getElem? h)
    unfold fieldOK at this
    simp only [Bool.and_eq_true, decide_eq_true_eq] at this
    exact this.2
   obtain ⟨n, hn, hn4, hcell⟩ := (((zA HT3).keepF hkp).keepF ((Wp.refl _ wr).alloc (.cells #[str f.name, .int .i64 f.type, .bool f.opt] 58))).width hfo
   rw [hn] at c1 hcell
   rw [← hn] at hcell
   generalize wides (l.take k) = o at *
   generalize wideB f.type = W at *
   rw [hn] at hcell
   clear hkp h hc hn hfo
   go_wp2_with fail
   go_roundw
   case rel => exact ⟨k + 1, by omega, by go_num, by rw [zA HO]; go_num, (zA HK).alloc _⟩
   case measure => simp [intOf]; omega
set_option maxHeartbeats 2000000
theorem Ws.first {w : World} {a : Option Addr} {n cap m : Nat} {xs ys : List Value} (h : Ws w (.slice a n cap) n (xs ++ ys)) (hm : m ≤ n) : Ws w (.slice a m cap) m xs := by
 refine ⟨⟨_, _, rfl⟩, fun h0 => ?_, fun ao m' cap' e => ?_⟩
 ·obtain ⟨b, off, cap', e, hb, hc⟩ := h.cells (by omega)
  simp at e
  obtain ⟨rfl, rfl⟩ := e
  exact ⟨b, off, cap, rfl, hb, fun j x hx => hc j x (by rw [List.getElem?_append_left (get_lt hx)]; exact hx)⟩
 ·simp at e
  obtain ⟨rfl, rfl, rfl⟩ := e
  have := h.room _ _ _ rfl
  omega
theorem Wt.first {w : World} {a : Option Addr} {cap : Nat} {l : List Wq} (h : Wt w (.slice a l.length cap) l) (k : Nat) (hk : k ≤ l.length) : Wt w (.slice a k cap) (l.take k) := by
 have e : fcs l = fcs (l.take k) ++ fcs (l.drop k) := by unfold fcs; rw [← List.flatMap_append, List.take_append_drop]
 unfold Wt at *
 rw [e] at h
 rw [List.length_take, Nat.min_eq_left hk]
 exact h.first hk
theorem fieldOK_form (f : Wq) : fieldOK f = (nameB f.name && decide (0 ≤ wideB f.type)) := rfl
theorem namedB_false {l : List Wq} {nm : Txt} (h : namedB l nm = false) : ∀ g ∈ l, g.name ≠ nm := by
 intro g hg
 have := List.any_eq_false.1 h g hg
 simpa using this
theorem namedB_true {l : List Wq} {k : Nat} {f : Wq} (hf : l[k]? = some f) (h : namedB (l.take k) f.name = true) : schemaB l = false := by
 obtain ⟨g, hg, e⟩ := List.any_eq_true.1 h
 simp only [decide_eq_true_eq] at e
 obtain ⟨j, hj⟩ := List.getElem?_of_mem hg
 rw [List.getElem?_take] at hj
 split at hj
 ·rename_i hlt
  exact schemaB_twice hf hj hlt e
 ·cases hj
theorem checkSchema_v (l : List Wq) (v : Value) (w : World) (hT : Types w) (h : Wt w v l) :
  Calls Tryz.prog 43 #[.agg #[v]] w fun e w' => e = .returned (.int .i64 (errS l)) ∧ Wp (fun _ => False) w w' := by
 obtain ⟨ao, cap, rfl⟩ := Ws.form h
 obtain ⟨HB, hb, hbc⟩ := boxed w #[.slice ao l.length cap] 24
 have hp := hbc 0 (.slice ao l.length cap) rfl
 have HF := zB (h.keepF (zA HB))
 have HT := zB (hT.keepF (zA HB))
 clear hbc h hT
 by_cases hl1 : (l.length : Int) < 1
 ·have HE : Hid (errS l = 60) := errS_bad (by unfold schemaB; rw [decide_eq_false (show ¬ 1 ≤ l.length by omega)]; simp)
  go_enter Tryz.func43, Tryz.ntmps43
  go_wp2
  go_ret
  exact ⟨ret_int (zA HE).symm, (Wp.refl _ _).alloc _⟩
 by_cases hl2 : (8 : Int) < (l.length : Int)
 ·have HE : Hid (errS l = 60) := errS_bad (by unfold schemaB; rw [decide_eq_false (show ¬ l.length ≤ 8 by omega)]; simp)
  go_enter Tryz.func43, Tryz.ntmps43
  go_wp2
  go_ret
  exact ⟨ret_int (zA HE).symm, (Wp.refl _ _).alloc _⟩
 have hl3 : (1 : Int) ≤ (l.length : Int) := by omega
 have hl4 : (l.length : Int) ≤ 8 := by omega
 clear hl1 hl2
 go_enter Tryz.func43, Tryz.ntmps43
 go_wp2_with fail
 generalize w.alloc (.cells #[.slice ao l.length cap] 24) = w2 at *
 generalize w.heap.size = sb at *
 go_loopw [18] (fun i wr => ∃ k : Nat, k ≤ l.length ∧ i = .int .i64 k ∧ Hid ((l.take k).all fieldOK = true) ∧ Hid ((l.take k).map Wq.name).Nodup ∧ Wp (fun _ => False) w2 wr) (fun i _ => l.length - (intOf i).toNat)
 case atStart => exact ⟨0, Nat.zero_le _, rfl, by simp [Hid], by simp [Hid], Wp.refl _ _⟩
 case round =>
  obtain ⟨k, hk, rfl, HA, HN, hkp⟩ := hrel
  have hp' := (hkp.cell (o := 0) hb id).trans hp
  cases h : l[k]? with
  | none =>
   have h1 := get_ge h
   obtain rfl : k = l.length := by omega
   rw [List.take_length] at HA HN
   have HW := zB (width_v l _ _ ((zA HT).keepF hkp) ((zA HF).keepF hkp) (by omega) (zA HA))
   have HE := zB (schemaB_end (by omega) (by omega) (zA HA) (zA HN))
   have HK := zB hkp
   clear hkp h h1
   go_wp2_with fail
   refine (zA HW).mono ?_
   rintro e w3 ⟨rfl, hk3⟩
   have HK3 := zB hk3
   clear hk3
   by_cases hw : (64 : Int) < widthB l
   ·go_wp2_with fail
    go_ret
    exact ⟨ret_int (errS_bad (by rw [zA HE]; exact decide_eq_false (by omega))).symm, ((zA HB).trans (zA HK)).trans (zA HK3)⟩
   ·go_wp2_with fail
    go_ret
    exact ⟨ret_int (errS_good (by rw [zA HE]; exact decide_eq_true (by omega))).symm, ((zA HB).trans (zA HK)).trans (zA HK3)⟩
  | some f =>
   have h1 := get_lt h
   obtain ⟨b, off, c, e, hbl, hc⟩ := (zA HF).cells (by omega)
   simp at e
   obtain ⟨rfl, rfl⟩ := e
   have c0 := (hkp.cell hbl id).trans (hc k f h).1
   have c1 := (hkp.cell hbl id).trans (hc k f h).2.1
   have c2 := (hkp.cell hbl id).trans (hc k f h).2.2
   have HH := zB h
   have HK := zB hkp
   obtain ⟨HX, hxb, hxc⟩ := boxed wr #[str f.name, .int .i64 f.type, .bool f.opt] 58
   have x0 := hxc 0 (str f.name) rfl
   have x1 := hxc 1 (.int .i64 f.type) rfl
   have HQ := zB (named_v (l.take k) _ f.name _ ((((((zA HF).keepF hkp).keepF (zA HX)).first k hk)).keepF (keeps_drewN _ 1)) (by rw [List.length_take]; omega))
   have hp3 := ((zA HX).cell (o := 0) (Nat.lt_of_lt_of_le hb hkp.size) id).trans hp'
   have i2 : (k : Int) ≤ (l.length : Int) := by omega
   have HO := zB (fieldOK_form f)
   have hroom : l.length ≤ cap := Ws.room (zA HF) _ _ _ rfl
   have i3 : (k : Int) ≤ (cap : Int) := by omega
   have i4 : (0 : Int) ≤ (k : Int) := by omega
   have HX4 := zB (((zA HK).trans (zA HX)).drewN 1)
   have hz0 : wr.heap.size < ((wr.alloc (.cells #[str f.name, .int .i64 f.type, .bool f.opt] 58)).drewN 1).heap.size := hxb
   have hz1 : sb < ((wr.alloc (.cells #[str f.name, .int .i64 f.type, .bool f.opt] 58)).drewN 1).heap.size := Nat.lt_of_lt_of_le hb (zA HX4).size
   clear hkp h hc hxc
   cases hnm : nameB f.name with
   | false =>
    have HE : Hid (errS l = 60) := errS_bad (schemaB_name (List.mem_of_getElem? (zA HH)) (by rw [zA HO, hnm]; rfl))
    have HN1 : Hid (∀ w, Calls Tryz.prog 64 #[str f.name] w fun e w' => e = .returned (.bool false) ∧ w' = w) := fun w => by
     have := name_v f.name w
     rw [hnm] at this
     exact this
    clear hnm HO HQ
    go_wp2_with fail
    go_quiet ((go_at_call 64; exact Calls.quiet_of_same (zA HN1 _)))
    go_wp2_with fail
    go_ret
    exact ⟨ret_int (zA HE).symm, (zA HB).trans ((((zA HK).trans (zA HX))).drewN _)⟩
   | true =>
    have HN1 : Hid (∀ w, Calls Tryz.prog 64 #[str f.name] w fun e w' => e = .returned (.bool true) ∧ w' = w) := fun w => by
     have := name_v f.name w
     rw [hnm] at this
     exact this
    cases hty : decide (0 ≤ wideB f.type) with
    | false =>
     have HE : Hid (errS l = 60) := errS_bad (schemaB_name (List.mem_of_getElem? (zA HH)) (by rw [zA HO, hnm, hty]; rfl))
     have HN2 : Hid (∀ w, Calls Tryz.prog 65 #[.int .i64 f.type] w fun e w' => e = .returned (.bool false) ∧ w' = w) := fun w => by
      have := isType_v f.type w
      rw [hty] at this
      exact this
     clear hnm hty HO HQ
     go_wp2_with fail
     go_quiet ((first | (go_at_call 64; exact Calls.quiet_of_same (zA HN1 _)) | (go_at_call 65; exact Calls.quiet_of_same (zA HN2 _))))
     go_wp2_with fail
     go_ret
     exact ⟨ret_int (zA HE).symm, (zA HB).trans ((((zA HK).trans (zA HX))).drewN _)⟩
    | true =>
     have HN2 : Hid (∀ w, Calls Tryz.prog 65 #[.int .i64 f.type] w fun e w' => e = .returned (.bool true) ∧ w' = w) := fun w => by
      have := isType_v f.type w
      rw [hty] at this
      exact this
     have HFO : Hid (fieldOK f = true) := by show _ = _; rw [zA HO, hnm, hty]; rfl
     clear hnm hty HO
     go_wp2_with fail
     go_region_held3 (fun w' => w'.cell? ⟨wr.heap.size, 0, none⟩ = some (str f.name) ∧ w'.cell? ⟨wr.heap.size, 1, none⟩ = some (.int .i64 f.type) ∧ w'.cell? ⟨sb, 0, none⟩ = some (.slice (some ⟨b, off, none⟩) l.length cap))
      (go_keep)
      (first
        | (go_at_call 64
           refine (zA HN1 _).mono ?_
           rintro e w4 ⟨rfl, rfl⟩)
        | (go_at_call 65
           refine (zA HN2 _).mono ?_
           rintro e w4 ⟨rfl, rfl⟩)
        | (go_at_call 66
           refine (zA HQ).mono ?_
           rintro e w4 ⟨rfl, hk4⟩
           have q0 := (hk4.cell (o := 0) hz0 id).trans x0
           have q1 := (hk4.cell (o := 1) hz0 id).trans x1
           have q2 := (hk4.cell (o := 0) hz1 id).trans hp3
           have K4 := zB ((zA HX4).trans hk4)
           clear hk4))
     cases hnd : namedB (l.take k) f.name with
     | true =>
      have HE : Hid (errS l = 60) := errS_bad (namedB_true (zA HH) hnd)
      go_wp2_with fail
      go_ret
      exact ⟨ret_int (zA HE).symm, (zA HB).trans (zA K4)⟩
     | false =>
      have HD := zB (namedB_false hnd)
      go_wp2_with fail
      go_roundw
      case rel =>
       refine ⟨k + 1, by omega, by go_num, ?_, ?_, zA K4⟩
       ·show _ = true
        rw [take_snoc _ _ _ (zA HH), List.all_append, zA HA]
        simp [zA HFO]
       ·show List.Nodup _
        rw [take_snoc _ _ _ (zA HH)]
        exact nodup_snoc (zA HN) (zA HD)
      case measure => simp [intOf]; omega
def fitAll (l : List Wq) (r : List ValA) : Bool := (l.zip r).all fun p => fitsB p.1 p.2
def recB (l : List Wq) (r : List ValA) : Bool := decide (r.length = l.length) && fitAll l r
def errR (l : List Wq) (r : List ValA) : Int := if schemaB l then (if recB l r then 0 else 61) else 60
theorem zip_get {l : List Wq} {r : List ValA} {k : Nat} {f : Wq} {x : ValA} (h : l[k]? = some f) (g : r[k]? = some x) : (l.zip r)[k]? = some (f, x) := by
 simp [List.getElem?_zip_eq_some, h, g]
theorem schemaB_len {l : List Wq} (h : schemaB l = true) : 1 ≤ l.length ∧ l.length ≤ 8 := by
 unfold schemaB at h
 simp only [Bool.and_eq_true, decide_eq_true_eq] at h
 exact ⟨h.1.1.1.1, h.1.1.1.2⟩
theorem errS_eq (l : List Wq) : (schemaB l = true ∧ errS l = 0) ∨ (schemaB l = false ∧ errS l = 60) := by
 unfold errS
 cases h : schemaB l <;> simp
set_option maxHeartbeats 1000000
theorem fits_v (f : Wq) (x : ValA) (hf : f.type = 1 ∨ f.type = 2 ∨ f.type = 3) (w : World) : Calls Tryz.prog 114 #[f.v, x.v] w fun e w' => e = .returned (.bool (fitsB f x)) ∧ Wp (fun _ => False) w w' := by
 obtain ⟨nm, t, o⟩ := f
 obtain ⟨k1, n1, s1⟩ := x
 unfold ValA.v Wq.v
 have HF := zB hf
 clear hf
 go_enter Tryz.func114, Tryz.ntmps114
 go_wp2
 all_goals (go_ret; refine ⟨ret_bool ?_, ((Wp.refl _ _).alloc _).alloc _⟩; have hf := zA HF; apply Bool.eq_iff_iff.2; clear HF; simp_all [fitsB]; try omega)
set_option maxHeartbeats 2000000
theorem type_of {f : Wq} (h : fieldOK f = true) : f.type = 1 ∨ f.type = 2 ∨ f.type = 3 := by
 unfold fieldOK at h
 simp only [Bool.and_eq_true, decide_eq_true_eq] at h
 have h2 := h.2
 unfold wideB at h2
 repeat' split at h2
 all_goals omega
theorem schemaB_ok {l : List Wq} (h : schemaB l = true) : l.all fieldOK = true := by
 unfold schemaB at h
 simp only [Bool.and_eq_true, decide_eq_true_eq] at h
 exact h.1.1.2
theorem fit_v (l : List Wq) (v : Value) (r : List ValA) (u : Value) (w : World) (h : Wt w v l) (hr : Wr w u r) (hl : l.length ≤ 8) (hrl : r.length ≤ l.length) (hok : l.all fieldOK = true) :
  Calls Tryz.prog 72 #[.agg #[v], u] w fun e w' => e = .returned (.bool (fitAll l r)) ∧ Wp (fun _ => False) w w' := by
 obtain ⟨ao, cap, rfl⟩ := Ws.form h
 obtain ⟨bo, cbp, rfl⟩ := Ws.form hr
 obtain ⟨HB, hb, hbc⟩ := boxed w #[.slice ao l.length cap] 24
 have hp := hbc 0 (.slice ao l.length cap) rfl
 have HF := zB (h.keepF (zA HB))
 have HV := zB (hr.keepF (zA HB))
 have HOK := zB hok
 clear hbc h hr hok
 go_enter Tryz.func72, Tryz.ntmps72
 go_wp2_with fail
 generalize w.alloc (.cells #[.slice ao l.length cap] 24) = w2 at *
 generalize w.heap.size = sb at *
 go_loopw [9] (fun i wr => ∃ k : Nat, k ≤ r.length ∧ i = .int .i64 k ∧ Hid (((l.zip r).take k).all (fun p => fitsB p.1 p.2) = true) ∧ Wp (fun _ => False) w2 wr) (fun i _ => r.length - (intOf i).toNat)
 case atStart => exact ⟨0, Nat.zero_le _, rfl, by simp [Hid], Wp.refl _ _⟩
 case round =>
  obtain ⟨k, hk, rfl, HA, hkp⟩ := hrel
  have HK := zB hkp
  cases hx : r[k]? with
  | none =>
   have h1 := get_ge hx
   obtain rfl : k = r.length := by omega
   have HT : Hid (fitAll l r = true) := by
    have h := zA HA
    rw [List.take_of_length_le (by simp; omega)] at h
    exact h
   clear hx h1 hkp
   go_wp2_with fail
   go_ret
   exact ⟨ret_bool (zA HT).symm, (zA HB).trans (zA HK)⟩
  | some x =>
   have h1 := get_lt hx
   obtain ⟨f, hf⟩ : ∃ f, l[k]? = some f := ⟨_, List.getElem?_eq_getElem (by omega)⟩
   obtain ⟨b, off, c, e, hbl, hc⟩ := (zA HF).cells (by omega)
   simp at e
   obtain ⟨rfl, rfl⟩ := e
   obtain ⟨b', off', c', e', hbl', hc'⟩ := (zA HV).cells (by omega)
   simp at e'
   obtain ⟨rfl, rfl⟩ := e'
   have d0 := (hkp.cell hbl' id).trans (hc' k x hx).1
   have d1 := (hkp.cell hbl' id).trans (hc' k x hx).2.1
   have d2 := (hkp.cell hbl' id).trans (hc' k x hx).2.2
   obtain ⟨HX, hxb, hxc⟩ := boxed wr #[.int .i64 x.kind, .int .i64 x.n, str x.s] 51
   have K1 := hkp.trans (zA HX)
   have c0 := (K1.cell hbl id).trans (hc k f hf).1
   have c1 := (K1.cell hbl id).trans (hc k f hf).2.1
   have c2 := (K1.cell hbl id).trans (hc k f hf).2.2
   have x0 := hxc 0 _ rfl
   have x1 := hxc 1 _ rfl
   have x2 := hxc 2 _ rfl
   have hp' := (K1.cell (o := 0) hb id).trans hp
   have HZ := zB (zip_get hf hx)
   have i1 : (k : Int) < (r.length : Int) := by omega
   have i2 : (k : Int) < (l.length : Int) := by omega
   have i0 : (0 : Int) ≤ (k : Int) := by omega
   have HQ := zB (fits_v f x (type_of (List.all_eq_true.1 (zA HOK) f (List.mem_of_getElem? hf))) ((wr.alloc (.cells #[.int .i64 x.kind, .int .i64 x.n, str x.s] 51)).drewN 1))
   have z0 : sb < ((wr.alloc (.cells #[.int .i64 x.kind, .int .i64 x.n, str x.s] 51)).drewN 1).heap.size := Nat.lt_of_lt_of_le hb K1.size
   have z1 : b < ((wr.alloc (.cells #[.int .i64 x.kind, .int .i64 x.n, str x.s] 51)).drewN 1).heap.size := Nat.lt_of_lt_of_le hbl K1.size
   have z2 : wr.heap.size < ((wr.alloc (.cells #[.int .i64 x.kind, .int .i64 x.n, str x.s] 51)).drewN 1).heap.size := hxb
   have HK1 := zB (K1.drewN 1)
   clear hkp hc hc' hf hx hxc K1
   unfold Wq.v ValA.v at HQ
   go_wp2_with fail
   go_region_held3 (fun w' => w'.cell? ⟨sb, 0, none⟩ = some (.slice (some ⟨b, off, none⟩) l.length cap) ∧ w'.cell? ⟨b, off + k * 3, none⟩ = some (str f.name) ∧ w'.cell? ⟨b, off + k * 3 + 1, none⟩ = some (.int .i64 f.type) ∧ w'.cell? ⟨b, off + k * 3 + 2, none⟩ = some (.bool f.opt) ∧ w'.cell? ⟨wr.heap.size, 0, none⟩ = some (.int .i64 x.kind) ∧ w'.cell? ⟨wr.heap.size, 1, none⟩ = some (.int .i64 x.n) ∧ w'.cell? ⟨wr.heap.size, 2, none⟩ = some (str x.s))
    (go_keep)
    (first
      | (go_at_call 114
         refine (zA HQ).mono ?_
         rintro e w4 ⟨rfl, hk4⟩
         have q0 := (hk4.cell (o := 0) z0 id).trans hp'
         have q1 := (hk4.cell z1 id).trans c0
         have q2 := (hk4.cell z1 id).trans c1
         have q3 := (hk4.cell z1 id).trans c2
         have q4 := (hk4.cell z2 id).trans x0
         have q5 := (hk4.cell z2 id).trans x1
         have q6 := (hk4.cell z2 id).trans x2
         have K4 := zB ((zA HK1).trans hk4)
         clear hk4))
   cases hfit : fitsB f x with
   | true =>
    have HT : Hid (((l.zip r).take (k + 1)).all (fun p => fitsB p.1 p.2) = true) := by
     show _ = true
     rw [take_snoc _ _ _ (zA HZ), List.all_append, zA HA]
     simp [hfit]
    go_wp2_with fail
    go_roundw
    case rel => exact ⟨k + 1, by omega, by go_num, HT, zA K4⟩
    case measure => simp [intOf]; omega
   | false =>
    have HT : Hid (fitAll l r = false) := List.all_eq_false.2 ⟨(f, x), List.mem_of_getElem? (zA HZ), by simp [hfit]⟩
    go_wp2_with fail
    go_ret
    exact ⟨ret_bool (zA HT).symm, (zA HB).trans (zA K4)⟩
theorem val_check (l : List Wq) (v : Value) (r : List ValA) (u : Value) (w : World) (hT : Types w) (h : Wt w v l) (hr : Wr w u r) :
  Calls Tryz.prog 47 #[.agg #[v], u] w fun e w' => e = .returned (.int .i64 (errR l r)) ∧ Wp (fun _ => False) w w' := by
 obtain ⟨ao, cap, rfl⟩ := Ws.form h
 obtain ⟨bo, cbp, rfl⟩ := Ws.form hr
 obtain ⟨HB, hb, hbc⟩ := boxed w #[.slice ao l.length cap] 24
 have hp := hbc 0 (.slice ao l.length cap) rfl
 have HF := zB (h.keepF (zA HB))
 have HV := zB (hr.keepF (zA HB))
 have HS := zB (checkSchema_v l _ _ (hT.keepF (zA HB)) (zA HF))
 clear hbc h hr hT
 go_enter Tryz.func47, Tryz.ntmps47
 go_wp2_with fail
 refine (zA HS).mono ?_
 rintro e w2 ⟨rfl, hk2⟩
 have hp2 := (hk2.cell (o := 0) hb id).trans hp
 have HF2 := zB ((zA HF).keepF hk2)
 have HV2 := zB ((zA HV).keepF hk2)
 have HB2 := zB ((zA HB).trans hk2)
 clear HS HF HV HB hk2 hp hb
 generalize w.alloc (.cells #[.slice ao l.length cap] 24) = w1 at *
 generalize w.heap.size = sb at *
 rcases errS_eq l with ⟨hs, he⟩ | ⟨hs, he⟩
 ·rw [he]
  have hl8 := (schemaB_len hs).2
  by_cases hlen : r.length = l.length
  ·have hlen' : ((r.length : Int) != (l.length : Int)) = false := by simp [hlen]
   have HR : Hid (errR l r = if fitAll l r then 0 else 61) := by show _ = _; simp [errR, hs, recB, hlen]
   have HQ := zB (fit_v l _ r _ _ (zA HF2) (zA HV2) hl8 (by omega) (schemaB_ok hs))
   clear hlen hs he
   generalize fitAll l r = F at *
   go_wp2_with fail
   refine (zA HQ).mono ?_
   rintro e w4 ⟨rfl, hk4⟩
   have K4 := zB ((zA HB2).trans hk4)
   clear hk4 HQ
   cases F with
   | true =>
    go_wp2_with fail
    go_ret
    exact ⟨ret_int (zA HR).symm, zA K4⟩
   | false =>
    go_wp2_with fail
    go_ret
    exact ⟨ret_int (zA HR).symm, zA K4⟩
  ·have hlen' : ((r.length : Int) != (l.length : Int)) = true := by rw [bne_iff_ne]; omega
   have HR : Hid (errR l r = 61) := by show _ = _; simp [errR, hs, recB, hlen]
   clear hlen hs he
   go_wp2_with fail
   go_ret
   exact ⟨ret_int (zA HR).symm, zA HB2⟩
 ·rw [he]
  have HR : Hid (errR l r = 60) := by show _ = _; simp [errR, hs]
  clear hs he
  go_wp2_with fail
  go_ret
  exact ⟨ret_int (zA HR).symm, zA HB2⟩
set_option maxHeartbeats 1000000
theorem Tryz.info5 : (Tryz.prog.info? 5).map (fun i => (i.zero, i.size, i.bytes)) = some (some (.int .u8 0), 1, 1) := by kernel_rfl
theorem Tryz.info51 : (Tryz.prog.info? 51).map (fun i => (i.zero, i.size, i.bytes)) = some (some (.agg #[.int .i64 0, .int .i64 0, .string ⟨#[]⟩]), 3, 32) := by kernel_rfl
theorem Tryz.info58 : (Tryz.prog.info? 58).map (fun i => (i.zero, i.size, i.bytes)) = some (some (.agg #[.string ⟨#[]⟩, .int .i64 0, .bool false]), 3, 32) := by kernel_rfl
theorem Wv.cells {w : World} {v : Value} {l : Txt} (h : Wv w v l) (h0 : 0 < l.length) :
  ∃ b off cap, v = .slice (some ⟨b, off, none⟩) l.length cap ∧ b < w.heap.size ∧ ∀ i c, l[i]? = some c → w.cell? ⟨b, off + i, none⟩ = some (.int .u8 (num c)) := by
 obtain ⟨b, off, cap, e, hb, hc⟩ := Ws.cells h h0
 exact ⟨b, off, cap, e, hb, fun i c hi => hc i _ (by rw [bs_get, hi]; rfl)⟩
theorem copyBytes_any (w : World) (v : Value) (l : Txt) (hR : Wv w v l) (hl : l.length ≤ 140737488355328) :
  Calls Tryz.prog 33 #[v] w fun e w' => ∃ v', e = .returned v' ∧ w'.ownsRow w.heap.size 5 1 v' l.length (bs l) ∧ Wp (fun _ => False) w w' := by
 obtain ⟨i0, hi, hz0, hz1, hz2⟩ := info_parts Tryz.info5
 obtain ⟨ao, cap, rfl⟩ := Ws.form hR
 have HR := zB hR
 have HL := zB hl
 have hl' : l.length ≤ 9223372036854775807 := by omega
 clear hR hl
 go_enter Tryz.func33, Tryz.ntmps33
 go_wp2
 go_loopw [3, 4] (fun o i wr => ∃ k : Nat, k ≤ l.length ∧ i = .int .i64 k ∧ wr.ownsRow w.heap.size 5 1 o k (bs (l.take k)) ∧ Wp (fun _ => False) w wr) (fun _ i _ => l.length - (intOf i).toNat)
 case atStart => exact ⟨0, Nat.zero_le _, rfl, by simpa [bs] using World.ownsRow_nil w w.heap.size 5 1, Wp.refl _ _⟩
 case round =>
  obtain ⟨k, hk, rfl, hown, hkeep⟩ := hrel
  have HO := zB hown
  have HK := zB hkeep
  clear hown hkeep
  by_cases hlt : k < l.length
  ·obtain ⟨b, off, c, e1, hblt, hc⟩ := (zA HR).cells (by omega)
   simp at e1
   obtain ⟨rfl, rfl⟩ := e1
   obtain ⟨x, hx⟩ : ∃ x, l[k]? = some x := ⟨_, List.getElem?_eq_getElem hlt⟩
   have p0 := ((zA HK).cell (o := off + k) hblt id).trans (hc k x hx)
   have HX := zB hx
   have i1 : (k : Int) < (l.length : Int) := by omega
   have i0' : (0 : Int) ≤ (k : Int) := by omega
   clear hc hx
   go_wp2_with (at_builtin; refine wpList_append_lies _ rfl _ _ _ rfl w.heap.size 5 i0 _ 1 1 Tryz.underlying42 hi hz0 hz1 hz2 rfl (by omega) u3 k (bs (l.take k)) rfl ((zA HO).alloc _) ⟨wr.heap.size, 0, none⟩ 1 1 [.int .u8 (num x)] rfl rfl (World.news_of_block (cs := #[.int .u8 (num x)]) (t := 5) (fr := (0, 0)) (heap_alloc_new wr _)) (by simp [Value.oneCell']) (by omega) (by unfold maxLen; omega) (by have := zA HL; omega) (by have := (zA HK).size; simp; omega) (wr.heap.size + 1) (by simp) ?_; intro g cap w1 hown1 hgrow hat hlt1)
   go_roundw
   case rel =>
    refine ⟨k + 1, by omega, by go_num, ?_, ((zA HK).alloc _).grown hgrow (fun q e hq => by have := ((zA HO).lt q e).1; omega)⟩
    rw [take_snoc _ _ _ (zA HX)]
    simpa [bs] using hown1
   case measure => simp [intOf]; omega
  ·go_wp2
   go_ret
   obtain rfl : k = l.length := by omega
   refine ⟨_, rfl, ?_, zA HK⟩
   have := zA HO
   rwa [List.take_length] at this
theorem take_succ_eq {α : Type} {a b : List α} {k : Nat} (h : a.take k = b.take k) {x : α} (ha : a[k]? = some x) (hb : b[k]? = some x) : a.take (k + 1) = b.take (k + 1) := by
 rw [take_snoc _ _ _ ha, take_snoc _ _ _ hb, h]
theorem take_end {α : Type} {a b : List α} (hl : a.length = b.length) {k : Nat} (hk : a.length ≤ k) (h : a.take k = b.take k) : a = b := by
 rwa [List.take_of_length_le hk, List.take_of_length_le (by omega)] at h
theorem get_ne {α : Type} {a b : List α} {k : Nat} {x y : α} (ha : a[k]? = some x) (hb : b[k]? = some y) (h : x ≠ y) : a ≠ b := by
 intro e
 rw [e, hb] at ha
 exact h (by simpa using ha.symm)
theorem zI {w w' : World} {B e size n : Nat} {v : Value} {xs : List Value} (h : w.ownsRow B e size v n xs) {F : Nat → Prop} (hk : Wp F w w') (hF : ∀ k, v.ownBlock = some k → ¬ F k) : w'.ownsRow B e size v n xs := by
 obtain ⟨h1, h2⟩ := h
 refine ⟨h1, ?_⟩
 rcases h2 with h2 | ⟨g, cap, cur, hv, hb, hg, rest⟩
 ·exact Or.inl h2
 ·exact Or.inr ⟨g, cap, cur, hv, hb, by rw [hk.block g (zE hg) (hF g (by rw [hv]; rfl))]; exact hg, rest⟩
theorem ownsRow_ne {w : World} {B e size n : Nat} {v : Value} {xs : List Value} (h : w.ownsRow B e size v n xs) {k : Nat} {c : Array Value} {t : TypeId} {fr : Nat × Nat} (hb : w.heap[k]? = some (.cells c t fr)) (ht : t ≠ e) : v.ownBlock ≠ some k := by
 rcases h.2 with ⟨hv, _⟩ | ⟨g, cap, cur, hv, _, hg, _⟩
 ·rw [hv]; simp [Value.ownBlock]
 ·rw [hv]
  simp only [Value.ownBlock, ne_eq, Option.some.injEq]
  rintro rfl
  rw [hb] at hg
  simp at hg
  exact ht hg.2.1
theorem ownsRow_lower {w : World} {B C e size n : Nat} {v : Value} {xs : List Value} (h : w.ownsRow B e size v n xs) (hC : C ≤ B) : w.ownsRow C e size v n xs := by
 obtain ⟨h1, h2⟩ := h
 refine ⟨h1, ?_⟩
 rcases h2 with h2 | ⟨g, cap, cur, hv, hb, rest⟩
 ·exact Or.inl h2
 ·exact Or.inr ⟨g, cap, cur, hv, Nat.le_trans hC hb, rest⟩
theorem Wp.narrow {F : Nat → Prop} {a b c : World} (h : Wp (fun _ => False) a b) (k : Wp F b c) (hF : ∀ i, F i → a.heap.size ≤ i) : Wp (fun _ => False) a c :=
 ⟨k.os.trans h.os, k.tape.trans h.tape, k.output.trans h.output, Nat.le_trans h.size k.size, fun i hi _ => (k.block i (Nat.lt_of_lt_of_le hi h.size) (fun f => by have := hF i f; omega)).trans (h.block i hi id)⟩
theorem keeps_set (w : World) (b o : Nat) (u : Value) : Wp (fun q => q = b) w (w.setCell ⟨b, o, none⟩ u) :=
 (Wp.refl (fun q => q = b) w).setCell (p := ⟨b, o, none⟩) (fun _ => rfl) u
def groups (u : Nat) : Txt := if _h : u < 128 then [UInt8.ofNat u] else UInt8.ofNat (u % 128 + 128) :: groups (u / 128)
theorem groups_small {u : Nat} (h : u < 128) : groups u = [UInt8.ofNat u] := by rw [groups, dif_pos h]
theorem groups_big {u : Nat} (h : 128 ≤ u) : groups u = UInt8.ofNat (u % 128 + 128) :: groups (u / 128) := by rw [groups, dif_neg (by omega)]
theorem groups_length (k : Nat) : ∀ u, u < 128 ^ (k + 1) → (groups u).length ≤ k + 1 := by
 induction k with
 | zero => intro u h; rw [groups_small (by simpa using h)]; simp
 | succ k ih =>
  intro u h
  by_cases h0 : u < 128
  ·rw [groups_small h0]; simp
  ·rw [groups_big (by omega)]
   have := ih (u / 128) (by rw [Nat.pow_succ] at h; omega)
   simp; omega
theorem groups_10 (u : Nat) (h : u ≤ 18446744073709551615) : (groups u).length ≤ 10 := groups_length 9 u (by omega)
theorem num_of (u : Nat) (h : u < 256) : num (UInt8.ofNat u) = u := by unfold num; rw [UInt8.toNat_ofNat']; omega
theorem own_step {S' : Nat} {v o o' : Value} {S g : Nat} {n c : Nat} (h : o.ownBlock = v.ownBlock ∨ ∀ q, o.ownBlock = some q → S ≤ q) (hat : o.ownBlock = some g ∨ g = S') (hS : S ≤ S') (e : o' = .slice (some ⟨g, 0, none⟩) n c) : o'.ownBlock = v.ownBlock ∨ ∀ q, o'.ownBlock = some q → S ≤ q := by
 subst e
 have e1 : (Value.slice (some ⟨g, 0, none⟩) n c).ownBlock = some g := rfl
 rw [e1]
 rcases hat with hat | rfl
 ·rcases h with h | h
  ·left; rw [← h, hat]
  ·right; intro q hq; simp at hq; subst hq; exact h _ hat
 ·right; intro q hq; simp at hq; omega
def tn (n : Int) : Nat := (turned n).toNat
theorem tn_eq (n : Int) : turned n = (tn n : Int) := by unfold tn turned; split <;> omega
theorem tn_le (n : Int) (h0 : -9223372036854775808 ≤ n) (h1 : n ≤ 9223372036854775807) : tn n ≤ 18446744073709551615 := by unfold tn turned; split <;> omega
set_option maxHeartbeats 2000000
theorem xor_zero64 (a : Int) (h0 : 0 ≤ a) (h1 : a < 18446744073709551616) : bits .xor .u64 a 0 = a := by
 show IntKind.u64.wrap ((BitVec.ofInt 64 a ^^^ BitVec.ofInt 64 0).toNat : Int) = a
 rw [show BitVec.ofInt 64 0 = 0#64 from rfl, BitVec.xor_zero, BitVec.toNat_ofInt, IntKind.wrap_u64]
 omega
theorem xor_ones64 (a : Int) (h0 : 0 ≤ a) (h1 : a < 18446744073709551616) : bits .xor .u64 a 18446744073709551615 = 18446744073709551615 - a := by
 show IntKind.u64.wrap ((BitVec.ofInt 64 a ^^^ BitVec.ofInt 64 18446744073709551615).toNat : Int) = _
 rw [show BitVec.ofInt 64 18446744073709551615 = BitVec.allOnes 64 from rfl, BitVec.xor_allOnes, BitVec.toNat_not, BitVec.toNat_ofInt, IntKind.wrap_u64]
 omega
theorem turn_xor (n : Int) (h0 : -9223372036854775808 ≤ n) (h1 : n ≤ 9223372036854775807) : bits .xor .u64 (IntKind.u64.wrap (wrap64 (n * 2))) (IntKind.u64.wrap (n / 9223372036854775808)) = (tn n : Int) := by
 have e : IntKind.u64.wrap (wrap64 (n * 2)) = (n * 2) % 18446744073709551616 := by
  rw [IntKind.wrap_u64]
  unfold wrap64
  omega
 rw [e, ← tn_eq]
 unfold turned
 by_cases h : 0 ≤ n
 ·rw [show IntKind.u64.wrap (n / 9223372036854775808) = 0 by rw [IntKind.wrap_u64]; omega, xor_zero64 _ (by omega) (by omega), if_pos h]
  omega
 ·rw [show IntKind.u64.wrap (n / 9223372036854775808) = 18446744073709551615 by rw [IntKind.wrap_u64]; omega, xor_ones64 _ (by omega) (by omega), if_neg h]
  omega
theorem or_128 : ∀ x : Fin 256, bits .or .u8 (x.1 : Int) 128 = (x.1 : Int) % 128 + 128 := by decide +kernel
theorem or_group (k : Nat) : bits .or .u8 ((k : Int) % 256) 128 = (k : Int) % 128 + 128 := by
 have := or_128 ⟨k % 256, Nat.mod_lt _ (by omega)⟩
 rw [show (k : Int) % 256 = ((k % 256 : Nat) : Int) by omega]
 simp only at this
 rw [this]
 omega
theorem appendInt_v (w : World) (B : Nat) (v : Value) (m : Nat) (xs : List Value) (n : Int) (h0 : -9223372036854775808 ≤ n) (h1 : n ≤ 9223372036854775807) (hv : w.ownsRow B 5 1 v m xs) (hm : m ≤ 1099511627776) (hB : B ≤ w.heap.size) :
  Calls Tryz.prog 155 #[v, .int .i64 n] w fun e w' => ∃ v', e = .returned v' ∧ w'.ownsRow B 5 1 v' (m + (groups (tn n)).length) (xs ++ bs (groups (tn n))) ∧ Wp (fun q => v.ownBlock = some q) w w' ∧ (v'.ownBlock = v.ownBlock ∨ ∀ q, v'.ownBlock = some q → w.heap.size ≤ q) := by
 obtain ⟨i0, hi, hz0, hz1, hz2⟩ := info_parts Tryz.info5
 have HV := zB hv
 have HT := zB (turn_xor n h0 h1)
 have hu := tn_le n h0 h1
 have HG := zB (groups_10 _ hu)
 clear hv
 generalize tn n = U at *
 go_enter Tryz.func155, Tryz.ntmps155
 go_wp2_with fail
 rw [zA HT]
 go_loopw [0, 5] (fun o u wr => ∃ (k : Nat) (d : Txt), u = .int .u64 k ∧ k ≤ U ∧ Hid (groups U = d ++ groups k) ∧ wr.ownsRow B 5 1 o (m + d.length) (xs ++ bs d) ∧ Wp (fun q => v.ownBlock = some q) w wr ∧ (o.ownBlock = v.ownBlock ∨ ∀ q, o.ownBlock = some q → w.heap.size ≤ q)) (fun _ u _ => (intOf u).toNat)
 case atStart => exact ⟨U, [], rfl, Nat.le_refl _, rfl, by simpa [bs] using zA HV, Wp.refl _ _, Or.inl rfl⟩
 case round =>
  obtain ⟨k, d, rfl, hk, HD, hown, hkp, hat0⟩ := hrel
  have HO := zB hown
  have HK := zB hkp
  have HA := zB hat0
  have hd : d.length ≤ 10 := by have h := congrArg List.length (zA HD); have := zA HG; simp at h; omega
  clear hown hkp hat0
  by_cases hge : 128 ≤ k
  ·have HC : Hid (num (UInt8.ofNat (k % 128 + 128)) = (k : Int) % 128 + 128) := by show _ = _; rw [num_of _ (by omega)]; omega
   generalize hc : UInt8.ofNat (k % 128 + 128) = c at *
   have HCC := zB hc
   clear hc
   have hge' : (128 : Int) ≤ (k : Int) := by omega
   have hor := or_group k
   go_wp2_with (at_builtin; refine wpList_append_lies _ rfl _ _ _ rfl B 5 i0 _ 1 1 Tryz.underlying42 hi hz0 hz1 hz2 rfl (by omega) u0 (m + d.length) (xs ++ bs d) rfl ((zA HO).alloc _) ⟨wr.heap.size, 0, none⟩ 1 1 [.int .u8 ((k : Int) % 128 + 128)] rfl rfl (World.news_of_block (cs := #[.int .u8 ((k : Int) % 128 + 128)]) (t := 5) (fr := (0, 0)) (heap_alloc_new wr _)) (by simp [Value.oneCell']) (by omega) (by unfold maxLen; omega) (by omega) (by have := (zA HK).size; simp; omega) (wr.heap.size + 1) (by simp) ?_; intro g cap w2 hown1 hgrow hat hlt1)
   go_roundw
   case rel =>
    refine ⟨k / 128, d ++ [c], by go_num, by omega, ?_, ?_, ?_, ?_⟩
    ·show _ = _
     rw [zA HD, groups_big hge, zA HCC]; simp
    ·have h := hown1
     rw [List.append_assoc] at h
     simp only [List.length_append, List.length_singleton, bs, List.map_append, List.map_cons, List.map_nil, zA HC] at h ⊢
     exact h
    ·exact ((zA HK).alloc _).grown hgrow (fun q e hq => by
      rcases zA HA with h | h
      ·rw [← h]; exact e
      ·have := h q e; omega)
    ·exact own_step (zA HA) hat (by have := (zA HK).size; omega) rfl
   case measure => simp [intOf]; omega
  ·have HC : Hid (num (UInt8.ofNat k) = (k : Int)) := num_of k (by omega)
   generalize hc : UInt8.ofNat k = c at *
   have HCC := zB hc
   clear hc
   have hge' : (k : Int) < 128 := by omega
   go_wp2_with (at_builtin; refine wpList_append_lies _ rfl _ _ _ rfl B 5 i0 _ 1 1 Tryz.underlying42 hi hz0 hz1 hz2 rfl (by omega) u0 (m + d.length) (xs ++ bs d) rfl ((zA HO).alloc _) ⟨wr.heap.size, 0, none⟩ 1 1 [.int .u8 (k : Int)] rfl rfl (World.news_of_block (cs := #[.int .u8 (k : Int)]) (t := 5) (fr := (0, 0)) (heap_alloc_new wr _)) (by simp [Value.oneCell']) (by omega) (by unfold maxLen; omega) (by omega) (by have := (zA HK).size; simp; omega) (wr.heap.size + 1) (by simp) ?_; intro g cap w2 hown1 hgrow hat hlt1)
   go_ret
   refine ⟨_, rfl, ?_, ?_, ?_⟩
   ·have h := hown1
    rw [zA HD, groups_small (by omega), zA HCC]
    rw [List.append_assoc] at h
    simp only [List.length_append, List.length_singleton, bs, List.map_append, List.map_cons, List.map_nil, zA HC] at h ⊢
    exact h
   ·exact ((zA HK).alloc _).grown hgrow (fun q e hq => by
     rcases zA HA with h | h
     ·rw [← h]; exact e
     ·have := h q e; omega)
   ·exact own_step (zA HA) hat (by have := (zA HK).size; omega) rfl
def zeros (l : List Wq) : List ValA := l.map zeroV
def zeroB (l : List Wq) : List ValA := if schemaB l then zeros l else []
theorem zeros_snoc (l : List Wq) (f : Wq) : zeros (l ++ [f]) = zeros l ++ [zeroV f] := by simp [zeros]
theorem vcs_snoc (l : List ValA) (x : ValA) : vcs (l ++ [x]) = vcs l ++ x.cs := by simp [vcs]
theorem zeros_length (l : List Wq) : (zeros l).length = l.length := by simp [zeros]
theorem conv_bytes (w : World) (b cap : Nat) (l : Txt) (h : ∀ j c, l[j]? = some c → w.cell? ⟨b, j, none⟩ = some (.int .u8 (num c))) :
  (convert 42 9 (.slice (some ⟨b, 0, none⟩) l.length cap)).run Tryz.prog w = .ok (str l) w :=
 run_convert_bytes_back w 42 9 5 ⟨b, 0, none⟩ cap l Tryz.underlying42 Tryz.underlying5 Tryz.underlying9 (fun j hj => by
  have := h j l[j] (List.getElem?_eq_getElem hj)
  rw [Addr.add_lit]
  simpa [num] using this)
theorem add_str (w : World) (a b : Txt) (h : a.length + b.length ≤ 9223372036854775807) : (Op.stringOp .add ⟨a.toArray⟩ ⟨b.toArray⟩).run Tryz.prog w = .ok (str (a ++ b)) w := by
 have ha : (ByteArray.mk a.toArray).size = a.length := rfl
 have hb : (ByteArray.mk b.toArray).size = b.length := rfl
 rw [run_string_add_sum w _ _ (by omega), ByteArray.mk_append_mk]
theorem conv_at (w : World) (b off cap : Nat) (l : Txt) (h : ∀ j c, l[j]? = some c → w.cell? ⟨b, off + j, none⟩ = some (.int .u8 (num c))) :
  (convert 42 9 (.slice (some ⟨b, off, none⟩) l.length cap)).run Tryz.prog w = .ok (str l) w :=
 run_convert_bytes_back w 42 9 5 ⟨b, off, none⟩ cap l Tryz.underlying42 Tryz.underlying5 Tryz.underlying9 (fun j hj => by
  have := h j l[j] (List.getElem?_eq_getElem hj)
  rw [Addr.add_lit]
  simpa [num] using this)
end Go.Proofs.YtbdlcaamanhapaaGreatDoor
