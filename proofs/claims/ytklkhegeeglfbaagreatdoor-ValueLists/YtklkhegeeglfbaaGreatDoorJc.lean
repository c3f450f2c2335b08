import Derived.Test.YtklkhegeeglfbaaGreatDoorJb
namespace Go.Proofs.YtklkhegeeglfbaaGreatDoor
open Go.RowKit Go.Maps

theorem RowAt.first {w : World} {a : Option Addr} {n cap m : Nat} {xs ys : List Value} (h : RowAt w (.slice a n cap) n (xs ++ ys)) (hm : m ≤ n) : RowAt w (.slice a m cap) m xs := by
  refine ⟨⟨_, _, rfl⟩, fun h0 => ?_, fun ao m' cap' e => ?_⟩
  · obtain ⟨b, off, cap', e, hb, hc⟩ := h.cells (by omega)
    simp at e
    obtain ⟨rfl, rfl⟩ := e
    exact ⟨b, off, cap, rfl, hb, fun j x hx => hc j x (by rw [List.getElem?_append_left (get_lt hx)]; exact hx)⟩
  · simp at e
    obtain ⟨rfl, rfl, rfl⟩ := e
    have := h.room _ _ _ rfl
    omega
theorem FldsAt.first {w : World} {a : Option Addr} {cap : Nat} {l : List FieldA} (h : FldsAt w (.slice a l.length cap) l) (k : Nat) (hk : k ≤ l.length) : FldsAt w (.slice a k cap) (l.take k) := by
  have e : fcs l = fcs (l.take k) ++ fcs (l.drop k) := by unfold fcs; rw [← List.flatMap_append, List.take_append_drop]
  unfold FldsAt at *
  rw [e] at h
  rw [List.length_take, Nat.min_eq_left hk]
  exact h.first hk

theorem fieldOK_form (f : FieldA) : fieldOK f = (nameB f.name && decide (0 ≤ wideB f.type)) := rfl
theorem namedB_false {l : List FieldA} {nm : Txt} (h : namedB l nm = false) : ∀ g ∈ l, g.name ≠ nm := by
  intro g hg
  have := List.any_eq_false.1 h g hg
  simpa using this
theorem namedB_true {l : List FieldA} {k : Nat} {f : FieldA} (hf : l[k]? = some f) (h : namedB (l.take k) f.name = true) : schemaB l = false := by
  obtain ⟨g, hg, e⟩ := List.any_eq_true.1 h
  simp only [decide_eq_true_eq] at e
  obtain ⟨j, hj⟩ := List.getElem?_of_mem hg
  rw [List.getElem?_take] at hj
  split at hj
  · rename_i hlt
    exact schemaB_twice hf hj hlt e
  · cases hj

set_option maxRecDepth 100000 in
set_option maxHeartbeats 2000000 in
theorem checkSchema_v (l : List FieldA) (v : Value) (w : World) (hT : Types w) (h : FldsAt w v l) :
    Calls Tryz.prog 34 #[.agg #[v]] w fun e w' => e = .returned (.int .i64 (errS l)) ∧ Keeps (fun _ => False) w w' := by
  obtain ⟨ao, cap, rfl⟩ := RowAt.form h
  obtain ⟨HB, hb, hbc⟩ := boxed w #[.slice ao l.length cap] 26
  have hp := hbc 0 (.slice ao l.length cap) rfl
  have HF := hide (h.keepF (unhide HB))
  have HT := hide (hT.keepF (unhide HB))
  clear hbc h hT
  by_cases hl1 : (l.length : Int) < 1
  · have HE : Hid (errS l = 60) := errS_bad (by unfold schemaB; rw [decide_eq_false (show ¬ 1 ≤ l.length by omega)]; simp)
    go_enter Tryz.func34, Tryz.ntmps34
    go_wp2
    go_ret
    exact ⟨ret_int (unhide HE).symm, (Keeps.refl _ _).alloc _⟩
  by_cases hl2 : (8 : Int) < (l.length : Int)
  · have HE : Hid (errS l = 60) := errS_bad (by unfold schemaB; rw [decide_eq_false (show ¬ l.length ≤ 8 by omega)]; simp)
    go_enter Tryz.func34, Tryz.ntmps34
    go_wp2
    go_ret
    exact ⟨ret_int (unhide HE).symm, (Keeps.refl _ _).alloc _⟩
  have hl3 : (1 : Int) ≤ (l.length : Int) := by omega
  have hl4 : (l.length : Int) ≤ 8 := by omega
  clear hl1 hl2
  go_enter Tryz.func34, Tryz.ntmps34
  go_wp2_with fail
  generalize w.alloc (.cells #[.slice ao l.length cap] 26) = w2 at *
  generalize w.heap.size = sb at *
  go_loopw [18] (fun i wr => ∃ k : Nat, k ≤ l.length ∧ i = .int .i64 k ∧ Hid ((l.take k).all fieldOK = true) ∧ Hid ((l.take k).map FieldA.name).Nodup ∧ Keeps (fun _ => False) w2 wr) (fun i _ => l.length - (intOf i).toNat)
  case atStart => exact ⟨0, Nat.zero_le _, rfl, by simp [Hid], by simp [Hid], Keeps.refl _ _⟩
  case round =>
    obtain ⟨k, hk, rfl, HA, HN, hkp⟩ := hrel
    have hp' := (hkp.cell (o := 0) hb id).trans hp
    cases h : l[k]? with
    | none =>
      have h1 := get_ge h
      obtain rfl : k = l.length := by omega
      rw [List.take_length] at HA HN
      have HW := hide (width_v l _ _ ((unhide HT).keepF hkp) ((unhide HF).keepF hkp) (by omega) (unhide HA))
      have HE := hide (schemaB_end (by omega) (by omega) (unhide HA) (unhide HN))
      have HK := hide hkp
      clear hkp h h1
      go_wp2_with fail
      refine (unhide HW).mono ?_
      rintro e w3 ⟨rfl, hk3⟩
      have HK3 := hide hk3
      clear hk3
      by_cases hw : (64 : Int) < widthB l
      · go_wp2_with fail
        go_ret
        exact ⟨ret_int (errS_bad (by rw [unhide HE]; exact decide_eq_false (by omega))).symm, ((unhide HB).trans (unhide HK)).trans (unhide HK3)⟩
      · go_wp2_with fail
        go_ret
        exact ⟨ret_int (errS_good (by rw [unhide HE]; exact decide_eq_true (by omega))).symm, ((unhide HB).trans (unhide HK)).trans (unhide HK3)⟩
    | some f =>
      have h1 := get_lt h
      obtain ⟨b, off, c, e, hbl, hc⟩ := (unhide HF).cells (by omega)
      simp at e
      obtain ⟨rfl, rfl⟩ := e
      have c0 := (hkp.cell hbl id).trans (hc k f h).1
      have c1 := (hkp.cell hbl id).trans (hc k f h).2.1
      have c2 := (hkp.cell hbl id).trans (hc k f h).2.2
      have HH := hide h
      have HK := hide hkp
      obtain ⟨HX, hxb, hxc⟩ := boxed wr #[str f.name, .int .i64 f.type, .bool f.opt] 69
      have x0 := hxc 0 (str f.name) rfl
      have x1 := hxc 1 (.int .i64 f.type) rfl
      have HQ := hide (named_v (l.take k) _ f.name _ ((((((unhide HF).keepF hkp).keepF (unhide HX)).first k hk)).keepF (keeps_drewN _ 1)) (by rw [List.length_take]; omega))
      have hp3 := ((unhide HX).cell (o := 0) (Nat.lt_of_lt_of_le hb hkp.size) id).trans hp'
      have i2 : (k : Int) ≤ (l.length : Int) := by omega
      have HO := hide (fieldOK_form f)
      have hroom : l.length ≤ cap := RowAt.room (unhide HF) _ _ _ rfl
      have i3 : (k : Int) ≤ (cap : Int) := by omega
      have i4 : (0 : Int) ≤ (k : Int) := by omega
      have HX4 := hide (((unhide HK).trans (unhide HX)).drewN 1)
      have hz0 : wr.heap.size < ((wr.alloc (.cells #[str f.name, .int .i64 f.type, .bool f.opt] 69)).drewN 1).heap.size := hxb
      have hz1 : sb < ((wr.alloc (.cells #[str f.name, .int .i64 f.type, .bool f.opt] 69)).drewN 1).heap.size := Nat.lt_of_lt_of_le hb (unhide HX4).size
      clear hkp h hc hxc
      cases hnm : nameB f.name with
      | false =>
        have HE : Hid (errS l = 60) := errS_bad (schemaB_name (List.mem_of_getElem? (unhide HH)) (by rw [unhide HO, hnm]; rfl))
        have HN1 : Hid (∀ w, Calls Tryz.prog 58 #[str f.name] w fun e w' => e = .returned (.bool false) ∧ w' = w) := fun w => by
          have := name_v f.name w
          rw [hnm] at this
          exact this
        clear hnm HO HQ
        go_wp2_with fail
        go_quiet ((go_at_call 58; exact Calls.quiet_of_same (unhide HN1 _)))
        go_wp2_with fail
        go_ret
        exact ⟨ret_int (unhide HE).symm, (unhide HB).trans ((((unhide HK).trans (unhide HX))).drewN _)⟩
      | true =>
        have HN1 : Hid (∀ w, Calls Tryz.prog 58 #[str f.name] w fun e w' => e = .returned (.bool true) ∧ w' = w) := fun w => by
          have := name_v f.name w
          rw [hnm] at this
          exact this
        cases hty : decide (0 ≤ wideB f.type) with
        | false =>
          have HE : Hid (errS l = 60) := errS_bad (schemaB_name (List.mem_of_getElem? (unhide HH)) (by rw [unhide HO, hnm, hty]; rfl))
          have HN2 : Hid (∀ w, Calls Tryz.prog 59 #[.int .i64 f.type] w fun e w' => e = .returned (.bool false) ∧ w' = w) := fun w => by
            have := isType_v f.type w
            rw [hty] at this
            exact this
          clear hnm hty HO HQ
          go_wp2_with fail
          go_quiet ((first | (go_at_call 58; exact Calls.quiet_of_same (unhide HN1 _)) | (go_at_call 59; exact Calls.quiet_of_same (unhide HN2 _))))
          go_wp2_with fail
          go_ret
          exact ⟨ret_int (unhide HE).symm, (unhide HB).trans ((((unhide HK).trans (unhide HX))).drewN _)⟩
        | true =>
          have HN2 : Hid (∀ w, Calls Tryz.prog 59 #[.int .i64 f.type] w fun e w' => e = .returned (.bool true) ∧ w' = w) := fun w => by
            have := isType_v f.type w
            rw [hty] at this
            exact this
          have HFO : Hid (fieldOK f = true) := by show _ = _; rw [unhide HO, hnm, hty]; rfl
          clear hnm hty HO
          go_wp2_with fail
          go_region_held3 (fun w' => w'.cell? ⟨wr.heap.size, 0, none⟩ = some (str f.name) ∧ w'.cell? ⟨wr.heap.size, 1, none⟩ = some (.int .i64 f.type) ∧ w'.cell? ⟨sb, 0, none⟩ = some (.slice (some ⟨b, off, none⟩) l.length cap))
            (go_keep)
            (first
              | (go_at_call 58
                 refine (unhide HN1 _).mono ?_
                 rintro e w4 ⟨rfl, rfl⟩)
              | (go_at_call 59
                 refine (unhide HN2 _).mono ?_
                 rintro e w4 ⟨rfl, rfl⟩)
              | (go_at_call 60
                 refine (unhide HQ).mono ?_
                 rintro e w4 ⟨rfl, hk4⟩
                 have q0 := (hk4.cell (o := 0) hz0 id).trans x0
                 have q1 := (hk4.cell (o := 1) hz0 id).trans x1
                 have q2 := (hk4.cell (o := 0) hz1 id).trans hp3
                 have K4 := hide ((unhide HX4).trans hk4)
                 clear hk4))
          cases hnd : namedB (l.take k) f.name with
          | true =>
            have HE : Hid (errS l = 60) := errS_bad (namedB_true (unhide HH) hnd)
            go_wp2_with fail
            go_ret
            exact ⟨ret_int (unhide HE).symm, (unhide HB).trans (unhide K4)⟩
          | false =>
            have HD := hide (namedB_false hnd)
            go_wp2_with fail
            go_roundw
            case rel =>
              refine ⟨k + 1, by omega, by go_num, ?_, ?_, unhide K4⟩
              · show _ = true
                rw [take_snoc _ _ _ (unhide HH), List.all_append, unhide HA]
                simp [unhide HFO]
              · show List.Nodup _
                rw [take_snoc _ _ _ (unhide HH)]
                exact nodup_snoc (unhide HN) (unhide HD)
            case measure => simp [intOf]; omega

end Go.Proofs.YtklkhegeeglfbaaGreatDoor
namespace Go.Proofs.YtklkhegeeglfbaaGreatDoor
open Go.RowKit Go.Maps

/-- Is it a record of the fields? -/
def fitAll (l : List FieldA) (r : List ValA) : Bool := (l.zip r).all fun p => fitsB p.1 p.2
def recB (l : List FieldA) (r : List ValA) : Bool := decide (r.length = l.length) && fitAll l r
def errR (l : List FieldA) (r : List ValA) : Int := if schemaB l then (if recB l r then 0 else 61) else 60

theorem zip_get {l : List FieldA} {r : List ValA} {k : Nat} {f : FieldA} {x : ValA} (h : l[k]? = some f) (g : r[k]? = some x) : (l.zip r)[k]? = some (f, x) := by
  simp [List.getElem?_zip_eq_some, h, g]
theorem schemaB_len {l : List FieldA} (h : schemaB l = true) : 1 ≤ l.length ∧ l.length ≤ 8 := by
  unfold schemaB at h
  simp only [Bool.and_eq_true, decide_eq_true_eq] at h
  exact ⟨h.1.1.1.1, h.1.1.1.2⟩
theorem errS_eq (l : List FieldA) : (schemaB l = true ∧ errS l = 0) ∨ (schemaB l = false ∧ errS l = 60) := by
  unfold errS
  cases h : schemaB l <;> simp

end Go.Proofs.YtklkhegeeglfbaaGreatDoor
namespace Go.Proofs.YtklkhegeeglfbaaGreatDoor
open Go.RowKit Go.Maps

set_option maxRecDepth 100000 in
set_option maxHeartbeats 1000000 in
theorem fits_v (f : FieldA) (x : ValA) (hf : f.type = 1 ∨ f.type = 2 ∨ f.type = 3) (w : World) : Calls Tryz.prog 61 #[f.v, x.v] w fun e w' => e = .returned (.bool (fitsB f x)) ∧ Keeps (fun _ => False) w w' := by
  obtain ⟨nm, t, o⟩ := f
  obtain ⟨k1, n1, s1⟩ := x
  unfold ValA.v FieldA.v
  have HF := hide hf
  clear hf
  go_enter Tryz.func61, Tryz.ntmps61
  go_wp2
  all_goals (go_ret; refine ⟨ret_bool ?_, ((Keeps.refl _ _).alloc _).alloc _⟩; have hf := unhide HF; apply Bool.eq_iff_iff.2; clear HF; simp_all [fitsB]; try omega)

end Go.Proofs.YtklkhegeeglfbaaGreatDoor
namespace Go.Proofs.YtklkhegeeglfbaaGreatDoor
open Go.RowKit Go.Maps

theorem type_of {f : FieldA} (h : fieldOK f = true) : f.type = 1 ∨ f.type = 2 ∨ f.type = 3 := by
  unfold fieldOK at h
  simp only [Bool.and_eq_true, decide_eq_true_eq] at h
  have h2 := h.2
  unfold wideB at h2
  repeat' split at h2
  all_goals omega
theorem schemaB_ok {l : List FieldA} (h : schemaB l = true) : l.all fieldOK = true := by
  unfold schemaB at h
  simp only [Bool.and_eq_true, decide_eq_true_eq] at h
  exact h.1.1.2

set_option maxRecDepth 100000 in
set_option maxHeartbeats 2000000 in
theorem fit_v (l : List FieldA) (v : Value) (r : List ValA) (u : Value) (w : World) (h : FldsAt w v l) (hr : ValsAt w u r) (hl : l.length ≤ 8) (hrl : r.length ≤ l.length) (hok : l.all fieldOK = true) :
    Calls Tryz.prog 36 #[.agg #[v], u] w fun e w' => e = .returned (.bool (fitAll l r)) ∧ Keeps (fun _ => False) w w' := by
  obtain ⟨ao, cap, rfl⟩ := RowAt.form h
  obtain ⟨bo, cbp, rfl⟩ := RowAt.form hr
  obtain ⟨HB, hb, hbc⟩ := boxed w #[.slice ao l.length cap] 26
  have hp := hbc 0 (.slice ao l.length cap) rfl
  have HF := hide (h.keepF (unhide HB))
  have HV := hide (hr.keepF (unhide HB))
  have HOK := hide hok
  clear hbc h hr hok
  go_enter Tryz.func36, Tryz.ntmps36
  go_wp2_with fail
  generalize w.alloc (.cells #[.slice ao l.length cap] 26) = w2 at *
  generalize w.heap.size = sb at *
  go_loopw [9] (fun i wr => ∃ k : Nat, k ≤ r.length ∧ i = .int .i64 k ∧ Hid (((l.zip r).take k).all (fun p => fitsB p.1 p.2) = true) ∧ Keeps (fun _ => False) w2 wr) (fun i _ => r.length - (intOf i).toNat)
  case atStart => exact ⟨0, Nat.zero_le _, rfl, by simp [Hid], Keeps.refl _ _⟩
  case round =>
    obtain ⟨k, hk, rfl, HA, hkp⟩ := hrel
    have HK := hide hkp
    cases hx : r[k]? with
    | none =>
      have h1 := get_ge hx
      obtain rfl : k = r.length := by omega
      have HT : Hid (fitAll l r = true) := by
        have h := unhide HA
        rw [List.take_of_length_le (by simp; omega)] at h
        exact h
      clear hx h1 hkp
      go_wp2_with fail
      go_ret
      exact ⟨ret_bool (unhide HT).symm, (unhide HB).trans (unhide HK)⟩
    | some x =>
      have h1 := get_lt hx
      obtain ⟨f, hf⟩ : ∃ f, l[k]? = some f := ⟨_, List.getElem?_eq_getElem (by omega)⟩
      obtain ⟨b, off, c, e, hbl, hc⟩ := (unhide HF).cells (by omega)
      simp at e
      obtain ⟨rfl, rfl⟩ := e
      obtain ⟨b', off', c', e', hbl', hc'⟩ := (unhide HV).cells (by omega)
      simp at e'
      obtain ⟨rfl, rfl⟩ := e'
      have d0 := (hkp.cell hbl' id).trans (hc' k x hx).1
      have d1 := (hkp.cell hbl' id).trans (hc' k x hx).2.1
      have d2 := (hkp.cell hbl' id).trans (hc' k x hx).2.2
      obtain ⟨HX, hxb, hxc⟩ := boxed wr #[.int .i64 x.kind, .int .i64 x.n, str x.s] 40
      have K1 := hkp.trans (unhide HX)
      have c0 := (K1.cell hbl id).trans (hc k f hf).1
      have c1 := (K1.cell hbl id).trans (hc k f hf).2.1
      have c2 := (K1.cell hbl id).trans (hc k f hf).2.2
      have x0 := hxc 0 _ rfl
      have x1 := hxc 1 _ rfl
      have x2 := hxc 2 _ rfl
      have hp' := (K1.cell (o := 0) hb id).trans hp
      have HZ := hide (zip_get hf hx)
      have i1 : (k : Int) < (r.length : Int) := by omega
      have i2 : (k : Int) < (l.length : Int) := by omega
      have i0 : (0 : Int) ≤ (k : Int) := by omega
      have HQ := hide (fits_v f x (type_of (List.all_eq_true.1 (unhide HOK) f (List.mem_of_getElem? hf))) ((wr.alloc (.cells #[.int .i64 x.kind, .int .i64 x.n, str x.s] 40)).drewN 1))
      have z0 : sb < ((wr.alloc (.cells #[.int .i64 x.kind, .int .i64 x.n, str x.s] 40)).drewN 1).heap.size := Nat.lt_of_lt_of_le hb K1.size
      have z1 : b < ((wr.alloc (.cells #[.int .i64 x.kind, .int .i64 x.n, str x.s] 40)).drewN 1).heap.size := Nat.lt_of_lt_of_le hbl K1.size
      have z2 : wr.heap.size < ((wr.alloc (.cells #[.int .i64 x.kind, .int .i64 x.n, str x.s] 40)).drewN 1).heap.size := hxb
      have HK1 := hide (K1.drewN 1)
      clear hkp hc hc' hf hx hxc K1
      unfold FieldA.v ValA.v at HQ
      go_wp2_with fail
      go_region_held3 (fun w' => w'.cell? ⟨sb, 0, none⟩ = some (.slice (some ⟨b, off, none⟩) l.length cap) ∧ w'.cell? ⟨b, off + k * 3, none⟩ = some (str f.name) ∧ w'.cell? ⟨b, off + k * 3 + 1, none⟩ = some (.int .i64 f.type) ∧ w'.cell? ⟨b, off + k * 3 + 2, none⟩ = some (.bool f.opt) ∧ w'.cell? ⟨wr.heap.size, 0, none⟩ = some (.int .i64 x.kind) ∧ w'.cell? ⟨wr.heap.size, 1, none⟩ = some (.int .i64 x.n) ∧ w'.cell? ⟨wr.heap.size, 2, none⟩ = some (str x.s))
        (go_keep)
        (first
          | (go_at_call 61
             refine (unhide HQ).mono ?_
             rintro e w4 ⟨rfl, hk4⟩
             have q0 := (hk4.cell (o := 0) z0 id).trans hp'
             have q1 := (hk4.cell z1 id).trans c0
             have q2 := (hk4.cell z1 id).trans c1
             have q3 := (hk4.cell z1 id).trans c2
             have q4 := (hk4.cell z2 id).trans x0
             have q5 := (hk4.cell z2 id).trans x1
             have q6 := (hk4.cell z2 id).trans x2
             have K4 := hide ((unhide HK1).trans hk4)
             clear hk4))
      cases hfit : fitsB f x with
      | true =>
        have HT : Hid (((l.zip r).take (k + 1)).all (fun p => fitsB p.1 p.2) = true) := by
          show _ = true
          rw [take_snoc _ _ _ (unhide HZ), List.all_append, unhide HA]
          simp [hfit]
        go_wp2_with fail
        go_roundw
        case rel => exact ⟨k + 1, by omega, by go_num, HT, unhide K4⟩
        case measure => simp [intOf]; omega
      | false =>
        have HT : Hid (fitAll l r = false) := List.all_eq_false.2 ⟨(f, x), List.mem_of_getElem? (unhide HZ), by simp [hfit]⟩
        go_wp2_with fail
        go_ret
        exact ⟨ret_bool (unhide HT).symm, (unhide HB).trans (unhide K4)⟩

set_option maxRecDepth 100000 in
set_option maxHeartbeats 2000000 in
theorem val_check (l : List FieldA) (v : Value) (r : List ValA) (u : Value) (w : World) (hT : Types w) (h : FldsAt w v l) (hr : ValsAt w u r) :
    Calls Tryz.prog 39 #[.agg #[v], u] w fun e w' => e = .returned (.int .i64 (errR l r)) ∧ Keeps (fun _ => False) w w' := by
  obtain ⟨ao, cap, rfl⟩ := RowAt.form h
  obtain ⟨bo, cbp, rfl⟩ := RowAt.form hr
  obtain ⟨HB, hb, hbc⟩ := boxed w #[.slice ao l.length cap] 26
  have hp := hbc 0 (.slice ao l.length cap) rfl
  have HF := hide (h.keepF (unhide HB))
  have HV := hide (hr.keepF (unhide HB))
  have HS := hide (checkSchema_v l _ _ (hT.keepF (unhide HB)) (unhide HF))
  clear hbc h hr hT
  go_enter Tryz.func39, Tryz.ntmps39
  go_wp2_with fail
  refine (unhide HS).mono ?_
  rintro e w2 ⟨rfl, hk2⟩
  have hp2 := (hk2.cell (o := 0) hb id).trans hp
  have HF2 := hide ((unhide HF).keepF hk2)
  have HV2 := hide ((unhide HV).keepF hk2)
  have HB2 := hide ((unhide HB).trans hk2)
  clear HS HF HV HB hk2 hp hb
  generalize w.alloc (.cells #[.slice ao l.length cap] 26) = w1 at *
  generalize w.heap.size = sb at *
  rcases errS_eq l with ⟨hs, he⟩ | ⟨hs, he⟩
  · rw [he]
    have hl8 := (schemaB_len hs).2
    by_cases hlen : r.length = l.length
    · have hlen' : ((r.length : Int) != (l.length : Int)) = false := by simp [hlen]
      have HR : Hid (errR l r = if fitAll l r then 0 else 61) := by show _ = _; simp [errR, hs, recB, hlen]
      have HQ := hide (fit_v l _ r _ _ (unhide HF2) (unhide HV2) hl8 (by omega) (schemaB_ok hs))
      clear hlen hs he
      generalize fitAll l r = F at *
      go_wp2_with fail
      refine (unhide HQ).mono ?_
      rintro e w4 ⟨rfl, hk4⟩
      have K4 := hide ((unhide HB2).trans hk4)
      clear hk4 HQ
      cases F with
      | true =>
        go_wp2_with fail
        go_ret
        exact ⟨ret_int (unhide HR).symm, unhide K4⟩
      | false =>
        go_wp2_with fail
        go_ret
        exact ⟨ret_int (unhide HR).symm, unhide K4⟩
    · have hlen' : ((r.length : Int) != (l.length : Int)) = true := by rw [bne_iff_ne]; omega
      have HR : Hid (errR l r = 61) := by show _ = _; simp [errR, hs, recB, hlen]
      clear hlen hs he
      go_wp2_with fail
      go_ret
      exact ⟨ret_int (unhide HR).symm, unhide HB2⟩
  · rw [he]
    have HR : Hid (errR l r = 60) := by show _ = _; simp [errR, hs]
    clear hs he
    go_wp2_with fail
    go_ret
    exact ⟨ret_int (unhide HR).symm, unhide HB2⟩

end Go.Proofs.YtklkhegeeglfbaaGreatDoor
