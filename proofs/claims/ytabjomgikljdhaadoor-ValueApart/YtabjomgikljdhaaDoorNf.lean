import Derived.Test.YtabjomgikljdhaaDoorNe
namespace Go.Proofs.YtabjomgikljdhaaDoor
open Go.RowKit Go.Maps

theorem type_of {f : FieldA} (h : fieldOK f = true) : f.type = 1 ∨ f.type = 2 ∨ f.type = 3 := by
  unfold fieldOK at h
  simp only [Bool.and_eq_true, decide_eq_true_eq] at h
  have h2 := h.2
  unfold wideB at h2
  repeat' split at h2
  all_goals omega
theorem schemaB_ok {l : List FieldA} (h : schemaB l = true) : l.all fieldOK = true := by
  unfold schemaB at h
  simp only [Bool.and_eq_true, decide_eq_true_eq] at h
  exact h.1.1.2

set_option maxRecDepth 100000 in
set_option maxHeartbeats 2000000 in
theorem fit_v (l : List FieldA) (v : Value) (r : List ValA) (u : Value) (w : World) (h : FldsAt w v l) (hr : ValsAt w u r) (hl : l.length ≤ 8) (hrl : r.length ≤ l.length) (hok : l.all fieldOK = true) :
    Calls Tryd.prog 52 #[.agg #[v], u] w fun e w' => e = .returned (.bool (fitAll l r)) ∧ Keeps (fun _ => False) w w' := by
  obtain ⟨ao, cap, rfl⟩ := RowAt.form h
  obtain ⟨bo, cbp, rfl⟩ := RowAt.form hr
  obtain ⟨HB, hb, hbc⟩ := boxed w #[.slice ao l.length cap] 27
  have hp := hbc 0 (.slice ao l.length cap) rfl
  have HF := hide (h.keepF (unhide HB))
  have HV := hide (hr.keepF (unhide HB))
  have HOK := hide hok
  clear hbc h hr hok
  go_enter Tryd.func52, Tryd.ntmps52
  go_wp2_with fail
  generalize w.alloc (.cells #[.slice ao l.length cap] 27) = w2 at *
  generalize w.heap.size = sb at *
  go_loopw [9] (fun i wr => ∃ k : Nat, k ≤ r.length ∧ i = .int .i64 k ∧ Hid (((l.zip r).take k).all (fun p => fitsB p.1 p.2) = true) ∧ Keeps (fun _ => False) w2 wr) (fun i _ => r.length - (intOf i).toNat)
  case atStart => exact ⟨0, Nat.zero_le _, rfl, by simp [Hid], Keeps.refl _ _⟩
  case round =>
    obtain ⟨k, hk, rfl, HA, hkp⟩ := hrel
    have HK := hide hkp
    cases hx : r[k]? with
    | none =>
      have h1 := get_ge hx
      obtain rfl : k = r.length := by omega
      have HT : Hid (fitAll l r = true) := by
        have h := unhide HA
        rw [List.take_of_length_le (by simp; omega)] at h
        exact h
      clear hx h1 hkp
      go_wp2_with fail
      go_ret
      exact ⟨ret_bool (unhide HT).symm, (unhide HB).trans (unhide HK)⟩
    | some x =>
      have h1 := get_lt hx
      obtain ⟨f, hf⟩ : ∃ f, l[k]? = some f := ⟨_, List.getElem?_eq_getElem (by omega)⟩
      obtain ⟨b, off, c, e, hbl, hc⟩ := (unhide HF).cells (by omega)
      simp at e
      obtain ⟨rfl, rfl⟩ := e
      obtain ⟨b', off', c', e', hbl', hc'⟩ := (unhide HV).cells (by omega)
      simp at e'
      obtain ⟨rfl, rfl⟩ := e'
      have d0 := (hkp.cell hbl' id).trans (hc' k x hx).1
      have d1 := (hkp.cell hbl' id).trans (hc' k x hx).2.1
      have d2 := (hkp.cell hbl' id).trans (hc' k x hx).2.2
      obtain ⟨HX, hxb, hxc⟩ := boxed wr #[.int .i64 x.kind, .int .i64 x.n, str x.s] 54
      have K1 := hkp.trans (unhide HX)
      have c0 := (K1.cell hbl id).trans (hc k f hf).1
      have c1 := (K1.cell hbl id).trans (hc k f hf).2.1
      have c2 := (K1.cell hbl id).trans (hc k f hf).2.2
      have x0 := hxc 0 _ rfl
      have x1 := hxc 1 _ rfl
      have x2 := hxc 2 _ rfl
      have hp' := (K1.cell (o := 0) hb id).trans hp
      have HZ := hide (zip_get hf hx)
      have i1 : (k : Int) < (r.length : Int) := by omega
      have i2 : (k : Int) < (l.length : Int) := by omega
      have i0 : (0 : Int) ≤ (k : Int) := by omega
      have HQ := hide (fits_v f x (type_of (List.all_eq_true.1 (unhide HOK) f (List.mem_of_getElem? hf))) ((wr.alloc (.cells #[.int .i64 x.kind, .int .i64 x.n, str x.s] 54)).drewN 1))
      have z0 : sb < ((wr.alloc (.cells #[.int .i64 x.kind, .int .i64 x.n, str x.s] 54)).drewN 1).heap.size := Nat.lt_of_lt_of_le hb K1.size
      have z1 : b < ((wr.alloc (.cells #[.int .i64 x.kind, .int .i64 x.n, str x.s] 54)).drewN 1).heap.size := Nat.lt_of_lt_of_le hbl K1.size
      have z2 : wr.heap.size < ((wr.alloc (.cells #[.int .i64 x.kind, .int .i64 x.n, str x.s] 54)).drewN 1).heap.size := hxb
      have HK1 := hide (K1.drewN 1)
      clear hkp hc hc' hf hx hxc K1
      unfold FieldA.v ValA.v at HQ
      go_wp2_with fail
      go_region_held3 (fun w' => w'.cell? ⟨sb, 0, none⟩ = some (.slice (some ⟨b, off, none⟩) l.length cap) ∧ w'.cell? ⟨b, off + k * 3, none⟩ = some (str f.name) ∧ w'.cell? ⟨b, off + k * 3 + 1, none⟩ = some (.int .i64 f.type) ∧ w'.cell? ⟨b, off + k * 3 + 2, none⟩ = some (.bool f.opt) ∧ w'.cell? ⟨wr.heap.size, 0, none⟩ = some (.int .i64 x.kind) ∧ w'.cell? ⟨wr.heap.size, 1, none⟩ = some (.int .i64 x.n) ∧ w'.cell? ⟨wr.heap.size, 2, none⟩ = some (str x.s))
        (go_keep)
        (first
          | (go_at_call 67
             refine (unhide HQ).mono ?_
             rintro e w4 ⟨rfl, hk4⟩
             have q0 := (hk4.cell (o := 0) z0 id).trans hp'
             have q1 := (hk4.cell z1 id).trans c0
             have q2 := (hk4.cell z1 id).trans c1
             have q3 := (hk4.cell z1 id).trans c2
             have q4 := (hk4.cell z2 id).trans x0
             have q5 := (hk4.cell z2 id).trans x1
             have q6 := (hk4.cell z2 id).trans x2
             have K4 := hide ((unhide HK1).trans hk4)
             clear hk4))
      cases hfit : fitsB f x with
      | true =>
        have HT : Hid (((l.zip r).take (k + 1)).all (fun p => fitsB p.1 p.2) = true) := by
          show _ = true
          rw [take_snoc _ _ _ (unhide HZ), List.all_append, unhide HA]
          simp [hfit]
        go_wp2_with fail
        go_roundw
        case rel => exact ⟨k + 1, by omega, by go_num, HT, unhide K4⟩
        case measure => simp [intOf]; omega
      | false =>
        have HT : Hid (fitAll l r = false) := List.all_eq_false.2 ⟨(f, x), List.mem_of_getElem? (unhide HZ), by simp [hfit]⟩
        go_wp2_with fail
        go_ret
        exact ⟨ret_bool (unhide HT).symm, (unhide HB).trans (unhide K4)⟩

set_option maxRecDepth 100000 in
set_option maxHeartbeats 2000000 in
theorem val_check (l : List FieldA) (v : Value) (r : List ValA) (u : Value) (w : World) (hT : Types w) (h : FldsAt w v l) (hr : ValsAt w u r) :
    Calls Tryd.prog 35 #[.agg #[v], u] w fun e w' => e = .returned (.int .i64 (errR l r)) ∧ Keeps (fun _ => False) w w' := by
  obtain ⟨ao, cap, rfl⟩ := RowAt.form h
  obtain ⟨bo, cbp, rfl⟩ := RowAt.form hr
  obtain ⟨HB, hb, hbc⟩ := boxed w #[.slice ao l.length cap] 27
  have hp := hbc 0 (.slice ao l.length cap) rfl
  have HF := hide (h.keepF (unhide HB))
  have HV := hide (hr.keepF (unhide HB))
  have HS := hide (checkSchema_v l _ _ (hT.keepF (unhide HB)) (unhide HF))
  clear hbc h hr hT
  go_enter Tryd.func35, Tryd.ntmps35
  go_wp2_with fail
  refine (unhide HS).mono ?_
  rintro e w2 ⟨rfl, hk2⟩
  have hp2 := (hk2.cell (o := 0) hb id).trans hp
  have HF2 := hide ((unhide HF).keepF hk2)
  have HV2 := hide ((unhide HV).keepF hk2)
  have HB2 := hide ((unhide HB).trans hk2)
  clear HS HF HV HB hk2 hp hb
  generalize w.alloc (.cells #[.slice ao l.length cap] 27) = w1 at *
  generalize w.heap.size = sb at *
  rcases errS_eq l with ⟨hs, he⟩ | ⟨hs, he⟩
  · rw [he]
    have hl8 := (schemaB_len hs).2
    by_cases hlen : r.length = l.length
    · have hlen' : ((r.length : Int) != (l.length : Int)) = false := by simp [hlen]
      have HR : Hid (errR l r = if fitAll l r then 0 else 61) := by show _ = _; simp [errR, hs, recB, hlen]
      have HQ := hide (fit_v l _ r _ _ (unhide HF2) (unhide HV2) hl8 (by omega) (schemaB_ok hs))
      clear hlen hs he
      generalize fitAll l r = F at *
      go_wp2_with fail
      refine (unhide HQ).mono ?_
      rintro e w4 ⟨rfl, hk4⟩
      have K4 := hide ((unhide HB2).trans hk4)
      clear hk4 HQ
      cases F with
      | true =>
        go_wp2_with fail
        go_ret
        exact ⟨ret_int (unhide HR).symm, unhide K4⟩
      | false =>
        go_wp2_with fail
        go_ret
        exact ⟨ret_int (unhide HR).symm, unhide K4⟩
    · have hlen' : ((r.length : Int) != (l.length : Int)) = true := by rw [bne_iff_ne]; omega
      have HR : Hid (errR l r = 61) := by show _ = _; simp [errR, hs, recB, hlen]
      clear hlen hs he
      go_wp2_with fail
      go_ret
      exact ⟨ret_int (unhide HR).symm, unhide HB2⟩
  · rw [he]
    have HR : Hid (errR l r = 60) := by show _ = _; simp [errR, hs]
    clear hs he
    go_wp2_with fail
    go_ret
    exact ⟨ret_int (unhide HR).symm, unhide HB2⟩

end Go.Proofs.YtabjomgikljdhaaDoor
