import Derived.Test.YtajklagdjokojaaGreatDoorJc
import Derived.Test.YtajklagdjokojaaGreatDoorJb
namespace Go.Proofs.YtajklagdjokojaaGreatDoor
open Go.RowKit Go.Maps

theorem type_of {f : FieldA} (h : fieldOK f = true) : f.type = 1 ∨ f.type = 2 ∨ f.type = 3 := by
  unfold fieldOK at h
  simp only [Bool.and_eq_true, decide_eq_true_eq] at h
  have h2 := h.2
  unfold wideB at h2
  repeat' split at h2
  all_goals omega
theorem schemaB_ok {l : List FieldA} (h : schemaB l = true) : l.all fieldOK = true := by
  unfold schemaB at h
  simp only [Bool.and_eq_true, decide_eq_true_eq] at h
  exact h.1.1.2

set_option maxRecDepth 100000 in
set_option maxHeartbeats 2000000 in
theorem fit_v (l : List FieldA) (v : Value) (r : List ValA) (u : Value) (w : World) (h : FldsAt w v l) (hr : ValsAt w u r) (hl : l.length ≤ 8) (hrl : r.length ≤ l.length) (hok : l.all fieldOK = true) :
    Calls Tryz.prog 48 #[.agg #[v], u] w fun e w' => e = .returned (.bool (fitAll l r)) ∧ Keeps (fun _ => False) w w' := by
  obtain ⟨ao, cap, rfl⟩ := RowAt.form h
  obtain ⟨bo, cbp, rfl⟩ := RowAt.form hr
  obtain ⟨HB, hb, hbc⟩ := boxed w #[.slice ao l.length cap] 26
  have hp := hbc 0 (.slice ao l.length cap) rfl
  have HF := hide (h.keepF (unhide HB))
  have HV := hide (hr.keepF (unhide HB))
  have HOK := hide hok
  clear hbc h hr hok
  go_enter Tryz.func48, Tryz.ntmps48
  go_wp2_with fail
  generalize w.alloc (.cells #[.slice ao l.length cap] 26) = w2 at *
  generalize w.heap.size = sb at *
  go_loopw [9] (fun i wr => ∃ k : Nat, k ≤ r.length ∧ i = .int .i64 k ∧ Hid (((l.zip r).take k).all (fun p => fitsB p.1 p.2) = true) ∧ Keeps (fun _ => False) w2 wr) (fun i _ => r.length - (intOf i).toNat)
  case atStart => exact ⟨0, Nat.zero_le _, rfl, by simp [Hid], Keeps.refl _ _⟩
  case round =>
    obtain ⟨k, hk, rfl, HA, hkp⟩ := hrel
    have HK := hide hkp
    cases hx : r[k]? with
    | none =>
      have h1 := get_ge hx
      obtain rfl : k = r.length := by omega
      have HT : Hid (fitAll l r = true) := by
        have h := unhide HA
        rw [List.take_of_length_le (by simp; omega)] at h
        exact h
      clear hx h1 hkp
      go_wp2_with fail
      go_ret
      exact ⟨ret_bool (unhide HT).symm, (unhide HB).trans (unhide HK)⟩
    | some x =>
      have h1 := get_lt hx
      obtain ⟨f, hf⟩ : ∃ f, l[k]? = some f := ⟨_, List.getElem?_eq_getElem (by omega)⟩
      obtain ⟨b, off, c, e, hbl, hc⟩ := (unhide HF).cells (by omega)
      simp at e
      obtain ⟨rfl, rfl⟩ := e
      obtain ⟨b', off', c', e', hbl', hc'⟩ := (unhide HV).cells (by omega)
      simp at e'
      obtain ⟨rfl, rfl⟩ := e'
      have d0 := (hkp.cell hbl' id).trans (hc' k x hx).1
      have d1 := (hkp.cell hbl' id).trans (hc' k x hx).2.1
      have d2 := (hkp.cell hbl' id).trans (hc' k x hx).2.2
      obtain ⟨HX, hxb, hxc⟩ := boxed wr #[.int .i64 x.kind, .int .i64 x.n, str x.s] 50
      have K1 := hkp.trans (unhide HX)
      have c0 := (K1.cell hbl id).trans (hc k f hf).1
      have c1 := (K1.cell hbl id).trans (hc k f hf).2.1
      have c2 := (K1.cell hbl id).trans (hc k f hf).2.2
      have x0 := hxc 0 _ rfl
      have x1 := hxc 1 _ rfl
      have x2 := hxc 2 _ rfl
      have hp' := (K1.cell (o := 0) hb id).trans hp
      have HZ := hide (zip_get hf hx)
      have i1 : (k : Int) < (r.length : Int) := by omega
      have i2 : (k : Int) < (l.length : Int) := by omega
      have i0 : (0 : Int) ≤ (k : Int) := by omega
      have HQ := hide (fits_v f x (type_of (List.all_eq_true.1 (unhide HOK) f (List.mem_of_getElem? hf))) ((wr.alloc (.cells #[.int .i64 x.kind, .int .i64 x.n, str x.s] 50)).drewN 1))
      have z0 : sb < ((wr.alloc (.cells #[.int .i64 x.kind, .int .i64 x.n, str x.s] 50)).drewN 1).heap.size := Nat.lt_of_lt_of_le hb K1.size
      have z1 : b < ((wr.alloc (.cells #[.int .i64 x.kind, .int .i64 x.n, str x.s] 50)).drewN 1).heap.size := Nat.lt_of_lt_of_le hbl K1.size
      have z2 : wr.heap.size < ((wr.alloc (.cells #[.int .i64 x.kind, .int .i64 x.n, str x.s] 50)).drewN 1).heap.size := hxb
      have HK1 := hide (K1.drewN 1)
      clear hkp hc hc' hf hx hxc K1
      unfold FieldA.v ValA.v at HQ
      go_wp2_with fail
      go_region_held3 (fun w' => w'.cell? ⟨sb, 0, none⟩ = some (.slice (some ⟨b, off, none⟩) l.length cap) ∧ w'.cell? ⟨b, off + k * 3, none⟩ = some (str f.name) ∧ w'.cell? ⟨b, off + k * 3 + 1, none⟩ = some (.int .i64 f.type) ∧ w'.cell? ⟨b, off + k * 3 + 2, none⟩ = some (.bool f.opt) ∧ w'.cell? ⟨wr.heap.size, 0, none⟩ = some (.int .i64 x.kind) ∧ w'.cell? ⟨wr.heap.size, 1, none⟩ = some (.int .i64 x.n) ∧ w'.cell? ⟨wr.heap.size, 2, none⟩ = some (str x.s))
        (go_keep)
        (first
          | (go_at_call 76
             refine (unhide HQ).mono ?_
             rintro e w4 ⟨rfl, hk4⟩
             have q0 := (hk4.cell (o := 0) z0 id).trans hp'
             have q1 := (hk4.cell z1 id).trans c0
             have q2 := (hk4.cell z1 id).trans c1
             have q3 := (hk4.cell z1 id).trans c2
             have q4 := (hk4.cell z2 id).trans x0
             have q5 := (hk4.cell z2 id).trans x1
             have q6 := (hk4.cell z2 id).trans x2
             have K4 := hide ((unhide HK1).trans hk4)
             clear hk4))
      cases hfit : fitsB f x with
      | true =>
        have HT : Hid (((l.zip r).take (k + 1)).all (fun p => fitsB p.1 p.2) = true) := by
          show _ = true
          rw [take_snoc _ _ _ (unhide HZ), List.all_append, unhide HA]
          simp [hfit]
        go_wp2_with fail
        go_roundw
        case rel => exact ⟨k + 1, by omega, by go_num, HT, unhide K4⟩
        case measure => simp [intOf]; omega
      | false =>
        have HT : Hid (fitAll l r = false) := List.all_eq_false.2 ⟨(f, x), List.mem_of_getElem? (unhide HZ), by simp [hfit]⟩
        go_wp2_with fail
        go_ret
        exact ⟨ret_bool (unhide HT).symm, (unhide HB).trans (unhide K4)⟩

set_option maxRecDepth 100000 in
set_option maxHeartbeats 2000000 in
theorem val_check (l : List FieldA) (v : Value) (r : List ValA) (u : Value) (w : World) (hT : Types w) (h : FldsAt w v l) (hr : ValsAt w u r) :
    Calls Tryz.prog 46 #[.agg #[v], u] w fun e w' => e = .returned (.int .i64 (errR l r)) ∧ Keeps (fun _ => False) w w' := by
  obtain ⟨ao, cap, rfl⟩ := RowAt.form h
  obtain ⟨bo, cbp, rfl⟩ := RowAt.form hr
  obtain ⟨HB, hb, hbc⟩ := boxed w #[.slice ao l.length cap] 26
  have hp := hbc 0 (.slice ao l.length cap) rfl
  have HF := hide (h.keepF (unhide HB))
  have HV := hide (hr.keepF (unhide HB))
  have HS := hide (checkSchema_v l _ _ (hT.keepF (unhide HB)) (unhide HF))
  clear hbc h hr hT
  go_enter Tryz.func46, Tryz.ntmps46
  go_wp2_with fail
  refine (unhide HS).mono ?_
  rintro e w2 ⟨rfl, hk2⟩
  have hp2 := (hk2.cell (o := 0) hb id).trans hp
  have HF2 := hide ((unhide HF).keepF hk2)
  have HV2 := hide ((unhide HV).keepF hk2)
  have HB2 := hide ((unhide HB).trans hk2)
  clear HS HF HV HB hk2 hp hb
  generalize w.alloc (.cells #[.slice ao l.length cap] 26) = w1 at *
  generalize w.heap.size = sb at *
  rcases errS_eq l with ⟨hs, he⟩ | ⟨hs, he⟩
  · rw [he]
    have hl8 := (schemaB_len hs).2
    by_cases hlen : r.length = l.length
    · have hlen' : ((r.length : Int) != (l.length : Int)) = false := by simp [hlen]
      have HR : Hid (errR l r = if fitAll l r then 0 else 61) := by show _ = _; simp [errR, hs, recB, hlen]
      have HQ := hide (fit_v l _ r _ _ (unhide HF2) (unhide HV2) hl8 (by omega) (schemaB_ok hs))
      clear hlen hs he
      generalize fitAll l r = F at *
      go_wp2_with fail
      refine (unhide HQ).mono ?_
      rintro e w4 ⟨rfl, hk4⟩
      have K4 := hide ((unhide HB2).trans hk4)
      clear hk4 HQ
      cases F with
      | true =>
        go_wp2_with fail
        go_ret
        exact ⟨ret_int (unhide HR).symm, unhide K4⟩
      | false =>
        go_wp2_with fail
        go_ret
        exact ⟨ret_int (unhide HR).symm, unhide K4⟩
    · have hlen' : ((r.length : Int) != (l.length : Int)) = true := by rw [bne_iff_ne]; omega
      have HR : Hid (errR l r = 61) := by show _ = _; simp [errR, hs, recB, hlen]
      clear hlen hs he
      go_wp2_with fail
      go_ret
      exact ⟨ret_int (unhide HR).symm, unhide HB2⟩
  · rw [he]
    have HR : Hid (errR l r = 60) := by show _ = _; simp [errR, hs]
    clear hs he
    go_wp2_with fail
    go_ret
    exact ⟨ret_int (unhide HR).symm, unhide HB2⟩

end Go.Proofs.YtajklagdjokojaaGreatDoor
namespace Go.Proofs.YtajklagdjokojaaGreatDoor
open Go.RowKit Go.Maps

theorem Tryz.info5 : (Tryz.prog.info? 5).map (fun i => (i.zero, i.size, i.bytes)) = some (some (.int .u8 0), 1, 1) := by kernel_rfl
theorem Tryz.info50 : (Tryz.prog.info? 50).map (fun i => (i.zero, i.size, i.bytes)) = some (some (.agg #[.int .i64 0, .int .i64 0, .string ⟨#[]⟩]), 3, 32) := by kernel_rfl
theorem Tryz.info75 : (Tryz.prog.info? 75).map (fun i => (i.zero, i.size, i.bytes)) = some (some (.agg #[.string ⟨#[]⟩, .int .i64 0, .bool false]), 3, 32) := by kernel_rfl

theorem BytesAt.cells {w : World} {v : Value} {l : Txt} (h : BytesAt w v l) (h0 : 0 < l.length) :
    ∃ b off cap, v = .slice (some ⟨b, off, none⟩) l.length cap ∧ b < w.heap.size ∧ ∀ i c, l[i]? = some c → w.cell? ⟨b, off + i, none⟩ = some (.int .u8 (num c)) := by
  obtain ⟨b, off, cap, e, hb, hc⟩ := RowAt.cells h h0
  exact ⟨b, off, cap, e, hb, fun i c hi => hc i _ (by rw [bs_get, hi]; rfl)⟩

set_option maxRecDepth 100000 in
set_option maxHeartbeats 1000000 in
theorem copyBytes_any (w : World) (v : Value) (l : Txt) (hR : BytesAt w v l) (hl : l.length ≤ 140737488355328) :
    Calls Tryz.prog 19 #[v] w fun e w' => ∃ v', e = .returned v' ∧ w'.ownsRow w.heap.size 5 1 v' l.length (bs l) ∧ Keeps (fun _ => False) w w' := by
  obtain ⟨i0, hi, hz0, hz1, hz2⟩ := info_parts Tryz.info5
  obtain ⟨ao, cap, rfl⟩ := RowAt.form hR
  have HR := hide hR
  have HL := hide hl
  have hl' : l.length ≤ 9223372036854775807 := by omega
  clear hR hl
  go_enter Tryz.func19, Tryz.ntmps19
  go_wp2
  go_loopw [3, 4] (fun o i wr => ∃ k : Nat, k ≤ l.length ∧ i = .int .i64 k ∧ wr.ownsRow w.heap.size 5 1 o k (bs (l.take k)) ∧ Keeps (fun _ => False) w wr) (fun _ i _ => l.length - (intOf i).toNat)
  case atStart => exact ⟨0, Nat.zero_le _, rfl, by simpa [bs] using World.ownsRow_nil w w.heap.size 5 1, Keeps.refl _ _⟩
  case round =>
    obtain ⟨k, hk, rfl, hown, hkeep⟩ := hrel
    have HO := hide hown
    have HK := hide hkeep
    clear hown hkeep
    by_cases hlt : k < l.length
    · obtain ⟨b, off, c, e1, hblt, hc⟩ := (unhide HR).cells (by omega)
      simp at e1
      obtain ⟨rfl, rfl⟩ := e1
      obtain ⟨x, hx⟩ : ∃ x, l[k]? = some x := ⟨_, List.getElem?_eq_getElem hlt⟩
      have p0 := ((unhide HK).cell (o := off + k) hblt id).trans (hc k x hx)
      have HX := hide hx
      have i1 : (k : Int) < (l.length : Int) := by omega
      have i0' : (0 : Int) ≤ (k : Int) := by omega
      clear hc hx
      go_wp2_with (at_builtin; refine wpList_append_lies _ rfl _ _ _ rfl w.heap.size 5 i0 _ 1 1 Tryz.underlying29 hi hz0 hz1 hz2 rfl (by omega) u3 k (bs (l.take k)) rfl ((unhide HO).alloc _) ⟨wr.heap.size, 0, none⟩ 1 1 [.int .u8 (num x)] rfl rfl (World.news_of_block (cs := #[.int .u8 (num x)]) (t := 5) (fr := (0, 0)) (heap_alloc_new wr _)) (by simp [Value.oneCell']) (by omega) (by unfold maxLen; omega) (by have := unhide HL; omega) (by have := (unhide HK).size; simp; omega) (wr.heap.size + 1) (by simp) ?_; intro g cap w1 hown1 hgrow hat hlt1)
      go_roundw
      case rel =>
        refine ⟨k + 1, by omega, by go_num, ?_, ((unhide HK).alloc _).grown hgrow (fun q e hq => by have := ((unhide HO).lt q e).1; omega)⟩
        rw [take_snoc _ _ _ (unhide HX)]
        simpa [bs] using hown1
      case measure => simp [intOf]; omega
    · go_wp2
      go_ret
      obtain rfl : k = l.length := by omega
      refine ⟨_, rfl, ?_, unhide HK⟩
      have := unhide HO
      rwa [List.take_length] at this

set_option maxRecDepth 100000 in
set_option maxHeartbeats 1000000 in
theorem copyVals_any (w : World) (v : Value) (l : List ValA) (hR : ValsAt w v l) (hl : l.length ≤ 1099511627776) :
    Calls Tryz.prog 20 #[v] w fun e w' => ∃ v', e = .returned v' ∧ w'.ownsRow w.heap.size 50 3 v' l.length (vcs l) ∧ Keeps (fun _ => False) w w' := by
  obtain ⟨i0, hi, hz0, hz1, hz2⟩ := info_parts Tryz.info50
  obtain ⟨ao, cap, rfl⟩ := RowAt.form hR
  have HR := hide hR
  have HL := hide hl
  have hl' : l.length ≤ 9223372036854775807 := by omega
  clear hR hl
  go_enter Tryz.func20, Tryz.ntmps20
  go_wp2
  go_loopw [3, 4] (fun o i wr => ∃ k : Nat, k ≤ l.length ∧ i = .int .i64 k ∧ wr.ownsRow w.heap.size 50 3 o k (vcs (l.take k)) ∧ Keeps (fun _ => False) w wr) (fun _ i _ => l.length - (intOf i).toNat)
  case atStart => exact ⟨0, Nat.zero_le _, rfl, by simpa [vcs] using World.ownsRow_nil w w.heap.size 50 3, Keeps.refl _ _⟩
  case round =>
    obtain ⟨k, hk, rfl, hown, hkeep⟩ := hrel
    have HO := hide hown
    have HK := hide hkeep
    clear hown hkeep
    by_cases hlt : k < l.length
    · obtain ⟨b, off, c, e1, hblt, hc⟩ := (unhide HR).cells (by omega)
      simp at e1
      obtain ⟨rfl, rfl⟩ := e1
      obtain ⟨x, hx⟩ : ∃ x, l[k]? = some x := ⟨_, List.getElem?_eq_getElem hlt⟩
      have p0 := ((unhide HK).cell hblt id).trans (hc k x hx).1
      have p1 := ((unhide HK).cell hblt id).trans (hc k x hx).2.1
      have p2 := ((unhide HK).cell hblt id).trans (hc k x hx).2.2
      have HX := hide hx
      have i1 : (k : Int) < (l.length : Int) := by omega
      have i0' : (0 : Int) ≤ (k : Int) := by omega
      clear hc hx
      go_wp2_with (at_builtin; refine wpList_append_lies _ rfl _ _ _ rfl w.heap.size 50 i0 _ 3 32 Tryz.underlying23 hi hz0 hz1 hz2 rfl (by omega) u3 k (vcs (l.take k)) rfl ((unhide HO).alloc _) ⟨wr.heap.size, 0, none⟩ 1 1 x.cs rfl rfl (World.news_of_block (cs := #[.int .i64 x.kind, .int .i64 x.n, str x.s]) (t := 50) (fr := (0, 0)) (heap_alloc_new wr _)) (by simp [Value.oneCell', ValA.cs]) (by omega) (by unfold maxLen; omega) (by have := unhide HL; omega) (by have := (unhide HK).size; simp; omega) (wr.heap.size + 1) (by simp) ?_; intro g cap w1 hown1 hgrow hat hlt1)
      go_roundw
      case rel =>
        refine ⟨k + 1, by omega, by go_num, ?_, ((unhide HK).alloc _).grown hgrow (fun q e hq => by have := ((unhide HO).lt q e).1; omega)⟩
        rw [take_snoc _ _ _ (unhide HX)]
        simpa [vcs] using hown1
      case measure => simp [intOf]; omega
    · go_wp2
      go_ret
      obtain rfl : k = l.length := by omega
      refine ⟨_, rfl, ?_, unhide HK⟩
      have := unhide HO
      rwa [List.take_length] at this

end Go.Proofs.YtajklagdjokojaaGreatDoor
