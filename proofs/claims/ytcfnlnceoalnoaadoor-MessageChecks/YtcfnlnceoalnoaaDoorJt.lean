import Derived.Test.YtcfnlnceoalnoaaDoorHa
import Derived.Test.YtcfnlnceoalnoaaDoorXa
namespace Go.Proofs.YtcfnlnceoalnoaaDoor
open Go.RowKit Go.Maps
set_option maxRecDepth 100000 in
theorem eqValue_any (x y : ValA) (w : World) : Calls Tryd.prog 36 #[x.v, y.v] w fun e w' => e = .returned (.bool (decide (x = y))) ∧ Keeps (fun _ => False) w w' := by
  obtain ⟨k1, n1, s1⟩ := x
  obtain ⟨k2, n2, s2⟩ := y
  unfold ValA.v
  go_enter Tryd.func36, Tryd.ntmps36
  go_wp2
  all_goals (go_ret; refine ⟨ret_bool ?_, ((Keeps.refl _ _).alloc _).alloc _⟩; apply Bool.eq_iff_iff.2; simp_all; try omega)
set_option maxRecDepth 100000 in
set_option maxHeartbeats 1000000 in
theorem fits_any (f : FieldA) (x : ValA) (w : World) : Calls Tryd.prog 33 #[f.v, x.v] w fun e w' => e = .returned (.bool (fitsB f x)) ∧ Keeps (fun _ => False) w w' := by
  obtain ⟨nm, t, o⟩ := f
  obtain ⟨k1, n1, s1⟩ := x
  unfold ValA.v FieldA.v
  go_enter Tryd.func33, Tryd.ntmps33
  go_wp2
  all_goals (go_ret; refine ⟨ret_bool ?_, ((Keeps.refl _ _).alloc _).alloc _⟩; apply Bool.eq_iff_iff.2; simp_all [fitsB]; try omega)
set_option maxRecDepth 100000 in
set_option maxHeartbeats 2000000 in
theorem check_any (l : List FieldA) (v : Value) (r : List ValA) (u : Value) (w : World) (h : FldsAt w v l) (hr : ValsAt w u r) :
    Calls Tryd.prog 19 #[.agg #[v], u] w fun e w' => e = .returned (.int .i64 (errR l r)) ∧ Keeps (fun _ => False) w w' := by
  obtain ⟨ao, cap, rfl⟩ := RowAt.form h
  obtain ⟨bo, cbp, rfl⟩ := RowAt.form hr
  obtain ⟨HB, hb, hbc⟩ := boxed w #[.slice ao l.length cap] 24
  have hp := hbc 0 (.slice ao l.length cap) rfl
  have HF := hide (h.keepF (unhide HB))
  have HV := hide (hr.keepF (unhide HB))
  have HS := hide (checkSchema_any l _ _ (unhide HF))
  clear hbc h hr
  go_enter Tryd.func19, Tryd.ntmps19
  go_wp2_with fail
  refine (unhide HS).mono ?_
  rintro e w2 ⟨rfl, hk2⟩
  have hp2 := (hk2.cell (o := 0) hb id).trans hp
  have hb2 := Nat.lt_of_lt_of_le hb hk2.size
  have HF2 := hide ((unhide HF).keepF hk2)
  have HV2 := hide ((unhide HV).keepF hk2)
  have HB2 := hide ((unhide HB).trans hk2)
  clear HS HF HV HB hk2 hp hb
  generalize w.alloc (.cells #[.slice ao l.length cap] 24) = w1 at *
  generalize w.heap.size = sb at *
  rcases errS_eq l with ⟨hs, he⟩ | ⟨hs, he⟩
  · rw [he]
    have hl8 := (schemaB_len hs).2
    by_cases hlen : r.length = l.length
    · have hlen' : ((r.length : Int) != (l.length : Int)) = false := by simp [hlen]
      have HR : Hid (errR l r = if fitAll l r then 0 else 61) := by show _ = _; simp [errR, hs, recB, hlen]
      have HL := hide hlen
      have hr8 : r.length ≤ 8 := by omega
      clear hlen hs he
      go_wp2_with fail
      go_loopw [6] (fun i wr => ∃ k : Nat, k ≤ r.length ∧ i = .int .i64 k ∧ Hid (((l.zip r).take k).all (fun p => fitsB p.1 p.2) = true) ∧ Keeps (fun _ => False) w2 wr) (fun i _ => r.length - (intOf i).toNat)
      case atStart => exact ⟨0, Nat.zero_le _, rfl, by simp [Hid], Keeps.refl _ _⟩
      case round =>
        obtain ⟨k, hk, rfl, HA, hkp⟩ := hrel
        have HK := hide hkp
        cases hx : r[k]? with
        | none =>
          have h1 := get_ge hx
          obtain rfl : k = r.length := by omega
          have HT : Hid (fitAll l r = true) := by
            have h := unhide HA
            rw [List.take_of_length_le (by simp; omega)] at h
            exact h
          clear hx h1 hkp
          go_wp2_with fail
          go_ret
          exact ⟨ret_int (by rw [unhide HR, if_pos (unhide HT)]), (unhide HB2).trans (unhide HK)⟩
        | some x =>
          have h1 := get_lt hx
          obtain ⟨f, hf⟩ : ∃ f, l[k]? = some f := ⟨_, List.getElem?_eq_getElem (by have := unhide HL; omega)⟩
          obtain ⟨b, off, c, e, hbl, hc⟩ := (unhide HF2).cells (by have := unhide HL; omega)
          simp at e
          obtain ⟨rfl, rfl⟩ := e
          obtain ⟨b', off', c', e', hbl', hc'⟩ := (unhide HV2).cells (by omega)
          simp at e'
          obtain ⟨rfl, rfl⟩ := e'
          have c0 := (hkp.cell hbl id).trans (hc k f hf).1
          have c1 := (hkp.cell hbl id).trans (hc k f hf).2.1
          have c2 := (hkp.cell hbl id).trans (hc k f hf).2.2
          have d0 := (hkp.cell hbl' id).trans (hc' k x hx).1
          have d1 := (hkp.cell hbl' id).trans (hc' k x hx).2.1
          have d2 := (hkp.cell hbl' id).trans (hc' k x hx).2.2
          have hp' := (hkp.cell (o := 0) hb2 id).trans hp2
          have HZ := hide (zip_get hf hx)
          have i1 : (k : Int) < (r.length : Int) := by omega
          have i2 : (k : Int) < (l.length : Int) := by have := unhide HL; omega
          have i0 : (0 : Int) ≤ (k : Int) := by omega
          clear hkp hc hc' hf hx
          have HQ := hide (fits_any f x wr.drew)
          have z0 : sb < wr.drew.heap.size := Nat.lt_of_lt_of_le hb2 (unhide HK).size
          have z1 : b < wr.drew.heap.size := Nat.lt_of_lt_of_le hbl (unhide HK).size
          have z2 : b' < wr.drew.heap.size := Nat.lt_of_lt_of_le hbl' (unhide HK).size
          unfold FieldA.v ValA.v at HQ
          go_wp2_with fail
          go_region_held3 (fun w' => w'.cell? ⟨sb, 0, none⟩ = some (.slice (some ⟨b, off, none⟩) l.length cap) ∧ w'.cell? ⟨b, off + k * 3, none⟩ = some (str f.name) ∧ w'.cell? ⟨b, off + k * 3 + 1, none⟩ = some (.int .i64 f.type) ∧ w'.cell? ⟨b, off + k * 3 + 2, none⟩ = some (.bool f.opt) ∧ w'.cell? ⟨b', off' + k * 3, none⟩ = some (.int .i64 x.kind) ∧ w'.cell? ⟨b', off' + k * 3 + 1, none⟩ = some (.int .i64 x.n) ∧ w'.cell? ⟨b', off' + k * 3 + 2, none⟩ = some (str x.s))
            (go_keep)
            (first
              | (go_at_call 33
                 refine (unhide HQ).mono ?_
                 rintro e w4 ⟨rfl, hk4⟩
                 have q0 := (hk4.cell (o := 0) z0 id).trans hp'
                 have q1 := (hk4.cell z1 id).trans c0
                 have q2 := (hk4.cell z1 id).trans c1
                 have q3 := (hk4.cell z1 id).trans c2
                 have q4 := (hk4.cell z2 id).trans d0
                 have q5 := (hk4.cell z2 id).trans d1
                 have q6 := (hk4.cell z2 id).trans d2
                 have K4 := hide (((unhide HK).drewN 1).trans hk4)
                 clear hk4))
          cases hfit : fitsB f x with
          | true =>
            have HT : Hid (((l.zip r).take (k + 1)).all (fun p => fitsB p.1 p.2) = true) := by
              show _ = true
              rw [take_snoc _ _ _ (unhide HZ), List.all_append, unhide HA]
              simp [hfit]
            go_wp2_with fail
            go_roundw
            case rel => exact ⟨k + 1, by omega, by go_num, HT, unhide K4⟩
            case measure => simp [intOf]; omega
          | false =>
            have HT : Hid (fitAll l r = false) := List.all_eq_false.2 ⟨(f, x), List.mem_of_getElem? (unhide HZ), by simp [hfit]⟩
            go_wp2_with fail
            go_ret
            exact ⟨ret_int (by rw [unhide HR, unhide HT]; rfl), (unhide HB2).trans (unhide K4)⟩
    · have hlen' : ((r.length : Int) != (l.length : Int)) = true := by rw [bne_iff_ne]; omega
      have HR : Hid (errR l r = 61) := by show _ = _; simp [errR, hs, recB, hlen]
      clear hlen hs he
      go_wp2_with fail
      go_ret
      exact ⟨ret_int (unhide HR).symm, unhide HB2⟩
  · rw [he]
    have HR : Hid (errR l r = 60) := by show _ = _; simp [errR, hs]
    clear hs he
    go_wp2_with fail
    go_ret
    exact ⟨ret_int (unhide HR).symm, unhide HB2⟩
set_option maxRecDepth 100000 in
set_option maxHeartbeats 1000000 in
theorem copyVals_any (w : World) (v : Value) (l : List ValA) (hR : ValsAt w v l) (hl : l.length ≤ 4398046511104) :
    Calls Tryd.prog 10 #[v] w fun e w' => ∃ v', e = .returned v' ∧ w'.ownsRow w.heap.size 48 3 v' l.length (vcs l) ∧ Keeps (fun _ => False) w w' := by
  obtain ⟨i0, hi, hz0, hz1, hz2⟩ := info_parts Tryd.info48
  obtain ⟨ao, cap, rfl⟩ := RowAt.form hR
  have HR := hide hR
  have HL := hide hl
  have hl' : l.length ≤ 9223372036854775807 := by omega
  clear hR hl
  go_enter Tryd.func10, Tryd.ntmps10
  go_wp2
  go_loopw [3, 4] (fun o i wr => ∃ k : Nat, k ≤ l.length ∧ i = .int .i64 k ∧ wr.ownsRow w.heap.size 48 3 o k (vcs (l.take k)) ∧ Keeps (fun _ => False) w wr) (fun _ i _ => l.length - (intOf i).toNat)
  case atStart => exact ⟨0, Nat.zero_le _, rfl, by simpa [vcs] using World.ownsRow_nil w w.heap.size 48 3, Keeps.refl _ _⟩
  case round =>
    obtain ⟨k, hk, rfl, hown, hkeep⟩ := hrel
    have HO := hide hown
    have HK := hide hkeep
    clear hown hkeep
    by_cases hlt : k < l.length
    · obtain ⟨b, off, c, e1, hblt, hc⟩ := (unhide HR).cells (by omega)
      simp at e1
      obtain ⟨rfl, rfl⟩ := e1
      obtain ⟨x, hx⟩ : ∃ x, l[k]? = some x := ⟨_, List.getElem?_eq_getElem hlt⟩
      have p0 := ((unhide HK).cell hblt id).trans (hc k x hx).1
      have p1 := ((unhide HK).cell hblt id).trans (hc k x hx).2.1
      have p2 := ((unhide HK).cell hblt id).trans (hc k x hx).2.2
      have HX := hide hx
      have i1 : (k : Int) < (l.length : Int) := by omega
      have i0' : (0 : Int) ≤ (k : Int) := by omega
      clear hc hx
      go_wp2_with (at_builtin; refine wpList_append_lies _ rfl _ _ _ rfl w.heap.size 48 i0 _ 3 32 Tryd.underlying25 hi hz0 hz1 hz2 rfl (by omega) u3 k (vcs (l.take k)) rfl ((unhide HO).alloc _) ⟨wr.heap.size, 0, none⟩ 1 1 x.cs rfl rfl (World.news_of_block (cs := #[.int .i64 x.kind, .int .i64 x.n, str x.s]) (t := 48) (fr := (0, 0)) (heap_alloc_new wr _)) (by simp [Value.oneCell', ValA.cs]) (by omega) (by unfold maxLen; omega) (by have := unhide HL; omega) (by have := (unhide HK).size; simp; omega) (wr.heap.size + 1) (by simp) ?_; intro g cap w1 hown1 hgrow hat hlt1)
      go_roundw
      case rel =>
        refine ⟨k + 1, by omega, by go_num, ?_, ((unhide HK).alloc _).grown hgrow (fun q e hq => by have := ((unhide HO).lt q e).1; omega)⟩
        rw [take_snoc _ _ _ (unhide HX)]
        simpa [vcs] using hown1
      case measure => simp [intOf]; omega
    · go_wp2
      go_ret
      obtain rfl : k = l.length := by omega
      refine ⟨_, rfl, ?_, unhide HK⟩
      have := unhide HO
      rwa [List.take_length] at this
set_option maxRecDepth 100000 in
set_option maxHeartbeats 1000000 in
theorem eqVals_any (w : World) (va vb : Value) (la lb : List ValA) (ha : ValsAt w va la) (hb : ValsAt w vb lb) (hla : la.length ≤ maxLen) :
    Calls Tryd.prog 21 #[va, vb] w fun e w' => e = .returned (.bool (decide (la = lb))) ∧ Keeps (fun _ => False) w w' := by
  obtain ⟨ao, capa, rfl⟩ := RowAt.form ha
  obtain ⟨bo, capb, rfl⟩ := RowAt.form hb
  unfold maxLen at hla
  by_cases hlen : la.length = lb.length
  · have hne : ((la.length : Int) != (lb.length : Int)) = false := by simp [hlen]
    have HA := hide ha
    have HB := hide hb
    have HL := hide hlen
    clear ha hb hlen
    go_enter Tryd.func21, Tryd.ntmps21
    go_wp2
    go_loopw [5] (fun i wr => ∃ k : Nat, k ≤ la.length ∧ i = .int .i64 k ∧ Hid (la.take k = lb.take k) ∧ Keeps (fun _ => False) w wr) (fun i _ => la.length - (intOf i).toNat)
    case atStart => exact ⟨0, Nat.zero_le _, rfl, rfl, Keeps.refl _ _⟩
    case round =>
      obtain ⟨k, hk, rfl, HT, hkp⟩ := hrel
      have HK := hide hkp
      by_cases hlt : k < la.length
      · have hltb : k < lb.length := by have := unhide HL; omega
        obtain ⟨b, off, c1, e1, hbl, hc⟩ := (unhide HA).cells (by omega)
        obtain ⟨b', off', c2, e2, hbl', hc'⟩ := (unhide HB).cells (by omega)
        simp at e1 e2
        obtain ⟨rfl, rfl⟩ := e1
        obtain ⟨rfl, rfl⟩ := e2
        obtain ⟨x, hx⟩ : ∃ x, la[k]? = some x := ⟨_, List.getElem?_eq_getElem hlt⟩
        obtain ⟨y, hy⟩ : ∃ y, lb[k]? = some y := ⟨_, List.getElem?_eq_getElem hltb⟩
        have c0 := (hkp.cell hbl id).trans (hc k x hx).1
        have c1 := (hkp.cell hbl id).trans (hc k x hx).2.1
        have c2 := (hkp.cell hbl id).trans (hc k x hx).2.2
        have d0 := (hkp.cell hbl' id).trans (hc' k y hy).1
        have d1 := (hkp.cell hbl' id).trans (hc' k y hy).2.1
        have d2 := (hkp.cell hbl' id).trans (hc' k y hy).2.2
        have i1 : (k : Int) < (la.length : Int) := by omega
        have i2 : (k : Int) < (lb.length : Int) := by omega
        have i0 : (0 : Int) ≤ (k : Int) := by omega
        have HX := hide hx
        have HY := hide hy
        clear hc hc' hx hy hkp
        have HQ := hide (eqValue_any x y wr.drew)
        have z1 : b < wr.drew.heap.size := Nat.lt_of_lt_of_le hbl (unhide HK).size
        have z2 : b' < wr.drew.heap.size := Nat.lt_of_lt_of_le hbl' (unhide HK).size
        unfold ValA.v at HQ
        go_wp2_with fail
        go_region_held3 (fun w' => w'.cell? ⟨b, off + k * 3, none⟩ = some (.int .i64 x.kind) ∧ w'.cell? ⟨b, off + k * 3 + 1, none⟩ = some (.int .i64 x.n) ∧ w'.cell? ⟨b, off + k * 3 + 2, none⟩ = some (str x.s) ∧ w'.cell? ⟨b', off' + k * 3, none⟩ = some (.int .i64 y.kind) ∧ w'.cell? ⟨b', off' + k * 3 + 1, none⟩ = some (.int .i64 y.n) ∧ w'.cell? ⟨b', off' + k * 3 + 2, none⟩ = some (str y.s))
          (go_keep)
          (first
            | (go_at_call 36
               refine (unhide HQ).mono ?_
               rintro e w4 ⟨rfl, hk4⟩
               have q1 := (hk4.cell z1 id).trans c0
               have q2 := (hk4.cell z1 id).trans c1
               have q3 := (hk4.cell z1 id).trans c2
               have q4 := (hk4.cell z2 id).trans d0
               have q5 := (hk4.cell z2 id).trans d1
               have q6 := (hk4.cell z2 id).trans d2
               have K4 := hide (((unhide HK).drewN 1).trans hk4)
               clear hk4))
        by_cases hxy : x = y
        · rw [decide_eq_true hxy]
          have HT2 : Hid (la.take (k + 1) = lb.take (k + 1)) := take_succ_eq (unhide HT) (unhide HX) (by rw [hxy]; exact unhide HY)
          clear hxy
          go_wp2_with fail
          go_roundw
          case rel => exact ⟨k + 1, by omega, by go_num, HT2, unhide K4⟩
          case measure => simp [intOf]; omega
        · rw [decide_eq_false hxy]
          have HN := hide hxy
          clear hxy
          go_wp2_with fail
          go_ret
          exact ⟨ret_bool (by symm; rw [decide_eq_false_iff_not]; exact get_ne (unhide HX) (unhide HY) (unhide HN)), unhide K4⟩
      · have HF := hide (take_end (unhide HL) (by omega) (unhide HT))
        clear hkp
        go_wp2
        go_ret
        exact ⟨ret_bool (by symm; rw [decide_eq_true_iff]; exact unhide HF), unhide HK⟩
  · have hne : ((la.length : Int) != (lb.length : Int)) = true := by rw [bne_iff_ne]; omega
    have HL := hide hlen
    clear hlen
    go_enter Tryd.func21, Tryd.ntmps21
    go_wp2
    go_ret
    exact ⟨ret_bool (by symm; rw [decide_eq_false_iff_not]; intro e; exact unhide HL (by rw [e])), Keeps.refl _ _⟩
end Go.Proofs.YtcfnlnceoalnoaaDoor
namespace Go.Proofs.YtcfnlnceoalnoaaDoor
open Go.RowKit Go.Maps

set_option maxRecDepth 100000 in
set_option maxHeartbeats 2000000 in
theorem twin_v (w : World) (v : Value) (l : List FieldA) (h : FldsAt w v l) (hl : l.length ≤ 4398046511104) :
    Calls Tryd.prog 4 #[.agg #[v]] w fun e w' => ∃ v', e = .returned (.agg #[v']) ∧ w'.ownsRow w.heap.size 37 3 v' l.length (fcs l) ∧ Keeps (fun _ => False) w w' := by
  obtain ⟨i0, hi, hz0, hz1, hz2⟩ := info_parts Tryd.info37
  obtain ⟨ao, cap, rfl⟩ := RowAt.form h
  obtain ⟨w3, hw3⟩ : ∃ w3, w3 = ((w.alloc (.cells #[.slice ao l.length cap] 24)).alloc (.cells #[.slice none 0 0] 24)).alloc (.cells #[.slice none 0 0] 24) := ⟨_, rfl⟩
  have hK : Keeps (fun _ => False) w w3 := by rw [hw3]; exact (((Keeps.refl _ _).alloc _).alloc _).alloc _
  have hs3 : w3.heap.size = w.heap.size + 3 := by rw [hw3]; simp
  have b0 : w3.heap[w.heap.size]? = some (.cells #[.slice ao l.length cap] 24 (0, 0)) := by
    rw [hw3, Below.heap_alloc _ _ _ (by simp; omega), Below.heap_alloc _ _ _ (by simp)]
    exact heap_alloc_new w _
  have b1 : w3.heap[w.heap.size + 1]? = some (.cells #[.slice none 0 0] 24 (0, 0)) := by
    rw [hw3, Below.heap_alloc _ _ _ (by simp)]
    have := heap_alloc_new (w.alloc (.cells #[.slice ao l.length cap] 24)) (.cells #[.slice none 0 0] 24)
    simpa using this
  have b2 : w3.heap[w.heap.size + 1 + 1]? = some (.cells #[.slice none 0 0] 24 (0, 0)) := by
    rw [hw3]
    have := heap_alloc_new ((w.alloc (.cells #[.slice ao l.length cap] 24)).alloc (.cells #[.slice none 0 0] 24)) (.cells #[.slice none 0 0] 24)
    simpa using this
  have HF := hide (h.keepF hK)
  have HW := hide hw3
  have HK := hide hK
  have HL := hide hl
  have B0 := hide b0
  have B1 := hide b1
  have B2 := hide b2
  have HS := hide hs3
  clear h hw3 hK b0 b1 b2 hs3 hl
  have hl' : l.length ≤ 9223372036854775807 := by have := unhide HL; omega
  go_enter Tryd.func4, Tryd.ntmps4
  go_wp2
  rw [← unhide HW]
  go_loopw [4] (fun i wr => ∃ (k : Nat) (o : Value), k ≤ l.length ∧ i = .int .i64 k ∧ wr.heap[w.heap.size + 1 + 1]? = some (.cells #[o] 24 (0, 0)) ∧ wr.ownsRow w3.heap.size 37 3 o k (fcs (l.take k)) ∧ Keeps (fun q => q = w.heap.size + 1 + 1) w3 wr) (fun i _ => l.length - (intOf i).toNat)
  case atStart => exact ⟨0, _, Nat.zero_le _, rfl, unhide B2, by simpa [fcs] using World.ownsRow_nil w3 w3.heap.size 37 3, Keeps.refl _ _⟩
  case round =>
    obtain ⟨k, o, hk, rfl, hbo, hown, hkp⟩ := hrel
    obtain ⟨oo, oc, rfl⟩ := (rowAt_own hown).form
    have HBo := hide hbo
    have HO := hide hown
    have HP := hide hkp
    have p0 : wr.cell? ⟨w.heap.size, 0, none⟩ = some (.slice ao l.length cap) := (hkp.cell (lt_of_block (unhide B0)) (by show ¬ _ = _; omega)).trans (by rw [cell_of_blk (unhide B0)]; rfl)
    have p2 : wr.cell? ⟨w.heap.size + 1 + 1, 0, none⟩ = some (.slice oo k oc) := by rw [cell_of_blk hbo]; rfl
    have f2 := frozen_of_blk hbo 0
    have z2 := lt_of_block hbo
    have z0 : w.heap.size < wr.heap.size := by omega
    by_cases hlt : k < l.length
    · obtain ⟨b, off, c1, e1, hbl, hc⟩ := (unhide HF).cells (by omega)
      simp at e1
      obtain ⟨rfl, rfl⟩ := e1
      obtain ⟨f, hf⟩ : ∃ f, l[k]? = some f := ⟨_, List.getElem?_eq_getElem hlt⟩
      have hbne : b ≠ w.heap.size + 1 + 1 := by
        rintro rfl
        have h1 := (hc k f hf).2.1
        have h2 := (hc k f hf).2.2
        rw [cell_of_blk (unhide B2)] at h1 h2
        rw [Array.getElem?_eq_none (by simp)] at h2
        cases h2
      have c0 := (hkp.cell hbl (by show ¬ _ = _; omega)).trans (hc k f hf).1
      have c1 := (hkp.cell hbl (by show ¬ _ = _; omega)).trans (hc k f hf).2.1
      have c2 := (hkp.cell hbl (by show ¬ _ = _; omega)).trans (hc k f hf).2.2
      have z1 : b < wr.heap.size := Nat.lt_of_lt_of_le hbl hkp.size
      have HX := hide hf
      have HN := hide (ownsRow_ne hown hbo (by decide))
      have i1 : (k : Int) < (l.length : Int) := by omega
      have i0' : (0 : Int) ≤ (k : Int) := by omega
      clear hc hf hbo hown hkp
      go_wp2_with fail
      go_region_law (first
        | (refine step_append_lies _ (by rfl) _ _ _ (by rfl) w3.heap.size 37 i0 _ 3 32 Tryd.underlying22 hi hz0 hz1 hz2 rfl (by omega) (.slice oo k oc) k (fcs (l.take k)) (by rfl) (((unhide HO).alloc _).drew)
            ⟨wr.heap.size, 0, none⟩ 1 1 f.cs (by rfl) (by rfl) (World.news_of_block (cs := #[str f.name, .int .i64 f.type, .bool f.opt]) (t := 37) (fr := (0, 0)) (by exact heap_alloc_new wr _)) (by simp [Value.oneCell', FieldA.cs])
            (by omega) (by unfold maxLen; omega) (by have := unhide HL; omega) (by have := (unhide HP).size; simp; omega) (wr.heap.size + 1) (by simp) ?_; intro g cap' w5 hown2 hgrow hat hlt2
           have f2' : w5.frozen? ⟨w.heap.size + 1 + 1, 0, none⟩ = false := by (rw [hgrow.frozen_far _ (by simp; omega) (Ne.symm (unhide HN))]; simpa [World.frozen?_alloc_past, z2] using f2)
           have p2' : w5.cell? ⟨w.heap.size + 1 + 1, 0, none⟩ = some (.slice oo k oc) := by (rw [hgrow.cell_far _ (by simp; omega) (Ne.symm (unhide HN))]; simpa [World.cell?_alloc_past, z2] using p2)))
      all_goals
        have hb5 : w5.heap[w.heap.size + 1 + 1]? = some (.cells #[.slice oo k oc] 24 (0, 0)) := by
          rw [hgrow.block (w.heap.size + 1 + 1) (by simp; omega) (Ne.symm (unhide HN))]
          show (wr.alloc _).heap[w.heap.size + 1 + 1]? = _
          rw [Below.heap_alloc _ _ _ z2]
          exact unhide HBo
        have H5 := hide hb5
        have HO2 := hide hown2
        have HG2 := hide hgrow
        clear hb5 hown2 hgrow
        go_wp2
        go_roundw
        case rel =>
          refine ⟨k + 1, .slice (some ⟨g, 0, none⟩) (k + 1) cap', by omega, by go_num, ?_, ?_, ?_⟩
          · rw [heap_setCell_at (unhide H5)]; rfl
          · rw [take_snoc _ _ _ (unhide HX)]
            have h1 : w5.ownsRow w3.heap.size 37 3 (.slice (some ⟨g, 0, none⟩) (k + 1) cap') (k + 1) (fcs (l.take k ++ [f])) := by simpa [fcs] using unhide HO2
            exact ownsRow_kept (F := fun q => q = w.heap.size + 1 + 1) h1 (keeps_set w5 _ 0 _) (fun q e e2 => by subst e2; exact ownsRow_ne h1 (unhide H5) (by decide) e)
          · exact ((((unhide HP).alloc _).drew).grown (unhide HG2) (fun q e hq => by have := ((unhide HO).lt q e).1; omega)).setCell (fun _ => rfl) _
        case measure => simp [intOf]; omega
    · obtain rfl : k = l.length := by omega
      have hb1 : wr.heap[w.heap.size + 1]? = some (.cells #[.slice none 0 0] 24 (0, 0)) := by rw [hkp.block _ (lt_of_block (unhide B1)) (by show ¬ _ = _; omega)]; exact unhide B1
      have p1 : wr.cell? ⟨w.heap.size + 1, 0, none⟩ = some (.slice none 0 0) := by rw [cell_of_blk hb1]; rfl
      have f1 := frozen_of_blk hb1 0
      have H1 := hide hb1
      have HN1 := hide (ownsRow_ne hown hb1 (by decide))
      clear hb1 hown hkp hbo
      go_wp2
      have hq : (wr.setCell ⟨w.heap.size + 1, 0, none⟩ (.slice oo l.length oc)).cell? ⟨w.heap.size + 1, 0, none⟩ = some (.slice oo l.length oc) := by rw [cell_of_blk (heap_setCell_at (unhide H1) _)]; rfl
      refine bodyPost_ret (v := .agg #[.slice oo l.length oc]) (by simp [results, go_sem, hq]) rfl ?_
      refine ⟨.slice oo l.length oc, rfl, ?_, ?_⟩
      · have h1 := unhide HO
        rw [List.take_length] at h1
        exact ownsRow_lower (ownsRow_kept (F := fun q => q = w.heap.size + 1) h1 (keeps_set wr _ 0 _) (fun q e e2 => unhide HN1 (by rw [← e2]; exact e))) (unhide HK).size
      · exact (unhide HK).narrow (F := fun q => q = w.heap.size + 1 + 1 ∨ q = w.heap.size + 1) (((unhide HP).mono (fun q _ h => Or.inl h)).then (keeps_set wr (w.heap.size + 1) 0 _) (fun q _ h => Or.inr h)) (fun q h => by omega)

end Go.Proofs.YtcfnlnceoalnoaaDoor
