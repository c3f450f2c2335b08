import Derived.Test.YtbokbdcjpbnodaaGreatDoorQXa
import Derived.Test.YtbokbdcjpbnodaaGreatDoorQJw
import Derived.Test.YtbokbdcjpbnodaaGreatDoorQJs
namespace Go.Proofs.YtbokbdcjpbnodaaGreatDoor
open Go.RowKit Go.Maps
set_option maxRecDepth 100000
set_option maxHeartbeats 2000000
theorem zeroOf_any (f : FieldA) (w : World) : Calls Tryz.prog 166 #[f.v] w fun e w' => e = .returned (zeroV f).v ∧ Keeps (fun _ => False) w w' := by
 obtain ⟨nm, t, o⟩ := f
 unfold FieldA.v
 cases o with
 | false =>
  go_enter Tryz.func166, Tryz.ntmps166
  go_wp2
  refine bodyPost_ret (v := (zeroV ⟨nm, t, false⟩).v) (by simp [results, go_sem, zeroV, ValA.v]) rfl ?_
  exact ⟨rfl, ((Keeps.refl _ _).alloc _).alloc _⟩
 | true =>
  go_enter Tryz.func166, Tryz.ntmps166
  go_wp2
  refine bodyPost_ret (v := (zeroV ⟨nm, t, true⟩).v) (by simp [results, go_sem, zeroV, ValA.v]) rfl ?_
  exact ⟨rfl, ((Keeps.refl _ _).alloc _).alloc _⟩
theorem eqValue_any (x y : ValA) (w : World) : Calls Tryz.prog 58 #[x.v, y.v] w fun e w' => e = .returned (.bool (decide (x = y))) ∧ Keeps (fun _ => False) w w' := by
 obtain ⟨k1, n1, s1⟩ := x
 obtain ⟨k2, n2, s2⟩ := y
 unfold ValA.v
 go_enter Tryz.func58, Tryz.ntmps58
 go_wp2
 all_goals (go_ret; refine ⟨ret_bool ?_, ((Keeps.refl _ _).alloc _).alloc _⟩; apply Bool.eq_iff_iff.2; simp_all; try omega)
theorem fits_any (f : FieldA) (x : ValA) (w : World) : Calls Tryz.prog 117 #[f.v, x.v] w fun e w' => e = .returned (.bool (fitsB f x)) ∧ Keeps (fun _ => False) w w' := by
 obtain ⟨nm, t, o⟩ := f
 obtain ⟨k1, n1, s1⟩ := x
 unfold ValA.v FieldA.v
 go_enter Tryz.func117, Tryz.ntmps117
 go_wp2
 all_goals (go_ret; refine ⟨ret_bool ?_, ((Keeps.refl _ _).alloc _).alloc _⟩; apply Bool.eq_iff_iff.2; simp_all [fitsB]; try omega)
theorem check_any (l : List FieldA) (v : Value) (r : List ValA) (u : Value) (w : World) (h : FldsAt w v l) (hr : ValsAt w u r) :
  Calls Tryz.prog 87 #[.agg #[v], u] w fun e w' => e = .returned (.int .i64 (errR l r)) ∧ Keeps (fun _ => False) w w' := by
 obtain ⟨ao, cap, rfl⟩ := RowAt.form h
 obtain ⟨bo, cbp, rfl⟩ := RowAt.form hr
 obtain ⟨HB, hb, hbc⟩ := boxed w #[.slice ao l.length cap] 24
 have hp := hbc 0 (.slice ao l.length cap) rfl
 have HF := hide (h.keepF (uh HB))
 have HV := hide (hr.keepF (uh HB))
 have HS := hide (checkSchema_any l _ _ (uh HF))
 clear hbc h hr
 go_enter Tryz.func87, Tryz.ntmps87
 go_wp2_with fail
 refine (uh HS).mono ?_
 rintro e w2 ⟨rfl, hk2⟩
 have hp2 := (hk2.cell (o := 0) hb id).trans hp
 have hb2 := Nat.lt_of_lt_of_le hb hk2.size
 have HF2 := hide ((uh HF).keepF hk2)
 have HV2 := hide ((uh HV).keepF hk2)
 have HB2 := hide ((uh HB).trans hk2)
 clear HS HF HV HB hk2 hp hb
 generalize w.alloc (.cells #[.slice ao l.length cap] 24) = w1 at *
 generalize w.heap.size = sb at *
 rcases errS_eq l with ⟨hs, he⟩ | ⟨hs, he⟩
 ·rw [he]
  have hl8 := (schemaB_len hs).2
  by_cases hlen : r.length = l.length
  ·have hlen' : ((r.length : Int) != (l.length : Int)) = false := by simp [hlen]
   have HR : Hid (errR l r = if fitAll l r then 0 else 61) := by show _ = _; simp [errR, hs, recB, hlen]
   have HL := hide hlen
   have hr8 : r.length ≤ 8 := by omega
   clear hlen hs he
   go_wp2_with fail
   go_loopw [6] (fun i wr => ∃ k : Nat, k ≤ r.length ∧ i = .int .i64 k ∧ Hid (((l.zip r).take k).all (fun p => fitsB p.1 p.2) = true) ∧ Keeps (fun _ => False) w2 wr) (fun i _ => r.length - (intOf i).toNat)
   case atStart => exact ⟨0, Nat.zero_le _, rfl, by simp [Hid], Keeps.refl _ _⟩
   case round =>
    obtain ⟨k, hk, rfl, HA, hkp⟩ := hrel
    have HK := hide hkp
    cases hx : r[k]? with
    | none =>
     have h1 := get_ge hx
     obtain rfl : k = r.length := by omega
     have HT : Hid (fitAll l r = true) := by
      have h := uh HA
      rw [List.take_of_length_le (by simp; omega)] at h
      exact h
     clear hx h1 hkp
     go_wp2_with fail
     go_ret
     exact ⟨ret_int (by rw [uh HR, if_pos (uh HT)]), (uh HB2).trans (uh HK)⟩
    | some x =>
     have h1 := get_lt hx
     obtain ⟨f, hf⟩ : ∃ f, l[k]? = some f := ⟨_, List.getElem?_eq_getElem (by have := uh HL; omega)⟩
     obtain ⟨b, off, c, e, hbl, hc⟩ := (uh HF2).cells (by have := uh HL; omega)
     simp at e
     obtain ⟨rfl, rfl⟩ := e
     obtain ⟨b', off', c', e', hbl', hc'⟩ := (uh HV2).cells (by omega)
     simp at e'
     obtain ⟨rfl, rfl⟩ := e'
     have c0 := (hkp.cell hbl id).trans (hc k f hf).1
     have c1 := (hkp.cell hbl id).trans (hc k f hf).2.1
     have c2 := (hkp.cell hbl id).trans (hc k f hf).2.2
     have d0 := (hkp.cell hbl' id).trans (hc' k x hx).1
     have d1 := (hkp.cell hbl' id).trans (hc' k x hx).2.1
     have d2 := (hkp.cell hbl' id).trans (hc' k x hx).2.2
     have hp' := (hkp.cell (o := 0) hb2 id).trans hp2
     have HZ := hide (zip_get hf hx)
     have i1 : (k : Int) < (r.length : Int) := by omega
     have i2 : (k : Int) < (l.length : Int) := by have := uh HL; omega
     have i0 : (0 : Int) ≤ (k : Int) := by omega
     clear hkp hc hc' hf hx
     have HQ := hide (fits_any f x wr.drew)
     have z0 : sb < wr.drew.heap.size := Nat.lt_of_lt_of_le hb2 (uh HK).size
     have z1 : b < wr.drew.heap.size := Nat.lt_of_lt_of_le hbl (uh HK).size
     have z2 : b' < wr.drew.heap.size := Nat.lt_of_lt_of_le hbl' (uh HK).size
     unfold FieldA.v ValA.v at HQ
     go_wp2_with fail
     go_region_held3 (fun w' => w'.cell? ⟨sb, 0, none⟩ = some (.slice (some ⟨b, off, none⟩) l.length cap) ∧ w'.cell? ⟨b, off + k * 3, none⟩ = some (str f.name) ∧ w'.cell? ⟨b, off + k * 3 + 1, none⟩ = some (.int .i64 f.type) ∧ w'.cell? ⟨b, off + k * 3 + 2, none⟩ = some (.bool f.opt) ∧ w'.cell? ⟨b', off' + k * 3, none⟩ = some (.int .i64 x.kind) ∧ w'.cell? ⟨b', off' + k * 3 + 1, none⟩ = some (.int .i64 x.n) ∧ w'.cell? ⟨b', off' + k * 3 + 2, none⟩ = some (str x.s))
      (go_keep)
      (first
        | (go_at_call 117
           refine (uh HQ).mono ?_
           rintro e w4 ⟨rfl, hk4⟩
           have q0 := (hk4.cell (o := 0) z0 id).trans hp'
           have q1 := (hk4.cell z1 id).trans c0
           have q2 := (hk4.cell z1 id).trans c1
           have q3 := (hk4.cell z1 id).trans c2
           have q4 := (hk4.cell z2 id).trans d0
           have q5 := (hk4.cell z2 id).trans d1
           have q6 := (hk4.cell z2 id).trans d2
           have K4 := hide (((uh HK).drewN 1).trans hk4)
           clear hk4))
     cases hfit : fitsB f x with
     | true =>
      have HT : Hid (((l.zip r).take (k + 1)).all (fun p => fitsB p.1 p.2) = true) := by
       show _ = true
       rw [take_snoc _ _ _ (uh HZ), List.all_append, uh HA]
       simp [hfit]
      go_wp2_with fail
      go_roundw
      case rel => exact ⟨k + 1, by omega, by go_num, HT, uh K4⟩
      case measure => simp [intOf]; omega
     | false =>
      have HT : Hid (fitAll l r = false) := List.all_eq_false.2 ⟨(f, x), List.mem_of_getElem? (uh HZ), by simp [hfit]⟩
      go_wp2_with fail
      go_ret
      exact ⟨ret_int (by rw [uh HR, uh HT]; rfl), (uh HB2).trans (uh K4)⟩
  ·have hlen' : ((r.length : Int) != (l.length : Int)) = true := by rw [bne_iff_ne]; omega
   have HR : Hid (errR l r = 61) := by show _ = _; simp [errR, hs, recB, hlen]
   clear hlen hs he
   go_wp2_with fail
   go_ret
   exact ⟨ret_int (uh HR).symm, uh HB2⟩
 ·rw [he]
  have HR : Hid (errR l r = 60) := by show _ = _; simp [errR, hs]
  clear hs he
  go_wp2_with fail
  go_ret
  exact ⟨ret_int (uh HR).symm, uh HB2⟩
theorem copyVals_any (w : World) (v : Value) (l : List ValA) (hR : ValsAt w v l) (hl : l.length ≤ 4398046511104) :
  Calls Tryz.prog 29 #[v] w fun e w' => ∃ v', e = .returned v' ∧ w'.ownsRow w.heap.size 74 3 v' l.length (vcs l) ∧ Keeps (fun _ => False) w w' := by
 obtain ⟨i0, hi, hz0, hz1, hz2⟩ := info_parts Tryz.info74
 obtain ⟨ao, cap, rfl⟩ := RowAt.form hR
 have HR := hide hR
 have HL := hide hl
 have hl' : l.length ≤ 9223372036854775807 := by omega
 clear hR hl
 go_enter Tryz.func29, Tryz.ntmps29
 go_wp2
 go_loopw [3, 4] (fun o i wr => ∃ k : Nat, k ≤ l.length ∧ i = .int .i64 k ∧ wr.ownsRow w.heap.size 74 3 o k (vcs (l.take k)) ∧ Keeps (fun _ => False) w wr) (fun _ i _ => l.length - (intOf i).toNat)
 case atStart => exact ⟨0, Nat.zero_le _, rfl, by simpa [vcs] using World.ownsRow_nil w w.heap.size 74 3, Keeps.refl _ _⟩
 case round =>
  obtain ⟨k, hk, rfl, hown, hkeep⟩ := hrel
  have HO := hide hown
  have HK := hide hkeep
  clear hown hkeep
  by_cases hlt : k < l.length
  ·obtain ⟨b, off, c, e1, hblt, hc⟩ := (uh HR).cells (by omega)
   simp at e1
   obtain ⟨rfl, rfl⟩ := e1
   obtain ⟨x, hx⟩ : ∃ x, l[k]? = some x := ⟨_, List.getElem?_eq_getElem hlt⟩
   have p0 := ((uh HK).cell hblt id).trans (hc k x hx).1
   have p1 := ((uh HK).cell hblt id).trans (hc k x hx).2.1
   have p2 := ((uh HK).cell hblt id).trans (hc k x hx).2.2
   have HX := hide hx
   have i1 : (k : Int) < (l.length : Int) := by omega
   have i0' : (0 : Int) ≤ (k : Int) := by omega
   clear hc hx
   go_wp2_with (at_builtin; refine wpList_append_lies _ rfl _ _ _ rfl w.heap.size 74 i0 _ 3 32 Tryz.underlying26 hi hz0 hz1 hz2 rfl (by omega) u3 k (vcs (l.take k)) rfl ((uh HO).alloc _) ⟨wr.heap.size, 0, none⟩ 1 1 x.cs rfl rfl (World.news_of_block (cs := #[.int .i64 x.kind, .int .i64 x.n, str x.s]) (t := 74) (fr := (0, 0)) (heap_alloc_new wr _)) (by simp [Value.oneCell', ValA.cs]) (by omega) (by unfold maxLen; omega) (by have := uh HL; omega) (by have := (uh HK).size; simp; omega) (wr.heap.size + 1) (by simp) ?_; intro g cap w1 hown1 hgrow hat hlt1)
   go_roundw
   case rel =>
    refine ⟨k + 1, by omega, by go_num, ?_, ((uh HK).alloc _).grown hgrow (fun q e hq => by have := ((uh HO).lt q e).1; omega)⟩
    rw [take_snoc _ _ _ (uh HX)]
    simpa [vcs] using hown1
   case measure => simp [intOf]; omega
  ·go_wp2
   go_ret
   obtain rfl : k = l.length := by omega
   refine ⟨_, rfl, ?_, uh HK⟩
   have := uh HO
   rwa [List.take_length] at this
theorem eqVals_any (w : World) (va vb : Value) (la lb : List ValA) (ha : ValsAt w va la) (hb : ValsAt w vb lb) (hla : la.length ≤ maxLen) :
  Calls Tryz.prog 30 #[va, vb] w fun e w' => e = .returned (.bool (decide (la = lb))) ∧ Keeps (fun _ => False) w w' := by
 obtain ⟨ao, capa, rfl⟩ := RowAt.form ha
 obtain ⟨bo, capb, rfl⟩ := RowAt.form hb
 unfold maxLen at hla
 by_cases hlen : la.length = lb.length
 ·have hne : ((la.length : Int) != (lb.length : Int)) = false := by simp [hlen]
  have HA := hide ha
  have HB := hide hb
  have HL := hide hlen
  clear ha hb hlen
  go_enter Tryz.func30, Tryz.ntmps30
  go_wp2
  go_loopw [5] (fun i wr => ∃ k : Nat, k ≤ la.length ∧ i = .int .i64 k ∧ Hid (la.take k = lb.take k) ∧ Keeps (fun _ => False) w wr) (fun i _ => la.length - (intOf i).toNat)
  case atStart => exact ⟨0, Nat.zero_le _, rfl, rfl, Keeps.refl _ _⟩
  case round =>
   obtain ⟨k, hk, rfl, HT, hkp⟩ := hrel
   have HK := hide hkp
   by_cases hlt : k < la.length
   ·have hltb : k < lb.length := by have := uh HL; omega
    obtain ⟨b, off, c1, e1, hbl, hc⟩ := (uh HA).cells (by omega)
    obtain ⟨b', off', c2, e2, hbl', hc'⟩ := (uh HB).cells (by omega)
    simp at e1 e2
    obtain ⟨rfl, rfl⟩ := e1
    obtain ⟨rfl, rfl⟩ := e2
    obtain ⟨x, hx⟩ : ∃ x, la[k]? = some x := ⟨_, List.getElem?_eq_getElem hlt⟩
    obtain ⟨y, hy⟩ : ∃ y, lb[k]? = some y := ⟨_, List.getElem?_eq_getElem hltb⟩
    have c0 := (hkp.cell hbl id).trans (hc k x hx).1
    have c1 := (hkp.cell hbl id).trans (hc k x hx).2.1
    have c2 := (hkp.cell hbl id).trans (hc k x hx).2.2
    have d0 := (hkp.cell hbl' id).trans (hc' k y hy).1
    have d1 := (hkp.cell hbl' id).trans (hc' k y hy).2.1
    have d2 := (hkp.cell hbl' id).trans (hc' k y hy).2.2
    have i1 : (k : Int) < (la.length : Int) := by omega
    have i2 : (k : Int) < (lb.length : Int) := by omega
    have i0 : (0 : Int) ≤ (k : Int) := by omega
    have HX := hide hx
    have HY := hide hy
    clear hc hc' hx hy hkp
    have HQ := hide (eqValue_any x y wr.drew)
    have z1 : b < wr.drew.heap.size := Nat.lt_of_lt_of_le hbl (uh HK).size
    have z2 : b' < wr.drew.heap.size := Nat.lt_of_lt_of_le hbl' (uh HK).size
    unfold ValA.v at HQ
    go_wp2_with fail
    go_region_held3 (fun w' => w'.cell? ⟨b, off + k * 3, none⟩ = some (.int .i64 x.kind) ∧ w'.cell? ⟨b, off + k * 3 + 1, none⟩ = some (.int .i64 x.n) ∧ w'.cell? ⟨b, off + k * 3 + 2, none⟩ = some (str x.s) ∧ w'.cell? ⟨b', off' + k * 3, none⟩ = some (.int .i64 y.kind) ∧ w'.cell? ⟨b', off' + k * 3 + 1, none⟩ = some (.int .i64 y.n) ∧ w'.cell? ⟨b', off' + k * 3 + 2, none⟩ = some (str y.s))
     (go_keep)
     (first
       | (go_at_call 58
          refine (uh HQ).mono ?_
          rintro e w4 ⟨rfl, hk4⟩
          have q1 := (hk4.cell z1 id).trans c0
          have q2 := (hk4.cell z1 id).trans c1
          have q3 := (hk4.cell z1 id).trans c2
          have q4 := (hk4.cell z2 id).trans d0
          have q5 := (hk4.cell z2 id).trans d1
          have q6 := (hk4.cell z2 id).trans d2
          have K4 := hide (((uh HK).drewN 1).trans hk4)
          clear hk4))
    by_cases hxy : x = y
    ·rw [decide_eq_true hxy]
     have HT2 : Hid (la.take (k + 1) = lb.take (k + 1)) := take_succ_eq (uh HT) (uh HX) (by rw [hxy]; exact uh HY)
     clear hxy
     go_wp2_with fail
     go_roundw
     case rel => exact ⟨k + 1, by omega, by go_num, HT2, uh K4⟩
     case measure => simp [intOf]; omega
    ·rw [decide_eq_false hxy]
     have HN := hide hxy
     clear hxy
     go_wp2_with fail
     go_ret
     exact ⟨ret_bool (by symm; rw [decide_eq_false_iff_not]; exact get_ne (uh HX) (uh HY) (uh HN)), uh K4⟩
   ·have HF := hide (take_end (uh HL) (by omega) (uh HT))
    clear hkp
    go_wp2
    go_ret
    exact ⟨ret_bool (by symm; rw [decide_eq_true_iff]; exact uh HF), uh HK⟩
 ·have hne : ((la.length : Int) != (lb.length : Int)) = true := by rw [bne_iff_ne]; omega
  have HL := hide hlen
  clear hlen
  go_enter Tryz.func30, Tryz.ntmps30
  go_wp2
  go_ret
  exact ⟨ret_bool (by symm; rw [decide_eq_false_iff_not]; intro e; exact uh HL (by rw [e])), Keeps.refl _ _⟩
end Go.Proofs.YtbokbdcjpbnodaaGreatDoor
