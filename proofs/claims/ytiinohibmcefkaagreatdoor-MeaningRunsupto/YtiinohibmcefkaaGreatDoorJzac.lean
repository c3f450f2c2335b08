import Derived.Test.YtiinohibmcefkaaGreatDoorJae
import Derived.Test.YtiinohibmcefkaaGreatDoorJzaj
import Derived.Test.YtiinohibmcefkaaGreatDoorJzaa
import Derived.Test.YtiinohibmcefkaaGreatDoorVa
import Derived.Test.YtiinohibmcefkaaGreatDoorJad
import Derived.Deep.AppendLies
import Derived.Handy
import Derived.Test.YtiinohibmcefkaaGreatDoorJab
import Derived.Test.YtiinohibmcefkaaGreatDoorJaf
namespace Go.Proofs.YtiinohibmcefkaaGreatDoor
open Go.RowKit Go.Maps
set_option maxRecDepth 100000
set_option maxHeartbeats 2000000
theorem valsAt_nil {w w' : World} {v : Value} (h : ValsAt w v []) : ValsAt w' v [] := by
 obtain ⟨ao, c, rfl⟩ := RowAt.form h
 have hr := RowAt.room h
 exact ⟨⟨_, _, rfl⟩, fun h0 => by simp at h0, hr⟩
theorem set2c {w : World} {b : Nat} {c0 c1 : Value} {t : TypeId} (h : w.heap[b]? = some (.cells #[c0, c1] t (0, 0))) (x y : Value) :
  ((w.setCell ⟨b, 0, none⟩ x).setCell ⟨b, 1, none⟩ y).cell? ⟨b, 0, none⟩ = some x ∧ ((w.setCell ⟨b, 0, none⟩ x).setCell ⟨b, 1, none⟩ y).cell? ⟨b, 1, none⟩ = some y := by
 have hb := heap_setCell_at (o := 1) (heap_setCell_at (o := 0) h x) y
 refine ⟨?_, ?_⟩ <;> (rw [cB hb]; rfl)
theorem own_off {w : World} {B e size n : Nat} {v : Value} {xs : List Value} (h : w.ownsRow B e size v n xs) {R : Nat} {cs : Array Value} {t : TypeId} {fr : Nat × Nat} (hR : w.heap[R]? = some (.cells cs t fr)) (ht : t ≠ e) : ∀ k, v.ownBlock = some k → ¬ k = R := by
 intro k hk q
 subst q
 rcases h.2 with ⟨rfl, _⟩ | ⟨g, cap, cur, rfl, _, hb, _⟩
 ·cases hk
 ·simp only [Value.ownBlock, Option.some.injEq] at hk
  subst hk
  rw [hb] at hR
  simp only [Option.some.injEq, Obj.cells.injEq] at hR
  exact ht hR.2.1.symm
theorem cl1 {w : World} {b : Nat} {c0 : Value} {t : TypeId} {fr : Nat × Nat} (h : w.heap[b]? = some (.cells #[c0] t fr)) : w.cell? ⟨b, 0, none⟩ = some c0 :=
 (cB h _).trans rfl
theorem cl2 {w : World} {b : Nat} {c0 c1 : Value} {t : TypeId} {fr : Nat × Nat} (h : w.heap[b]? = some (.cells #[c0, c1] t fr)) : w.cell? ⟨b, 0, none⟩ = some c0 ∧ w.cell? ⟨b, 1, none⟩ = some c1 :=
 ⟨(cB h _).trans rfl, (cB h _).trans rfl⟩
theorem cl3 {w : World} {b : Nat} {c0 c1 c2 : Value} {t : TypeId} {fr : Nat × Nat} (h : w.heap[b]? = some (.cells #[c0, c1, c2] t fr)) : w.cell? ⟨b, 0, none⟩ = some c0 ∧ w.cell? ⟨b, 1, none⟩ = some c1 ∧ w.cell? ⟨b, 2, none⟩ = some c2 :=
 ⟨(cB h _).trans rfl, (cB h _).trans rfl, (cB h _).trans rfl⟩
theorem cl4 {w : World} {b : Nat} {c0 c1 c2 c3 : Value} {t : TypeId} {fr : Nat × Nat} (h : w.heap[b]? = some (.cells #[c0, c1, c2, c3] t fr)) : w.cell? ⟨b, 0, none⟩ = some c0 ∧ w.cell? ⟨b, 1, none⟩ = some c1 ∧ w.cell? ⟨b, 2, none⟩ = some c2 ∧ w.cell? ⟨b, 3, none⟩ = some c3 :=
 ⟨(cB h _).trans rfl, (cB h _).trans rfl, (cB h _).trans rfl, (cB h _).trans rfl⟩
theorem blk_keep {W w1 : World} {b : Nat} {o : Obj} (h : W.heap[b]? = some o) (hk : Keeps (fun _ => False) W w1) : w1.heap[b]? = some o := (hk.block _ (lt_of_block h) id).trans h
theorem boxA4 (w : World) (a b c d : Array Value) (ta tb tc td : TypeId) : ∃ W, (((w.alloc (.cells a ta)).alloc (.cells b tb)).alloc (.cells c tc)).alloc (.cells d td) = W ∧ Keeps (fun _ => False) w W ∧ W.heap[w.heap.size]? = some (.cells a ta (0, 0)) ∧ W.heap[w.heap.size + 1]? = some (.cells b tb (0, 0)) ∧ W.heap[w.heap.size + 1 + 1]? = some (.cells c tc (0, 0)) ∧ W.heap[w.heap.size + 1 + 1 + 1]? = some (.cells d td (0, 0)) := by
 have k1 := kAlloc w (.cells a ta)
 have k2 := kAlloc (w.alloc (.cells a ta)) (.cells b tb)
 have k3 := kAlloc ((w.alloc (.cells a ta)).alloc (.cells b tb)) (.cells c tc)
 have k4 := kAlloc (((w.alloc (.cells a ta)).alloc (.cells b tb)).alloc (.cells c tc)) (.cells d td)
 have h1 := heap_alloc_new w (.cells a ta)
 have h2 := heap_alloc_new (w.alloc (.cells a ta)) (.cells b tb)
 have h3 := heap_alloc_new ((w.alloc (.cells a ta)).alloc (.cells b tb)) (.cells c tc)
 have h4 := heap_alloc_new (((w.alloc (.cells a ta)).alloc (.cells b tb)).alloc (.cells c tc)) (.cells d td)
 rw [show (w.alloc (.cells a ta)).heap.size = w.heap.size + 1 by simp] at h2
 rw [show ((w.alloc (.cells a ta)).alloc (.cells b tb)).heap.size = w.heap.size + 1 + 1 by simp] at h3
 rw [show (((w.alloc (.cells a ta)).alloc (.cells b tb)).alloc (.cells c tc)).heap.size = w.heap.size + 1 + 1 + 1 by simp] at h4
 exact ⟨_, rfl, ((k1.trans k2).trans k3).trans k4, blk_keep (blk_keep (blk_keep h1 k2) k3) k4, blk_keep (blk_keep h2 k3) k4, blk_keep h3 k4, h4⟩
theorem boxA3 (w : World) (a b c : Array Value) (ta tb tc : TypeId) : ∃ W, ((w.alloc (.cells a ta)).alloc (.cells b tb)).alloc (.cells c tc) = W ∧ Keeps (fun _ => False) w W ∧ W.heap[w.heap.size]? = some (.cells a ta (0, 0)) ∧ W.heap[w.heap.size + 1]? = some (.cells b tb (0, 0)) ∧ W.heap[w.heap.size + 1 + 1]? = some (.cells c tc (0, 0)) := by
 have k1 := kAlloc w (.cells a ta)
 have k2 := kAlloc (w.alloc (.cells a ta)) (.cells b tb)
 have k3 := kAlloc ((w.alloc (.cells a ta)).alloc (.cells b tb)) (.cells c tc)
 have h1 := heap_alloc_new w (.cells a ta)
 have h2 := heap_alloc_new (w.alloc (.cells a ta)) (.cells b tb)
 have h3 := heap_alloc_new ((w.alloc (.cells a ta)).alloc (.cells b tb)) (.cells c tc)
 rw [show (w.alloc (.cells a ta)).heap.size = w.heap.size + 1 by simp] at h2
 rw [show ((w.alloc (.cells a ta)).alloc (.cells b tb)).heap.size = w.heap.size + 1 + 1 by simp] at h3
 exact ⟨_, rfl, (k1.trans k2).trans k3, blk_keep (blk_keep h1 k2) k3, blk_keep h2 k3, h3⟩
theorem boxA2 (w : World) (a b : Array Value) (ta tb : TypeId) : ∃ W, (w.alloc (.cells a ta)).alloc (.cells b tb) = W ∧ Keeps (fun _ => False) w W ∧ W.heap[w.heap.size]? = some (.cells a ta (0, 0)) ∧ W.heap[w.heap.size + 1]? = some (.cells b tb (0, 0)) := by
 have k1 := kAlloc w (.cells a ta)
 have k2 := kAlloc (w.alloc (.cells a ta)) (.cells b tb)
 have h1 := heap_alloc_new w (.cells a ta)
 have h2 := heap_alloc_new (w.alloc (.cells a ta)) (.cells b tb)
 rw [show (w.alloc (.cells a ta)).heap.size = w.heap.size + 1 by simp] at h2
 exact ⟨_, rfl, k1.trans k2, blk_keep h1 k2, h2⟩
theorem zeroOf_any (f : FieldA) (w : World) : Calls Tryz.prog 153 #[f.v] w fun e w' => e = .returned (zeroV f).v ∧ Keeps (fun _ => False) w w' := by
 obtain ⟨nm, t, o⟩ := f
 unfold FieldA.v
 cases o with
 | false =>
  go_enter Tryz.func153, Tryz.ntmps153
  go_wp2
  refine bodyPost_ret (v := (zeroV ⟨nm, t, false⟩).v) (by simp [results, go_sem, zeroV, ValA.v]) rfl ?_
  exact ⟨rfl, ((Keeps.refl _ _).alloc _).alloc _⟩
 | true =>
  go_enter Tryz.func153, Tryz.ntmps153
  go_wp2
  refine bodyPost_ret (v := (zeroV ⟨nm, t, true⟩).v) (by simp [results, go_sem, zeroV, ValA.v]) rfl ?_
  exact ⟨rfl, ((Keeps.refl _ _).alloc _).alloc _⟩
theorem fits_any (f : FieldA) (x : ValA) (w : World) : Calls Tryz.prog 152 #[f.v, x.v] w fun e w' => e = .returned (.bool (fitsB f x)) ∧ Keeps (fun _ => False) w w' := by
 obtain ⟨nm, t, o⟩ := f
 obtain ⟨k1, n1, s1⟩ := x
 unfold ValA.v FieldA.v
 go_enter Tryz.func152, Tryz.ntmps152
 go_wp2
 all_goals (go_ret; refine ⟨ret_bool ?_, ((Keeps.refl _ _).alloc _).alloc _⟩; apply Bool.eq_iff_iff.2; simp_all [fitsB]; try omega)
theorem check_any (l : List FieldA) (v : Value) (r : List ValA) (u : Value) (w : World) (h : FldsAt w v l) (hr : ValsAt w u r) :
  Calls Tryz.prog 88 #[.agg #[v], u] w fun e w' => e = .returned (.int .i64 (errR l r)) ∧ Keeps (fun _ => False) w w' := by
 obtain ⟨ao, cap, rfl⟩ := RowAt.form h
 obtain ⟨bo, cbp, rfl⟩ := RowAt.form hr
 obtain ⟨HB, hb, hbc⟩ := boxed w #[.slice ao l.length cap] 24
 have hp := hbc 0 (.slice ao l.length cap) rfl
 have HF := hide (h.keepF (uh HB))
 have HV := hide (hr.keepF (uh HB))
 have HS := hide (checkSchema_any l _ _ (uh HF))
 clear hbc h hr
 go_enter Tryz.func88, Tryz.ntmps88
 go_wp2_with fail
 refine (uh HS).mono ?_
 rintro e w2 ⟨rfl, hk2⟩
 have hp2 := (hk2.cell (o := 0) hb id).trans hp
 have hb2 := Nat.lt_of_lt_of_le hb hk2.size
 have HF2 := hide ((uh HF).keepF hk2)
 have HV2 := hide ((uh HV).keepF hk2)
 have HB2 := hide ((uh HB).trans hk2)
 clear HS HF HV HB hk2 hp hb
 generalize w.alloc (.cells #[.slice ao l.length cap] 24) = w1 at *
 generalize w.heap.size = sb at *
 rcases errS_eq l with ⟨hs, he⟩ | ⟨hs, he⟩
 ·rw [he]
  have hl8 := (schemaB_len hs).2
  by_cases hlen : r.length = l.length
  ·have hlen' : ((r.length : Int) != (l.length : Int)) = false := by simp [hlen]
   have HR : Hid (errR l r = if fitAll l r then 0 else 61) := by show _ = _; simp [errR, hs, recB, hlen]
   have HL := hide hlen
   have hr8 : r.length ≤ 8 := by omega
   clear hlen hs he
   go_wp2_with fail
   go_loopw [6] (fun i wr => ∃ k : Nat, k ≤ r.length ∧ i = .int .i64 k ∧ Hid (((l.zip r).take k).all (fun p => fitsB p.1 p.2) = true) ∧ Keeps (fun _ => False) w2 wr) (fun i _ => r.length - (intOf i).toNat)
   case atStart => exact ⟨0, Nat.zero_le _, rfl, by simp [Hid], Keeps.refl _ _⟩
   case round =>
    obtain ⟨k, hk, rfl, HA, hkp⟩ := hrel
    have HK := hide hkp
    cases hx : r[k]? with
    | none =>
     have h1 := get_ge hx
     obtain rfl : k = r.length := by omega
     have HT : Hid (fitAll l r = true) := by
      have h := uh HA
      rw [List.take_of_length_le (by simp; omega)] at h
      exact h
     clear hx h1 hkp
     go_wp2_with fail
     go_ret
     exact ⟨ret_int (by rw [uh HR, if_pos (uh HT)]), (uh HB2).trans (uh HK)⟩
    | some x =>
     have h1 := get_lt hx
     obtain ⟨f, hf⟩ : ∃ f, l[k]? = some f := ⟨_, List.getElem?_eq_getElem (by have := uh HL; omega)⟩
     obtain ⟨b, off, c, e, hbl, hc⟩ := (uh HF2).cells (by have := uh HL; omega)
     simp at e
     obtain ⟨rfl, rfl⟩ := e
     obtain ⟨b', off', c', e', hbl', hc'⟩ := (uh HV2).cells (by omega)
     simp at e'
     obtain ⟨rfl, rfl⟩ := e'
     have c0 := (hkp.cell hbl id).trans (hc k f hf).1
     have c1 := (hkp.cell hbl id).trans (hc k f hf).2.1
     have c2 := (hkp.cell hbl id).trans (hc k f hf).2.2
     have d0 := (hkp.cell hbl' id).trans (hc' k x hx).1
     have d1 := (hkp.cell hbl' id).trans (hc' k x hx).2.1
     have d2 := (hkp.cell hbl' id).trans (hc' k x hx).2.2
     have hp' := (hkp.cell (o := 0) hb2 id).trans hp2
     have HZ := hide (zip_get hf hx)
     have i1 : (k : Int) < (r.length : Int) := by omega
     have i2 : (k : Int) < (l.length : Int) := by have := uh HL; omega
     have i0 : (0 : Int) ≤ (k : Int) := by omega
     clear hkp hc hc' hf hx
     have HQ := hide (fits_any f x wr.drew)
     have z0 : sb < wr.drew.heap.size := Nat.lt_of_lt_of_le hb2 (uh HK).size
     have z1 : b < wr.drew.heap.size := Nat.lt_of_lt_of_le hbl (uh HK).size
     have z2 : b' < wr.drew.heap.size := Nat.lt_of_lt_of_le hbl' (uh HK).size
     unfold FieldA.v ValA.v at HQ
     go_wp2_with fail
     go_region_held3 (fun w' => w'.cell? ⟨sb, 0, none⟩ = some (.slice (some ⟨b, off, none⟩) l.length cap) ∧ w'.cell? ⟨b, off + k * 3, none⟩ = some (str f.name) ∧ w'.cell? ⟨b, off + k * 3 + 1, none⟩ = some (.int .i64 f.type) ∧ w'.cell? ⟨b, off + k * 3 + 2, none⟩ = some (.bool f.opt) ∧ w'.cell? ⟨b', off' + k * 3, none⟩ = some (.int .i64 x.kind) ∧ w'.cell? ⟨b', off' + k * 3 + 1, none⟩ = some (.int .i64 x.n) ∧ w'.cell? ⟨b', off' + k * 3 + 2, none⟩ = some (str x.s))
      (go_keep)
      (first
        | (go_at_call 152
           refine (uh HQ).mono ?_
           rintro e w4 ⟨rfl, hk4⟩
           have q0 := (hk4.cell (o := 0) z0 id).trans hp'
           have q1 := (hk4.cell z1 id).trans c0
           have q2 := (hk4.cell z1 id).trans c1
           have q3 := (hk4.cell z1 id).trans c2
           have q4 := (hk4.cell z2 id).trans d0
           have q5 := (hk4.cell z2 id).trans d1
           have q6 := (hk4.cell z2 id).trans d2
           have K4 := hide (((uh HK).drewN 1).trans hk4)
           clear hk4))
     cases hfit : fitsB f x with
     | true =>
      have HT : Hid (((l.zip r).take (k + 1)).all (fun p => fitsB p.1 p.2) = true) := by
       show _ = true
       rw [take_snoc _ _ _ (uh HZ), List.all_append, uh HA]
       simp [hfit]
      go_wp2_with fail
      go_roundw
      case rel => exact ⟨k + 1, by omega, by go_num, HT, uh K4⟩
      case measure => simp [intOf]; omega
     | false =>
      have HT : Hid (fitAll l r = false) := List.all_eq_false.2 ⟨(f, x), List.mem_of_getElem? (uh HZ), by simp [hfit]⟩
      go_wp2_with fail
      go_ret
      exact ⟨ret_int (by rw [uh HR, uh HT]; rfl), (uh HB2).trans (uh K4)⟩
  ·have hlen' : ((r.length : Int) != (l.length : Int)) = true := by rw [bne_iff_ne]; omega
   have HR : Hid (errR l r = 61) := by show _ = _; simp [errR, hs, recB, hlen]
   clear hlen hs he
   go_wp2_with fail
   go_ret
   exact ⟨ret_int (uh HR).symm, uh HB2⟩
 ·rw [he]
  have HR : Hid (errR l r = 60) := by show _ = _; simp [errR, hs]
  clear hs he
  go_wp2_with fail
  go_ret
  exact ⟨ret_int (uh HR).symm, uh HB2⟩
theorem copyVals_any (w : World) (v : Value) (l : List ValA) (hR : ValsAt w v l) (hl : l.length ≤ 4398046511104) :
  Calls Tryz.prog 35 #[v] w fun e w' => ∃ v', e = .returned v' ∧ w'.ownsRow w.heap.size 41 3 v' l.length (vcs l) ∧ Keeps (fun _ => False) w w' := by
 obtain ⟨i0, hi, hz0, hz1, hz2⟩ := info_parts Tryz.info41
 obtain ⟨ao, cap, rfl⟩ := RowAt.form hR
 have HR := hide hR
 have HL := hide hl
 have hl' : l.length ≤ 9223372036854775807 := by omega
 clear hR hl
 go_enter Tryz.func35, Tryz.ntmps35
 go_wp2
 go_loopw [3, 4] (fun o i wr => ∃ k : Nat, k ≤ l.length ∧ i = .int .i64 k ∧ wr.ownsRow w.heap.size 41 3 o k (vcs (l.take k)) ∧ Keeps (fun _ => False) w wr) (fun _ i _ => l.length - (intOf i).toNat)
 case atStart => exact ⟨0, Nat.zero_le _, rfl, by simpa [vcs] using World.ownsRow_nil w w.heap.size 41 3, Keeps.refl _ _⟩
 case round =>
  obtain ⟨k, hk, rfl, hown, hkeep⟩ := hrel
  have HO := hide hown
  have HK := hide hkeep
  clear hown hkeep
  by_cases hlt : k < l.length
  ·obtain ⟨b, off, c, e1, hblt, hc⟩ := (uh HR).cells (by omega)
   simp at e1
   obtain ⟨rfl, rfl⟩ := e1
   obtain ⟨x, hx⟩ : ∃ x, l[k]? = some x := ⟨_, List.getElem?_eq_getElem hlt⟩
   have p0 := ((uh HK).cell hblt id).trans (hc k x hx).1
   have p1 := ((uh HK).cell hblt id).trans (hc k x hx).2.1
   have p2 := ((uh HK).cell hblt id).trans (hc k x hx).2.2
   have HX := hide hx
   have i1 : (k : Int) < (l.length : Int) := by omega
   have i0' : (0 : Int) ≤ (k : Int) := by omega
   clear hc hx
   go_wp2_with (at_builtin; refine wpList_append_lies _ rfl _ _ _ rfl w.heap.size 41 i0 _ 3 32 Tryz.underlying29 hi hz0 hz1 hz2 rfl (by omega) u3 k (vcs (l.take k)) rfl ((uh HO).alloc _) ⟨wr.heap.size, 0, none⟩ 1 1 x.cs rfl rfl (World.news_of_block (cs := #[.int .i64 x.kind, .int .i64 x.n, str x.s]) (t := 41) (fr := (0, 0)) (heap_alloc_new wr _)) (by simp [Value.oneCell', ValA.cs]) (by omega) (by unfold maxLen; omega) (by have := uh HL; omega) (by have := (uh HK).size; simp; omega) (wr.heap.size + 1) (by simp) ?_; intro g cap w1 hown1 hgrow hat hlt1)
   go_roundw
   case rel =>
    refine ⟨k + 1, by omega, by go_num, ?_, ((uh HK).alloc _).grown hgrow (fun q e hq => by have := ((uh HO).lt q e).1; omega)⟩
    rw [take_snoc _ _ _ (uh HX)]
    simpa [vcs] using hown1
   case measure => simp [intOf]; omega
  ·go_wp2
   go_ret
   obtain rfl : k = l.length := by omega
   refine ⟨_, rfl, ?_, uh HK⟩
   have := uh HO
   rwa [List.take_length] at this
theorem vals_off {w w' : World} {v : Value} {l : List ValA} {b : Nat} {cs : Array Value} {t : TypeId} {fr : Nat × Nat} (h : ValsAt w v l) (hb : w.heap[b]? = some (.cells cs t fr)) (hcs : ∀ (i : Nat) (a n : Int) (s : Txt), cs[i]? = some (.int .i64 a) → cs[i + 1]? = some (.int .i64 n) → cs[i + 2]? = some (str s) → False) (hk : Keeps (fun q => q = b) w w') : ValsAt w' v l := by
 cases l with
 | nil => exact valsAt_nil h
 | cons x r =>
  obtain ⟨g, off, cap, e, hg, hc⟩ := h.cells (by simp)
  have c := hc 0 x rfl
  refine RowAt.kept h hk (fun q eq hq => ?_)
  rw [e] at eq
  simp only [Value.ownBlock, Option.some.injEq] at eq
  subst eq
  subst hq
  simp only [Nat.zero_mul, Nat.add_zero] at c
  exact hcs off x.kind x.n x.s ((cB hb off).symm.trans c.1) ((cB hb (off + 1)).symm.trans c.2.1) ((cB hb (off + 2)).symm.trans c.2.2)
theorem off2 {b : Bool} {y : Value} (hy : ∀ n, y ≠ .int .i64 n) (i : Nat) (a n : Int) (s : Txt) (h1 : (#[.bool b, y] : Array Value)[i]? = some (.int .i64 a)) (h2 : (#[.bool b, y] : Array Value)[i + 1]? = some (.int .i64 n)) (h3 : (#[.bool b, y] : Array Value)[i + 2]? = some (str s)) : False := by
 rcases i with _ | _ | i
 ·simp at h1
 ·simp at h1; exact hy _ h1
 ·simp at h1
theorem zero_any (l : List FieldA) (v : Value) (w : World) (h : FldsAt w v l) :
  Calls Tryz.prog 159 #[.agg #[v]] w fun e w' => ∃ v', e = .returned v' ∧ w'.ownsRow w.heap.size 41 3 v' (zeroB l).length (vcs (zeroB l)) ∧ Keeps (fun _ => False) w w' := by
 obtain ⟨i0, hi, hz0, hz1, hz2⟩ := info_parts Tryz.info41
 obtain ⟨ao, cap, rfl⟩ := RowAt.form h
 obtain ⟨HB, hb, hbc⟩ := boxed w #[.slice ao l.length cap] 24
 have hp := hbc 0 (.slice ao l.length cap) rfl
 have HF := hide (h.keepF (uh HB))
 have HS := hide (checkSchema_any l _ _ (uh HF))
 clear hbc h
 go_enter Tryz.func159, Tryz.ntmps159
 go_wp2_with fail
 refine (uh HS).mono ?_
 rintro e w2 ⟨rfl, hk2⟩
 have hp2 := (hk2.cell (o := 0) hb id).trans hp
 have hb2 := Nat.lt_of_lt_of_le hb hk2.size
 have HF2 := hide ((uh HF).keepF hk2)
 have HB2 := hide ((uh HB).trans hk2)
 clear HS HF HB hk2 hp hb
 generalize w.alloc (.cells #[.slice ao l.length cap] 24) = w1 at *
 have hsb : w.heap.size < w2.heap.size := hb2
 rcases errS_eq l with ⟨hs, he⟩ | ⟨hs, he⟩
 ·rw [he]
  have hl8 := (schemaB_len hs).2
  have HZ : Hid (zeroB l = zeros l) := by show _ = _; simp [zeroB, hs]
  clear hs he
  go_wp2_with fail
  go_loopw [3, 5] (fun o i wr => ∃ k : Nat, k ≤ l.length ∧ i = .int .i64 k ∧ wr.ownsRow w2.heap.size 41 3 o k (vcs (zeros (l.take k))) ∧ Keeps (fun _ => False) w2 wr) (fun _ i _ => l.length - (intOf i).toNat)
  case atStart => exact ⟨0, Nat.zero_le _, rfl, by simpa [vcs, zeros] using World.ownsRow_nil w2 w2.heap.size 41 3, Keeps.refl _ _⟩
  case round =>
   obtain ⟨k, hk, rfl, hown, hkp⟩ := hrel
   have HO := hide hown
   have HK := hide hkp
   have p0 := (hkp.cell (o := 0) hb2 id).trans hp2
   by_cases hlt : k < l.length
   ·obtain ⟨b, off, c, e1, hblt, hc⟩ := (uh HF2).cells (by omega)
    simp at e1
    obtain ⟨rfl, rfl⟩ := e1
    obtain ⟨x, hx⟩ : ∃ x, l[k]? = some x := ⟨_, List.getElem?_eq_getElem hlt⟩
    have c0 := (hkp.cell hblt id).trans (hc k x hx).1
    have c1 := (hkp.cell hblt id).trans (hc k x hx).2.1
    have c2 := (hkp.cell hblt id).trans (hc k x hx).2.2
    have HX := hide hx
    have i1 : (k : Int) < (l.length : Int) := by omega
    have HQ := hide (zeroOf_any x wr)
    unfold FieldA.v at HQ
    clear hc hx hown hkp
    go_wp2_with fail
    refine (uh HQ).mono ?_
    rintro e w4 ⟨rfl, hk4⟩
    have HZ1 : Hid (zeros (l.take (k + 1)) = zeros (l.take k) ++ [zeroV x]) := by show _ = _; rw [take_snoc _ _ _ (uh HX), zeros_snoc]
    generalize zeroV x = z at *
    have HO4 : Hid (w4.ownsRow w2.heap.size 41 3 u3 k (vcs (zeros (l.take k)))) := ownsRow_kept (uh HO) hk4 (fun _ _ => id)
    have HK4 := hide ((uh HK).trans hk4)
    have s4 : w2.heap.size ≤ w4.heap.size := (uh HK4).size
    clear hk4 HQ c0 c1 c2 p0
    unfold ValA.v
    go_wp2_with (at_builtin; refine wpList_append_lies _ rfl _ _ _ rfl w2.heap.size 41 i0 _ 3 32 Tryz.underlying29 hi hz0 hz1 hz2 rfl (by omega) u3 k (vcs (zeros (l.take k))) rfl (((uh HO4).alloc _).alloc _) ⟨w4.heap.size + 1, 0, none⟩ 1 1 z.cs rfl rfl (World.news_of_block (cs := #[.int .i64 z.kind, .int .i64 z.n, str z.s]) (t := 41) (fr := (0, 0)) (by have q := heap_alloc_new (w4.alloc (.cells #[.int .i64 z.kind, .int .i64 z.n, str z.s] 41)) (.cells #[.int .i64 z.kind, .int .i64 z.n, str z.s] 41); rw [World.size_alloc] at q; exact q)) (by simp [Value.oneCell', ValA.cs]) (by omega) (by unfold maxLen; omega) (by omega) (by simp; omega) (w4.heap.size + 2) (by simp) ?_; intro g cap w5 hown1 hgrow hat hlt1)
    go_roundw
    case rel =>
     refine ⟨k + 1, by omega, by go_num, ?_, (((uh HK4).alloc _).alloc _).grown hgrow (fun q e hq => by have := ((uh HO4).lt q e).1; omega)⟩
     rw [uh HZ1, vcs_snoc]
     exact hown1
    case measure => simp [intOf]; omega
   ·clear hown hkp
    go_wp2
    go_ret
    obtain rfl : k = l.length := by omega
    refine ⟨_, rfl, ?_, (uh HB2).trans (uh HK)⟩
    have := uh HO
    rw [List.take_length] at this
    rw [uh HZ, zeros_length]
    exact ownsRow_lower this (uh HB2).size
 ·rw [he]
  have HZ : Hid (zeroB l = []) := by show _ = _; simp [zeroB, hs]
  clear hs he
  go_wp2_with fail
  go_ret
  refine ⟨_, rfl, ?_, uh HB2⟩
  rw [uh HZ]
  exact World.ownsRow_nil w2 w.heap.size 41 3
theorem checkRowR_v (S : List FieldA) (sv u : Value) (hh : Bool) (vals : List ValA) (w : World) (hS : FldsAt w sv S) (hr : ValsAt w u vals) :
  Calls Tryz.prog 53 #[.agg #[sv], .agg #[.bool hh, u]] w fun e w' => e = .returned (.int .i64 (if errS S ≠ 0 then errS S else rowE S hh vals)) ∧ Keeps (fun _ => False) w w' := by
 obtain ⟨so, sc, rfl⟩ := RowAt.form hS
 obtain ⟨uo, uc, rfl⟩ := RowAt.form hr
 obtain ⟨W, hW, hkW, g0, g1⟩ := boxA2 w #[.slice so S.length sc] #[.bool hh, .slice uo vals.length uc] 24 31
 have p0 := cl1 g0
 have HQ := hide (checkSchema_any S _ W (hS.keepF hkW))
 have HC := hide (fun (W2 : World) (h : Keeps (fun _ => False) W W2) => check_any S _ vals _ W2 ((hS.keepF hkW).keepF h) ((hr.keepF hkW).keepF h))
 obtain ⟨RES, HRES⟩ : ∃ RES, Hid ((if errS S ≠ 0 then errS S else rowE S hh vals) = RES) := ⟨_, rfl⟩
 rw [uh HRES]
 have HE : Hid (rowE S hh vals = if hh then errR S vals else if vals = [] then 0 else 61) := rfl
 generalize rowE S hh vals = RO at *
 generalize errR S vals = ER at *
 generalize errS S = ES at *
 have HV0 : Hid (vals = [] ↔ vals.length = 0) := List.length_eq_zero_iff.symm
 have HKW := hide hkW
 have G0 := hide g0
 have G1 := hide g1
 clear g0 g1 hkW hS hr
 go_enter Tryz.func53, Tryz.ntmps53
 go_wp2_with fail
 refine (uh HQ).mono ?_
 rintro e w1 ⟨rfl, hk1⟩
 have h0 := blk_keep (uh G0) hk1
 have h1 := blk_keep (uh G1) hk1
 have a0 := cl1 h0
 obtain ⟨c0, c1⟩ := cl2 h1
 have HK1 := hide ((uh HKW).trans hk1)
 have HKX := hide hk1
 clear hk1 h0 h1 HQ
 by_cases hes : ES = 0
 ·subst hes
  rw [if_neg (by simp)] at HRES
  cases hh with
  | false =>
   rw [if_neg (by decide)] at HE
   by_cases hv : vals = []
   ·have hlen : vals.length = 0 := (uh HV0).1 hv
    have i1 : ¬ (0 : Int) < (vals.length : Int) := by omega
    have HZ : Hid (RES = 0) := by show _ = _; rw [← uh HRES, uh HE, if_pos hv]
    clear HE HRES HV0 hv hlen HC
    go_wp2_with fail
    go_ret
    exact ⟨ret_int (uh HZ).symm, uh HK1⟩
   ·have hlen : ¬ vals.length = 0 := fun q => hv ((uh HV0).2 q)
    have i1 : (0 : Int) < (vals.length : Int) := by omega
    have i2 : 0 < vals.length := by omega
    have HZ : Hid (RES = 61) := by show _ = _; rw [← uh HRES, uh HE, if_neg hv]
    clear HE HRES HV0 hv hlen HC
    go_wp2_with fail
    go_ret
    exact ⟨ret_int (uh HZ).symm, uh HK1⟩
  | true =>
   rw [if_pos rfl] at HE
   have HZ : Hid (RES = ER) := by show _ = _; rw [← uh HRES, uh HE]
   have HQ2 := hide ((uh HC) w1 (uh HKX))
   clear HE HRES HV0 HC
   go_wp2_with fail
   refine (uh HQ2).mono ?_
   rintro e w2 ⟨rfl, hk2⟩
   go_wp2_with fail
   go_ret
   exact ⟨ret_int (uh HZ).symm, (uh HK1).trans hk2⟩
 ·rw [if_pos hes] at HRES
  have hes' : (ES == 0) = false := by simpa using hes
  have hes2 : (ES != 0) = true := by simpa using hes
  clear HC HE HV0
  go_wp2_with fail
  go_ret
  exact ⟨ret_int (uh HRES), uh HK1⟩
end Go.Proofs.YtiinohibmcefkaaGreatDoor
namespace Go.Proofs.YtiinohibmcefkaaGreatDoor
open Go.RowKit Go.Maps
theorem res_facts {W w1 : World} {r : Nat} (HX : W.heap[r]? = some (.cells #[.int .i64 0, .int .i64 0, .string ⟨#[]⟩] 41 (0, 0))) (hk : Keeps (fun _ => False) W w1) (x : ValA) :
  w1.frozen? ⟨r, 0, none⟩ = false ∧ w1.frozen? ⟨r, 1, none⟩ = false ∧ w1.frozen? ⟨r, 2, none⟩ = false ∧ w1.cell? ⟨r, 0, none⟩ = some (.int .i64 0) ∧ w1.cell? ⟨r, 1, none⟩ = some (.int .i64 0) ∧ w1.cell? ⟨r, 2, none⟩ = some (.string ⟨#[]⟩) ∧
  (((w1.setCell ⟨r, 0, none⟩ (.int .i64 x.kind)).setCell ⟨r, 1, none⟩ (.int .i64 x.n)).setCell ⟨r, 2, none⟩ (str x.s)).cell? ⟨r, 0, none⟩ = some (.int .i64 x.kind) ∧ (((w1.setCell ⟨r, 0, none⟩ (.int .i64 x.kind)).setCell ⟨r, 1, none⟩ (.int .i64 x.n)).setCell ⟨r, 2, none⟩ (str x.s)).cell? ⟨r, 1, none⟩ = some (.int .i64 x.n) ∧ (((w1.setCell ⟨r, 0, none⟩ (.int .i64 x.kind)).setCell ⟨r, 1, none⟩ (.int .i64 x.n)).setCell ⟨r, 2, none⟩ (str x.s)).cell? ⟨r, 2, none⟩ = some (str x.s) := by
 have hX3 := (hk.block _ (lt_of_block HX) id).trans HX
 obtain ⟨s0, s1, s2⟩ := set3v hX3 (.int .i64 x.kind) (.int .i64 x.n) (str x.s)
 exact ⟨fB hX3 0, fB hX3 1, fB hX3 2, (cB hX3 _).trans rfl, (cB hX3 _).trans rfl, (cB hX3 _).trans rfl, s0, s1, s2⟩
theorem num_v (n : Int) (w : World) : Calls Tryz.prog 89 #[.int .i64 n] w fun e w' => e = .returned (numV n).v ∧ Keeps (fun _ => False) w w' := by
 go_enter Tryz.func89, Tryz.ntmps89
 go_wp2_with fail
 go_returns
 exact ⟨rfl, kAlloc _ _⟩
theorem tru_v (b : Bool) (w : World) : Calls Tryz.prog 90 #[.bool b] w fun e w' => e = .returned (truV b).v ∧ Keeps (fun _ => False) w w' := by
 cases b
 all_goals
  go_enter Tryz.func90, Tryz.ntmps90
  go_wp2_with fail
  go_returns
  exact ⟨rfl, kAlloc _ _⟩
theorem byt_v (s : Txt) (w : World) : Calls Tryz.prog 91 #[str s] w fun e w' => e = .returned (bytV s).v ∧ Keeps (fun _ => False) w w' := by
 go_enter Tryz.func91, Tryz.ntmps91
 go_wp2_with fail
 go_returns
 exact ⟨rfl, kAlloc _ _⟩
theorem two_cells {w : World} {v : Value} {a b : ValA} (h : ValsAt w v [a, b]) : ∃ kb ko cap, v = .slice (some ⟨kb, ko, none⟩) 2 cap ∧ kb < w.heap.size ∧ (w.cell? ⟨kb, ko + 0 * 3, none⟩ = some (.int .i64 a.kind) ∧ w.cell? ⟨kb, ko + 0 * 3 + 1, none⟩ = some (.int .i64 a.n) ∧ w.cell? ⟨kb, ko + 0 * 3 + 2, none⟩ = some (str a.s)) ∧ (w.cell? ⟨kb, ko + 1 * 3, none⟩ = some (.int .i64 b.kind) ∧ w.cell? ⟨kb, ko + 1 * 3 + 1, none⟩ = some (.int .i64 b.n) ∧ w.cell? ⟨kb, ko + 1 * 3 + 2, none⟩ = some (str b.s)) := by
 obtain ⟨kb, ko, cap, e, hb, hc⟩ := h.cells (by simp)
 exact ⟨kb, ko, cap, e, hb, hc 0 a rfl, hc 1 b rfl⟩
end Go.Proofs.YtiinohibmcefkaaGreatDoor
namespace Go.Proofs.YtiinohibmcefkaaGreatDoor
open Go.RowKit Go.Maps
set_option maxRecDepth 100000
set_option maxHeartbeats 2000000
theorem vcs_setk {R Z : List ValA} {t : Int} : (vcs (R ++ zeroVal :: Z)).toArray.setIfInBounds (R.length * 3) (.int .i64 t) = (vcs (R ++ ⟨t, 0, []⟩ :: Z)).toArray := by
 have hv : ∀ y : ValA, vcs (R ++ y :: Z) = vcs R ++ (y.cs ++ vcs Z) := fun y => by simp [vcs]
 have hl := vcs_length R
 rw [hv, hv, ← hl]
 apply Array.ext'
 simp [ValA.cs, zeroVal]
def zeroTo (l : List FieldA) (k : Nat) : List ValA := zeros (l.take k) ++ List.replicate (l.length - k) zeroVal
theorem zeroTo_zero (l : List FieldA) : zeroTo l 0 = List.replicate l.length zeroVal := by simp [zeroTo, zeros]
theorem zeroTo_full (l : List FieldA) : zeroTo l l.length = zeros l := by simp [zeroTo]
theorem zeroTo_at {l : List FieldA} {k : Nat} {f : FieldA} (h : l[k]? = some f) : zeroTo l k = zeros (l.take k) ++ zeroVal :: List.replicate (l.length - (k + 1)) zeroVal ∧ zeroTo l (k + 1) = zeros (l.take k) ++ zeroV f :: List.replicate (l.length - (k + 1)) zeroVal := by
 have hl := get_lt h
 unfold zeroTo
 constructor
 ·rw [show l.length - k = (l.length - (k + 1)) + 1 by omega, List.replicate_succ]
 ·rw [take_snoc _ _ _ h, zeros_snoc, List.append_assoc]
  rfl
theorem zeros_take_len {l : List FieldA} {k : Nat} (h : k ≤ l.length) : (zeros (l.take k)).length = k := by rw [zeros_length, List.length_take, Nat.min_eq_left h]
theorem zero_v (l : List FieldA) (v : Value) (w : World) (h : FldsAt w v l) (hl8 : l.length ≤ 8) :
  Calls Tryz.prog 116 #[.agg #[v]] w fun e w' => ∃ g, e = .returned (.slice (some ⟨g, 0, none⟩) l.length l.length) ∧ w.heap.size ≤ g ∧ w'.heap[g]? = some (.cells (vcs (zeros l)).toArray 41 (0, 0)) ∧ Keeps (fun _ => False) w w' := by
 obtain ⟨ao, cap, rfl⟩ := RowAt.form h
 obtain ⟨HB, hb, hbc⟩ := boxed w #[.slice ao l.length cap] 24
 have hp := hbc 0 (.slice ao l.length cap) rfl
 have HF := hide (h.keepF (uh HB))
 clear hbc h
 have hmk := run_mkv l.length (by omega) (w.alloc (.cells #[.slice ao l.length cap] 24))
 have HG := hide (heap_alloc_new (w.alloc (.cells #[.slice ao l.length cap] 24)) (.cells (vcs (List.replicate l.length zeroVal)).toArray 41))
 have HA : Hid (Keeps (fun q => w.heap.size + 1 ≤ q) (w.alloc (.cells #[.slice ao l.length cap] 24)) ((w.alloc (.cells #[.slice ao l.length cap] 24)).alloc (.cells (vcs (List.replicate l.length zeroVal)).toArray 41))) := (Keeps.refl _ _).alloc _
 have hS3 : (w.alloc (.cells #[.slice ao l.length cap] 24)).heap.size = w.heap.size + 1 := by simp
 have hS4 : w.heap.size + 1 < ((w.alloc (.cells #[.slice ao l.length cap] 24)).alloc (.cells (vcs (List.replicate l.length zeroVal)).toArray 41)).heap.size := by simp
 have hp4 := ((uh HA).cell (o := 0) hb (by omega)).trans hp
 rw [hS3] at hmk HG
 have HS3 := hide hS3
 clear hS3
 go_enter Tryz.func116, Tryz.ntmps116
 go_wp2_with fail
 generalize (w.alloc (.cells #[.slice ao l.length cap] 24)).alloc (.cells (vcs (List.replicate l.length zeroVal)).toArray 41) = w4 at *
 generalize w.alloc (.cells #[.slice ao l.length cap] 24) = w3 at *
 clear hmk
 go_loopw [13] (fun i wr => ∃ (k : Nat), k ≤ l.length ∧ i = .int .i64 k ∧ Hid (wr.heap[w.heap.size + 1]? = some (.cells (vcs (zeroTo l k)).toArray 41 (0, 0))) ∧ Keeps (fun q => w.heap.size + 1 ≤ q) w4 wr) (fun i _ => l.length - (intOf i).toNat)
 case atStart => exact ⟨0, Nat.zero_le _, rfl, by show _ = _; rw [zeroTo_zero]; exact uh HG, Keeps.refl _ _⟩
 case round =>
  obtain ⟨k, hk, rfl, HBk, hkp⟩ := hrel
  have HK := hide ((uh HA).trans hkp)
  have HKP := hide hkp
  have hS5 : w.heap.size + 1 < wr.heap.size := Nat.lt_of_lt_of_le hS4 hkp.size
  clear hkp
  by_cases hlt : k < l.length
  ·obtain ⟨f, hf⟩ : ∃ f, l[k]? = some f := ⟨_, List.getElem?_eq_getElem hlt⟩
   obtain ⟨b5, off5, c5, e5, hbl, hc⟩ := (uh HF).cells (by omega)
   have hbl2 : ¬ w.heap.size + 1 ≤ b5 := by have := uh HS3; omega
   simp at e5
   obtain ⟨rfl, rfl⟩ := e5
   have c0 := ((uh HK).cell hbl hbl2).trans (hc k f hf).1
   have c1 := ((uh HK).cell hbl hbl2).trans (hc k f hf).2.1
   have c2 := ((uh HK).cell hbl hbl2).trans (hc k f hf).2.2
   have HZ := hide (zeroTo_at hf)
   have HKN := hide ((uh HKP).alloc (.cells #[str f.name, .int .i64 f.type, .bool f.opt] 47))
   have HBN : (wr.alloc (.cells #[str f.name, .int .i64 f.type, .bool f.opt] 47)).heap[w.heap.size + 1]? = some (.cells (vcs (zeros (l.take k) ++ zeroVal :: List.replicate (l.length - (k + 1)) zeroVal)).toArray 41 (0, 0)) := by
    rw [← (uh HZ).1]
    exact (Below.heap_alloc _ _ _ hS5).trans (uh HBk)
   have HRL := hide (zeros_take_len hk)
   obtain ⟨d0, d1, d2, g0, g1, g2⟩ := cells3 HBN (uh HRL)
   have HN := hide HBN
   have i5 : (k : Int) < (l.length : Int) := by omega
   have s0 : w.heap.size + 1 < (wr.alloc (.cells #[str f.name, .int .i64 f.type, .bool f.opt] 47)).heap.size := lt_of_block HBN
   clear hc hf HBN
   cases hfo : f.opt with
   | true =>
    rw [hfo] at c2 HKN HN d0 d1 d2 g0 g1 g2 s0
    have HE : Hid (zeroV f = zeroVal) := by show _ = _; unfold zeroV; rw [if_pos hfo]; rfl
    go_wp2_with fail
    go_roundw
    case rel => exact ⟨k + 1, by omega, by go_num, by show _ = _; rw [(uh HZ).2, uh HE]; exact uh HN, uh HKN⟩
    case measure => simp [intOf]; omega
   | false =>
    rw [hfo] at c2 HKN HN d0 d1 d2 g0 g1 g2 s0
    have HE : Hid (zeroV f = ⟨f.type, 0, []⟩) := by show _ = _; unfold zeroV; rw [if_neg (by simp [hfo])]
    go_wp2_with fail
    go_roundw
    case rel =>
     refine ⟨k + 1, by omega, by go_num, ?_, ((uh HKP).then (keeps_set _ _ _ _) (fun i _ e => by omega)).alloc _⟩
     show _ = _
     rw [(uh HZ).2, uh HE, ← vcs_setk, uh HRL, Below.heap_alloc _ _ _ (by simpa using hS5), ← (uh HZ).1]
     exact heap_setCell_at (uh HBk) _
    case measure => simp [intOf]; omega
  ·obtain rfl : k = l.length := by omega
   go_wp2_with fail
   go_ret
   refine ⟨_, rfl, by omega, ?_, (uh HB).narrow (F := fun q => w.heap.size + 1 ≤ q) (uh HK) (fun q hq => by omega)⟩
   have := uh HBk
   rw [zeroTo_full] at this
   exact this
theorem val_zero (l : List FieldA) (v : Value) (w : World) (hT : Types w) (h : FldsAt w v l) :
  Calls Tryz.prog 74 #[.agg #[v]] w fun e w' => ∃ v', e = .returned v' ∧ w'.ownsRow w.heap.size 41 3 v' (zeroB l).length (vcs (zeroB l)) ∧ Keeps (fun _ => False) w w' := by
 obtain ⟨ao, cap, rfl⟩ := RowAt.form h
 obtain ⟨HB, hb, hbc⟩ := boxed w #[.slice ao l.length cap] 24
 have hp := hbc 0 (.slice ao l.length cap) rfl
 have HF := hide (h.keepF (uh HB))
 have HS := hide (checkSchema_v l _ _ (hT.keepF (uh HB)) (uh HF))
 clear hbc h hT
 go_enter Tryz.func74, Tryz.ntmps74
 go_wp2_with fail
 refine (uh HS).mono ?_
 rintro e w2 ⟨rfl, hk2⟩
 have hp2 := (hk2.cell (o := 0) hb id).trans hp
 have HF2 := hide ((uh HF).keepF hk2)
 have HB2 := hide ((uh HB).trans hk2)
 clear HS HF HB hk2 hp
 rcases errS_eq l with ⟨hs, he⟩ | ⟨hs, he⟩
 ·rw [he]
  have HZ : Hid (zeroB l = zeros l) := by show _ = _; simp [zeroB, hs]
  have HQ := hide (zero_v l _ _ (uh HF2) (schemaB_len hs).2)
  have hl8 := (schemaB_len hs).2
  clear hs he
  go_wp2_with fail
  refine (uh HQ).mono ?_
  rintro e w4 ⟨g, rfl, hg, hblk, hk4⟩
  have HG := hide hg
  have HBL := hide hblk
  have HK4 := hide hk4
  clear hg hblk hk4 HQ
  go_wp2_with fail
  go_ret
  refine ⟨_, rfl, ?_, (uh HB2).trans (uh HK4)⟩
  rw [uh HZ]
  exact owns_vals (Nat.le_trans (uh HB2).size (uh HG)) (by omega) (zeros_length l) (uh HBL)
 ·rw [he]
  have HZ : Hid (zeroB l = []) := by show _ = _; simp [zeroB, hs]
  clear hs he
  go_wp2_with fail
  go_ret
  refine ⟨_, rfl, ?_, uh HB2⟩
  rw [uh HZ]
  exact World.ownsRow_nil _ w.heap.size 41 3
end Go.Proofs.YtiinohibmcefkaaGreatDoor
namespace Go.Proofs.YtiinohibmcefkaaGreatDoor
open Go.RowKit Go.Maps
def inZ (A : Nat → Prop) : Zone := ⟨fun _ _ k => A k, fun _ _ => True, fun _ _ h => h⟩
theorem Tryz.info27 : (Tryz.prog.info? 27).map (fun i => (i.zero, i.size, i.bytes)) = some (some (.agg #[.int .i64 0, .int .i64 0, .string ⟨#[]⟩, .slice none 0 0]), 4, 56) := by kernel_rfl
theorem app_one (pre : EL) (op n : Int) (s : Txt) (kids rest : EL) : (pre.app (.cons op n s kids .nil)).app rest = pre.app (.cons op n s kids rest) := by rw [EL.app_assoc]; rfl
end Go.Proofs.YtiinohibmcefkaaGreatDoor
