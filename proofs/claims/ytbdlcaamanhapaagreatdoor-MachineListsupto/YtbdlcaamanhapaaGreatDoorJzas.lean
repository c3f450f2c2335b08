import Derived.Test.YtbdlcaamanhapaaGreatDoorJzar
import Derived.Test.YtbdlcaamanhapaaGreatDoorJzaf
import Derived.Test.YtbdlcaamanhapaaGreatDoorJzaq
import Derived.Test.YtbdlcaamanhapaaGreatDoorJzap
namespace Go.Proofs.YtbdlcaamanhapaaGreatDoor
open Go.RowKit Go.Maps
set_option maxRecDepth 100000
set_option maxHeartbeats 2000000
theorem take_v (w : World) (b off cap : Nat) (c : UInt8) (r : Txt) (hO : Ops w) (hT : Types w) (h : Wv w (.slice (some ⟨b, off, none⟩) (c :: r).length cap) (c :: r)) (ht : (c :: r).length ≤ 4096) :
  Calls Tryz.prog 68 #[.slice (some ⟨b, off, none⟩) (c :: r).length cap] w fun e w' => Wp (fun _ => False) w w' ∧ ∃ x y ok, e = .returned (.tuple #[ValA.v x, y, .bool ok]) ∧ TookC w' x y ok b (takeC (c :: r)) := by
 have hm : num c = (c.toNat : Int) := rfl
 have hcc := num_range c
 by_cases ho : opdB (num c) = -1
 ·have e : takeC (c :: r) = none := by simp only [takeC]; rw [if_pos ho]
  rw [e]
  exact take_bad w b off cap c r c.toNat hm hO hT h ht ho
 ·rcases opd_cases ho with ⟨e1, e2⟩ | ⟨e1, e2⟩ | ⟨e1, e2⟩ | hd
  ·have e : takeC (c :: r) = some (⟨c.toNat, 0, []⟩, r) := by simp only [takeC]; rw [if_neg ho, if_pos e2]; rfl
   rw [e]
   exact take_plain w b off cap c r c.toNat hm hO hT h ht ho e1 e2
  ·have e : takeC (c :: r) = (intP r).bind fun p => if rightB ⟨c.toNat, p.1, []⟩ then some (⟨c.toNat, p.1, []⟩, p.2) else none := by
    simp only [takeC]
    rw [if_neg ho, if_neg (by rw [e2]; decide), if_pos e2]
    have hr : ∀ n, rightB ⟨c.toNat, n, []⟩ = true := fun n => by
     have e3 : opdB (c.toNat : Int) = 1 := e2
     simp [rightB, e3]
    unfold intP
    cases takeG 0 r 0 with
    | none => rfl
    | some p => simp [hr, hm]
   rw [e]
   exact take_int w b off cap c r c.toNat hm hO hT h ht hO ho e1
  ·have e : takeC (c :: r) = (textP r).bind fun p => if rightB ⟨c.toNat, 0, p.1⟩ then some (⟨c.toNat, 0, p.1⟩, p.2) else none := by
    simp only [takeC]
    rw [if_neg ho, if_neg (by rw [e2]; decide), if_neg (by rw [e2]; decide), if_pos e2]
    have hr : ∀ s, rightB ⟨c.toNat, 0, s⟩ = decide (s.length ≤ 20) := fun s => by
     have e3 : opdB (c.toNat : Int) = 2 := e2
     simp [rightB, e3]
    cases r with
    | nil => rfl
    | cons k q =>
     simp only [textP]
     by_cases h1 : q.length < k.toNat
     ·rw [if_pos h1, if_pos (Or.inl h1)]
      rfl
     ·rw [if_neg h1]
      simp only [Option.bind_some, hr]
      have hl : (q.take k.toNat).length = k.toNat := by rw [List.length_take]; omega
      rw [hl]
      by_cases h2 : 20 < k.toNat
      ·rw [if_pos (Or.inr h2), if_neg (by simp; omega)]
      ·rw [if_neg (by omega), if_pos (by simp; omega)]
       rfl
   rw [e]
   exact take_text w b off cap c r c.toNat hm hO hT h ht hO ho e1
  ·have hd2 : ∃ d, (opA (num c)).opd = d ∧ (d == 0) = false ∧ (d == 1) = false ∧ (d == 2) = false ∧ (opdB (num c) = 3 ∨ opdB (num c) = 4) := by
    rcases hd with ⟨e1, e2⟩ | ⟨e1, e2⟩ | ⟨e1, e2⟩ | ⟨e1, e2⟩
    ·exact ⟨_, e1, rfl, rfl, rfl, Or.inl e2⟩
    ·exact ⟨_, e1, rfl, rfl, rfl, Or.inl e2⟩
    ·exact ⟨_, e1, rfl, rfl, rfl, Or.inl e2⟩
    ·exact ⟨_, e1, rfl, rfl, rfl, Or.inr e2⟩
   obtain ⟨d, e1, t0, t1, t2, e2⟩ := hd2
   have e : takeC (c :: r) = (byteP r).bind fun p => if rightB ⟨c.toNat, p.1, []⟩ then some (⟨c.toNat, p.1, []⟩, p.2) else none := by
    simp only [takeC]
    rw [if_neg ho, if_neg (by rcases e2 with e2 | e2 <;> rw [e2] <;> decide), if_neg (by rcases e2 with e2 | e2 <;> rw [e2] <;> decide), if_neg (by rcases e2 with e2 | e2 <;> rw [e2] <;> decide)]
    cases r with
    | nil => rfl
    | cons k q =>
     have hk := num_range k
     simp only [byteP, Option.bind_some]
     rcases e2 with e2 | e2
     ·have e3 : opdB (c.toNat : Int) = 3 := e2
      have hr : rightB ⟨c.toNat, num k, []⟩ = decide (num k < 8) := by simp [rightB, e3]; intro; exact hk.1
      rw [hr]
      by_cases h8 : 8 ≤ k.toNat
      ·rw [if_pos ⟨e2, h8⟩, if_neg (by simp; unfold num; omega)]
      ·rw [if_neg (fun h => h8 h.2), if_pos (by simp; unfold num; omega)]
       rfl
     ·have e3 : opdB (c.toNat : Int) = 4 := e2
      have hr : rightB ⟨c.toNat, num k, []⟩ = true := by simp [rightB, e3]; exact hk
      rw [hr, if_neg (by rw [e2]; simp), if_pos rfl]
      rfl
   rw [e]
   exact take_byte w b off cap c r c.toNat hm hO hT h ht hO ho d e1 t0 t1 t2
theorem takeC_len {b r : Txt} {i : ValA} (h : takeC b = some (i, r)) : r.length < b.length := by
 obtain ⟨_, e, _⟩ := takeC_sound h
 rw [e]
 simp [oneB]
 omega
theorem decF_fuel : ∀ (n m : Nat) (b : Txt), b.length ≤ n → b.length ≤ m → decF n b = decF m b
 | 0, 0, _, _, _ => rfl
 | 0, m + 1, b, h, _ => by
  have : b = [] := List.eq_nil_of_length_eq_zero (by omega)
  subst this
  simp [decF]
 | n + 1, 0, b, _, h => by
  have : b = [] := List.eq_nil_of_length_eq_zero (by omega)
  subst this
  simp [decF]
 | n + 1, m + 1, b, h1, h2 => by
  rw [decF, decF]
  split
  ·rfl
  ·cases ht : takeC b with
   | none => rfl
   | some p =>
    have := takeC_len (i := p.1) (r := p.2) ht
    simp only [Option.bind_some]
    rw [decF_fuel n m p.2 (by omega) (by omega)]
def decD (b : Txt) : Option (List ValA) := decF b.length b
theorem decD_nil : decD [] = some [] := by simp [decD, decF]
theorem decD_cons (c : UInt8) (r : Txt) : decD (c :: r) = (takeC (c :: r)).bind fun p => (decD p.2).map (p.1 :: ·) := by
 unfold decD
 rw [List.length_cons, decF, if_neg (by simp)]
 cases ht : takeC (c :: r) with
 | none => rfl
 | some p =>
  have := takeC_len (i := p.1) (r := p.2) ht
  simp only [List.length_cons] at this
  simp only [Option.bind_some]
  rw [decF_fuel r.length p.2.length p.2 (by omega) (by omega)]
theorem decC_D (b : Txt) (h : b.length ≤ 96) : decC b = match decD b with
  | none => ([], 110)
  | some l => (l, 0) := by
 unfold decC
 rw [if_neg (by omega)]
 rfl
theorem decode_c (t : Txt) (v : Value) (w : World) (hO : Ops w) (hT : Types w) (h : Wv w v t) :
  Calls Tryz.prog 44 #[v] w fun e w' => ∃ r', e = .returned (.tuple #[r', .int .i64 (decC t).2]) ∧ w'.ownsRow w.heap.size 60 3 r' (decC t).1.length (vcs (decC t).1) ∧ Wp (fun _ => False) w w' := by
 obtain ⟨ao, cap, rfl⟩ := Ws.form h
 by_cases h96 : 96 < t.length
 ·have e : decC t = ([], 110) := by unfold decC; rw [if_pos h96]
  rw [e]
  have i1 : (96 : Int) < (t.length : Int) := by omega
  clear h hO hT
  go_enter Tryz.func44, Tryz.ntmps44
  go_wp2_with fail
  go_ret2
  exact ⟨_, rfl, World.ownsRow_nil _ w.heap.size 60 3, Wp.refl _ _⟩
 ·have hl : t.length ≤ 96 := by omega
  have i1 : ¬ (96 : Int) < (t.length : Int) := by omega
  obtain ⟨i0, hi, hz0, hz1, hz2⟩ := info_parts Tryz.info60
  have HO := zB hO
  have HT := zB hT
  have HV := zB h
  have HDC := zB (decC_D t hl)
  have HVB : t ≠ [] → ∀ k, (Value.slice ao t.length cap).ownBlock = some k → k < w.heap.size := fun hne k hk => by
   obtain ⟨b, off, cc, e, hb, _⟩ := Ws.cells h (by cases t <;> simp at hne ⊢)
   rw [e] at hk
   cases hk
   exact hb
  clear hO hT h h96
  go_enter Tryz.func44, Tryz.ntmps44
  go_wp2_with fail
  go_loopw [0, 4] (fun u o wr => ∃ (rest : Txt) (dn : List ValA), Wv wr u rest ∧ (rest ≠ [] → ∀ k, u.ownBlock = some k → k < w.heap.size) ∧ dn.length + rest.length ≤ t.length ∧ wr.ownsRow w.heap.size 60 3 o dn.length (vcs dn) ∧ Hid (decD t = (decD rest).map (dn ++ ·)) ∧ Wp (fun _ => False) w wr) (fun u _ _ => match u with | .slice _ n _ => n | _ => 0)
  case atStart => exact ⟨t, [], zA HV, HVB, by simp, World.ownsRow_nil _ w.heap.size 60 3, by show _ = _; simp, Wp.refl _ _⟩
  case round =>
   obtain ⟨rest, dn, hby, hub, hln, hown, HS, hkp⟩ := hrel
   obtain ⟨oo, oc, rfl⟩ := (zG hown).form
   have HW := zB hown
   have HK := zB hkp
   have hsz := hkp.size
   cases rest with
   | nil =>
    obtain ⟨bo, bc, rfl⟩ := Ws.form hby
    have HE : Hid (decC t = (dn, 0)) := by
     show _ = _
     rw [zA HDC, zA HS, decD_nil]
     simp
    clear hby hown hkp
    go_wp2_with fail
    go_ret2
    rw [zA HE]
    exact ⟨_, rfl, zA HW, zA HK⟩
   | cons c r =>
    obtain ⟨b, off, cc, rfl, hblt, _⟩ := Ws.cells hby (by simp)
    have hbw : b < w.heap.size := hub (by simp) b rfl
    have HQ := zB (take_v wr b off cc c r ((zA HO).keepF hkp) ((zA HT).keepF hkp) hby (by omega))
    have HD := zB (decD_cons c r)
    have i2 : (0 : Int) < ((c :: r).length : Int) := by simp
    have HLC : Hid ((c :: r).length = r.length + 1) := by simp [Hid]
    have HTL : Hid (∀ i q, takeC (c :: r) = some (i, q) → q.length < (c :: r).length) := fun i q h => takeC_len h
    generalize hL : (c :: r).length = L at *
    have hL1 : 1 ≤ L := by have := zA HLC; omega
    clear hby hown hkp hL
    go_wp2_with fail
    refine (zA HQ).mono ?_
    rintro e w2 ⟨hk2, x, y, ok, rfl, hTK⟩
    have HTK := zB hTK
    have HK2 := zB ((zA HK).trans hk2)
    have HW2 := zB (zI (zA HW) hk2 (fun _ _ => id))
    have hs2 : w.heap.size ≤ w2.heap.size := (zA HK2).size
    clear hTK hk2 HQ
    cases hp : takeC (c :: r) with
    | none =>
     have hok : ok = false := by have h := zA HTK; rw [hp] at h; exact h
     subst hok
     have HE : Hid (decC t = ([], 110)) := by
      show _ = _
      rw [zA HDC, zA HS, zA HD, hp]
      rfl
     clear hp
     unfold ValA.v
     go_wp2_with fail
     go_ret2
     rw [zA HE]
     exact ⟨_, rfl, World.ownsRow_nil _ w.heap.size 60 3, (zA HK2).alloc _⟩
    | some p =>
     obtain ⟨i, q⟩ := p
     obtain ⟨hok, hxi, hby, hob⟩ : ok = true ∧ x = i ∧ Wv w2 y q ∧ y.ownBlock = some b := by have h := zA HTK; rw [hp] at h; exact h
     subst hok hxi
     have hql := (zA HTL) x q hp
     have HE : Hid (decD t = (decD q).map ((dn ++ [x]) ++ ·)) := by
      show _ = _
      rw [zA HS, zA HD, hp]
      simp only [Option.bind_some]
      cases decD q <;> simp
     obtain ⟨yo, yc, rfl⟩ := Ws.form hby
     have HBY := zB hby
     have HOB := zB hob
     clear hp hby hob HTK HTL HD
     unfold ValA.v
     obtain ⟨HX, hxb, hxc⟩ := boxed w2 #[.int .i64 x.kind, .int .i64 x.n, str x.s] 60
     have a0 := hxc 0 (.int .i64 x.kind) rfl
     have a1 := hxc 1 (.int .i64 x.n) rfl
     have a2 := hxc 2 (str x.s) rfl
     go_wp2_with (at_builtin; refine wpList_append_lies _ rfl _ _ _ rfl w.heap.size 60 i0 _ 3 32 Tryz.underlying35 hi hz0 hz1 hz2 rfl (by omega) (.slice oo dn.length oc) dn.length (vcs dn) rfl (((zA HW2).alloc _).alloc _) ⟨w2.heap.size + 1, 0, none⟩ 1 1 x.cs rfl rfl (World.news_of_block (cs := #[.int .i64 x.kind, .int .i64 x.n, str x.s]) (t := 60) (fr := (0, 0)) (by have q := heap_alloc_new (w2.alloc (.cells #[.int .i64 x.kind, .int .i64 x.n, str x.s] 60)) (.cells #[.int .i64 x.kind, .int .i64 x.n, str x.s] 60); rw [World.size_alloc] at q; exact q)) (by simp [Value.oneCell', ValA.cs]) (by omega) (by unfold maxLen; omega) (by omega) (by simp; omega) (w2.heap.size + 2) (by simp) ?_; intro g3 cap3 w3 hown3 hgrow3 hat3 hlt3; have HO3 := zB hown3; have HK3 := zB ((((zA HK2).alloc _).alloc _).grown hgrow3 (fun q e hq => by have := ((zA HW2).lt q e).1; omega)); have HB3 := zB (Ws.kept (zA HBY) ((((Wp.refl (fun q => (Value.slice oo dn.length oc).ownBlock = some q) w2).alloc _).alloc _).grown hgrow3 (fun q e _ => e)) (fun k hk e => by have h1 := ((zA HW2).lt k e).1; have h2 := (zA HOB).symm.trans hk; simp at h2; omega)); clear hown3 hgrow3 hat3)
     go_roundw
     case rel =>
      refine ⟨q, dn ++ [x], zA HB3, fun _ k hk => ?_, by simp; omega, ?_, HE, zA HK3⟩
      ·have h2 := (zA HOB).symm.trans hk
       simp at h2
       omega
      ·simpa [vcs] using zA HO3
     case measure => simp; omega
def decE (S : List Wq) (t : Txt) : List ValA × Int := if errS S ≠ 0 then ([], errS S) else decC t
theorem decode31_v (S : List Wq) (sv v : Value) (t : Txt) (w : World) (hE : Env w) (hS : Wt w sv S) (h : Wv w v t) :
  Calls Tryz.prog 31 #[.agg #[sv], v] w fun e w' => ∃ r', e = .returned (.tuple #[r', .int .i64 (decE S t).2]) ∧ Wr w' r' (decE S t).1 ∧ Wp (fun _ => False) w w' := by
 obtain ⟨so, sc, rfl⟩ := Ws.form hS
 obtain ⟨vo, vc, rfl⟩ := Ws.form h
 have HKA := zB (kA w (.cells #[.slice so S.length sc] 24))
 have HQ := zB (checkSchema_v S _ _ (hE.types.keepF (zA HKA)) (hS.keepF (zA HKA)))
 have HD := zB (fun (W : World) (hk : Wp (fun _ => False) w W) => decode_c t (.slice vo t.length vc) W (hE.ops.keepF hk) (hE.types.keepF hk) (h.keepF hk))
 have HE : Hid (decE S t = if errS S ≠ 0 then ([], errS S) else decC t) := rfl
 generalize decE S t = D at *
 generalize errS S = E at *
 clear hE hS h
 go_enter Tryz.func31, Tryz.ntmps31
 go_wp2_with fail
 refine (zA HQ).mono ?_
 rintro e w1 ⟨rfl, hk1⟩
 have HK1 := zB ((zA HKA).trans hk1)
 have HD1 := zB ((zA HD) w1 (zA HK1))
 clear hk1 HQ HKA HD
 by_cases h0 : E = 0
 ·subst h0
  have HE2 : Hid (D = decC t) := by show _ = _; rw [zA HE, if_neg (by decide)]
  rw [← zA HE2] at HD1
  clear HE
  go_wp2_with fail
  refine (zA HD1).mono ?_
  rintro e w2 ⟨r', rfl, ho2, hk2⟩
  obtain ⟨ro, rc, rfl⟩ := Ws.form (zG ho2)
  have HO2 := zB ho2
  have HK2 := zB ((zA HK1).trans hk2)
  clear ho2 hk2 HD1
  go_wp2_with fail
  go_ret2
  exact ⟨_, rfl, zG (zA HO2), zA HK2⟩
 ·have HE2 : Hid (D = ([], E)) := by show _ = _; rw [zA HE, if_pos h0]
  clear HE HD1
  go_wp2_with fail
  go_ret2
  rw [zA HE2]
  exact ⟨_, rfl, ⟨⟨_, _, rfl⟩, fun h0 => by simp at h0, fun ao m cap e => by simp at e; omega⟩, zA HK1⟩
set_option maxHeartbeats 4000000
def Execd (w : World) (X V R : Int) (T : List (Nat × List ValA) × MS) (e : Ending) (w' : World) : Prop :=
 ((X ≠ 0 ∨ V ≠ 0 ∨ R ≠ 0) ∧ e = .returned (.tuple #[.agg #[.bool false, .slice none 0 0], .int .i64 (if X ≠ 0 then X else if V ≠ 0 then V else R)]) ∧ Wp (fun _ => False) w w') ∨
 (X = 0 ∧ V = 0 ∧ R = 0 ∧ ∃ rv, e = .returned (.tuple #[.agg #[.bool T.2.here, rv], .int .i64 0]) ∧ Wr w' rv T.2.vals ∧ Wp (fun _ => False) w w')
theorem set2c {w : World} {b : Nat} {c0 c1 : Value} {t : TypeId} (h : w.heap[b]? = some (.cells #[c0, c1] t (0, 0))) (x y : Value) :
  ((w.setCell ⟨b, 0, none⟩ x).setCell ⟨b, 1, none⟩ y).cell? ⟨b, 0, none⟩ = some x ∧ ((w.setCell ⟨b, 0, none⟩ x).setCell ⟨b, 1, none⟩ y).cell? ⟨b, 1, none⟩ = some y := by
 have hb := zH (o := 1) (zH (o := 0) h x) y
 refine ⟨?_, ?_⟩ <;> (rw [zC hb]; rfl)
theorem keeps_set2 (w : World) (b : Nat) (x y : Value) : Wp (fun q => q = b) w ((w.setCell ⟨b, 0, none⟩ x).setCell ⟨b, 1, none⟩ y) :=
 Wp.setCell (F := fun q => q = b) (p := ⟨b, 1, none⟩) (Wp.setCell (F := fun q => q = b) (p := ⟨b, 0, none⟩) (Wp.refl (fun q => q = b) w) (fun _ => rfl) x) (fun _ => rfl) y
theorem machExec_v (S : List Wq) (sv u v : Value) (t : Txt) (hh : Bool) (vals : List ValA) (w : World) (hE : Env w) (hS : Wt w sv S) (hb : Wv w v t) (hr : Wr w u vals) :
  Calls Tryz.prog 16 #[.agg #[sv], v, .agg #[.bool hh, u]] w fun e w' => Execd w (decE S t).2 (verifyA S (decE S t).1).2.2 (rowE S hh vals) (playM S (decE S t).1 (decE S t).1.length 0 ⟨[], hh, vals⟩) e w' := by
 obtain ⟨so, sc, rfl⟩ := Ws.form hS
 obtain ⟨uo, uc, rfl⟩ := Ws.form hr
 obtain ⟨vo, vc, rfl⟩ := Ws.form hb
 have HKA := zB (((kA w (.cells #[.slice so S.length sc] 24)).alloc (.cells #[.bool hh, .slice uo vals.length uc] 27)).alloc (.cells #[.bool false, .slice none 0 0] 27))
 have hX := heap_alloc_new ((w.alloc (.cells #[.slice so S.length sc] 24)).alloc (.cells #[.bool hh, .slice uo vals.length uc] 27)) (.cells #[.bool false, .slice none 0 0] 27)
 rw [show ((w.alloc (.cells #[.slice so S.length sc] 24)).alloc (.cells #[.bool hh, .slice uo vals.length uc] 27)).heap.size = w.heap.size + 1 + 1 by simp] at hX
 have HX := zB hX
 have hA1 := heap_alloc_new w (.cells #[.slice so S.length sc] 24)
 have hA2 := heap_alloc_new (w.alloc (.cells #[.slice so S.length sc] 24)) (.cells #[.bool hh, .slice uo vals.length uc] 27)
 rw [show (w.alloc (.cells #[.slice so S.length sc] 24)).heap.size = w.heap.size + 1 by simp] at hA2
 have hB1 := (((kA (w.alloc (.cells #[.slice so S.length sc] 24)) (.cells #[.bool hh, .slice uo vals.length uc] 27)).alloc (.cells #[.bool false, .slice none 0 0] 27)).block _ (zE hA1) id).trans hA1
 have hB2 := ((kA ((w.alloc (.cells #[.slice so S.length sc] 24)).alloc (.cells #[.bool hh, .slice uo vals.length uc] 27)) (.cells #[.bool false, .slice none 0 0] 27)).block _ (zE hA2) id).trans hA2
 have HB1 := zB hB1
 have HB2 := zB hB2
 clear hA1 hA2 hB1 hB2
 have HQ := zB (decode31_v S _ _ t _ (hE.keepF (zA HKA)) (hS.keepF (zA HKA)) (hb.keepF (zA HKA)))
 have HI : Hid ((decE S t).2 = 0 → InR (decE S t).1) := fun h => by
  unfold decE at h ⊢
  split at h
  ·rename_i hq; exact absurd h hq
  ·rename_i hq; rw [if_neg hq]; exact (enc_dec h).2
 have HR := zB (fun (W : World) (vv : Value) (L : List ValA) (hk : Wp (fun _ => False) w W) (hv : Wr W vv L) (hi : InR L) => machRun_v S (.slice so S.length sc) (.slice uo vals.length uc) vv L hh vals W (hE.keepF hk) (hS.keepF hk) hv hi (hr.keepF hk))
 generalize decE S t = D at *
 obtain ⟨L, X⟩ := D
 simp only at *
 obtain ⟨T, HTT⟩ : ∃ T, Hid (playM S L L.length 0 ⟨[], hh, vals⟩ = T) := ⟨_, rfl⟩
 obtain ⟨V, HVV⟩ : ∃ V, Hid ((verifyA S L).2.2 = V) := ⟨_, rfl⟩
 obtain ⟨R, HRR⟩ : ∃ R, Hid (rowE S hh vals = R) := ⟨_, rfl⟩
 rw [zA HTT, zA HVV, zA HRR]
 clear hX hE hS hb hr
 go_enter Tryz.func16, Tryz.ntmps16
 go_wp2_with fail
 refine (zA HQ).mono ?_
 rintro e w1 ⟨r', rfl, hv1, hk1⟩
 obtain ⟨ro, rc, rfl⟩ := Ws.form hv1
 have HKB := zB ((zA HKA).trans hk1)
 have hX1 := (hk1.block _ (zE (zA HX)) id).trans (zA HX)
 have p1 := zE (zA HX)
 have HV1 := zB hv1
 have y1 : w1.cell? ⟨w.heap.size, 0, none⟩ = some (.slice so S.length sc) := (zC ((hk1.block _ (zE (zA HB1)) id).trans (zA HB1)) _).trans rfl
 have y2 : w1.cell? ⟨w.heap.size + 1, 0, none⟩ = some (.bool hh) := (zC ((hk1.block _ (zE (zA HB2)) id).trans (zA HB2)) _).trans rfl
 have y3 : w1.cell? ⟨w.heap.size + 1, 1, none⟩ = some (.slice uo vals.length uc) := (zC ((hk1.block _ (zE (zA HB2)) id).trans (zA HB2)) _).trans rfl
 have z0 := zF hX1 0
 have z1 := zF hX1 1
 have x0 : w1.cell? ⟨w.heap.size + 1 + 1, 0, none⟩ = some (.bool false) := (zC hX1 _).trans rfl
 have x1 : w1.cell? ⟨w.heap.size + 1 + 1, 1, none⟩ = some (.slice none 0 0) := (zC hX1 _).trans rfl
 have HX1 := zB hX1
 have hsz : w.heap.size + 1 + 1 < w1.heap.size := zE hX1
 clear hv1 hk1 HQ HKA hX1 p1 HX HB1 HB2
 by_cases h0 : X = 0
 ·subst h0
  have HQ2 := zB ((zA HR) w1 (.slice ro L.length rc) L (zA HKB) (zA HV1) ((zA HI) rfl))
  clear HR HI
  rw [zA HTT, zA HVV, zA HRR] at HQ2
  go_wp2_with fail
  refine (zA HQ2).mono ?_
  rintro e w2 hran
  rcases hran with ⟨hVR, rfl, hk2⟩ | ⟨hV0, hR0, rv, rfl, hv2, hnw, hk2⟩
  ·generalize hEE : (if V ≠ 0 then V else R) = EE at *
   have hX2 := (hk2.block _ hsz id).trans (zA HX1)
   have z5 := zF hX2 0
   have z6 := zF hX2 1
   have x5 := (zC hX2 0).trans rfl
   have x6 := (zC hX2 1).trans rfl
   obtain ⟨s0, s1⟩ := set2c hX2 (.bool false) (.slice none 0 0)
   have hs2 : w.heap.size + 1 + 1 < w2.heap.size := Nat.lt_of_lt_of_le hsz hk2.size
   have s0' := ((kA ((w2.setCell ⟨w.heap.size + 1 + 1, 0, none⟩ (.bool false)).setCell ⟨w.heap.size + 1 + 1, 1, none⟩ (.slice none 0 0)) (.cells #[.bool false, .slice none 0 0, .int .i64 0, .int .i64 0] 38)).cell (o := 0) (by simpa using hs2) id).trans s0
   have s1' := ((kA ((w2.setCell ⟨w.heap.size + 1 + 1, 0, none⟩ (.bool false)).setCell ⟨w.heap.size + 1 + 1, 1, none⟩ (.slice none 0 0)) (.cells #[.bool false, .slice none 0 0, .int .i64 0, .int .i64 0] 38)).cell (o := 1) (by simpa using hs2) id).trans s1
   have HX2 := zB hX2
   have HK2 := zB hk2
   have HKF := zB ((((zA HKB).trans hk2).fresh (by omega) (keeps_set2 w2 (w.heap.size + 1 + 1) (.bool false) (.slice none 0 0))).alloc (.cells #[.bool false, .slice none 0 0, .int .i64 0, .int .i64 0] 38))
   clear hk2 hX2 HQ2
   go_wp2_with fail
   refine bodyPost_ret (v := .tuple #[.agg #[.bool false, .slice none 0 0], .int .i64 EE]) (by simp [results, go_sem, s0', s1']) rfl ?_
   exact Or.inl ⟨Or.inr hVR, by rw [if_neg (by decide), hEE], zA HKF⟩
  ·obtain ⟨xo, xc, rfl⟩ := (zG hv2).form
   subst hV0
   subst hR0
   have HV2 := zB (zG hv2)
   have HNW := zB hnw
   clear hv2 hnw
   have hX2 := (hk2.block _ hsz id).trans (zA HX1)
   have z5 := zF hX2 0
   have z6 := zF hX2 1
   have x5 := (zC hX2 0).trans rfl
   have x6 := (zC hX2 1).trans rfl
   obtain ⟨s0, s1⟩ := set2c hX2 (.bool T.2.here) (.slice xo T.2.vals.length xc)
   have hs2 : w.heap.size + 1 + 1 < w2.heap.size := Nat.lt_of_lt_of_le hsz hk2.size
   have s0' := ((kA ((w2.setCell ⟨w.heap.size + 1 + 1, 0, none⟩ (.bool T.2.here)).setCell ⟨w.heap.size + 1 + 1, 1, none⟩ (.slice xo T.2.vals.length xc)) (.cells #[.bool T.2.here, .slice xo T.2.vals.length xc, .int .i64 (T.1.length : Int), .int .i64 (deepD T.1 : Int)] 38)).cell (o := 0) (by simpa using hs2) id).trans s0
   have s1' := ((kA ((w2.setCell ⟨w.heap.size + 1 + 1, 0, none⟩ (.bool T.2.here)).setCell ⟨w.heap.size + 1 + 1, 1, none⟩ (.slice xo T.2.vals.length xc)) (.cells #[.bool T.2.here, .slice xo T.2.vals.length xc, .int .i64 (T.1.length : Int), .int .i64 (deepD T.1 : Int)] 38)).cell (o := 1) (by simpa using hs2) id).trans s1
   have HX2 := zB hX2
   have HK2 := zB hk2
   have HKF := zB ((((zA HKB).trans hk2).fresh (by omega) (keeps_set2 w2 (w.heap.size + 1 + 1) (.bool T.2.here) (.slice xo T.2.vals.length xc))).alloc (.cells #[.bool T.2.here, .slice xo T.2.vals.length xc, .int .i64 (T.1.length : Int), .int .i64 (deepD T.1 : Int)] 38))
   clear hk2 hX2 HQ2
   go_wp2_with fail
   refine bodyPost_ret (v := .tuple #[.agg #[.bool T.2.here, .slice xo T.2.vals.length xc], .int .i64 0]) (by simp [results, go_sem, s0', s1']) rfl ?_
   refine Or.inr ⟨rfl, rfl, rfl, .slice xo T.2.vals.length xc, rfl, ?_, zA HKF⟩
   exact ((zA HV2).kept (keeps_set2 w2 (w.heap.size + 1 + 1) (.bool T.2.here) (.slice xo T.2.vals.length xc)) (fun q e h => by have := (zA HNW) q e; omega)).keepF (kA _ _)
 ·obtain ⟨s0, s1⟩ := set2c (zA HX1) (.bool false) (.slice none 0 0)
  have HK := zB ((zA HKB).fresh (by omega) (keeps_set2 w1 (w.heap.size + 1 + 1) (.bool false) (.slice none 0 0)))
  clear HR HI
  go_wp2_with fail
  refine bodyPost_ret (v := .tuple #[.agg #[.bool false, .slice none 0 0], .int .i64 X]) (by simp [results, go_sem, s0, s1]) rfl ?_
  exact Or.inl ⟨Or.inl h0, by rw [if_pos h0], zA HK⟩
end Go.Proofs.YtbdlcaamanhapaaGreatDoor
namespace Go.Proofs.YtbdlcaamanhapaaGreatDoor
open Go.RowKit Go.Maps
def okSteps (hv : List (Bool × List Int)) (N : Nat) : Int → List (Nat × List ValA) → Prop
 | _, [] => True
 | last, z :: r => last < z.1 ∧ z.1 < N ∧ hv[z.1]? = some (true, z.2.map ValA.kind) ∧ z.2.length ≤ 16 ∧ okSteps hv N z.1 r
theorem okSteps.lower {hv : List (Bool × List Int)} {N : Nat} {a b : Int} (h : a ≤ b) : ∀ {D : List (Nat × List ValA)}, okSteps hv N b D → okSteps hv N a D
 | [], _ => trivial
 | z :: r, q => ⟨by have := q.1; omega, q.2⟩
theorem play_ok {S : List Wq} {l : List ValA} {hv : List (Bool × List Int)} (hH : HvOK S l hv) (hSK : ∀ f ∈ S, isK f.type) (hF : ∀ i ∈ l, formB i = 0 ∧ rightF S i = true) (hJ : ∀ k i, l[k]? = some i → (opA i.kind).opd = 6 → k + 1 + i.n.toNat ≤ l.length) :
  ∀ (fu k : Nat) (m : MS) (ts : List Int), hv[k]? = some (true, ts) → TyM S m ts → k ≤ l.length → l.length ≤ k + fu →
   okSteps hv l.length ((k : Int) - 1) (playM S l fu k m).1 ∧ TyM S (playM S l fu k m).2 [] ∧ (k < l.length → ∃ r, (playM S l fu k m).1 = (k, m.st) :: r)
 | 0, k, m, ts, hh, hM, hk, hf => by
  have hkl : k = l.length := by omega
  subst hkl
  have := hH.last ts hh
  subst this
  exact ⟨trivial, hM, fun h => absurd h (Nat.lt_irrefl _)⟩
 | f + 1, k, m, ts, hh, hM, hk, hf => by
  by_cases hlt : k < l.length
  ·obtain ⟨x, ts', hx, hb⟩ := hH.beh k ts hlt hh
   obtain ⟨hff, hrr⟩ := hF x (List.mem_of_getElem? hx)
   obtain ⟨n1, n2, n3⟩ := next_ok (m := m) hH hJ hx hh hb
   have ih := play_ok hH hSK hF hJ f (nextM x k m) (stepM S x m) ts' n3 (step_ty hSK hff hrr hM hb) n2 (by omega)
   rw [playM_step hx]
   refine ⟨⟨by omega, hlt, by rw [hM.ty]; exact hh, ?_, ih.1.lower (by omega)⟩, ih.2.1, fun _ => ⟨_, rfl⟩⟩
   have := (hH.small k _ hh).1
   rw [← hM.ty] at this
   simpa using this
  ·have hkl : k = l.length := by omega
   subst hkl
   have := hH.last ts hh
   subst this
   rw [playM_end (Nat.le_refl _)]
   exact ⟨trivial, hM, fun h => absurd h (Nat.lt_irrefl _)⟩
theorem okSteps.deep {hv : List (Bool × List Int)} {N : Nat} : ∀ {D : List (Nat × List ValA)} {a : Int} {d : Nat}, okSteps hv N a D → d ≤ deepH hv → D.foldl (fun d z => max d z.2.length) d ≤ deepH hv
 | [], _, _, _, h => h
 | z :: r, a, d, q, h => by
  have := deepH_le q.2.2.1
  simp only [List.length_map] at this
  rw [List.foldl_cons]
  exact okSteps.deep (D := r) (a := (z.1 : Int)) (d := max d z.2.length) q.2.2.2.2 (Nat.max_le.2 ⟨h, this⟩)
theorem nil_vals (w : World) : Wr w (.slice none 0 0) [] := ⟨⟨_, _, rfl⟩, fun h0 => by simp at h0, fun ao m cap e => by simp at e; omega⟩
def rowB (S : List Wq) (hh : Bool) (vals : List ValA) : Bool := if hh then decide (errR S vals = 0) else decide (vals = []) && decide (errS S = 0)
theorem look_parts {S : List Wq} {l : List ValA} {ps : List PlA} {k : Nat} {e : Int} (h : lookA S l = (some ps, k, e)) : errS S = 0 ∧ (checkI S l).2 = 0 ∧ (checkT l).2 = 0 := by
 unfold lookA at h
 by_cases h1 : errS S = 0
 ·rw [if_neg (show ¬ errS S ≠ 0 from fun q => q h1)] at h
  by_cases h2 : (checkI S l).2 = 0
  ·rw [if_neg (show ¬ (checkI S l).2 ≠ 0 from fun q => q h2)] at h
   by_cases h3 : (checkT l).2 = 0
   ·exact ⟨h1, h2, h3⟩
   ·rw [if_pos h3] at h; cases h
  ·rw [if_pos h2] at h; cases h
 ·rw [if_pos h1] at h; cases h
theorem deep_fold (D : List (Nat × List ValA)) : ∀ d : Nat, D.foldl (fun d z => max d z.2.length) d = max d (deepD D) := by
 induction D with
 | nil => intro d; simp [deepD]
 | cons z r ih =>
  intro d
  unfold deepD
  rw [List.foldl_cons, List.foldl_cons, ih, ih]
  omega
theorem ver_schema {S : List Wq} {l : List ValA} (h : (verifyA S l).2.2 = 0) : errS S = 0 := by
 have h' : (lookA S l).2.2 = 0 := h
 rcases look_tells S l with ⟨_, _, q, r⟩ | ⟨pa, qa, _⟩
 ·rw [q] at h'; exact absurd h' r
 ·exact (look_parts qa).1
theorem row_errR {S : List Wq} {h : Bool} {vals : List ValA} (hs : errS S = 0) (hr : rowOK S h vals) : rowB S h vals = true := by
 unfold rowB
 unfold rowOK at hr
 cases h with
 | false => rw [if_neg (by decide)] at hr ⊢; rw [hr, hs]; rfl
 | true =>
  rw [if_pos rfl] at hr ⊢
  have hsb : schemaB S = true := by
   unfold errS at hs
   split at hs
   ·assumption
   ·cases hs
  unfold errR
  rw [if_pos hsb, if_pos]
  ·rfl
  ·unfold recB fitAll
   simp only [Bool.and_eq_true, decide_eq_true_eq]
   refine ⟨hr.1, List.all_eq_true.2 fun p hp => ?_⟩
   obtain ⟨k, hk⟩ := List.mem_iff_getElem?.1 hp
   rw [List.getElem?_zip_eq_some] at hk
   exact hr.2 k p.1 p.2 hk.1 hk.2
theorem run_bounds {S : List Wq} {l : List ValA} {hh : Bool} {vals : List ValA} (hV : (verifyA S l).2.2 = 0) (hR : rowE S hh vals = 0) :
  ∃ ps, lookA S l = (some ps, 0, 0) ∧ ps.length = l.length + 1 ∧ l.length ≤ 96 ∧ okSteps (ps.map pairP) (ps.length - 1) (-1) (playM S l l.length 0 ⟨[], hh, vals⟩).1 ∧ (∀ z r, (playM S l l.length 0 ⟨[], hh, vals⟩).1 = z :: r → z.1 = 0) ∧
   deepD (playM S l l.length 0 ⟨[], hh, vals⟩).1 ≤ (verifyA S l).1 ∧ (verifyA S l).1 ≤ 16 ∧ rowB S (playM S l l.length 0 ⟨[], hh, vals⟩).2.here (playM S l l.length 0 ⟨[], hh, vals⟩).2.vals = true ∧ (playM S l l.length 0 ⟨[], hh, vals⟩).2.st = [] ∧
   rowOK S (playM S l l.length 0 ⟨[], hh, vals⟩).2.here (playM S l l.length 0 ⟨[], hh, vals⟩).2.vals ∧ (∀ k i, l[k]? = some i → (opA i.kind).opd = 6 → k + 1 + i.n.toNat ≤ l.length) := by
 have h' : (lookA S l).2.2 = 0 := hV
 have hs := ver_schema hV
 rcases look_tells S l with ⟨_, _, q, r⟩ | ⟨ps, qa, _, ok, ln, l96, hSK, hF, hT⟩
 ·rw [q] at h'; exact absurd h' r
 have hTy : TyM S ⟨[], hh, vals⟩ [] := ⟨rfl, fun v hv => by simp at hv, rowE_ok hR⟩
 obtain ⟨p1, p2, p3⟩ := play_ok ok hSK hF hT l.length 0 ⟨[], hh, vals⟩ [] (pullA_first ok) hTy (Nat.zero_le _) (by omega)
 refine ⟨ps, qa, ln, l96, ?_, ?_, ?_, ?_, row_errR hs p2.row, ?_, p2.row, hT⟩
 ·rw [ln, Nat.add_sub_cancel]; exact p1
 ·intro z r hz
  by_cases h0 : 0 < l.length
  ·obtain ⟨r', hr'⟩ := p3 h0
   rw [hr'] at hz
   cases hz
   rfl
  ·rw [playM_end (by omega)] at hz; cases hz
 ·have : (verifyA S l).1 = deepA ps := by unfold verifyA; rw [qa]; rfl
  rw [this, ← deepH_map]
  exact p1.deep (Nat.zero_le _)
 ·have : (verifyA S l).1 = deepA ps := by unfold verifyA; rw [qa]; rfl
  rw [this]
  refine deepA_le fun p hp => ?_
  obtain ⟨k, hk⟩ := List.mem_iff_getElem?.1 hp
  have := (ok.small k (pairP p) (by rw [List.getElem?_map, hk]; rfl)).1
  exact this
 ·have := p2.ty
  simpa using this
end Go.Proofs.YtbdlcaamanhapaaGreatDoor
namespace Go.Proofs.YtbdlcaamanhapaaGreatDoor
open Go.RowKit Go.Maps
set_option maxRecDepth 100000
set_option maxHeartbeats 2000000
theorem zeroOf_any (f : Wq) (w : World) : Calls Tryz.prog 127 #[f.v] w fun e w' => e = .returned (zeroV f).v ∧ Wp (fun _ => False) w w' := by
 obtain ⟨nm, t, o⟩ := f
 unfold Wq.v
 cases o with
 | false =>
  go_enter Tryz.func127, Tryz.ntmps127
  go_wp2
  refine bodyPost_ret (v := (zeroV ⟨nm, t, false⟩).v) (by simp [results, go_sem, zeroV, ValA.v]) rfl ?_
  exact ⟨rfl, ((Wp.refl _ _).alloc _).alloc _⟩
 | true =>
  go_enter Tryz.func127, Tryz.ntmps127
  go_wp2
  refine bodyPost_ret (v := (zeroV ⟨nm, t, true⟩).v) (by simp [results, go_sem, zeroV, ValA.v]) rfl ?_
  exact ⟨rfl, ((Wp.refl _ _).alloc _).alloc _⟩
theorem eqValue_any (x y : ValA) (w : World) : Calls Tryz.prog 30 #[x.v, y.v] w fun e w' => e = .returned (.bool (decide (x = y))) ∧ Wp (fun _ => False) w w' := by
 obtain ⟨k1, n1, s1⟩ := x
 obtain ⟨k2, n2, s2⟩ := y
 unfold ValA.v
 go_enter Tryz.func30, Tryz.ntmps30
 go_wp2
 all_goals (go_ret; refine ⟨ret_bool ?_, ((Wp.refl _ _).alloc _).alloc _⟩; apply Bool.eq_iff_iff.2; simp_all; try omega)
theorem fits_any (f : Wq) (x : ValA) (w : World) : Calls Tryz.prog 90 #[f.v, x.v] w fun e w' => e = .returned (.bool (fitsB f x)) ∧ Wp (fun _ => False) w w' := by
 obtain ⟨nm, t, o⟩ := f
 obtain ⟨k1, n1, s1⟩ := x
 unfold ValA.v Wq.v
 go_enter Tryz.func90, Tryz.ntmps90
 go_wp2
 all_goals (go_ret; refine ⟨ret_bool ?_, ((Wp.refl _ _).alloc _).alloc _⟩; apply Bool.eq_iff_iff.2; simp_all [fitsB]; try omega)
theorem check_any (l : List Wq) (v : Value) (r : List ValA) (u : Value) (w : World) (h : Wt w v l) (hr : Wr w u r) :
  Calls Tryz.prog 58 #[.agg #[v], u] w fun e w' => e = .returned (.int .i64 (errR l r)) ∧ Wp (fun _ => False) w w' := by
 obtain ⟨ao, cap, rfl⟩ := Ws.form h
 obtain ⟨bo, cbp, rfl⟩ := Ws.form hr
 obtain ⟨HB, hb, hbc⟩ := boxed w #[.slice ao l.length cap] 24
 have hp := hbc 0 (.slice ao l.length cap) rfl
 have HF := zB (h.keepF (zA HB))
 have HV := zB (hr.keepF (zA HB))
 have HS := zB (checkSchema_any l _ _ (zA HF))
 clear hbc h hr
 go_enter Tryz.func58, Tryz.ntmps58
 go_wp2_with fail
 refine (zA HS).mono ?_
 rintro e w2 ⟨rfl, hk2⟩
 have hp2 := (hk2.cell (o := 0) hb id).trans hp
 have hb2 := Nat.lt_of_lt_of_le hb hk2.size
 have HF2 := zB ((zA HF).keepF hk2)
 have HV2 := zB ((zA HV).keepF hk2)
 have HB2 := zB ((zA HB).trans hk2)
 clear HS HF HV HB hk2 hp hb
 generalize w.alloc (.cells #[.slice ao l.length cap] 24) = w1 at *
 generalize w.heap.size = sb at *
 rcases errS_eq l with ⟨hs, he⟩ | ⟨hs, he⟩
 ·rw [he]
  have hl8 := (schemaB_len hs).2
  by_cases hlen : r.length = l.length
  ·have hlen' : ((r.length : Int) != (l.length : Int)) = false := by simp [hlen]
   have HR : Hid (errR l r = if fitAll l r then 0 else 61) := by show _ = _; simp [errR, hs, recB, hlen]
   have HL := zB hlen
   have hr8 : r.length ≤ 8 := by omega
   clear hlen hs he
   go_wp2_with fail
   go_loopw [6] (fun i wr => ∃ k : Nat, k ≤ r.length ∧ i = .int .i64 k ∧ Hid (((l.zip r).take k).all (fun p => fitsB p.1 p.2) = true) ∧ Wp (fun _ => False) w2 wr) (fun i _ => r.length - (intOf i).toNat)
   case atStart => exact ⟨0, Nat.zero_le _, rfl, by simp [Hid], Wp.refl _ _⟩
   case round =>
    obtain ⟨k, hk, rfl, HA, hkp⟩ := hrel
    have HK := zB hkp
    cases hx : r[k]? with
    | none =>
     have h1 := get_ge hx
     obtain rfl : k = r.length := by omega
     have HT : Hid (fitAll l r = true) := by
      have h := zA HA
      rw [List.take_of_length_le (by simp; omega)] at h
      exact h
     clear hx h1 hkp
     go_wp2_with fail
     go_ret
     exact ⟨ret_int (by rw [zA HR, if_pos (zA HT)]), (zA HB2).trans (zA HK)⟩
    | some x =>
     have h1 := get_lt hx
     obtain ⟨f, hf⟩ : ∃ f, l[k]? = some f := ⟨_, List.getElem?_eq_getElem (by have := zA HL; omega)⟩
     obtain ⟨b, off, c, e, hbl, hc⟩ := (zA HF2).cells (by have := zA HL; omega)
     simp at e
     obtain ⟨rfl, rfl⟩ := e
     obtain ⟨b', off', c', e', hbl', hc'⟩ := (zA HV2).cells (by omega)
     simp at e'
     obtain ⟨rfl, rfl⟩ := e'
     have c0 := (hkp.cell hbl id).trans (hc k f hf).1
     have c1 := (hkp.cell hbl id).trans (hc k f hf).2.1
     have c2 := (hkp.cell hbl id).trans (hc k f hf).2.2
     have d0 := (hkp.cell hbl' id).trans (hc' k x hx).1
     have d1 := (hkp.cell hbl' id).trans (hc' k x hx).2.1
     have d2 := (hkp.cell hbl' id).trans (hc' k x hx).2.2
     have hp' := (hkp.cell (o := 0) hb2 id).trans hp2
     have HZ := zB (zip_get hf hx)
     have i1 : (k : Int) < (r.length : Int) := by omega
     have i2 : (k : Int) < (l.length : Int) := by have := zA HL; omega
     have i0 : (0 : Int) ≤ (k : Int) := by omega
     clear hkp hc hc' hf hx
     have HQ := zB (fits_any f x wr.drew)
     have z0 : sb < wr.drew.heap.size := Nat.lt_of_lt_of_le hb2 (zA HK).size
     have z1 : b < wr.drew.heap.size := Nat.lt_of_lt_of_le hbl (zA HK).size
     have z2 : b' < wr.drew.heap.size := Nat.lt_of_lt_of_le hbl' (zA HK).size
     unfold Wq.v ValA.v at HQ
     go_wp2_with fail
     go_region_held3 (fun w' => w'.cell? ⟨sb, 0, none⟩ = some (.slice (some ⟨b, off, none⟩) l.length cap) ∧ w'.cell? ⟨b, off + k * 3, none⟩ = some (str f.name) ∧ w'.cell? ⟨b, off + k * 3 + 1, none⟩ = some (.int .i64 f.type) ∧ w'.cell? ⟨b, off + k * 3 + 2, none⟩ = some (.bool f.opt) ∧ w'.cell? ⟨b', off' + k * 3, none⟩ = some (.int .i64 x.kind) ∧ w'.cell? ⟨b', off' + k * 3 + 1, none⟩ = some (.int .i64 x.n) ∧ w'.cell? ⟨b', off' + k * 3 + 2, none⟩ = some (str x.s))
      (go_keep)
      (first
        | (go_at_call 90
           refine (zA HQ).mono ?_
           rintro e w4 ⟨rfl, hk4⟩
           have q0 := (hk4.cell (o := 0) z0 id).trans hp'
           have q1 := (hk4.cell z1 id).trans c0
           have q2 := (hk4.cell z1 id).trans c1
           have q3 := (hk4.cell z1 id).trans c2
           have q4 := (hk4.cell z2 id).trans d0
           have q5 := (hk4.cell z2 id).trans d1
           have q6 := (hk4.cell z2 id).trans d2
           have K4 := zB (((zA HK).drewN 1).trans hk4)
           clear hk4))
     cases hfit : fitsB f x with
     | true =>
      have HT : Hid (((l.zip r).take (k + 1)).all (fun p => fitsB p.1 p.2) = true) := by
       show _ = true
       rw [take_snoc _ _ _ (zA HZ), List.all_append, zA HA]
       simp [hfit]
      go_wp2_with fail
      go_roundw
      case rel => exact ⟨k + 1, by omega, by go_num, HT, zA K4⟩
      case measure => simp [intOf]; omega
     | false =>
      have HT : Hid (fitAll l r = false) := List.all_eq_false.2 ⟨(f, x), List.mem_of_getElem? (zA HZ), by simp [hfit]⟩
      go_wp2_with fail
      go_ret
      exact ⟨ret_int (by rw [zA HR, zA HT]; rfl), (zA HB2).trans (zA K4)⟩
  ·have hlen' : ((r.length : Int) != (l.length : Int)) = true := by rw [bne_iff_ne]; omega
   have HR : Hid (errR l r = 61) := by show _ = _; simp [errR, hs, recB, hlen]
   clear hlen hs he
   go_wp2_with fail
   go_ret
   exact ⟨ret_int (zA HR).symm, zA HB2⟩
 ·rw [he]
  have HR : Hid (errR l r = 60) := by show _ = _; simp [errR, hs]
  clear hs he
  go_wp2_with fail
  go_ret
  exact ⟨ret_int (zA HR).symm, zA HB2⟩
theorem copyVals_any (w : World) (v : Value) (l : List ValA) (hR : Wr w v l) (hl : l.length ≤ 4398046511104) :
  Calls Tryz.prog 14 #[v] w fun e w' => ∃ v', e = .returned v' ∧ w'.ownsRow w.heap.size 51 3 v' l.length (vcs l) ∧ Wp (fun _ => False) w w' := by
 obtain ⟨i0, hi, hz0, hz1, hz2⟩ := info_parts Tryz.info51
 obtain ⟨ao, cap, rfl⟩ := Ws.form hR
 have HR := zB hR
 have HL := zB hl
 have hl' : l.length ≤ 9223372036854775807 := by omega
 clear hR hl
 go_enter Tryz.func14, Tryz.ntmps14
 go_wp2
 go_loopw [3, 4] (fun o i wr => ∃ k : Nat, k ≤ l.length ∧ i = .int .i64 k ∧ wr.ownsRow w.heap.size 51 3 o k (vcs (l.take k)) ∧ Wp (fun _ => False) w wr) (fun _ i _ => l.length - (intOf i).toNat)
 case atStart => exact ⟨0, Nat.zero_le _, rfl, by simpa [vcs] using World.ownsRow_nil w w.heap.size 51 3, Wp.refl _ _⟩
 case round =>
  obtain ⟨k, hk, rfl, hown, hkeep⟩ := hrel
  have HO := zB hown
  have HK := zB hkeep
  clear hown hkeep
  by_cases hlt : k < l.length
  ·obtain ⟨b, off, c, e1, hblt, hc⟩ := (zA HR).cells (by omega)
   simp at e1
   obtain ⟨rfl, rfl⟩ := e1
   obtain ⟨x, hx⟩ : ∃ x, l[k]? = some x := ⟨_, List.getElem?_eq_getElem hlt⟩
   have p0 := ((zA HK).cell hblt id).trans (hc k x hx).1
   have p1 := ((zA HK).cell hblt id).trans (hc k x hx).2.1
   have p2 := ((zA HK).cell hblt id).trans (hc k x hx).2.2
   have HX := zB hx
   have i1 : (k : Int) < (l.length : Int) := by omega
   have i0' : (0 : Int) ≤ (k : Int) := by omega
   clear hc hx
   go_wp2_with (at_builtin; refine wpList_append_lies _ rfl _ _ _ rfl w.heap.size 51 i0 _ 3 32 Tryz.underlying25 hi hz0 hz1 hz2 rfl (by omega) u3 k (vcs (l.take k)) rfl ((zA HO).alloc _) ⟨wr.heap.size, 0, none⟩ 1 1 x.cs rfl rfl (World.news_of_block (cs := #[.int .i64 x.kind, .int .i64 x.n, str x.s]) (t := 51) (fr := (0, 0)) (heap_alloc_new wr _)) (by simp [Value.oneCell', ValA.cs]) (by omega) (by unfold maxLen; omega) (by have := zA HL; omega) (by have := (zA HK).size; simp; omega) (wr.heap.size + 1) (by simp) ?_; intro g cap w1 hown1 hgrow hat hlt1)
   go_roundw
   case rel =>
    refine ⟨k + 1, by omega, by go_num, ?_, ((zA HK).alloc _).grown hgrow (fun q e hq => by have := ((zA HO).lt q e).1; omega)⟩
    rw [take_snoc _ _ _ (zA HX)]
    simpa [vcs] using hown1
   case measure => simp [intOf]; omega
  ·go_wp2
   go_ret
   obtain rfl : k = l.length := by omega
   refine ⟨_, rfl, ?_, zA HK⟩
   have := zA HO
   rwa [List.take_length] at this
theorem eqVals_any (w : World) (va vb : Value) (la lb : List ValA) (ha : Wr w va la) (hb : Wr w vb lb) (hla : la.length ≤ maxLen) :
  Calls Tryz.prog 15 #[va, vb] w fun e w' => e = .returned (.bool (decide (la = lb))) ∧ Wp (fun _ => False) w w' := by
 obtain ⟨ao, capa, rfl⟩ := Ws.form ha
 obtain ⟨bo, capb, rfl⟩ := Ws.form hb
 unfold maxLen at hla
 by_cases hlen : la.length = lb.length
 ·have hne : ((la.length : Int) != (lb.length : Int)) = false := by simp [hlen]
  have HA := zB ha
  have HB := zB hb
  have HL := zB hlen
  clear ha hb hlen
  go_enter Tryz.func15, Tryz.ntmps15
  go_wp2
  go_loopw [5] (fun i wr => ∃ k : Nat, k ≤ la.length ∧ i = .int .i64 k ∧ Hid (la.take k = lb.take k) ∧ Wp (fun _ => False) w wr) (fun i _ => la.length - (intOf i).toNat)
  case atStart => exact ⟨0, Nat.zero_le _, rfl, rfl, Wp.refl _ _⟩
  case round =>
   obtain ⟨k, hk, rfl, HT, hkp⟩ := hrel
   have HK := zB hkp
   by_cases hlt : k < la.length
   ·have hltb : k < lb.length := by have := zA HL; omega
    obtain ⟨b, off, c1, e1, hbl, hc⟩ := (zA HA).cells (by omega)
    obtain ⟨b', off', c2, e2, hbl', hc'⟩ := (zA HB).cells (by omega)
    simp at e1 e2
    obtain ⟨rfl, rfl⟩ := e1
    obtain ⟨rfl, rfl⟩ := e2
    obtain ⟨x, hx⟩ : ∃ x, la[k]? = some x := ⟨_, List.getElem?_eq_getElem hlt⟩
    obtain ⟨y, hy⟩ : ∃ y, lb[k]? = some y := ⟨_, List.getElem?_eq_getElem hltb⟩
    have c0 := (hkp.cell hbl id).trans (hc k x hx).1
    have c1 := (hkp.cell hbl id).trans (hc k x hx).2.1
    have c2 := (hkp.cell hbl id).trans (hc k x hx).2.2
    have d0 := (hkp.cell hbl' id).trans (hc' k y hy).1
    have d1 := (hkp.cell hbl' id).trans (hc' k y hy).2.1
    have d2 := (hkp.cell hbl' id).trans (hc' k y hy).2.2
    have i1 : (k : Int) < (la.length : Int) := by omega
    have i2 : (k : Int) < (lb.length : Int) := by omega
    have i0 : (0 : Int) ≤ (k : Int) := by omega
    have HX := zB hx
    have HY := zB hy
    clear hc hc' hx hy hkp
    have HQ := zB (eqValue_any x y wr.drew)
    have z1 : b < wr.drew.heap.size := Nat.lt_of_lt_of_le hbl (zA HK).size
    have z2 : b' < wr.drew.heap.size := Nat.lt_of_lt_of_le hbl' (zA HK).size
    unfold ValA.v at HQ
    go_wp2_with fail
    go_region_held3 (fun w' => w'.cell? ⟨b, off + k * 3, none⟩ = some (.int .i64 x.kind) ∧ w'.cell? ⟨b, off + k * 3 + 1, none⟩ = some (.int .i64 x.n) ∧ w'.cell? ⟨b, off + k * 3 + 2, none⟩ = some (str x.s) ∧ w'.cell? ⟨b', off' + k * 3, none⟩ = some (.int .i64 y.kind) ∧ w'.cell? ⟨b', off' + k * 3 + 1, none⟩ = some (.int .i64 y.n) ∧ w'.cell? ⟨b', off' + k * 3 + 2, none⟩ = some (str y.s))
     (go_keep)
     (first
       | (go_at_call 30
          refine (zA HQ).mono ?_
          rintro e w4 ⟨rfl, hk4⟩
          have q1 := (hk4.cell z1 id).trans c0
          have q2 := (hk4.cell z1 id).trans c1
          have q3 := (hk4.cell z1 id).trans c2
          have q4 := (hk4.cell z2 id).trans d0
          have q5 := (hk4.cell z2 id).trans d1
          have q6 := (hk4.cell z2 id).trans d2
          have K4 := zB (((zA HK).drewN 1).trans hk4)
          clear hk4))
    by_cases hxy : x = y
    ·rw [decide_eq_true hxy]
     have HT2 : Hid (la.take (k + 1) = lb.take (k + 1)) := take_succ_eq (zA HT) (zA HX) (by rw [hxy]; exact zA HY)
     clear hxy
     go_wp2_with fail
     go_roundw
     case rel => exact ⟨k + 1, by omega, by go_num, HT2, zA K4⟩
     case measure => simp [intOf]; omega
    ·rw [decide_eq_false hxy]
     have HN := zB hxy
     clear hxy
     go_wp2_with fail
     go_ret
     exact ⟨ret_bool (by symm; rw [decide_eq_false_iff_not]; exact get_ne (zA HX) (zA HY) (zA HN)), zA K4⟩
   ·have HF := zB (take_end (zA HL) (by omega) (zA HT))
    clear hkp
    go_wp2
    go_ret
    exact ⟨ret_bool (by symm; rw [decide_eq_true_iff]; exact zA HF), zA HK⟩
 ·have hne : ((la.length : Int) != (lb.length : Int)) = true := by rw [bne_iff_ne]; omega
  have HL := zB hlen
  clear hlen
  go_enter Tryz.func15, Tryz.ntmps15
  go_wp2
  go_ret
  exact ⟨ret_bool (by symm; rw [decide_eq_false_iff_not]; intro e; exact zA HL (by rw [e])), Wp.refl _ _⟩
end Go.Proofs.YtbdlcaamanhapaaGreatDoor
