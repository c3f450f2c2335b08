import Derived.Test.YtonodcmbbgpjjaaDoorFea
import Derived.Test.YtonodcmbbgpjjaaDoorFeb
import Derived.Test.YtonodcmbbgpjjaaDoorFec
import Derived.Test.YtonodcmbbgpjjaaDoorJh
import Derived.Test.YtonodcmbbgpjjaaDoorMw
namespace Go.Proofs.YtonodcmbbgpjjaaDoor
open Go.RowKit Go.Maps

theorem take_v (w : World) (b off cap : Nat) (c : UInt8) (r : Txt) (hO : Ops w) (hT : Types w) (h : BytesAt w (.slice (some ⟨b, off, none⟩) (c :: r).length cap) (c :: r)) (ht : (c :: r).length ≤ 4096) :
    Calls Tryd.prog 33 #[.slice (some ⟨b, off, none⟩) (c :: r).length cap] w fun e w' => Keeps (fun _ => False) w w' ∧ ∃ x y ok, e = .returned (.tuple #[ValA.v x, y, .bool ok]) ∧ TookC w' x y ok b (takeC (c :: r)) := by
  have hm : num c = (c.toNat : Int) := rfl
  have hcc := num_range c
  by_cases ho : opdB (num c) = -1
  · have e : takeC (c :: r) = none := by simp only [takeC]; rw [if_pos ho]
    rw [e]
    exact take_bad w b off cap c r c.toNat hm hO hT h ht ho
  · rcases opd_cases ho with ⟨e1, e2⟩ | ⟨e1, e2⟩ | ⟨e1, e2⟩ | hd
    · have e : takeC (c :: r) = some (⟨c.toNat, 0, []⟩, r) := by simp only [takeC]; rw [if_neg ho, if_pos e2]; rfl
      rw [e]
      exact take_plain w b off cap c r c.toNat hm hO hT h ht ho e1 e2
    · have e : takeC (c :: r) = (intP r).bind fun p => if rightB ⟨c.toNat, p.1, []⟩ then some (⟨c.toNat, p.1, []⟩, p.2) else none := by
        simp only [takeC]
        rw [if_neg ho, if_neg (by rw [e2]; decide), if_pos e2]
        have hr : ∀ n, rightB ⟨c.toNat, n, []⟩ = true := fun n => by
          have e3 : opdB (c.toNat : Int) = 1 := e2
          simp [rightB, e3]
        unfold intP
        cases takeG 0 r 0 with
        | none => rfl
        | some p => simp [hr, hm]
      rw [e]
      exact take_int w b off cap c r c.toNat hm hO hT h ht hO ho e1
    · have e : takeC (c :: r) = (textP r).bind fun p => if rightB ⟨c.toNat, 0, p.1⟩ then some (⟨c.toNat, 0, p.1⟩, p.2) else none := by
        simp only [takeC]
        rw [if_neg ho, if_neg (by rw [e2]; decide), if_neg (by rw [e2]; decide), if_pos e2]
        have hr : ∀ s, rightB ⟨c.toNat, 0, s⟩ = decide (s.length ≤ 20) := fun s => by
          have e3 : opdB (c.toNat : Int) = 2 := e2
          simp [rightB, e3]
        cases r with
        | nil => rfl
        | cons k q =>
          simp only [textP]
          by_cases h1 : q.length < k.toNat
          · rw [if_pos h1, if_pos (Or.inl h1)]
            rfl
          · rw [if_neg h1]
            simp only [Option.bind_some, hr]
            have hl : (q.take k.toNat).length = k.toNat := by rw [List.length_take]; omega
            rw [hl]
            by_cases h2 : 20 < k.toNat
            · rw [if_pos (Or.inr h2), if_neg (by simp; omega)]
            · rw [if_neg (by omega), if_pos (by simp; omega)]
              rfl
      rw [e]
      exact take_text w b off cap c r c.toNat hm hO hT h ht hO ho e1
    · have hd2 : ∃ d, (opA (num c)).opd = d ∧ (d == 0) = false ∧ (d == 1) = false ∧ (d == 2) = false ∧ (opdB (num c) = 3 ∨ opdB (num c) = 4) := by
        rcases hd with ⟨e1, e2⟩ | ⟨e1, e2⟩ | ⟨e1, e2⟩ | ⟨e1, e2⟩
        · exact ⟨_, e1, rfl, rfl, rfl, Or.inl e2⟩
        · exact ⟨_, e1, rfl, rfl, rfl, Or.inl e2⟩
        · exact ⟨_, e1, rfl, rfl, rfl, Or.inl e2⟩
        · exact ⟨_, e1, rfl, rfl, rfl, Or.inr e2⟩
      obtain ⟨d, e1, t0, t1, t2, e2⟩ := hd2
      have e : takeC (c :: r) = (byteP r).bind fun p => if rightB ⟨c.toNat, p.1, []⟩ then some (⟨c.toNat, p.1, []⟩, p.2) else none := by
        simp only [takeC]
        rw [if_neg ho, if_neg (by rcases e2 with e2 | e2 <;> rw [e2] <;> decide), if_neg (by rcases e2 with e2 | e2 <;> rw [e2] <;> decide), if_neg (by rcases e2 with e2 | e2 <;> rw [e2] <;> decide)]
        cases r with
        | nil => rfl
        | cons k q =>
          have hk := num_range k
          simp only [byteP, Option.bind_some]
          rcases e2 with e2 | e2
          · have e3 : opdB (c.toNat : Int) = 3 := e2
            have hr : rightB ⟨c.toNat, num k, []⟩ = decide (num k < 8) := by simp [rightB, e3]; intro; exact hk.1
            rw [hr]
            by_cases h8 : 8 ≤ k.toNat
            · rw [if_pos ⟨e2, h8⟩, if_neg (by simp; unfold num; omega)]
            · rw [if_neg (fun h => h8 h.2), if_pos (by simp; unfold num; omega)]
              rfl
          · have e3 : opdB (c.toNat : Int) = 4 := e2
            have hr : rightB ⟨c.toNat, num k, []⟩ = true := by simp [rightB, e3]; exact hk
            rw [hr, if_neg (by rw [e2]; simp), if_pos rfl]
            rfl
      rw [e]
      exact take_byte w b off cap c r c.toNat hm hO hT h ht hO ho d e1 t0 t1 t2

theorem takeC_len {b r : Txt} {i : ValA} (h : takeC b = some (i, r)) : r.length < b.length := by
  obtain ⟨_, e, _⟩ := takeC_sound h
  rw [e]
  simp [oneB]
  omega
theorem decF_fuel : ∀ (n m : Nat) (b : Txt), b.length ≤ n → b.length ≤ m → decF n b = decF m b
  | 0, 0, _, _, _ => rfl
  | 0, m + 1, b, h, _ => by
    have : b = [] := List.eq_nil_of_length_eq_zero (by omega)
    subst this
    simp [decF]
  | n + 1, 0, b, _, h => by
    have : b = [] := List.eq_nil_of_length_eq_zero (by omega)
    subst this
    simp [decF]
  | n + 1, m + 1, b, h1, h2 => by
    rw [decF, decF]
    split
    · rfl
    · cases ht : takeC b with
      | none => rfl
      | some p =>
        have := takeC_len (i := p.1) (r := p.2) ht
        simp only [Option.bind_some]
        rw [decF_fuel n m p.2 (by omega) (by omega)]
/-- Decoding, whatever the fuel. -/
def decD (b : Txt) : Option (List ValA) := decF b.length b
theorem decD_nil : decD [] = some [] := by simp [decD, decF]
theorem decD_cons (c : UInt8) (r : Txt) : decD (c :: r) = (takeC (c :: r)).bind fun p => (decD p.2).map (p.1 :: ·) := by
  unfold decD
  rw [List.length_cons, decF, if_neg (by simp)]
  cases ht : takeC (c :: r) with
  | none => rfl
  | some p =>
    have := takeC_len (i := p.1) (r := p.2) ht
    simp only [List.length_cons] at this
    simp only [Option.bind_some]
    rw [decF_fuel r.length p.2.length p.2 (by omega) (by omega)]
theorem decC_D (b : Txt) (h : b.length ≤ 96) : decC b = match decD b with
    | none => ([], 110)
    | some l => (l, 0) := by
  unfold decC
  rw [if_neg (by omega)]
  rfl
set_option maxRecDepth 100000 in
set_option maxHeartbeats 2000000 in
theorem decode_c (t : Txt) (v : Value) (w : World) (hO : Ops w) (hT : Types w) (h : BytesAt w v t) :
    Calls Tryd.prog 17 #[v] w fun e w' => ∃ r', e = .returned (.tuple #[r', .int .i64 (decC t).2]) ∧ w'.ownsRow w.heap.size 59 3 r' (decC t).1.length (vcs (decC t).1) ∧ Keeps (fun _ => False) w w' := by
  obtain ⟨ao, cap, rfl⟩ := RowAt.form h
  by_cases h96 : 96 < t.length
  · have e : decC t = ([], 110) := by unfold decC; rw [if_pos h96]
    rw [e]
    have i1 : (96 : Int) < (t.length : Int) := by omega
    clear h hO hT
    go_enter Tryd.func17, Tryd.ntmps17
    go_wp2_with fail
    go_ret2
    exact ⟨_, rfl, World.ownsRow_nil _ w.heap.size 59 3, Keeps.refl _ _⟩
  · have hl : t.length ≤ 96 := by omega
    have i1 : ¬ (96 : Int) < (t.length : Int) := by omega
    obtain ⟨i0, hi, hz0, hz1, hz2⟩ := info_parts Tryd.info59
    have HO := hide hO
    have HT := hide hT
    have HV := hide h
    have HDC := hide (decC_D t hl)
    have HVB : t ≠ [] → ∀ k, (Value.slice ao t.length cap).ownBlock = some k → k < w.heap.size := fun hne k hk => by
      obtain ⟨b, off, cc, e, hb, _⟩ := RowAt.cells h (by cases t <;> simp at hne ⊢)
      rw [e] at hk
      cases hk
      exact hb
    clear hO hT h h96
    go_enter Tryd.func17, Tryd.ntmps17
    go_wp2_with fail
    go_loopw [0, 4] (fun u o wr => ∃ (rest : Txt) (dn : List ValA), BytesAt wr u rest ∧ (rest ≠ [] → ∀ k, u.ownBlock = some k → k < w.heap.size) ∧ dn.length + rest.length ≤ t.length ∧ wr.ownsRow w.heap.size 59 3 o dn.length (vcs dn) ∧ Hid (decD t = (decD rest).map (dn ++ ·)) ∧ Keeps (fun _ => False) w wr) (fun u _ _ => match u with | .slice _ n _ => n | _ => 0)
    case atStart => exact ⟨t, [], unhide HV, HVB, by simp, World.ownsRow_nil _ w.heap.size 59 3, by show _ = _; simp, Keeps.refl _ _⟩
    case round =>
      obtain ⟨rest, dn, hby, hub, hln, hown, HS, hkp⟩ := hrel
      obtain ⟨oo, oc, rfl⟩ := (rowAt_own hown).form
      have HW := hide hown
      have HK := hide hkp
      have hsz := hkp.size
      cases rest with
      | nil =>
        obtain ⟨bo, bc, rfl⟩ := RowAt.form hby
        have HE : Hid (decC t = (dn, 0)) := by
          show _ = _
          rw [unhide HDC, unhide HS, decD_nil]
          simp
        clear hby hown hkp
        go_wp2_with fail
        go_ret2
        rw [unhide HE]
        exact ⟨_, rfl, unhide HW, unhide HK⟩
      | cons c r =>
        obtain ⟨b, off, cc, rfl, hblt, _⟩ := RowAt.cells hby (by simp)
        have hbw : b < w.heap.size := hub (by simp) b rfl
        have HQ := hide (take_v wr b off cc c r ((unhide HO).keepF hkp) ((unhide HT).keepF hkp) hby (by omega))
        have HD := hide (decD_cons c r)
        have i2 : (0 : Int) < ((c :: r).length : Int) := by simp
        have HLC : Hid ((c :: r).length = r.length + 1) := by simp [Hid]
        have HTL : Hid (∀ i q, takeC (c :: r) = some (i, q) → q.length < (c :: r).length) := fun i q h => takeC_len h
        generalize hL : (c :: r).length = L at *
        have hL1 : 1 ≤ L := by have := unhide HLC; omega
        clear hby hown hkp hL
        go_wp2_with fail
        refine (unhide HQ).mono ?_
        rintro e w2 ⟨hk2, x, y, ok, rfl, hTK⟩
        have HTK := hide hTK
        have HK2 := hide ((unhide HK).trans hk2)
        have HW2 := hide (ownsRow_kept (unhide HW) hk2 (fun _ _ => id))
        have hs2 : w.heap.size ≤ w2.heap.size := (unhide HK2).size
        clear hTK hk2 HQ
        cases hp : takeC (c :: r) with
        | none =>
          have hok : ok = false := by have h := unhide HTK; rw [hp] at h; exact h
          subst hok
          have HE : Hid (decC t = ([], 110)) := by
            show _ = _
            rw [unhide HDC, unhide HS, unhide HD, hp]
            rfl
          clear hp
          unfold ValA.v
          go_wp2_with fail
          go_ret2
          rw [unhide HE]
          exact ⟨_, rfl, World.ownsRow_nil _ w.heap.size 59 3, (unhide HK2).alloc _⟩
        | some p =>
          obtain ⟨i, q⟩ := p
          obtain ⟨hok, hxi, hby, hob⟩ : ok = true ∧ x = i ∧ BytesAt w2 y q ∧ y.ownBlock = some b := by have h := unhide HTK; rw [hp] at h; exact h
          subst hok hxi
          have hql := (unhide HTL) x q hp
          have HE : Hid (decD t = (decD q).map ((dn ++ [x]) ++ ·)) := by
            show _ = _
            rw [unhide HS, unhide HD, hp]
            simp only [Option.bind_some]
            cases decD q <;> simp
          obtain ⟨yo, yc, rfl⟩ := RowAt.form hby
          have HBY := hide hby
          have HOB := hide hob
          clear hp hby hob HTK HTL HD
          unfold ValA.v
          obtain ⟨HX, hxb, hxc⟩ := boxed w2 #[.int .i64 x.kind, .int .i64 x.n, str x.s] 59
          have a0 := hxc 0 (.int .i64 x.kind) rfl
          have a1 := hxc 1 (.int .i64 x.n) rfl
          have a2 := hxc 2 (str x.s) rfl
          go_wp2_with (at_builtin; refine wpList_append_lies _ rfl _ _ _ rfl w.heap.size 59 i0 _ 3 32 Tryd.underlying25 hi hz0 hz1 hz2 rfl (by omega) (.slice oo dn.length oc) dn.length (vcs dn) rfl (((unhide HW2).alloc _).alloc _) ⟨w2.heap.size + 1, 0, none⟩ 1 1 x.cs rfl rfl (World.news_of_block (cs := #[.int .i64 x.kind, .int .i64 x.n, str x.s]) (t := 59) (fr := (0, 0)) (by have q := heap_alloc_new (w2.alloc (.cells #[.int .i64 x.kind, .int .i64 x.n, str x.s] 59)) (.cells #[.int .i64 x.kind, .int .i64 x.n, str x.s] 59); rw [World.size_alloc] at q; exact q)) (by simp [Value.oneCell', ValA.cs]) (by omega) (by unfold maxLen; omega) (by omega) (by simp; omega) (w2.heap.size + 2) (by simp) ?_; intro g3 cap3 w3 hown3 hgrow3 hat3 hlt3; have HO3 := hide hown3; have HK3 := hide ((((unhide HK2).alloc _).alloc _).grown hgrow3 (fun q e hq => by have := ((unhide HW2).lt q e).1; omega)); have HB3 := hide (RowAt.kept (unhide HBY) ((((Keeps.refl (fun q => (Value.slice oo dn.length oc).ownBlock = some q) w2).alloc _).alloc _).grown hgrow3 (fun q e _ => e)) (fun k hk e => by have h1 := ((unhide HW2).lt k e).1; have h2 := (unhide HOB).symm.trans hk; simp at h2; omega)); clear hown3 hgrow3 hat3)
          go_roundw
          case rel =>
            refine ⟨q, dn ++ [x], unhide HB3, fun _ k hk => ?_, by simp; omega, ?_, HE, unhide HK3⟩
            · have h2 := (unhide HOB).symm.trans hk
              simp at h2
              omega
            · simpa [vcs] using unhide HO3
          case measure => simp; omega

end Go.Proofs.YtonodcmbbgpjjaaDoor
namespace Go.Proofs.YtonodcmbbgpjjaaDoor
open Go.RowKit Go.Maps
/-- The instructions of bytes, or what is wrong; the schema first. -/
def decE (S : List FieldA) (t : Txt) : List ValA × Int := if errS S ≠ 0 then ([], errS S) else decC t
set_option maxRecDepth 100000 in
set_option maxHeartbeats 2000000 in
theorem decode31_v (S : List FieldA) (sv v : Value) (t : Txt) (w : World) (hE : Env w) (hS : FldsAt w sv S) (h : BytesAt w v t) :
    Calls Tryd.prog 31 #[.agg #[sv], v] w fun e w' => ∃ r', e = .returned (.tuple #[r', .int .i64 (decE S t).2]) ∧ ValsAt w' r' (decE S t).1 ∧ Keeps (fun _ => False) w w' := by
  obtain ⟨so, sc, rfl⟩ := RowAt.form hS
  obtain ⟨vo, vc, rfl⟩ := RowAt.form h
  have HKA := hide (kAlloc w (.cells #[.slice so S.length sc] 24))
  have HQ := hide (checkSchema_v S _ _ (hE.types.keepF (unhide HKA)) (hS.keepF (unhide HKA)))
  have HD := hide (fun (W : World) (hk : Keeps (fun _ => False) w W) => decode_c t (.slice vo t.length vc) W (hE.ops.keepF hk) (hE.types.keepF hk) (h.keepF hk))
  have HE : Hid (decE S t = if errS S ≠ 0 then ([], errS S) else decC t) := rfl
  generalize decE S t = D at *
  generalize errS S = E at *
  clear hE hS h
  go_enter Tryd.func31, Tryd.ntmps31
  go_wp2_with fail
  refine (unhide HQ).mono ?_
  rintro e w1 ⟨rfl, hk1⟩
  have HK1 := hide ((unhide HKA).trans hk1)
  have HD1 := hide ((unhide HD) w1 (unhide HK1))
  clear hk1 HQ HKA HD
  by_cases h0 : E = 0
  · subst h0
    have HE2 : Hid (D = decC t) := by show _ = _; rw [unhide HE, if_neg (by decide)]
    rw [← unhide HE2] at HD1
    clear HE
    go_wp2_with fail
    refine (unhide HD1).mono ?_
    rintro e w2 ⟨r', rfl, ho2, hk2⟩
    obtain ⟨ro, rc, rfl⟩ := RowAt.form (rowAt_own ho2)
    have HO2 := hide ho2
    have HK2 := hide ((unhide HK1).trans hk2)
    clear ho2 hk2 HD1
    go_wp2_with fail
    go_ret2
    exact ⟨_, rfl, rowAt_own (unhide HO2), unhide HK2⟩
  · have HE2 : Hid (D = ([], E)) := by show _ = _; rw [unhide HE, if_pos h0]
    clear HE HD1
    go_wp2_with fail
    go_ret2
    rw [unhide HE2]
    exact ⟨_, rfl, ⟨⟨_, _, rfl⟩, fun h0 => by simp at h0, fun ao m cap e => by simp at e; omega⟩, unhide HK1⟩
end Go.Proofs.YtonodcmbbgpjjaaDoor
namespace Go.Proofs.YtonodcmbbgpjjaaDoor
open Go.RowKit Go.Maps
/-- What Exec answers. -/
def Execd (w : World) (X V R : Int) (T : List (Nat × List ValA) × MS) (e : Ending) (w' : World) : Prop :=
  ((X ≠ 0 ∨ V ≠ 0 ∨ R ≠ 0) ∧ e = .returned (.tuple #[.agg #[.bool false, .slice none 0 0], .int .i64 (if X ≠ 0 then X else if V ≠ 0 then V else R)]) ∧ Keeps (fun _ => False) w w') ∨
  (X = 0 ∧ V = 0 ∧ R = 0 ∧ ∃ rv, e = .returned (.tuple #[.agg #[.bool T.2.here, rv], .int .i64 0]) ∧ ValsAt w' rv T.2.vals ∧ Keeps (fun _ => False) w w')
theorem set2c {w : World} {b : Nat} {c0 c1 : Value} {t : TypeId} (h : w.heap[b]? = some (.cells #[c0, c1] t (0, 0))) (x y : Value) :
    ((w.setCell ⟨b, 0, none⟩ x).setCell ⟨b, 1, none⟩ y).cell? ⟨b, 0, none⟩ = some x ∧ ((w.setCell ⟨b, 0, none⟩ x).setCell ⟨b, 1, none⟩ y).cell? ⟨b, 1, none⟩ = some y := by
  have hb := heap_setCell_at (o := 1) (heap_setCell_at (o := 0) h x) y
  refine ⟨?_, ?_⟩ <;> (rw [cell_of_blk hb]; rfl)
theorem keeps_set2 (w : World) (b : Nat) (x y : Value) : Keeps (fun q => q = b) w ((w.setCell ⟨b, 0, none⟩ x).setCell ⟨b, 1, none⟩ y) :=
  Keeps.setCell (F := fun q => q = b) (p := ⟨b, 1, none⟩) (Keeps.setCell (F := fun q => q = b) (p := ⟨b, 0, none⟩) (Keeps.refl (fun q => q = b) w) (fun _ => rfl) x) (fun _ => rfl) y
set_option maxRecDepth 100000 in
set_option maxHeartbeats 4000000 in
theorem machExec_v (S : List FieldA) (sv u v : Value) (t : Txt) (hh : Bool) (vals : List ValA) (w : World) (hE : Env w) (hS : FldsAt w sv S) (hb : BytesAt w v t) (hr : ValsAt w u vals) :
    Calls Tryd.prog 15 #[.agg #[sv], v, .agg #[.bool hh, u]] w fun e w' => Execd w (decE S t).2 (verifyA S (decE S t).1).2.2 (rowE S hh vals) (playM S (decE S t).1 (decE S t).1.length 0 ⟨[], hh, vals⟩) e w' := by
  obtain ⟨so, sc, rfl⟩ := RowAt.form hS
  obtain ⟨uo, uc, rfl⟩ := RowAt.form hr
  obtain ⟨vo, vc, rfl⟩ := RowAt.form hb
  have HKA := hide (((kAlloc w (.cells #[.slice so S.length sc] 24)).alloc (.cells #[.bool hh, .slice uo vals.length uc] 28)).alloc (.cells #[.bool false, .slice none 0 0] 28))
  have hX := heap_alloc_new ((w.alloc (.cells #[.slice so S.length sc] 24)).alloc (.cells #[.bool hh, .slice uo vals.length uc] 28)) (.cells #[.bool false, .slice none 0 0] 28)
  rw [show ((w.alloc (.cells #[.slice so S.length sc] 24)).alloc (.cells #[.bool hh, .slice uo vals.length uc] 28)).heap.size = w.heap.size + 1 + 1 by simp] at hX
  have HX := hide hX
  have hA1 := heap_alloc_new w (.cells #[.slice so S.length sc] 24)
  have hA2 := heap_alloc_new (w.alloc (.cells #[.slice so S.length sc] 24)) (.cells #[.bool hh, .slice uo vals.length uc] 28)
  rw [show (w.alloc (.cells #[.slice so S.length sc] 24)).heap.size = w.heap.size + 1 by simp] at hA2
  have hB1 := (((kAlloc (w.alloc (.cells #[.slice so S.length sc] 24)) (.cells #[.bool hh, .slice uo vals.length uc] 28)).alloc (.cells #[.bool false, .slice none 0 0] 28)).block _ (lt_of_block hA1) id).trans hA1
  have hB2 := ((kAlloc ((w.alloc (.cells #[.slice so S.length sc] 24)).alloc (.cells #[.bool hh, .slice uo vals.length uc] 28)) (.cells #[.bool false, .slice none 0 0] 28)).block _ (lt_of_block hA2) id).trans hA2
  have HB1 := hide hB1
  have HB2 := hide hB2
  clear hA1 hA2 hB1 hB2
  have HQ := hide (decode31_v S _ _ t _ (hE.keepF (unhide HKA)) (hS.keepF (unhide HKA)) (hb.keepF (unhide HKA)))
  have HI : Hid ((decE S t).2 = 0 → InR (decE S t).1) := fun h => by
    unfold decE at h ⊢
    split at h
    · rename_i hq; exact absurd h hq
    · rename_i hq; rw [if_neg hq]; exact (enc_dec h).2
  have HR := hide (fun (W : World) (vv : Value) (L : List ValA) (hk : Keeps (fun _ => False) w W) (hv : ValsAt W vv L) (hi : InR L) => machRun_v S (.slice so S.length sc) (.slice uo vals.length uc) vv L hh vals W (hE.keepF hk) (hS.keepF hk) hv hi (hr.keepF hk))
  generalize decE S t = D at *
  obtain ⟨L, X⟩ := D
  simp only at *
  obtain ⟨T, HTT⟩ : ∃ T, Hid (playM S L L.length 0 ⟨[], hh, vals⟩ = T) := ⟨_, rfl⟩
  obtain ⟨V, HVV⟩ : ∃ V, Hid ((verifyA S L).2.2 = V) := ⟨_, rfl⟩
  obtain ⟨R, HRR⟩ : ∃ R, Hid (rowE S hh vals = R) := ⟨_, rfl⟩
  rw [unhide HTT, unhide HVV, unhide HRR]
  clear hX hE hS hb hr
  go_enter Tryd.func15, Tryd.ntmps15
  go_wp2_with fail
  refine (unhide HQ).mono ?_
  rintro e w1 ⟨r', rfl, hv1, hk1⟩
  obtain ⟨ro, rc, rfl⟩ := RowAt.form hv1
  have HKB := hide ((unhide HKA).trans hk1)
  have hX1 := (hk1.block _ (lt_of_block (unhide HX)) id).trans (unhide HX)
  have p1 := lt_of_block (unhide HX)
  have HV1 := hide hv1
  have y1 : w1.cell? ⟨w.heap.size, 0, none⟩ = some (.slice so S.length sc) := (cell_of_blk ((hk1.block _ (lt_of_block (unhide HB1)) id).trans (unhide HB1)) _).trans rfl
  have y2 : w1.cell? ⟨w.heap.size + 1, 0, none⟩ = some (.bool hh) := (cell_of_blk ((hk1.block _ (lt_of_block (unhide HB2)) id).trans (unhide HB2)) _).trans rfl
  have y3 : w1.cell? ⟨w.heap.size + 1, 1, none⟩ = some (.slice uo vals.length uc) := (cell_of_blk ((hk1.block _ (lt_of_block (unhide HB2)) id).trans (unhide HB2)) _).trans rfl
  have z0 := frozen_of_blk hX1 0
  have z1 := frozen_of_blk hX1 1
  have x0 : w1.cell? ⟨w.heap.size + 1 + 1, 0, none⟩ = some (.bool false) := (cell_of_blk hX1 _).trans rfl
  have x1 : w1.cell? ⟨w.heap.size + 1 + 1, 1, none⟩ = some (.slice none 0 0) := (cell_of_blk hX1 _).trans rfl
  have HX1 := hide hX1
  have hsz : w.heap.size + 1 + 1 < w1.heap.size := lt_of_block hX1
  clear hv1 hk1 HQ HKA hX1 p1 HX HB1 HB2
  by_cases h0 : X = 0
  · subst h0
    have HQ2 := hide ((unhide HR) w1 (.slice ro L.length rc) L (unhide HKB) (unhide HV1) ((unhide HI) rfl))
    clear HR HI
    rw [unhide HTT, unhide HVV, unhide HRR] at HQ2
    go_wp2_with fail
    refine (unhide HQ2).mono ?_
    rintro e w2 hran
    rcases hran with ⟨hVR, rfl, hk2⟩ | ⟨hV0, hR0, rv, rfl, hv2, hnw, hk2⟩
    · generalize hEE : (if V ≠ 0 then V else R) = EE at *
      have hX2 := (hk2.block _ hsz id).trans (unhide HX1)
      have z5 := frozen_of_blk hX2 0
      have z6 := frozen_of_blk hX2 1
      have x5 := (cell_of_blk hX2 0).trans rfl
      have x6 := (cell_of_blk hX2 1).trans rfl
      obtain ⟨s0, s1⟩ := set2c hX2 (.bool false) (.slice none 0 0)
      have hs2 : w.heap.size + 1 + 1 < w2.heap.size := Nat.lt_of_lt_of_le hsz hk2.size
      have s0' := ((kAlloc ((w2.setCell ⟨w.heap.size + 1 + 1, 0, none⟩ (.bool false)).setCell ⟨w.heap.size + 1 + 1, 1, none⟩ (.slice none 0 0)) (.cells #[.bool false, .slice none 0 0, .int .i64 0, .int .i64 0] 34)).cell (o := 0) (by simpa using hs2) id).trans s0
      have s1' := ((kAlloc ((w2.setCell ⟨w.heap.size + 1 + 1, 0, none⟩ (.bool false)).setCell ⟨w.heap.size + 1 + 1, 1, none⟩ (.slice none 0 0)) (.cells #[.bool false, .slice none 0 0, .int .i64 0, .int .i64 0] 34)).cell (o := 1) (by simpa using hs2) id).trans s1
      have HX2 := hide hX2
      have HK2 := hide hk2
      have HKF := hide ((((unhide HKB).trans hk2).fresh (by omega) (keeps_set2 w2 (w.heap.size + 1 + 1) (.bool false) (.slice none 0 0))).alloc (.cells #[.bool false, .slice none 0 0, .int .i64 0, .int .i64 0] 34))
      clear hk2 hX2 HQ2
      go_wp2_with fail
      refine bodyPost_ret (v := .tuple #[.agg #[.bool false, .slice none 0 0], .int .i64 EE]) (by simp [results, go_sem, s0', s1']) rfl ?_
      exact Or.inl ⟨Or.inr hVR, by rw [if_neg (by decide), hEE], unhide HKF⟩
    · obtain ⟨xo, xc, rfl⟩ := RowAt.form hv2
      subst hV0
      subst hR0
      have HV2 := hide hv2
      have HNW := hide hnw
      clear hv2 hnw
      have hX2 := (hk2.block _ hsz id).trans (unhide HX1)
      have z5 := frozen_of_blk hX2 0
      have z6 := frozen_of_blk hX2 1
      have x5 := (cell_of_blk hX2 0).trans rfl
      have x6 := (cell_of_blk hX2 1).trans rfl
      obtain ⟨s0, s1⟩ := set2c hX2 (.bool T.2.here) (.slice xo T.2.vals.length xc)
      have hs2 : w.heap.size + 1 + 1 < w2.heap.size := Nat.lt_of_lt_of_le hsz hk2.size
      have s0' := ((kAlloc ((w2.setCell ⟨w.heap.size + 1 + 1, 0, none⟩ (.bool T.2.here)).setCell ⟨w.heap.size + 1 + 1, 1, none⟩ (.slice xo T.2.vals.length xc)) (.cells #[.bool T.2.here, .slice xo T.2.vals.length xc, .int .i64 (T.1.length : Int), .int .i64 (deepD T.1 : Int)] 34)).cell (o := 0) (by simpa using hs2) id).trans s0
      have s1' := ((kAlloc ((w2.setCell ⟨w.heap.size + 1 + 1, 0, none⟩ (.bool T.2.here)).setCell ⟨w.heap.size + 1 + 1, 1, none⟩ (.slice xo T.2.vals.length xc)) (.cells #[.bool T.2.here, .slice xo T.2.vals.length xc, .int .i64 (T.1.length : Int), .int .i64 (deepD T.1 : Int)] 34)).cell (o := 1) (by simpa using hs2) id).trans s1
      have HX2 := hide hX2
      have HK2 := hide hk2
      have HKF := hide ((((unhide HKB).trans hk2).fresh (by omega) (keeps_set2 w2 (w.heap.size + 1 + 1) (.bool T.2.here) (.slice xo T.2.vals.length xc))).alloc (.cells #[.bool T.2.here, .slice xo T.2.vals.length xc, .int .i64 (T.1.length : Int), .int .i64 (deepD T.1 : Int)] 34))
      clear hk2 hX2 HQ2
      go_wp2_with fail
      refine bodyPost_ret (v := .tuple #[.agg #[.bool T.2.here, .slice xo T.2.vals.length xc], .int .i64 0]) (by simp [results, go_sem, s0', s1']) rfl ?_
      refine Or.inr ⟨rfl, rfl, rfl, .slice xo T.2.vals.length xc, rfl, ?_, unhide HKF⟩
      exact ((unhide HV2).kept (keeps_set2 w2 (w.heap.size + 1 + 1) (.bool T.2.here) (.slice xo T.2.vals.length xc)) (fun q e h => by have := (unhide HNW) q e; omega)).keepF (kAlloc _ _)
  · obtain ⟨s0, s1⟩ := set2c (unhide HX1) (.bool false) (.slice none 0 0)
    have HK := hide ((unhide HKB).fresh (by omega) (keeps_set2 w1 (w.heap.size + 1 + 1) (.bool false) (.slice none 0 0)))
    clear HR HI
    go_wp2_with fail
    refine bodyPost_ret (v := .tuple #[.agg #[.bool false, .slice none 0 0], .int .i64 X]) (by simp [results, go_sem, s0, s1]) rfl ?_
    exact Or.inl ⟨Or.inl h0, by rw [if_pos h0], unhide HK⟩
end Go.Proofs.YtonodcmbbgpjjaaDoor
