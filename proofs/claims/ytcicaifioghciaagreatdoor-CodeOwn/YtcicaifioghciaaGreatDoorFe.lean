import Derived.Test.YtcicaifioghciaaGreatDoorFea
import Derived.Test.YtcicaifioghciaaGreatDoorFeb
import Derived.Test.YtcicaifioghciaaGreatDoorFec
import Derived.Test.YtcicaifioghciaaGreatDoorJzai
namespace Go.Proofs.YtcicaifioghciaaGreatDoor
open Go.RowKit Go.Maps

theorem take_v (w : World) (b off cap : Nat) (c : UInt8) (r : Txt) (hO : Ops w) (hT : Types w) (h : BytesAt w (.slice (some ⟨b, off, none⟩) (c :: r).length cap) (c :: r)) (ht : (c :: r).length ≤ 4096) :
    Calls Tryz.prog 35 #[.slice (some ⟨b, off, none⟩) (c :: r).length cap] w fun e w' => Keeps (fun _ => False) w w' ∧ ∃ x y ok, e = .returned (.tuple #[ValA.v x, y, .bool ok]) ∧ TookC w' x y ok b (takeC (c :: r)) := by
  have hm : num c = (c.toNat : Int) := rfl
  have hcc := num_range c
  by_cases ho : opdB (num c) = -1
  · have e : takeC (c :: r) = none := by simp only [takeC]; rw [if_pos ho]
    rw [e]
    exact take_bad w b off cap c r c.toNat hm hO hT h ht ho
  · rcases opd_cases ho with ⟨e1, e2⟩ | ⟨e1, e2⟩ | ⟨e1, e2⟩ | hd
    · have e : takeC (c :: r) = some (⟨c.toNat, 0, []⟩, r) := by simp only [takeC]; rw [if_neg ho, if_pos e2]; rfl
      rw [e]
      exact take_plain w b off cap c r c.toNat hm hO hT h ht ho e1 e2
    · have e : takeC (c :: r) = (intP r).bind fun p => if rightB ⟨c.toNat, p.1, []⟩ then some (⟨c.toNat, p.1, []⟩, p.2) else none := by
        simp only [takeC]
        rw [if_neg ho, if_neg (by rw [e2]; decide), if_pos e2]
        have hr : ∀ n, rightB ⟨c.toNat, n, []⟩ = true := fun n => by
          have e3 : opdB (c.toNat : Int) = 1 := e2
          simp [rightB, e3]
        unfold intP
        cases takeG 0 r 0 with
        | none => rfl
        | some p => simp [hr, hm]
      rw [e]
      exact take_int w b off cap c r c.toNat hm hO hT h ht hO ho e1
    · have e : takeC (c :: r) = (textP r).bind fun p => if rightB ⟨c.toNat, 0, p.1⟩ then some (⟨c.toNat, 0, p.1⟩, p.2) else none := by
        simp only [takeC]
        rw [if_neg ho, if_neg (by rw [e2]; decide), if_neg (by rw [e2]; decide), if_pos e2]
        have hr : ∀ s, rightB ⟨c.toNat, 0, s⟩ = decide (s.length ≤ 20) := fun s => by
          have e3 : opdB (c.toNat : Int) = 2 := e2
          simp [rightB, e3]
        cases r with
        | nil => rfl
        | cons k q =>
          simp only [textP]
          by_cases h1 : q.length < k.toNat
          · rw [if_pos h1, if_pos (Or.inl h1)]
            rfl
          · rw [if_neg h1]
            simp only [Option.bind_some, hr]
            have hl : (q.take k.toNat).length = k.toNat := by rw [List.length_take]; omega
            rw [hl]
            by_cases h2 : 20 < k.toNat
            · rw [if_pos (Or.inr h2), if_neg (by simp; omega)]
            · rw [if_neg (by omega), if_pos (by simp; omega)]
              rfl
      rw [e]
      exact take_text w b off cap c r c.toNat hm hO hT h ht hO ho e1
    · have hd2 : ∃ d, (opA (num c)).opd = d ∧ (d == 0) = false ∧ (d == 1) = false ∧ (d == 2) = false ∧ (opdB (num c) = 3 ∨ opdB (num c) = 4) := by
        rcases hd with ⟨e1, e2⟩ | ⟨e1, e2⟩ | ⟨e1, e2⟩ | ⟨e1, e2⟩
        · exact ⟨_, e1, rfl, rfl, rfl, Or.inl e2⟩
        · exact ⟨_, e1, rfl, rfl, rfl, Or.inl e2⟩
        · exact ⟨_, e1, rfl, rfl, rfl, Or.inl e2⟩
        · exact ⟨_, e1, rfl, rfl, rfl, Or.inr e2⟩
      obtain ⟨d, e1, t0, t1, t2, e2⟩ := hd2
      have e : takeC (c :: r) = (byteP r).bind fun p => if rightB ⟨c.toNat, p.1, []⟩ then some (⟨c.toNat, p.1, []⟩, p.2) else none := by
        simp only [takeC]
        rw [if_neg ho, if_neg (by rcases e2 with e2 | e2 <;> rw [e2] <;> decide), if_neg (by rcases e2 with e2 | e2 <;> rw [e2] <;> decide), if_neg (by rcases e2 with e2 | e2 <;> rw [e2] <;> decide)]
        cases r with
        | nil => rfl
        | cons k q =>
          have hk := num_range k
          simp only [byteP, Option.bind_some]
          rcases e2 with e2 | e2
          · have e3 : opdB (c.toNat : Int) = 3 := e2
            have hr : rightB ⟨c.toNat, num k, []⟩ = decide (num k < 8) := by simp [rightB, e3]; intro; exact hk.1
            rw [hr]
            by_cases h8 : 8 ≤ k.toNat
            · rw [if_pos ⟨e2, h8⟩, if_neg (by simp; unfold num; omega)]
            · rw [if_neg (fun h => h8 h.2), if_pos (by simp; unfold num; omega)]
              rfl
          · have e3 : opdB (c.toNat : Int) = 4 := e2
            have hr : rightB ⟨c.toNat, num k, []⟩ = true := by simp [rightB, e3]; exact hk
            rw [hr, if_neg (by rw [e2]; simp), if_pos rfl]
            rfl
      rw [e]
      exact take_byte w b off cap c r c.toNat hm hO hT h ht hO ho d e1 t0 t1 t2

theorem takeC_len {b r : Txt} {i : ValA} (h : takeC b = some (i, r)) : r.length < b.length := by
  obtain ⟨_, e, _⟩ := takeC_sound h
  rw [e]
  simp [oneB]
  omega
theorem decF_fuel : ∀ (n m : Nat) (b : Txt), b.length ≤ n → b.length ≤ m → decF n b = decF m b
  | 0, 0, _, _, _ => rfl
  | 0, m + 1, b, h, _ => by
    have : b = [] := List.eq_nil_of_length_eq_zero (by omega)
    subst this
    simp [decF]
  | n + 1, 0, b, _, h => by
    have : b = [] := List.eq_nil_of_length_eq_zero (by omega)
    subst this
    simp [decF]
  | n + 1, m + 1, b, h1, h2 => by
    rw [decF, decF]
    split
    · rfl
    · cases ht : takeC b with
      | none => rfl
      | some p =>
        have := takeC_len (i := p.1) (r := p.2) ht
        simp only [Option.bind_some]
        rw [decF_fuel n m p.2 (by omega) (by omega)]
/-- Decoding, whatever the fuel. -/
def decD (b : Txt) : Option (List ValA) := decF b.length b
theorem decD_nil : decD [] = some [] := by simp [decD, decF]
theorem decD_cons (c : UInt8) (r : Txt) : decD (c :: r) = (takeC (c :: r)).bind fun p => (decD p.2).map (p.1 :: ·) := by
  unfold decD
  rw [List.length_cons, decF, if_neg (by simp)]
  cases ht : takeC (c :: r) with
  | none => rfl
  | some p =>
    have := takeC_len (i := p.1) (r := p.2) ht
    simp only [List.length_cons] at this
    simp only [Option.bind_some]
    rw [decF_fuel r.length p.2.length p.2 (by omega) (by omega)]
theorem decC_D (b : Txt) (h : b.length ≤ 96) : decC b = match decD b with
    | none => ([], 110)
    | some l => (l, 0) := by
  unfold decC
  rw [if_neg (by omega)]
  rfl
set_option maxRecDepth 100000 in
set_option maxHeartbeats 2000000 in
theorem decode_c (t : Txt) (v : Value) (w : World) (hO : Ops w) (hT : Types w) (h : BytesAt w v t) :
    Calls Tryz.prog 17 #[v] w fun e w' => ∃ r', e = .returned (.tuple #[r', .int .i64 (decC t).2]) ∧ w'.ownsRow w.heap.size 51 3 r' (decC t).1.length (vcs (decC t).1) ∧ Keeps (fun _ => False) w w' := by
  obtain ⟨ao, cap, rfl⟩ := RowAt.form h
  by_cases h96 : 96 < t.length
  · have e : decC t = ([], 110) := by unfold decC; rw [if_pos h96]
    rw [e]
    have i1 : (96 : Int) < (t.length : Int) := by omega
    clear h hO hT
    go_enter Tryz.func17, Tryz.ntmps17
    go_wp2_with fail
    go_ret2
    exact ⟨_, rfl, World.ownsRow_nil _ w.heap.size 51 3, Keeps.refl _ _⟩
  · have hl : t.length ≤ 96 := by omega
    have i1 : ¬ (96 : Int) < (t.length : Int) := by omega
    obtain ⟨i0, hi, hz0, hz1, hz2⟩ := info_parts Tryz.info51
    have HO := hide hO
    have HT := hide hT
    have HV := hide h
    have HDC := hide (decC_D t hl)
    have HVB : t ≠ [] → ∀ k, (Value.slice ao t.length cap).ownBlock = some k → k < w.heap.size := fun hne k hk => by
      obtain ⟨b, off, cc, e, hb, _⟩ := RowAt.cells h (by cases t <;> simp at hne ⊢)
      rw [e] at hk
      cases hk
      exact hb
    clear hO hT h h96
    go_enter Tryz.func17, Tryz.ntmps17
    go_wp2_with fail
    go_loopw [0, 4] (fun u o wr => ∃ (rest : Txt) (dn : List ValA), BytesAt wr u rest ∧ (rest ≠ [] → ∀ k, u.ownBlock = some k → k < w.heap.size) ∧ dn.length + rest.length ≤ t.length ∧ wr.ownsRow w.heap.size 51 3 o dn.length (vcs dn) ∧ Hid (decD t = (decD rest).map (dn ++ ·)) ∧ Keeps (fun _ => False) w wr) (fun u _ _ => match u with | .slice _ n _ => n | _ => 0)
    case atStart => exact ⟨t, [], unhide HV, HVB, by simp, World.ownsRow_nil _ w.heap.size 51 3, by show _ = _; simp, Keeps.refl _ _⟩
    case round =>
      obtain ⟨rest, dn, hby, hub, hln, hown, HS, hkp⟩ := hrel
      obtain ⟨oo, oc, rfl⟩ := (rowAt_own hown).form
      have HW := hide hown
      have HK := hide hkp
      have hsz := hkp.size
      cases rest with
      | nil =>
        obtain ⟨bo, bc, rfl⟩ := RowAt.form hby
        have HE : Hid (decC t = (dn, 0)) := by
          show _ = _
          rw [unhide HDC, unhide HS, decD_nil]
          simp
        clear hby hown hkp
        go_wp2_with fail
        go_ret2
        rw [unhide HE]
        exact ⟨_, rfl, unhide HW, unhide HK⟩
      | cons c r =>
        obtain ⟨b, off, cc, rfl, hblt, _⟩ := RowAt.cells hby (by simp)
        have hbw : b < w.heap.size := hub (by simp) b rfl
        have HQ := hide (take_v wr b off cc c r ((unhide HO).keepF hkp) ((unhide HT).keepF hkp) hby (by omega))
        have HD := hide (decD_cons c r)
        have i2 : (0 : Int) < ((c :: r).length : Int) := by simp
        have HLC : Hid ((c :: r).length = r.length + 1) := by simp [Hid]
        have HTL : Hid (∀ i q, takeC (c :: r) = some (i, q) → q.length < (c :: r).length) := fun i q h => takeC_len h
        generalize hL : (c :: r).length = L at *
        have hL1 : 1 ≤ L := by have := unhide HLC; omega
        clear hby hown hkp hL
        go_wp2_with fail
        refine (unhide HQ).mono ?_
        rintro e w2 ⟨hk2, x, y, ok, rfl, hTK⟩
        have HTK := hide hTK
        have HK2 := hide ((unhide HK).trans hk2)
        have HW2 := hide (ownsRow_kept (unhide HW) hk2 (fun _ _ => id))
        have hs2 : w.heap.size ≤ w2.heap.size := (unhide HK2).size
        clear hTK hk2 HQ
        cases hp : takeC (c :: r) with
        | none =>
          have hok : ok = false := by have h := unhide HTK; rw [hp] at h; exact h
          subst hok
          have HE : Hid (decC t = ([], 110)) := by
            show _ = _
            rw [unhide HDC, unhide HS, unhide HD, hp]
            rfl
          clear hp
          unfold ValA.v
          go_wp2_with fail
          go_ret2
          rw [unhide HE]
          exact ⟨_, rfl, World.ownsRow_nil _ w.heap.size 51 3, (unhide HK2).alloc _⟩
        | some p =>
          obtain ⟨i, q⟩ := p
          obtain ⟨hok, hxi, hby, hob⟩ : ok = true ∧ x = i ∧ BytesAt w2 y q ∧ y.ownBlock = some b := by have h := unhide HTK; rw [hp] at h; exact h
          subst hok hxi
          have hql := (unhide HTL) x q hp
          have HE : Hid (decD t = (decD q).map ((dn ++ [x]) ++ ·)) := by
            show _ = _
            rw [unhide HS, unhide HD, hp]
            simp only [Option.bind_some]
            cases decD q <;> simp
          obtain ⟨yo, yc, rfl⟩ := RowAt.form hby
          have HBY := hide hby
          have HOB := hide hob
          clear hp hby hob HTK HTL HD
          unfold ValA.v
          obtain ⟨HX, hxb, hxc⟩ := boxed w2 #[.int .i64 x.kind, .int .i64 x.n, str x.s] 51
          have a0 := hxc 0 (.int .i64 x.kind) rfl
          have a1 := hxc 1 (.int .i64 x.n) rfl
          have a2 := hxc 2 (str x.s) rfl
          go_wp2_with (at_builtin; refine wpList_append_lies _ rfl _ _ _ rfl w.heap.size 51 i0 _ 3 32 Tryz.underlying25 hi hz0 hz1 hz2 rfl (by omega) (.slice oo dn.length oc) dn.length (vcs dn) rfl (((unhide HW2).alloc _).alloc _) ⟨w2.heap.size + 1, 0, none⟩ 1 1 x.cs rfl rfl (World.news_of_block (cs := #[.int .i64 x.kind, .int .i64 x.n, str x.s]) (t := 51) (fr := (0, 0)) (by have q := heap_alloc_new (w2.alloc (.cells #[.int .i64 x.kind, .int .i64 x.n, str x.s] 51)) (.cells #[.int .i64 x.kind, .int .i64 x.n, str x.s] 51); rw [World.size_alloc] at q; exact q)) (by simp [Value.oneCell', ValA.cs]) (by omega) (by unfold maxLen; omega) (by omega) (by simp; omega) (w2.heap.size + 2) (by simp) ?_; intro g3 cap3 w3 hown3 hgrow3 hat3 hlt3; have HO3 := hide hown3; have HK3 := hide ((((unhide HK2).alloc _).alloc _).grown hgrow3 (fun q e hq => by have := ((unhide HW2).lt q e).1; omega)); have HB3 := hide (RowAt.kept (unhide HBY) ((((Keeps.refl (fun q => (Value.slice oo dn.length oc).ownBlock = some q) w2).alloc _).alloc _).grown hgrow3 (fun q e _ => e)) (fun k hk e => by have h1 := ((unhide HW2).lt k e).1; have h2 := (unhide HOB).symm.trans hk; simp at h2; omega)); clear hown3 hgrow3 hat3)
          go_roundw
          case rel =>
            refine ⟨q, dn ++ [x], unhide HB3, fun _ k hk => ?_, by simp; omega, ?_, HE, unhide HK3⟩
            · have h2 := (unhide HOB).symm.trans hk
              simp at h2
              omega
            · simpa [vcs] using unhide HO3
          case measure => simp; omega

end Go.Proofs.YtcicaifioghciaaGreatDoor
