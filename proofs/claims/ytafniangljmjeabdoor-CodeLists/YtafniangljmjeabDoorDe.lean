import Derived.Test.YtafniangljmjeabDoorDc
namespace Go.Proofs.YtafniangljmjeabDoor
open Go.RowKit Go.Maps

theorem firstE_drop {l : List ValA} {k : Nat} {x : ValA} (h : l[k]? = some x) : firstE (l.drop k) = if formB x = 0 then firstE (l.drop (k + 1)) else formB x := by
  obtain ⟨hk, hx⟩ := List.getElem?_eq_some_iff.1 h
  rw [List.drop_eq_getElem_cons hk, hx, firstE]
theorem encC_long {l : List ValA} (h : 96 < l.length) : encC l = ([], 110) := by unfold encC; rw [if_pos h]
theorem encC_form {l : List ValA} (h : l.length ≤ 96) (h2 : firstE l ≠ 0) : encC l = ([], firstE l) := by unfold encC; rw [if_neg (by omega), if_pos h2]
theorem encC_big {l : List ValA} (h : l.length ≤ 96) (h2 : firstE l = 0) (h3 : 96 < (bytesC l).length) : encC l = ([], 110) := by unfold encC; rw [if_neg (by omega), if_neg (by simpa using h2), if_pos h3]

set_option maxRecDepth 100000 in
set_option maxHeartbeats 2000000 in
theorem encode_v (l : List ValA) (v : Value) (w : World) (hO : Ops w) (hT : Types w) (h : ValsAt w v l) (hI : InR l) :
    Calls Tryd.prog 23 #[v] w fun e w' => ∃ b', e = .returned (.tuple #[b', .int .i64 (encC l).2]) ∧ w'.ownsRow w.heap.size 5 1 b' (encC l).1.length (bs (encC l).1) ∧ Keeps (fun _ => False) w w' := by
  obtain ⟨ao, cap, rfl⟩ := RowAt.form h
  by_cases h96 : 96 < l.length
  · rw [encC_long h96]
    have i1 : (96 : Int) < (l.length : Int) := by omega
    clear h hO hT hI
    go_enter Tryd.func23, Tryd.ntmps23
    go_wp2_with fail
    go_ret2
    exact ⟨_, rfl, World.ownsRow_nil _ w.heap.size 5 1, Keeps.refl _ _⟩
  · have hl : l.length ≤ 96 := by omega
    have i1 : ¬ (96 : Int) < (l.length : Int) := by omega
    have HO := hide hO
    have HT := hide hT
    have HV := hide h
    have HI := hide hI
    clear hO hT h hI h96
    go_enter Tryd.func23, Tryd.ntmps23
    go_wp2_with fail
    go_loopw [13] (fun i wr => ∃ k : Nat, k ≤ l.length ∧ i = .int .i64 k ∧ Hid (firstE l = firstE (l.drop k)) ∧ Keeps (fun _ => False) w wr) (fun i _ => l.length - (intOf i).toNat)
    case atStart => exact ⟨0, Nat.zero_le _, rfl, by simp [Hid], Keeps.refl _ _⟩
    case round =>
      obtain ⟨k, hk, rfl, HS, hkp⟩ := hrel
      have HK := hide hkp
      by_cases hlt : k < l.length
      · obtain ⟨x, hx⟩ : ∃ x, l[k]? = some x := ⟨_, List.getElem?_eq_getElem hlt⟩
        obtain ⟨b, off, c, e, hbl, hc⟩ := (unhide HV).cells (by omega)
        simp at e
        obtain ⟨rfl, rfl⟩ := e
        have c0 := (hkp.cell hbl id).trans (hc k x hx).1
        have c1 := (hkp.cell hbl id).trans (hc k x hx).2.1
        have c2 := (hkp.cell hbl id).trans (hc k x hx).2.2
        have HD := hide (firstE_drop hx)
        obtain ⟨HX, hxb, hxc⟩ := boxed wr #[.int .i64 x.kind, .int .i64 x.n, str x.s] 54
        have a0 := hxc 0 _ rfl
        have a1 := hxc 1 _ rfl
        have a2 := hxc 2 _ rfl
        have HQ := hide (checkForm_v x _ ((unhide HO).keepF ((unhide HK).trans (unhide HX))))
        have i2 : (k : Int) < (l.length : Int) := by omega
        have i0' : (0 : Int) ≤ (k : Int) := by omega
        unfold ValA.v at HQ
        clear hc hx hkp hxc
        go_wp2_with fail
        refine (unhide HQ).mono ?_
        rintro e w2 ⟨rfl, hk2⟩
        have HK2 := hide (((unhide HK).trans (unhide HX)).trans hk2)
        clear hk2 HQ HX
        by_cases hf : formB x = 0
        · rw [hf]
          have HS2 : Hid (firstE l = firstE (l.drop (k + 1))) := by
            show _ = _
            rw [unhide HS, unhide HD, if_pos hf]
          clear hf
          go_wp2_with fail
          go_roundw
          case rel => exact ⟨k + 1, by omega, by go_num, HS2, unhide HK2⟩
          case measure => simp [intOf]; omega
        · have HS2 : Hid (firstE l = formB x) := by
            show _ = _
            rw [unhide HS, unhide HD, if_neg hf]
          have HE : Hid (encC l = ([], formB x)) := by
            show _ = _
            rw [encC_form hl (by rw [unhide HS2]; exact hf), unhide HS2]
          have hf2 : (formB x != 0) = true := by simpa using hf
          clear hf HS2 HD
          generalize formB x = E at *
          go_wp2_with fail
          go_ret2
          rw [unhide HE]
          exact ⟨_, rfl, World.ownsRow_nil _ w.heap.size 5 1, unhide HK2⟩
      · obtain rfl : k = l.length := by omega
        have i2 : ¬ (l.length : Int) < (l.length : Int) := by omega
        have hf : firstE l = 0 := by have := unhide HS; rw [List.drop_length] at this; exact this
        have HQ := hide (bytesOf_v l (.slice ao l.length cap) wr ((unhide HO).keepF hkp) ((unhide HT).keepF hkp) ((unhide HV).keepF hkp) hl (firstE_zero hf) (unhide HI))
        have HEB : Hid (96 < (bytesC l).length → encC l = ([], 110)) := fun h => encC_big hl hf h
        have HEO : Hid ((bytesC l).length ≤ 96 → encC l = (bytesC l, 0)) := fun h => encC_of hf h
        have hsz := hkp.size
        clear hf HS hkp hlt
        go_wp2_with fail
        refine (unhide HQ).mono ?_
        rintro e w2 ⟨v', rfl, ho, hk2⟩
        obtain ⟨oo, oc, rfl⟩ := (rowAt_own ho).form
        have HW := hide (ownsRow_lower ho hsz)
        have HK2 := hide ((unhide HK).trans hk2)
        clear ho hk2 HQ
        by_cases hb : 96 < (bytesC l).length
        · have HE := hide ((unhide HEB) hb)
          have i3 : (96 : Int) < ((bytesC l).length : Int) := by omega
          clear HEB HEO
          generalize bytesC l = D at *
          go_wp2_with fail
          go_ret2
          rw [unhide HE]
          exact ⟨_, rfl, World.ownsRow_nil _ w.heap.size 5 1, unhide HK2⟩
        · have HE := hide ((unhide HEO) (by omega))
          have i3 : ¬ (96 : Int) < ((bytesC l).length : Int) := by omega
          clear HEB HEO
          generalize bytesC l = D at *
          go_wp2_with fail
          go_ret2
          rw [unhide HE]
          exact ⟨_, rfl, unhide HW, unhide HK2⟩

end Go.Proofs.YtafniangljmjeabDoor
