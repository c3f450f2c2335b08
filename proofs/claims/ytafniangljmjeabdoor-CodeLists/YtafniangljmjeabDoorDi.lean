import Derived.Test.YtafniangljmjeabDoorDh
import Derived.Test.YtafniangljmjeabDoorDe
namespace Go.Proofs.YtafniangljmjeabDoor
open Go.RowKit Go.Maps

theorem bytesC_le2 (l : List ValA) (h : firstE l = 0) (hI : InR l) (k : Nat) : (bytesC (l.take k)).length ≤ 22 * k := by
  have := bytesC_le (l.take k) (fun i hi => (firstE_zero h) i (List.mem_of_mem_take hi)) (fun i hi => hI i (List.mem_of_mem_take hi))
  rw [List.length_take] at this
  omega
set_option maxRecDepth 100000 in
set_option maxHeartbeats 2000000 in
theorem bytes_v (l : List ValA) (v : Value) (w : World) (h : ValsAt w v l) (hl : l.length ≤ 4398046511104) (hF : firstE l = 0) (hI : InR l) :
    Calls Tryd.prog 15 #[v] w fun e w' => ∃ v', e = .returned v' ∧ w'.ownsRow w.heap.size 5 1 v' (bytesC l).length (bs (bytesC l)) ∧ Keeps (fun _ => False) w w' := by
  obtain ⟨j0, hi, hz0, hz1, hz2⟩ := info_parts Tryd.info5
  obtain ⟨ao, cap, rfl⟩ := RowAt.form h
  have HV := hide h
  have HF := hide hF
  have HI := hide hI
  clear h hF hI
  go_enter Tryd.func15, Tryd.ntmps15
  go_wp2_with fail
  go_loopw [3, 4] (fun o i wr => ∃ k : Nat, k ≤ l.length ∧ i = .int .i64 k ∧ wr.ownsRow w.heap.size 5 1 o (bytesC (l.take k)).length (bs (bytesC (l.take k))) ∧ Keeps (fun _ => False) w wr) (fun _ i _ => l.length - (intOf i).toNat)
  case atStart => exact ⟨0, Nat.zero_le _, rfl, World.ownsRow_nil _ w.heap.size 5 1, Keeps.refl _ _⟩
  case round =>
    obtain ⟨k, hk, rfl, hown, hkp⟩ := hrel
    have HW := hide hown
    have HK := hide hkp
    by_cases hlt : k < l.length
    · obtain ⟨x, hx⟩ : ∃ x, l[k]? = some x := ⟨_, List.getElem?_eq_getElem hlt⟩
      obtain ⟨b, off, c, e, hbl, hc⟩ := (unhide HV).cells (by omega)
      simp at e
      obtain ⟨rfl, rfl⟩ := e
      have c0 := (hkp.cell hbl id).trans (hc k x hx).1
      have c1 := (hkp.cell hbl id).trans (hc k x hx).2.1
      have c2 := (hkp.cell hbl id).trans (hc k x hx).2.2
      have hxf := (firstE_zero (unhide HF)) x (List.mem_of_getElem? hx)
      have hxi := (unhide HI) x (List.mem_of_getElem? hx)
      have HS := hide (bytesC_snoc hx)
      have HQ := hide (one_v x wr hxf hxi)
      have HOL := hide (oneB_len hxf hxi)
      have HOP : Hid (0 < (oneB x).length) := by show _ < _; simp [oneB]
      have HBL := hide (bytesC_le2 l (unhide HF) (unhide HI) k)
      unfold ValA.v at HQ
      have i1 : (k : Int) < (l.length : Int) := by omega
      have i0' : (0 : Int) ≤ (k : Int) := by omega
      have hsz := hkp.size
      obtain ⟨oo, oc, rfl⟩ := (rowAt_own hown).form
      clear hc hx hown hkp hxf hxi
      generalize bytesC (l.take k) = D at *
      generalize oneB x = G at *
      go_wp2_with fail
      refine (unhide HQ).mono ?_
      rintro e w3 ⟨v3, rfl, ho3, hk3⟩
      obtain ⟨g3, cap3, rfl, _, _⟩ := ho3.form (unhide HOP)
      have HN3 := hide (news_row ho3 (unhide HOP))
      have HO3 := hide (ownsRow_kept (unhide HW) hk3 (fun _ _ => id))
      have HK3 := hide ((unhide HK).trans hk3)
      have hs3 : w.heap.size ≤ w3.heap.size := (unhide HK3).size
      obtain ⟨H3, hH3⟩ : ∃ H3, w3.heap.size = H3 := ⟨_, rfl⟩
      have HLG : Hid ((bs G).length = G.length * 1) := by show _ = _; rw [bs_length]; omega
      have HB1 : Hid (D.length + G.length ≤ maxLen) := by have := unhide HOL; have := unhide HBL; show _ ≤ _; unfold maxLen; omega
      have HB2 : Hid ((D.length + G.length) * 1 ≤ 140737488355328) := by have := unhide HOL; have := unhide HBL; show _ ≤ _; omega
      clear ho3 hk3 HQ
      go_wp2_with (at_builtin; refine wpList_append_lies _ rfl _ _ _ rfl w.heap.size 5 j0 _ 1 1 Tryd.underlying38 hi hz0 hz1 hz2 rfl (by omega) (.slice oo D.length oc) D.length _ rfl (unhide HO3) ⟨g3, 0, none⟩ G.length cap3 (bs G) rfl (unhide HLG) (unhide HN3) (bs_one G) (unhide HOP) (unhide HB1) (unhide HB2) hs3 H3 hH3 ?_; intro g4 cap4 w4 hown4 hgrow4 hat4 hlt4; have HO4 := hide hown4; have HK4 := hide ((unhide HK3).grown hgrow4 (fun q e hq => by have := ((unhide HO3).lt q e).1; omega)); clear hown4 hgrow4 hat4)
      go_roundw
      case rel =>
        refine ⟨k + 1, by omega, by go_num, ?_, unhide HK4⟩
        rw [unhide HS, List.length_append]
        have h4 := unhide HO4
        rw [show bs (D ++ G) = bs D ++ bs G by simp [bs]]
        exact h4
      case measure => simp [intOf]; omega
    · obtain rfl : k = l.length := by omega
      have i1 : ¬ (l.length : Int) < (l.length : Int) := by omega
      rw [List.take_length] at HW
      clear hown hkp hlt
      go_wp2_with fail
      go_ret
      exact ⟨_, rfl, unhide HW, unhide HK⟩

set_option maxRecDepth 100000 in
set_option maxHeartbeats 2000000 in
theorem refEncode_v (l : List ValA) (v : Value) (w : World) (h : ValsAt w v l) (hI : InR l) :
    Calls Tryd.prog 28 #[v] w fun e w' => ∃ b', e = .returned (.tuple #[b', .int .i64 (encC l).2]) ∧ w'.ownsRow w.heap.size 5 1 b' (encC l).1.length (bs (encC l).1) ∧ Keeps (fun _ => False) w w' := by
  obtain ⟨ao, cap, rfl⟩ := RowAt.form h
  by_cases h96 : 96 < l.length
  · rw [encC_long h96]
    have i1 : (96 : Int) < (l.length : Int) := by omega
    clear h hI
    go_enter Tryd.func28, Tryd.ntmps28
    go_wp2_with fail
    go_ret2
    exact ⟨_, rfl, World.ownsRow_nil _ w.heap.size 5 1, Keeps.refl _ _⟩
  · have hl : l.length ≤ 96 := by omega
    have i1 : ¬ (96 : Int) < (l.length : Int) := by omega
    have HV := hide h
    have HI := hide hI
    clear h hI h96
    go_enter Tryd.func28, Tryd.ntmps28
    go_wp2_with fail
    go_loopw [4] (fun i wr => ∃ k : Nat, k ≤ l.length ∧ i = .int .i64 k ∧ Hid (firstE l = firstE (l.drop k)) ∧ Keeps (fun _ => False) w wr) (fun i _ => l.length - (intOf i).toNat)
    case atStart => exact ⟨0, Nat.zero_le _, rfl, by simp [Hid], Keeps.refl _ _⟩
    case round =>
      obtain ⟨k, hk, rfl, HS, hkp⟩ := hrel
      have HK := hide hkp
      by_cases hlt : k < l.length
      · obtain ⟨x, hx⟩ : ∃ x, l[k]? = some x := ⟨_, List.getElem?_eq_getElem hlt⟩
        obtain ⟨b, off, c, e, hbl, hc⟩ := (unhide HV).cells (by omega)
        simp at e
        obtain ⟨rfl, rfl⟩ := e
        have c0 := (hkp.cell hbl id).trans (hc k x hx).1
        have c1 := (hkp.cell hbl id).trans (hc k x hx).2.1
        have c2 := (hkp.cell hbl id).trans (hc k x hx).2.2
        have HD := hide (firstE_drop hx)
        have HQ := hide (form_v x wr)
        have i2 : (k : Int) < (l.length : Int) := by omega
        have i0' : (0 : Int) ≤ (k : Int) := by omega
        unfold ValA.v at HQ
        clear hc hx hkp
        go_wp2_with fail
        refine (unhide HQ).mono ?_
        rintro e w2 ⟨rfl, hk2⟩
        have HK2 := hide ((unhide HK).trans hk2)
        clear hk2 HQ
        by_cases hf : formB x = 0
        · rw [hf]
          have HS2 : Hid (firstE l = firstE (l.drop (k + 1))) := by
            show _ = _
            rw [unhide HS, unhide HD, if_pos hf]
          clear hf
          go_wp2_with fail
          go_roundw
          case rel => exact ⟨k + 1, by omega, by go_num, HS2, unhide HK2⟩
          case measure => simp [intOf]; omega
        · have HS2 : Hid (firstE l = formB x) := by
            show _ = _
            rw [unhide HS, unhide HD, if_neg hf]
          have HE : Hid (encC l = ([], formB x)) := by
            show _ = _
            rw [encC_form hl (by rw [unhide HS2]; exact hf), unhide HS2]
          have hf2 : (formB x != 0) = true := by simpa using hf
          clear hf HS2 HD
          generalize formB x = E at *
          go_wp2_with fail
          go_ret2
          rw [unhide HE]
          exact ⟨_, rfl, World.ownsRow_nil _ w.heap.size 5 1, unhide HK2⟩
      · obtain rfl : k = l.length := by omega
        have i2 : ¬ (l.length : Int) < (l.length : Int) := by omega
        have hf : firstE l = 0 := by have := unhide HS; rw [List.drop_length] at this; exact this
        have HQ := hide (bytes_v l (.slice ao l.length cap) wr ((unhide HV).keepF hkp) (by omega) hf (unhide HI))
        have HEB : Hid (96 < (bytesC l).length → encC l = ([], 110)) := fun h => encC_big hl hf h
        have HEO : Hid ((bytesC l).length ≤ 96 → encC l = (bytesC l, 0)) := fun h => encC_of hf h
        have hsz := hkp.size
        clear hf HS hkp hlt
        go_wp2_with fail
        refine (unhide HQ).mono ?_
        rintro e w2 ⟨v', rfl, ho, hk2⟩
        obtain ⟨oo, oc, rfl⟩ := (rowAt_own ho).form
        have HW := hide (ownsRow_lower ho hsz)
        have HK2 := hide ((unhide HK).trans hk2)
        clear ho hk2 HQ
        by_cases hb : 96 < (bytesC l).length
        · have HE := hide ((unhide HEB) hb)
          have i3 : (96 : Int) < ((bytesC l).length : Int) := by omega
          clear HEB HEO
          generalize bytesC l = D at *
          go_wp2_with fail
          go_ret2
          rw [unhide HE]
          exact ⟨_, rfl, World.ownsRow_nil _ w.heap.size 5 1, unhide HK2⟩
        · have HE := hide ((unhide HEO) (by omega))
          have i3 : ¬ (96 : Int) < ((bytesC l).length : Int) := by omega
          clear HEB HEO
          generalize bytesC l = D at *
          go_wp2_with fail
          go_ret2
          rw [unhide HE]
          exact ⟨_, rfl, unhide HW, unhide HK2⟩

end Go.Proofs.YtafniangljmjeabDoor
