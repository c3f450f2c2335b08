import Derived.Test.YtcicaifioghciaaGreatDoorJzah
import Derived.Test.YtcicaifioghciaaGreatDoorRows
import Derived.ProofKit
import Derived.LaidLaws
import Derived.LaidMore
import Derived.LaidSub
import Derived.Lib.LaidTab
import Derived.OpenShut
import Derived.ShutString
import Derived.ChangeOld
import Derived.Deep.Slices
import Derived.Deep.Strs
import Derived.SizedLaws
import Derived.Deep.CondSized
namespace Go.Proofs.YtcicaifioghciaaGreatDoor
open Go.RowKit Go.Maps

theorem firstE_drop {l : List ValA} {k : Nat} {x : ValA} (h : l[k]? = some x) : firstE (l.drop k) = if formB x = 0 then firstE (l.drop (k + 1)) else formB x := by
  obtain ⟨hk, hx⟩ := List.getElem?_eq_some_iff.1 h
  rw [List.drop_eq_getElem_cons hk, hx, firstE]
theorem encC_long {l : List ValA} (h : 96 < l.length) : encC l = ([], 110) := by unfold encC; rw [if_pos h]
theorem encC_form {l : List ValA} (h : l.length ≤ 96) (h2 : firstE l ≠ 0) : encC l = ([], firstE l) := by unfold encC; rw [if_neg (by omega), if_pos h2]
theorem encC_big {l : List ValA} (h : l.length ≤ 96) (h2 : firstE l = 0) (h3 : 96 < (bytesC l).length) : encC l = ([], 110) := by unfold encC; rw [if_neg (by omega), if_neg (by simpa using h2), if_pos h3]

set_option maxRecDepth 100000 in
set_option maxHeartbeats 2000000 in
theorem encode_v (l : List ValA) (v : Value) (w : World) (hO : Ops w) (hT : Types w) (h : ValsAt w v l) (hI : InR l) :
    Calls Tryz.prog 8 #[v] w fun e w' => ∃ b', e = .returned (.tuple #[b', .int .i64 (encC l).2]) ∧ w'.ownsRow w.heap.size 5 1 b' (encC l).1.length (bs (encC l).1) ∧ Keeps (fun _ => False) w w' := by
  obtain ⟨ao, cap, rfl⟩ := RowAt.form h
  by_cases h96 : 96 < l.length
  · rw [encC_long h96]
    have i1 : (96 : Int) < (l.length : Int) := by omega
    clear h hO hT hI
    go_enter Tryz.func8, Tryz.ntmps8
    go_wp2_with fail
    go_ret2
    exact ⟨_, rfl, World.ownsRow_nil _ w.heap.size 5 1, Keeps.refl _ _⟩
  · have hl : l.length ≤ 96 := by omega
    have i1 : ¬ (96 : Int) < (l.length : Int) := by omega
    have HO := hide hO
    have HT := hide hT
    have HV := hide h
    have HI := hide hI
    clear hO hT h hI h96
    go_enter Tryz.func8, Tryz.ntmps8
    go_wp2_with fail
    go_loopw [13] (fun i wr => ∃ k : Nat, k ≤ l.length ∧ i = .int .i64 k ∧ Hid (firstE l = firstE (l.drop k)) ∧ Keeps (fun _ => False) w wr) (fun i _ => l.length - (intOf i).toNat)
    case atStart => exact ⟨0, Nat.zero_le _, rfl, by simp [Hid], Keeps.refl _ _⟩
    case round =>
      obtain ⟨k, hk, rfl, HS, hkp⟩ := hrel
      have HK := hide hkp
      by_cases hlt : k < l.length
      · obtain ⟨x, hx⟩ : ∃ x, l[k]? = some x := ⟨_, List.getElem?_eq_getElem hlt⟩
        obtain ⟨b, off, c, e, hbl, hc⟩ := (unhide HV).cells (by omega)
        simp at e
        obtain ⟨rfl, rfl⟩ := e
        have c0 := (hkp.cell hbl id).trans (hc k x hx).1
        have c1 := (hkp.cell hbl id).trans (hc k x hx).2.1
        have c2 := (hkp.cell hbl id).trans (hc k x hx).2.2
        have HD := hide (firstE_drop hx)
        obtain ⟨HX, hxb, hxc⟩ := boxed wr #[.int .i64 x.kind, .int .i64 x.n, str x.s] 51
        have a0 := hxc 0 _ rfl
        have a1 := hxc 1 _ rfl
        have a2 := hxc 2 _ rfl
        have HQ := hide (checkForm_v x _ ((unhide HO).keepF ((unhide HK).trans (unhide HX))))
        have i2 : (k : Int) < (l.length : Int) := by omega
        have i0' : (0 : Int) ≤ (k : Int) := by omega
        unfold ValA.v at HQ
        clear hc hx hkp hxc
        go_wp2_with fail
        refine (unhide HQ).mono ?_
        rintro e w2 ⟨rfl, hk2⟩
        have HK2 := hide (((unhide HK).trans (unhide HX)).trans hk2)
        clear hk2 HQ HX
        by_cases hf : formB x = 0
        · rw [hf]
          have HS2 : Hid (firstE l = firstE (l.drop (k + 1))) := by
            show _ = _
            rw [unhide HS, unhide HD, if_pos hf]
          clear hf
          go_wp2_with fail
          go_roundw
          case rel => exact ⟨k + 1, by omega, by go_num, HS2, unhide HK2⟩
          case measure => simp [intOf]; omega
        · have HS2 : Hid (firstE l = formB x) := by
            show _ = _
            rw [unhide HS, unhide HD, if_neg hf]
          have HE : Hid (encC l = ([], formB x)) := by
            show _ = _
            rw [encC_form hl (by rw [unhide HS2]; exact hf), unhide HS2]
          have hf2 : (formB x != 0) = true := by simpa using hf
          clear hf HS2 HD
          generalize formB x = E at *
          go_wp2_with fail
          go_ret2
          rw [unhide HE]
          exact ⟨_, rfl, World.ownsRow_nil _ w.heap.size 5 1, unhide HK2⟩
      · obtain rfl : k = l.length := by omega
        have i2 : ¬ (l.length : Int) < (l.length : Int) := by omega
        have hf : firstE l = 0 := by have := unhide HS; rw [List.drop_length] at this; exact this
        have HQ := hide (bytesOf_v l (.slice ao l.length cap) wr ((unhide HO).keepF hkp) ((unhide HT).keepF hkp) ((unhide HV).keepF hkp) hl (firstE_zero hf) (unhide HI))
        have HEB : Hid (96 < (bytesC l).length → encC l = ([], 110)) := fun h => encC_big hl hf h
        have HEO : Hid ((bytesC l).length ≤ 96 → encC l = (bytesC l, 0)) := fun h => encC_of hf h
        have hsz := hkp.size
        clear hf HS hkp hlt
        go_wp2_with fail
        refine (unhide HQ).mono ?_
        rintro e w2 ⟨v', rfl, ho, hk2⟩
        obtain ⟨oo, oc, rfl⟩ := (rowAt_own ho).form
        have HW := hide (ownsRow_lower ho hsz)
        have HK2 := hide ((unhide HK).trans hk2)
        clear ho hk2 HQ
        by_cases hb : 96 < (bytesC l).length
        · have HE := hide ((unhide HEB) hb)
          have i3 : (96 : Int) < ((bytesC l).length : Int) := by omega
          clear HEB HEO
          generalize bytesC l = D at *
          go_wp2_with fail
          go_ret2
          rw [unhide HE]
          exact ⟨_, rfl, World.ownsRow_nil _ w.heap.size 5 1, unhide HK2⟩
        · have HE := hide ((unhide HEO) (by omega))
          have i3 : ¬ (96 : Int) < ((bytesC l).length : Int) := by omega
          clear HEB HEO
          generalize bytesC l = D at *
          go_wp2_with fail
          go_ret2
          rw [unhide HE]
          exact ⟨_, rfl, unhide HW, unhide HK2⟩

end Go.Proofs.YtcicaifioghciaaGreatDoor
namespace Go.Proofs.YtcicaifioghciaaGreatDoor
open Go.RowKit Go.Maps

theorem bytesC_le2 (l : List ValA) (h : firstE l = 0) (hI : InR l) (k : Nat) : (bytesC (l.take k)).length ≤ 22 * k := by
  have := bytesC_le (l.take k) (fun i hi => (firstE_zero h) i (List.mem_of_mem_take hi)) (fun i hi => hI i (List.mem_of_mem_take hi))
  rw [List.length_take] at this
  omega
set_option maxRecDepth 100000 in
set_option maxHeartbeats 2000000 in
theorem bytes_v (l : List ValA) (v : Value) (w : World) (h : ValsAt w v l) (hl : l.length ≤ 4398046511104) (hF : firstE l = 0) (hI : InR l) :
    Calls Tryz.prog 24 #[v] w fun e w' => ∃ v', e = .returned v' ∧ w'.ownsRow w.heap.size 5 1 v' (bytesC l).length (bs (bytesC l)) ∧ Keeps (fun _ => False) w w' := by
  obtain ⟨j0, hi, hz0, hz1, hz2⟩ := info_parts Tryz.info5
  obtain ⟨ao, cap, rfl⟩ := RowAt.form h
  have HV := hide h
  have HF := hide hF
  have HI := hide hI
  clear h hF hI
  go_enter Tryz.func24, Tryz.ntmps24
  go_wp2_with fail
  go_loopw [3, 4] (fun o i wr => ∃ k : Nat, k ≤ l.length ∧ i = .int .i64 k ∧ wr.ownsRow w.heap.size 5 1 o (bytesC (l.take k)).length (bs (bytesC (l.take k))) ∧ Keeps (fun _ => False) w wr) (fun _ i _ => l.length - (intOf i).toNat)
  case atStart => exact ⟨0, Nat.zero_le _, rfl, World.ownsRow_nil _ w.heap.size 5 1, Keeps.refl _ _⟩
  case round =>
    obtain ⟨k, hk, rfl, hown, hkp⟩ := hrel
    have HW := hide hown
    have HK := hide hkp
    by_cases hlt : k < l.length
    · obtain ⟨x, hx⟩ : ∃ x, l[k]? = some x := ⟨_, List.getElem?_eq_getElem hlt⟩
      obtain ⟨b, off, c, e, hbl, hc⟩ := (unhide HV).cells (by omega)
      simp at e
      obtain ⟨rfl, rfl⟩ := e
      have c0 := (hkp.cell hbl id).trans (hc k x hx).1
      have c1 := (hkp.cell hbl id).trans (hc k x hx).2.1
      have c2 := (hkp.cell hbl id).trans (hc k x hx).2.2
      have hxf := (firstE_zero (unhide HF)) x (List.mem_of_getElem? hx)
      have hxi := (unhide HI) x (List.mem_of_getElem? hx)
      have HS := hide (bytesC_snoc hx)
      have HQ := hide (one_v x wr hxf hxi)
      have HOL := hide (oneB_len hxf hxi)
      have HOP : Hid (0 < (oneB x).length) := by show _ < _; simp [oneB]
      have HBL := hide (bytesC_le2 l (unhide HF) (unhide HI) k)
      unfold ValA.v at HQ
      have i1 : (k : Int) < (l.length : Int) := by omega
      have i0' : (0 : Int) ≤ (k : Int) := by omega
      have hsz := hkp.size
      obtain ⟨oo, oc, rfl⟩ := (rowAt_own hown).form
      clear hc hx hown hkp hxf hxi
      generalize bytesC (l.take k) = D at *
      generalize oneB x = G at *
      go_wp2_with fail
      refine (unhide HQ).mono ?_
      rintro e w3 ⟨v3, rfl, ho3, hk3⟩
      obtain ⟨g3, cap3, rfl, _, _⟩ := ho3.form (unhide HOP)
      have HN3 := hide (news_row ho3 (unhide HOP))
      have HO3 := hide (ownsRow_kept (unhide HW) hk3 (fun _ _ => id))
      have HK3 := hide ((unhide HK).trans hk3)
      have hs3 : w.heap.size ≤ w3.heap.size := (unhide HK3).size
      obtain ⟨H3, hH3⟩ : ∃ H3, w3.heap.size = H3 := ⟨_, rfl⟩
      have HLG : Hid ((bs G).length = G.length * 1) := by show _ = _; rw [bs_length]; omega
      have HB1 : Hid (D.length + G.length ≤ maxLen) := by have := unhide HOL; have := unhide HBL; show _ ≤ _; unfold maxLen; omega
      have HB2 : Hid ((D.length + G.length) * 1 ≤ 140737488355328) := by have := unhide HOL; have := unhide HBL; show _ ≤ _; omega
      clear ho3 hk3 HQ
      go_wp2_with (at_builtin; refine wpList_append_lies _ rfl _ _ _ rfl w.heap.size 5 j0 _ 1 1 Tryz.underlying29 hi hz0 hz1 hz2 rfl (by omega) (.slice oo D.length oc) D.length _ rfl (unhide HO3) ⟨g3, 0, none⟩ G.length cap3 (bs G) rfl (unhide HLG) (unhide HN3) (bs_one G) (unhide HOP) (unhide HB1) (unhide HB2) hs3 H3 hH3 ?_; intro g4 cap4 w4 hown4 hgrow4 hat4 hlt4; have HO4 := hide hown4; have HK4 := hide ((unhide HK3).grown hgrow4 (fun q e hq => by have := ((unhide HO3).lt q e).1; omega)); clear hown4 hgrow4 hat4)
      go_roundw
      case rel =>
        refine ⟨k + 1, by omega, by go_num, ?_, unhide HK4⟩
        rw [unhide HS, List.length_append]
        have h4 := unhide HO4
        rw [show bs (D ++ G) = bs D ++ bs G by simp [bs]]
        exact h4
      case measure => simp [intOf]; omega
    · obtain rfl : k = l.length := by omega
      have i1 : ¬ (l.length : Int) < (l.length : Int) := by omega
      rw [List.take_length] at HW
      clear hown hkp hlt
      go_wp2_with fail
      go_ret
      exact ⟨_, rfl, unhide HW, unhide HK⟩

set_option maxRecDepth 100000 in
set_option maxHeartbeats 2000000 in
theorem refEncode_v (l : List ValA) (v : Value) (w : World) (h : ValsAt w v l) (hI : InR l) :
    Calls Tryz.prog 6 #[v] w fun e w' => ∃ b', e = .returned (.tuple #[b', .int .i64 (encC l).2]) ∧ w'.ownsRow w.heap.size 5 1 b' (encC l).1.length (bs (encC l).1) ∧ Keeps (fun _ => False) w w' := by
  obtain ⟨ao, cap, rfl⟩ := RowAt.form h
  by_cases h96 : 96 < l.length
  · rw [encC_long h96]
    have i1 : (96 : Int) < (l.length : Int) := by omega
    clear h hI
    go_enter Tryz.func6, Tryz.ntmps6
    go_wp2_with fail
    go_ret2
    exact ⟨_, rfl, World.ownsRow_nil _ w.heap.size 5 1, Keeps.refl _ _⟩
  · have hl : l.length ≤ 96 := by omega
    have i1 : ¬ (96 : Int) < (l.length : Int) := by omega
    have HV := hide h
    have HI := hide hI
    clear h hI h96
    go_enter Tryz.func6, Tryz.ntmps6
    go_wp2_with fail
    go_loopw [4] (fun i wr => ∃ k : Nat, k ≤ l.length ∧ i = .int .i64 k ∧ Hid (firstE l = firstE (l.drop k)) ∧ Keeps (fun _ => False) w wr) (fun i _ => l.length - (intOf i).toNat)
    case atStart => exact ⟨0, Nat.zero_le _, rfl, by simp [Hid], Keeps.refl _ _⟩
    case round =>
      obtain ⟨k, hk, rfl, HS, hkp⟩ := hrel
      have HK := hide hkp
      by_cases hlt : k < l.length
      · obtain ⟨x, hx⟩ : ∃ x, l[k]? = some x := ⟨_, List.getElem?_eq_getElem hlt⟩
        obtain ⟨b, off, c, e, hbl, hc⟩ := (unhide HV).cells (by omega)
        simp at e
        obtain ⟨rfl, rfl⟩ := e
        have c0 := (hkp.cell hbl id).trans (hc k x hx).1
        have c1 := (hkp.cell hbl id).trans (hc k x hx).2.1
        have c2 := (hkp.cell hbl id).trans (hc k x hx).2.2
        have HD := hide (firstE_drop hx)
        have HQ := hide (form_v x wr)
        have i2 : (k : Int) < (l.length : Int) := by omega
        have i0' : (0 : Int) ≤ (k : Int) := by omega
        unfold ValA.v at HQ
        clear hc hx hkp
        go_wp2_with fail
        refine (unhide HQ).mono ?_
        rintro e w2 ⟨rfl, hk2⟩
        have HK2 := hide ((unhide HK).trans hk2)
        clear hk2 HQ
        by_cases hf : formB x = 0
        · rw [hf]
          have HS2 : Hid (firstE l = firstE (l.drop (k + 1))) := by
            show _ = _
            rw [unhide HS, unhide HD, if_pos hf]
          clear hf
          go_wp2_with fail
          go_roundw
          case rel => exact ⟨k + 1, by omega, by go_num, HS2, unhide HK2⟩
          case measure => simp [intOf]; omega
        · have HS2 : Hid (firstE l = formB x) := by
            show _ = _
            rw [unhide HS, unhide HD, if_neg hf]
          have HE : Hid (encC l = ([], formB x)) := by
            show _ = _
            rw [encC_form hl (by rw [unhide HS2]; exact hf), unhide HS2]
          have hf2 : (formB x != 0) = true := by simpa using hf
          clear hf HS2 HD
          generalize formB x = E at *
          go_wp2_with fail
          go_ret2
          rw [unhide HE]
          exact ⟨_, rfl, World.ownsRow_nil _ w.heap.size 5 1, unhide HK2⟩
      · obtain rfl : k = l.length := by omega
        have i2 : ¬ (l.length : Int) < (l.length : Int) := by omega
        have hf : firstE l = 0 := by have := unhide HS; rw [List.drop_length] at this; exact this
        have HQ := hide (bytes_v l (.slice ao l.length cap) wr ((unhide HV).keepF hkp) (by omega) hf (unhide HI))
        have HEB : Hid (96 < (bytesC l).length → encC l = ([], 110)) := fun h => encC_big hl hf h
        have HEO : Hid ((bytesC l).length ≤ 96 → encC l = (bytesC l, 0)) := fun h => encC_of hf h
        have hsz := hkp.size
        clear hf HS hkp hlt
        go_wp2_with fail
        refine (unhide HQ).mono ?_
        rintro e w2 ⟨v', rfl, ho, hk2⟩
        obtain ⟨oo, oc, rfl⟩ := (rowAt_own ho).form
        have HW := hide (ownsRow_lower ho hsz)
        have HK2 := hide ((unhide HK).trans hk2)
        clear ho hk2 HQ
        by_cases hb : 96 < (bytesC l).length
        · have HE := hide ((unhide HEB) hb)
          have i3 : (96 : Int) < ((bytesC l).length : Int) := by omega
          clear HEB HEO
          generalize bytesC l = D at *
          go_wp2_with fail
          go_ret2
          rw [unhide HE]
          exact ⟨_, rfl, World.ownsRow_nil _ w.heap.size 5 1, unhide HK2⟩
        · have HE := hide ((unhide HEO) (by omega))
          have i3 : ¬ (96 : Int) < ((bytesC l).length : Int) := by omega
          clear HEB HEO
          generalize bytesC l = D at *
          go_wp2_with fail
          go_ret2
          rw [unhide HE]
          exact ⟨_, rfl, unhide HW, unhide HK2⟩

end Go.Proofs.YtcicaifioghciaaGreatDoor
namespace Go.Proofs.YtcicaifioghciaaGreatDoor
open Go.RowKit Go.Maps

theorem Tryz.info51 : (Tryz.prog.info? 51).map (fun i => (i.zero, i.size, i.bytes)) = some (some (.agg #[.int .i64 0, .int .i64 0, .string ⟨#[]⟩]), 3, 32) := by kernel_rfl
set_option maxRecDepth 100000 in
set_option maxHeartbeats 1000000 in
theorem copied_v (w : World) (v : Value) (l : List ValA) (hR : ValsAt w v l) (hl : l.length ≤ 4398046511104) :
    Calls Tryz.prog 19 #[v] w fun e w' => ∃ v', e = .returned v' ∧ w'.ownsRow w.heap.size 51 3 v' l.length (vcs l) ∧ Keeps (fun _ => False) w w' := by
  obtain ⟨i0, hi, hz0, hz1, hz2⟩ := info_parts Tryz.info51
  obtain ⟨ao, cap, rfl⟩ := RowAt.form hR
  have HR := hide hR
  have HL := hide hl
  have hl' : l.length ≤ 9223372036854775807 := by omega
  clear hR hl
  go_enter Tryz.func19, Tryz.ntmps19
  go_wp2
  go_loopw [3, 4] (fun o i wr => ∃ k : Nat, k ≤ l.length ∧ i = .int .i64 k ∧ wr.ownsRow w.heap.size 51 3 o k (vcs (l.take k)) ∧ Keeps (fun _ => False) w wr) (fun _ i _ => l.length - (intOf i).toNat)
  case atStart => exact ⟨0, Nat.zero_le _, rfl, by simpa [vcs] using World.ownsRow_nil w w.heap.size 51 3, Keeps.refl _ _⟩
  case round =>
    obtain ⟨k, hk, rfl, hown, hkeep⟩ := hrel
    have HO := hide hown
    have HK := hide hkeep
    clear hown hkeep
    by_cases hlt : k < l.length
    · obtain ⟨b, off, c, e1, hblt, hc⟩ := (unhide HR).cells (by omega)
      simp at e1
      obtain ⟨rfl, rfl⟩ := e1
      obtain ⟨x, hx⟩ : ∃ x, l[k]? = some x := ⟨_, List.getElem?_eq_getElem hlt⟩
      have p0 := ((unhide HK).cell hblt id).trans (hc k x hx).1
      have p1 := ((unhide HK).cell hblt id).trans (hc k x hx).2.1
      have p2 := ((unhide HK).cell hblt id).trans (hc k x hx).2.2
      have HX := hide hx
      have i1 : (k : Int) < (l.length : Int) := by omega
      have i0' : (0 : Int) ≤ (k : Int) := by omega
      clear hc hx
      go_wp2_with (at_builtin; refine wpList_append_lies _ rfl _ _ _ rfl w.heap.size 51 i0 _ 3 32 Tryz.underlying25 hi hz0 hz1 hz2 rfl (by omega) u3 k (vcs (l.take k)) rfl ((unhide HO).alloc _) ⟨wr.heap.size, 0, none⟩ 1 1 x.cs rfl rfl (World.news_of_block (cs := #[.int .i64 x.kind, .int .i64 x.n, str x.s]) (t := 51) (fr := (0, 0)) (heap_alloc_new wr _)) (by simp [Value.oneCell', ValA.cs]) (by omega) (by unfold maxLen; omega) (by have := unhide HL; omega) (by have := (unhide HK).size; simp; omega) (wr.heap.size + 1) (by simp) ?_; intro g cap w1 hown1 hgrow hat hlt1)
      go_roundw
      case rel =>
        refine ⟨k + 1, by omega, by go_num, ?_, ((unhide HK).alloc _).grown hgrow (fun q e hq => by have := ((unhide HO).lt q e).1; omega)⟩
        rw [take_snoc _ _ _ (unhide HX)]
        simpa [vcs] using hown1
      case measure => simp [intOf]; omega
    · go_wp2
      go_ret
      obtain rfl : k = l.length := by omega
      refine ⟨_, rfl, ?_, unhide HK⟩
      have := unhide HO
      rwa [List.take_length] at this

set_option maxRecDepth 100000 in
set_option maxHeartbeats 2000000 in
theorem eqCode_v (w : World) (va vb : Value) (la lb : List ValA) (ha : ValsAt w va la) (hb : ValsAt w vb lb) (hla : la.length ≤ maxLen) :
    Calls Tryz.prog 14 #[va, vb] w fun e w' => e = .returned (.bool (decide (la = lb))) ∧ Keeps (fun _ => False) w w' := by
  obtain ⟨ao, capa, rfl⟩ := RowAt.form ha
  obtain ⟨bo, capb, rfl⟩ := RowAt.form hb
  unfold maxLen at hla
  by_cases hlen : la.length = lb.length
  · have hne : ((la.length : Int) != (lb.length : Int)) = false := by simp [hlen]
    have HA := hide ha
    have HB := hide hb
    have HL := hide hlen
    clear ha hb hlen
    go_enter Tryz.func14, Tryz.ntmps14
    go_wp2
    go_loopw [5] (fun i wr => ∃ k : Nat, k ≤ la.length ∧ i = .int .i64 k ∧ Hid (la.take k = lb.take k) ∧ ∃ n, wr = w.drewN n) (fun i _ => la.length - (intOf i).toNat)
    case atStart => exact ⟨0, Nat.zero_le _, rfl, rfl, 0, rfl⟩
    case round =>
      obtain ⟨k, hk, rfl, HT, n, rfl⟩ := hrel
      by_cases hlt : k < la.length
      · have hltb : k < lb.length := by have := unhide HL; omega
        obtain ⟨b1, o1, c1, e1, _, hc1⟩ := (unhide HA).cells (by omega)
        obtain ⟨b2, o2, c2, e2, _, hc2⟩ := (unhide HB).cells (by omega)
        simp at e1 e2
        obtain ⟨rfl, rfl⟩ := e1
        obtain ⟨rfl, rfl⟩ := e2
        obtain ⟨x, hx⟩ : ∃ x, la[k]? = some x := ⟨_, List.getElem?_eq_getElem hlt⟩
        obtain ⟨y, hy⟩ : ∃ y, lb[k]? = some y := ⟨_, List.getElem?_eq_getElem hltb⟩
        obtain ⟨p0, p1, p2⟩ := hc1 k x hx
        obtain ⟨q0, q1, q2⟩ := hc2 k y hy
        have i1 : (k : Int) < (la.length : Int) := by omega
        have i2 : (k : Int) < (lb.length : Int) := by omega
        have i0 : (0 : Int) ≤ (k : Int) := by omega
        have HX := hide hx
        have HY := hide hy
        clear hc1 hc2 hx hy
        have HEQ : Hid (x = y ∨ x ≠ y) := Classical.em _
        obtain ⟨xk, xn, xs⟩ := x
        obtain ⟨yk, yn, ys⟩ := y
        simp only at *
        by_cases h1 : xk = yk
        · subst h1
          by_cases h2 : xn = yn
          · subst h2
            by_cases h3 : xs = ys
            · subst h3
              go_wp2_with fail
              go_quiet (fail)
              go_wp2
              go_roundw
              case rel => exact ⟨k + 1, by omega, by go_num, take_succ_eq (unhide HT) (unhide HX) (unhide HY), _, rfl⟩
              case measure => simp [intOf]; omega
            · have h3' : (!xs == ys) = true := by simpa using h3
              have HN : Hid ((⟨xk, xn, xs⟩ : ValA) ≠ ⟨xk, xn, ys⟩) := by intro e; simp at e; exact h3 e
              go_wp2_with fail
              go_quiet (fail)
              go_wp2
              go_ret
              exact ⟨ret_bool (by symm; rw [decide_eq_false_iff_not]; exact get_ne (unhide HX) (unhide HY) (unhide HN)), (keeps_drewN _ _).drewN _⟩
          · have hb' : (xn != yn) = true := by rw [bne_iff_ne]; exact h2
            have HN : Hid ((⟨xk, xn, xs⟩ : ValA) ≠ ⟨xk, yn, ys⟩) := by intro e; simp at e; exact h2 e.1
            clear h2
            go_wp2_with fail
            go_quiet (fail)
            go_wp2
            go_ret
            exact ⟨ret_bool (by symm; rw [decide_eq_false_iff_not]; exact get_ne (unhide HX) (unhide HY) (unhide HN)), (keeps_drewN _ _).drewN _⟩
        · have hb' : (xk != yk) = true := by rw [bne_iff_ne]; exact h1
          have HN : Hid ((⟨xk, xn, xs⟩ : ValA) ≠ ⟨yk, yn, ys⟩) := by intro e; simp at e; exact h1 e.1
          clear h1
          go_wp2_with fail
          go_quiet (fail)
          go_wp2
          go_ret
          exact ⟨ret_bool (by symm; rw [decide_eq_false_iff_not]; exact get_ne (unhide HX) (unhide HY) (unhide HN)), (keeps_drewN _ _).drewN _⟩
      · have HF := hide (take_end (unhide HL) (by omega) (unhide HT))
        go_wp2
        go_ret
        exact ⟨ret_bool (by symm; rw [decide_eq_true_iff]; exact unhide HF), keeps_drewN _ _⟩
  · have hne : ((la.length : Int) != (lb.length : Int)) = true := by rw [bne_iff_ne]; omega
    have HL := hide hlen
    clear hlen
    go_enter Tryz.func14, Tryz.ntmps14
    go_wp2
    go_ret
    exact ⟨ret_bool (by symm; rw [decide_eq_false_iff_not]; intro e; exact unhide HL (by rw [e])), Keeps.refl _ _⟩

end Go.Proofs.YtcicaifioghciaaGreatDoor
namespace Go.Proofs.YtcicaifioghciaaGreatDoor
open Go.RowKit Go.Maps

/-- What all of package code wants of the world. -/
structure Env (w : World) : Prop where
  ops : Ops w
  types : Types w
theorem Env.keepF {w w' : World} (h : Env w) (hk : Keeps (fun _ => False) w w') : Env w' := ⟨h.ops.keepF hk, h.types.keepF hk⟩
theorem encC_len (l : List ValA) : (encC l).1.length ≤ 96 := by
  unfold encC
  repeat' split
  all_goals (simp only [List.length_nil]; omega)
end Go.Proofs.YtcicaifioghciaaGreatDoor
namespace Go.Proofs.YtcicaifioghciaaGreatDoor
open Go.ChangeShapes Go.WideShapes Go.ChangeAt Go.RowKit Go.Deep

theorem e2 : Tryz.prog.cellsOf 2 = 1 := by kernel_rfl
theorem e3 : Tryz.prog.cellsOf 3 = 1 := by kernel_rfl
theorem e4 : Tryz.prog.cellsOf 4 = 1 := by kernel_rfl
theorem e5 : Tryz.prog.cellsOf 5 = 1 := by kernel_rfl
theorem e9 : Tryz.prog.cellsOf 9 = 1 := by kernel_rfl
theorem e79 : Tryz.prog.cellsOf 69 = 1 := by kernel_rfl
theorem e80 : Tryz.prog.cellsOf 70 = 1 := by kernel_rfl
theorem str_of (s : ByteArray) : Value.string s = str s.data.toList := by cases s; simp
theorem gOps : Tryz.prog.globalNamed "arbor/code.operations" = some 0 := by kernel_rfl
theorem tOps : (Tryz.prog.globals[0]?).map (·.type) = some 73 := by kernel_rfl
theorem c82 : Tryz.prog.cellsOf 72 = 5 := by kernel_rfl
theorem c83 : Tryz.prog.cellsOf 73 = 135 := by kernel_rfl
/-- A row of the table, as a datum. -/
def OpA.dat (f : OpA) : DataW Unit := .agg [.lit (.string f.word), .lit (.int .i64 f.opd), .lit (.int .i64 (f.takes : Int)), .lit (.int .i64 f.of), .lit (.int .i64 f.gives)]
theorem ops_dat : (Rows.laid_arbor_code_operations : DataW Unit) = .agg (opsL.map OpA.dat) := rfl
set_option maxRecDepth 100000 in
theorem op_el {W : World} {m : Nat} {cs : List Value} {x : DataW Unit × List MemPlace} {f : OpA} (h : DataW.trod (fun _ => ()) Tryz.prog W 0 (fun _ => true) false m 72 cs = some x) (hx : x.1 = f.dat) : cs = f.cs := by
  obtain ⟨xs, k, _, rfl, hl, hlen, hf⟩ := DataW.trod_struct Tryz.underlying72 h
  have hl' : cs.length = 5 := hl.trans c82
  match xs, hlen, cs, hl' with
  | [y0, y1, y2, y3, y4], _, [a0, a1, a2, a3, a4], _ =>
    have h0 : DataW.trod (fun _ => ()) Tryz.prog W 0 (fun _ => true) false k 9 (([a0, a1, a2, a3, a4].drop 0).take (Tryz.prog.cellsOf 9)) = some y0 := hf 0 _ rfl
    have h1 : DataW.trod (fun _ => ()) Tryz.prog W 0 (fun _ => true) false k 69 (([a0, a1, a2, a3, a4].drop 1).take (Tryz.prog.cellsOf 69)) = some y1 := hf 1 _ rfl
    have h2 : DataW.trod (fun _ => ()) Tryz.prog W 0 (fun _ => true) false k 3 (([a0, a1, a2, a3, a4].drop 2).take (Tryz.prog.cellsOf 3)) = some y2 := hf 2 _ rfl
    have h3 : DataW.trod (fun _ => ()) Tryz.prog W 0 (fun _ => true) false k 70 (([a0, a1, a2, a3, a4].drop 3).take (Tryz.prog.cellsOf 70)) = some y3 := hf 3 _ rfl
    have h4 : DataW.trod (fun _ => ()) Tryz.prog W 0 (fun _ => true) false k 70 (([a0, a1, a2, a3, a4].drop 4).take (Tryz.prog.cellsOf 70)) = some y4 := hf 4 _ rfl
    rw [e9] at h0
    rw [e79] at h1
    rw [e3] at h2
    rw [e80] at h3 h4
    obtain ⟨s0, q0, w0, _⟩ := DataW.trod_string Tryz.underlying9 h0
    obtain ⟨n1, q1, w1, _⟩ := DataW.trod_int Tryz.underlying69 h1
    obtain ⟨n2, q2, w2, _⟩ := DataW.trod_int Tryz.underlying3 h2
    obtain ⟨n3, q3, w3, _⟩ := DataW.trod_int Tryz.underlying70 h3
    obtain ⟨n4, q4, w4, _⟩ := DataW.trod_int Tryz.underlying70 h4
    simp only [OpA.dat, DataW.agg.injEq, List.map_cons, List.map_nil, List.cons.injEq, and_true] at hx
    rw [w0, w1, w2, w3, w4] at hx
    simp at hx q0 q1 q2 q3 q4
    obtain ⟨r0, r1, r2, r3, r4⟩ := hx
    rw [q0, q1, q2, q3, q4, str_of, r0, r1, r2, r3, r4]
    rfl
theorem gTypes : Tryz.prog.globalNamed "arbor/value.types" = some 1 := by kernel_rfl
theorem tTypes : (Tryz.prog.globals[1]?).map (·.type) = some 148 := by kernel_rfl

theorem c92 : Tryz.prog.cellsOf 147 = 2 := by kernel_rfl
theorem c93 : Tryz.prog.cellsOf 148 = 8 := by kernel_rfl

theorem types_el {W : World} {m : Nat} {a b : Value} {x : DataW Unit × List MemPlace} {s : Txt} {n : Int} (h : DataW.trod (fun _ => ()) Tryz.prog W 0 (fun _ => true) false m 147 [a, b] = some x) (hx : x.1 = .agg [.lit (.string s), .lit (.int .i64 n)]) : a = str s ∧ b = .int .i64 n := by
  obtain ⟨xs, k, _, rfl, hl, hlen, hf⟩ := DataW.trod_struct Tryz.underlying147 h
  match xs, hlen with
  | [y0, y1], _ =>
    have h0 : DataW.trod (fun _ => ()) Tryz.prog W 0 (fun _ => true) false k 9 (([a, b].drop 0).take (Tryz.prog.cellsOf 9)) = some y0 := hf 0 _ rfl
    have h1 : DataW.trod (fun _ => ()) Tryz.prog W 0 (fun _ => true) false k 3 (([a, b].drop 1).take (Tryz.prog.cellsOf 3)) = some y1 := hf 1 _ rfl
    rw [e9] at h0
    rw [e3] at h1
    obtain ⟨s', q0, hs', _⟩ := DataW.trod_string Tryz.underlying9 h0
    obtain ⟨n', q1, hn', _⟩ := DataW.trod_int Tryz.underlying3 h1
    simp only [DataW.agg.injEq, List.map_cons, List.map_nil, List.cons.injEq, and_true] at hx
    rw [hs', hn'] at hx
    simp at hx q0 q1
    rw [q0, q1, str_of, hx.1, hx.2]
    exact ⟨rfl, rfl⟩

set_option maxRecDepth 100000 in
theorem types_met {W : World} (h : laidMetH Tryz.prog [("arbor/value.types", Rows.laid_arbor_value_types)] W) : Types W := by
  rw [MakeChecks.laidMetH_plain _ _ _ (by kernel_rfl)] at h
  obtain ⟨ps, ⟨g0, t0, cs0, f0, p0, q0, hg0, ht0, hv0, hd0, _, _⟩, _, _⟩ := h
  obtain rfl := Option.some.inj (gTypes.symm.trans hg0)
  obtain rfl := Option.some.inj (tTypes.symm.trans ht0)
  obtain ⟨xs, m1, rfl, hx1, hlen, hn3, hel⟩ := DataW.trod_array Tryz.underlying148 hd0
  have q := fun j => World.var?_cell hg0 hv0 j
  obtain ⟨cl⟩ := cs0
  have hlen' : cl.length = 8 := hlen.trans c93
  have hel' : ∀ i, i < 4 → DataW.trod (fun _ => ()) Tryz.prog W 0 (fun _ => true) false m1 147 ((cl.drop (i * 2)).take 2) = xs[i]? := fun i hi => by
    have := hel i hi
    rw [c92] at this
    exact this
  clear hel hlen hd0
  match cl, hlen', xs, hn3 with
  | [c0, c1, c2, c3, c4, c5, c6, c7], _, [x0, x1, x2, x3], _ =>
    simp only [Prod.mk.injEq, Rows.laid_arbor_value_types, DataW.agg.injEq, List.map_cons, List.map_nil, List.cons.injEq, and_true] at hx1
    obtain ⟨⟨e0, e1, e2, e3⟩, _⟩ := hx1
    have h0 := types_el (hel' 0 (by decide)) e0.symm
    have h1 := types_el (hel' 1 (by decide)) e1.symm
    have h2 := types_el (hel' 2 (by decide)) e2.symm
    have h3 := types_el (hel' 3 (by decide)) e3.symm
    have hq0 := q 0
    have hlt : 1 < W.heap.size := by
      have := World.block_lt_of_cell? W ⟨1, 0, none⟩ (u := c0) (by rw [hq0]; rfl)
      exact this
    refine ⟨hlt, fun j x hx => ?_⟩
    rw [q j]
    obtain ⟨rfl, rfl⟩ := h0
    obtain ⟨rfl, rfl⟩ := h1
    obtain ⟨rfl, rfl⟩ := h2
    obtain ⟨rfl, rfl⟩ := h3
    exact hx

theorem ops_met {W : World} (h : laidMetH Tryz.prog [("arbor/code.operations", Rows.laid_arbor_code_operations)] W) : Ops W := by
  rw [MakeChecks.laidMetH_plain _ _ _ (by kernel_rfl)] at h
  obtain ⟨ps, ⟨g0, t0, cs0, f0, p0, q0, hg0, ht0, hv0, hd0, _, _⟩, _, _⟩ := h
  obtain rfl := Option.some.inj (gOps.symm.trans hg0)
  obtain rfl := Option.some.inj (tOps.symm.trans ht0)
  obtain ⟨xs, m1, rfl, hx1, hlen, hn3, hel⟩ := DataW.trod_array Tryz.underlying73 hd0
  have q := fun j => World.var?_cell hg0 hv0 j
  obtain ⟨cl⟩ := cs0
  have hlen' : cl.length = 135 := hlen.trans c83
  have hxs : xs.map (·.1) = opsL.map OpA.dat := by
    have := (Prod.mk.inj hx1).1
    rw [ops_dat] at this
    exact (DataW.agg.inj this).symm
  have el : ∀ (i : Nat) (f : OpA), opsL[i]? = some f → (cl.drop (i * 5)).take 5 = f.cs := fun i f hf => by
    have hi : i < 27 := (List.getElem?_eq_some_iff.1 hf).1
    have h1 : (xs.map (·.1))[i]? = some f.dat := by rw [hxs]; simp [hf]
    cases hx : xs[i]? with
    | none => rw [List.getElem?_map, hx] at h1; cases h1
    | some x =>
      rw [List.getElem?_map, hx] at h1
      have h2 := hel i hi
      rw [c82, hx] at h2
      exact op_el h2 (Option.some.inj h1)
  have hlt : 0 < W.heap.size := by
    obtain ⟨c, hc⟩ : ∃ c, cl[0]? = some c := ⟨_, List.getElem?_eq_getElem (by omega)⟩
    have := World.block_lt_of_cell? W ⟨0, 0, none⟩ (u := c) (by rw [q 0]; simpa using hc)
    exact this
  refine ⟨hlt, fun i f hf j x hx => ?_⟩
  have hj : j < 5 := (List.getElem?_eq_some_iff.1 hx).1
  have hq := q (i * 5 + j)
  rw [hq]
  have := congrArg (fun l => l[j]?) (el i f hf)
  simp only [List.getElem?_take, hj, if_true, List.getElem?_drop] at this
  simpa [this] using hx

theorem env_of {W : World} {l : List (String × _)} (hl : l = [("arbor/value.types", Rows.laid_arbor_value_types), ("arbor/code.operations", Rows.laid_arbor_code_operations)]) (h : laidMetH Tryz.prog l W) : Env W := by
  subst hl
  have h1 := h.filter (fun x => x.1 == "arbor/value.types")
  have h2 := h.filter (fun x => x.1 == "arbor/code.operations")
  rw [show [("arbor/value.types", Rows.laid_arbor_value_types), ("arbor/code.operations", Rows.laid_arbor_code_operations)].filter (fun x => x.1 == "arbor/value.types") = [("arbor/value.types", Rows.laid_arbor_value_types)] by rfl] at h1
  rw [show [("arbor/value.types", Rows.laid_arbor_value_types), ("arbor/code.operations", Rows.laid_arbor_code_operations)].filter (fun x => x.1 == "arbor/code.operations") = [("arbor/code.operations", Rows.laid_arbor_code_operations)] by rfl] at h2
  exact ⟨ops_met h2, types_met h1⟩

end Go.Proofs.YtcicaifioghciaaGreatDoor
namespace Go.Proofs.YtcicaifioghciaaGreatDoor
open Go.ChangeShapes Go.WideShapes Go.ChangeAt Go.RowKit Go.Deep

theorem i64_hi {x : Int} (h : (Lit.int .i64 x).wf = true) : -9223372036854775808 ≤ x ∧ x ≤ 9223372036854775807 := by
  simp [Lit.wf, IntKind.min, IntKind.max, IntKind.signed, IntKind.bits] at h
  omega
theorem e52 : Tryz.prog.cellsOf 51 = 3 := by kernel_rfl
theorem b52 : Tryz.prog.bytesOf 51 = 32 := by kernel_rfl
theorem b5 : Tryz.prog.bytesOf 5 = 1 := by kernel_rfl
instance : Inhabited ValA := ⟨⟨0, 0, []⟩⟩
theorem flat_at {α : Type} (g : α → List Value) (sz : Nat) (hs : 0 < sz) (hg : ∀ x, (g x).length = sz) : ∀ (l : List α) (j : Nat), (l.flatMap g)[j]? = (l[j / sz]?).bind fun x => (g x)[j % sz]?
  | [], j => by simp
  | y :: r, j => by
    simp only [List.flatMap_cons]
    by_cases h : j < sz
    · rw [List.getElem?_append_left (by rw [hg]; exact h), Nat.div_eq_of_lt h, Nat.mod_eq_of_lt h]
      rfl
    · rw [List.getElem?_append_right (by rw [hg]; omega), hg, flat_at g sz hs hg r (j - sz)]
      have h1 : j / sz = (j - sz) / sz + 1 := by rw [Nat.div_eq j sz, if_pos ⟨hs, by omega⟩]
      have h2 : j % sz = (j - sz) % sz := Nat.mod_eq_sub_mod (by omega)
      rw [h1, h2]
      rfl

section
variable {H : Type} {enc : TypeId × Value → H} {W : World} {fuel : Nat}

/-- A slice, opened element by element. -/
theorem rowsOf {α : Type} [Inhabited α] (g : α → List Value) (sz : Nat) (hs : 0 < sz) (hg : ∀ x, (g x).length = sz) {t e : TypeId} (ht : Tryz.prog.underlying t = some (.slice e)) (hc : Tryz.prog.cellsOf e = sz) {Q : α → Prop}
    (el : ∀ (fuel : Nat) (cs : List Value) (x : DataW H × List MemPlace), DataW.trod enc Tryz.prog W 0 (fun _ => true) true fuel e cs = some x → ∃ a, cs = g a ∧ Q a)
    {c : Value} {x : DataW H × List MemPlace} (h : DataW.trod enc Tryz.prog W 0 (fun _ => true) true fuel t [c] = some x) :
    ∃ l : List α, RowAt W c l.length (l.flatMap g) ∧ ∀ a ∈ l, Q a := by
  rcases open_slice ht h with ⟨hcs, _⟩ | ⟨a, len, cap, m, n, D, Pl, hcs, _, hl, hm, hmm, hx, hel⟩
  · simp at hcs
    subst hcs
    exact ⟨[], ⟨⟨_, _, rfl⟩, fun h0 => by simp at h0, fun ao m cap e => by simp at e; omega⟩, fun _ h => by cases h⟩
  · simp at hcs
    subst hcs
    simp at hmm
    rw [hc] at hel
    have hev : ∀ i, i < len → ∃ p : α, (∀ j v, (g p)[j]? = some v → W.cell? ((a.add (i * sz)).add j) = some v) ∧ Q p := by
      intro i hi
      obtain ⟨cs', hcs', htr⟩ := hel i (by omega)
      obtain ⟨p, rfl, hq⟩ := el _ _ _ htr
      obtain ⟨_, _, hcc⟩ := World.cells?_some hcs'
      refine ⟨p, fun j v hv => ?_, hq⟩
      have hj := (List.getElem?_eq_some_iff.1 hv).1
      have := hcc j (by rw [hg] at hj; omega)
      rw [this]
      simpa using hv
    obtain ⟨f, hf⟩ := choose_lt hev
    refine ⟨(List.range len).map f, ⟨⟨_, _, by simp; exact ⟨rfl, rfl⟩⟩, fun h0 => ?_, fun ao m cap' e => by simp at e; omega⟩, ?_⟩
    · simp at h0
      have hg0 : 0 < (g (f 0)).length := by rw [hg]; exact hs
      have hc0 := (hf 0 h0).1 0 _ (List.getElem?_eq_getElem hg0)
      have hspot : a.spot = none := by
        have := World.cell?_spot hc0
        simpa [Addr.add] using this
      obtain ⟨b, off, spot⟩ := a
      simp at hspot
      subst hspot
      refine ⟨b, off, cap, by simp, ?_, fun j v hv => ?_⟩
      · have := World.block_lt_of_cell? W _ hc0
        simpa [Addr.add] using this
      · rw [flat_at g sz hs hg] at hv
        cases hi : ((List.range len).map f)[j / sz]? with
        | none => rw [hi] at hv; cases hv
        | some p =>
          rw [hi] at hv
          have hil : j / sz < len := by
            have := (List.getElem?_eq_some_iff.1 hi).1
            simpa using this
          have hpe : f (j / sz) = p := by simpa [hil] using hi
          have := (hf (j / sz) hil).1 (j % sz) v (by rw [hpe]; exact hv)
          simp only [Addr.add_lit] at this
          rw [show off + j = off + j / sz * sz + j % sz by have := Nat.div_add_mod j sz; rw [Nat.mul_comm] at this; omega]
          exact this
    · intro y hy
      obtain ⟨i, hi, rfl⟩ := List.mem_map.1 hy
      exact (hf i (List.mem_range.1 hi)).2


set_option maxRecDepth 100000 in
theorem ins_read (fuel : Nat) (cs : List Value) (x : DataW H × List MemPlace) (h : DataW.trod enc Tryz.prog W 0 (fun _ => true) true fuel 51 cs = some x) : ∃ f : ValA, cs = f.cs ∧ (-9223372036854775808 ≤ f.n ∧ f.n ≤ 9223372036854775807) := by
  obtain ⟨xs, m, hm, _, hl, hlen, hf⟩ := DataW.trod_struct Tryz.underlying51 h
  have hl' : cs.length = 3 := hl.trans e52
  match xs, hlen, cs, hl' with
  | [y0, y1, y2], _, [c0, c1, c2], _ =>
    have h0 : DataW.trod enc Tryz.prog W 0 (fun _ => true) true m 3 (([c0, c1, c2].drop 0).take (Tryz.prog.cellsOf 3)) = some y0 := hf 0 _ rfl
    have h1 : DataW.trod enc Tryz.prog W 0 (fun _ => true) true m 2 (([c0, c1, c2].drop 1).take (Tryz.prog.cellsOf 2)) = some y1 := hf 1 _ rfl
    have h2 : DataW.trod enc Tryz.prog W 0 (fun _ => true) true m 9 (([c0, c1, c2].drop 2).take (Tryz.prog.cellsOf 9)) = some y2 := hf 2 _ rfl
    rw [e3] at h0
    rw [e2] at h1
    rw [e9] at h2
    simp only [List.drop_zero, List.take_succ_cons, List.take_zero, List.drop_succ_cons] at h0 h1 h2
    obtain ⟨k, q0, _, _⟩ := DataW.trod_int Tryz.underlying3 h0
    obtain ⟨i, q1, _, w1⟩ := DataW.trod_int Tryz.underlying2 h1
    obtain ⟨s, q2, _, _⟩ := DataW.trod_string Tryz.underlying9 h2
    simp at q0 q1 q2
    exact ⟨⟨k, i, s.data.toList⟩, by rw [q0, q1, q2, str_of]; rfl, i64_hi w1⟩
theorem byte_read (fuel : Nat) (cs : List Value) (x : DataW H × List MemPlace) (h : DataW.trod enc Tryz.prog W 0 (fun _ => true) true fuel 5 cs = some x) : ∃ f : UInt8, cs = [Value.int .u8 (num f)] ∧ True := by
  obtain ⟨k, q0, _, w0⟩ := DataW.trod_int Tryz.underlying5 h
  have hk : 0 ≤ k ∧ k ≤ 255 := by
    simp [Lit.wf, IntKind.min, IntKind.max, IntKind.signed, IntKind.bits] at w0
    omega
  exact ⟨u8 k, by rw [q0, u8_num hk.1 hk.2], trivial⟩
theorem flat_bs : ∀ l : Txt, l.flatMap (fun f : UInt8 => [Value.int .u8 (num f)]) = bs l
  | [] => rfl
  | a :: r => by
    have := flat_bs r
    simp only [List.flatMap_cons, this]
    rfl
theorem len32 {fuel : Nat} {c : Value} {x : DataW H × List MemPlace} (h : DataW.trod enc Tryz.prog W 0 (fun _ => true) true fuel 25 [c] = some x) (hw : ∀ n ∈ x.1.weights Tryz.prog 25, n ≤ reachBytes) {n : Nat} {xs : List Value} (hr : RowAt W c n xs) : n ≤ 4398046511104 := by
  obtain ⟨ao, cp, hform⟩ := hr.form
  rcases DataW.trod_slice Tryz.underlying25 h with ⟨hcs, _⟩ | ⟨a, len, cap, elems, rest, n', hn, hcs, hxx, _, hlc, _, hel, _, _, _⟩
  · simp at hcs
    rw [hcs] at hform
    simp at hform
    omega
  · have := hw ((elems.length + rest.length) * 32) (by
      rw [hxx]
      simp only [DataW.weights, Tryz.underlying25, List.length_map, b52]
      exact List.mem_cons_self ..)
    unfold reachBytes at this
    simp at hcs
    rw [hcs] at hform
    simp at hform
    omega
theorem len1 {fuel : Nat} {c : Value} {x : DataW H × List MemPlace} (h : DataW.trod enc Tryz.prog W 0 (fun _ => true) true fuel 29 [c] = some x) (hw : ∀ n ∈ x.1.weights Tryz.prog 29, n ≤ reachBytes) {n : Nat} {xs : List Value} (hr : RowAt W c n xs) : n ≤ 140737488355328 := by
  obtain ⟨ao, cp, hform⟩ := hr.form
  rcases DataW.trod_slice Tryz.underlying29 h with ⟨hcs, _⟩ | ⟨a, len, cap, elems, rest, n', hn, hcs, hxx, _, hlc, _, hel, _, _, _⟩
  · simp at hcs
    rw [hcs] at hform
    simp at hform
    omega
  · have := hw ((elems.length + rest.length) * 1) (by
      rw [hxx]
      simp only [DataW.weights, Tryz.underlying29, List.length_map, b5]
      exact List.mem_cons_self ..)
    unfold reachBytes at this
    simp at hcs
    rw [hcs] at hform
    simp at hform
    omega
theorem ins_in {fuel : Nat} {c : Value} {x : DataW H × List MemPlace} (h : DataW.trod enc Tryz.prog W 0 (fun _ => true) true fuel 25 [c] = some x) (hw : ∀ n ∈ x.1.weights Tryz.prog 25, n ≤ reachBytes) : ∃ l : List ValA, ValsAt W c l ∧ InR l ∧ l.length ≤ 4398046511104 := by
  obtain ⟨l, hl, hq⟩ := rowsOf ValA.cs 3 (by omega) (fun _ => rfl) Tryz.underlying25 e52 ins_read h
  exact ⟨l, hl, hq, len32 h hw hl⟩
theorem bytes_in {fuel : Nat} {c : Value} {x : DataW H × List MemPlace} (h : DataW.trod enc Tryz.prog W 0 (fun _ => true) true fuel 29 [c] = some x) (hw : ∀ n ∈ x.1.weights Tryz.prog 29, n ≤ reachBytes) : ∃ l : Txt, BytesAt W c l ∧ l.length ≤ 140737488355328 := by
  obtain ⟨l, hl, _⟩ := rowsOf (fun f : UInt8 => [Value.int .u8 (num f)]) 1 (by omega) (fun _ => rfl) Tryz.underlying29 e5 byte_read h
  rw [flat_bs] at hl
  exact ⟨l, hl, len1 h hw hl⟩
end

end Go.Proofs.YtcicaifioghciaaGreatDoor
