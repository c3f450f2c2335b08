import Derived.Test.YtafniangljmjeabDoorEa
namespace Go.Proofs.YtafniangljmjeabDoor
open Go.RowKit Go.Maps

/-- Are all forms right, and the bytes few enough? -/
def rightsB (l : List ValA) : Bool := decide (firstE l = 0) && decide ((bytesC l).length ≤ 96)
theorem rightsB_of {l : List ValA} (h : rightsB l = true) : firstE l = 0 ∧ (bytesC l).length ≤ 96 ∧ encC l = (bytesC l, 0) ∧ l.length ≤ 96 := by
  unfold rightsB at h
  simp at h
  have := bytesC_len l
  exact ⟨h.1, h.2, encC_of h.1 h.2, by omega⟩
set_option maxRecDepth 100000 in
set_option maxHeartbeats 1000000 in
theorem joined_v (w : World) (va vb : Value) (la lb : List ValA) (ha : ValsAt w va la) (hb : ValsAt w vb lb) (hla : la.length ≤ 96) (hlb : lb.length ≤ 96) :
    Calls Tryd.prog 14 #[va, vb] w fun e w' => ∃ v', e = .returned v' ∧ w'.ownsRow w.heap.size 54 3 v' (la ++ lb).length (vcs (la ++ lb)) ∧ Keeps (fun _ => False) w w' := by
  obtain ⟨i0, hi, hz0, hz1, hz2⟩ := info_parts Tryd.info54
  have HQ := hide (copied_v w va la ha (by omega))
  obtain ⟨ao, capa, rfl⟩ := RowAt.form ha
  obtain ⟨bo, capb, rfl⟩ := RowAt.form hb
  have HB := hide hb
  clear ha hb
  go_enter Tryd.func14, Tryd.ntmps14
  go_wp2_with fail
  refine (unhide HQ).mono ?_
  rintro e w1 ⟨v1, rfl, ho1, hk1⟩
  have HO1 := hide ho1
  have HK1 := hide hk1
  clear HQ ho1 hk1
  go_wp2_with fail
  go_loopw [5, 6] (fun o i wr => ∃ k : Nat, k ≤ lb.length ∧ i = .int .i64 k ∧ wr.ownsRow w.heap.size 54 3 o (la.length + k) (vcs (la ++ lb.take k)) ∧ Keeps (fun _ => False) w wr) (fun _ i _ => lb.length - (intOf i).toNat)
  case atStart => exact ⟨0, Nat.zero_le _, rfl, by simpa using unhide HO1, unhide HK1⟩
  case round =>
    obtain ⟨k, hk, rfl, hown, hkeep⟩ := hrel
    have HO := hide hown
    have HK := hide hkeep
    clear hown hkeep
    by_cases hlt : k < lb.length
    · obtain ⟨b, off, c, e1, hblt, hc⟩ := (unhide HB).cells (by omega)
      simp at e1
      obtain ⟨rfl, rfl⟩ := e1
      obtain ⟨x, hx⟩ : ∃ x, lb[k]? = some x := ⟨_, List.getElem?_eq_getElem hlt⟩
      have p0 := ((unhide HK).cell hblt id).trans (hc k x hx).1
      have p1 := ((unhide HK).cell hblt id).trans (hc k x hx).2.1
      have p2 := ((unhide HK).cell hblt id).trans (hc k x hx).2.2
      have HX := hide hx
      have i1 : (k : Int) < (lb.length : Int) := by omega
      have i0' : (0 : Int) ≤ (k : Int) := by omega
      clear hc hx
      go_wp2_with (at_builtin; refine wpList_append_lies _ rfl _ _ _ rfl w.heap.size 54 i0 _ 3 32 Tryd.underlying25 hi hz0 hz1 hz2 rfl (by omega) u5 (la.length + k) (vcs (la ++ lb.take k)) rfl ((unhide HO).alloc _) ⟨wr.heap.size, 0, none⟩ 1 1 x.cs rfl rfl (World.news_of_block (cs := #[.int .i64 x.kind, .int .i64 x.n, str x.s]) (t := 54) (fr := (0, 0)) (heap_alloc_new wr _)) (by simp [Value.oneCell', ValA.cs]) (by omega) (by unfold maxLen; omega) (by omega) (by have := (unhide HK).size; simp; omega) (wr.heap.size + 1) (by simp) ?_; intro g cap w3 hown1 hgrow hat hlt1)
      go_roundw
      case rel =>
        refine ⟨k + 1, by omega, by go_num, ?_, ((unhide HK).alloc _).grown hgrow (fun q e hq => by have := ((unhide HO).lt q e).1; omega)⟩
        rw [take_snoc _ _ _ (unhide HX), ← List.append_assoc, ← Nat.add_assoc]
        simpa [vcs] using hown1
      case measure => simp [intOf]; omega
    · go_wp2
      go_ret
      obtain rfl : k = lb.length := by omega
      refine ⟨_, rfl, ?_, unhide HK⟩
      have := unhide HO
      rw [List.take_length] at this
      rw [List.length_append]
      exact this

theorem firstE_append {a b : List ValA} (ha : firstE a = 0) (hb : firstE b = 0) : firstE (a ++ b) = 0 :=
  firstE_of fun i hi => by
    rcases List.mem_append.1 hi with h | h
    · exact firstE_zero ha i h
    · exact firstE_zero hb i h
theorem encC_join {a b : List ValA} (ha : firstE a = 0) (hb : firstE b = 0) : encC (a ++ b) = if 96 < (bytesC a).length + (bytesC b).length then ([], 110) else (bytesC a ++ bytesC b, 0) := by
  have e := bytesC_append a b
  by_cases h : 96 < (bytesC a).length + (bytesC b).length
  · rw [if_pos h]
    by_cases h2 : 96 < (a ++ b).length
    · exact encC_long h2
    · exact encC_big (by omega) (firstE_append ha hb) (by rw [e, List.length_append]; exact h)
  · rw [if_neg h, encC_of (firstE_append ha hb) (by rw [e, List.length_append]; omega), e]
theorem InR_append {a b : List ValA} (ha : InR a) (hb : InR b) : InR (a ++ b) := fun x hx => by
  rcases List.mem_append.1 hx with h | h
  · exact ha x h
  · exact hb x h

end Go.Proofs.YtafniangljmjeabDoor
