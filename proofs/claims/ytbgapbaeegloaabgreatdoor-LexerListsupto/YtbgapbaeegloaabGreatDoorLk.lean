import Derived.Test.YtbgapbaeegloaabGreatDoorLh
namespace Go.Proofs.YtbgapbaeegloaabGreatDoor
open Go.RowKit Go.Maps

theorem Tryz.info31 : (Tryz.prog.info? 31).map (fun i => (i.zero, i.size, i.bytes)) = some (some (.agg #[.int .i64 0, .string ⟨#[]⟩, .int .i64 0, .int .i64 0]), 4, 40) := by kernel_rfl
set_option maxRecDepth 100000 in
set_option maxHeartbeats 4000000 in
/-- The same tokens are the same. -/
theorem eqTokens_same (w : World) (va vb : Value) (l : List TokA) (ha : ToksAt w va l) (hb : ToksAt w vb l) (hl : l.length ≤ 3518437208883) :
    Calls Tryz.prog 7 #[va, vb] w fun e w' => e = .returned (.bool true) ∧ Keeps (fun _ => False) w w' := by
  obtain ⟨ao, capa, rfl⟩ := RowAt.form ha
  obtain ⟨bo, capb, rfl⟩ := RowAt.form hb
  have HA := hide ha
  have HB := hide hb
  have hl' : l.length ≤ 9223372036854775807 := by omega
  clear ha hb hl
  go_enter Tryz.func7, Tryz.ntmps7
  go_wp2
  go_loopw [5] (fun i wr => ∃ k : Nat, k ≤ l.length ∧ i = .int .i64 k ∧ Keeps (fun _ => False) w wr) (fun i _ => l.length - (intOf i).toNat)
  case atStart => exact ⟨0, Nat.zero_le _, rfl, Keeps.refl _ _⟩
  case round =>
    obtain ⟨k, hk, rfl, hkp⟩ := hrel
    have HK := hide hkp
    by_cases hlt : k < l.length
    · obtain ⟨b, off, c1, e1, hbl, hc⟩ := (unhide HA).cells (by omega)
      obtain ⟨b', off', c2, e2, hbl', hc'⟩ := (unhide HB).cells (by omega)
      simp at e1 e2
      obtain ⟨rfl, rfl⟩ := e1
      obtain ⟨rfl, rfl⟩ := e2
      obtain ⟨x, hx⟩ : ∃ x, l[k]? = some x := ⟨_, List.getElem?_eq_getElem hlt⟩
      have c0 := (hkp.cell hbl id).trans (hc k x hx).1
      have c1 := (hkp.cell hbl id).trans (hc k x hx).2.1
      have c2 := (hkp.cell hbl id).trans (hc k x hx).2.2.1
      have c3 := (hkp.cell hbl id).trans (hc k x hx).2.2.2
      have d0 := (hkp.cell hbl' id).trans (hc' k x hx).1
      have d1 := (hkp.cell hbl' id).trans (hc' k x hx).2.1
      have d2 := (hkp.cell hbl' id).trans (hc' k x hx).2.2.1
      have d3 := (hkp.cell hbl' id).trans (hc' k x hx).2.2.2
      have i1 : (k : Int) < (l.length : Int) := by omega
      have i0 : (0 : Int) ≤ (k : Int) := by omega
      clear hc hc' hx hkp
      go_wp2_with fail
      go_quiet (fail)
      go_wp2_with fail
      go_roundw
      case rel => exact ⟨k + 1, by omega, by go_num, (unhide HK).drewN nq⟩
      case measure => simp [intOf]; omega
    · obtain rfl : k = l.length := by omega
      clear hkp
      go_wp2
      go_ret
      exact ⟨rfl, unhide HK⟩
end Go.Proofs.YtbgapbaeegloaabGreatDoor
