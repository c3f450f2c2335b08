import Derived.Test.YtoempeobaknkcaaGreatDoorJyan
import Derived.Test.YtoempeobaknkcaaGreatDoorJyai
namespace Go.Proofs.YtoempeobaknkcaaGreatDoor
open Go.RowKit Go.Maps

theorem nm_at {l : List Txt} {k : Nat} {x : Txt} (h : l[k]? = some x) : (nmC l)[k]? = some (str x) := by simp [nmC, h]
set_option maxRecDepth 100000 in
set_option maxHeartbeats 4000000 in
theorem eqNames_v (la lb : List Txt) (hl : la.length ≤ 1000) (hl2 : lb.length ≤ 1000) (va vb : Value) (w : World) (ha : RowAt w va la.length (nmC la)) (hb : RowAt w vb lb.length (nmC lb)) :
    Calls Tryz.prog 9 #[va, vb] w fun e w' => e = .returned (.bool (decide (la = lb))) ∧ Keeps (fun _ => False) w w' := by
  obtain ⟨ao, ac, rfl⟩ := RowAt.form ha
  obtain ⟨bo, bc, rfl⟩ := RowAt.form hb
  by_cases hle : la.length = lb.length
  · have hlz : ((la.length : Int) != (lb.length : Int)) = false := by simp [hle]
    have HL := hide hle
    have HA := hide ha
    have HB := hide hb
    clear ha hb hle
    go_enter Tryz.func9, Tryz.ntmps9
    go_wp2_with fail
    go_loopw [5] (fun i wr => ∃ k : Nat, i = .int .i64 k ∧ k ≤ la.length ∧ Hid (la.take k = lb.take k) ∧ Keeps (fun _ => False) w wr) (fun i _ => la.length - (intOf i).toNat)
    case atStart => exact ⟨0, rfl, Nat.zero_le _, rfl, Keeps.refl _ _⟩
    case round =>
      obtain ⟨k, rfl, hk, HE, hkeep⟩ := hrel
      have HK := hide hkeep
      cases h : la[k]? with
      | none =>
        have h1 := get_ge h
        obtain rfl : k = la.length := by omega
        have i1 : ¬ (la.length : Int) < (la.length : Int) := by omega
        clear h h1 hkeep hk
        have he : la = lb := by
          have h := unhide HE
          rw [List.take_length] at h
          have e := unhide HL
          rw [e, List.take_length] at h
          exact h
        have HEQ := hide he
        clear he
        go_wp2_with fail
        go_ret
        exact ⟨ret_bool (decide_eq_true (unhide HEQ)).symm, unhide HK⟩
      | some x =>
        have h1 := get_lt h
        have hlb : k < lb.length := by have := unhide HL; omega
        obtain ⟨y, hy⟩ : ∃ y, lb[k]? = some y := ⟨_, List.getElem?_eq_getElem hlb⟩
        obtain ⟨b, off, c1, e, hbl, hc⟩ := RowAt.cells ((unhide HA).keepF hkeep) (by omega)
        simp at e
        obtain ⟨rfl, rfl⟩ := e
        obtain ⟨b2, off2, c2, e2, hbl2, hc2⟩ := RowAt.cells ((unhide HB).keepF hkeep) (by omega)
        simp at e2
        obtain ⟨rfl, rfl⟩ := e2
        have q0 := hc k (str x) (nm_at h)
        have q1 := hc2 k (str y) (nm_at hy)
        have i1 : (k : Int) < (la.length : Int) := by omega
        have i2 : (k : Int) < (lb.length : Int) := by omega
        have ix0 : (0 : Int) ≤ (k : Int) := by omega
        have HTA := hide (take_snoc _ _ _ h)
        have HTB := hide (take_snoc _ _ _ hy)
        have HX := hide h
        have HY := hide hy
        have e0 : ∀ m : KW wr, m.wd.cell? ⟨b, off + k, none⟩ = some (str x) := fun m => (m.kept.cell hbl id).trans q0
        have e1 : ∀ m : KW wr, m.wd.cell? ⟨b2, off2 + k, none⟩ = some (str y) := fun m => (m.kept.cell hbl2 id).trans q1
        clear h hy hc hc2 hkeep q0 q1
        by_cases hxy : x = y
        · subst hxy
          go_wp2_with fail
          refine region_kept (by kernel_rfl) (by kernel_rfl) ?_
          repeat (go_big_quiet_step (fail))
          refine wpQuiet_nil ?_
          rintro _ ⟨nq, rfl⟩
          have HK1 := hide nq.kept
          go_wp2_with fail
          go_roundw
          case rel => exact ⟨k + 1, by go_num, by omega, hide (by rw [unhide HTA, unhide HTB, unhide HE]), (unhide HK).trans (unhide HK1)⟩
          case measure => simp [intOf]; omega
        · have hne : (x != y) = true := by simpa using hxy
          have hne2 : (x == y) = false := by simpa using hxy
          have hd : la ≠ lb := fun e => hxy (by have h1 := unhide HX; rw [e, unhide HY] at h1; simpa using h1.symm)
          have HDF := hide hd
          clear hxy hd
          go_wp2_with fail
          refine region_kept (by kernel_rfl) (by kernel_rfl) ?_
          repeat (go_big_quiet_step (fail))
          refine wpQuiet_nil ?_
          rintro _ ⟨nq, rfl⟩
          have HK1 := hide nq.kept
          go_wp2_with fail
          go_ret
          exact ⟨ret_bool (decide_eq_false (unhide HDF)).symm, (unhide HK).trans (unhide HK1)⟩
  · have hlz : ((la.length : Int) != (lb.length : Int)) = true := by simp; omega
    have hne : la ≠ lb := fun e => hle (by rw [e])
    rw [decide_eq_false hne]
    clear ha hb
    go_enter Tryz.func9, Tryz.ntmps9
    go_wp2_with fail
    go_ret
    exact ⟨rfl, Keeps.refl _ _⟩
end Go.Proofs.YtoempeobaknkcaaGreatDoor
