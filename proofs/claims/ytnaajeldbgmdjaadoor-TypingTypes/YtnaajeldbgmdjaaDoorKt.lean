import Derived.Test.YtnaajeldbgmdjaaDoorKb
import Derived.Test.YtnaajeldbgmdjaaDoorKe
namespace Go.Proofs.YtnaajeldbgmdjaaDoor
open Go.RowKit Go.Maps

/-- A kind of the reference, as a value. -/
abbrev refV (p : KA × Int) : Value := .agg #[.int .i64 p.1.t, .bool p.1.o, .int .i64 p.2]

set_option maxRecDepth 100000 in
set_option maxHeartbeats 1000000 in
theorem refField_v (S : List FieldA) (sv : Value) (nm : Txt) (w : World) (h : FldsAt w sv S) (hl : S.length ≤ 8) :
    Calls Tryd.prog 80 #[.agg #[sv], str nm] w fun e w' => (∃ i : Int, e = .returned (.int .i64 i) ∧ ((fieldOf S nm = none ∧ i = -1) ∨ ∃ (k : Nat) (f : FieldA), S[k]? = some f ∧ fieldOf S nm = some f ∧ i = k)) ∧ Keeps (fun _ => False) w w' := by
  obtain ⟨ao, cap, rfl⟩ := RowAt.form h
  obtain ⟨HB, hxb, hxc⟩ := boxed w #[.slice ao S.length cap] 24
  have c0 := hxc 0 (.slice ao S.length cap) rfl
  have HF := hide (h.keepF (unhide HB))
  clear h hxc
  go_enter Tryd.func80, Tryd.ntmps80
  go_wp2_with fail
  go_loopw [5] (fun i wr => ∃ k : Nat, k ≤ S.length ∧ i = .int .i64 k ∧ Hid (fieldOf S nm = fieldOf (S.drop k) nm) ∧ wr = w.alloc (.cells #[.slice ao S.length cap] 24)) (fun i _ => S.length - (intOf i).toNat)
  case atStart => exact ⟨0, Nat.zero_le _, rfl, by simp [Hid], rfl⟩
  case round =>
    obtain ⟨k, hk, rfl, HS, rfl⟩ := hrel
    cases h : S[k]? with
    | none =>
      have h1 := get_ge h
      obtain rfl : k = S.length := by omega
      clear h h1
      rw [List.drop_length] at HS
      have i1 : ¬ (S.length : Int) < (S.length : Int) := by omega
      go_wp2_with fail
      go_ret
      exact ⟨⟨_, rfl, Or.inl ⟨unhide HS, rfl⟩⟩, unhide HB⟩
    | some f =>
      have h1 := get_lt h
      obtain ⟨b, off, c, e, hbl, hc⟩ := (unhide HF).cells (by omega)
      simp at e
      obtain ⟨rfl, rfl⟩ := e
      have q0 := (hc k f h).1
      have HO : Hid (fieldOf (S.drop k) nm = if f.name = nm then some f else fieldOf (S.drop (k + 1)) nm) := by
        obtain ⟨hk', hx⟩ := List.getElem?_eq_some_iff.1 h
        show _ = _
        rw [List.drop_eq_getElem_cons hk', hx]
        unfold fieldOf
        rw [List.find?_cons]
        by_cases hn : f.name = nm
        · simp [hn]
        · simp [hn]
      have HH := hide h
      clear h hc
      have i1 : (k : Int) < (S.length : Int) := by omega
      have i0 : (0 : Int) ≤ (k : Int) := by omega
      go_wp2
      case roundEnd =>
        rename_i hne
        have hne' : ¬ f.name = nm := by simpa using hne
        go_roundw
        case rel => exact ⟨k + 1, by omega, by go_num, (unhide HS).trans ((unhide HO).trans (if_neg hne')), by trivial⟩
        case measure => simp [intOf]; omega
      rename_i hne
      have hne' : f.name = nm := by simpa using hne
      go_ret
      exact ⟨⟨_, rfl, Or.inr ⟨k, f, unhide HH, (unhide HS).trans ((unhide HO).trans (if_pos hne')), rfl⟩⟩, unhide HB⟩
end Go.Proofs.YtnaajeldbgmdjaaDoor
