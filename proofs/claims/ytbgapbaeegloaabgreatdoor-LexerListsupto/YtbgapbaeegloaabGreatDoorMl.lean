import Derived.Test.YtbgapbaeegloaabGreatDoorMk
namespace Go.Proofs.YtbgapbaeegloaabGreatDoor
open Go.RowKit Go.Maps

set_option maxRecDepth 100000 in
theorem lex_v (t : Txt) (hl : t.length ≤ 140737488355328) (w : World) (hE : Env w) :
    Calls Tryz.prog 5 #[str t] w fun e w' => ∃ v, e = .returned (.tuple #[v, .int .i64 (lexP t).2.1, .int .i64 (lexP t).2.2]) ∧ w'.ownsRow w.heap.size 31 4 v (lexP t).1.length (tcs (lexP t).1) ∧ Keeps (fun _ => False) w w' := by
  obtain ⟨D, HD⟩ : ∃ D, Hid (lexP t = D) := ⟨_, rfl⟩
  rw [unhide HD]
  by_cases h256 : 256 < t.length
  · have HF : Hid (D = ([], 70, 0)) := by show _ = _; rw [← unhide HD]; unfold lexP; rw [if_pos h256]
    have h' : (256 : Int) < (t.length : Int) := by omega
    clear h256 hE HD
    go_enter Tryz.func5, Tryz.ntmps5
    go_wp2_with fail
    go_ret3
    refine ⟨.slice none 0 0, ?_, ?_, Keeps.refl _ _⟩
    · rw [unhide HF]; rfl
    · rw [unhide HF]
      simpa [tcs] using World.ownsRow_nil w w.heap.size 31 4
  · have h' : ¬ (256 : Int) < (t.length : Int) := by omega
    have HQ := hide (runes_v t (by omega) w)
    have HX : Hid (∀ w2, Keeps (fun _ => False) w w2 → Calls Tryz.prog 9 #[str t] w2 fun e w' => ∃ v, e = .returned (.tuple #[v, .int .i64 (cutL t (t.length + 1) [] 0).2.1, .int .i64 (cutL t (t.length + 1) [] 0).2.2]) ∧ w'.ownsRow w2.heap.size 31 4 v (cutL t (t.length + 1) [] 0).1.length (tcs (cutL t (t.length + 1) [] 0).1) ∧ Keeps (fun _ => False) w2 w') := fun w2 hk => cut_v t (by omega) w2 (hE.keepF hk)
    have HDD : Hid (D = if runesB t < t.length then ([], 71, runesB t) else cutL t (t.length + 1) [] 0) := by show _ = _; rw [← unhide HD]; unfold lexP; rw [if_neg h256]
    generalize runesB t = R at *
    generalize cutL t (t.length + 1) [] 0 = C at *
    clear HD hE
    by_cases hr : R < t.length
    · have HF : Hid (D = ([], 71, R)) := by show _ = _; rw [unhide HDD, if_pos hr]
      have hr' : (R : Int) < (t.length : Int) := by omega
      clear hr HDD HX
      go_enter Tryz.func5, Tryz.ntmps5
      go_wp2_with fail
      refine (unhide HQ).mono ?_
      rintro e w2 ⟨rfl, hk2⟩
      have HK := hide hk2
      clear hk2 HQ
      go_wp2_with fail
      go_ret3
      refine ⟨.slice none 0 0, ?_, ?_, unhide HK⟩
      · rw [unhide HF]; rfl
      · rw [unhide HF]
        simpa [tcs] using World.ownsRow_nil w2 w.heap.size 31 4
    · have HF : Hid (D = C) := by show _ = _; rw [unhide HDD, if_neg hr]
      have hr' : ¬ (R : Int) < (t.length : Int) := by omega
      clear hr HDD
      go_enter Tryz.func5, Tryz.ntmps5
      go_wp2_with fail
      refine (unhide HQ).mono ?_
      rintro e w2 ⟨rfl, hk2⟩
      have HK := hide hk2
      have HC := hide ((unhide HX) w2 hk2)
      clear hk2 HQ HX
      go_wp2_with fail
      refine (unhide HC).mono ?_
      rintro e w3 ⟨v, rfl, hown, hk3⟩
      have HO := hide hown
      have HK3 := hide ((unhide HK).trans hk3)
      have s2 := (unhide HK).size
      clear hown hk3 HC
      go_wp2_with fail
      go_ret3
      refine ⟨v, ?_, ?_, unhide HK3⟩
      · rw [unhide HF]; rfl
      · rw [unhide HF]
        exact ownsRow_lower (unhide HO) s2
end Go.Proofs.YtbgapbaeegloaabGreatDoor
