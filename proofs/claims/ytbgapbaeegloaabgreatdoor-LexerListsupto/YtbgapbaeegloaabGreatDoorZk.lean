import Derived.Test.YtbgapbaeegloaabGreatDoorZj
import Derived.Test.YtbgapbaeegloaabGreatDoorLk
namespace Go.Proofs.YtbgapbaeegloaabGreatDoor
open Go.RowKit Go.Maps

set_option maxRecDepth 100000 in
theorem lexerLexes_walk (t : Txt) (hl : t.length ≤ 140737488355328) (w : World) (hE : Env w) :
    Calls Tryz.prog 3 #[str t] w fun e w' => e = .returned (.bool true) ∧ Keeps (fun _ => False) w w' := by
  have HQ := hide (lex_v t hl w hE)
  have HR := fun w' => hide (refLex_v t hl w')
  have HL := hide (lex_len t)
  generalize lexP t = D at *
  obtain ⟨l, er, a⟩ := D
  simp only at HQ HR HL
  clear hE
  go_enter Tryz.func3, Tryz.ntmps3
  go_wp2_with fail
  refine (unhide HQ).mono ?_
  rintro e w2 ⟨v1, rfl, ho1, hk1⟩
  have HK1 := hide hk1
  have HO1 := hide ho1
  clear ho1 hk1 HQ
  go_wp2_with fail
  refine (unhide (HR _)).mono ?_
  rintro e w3 ⟨v2, rfl, ho2, hk2⟩
  have HK2 := hide ((unhide HK1).trans hk2)
  have HA : Hid (ToksAt w3 v1 l) := rowAt_own (owns_keep (unhide HO1) hk2)
  have HB : Hid (ToksAt w3 v2 l) := rowAt_own ho2
  have HEQ := hide (eqTokens_same w3 v1 v2 l (unhide HA) (unhide HB) (by have := unhide HL; omega))
  clear ho2 hk2 HR
  go_wp2_with fail
  refine (unhide HEQ).mono ?_
  rintro e w4 ⟨rfl, hk4⟩
  have HK4 := hide ((unhide HK2).trans hk4)
  clear hk4 HEQ
  go_wp2_with fail
  all_goals
    go_ret
    exact ⟨rfl, unhide HK4⟩
end Go.Proofs.YtbgapbaeegloaabGreatDoor
