import Derived.Test.YtklkhegeeglfbaaGreatDoorJx
namespace Go.Proofs.YtklkhegeeglfbaaGreatDoor
open Go.RowKit Go.Maps

set_option maxRecDepth 100000 in
set_option maxHeartbeats 1000000 in
theorem law_prints (l : List FieldA) (v : Value) (r : List ValA) (u : Value) (w : World) (hE : Env w) (h : FldsAt w v l) (hr : ValsAt w u r) (hl : l.length ≤ 1099511627776) (hrl : r.length ≤ 1099511627776) (hI : InR r) :
    Calls Tryz.prog 9 #[.agg #[v], u] w fun e w' => e = .returned (.tuple #[str (printB l r), .int .i64 (errR l r)]) ∧ Keeps (fun _ => False) w w' := by
  have HEV := hide hE
  clear hE
  obtain ⟨ao, cap, rfl⟩ := RowAt.form h
  obtain ⟨bo, cbp, rfl⟩ := RowAt.form hr
  obtain ⟨HB, hb, hbc⟩ := boxed w #[.slice ao l.length cap] 26
  have hp := hbc 0 (.slice ao l.length cap) rfl
  have HF := hide (h.keepF (unhide HB))
  have HQ := hide (copySchema_any _ _ l (unhide HF) hl)
  have HR := hide (hr.keepF (unhide HB))
  clear hbc h hr
  obtain ⟨E, HE⟩ : ∃ E, Hid (errR l r = E) := ⟨_, rfl⟩
  rw [unhide HE]
  obtain ⟨X, HXX⟩ : ∃ X, Hid (printB l r = X) := ⟨_, rfl⟩
  rw [unhide HXX]
  go_enter Tryz.func9, Tryz.ntmps9
  go_wp2_with fail
  refine (unhide HQ).mono ?_
  rintro e w2 ⟨v1, rfl, ho2, hk2⟩
  obtain ⟨oo, oc, rfl⟩ := (rowAt_own ho2).form
  obtain ⟨HX, hx, hxc⟩ := boxed w2 #[.slice oo l.length oc] 26
  have q0 := hxc 0 (.slice oo l.length oc) rfl
  have p2 := (((unhide HX).cell (o := 0) (Nat.lt_of_lt_of_le hb hk2.size) id).trans (hk2.cell (o := 0) hb id)).trans hp
  have HF3 := hide (((unhide HF).keepF hk2).keepF (unhide HX))
  have HA3 := hide ((flds_own ho2).keepF (unhide HX))
  have HB3 := hide (((unhide HB).trans hk2).trans (unhide HX))
  have hb3 : w.heap.size < (w2.alloc (.cells #[.slice oo l.length oc] 26)).heap.size := Nat.lt_of_lt_of_le (Nat.lt_of_lt_of_le hb hk2.size) (unhide HX).size
  have HR3 := hide (((unhide HR).keepF hk2).keepF (unhide HX))
  clear hxc HQ hp ho2 hk2 hb HX HB HF HR
  have HQ1 := hide (copyVals_any (w2.alloc (.cells #[.slice oo l.length oc] 26)) _ r (unhide HR3) hrl)
  go_wp2_with fail
  refine (unhide HQ1).mono ?_
  rintro e w3 ⟨v2, rfl, ho3, hk3⟩
  obtain ⟨uo, uc, rfl⟩ := (rowAt_own ho3).form
  have q3 := (hk3.cell (o := 0) hx id).trans q0
  have p3 := (hk3.cell (o := 0) hb3 id).trans p2
  have hx3 := Nat.lt_of_lt_of_le hx hk3.size
  have hb4 := Nat.lt_of_lt_of_le hb3 hk3.size
  have HF4 := hide ((unhide HF3).keepF hk3)
  have HA4 := hide ((unhide HA3).keepF hk3)
  have HR4 := hide ((unhide HR3).keepF hk3)
  have HC4 := hide (vals_own ho3)
  have HB4 := hide ((unhide HB3).trans hk3)
  clear HQ1 q0 p2 hk3 ho3 HF3 HA3 HR3 HB3
  have HQ2 := hide (vv_print l _ r _ _ ((unhide HEV).keepF (unhide HB4)) (unhide HA4) (unhide HC4) hI)
  rw [unhide HE, unhide HXX] at HQ2
  go_wp2_with fail
  refine (unhide HQ2).mono ?_
  rintro e w5 ⟨rfl, hk5⟩
  have q5 := (hk5.cell (o := 0) hx3 id).trans q3
  have p5 := (hk5.cell (o := 0) hb4 id).trans p3
  have HQ3 := hide (eqSchema_any w5 _ _ l l ((unhide HA4).keepF hk5) ((unhide HF4).keepF hk5) (len_max hl))
  rw [decide_eq_true rfl] at HQ3
  have HB5 := hide ((unhide HB4).trans hk5)
  have HR5 := hide ((unhide HR4).keepF hk5)
  have HC5 := hide ((unhide HC4).keepF hk5)
  clear HQ2 hk5 q3 p3
  go_wp2_with fail
  refine (unhide HQ3).mono ?_
  rintro e w6 ⟨rfl, hk6⟩
  have HB6 := hide ((unhide HB5).trans hk6)
  have HQ4 := hide (eqVals_any w6 _ _ r r ((unhide HC5).keepF hk6) ((unhide HR5).keepF hk6) (len_max hrl))
  rw [decide_eq_true rfl] at HQ4
  clear HQ3 hk6
  go_wp2_with fail
  refine (unhide HQ4).mono ?_
  rintro e w7 ⟨rfl, hk7⟩
  have HB7 := hide ((unhide HB6).trans hk7)
  clear HQ4 hk7
  go_wp2_with fail
  go_ret2
  exact ⟨rfl, unhide HB7⟩

end Go.Proofs.YtklkhegeeglfbaaGreatDoor
