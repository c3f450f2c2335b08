import Derived.Test.YtbfkoamledkhnaaGreatDoorJy
namespace Go.Proofs.YtbfkoamledkhnaaGreatDoor
open Go.RowKit Go.Maps

set_option maxRecDepth 100000 in
set_option maxHeartbeats 2000000 in
theorem records_any (o : OpA) (w : World) (h : OpOK w o) :
    Calls Tryz.prog 12 #[o.v] w fun e w' => e = .returned (.bool true) ∧ Keeps (fun _ => False) w w' := by
  unfold OpA.v
  obtain ⟨ao, ac, hfv⟩ := RowAt.form h.hf
  obtain ⟨bo, bc, hrv⟩ := RowAt.form h.hr
  obtain ⟨co, cc, hbv⟩ := RowAt.form h.hb
  obtain ⟨K, hKK⟩ : ∃ K, o.kind = K := ⟨_, rfl⟩
  rw [hfv, hrv, hbv, hKK]
  clear hKK
  obtain ⟨HB, hb, hbc⟩ := boxed w #[.int .i64 K, .slice ao o.l.length ac, .slice bo o.r.length bc, str o.t, .slice co o.b.length cc] 32
  have p0 := hbc 0 (.int .i64 K) rfl
  have p1 := hbc 1 (.slice ao o.l.length ac) rfl
  have p2 := hbc 2 (.slice bo o.r.length bc) rfl
  have p3 := hbc 3 (str o.t) rfl
  have p4 := hbc 4 (.slice co o.b.length cc) rfl
  have HO := hide (h.keepF (unhide HB))
  by_cases k4 : K = 4
  · subst k4
    have HQ := hide (law_check o.l _ o.r _ _ (unhide HO).env (unhide HO).hf (unhide HO).hr h.ll h.rl)
    rw [hfv] at HQ
    rw [hrv] at HQ
    have HQ2 := fun w2 (hk : Keeps (fun _ => False) (w.alloc (.cells #[.int .i64 4, .slice ao o.l.length ac, .slice bo o.r.length bc, str o.t, .slice co o.b.length cc] 32)) w2) => hide (check_any o.l _ o.r _ w2 ((unhide HO).hf.keepF hk) ((unhide HO).hr.keepF hk))
    rw [hfv] at HQ2
    rw [hrv] at HQ2
    generalize errR o.l o.r = E at *
    clear hfv hrv hbv h hbc
    go_enter Tryz.func12, Tryz.ntmps12
    go_wp2_with fail
    refine (unhide HQ).mono ?_
    rintro e w2 ⟨rfl, hk⟩
    have q1 := (hk.cell (o := 1) hb id).trans p1
    have q2 := (hk.cell (o := 2) hb id).trans p2
    have q3 := (hk.cell (o := 3) hb id).trans p3
    have q4 := (hk.cell (o := 4) hb id).trans p4
    have HQ3 := HQ2 w2 hk
    have HB2 := hide ((unhide HB).trans hk)
    clear hk HQ HQ2
    go_wp2_with fail
    refine (unhide HQ3).mono ?_
    rintro e w3 ⟨rfl, hk3⟩
    have HB3 := hide ((unhide HB2).trans hk3)
    have HQ4 := hide (eqVals_any w3 (.slice none 0 0) (.slice none 0 0) [] [] (vals_own (World.ownsRow_nil w3 0 69 3)) (vals_own (World.ownsRow_nil w3 0 69 3)) (Nat.zero_le _))
    rw [decide_eq_true rfl] at HQ4
    clear hk3 HQ3
    go_wp2_with fail
    refine (unhide HQ4).mono ?_
    rintro e w4 ⟨rfl, hk4⟩
    have HB4 := hide ((unhide HB3).trans hk4)
    clear hk4 HQ4
    go_wp2_with fail
    all_goals go_ret
    all_goals exact ⟨ret_bool (by simp_all), unhide HB4⟩
  have k4' : (K == 4) = false := by simpa using k4
  by_cases k5 : K = 5
  · subst k5
    have HQ := hide (law_zero o.l _ _ (unhide HO).env (unhide HO).hf h.ll)
    rw [hfv] at HQ
    have HQ2 := fun w2 (hk : Keeps (fun _ => False) (w.alloc (.cells #[.int .i64 5, .slice ao o.l.length ac, .slice bo o.r.length bc, str o.t, .slice co o.b.length cc] 32)) w2) => hide (zero_any o.l _ w2 ((unhide HO).hf.keepF hk))
    rw [hfv] at HQ2
    generalize zeroB o.l = X at *
    clear hfv hrv hbv h hbc
    go_enter Tryz.func12, Tryz.ntmps12
    go_wp2_with fail
    refine (unhide HQ).mono ?_
    rintro e w2 ⟨v2, rfl, ho2, hk⟩
    obtain ⟨oo, oc, rfl⟩ := (rowAt_own ho2).form
    have q1 := (hk.cell (o := 1) hb id).trans p1
    have q2 := (hk.cell (o := 2) hb id).trans p2
    have q3 := (hk.cell (o := 3) hb id).trans p3
    have q4 := (hk.cell (o := 4) hb id).trans p4
    have HQ3 := HQ2 w2 hk
    have HB2 := hide ((unhide HB).trans hk)
    have HO2 := hide ho2
    clear ho2
    clear hk HQ HQ2
    go_wp2_with fail
    refine (unhide HQ3).mono ?_
    rintro e w3 ⟨v3, rfl, ho3, hk3⟩
    obtain ⟨o3, c3, rfl⟩ := (rowAt_own ho3).form
    have HB3 := hide ((unhide HB2).trans hk3)
    have HQ4 := hide (eqVals_any w3 _ _ X X ((vals_own (unhide HO2)).keepF hk3) (vals_own ho3) (ownsRow_max ho3))
    rw [decide_eq_true rfl] at HQ4
    clear hk3 HQ3
    clear ho3
    go_wp2_with fail
    refine (unhide HQ4).mono ?_
    rintro e w4 ⟨rfl, hk4⟩
    have HB4 := hide ((unhide HB3).trans hk4)
    clear hk4 HQ4
    go_wp2_with fail
    all_goals go_ret
    all_goals exact ⟨ret_bool (by simp_all), unhide HB4⟩
  have k5' : (K == 5) = false := by simpa using k5
  by_cases k6 : K = 6
  · subst k6
    have HQ := hide (law_makes o.l _ o.r _ _ (unhide HO).env (unhide HO).hf (unhide HO).hr h.ll h.rl)
    rw [hfv] at HQ
    rw [hrv] at HQ
    have HQ2 := fun w2 (hk : Keeps (fun _ => False) (w.alloc (.cells #[.int .i64 6, .slice ao o.l.length ac, .slice bo o.r.length bc, str o.t, .slice co o.b.length cc] 32)) w2) => hide (make_any o.l _ o.r _ w2 ((unhide HO).hf.keepF hk) ((unhide HO).hr.keepF hk) h.rl)
    rw [hfv] at HQ2
    rw [hrv] at HQ2
    generalize (makeB o.l o.r).1 = X at *
    generalize (makeB o.l o.r).2 = E at *
    clear hfv hrv hbv h hbc
    go_enter Tryz.func12, Tryz.ntmps12
    go_wp2_with fail
    refine (unhide HQ).mono ?_
    rintro e w2 ⟨v2, rfl, ho2, hk⟩
    obtain ⟨oo, oc, rfl⟩ := (rowAt_own ho2).form
    have q1 := (hk.cell (o := 1) hb id).trans p1
    have q2 := (hk.cell (o := 2) hb id).trans p2
    have q3 := (hk.cell (o := 3) hb id).trans p3
    have q4 := (hk.cell (o := 4) hb id).trans p4
    have HQ3 := HQ2 w2 hk
    have HB2 := hide ((unhide HB).trans hk)
    have HO2 := hide ho2
    clear ho2
    clear hk HQ HQ2
    go_wp2_with fail
    refine (unhide HQ3).mono ?_
    rintro e w3 ⟨v3, rfl, ho3, hk3⟩
    obtain ⟨o3, c3, rfl⟩ := (rowAt_own ho3).form
    have HB3 := hide ((unhide HB2).trans hk3)
    have HQ4 := hide (eqVals_any w3 _ _ X X ((vals_own (unhide HO2)).keepF hk3) (vals_own ho3) (ownsRow_max ho3))
    rw [decide_eq_true rfl] at HQ4
    clear hk3 HQ3
    clear ho3
    go_wp2_with fail
    refine (unhide HQ4).mono ?_
    rintro e w4 ⟨rfl, hk4⟩
    have HB4 := hide ((unhide HB3).trans hk4)
    clear hk4 HQ4
    go_wp2_with fail
    all_goals go_ret
    all_goals exact ⟨ret_bool (by simp_all), unhide HB4⟩
  have k6' : (K == 6) = false := by simpa using k6
  clear hfv hrv hbv h hbc
  have HQ4 := fun w3 => hide (eqVals_any w3 (.slice none 0 0) (.slice none 0 0) [] [] (vals_own (World.ownsRow_nil w3 0 69 3)) (vals_own (World.ownsRow_nil w3 0 69 3)) (Nat.zero_le _))
  rw [decide_eq_true rfl] at HQ4
  go_enter Tryz.func12, Tryz.ntmps12
  go_wp2_with fail
  refine (unhide (HQ4 _)).mono ?_
  rintro e w4 ⟨rfl, hk4⟩
  have HB4 := hide ((unhide HB).trans hk4)
  clear hk4 HQ4
  go_wp2_with fail
  all_goals go_ret
  all_goals exact ⟨ret_bool (by simp_all), unhide HB4⟩

set_option maxRecDepth 100000 in
set_option maxHeartbeats 2000000 in
theorem coded_any (o : OpA) (w : World) (h : OpOK w o) :
    Calls Tryz.prog 13 #[o.v] w fun e w' => e = .returned (.bool true) ∧ Keeps (fun _ => False) w w' := by
  unfold OpA.v
  obtain ⟨ao, ac, hfv⟩ := RowAt.form h.hf
  obtain ⟨bo, bc, hrv⟩ := RowAt.form h.hr
  obtain ⟨co, cc, hbv⟩ := RowAt.form h.hb
  obtain ⟨K, hKK⟩ : ∃ K, o.kind = K := ⟨_, rfl⟩
  rw [hfv, hrv, hbv, hKK]
  clear hKK
  obtain ⟨HB, hb, hbc⟩ := boxed w #[.int .i64 K, .slice ao o.l.length ac, .slice bo o.r.length bc, str o.t, .slice co o.b.length cc] 32
  have p0 := hbc 0 (.int .i64 K) rfl
  have p1 := hbc 1 (.slice ao o.l.length ac) rfl
  have p2 := hbc 2 (.slice bo o.r.length bc) rfl
  have p3 := hbc 3 (str o.t) rfl
  have p4 := hbc 4 (.slice co o.b.length cc) rfl
  have HO := hide (h.keepF (unhide HB))
  by_cases k7 : K = 7
  · subst k7
    have HQ := hide (law_encode o.l _ o.r _ _ (unhide HO).env (unhide HO).hf (unhide HO).hr h.ll h.rl h.inr)
    rw [hfv] at HQ
    rw [hrv] at HQ
    have HQ2 := fun w2 (hk : Keeps (fun _ => False) (w.alloc (.cells #[.int .i64 7, .slice ao o.l.length ac, .slice bo o.r.length bc, str o.t, .slice co o.b.length cc] 32)) w2) => hide (encode_any o.l _ o.r _ w2 ((unhide HO).hf.keepF hk) ((unhide HO).hr.keepF hk) h.inr)
    rw [hfv] at HQ2
    rw [hrv] at HQ2
    generalize encodeB o.l o.r = X at *
    generalize errR o.l o.r = E at *
    clear hfv hrv hbv h hbc
    go_enter Tryz.func13, Tryz.ntmps13
    go_wp2_with fail
    refine (unhide HQ).mono ?_
    rintro e w2 ⟨v2, rfl, ho2, hk⟩
    obtain ⟨oo, oc, rfl⟩ := (rowAt_own ho2).form
    have q1 := (hk.cell (o := 1) hb id).trans p1
    have q2 := (hk.cell (o := 2) hb id).trans p2
    have q3 := (hk.cell (o := 3) hb id).trans p3
    have q4 := (hk.cell (o := 4) hb id).trans p4
    have HQ3 := HQ2 w2 hk
    have HB2 := hide ((unhide HB).trans hk)
    have HO2 := hide ho2
    clear ho2
    clear hk HQ HQ2
    go_wp2_with fail
    refine (unhide HQ3).mono ?_
    rintro e w3 ⟨v3, rfl, ho3, hk3⟩
    obtain ⟨o3, c3, rfl⟩ := (rowAt_own ho3).form
    have HB3 := hide ((unhide HB2).trans hk3)
    have HQ4 := hide (eqBytes_any w3 _ _ X X ((bytes_own (unhide HO2)).keepF hk3) (bytes_own ho3) (ownsRow_max ho3))
    rw [decide_eq_true rfl] at HQ4
    clear hk3 HQ3
    clear ho3
    go_wp2_with fail
    refine (unhide HQ4).mono ?_
    rintro e w4 ⟨rfl, nq, rfl⟩
    have HB4 := hide ((unhide HB3).drewN nq)
    clear HQ4
    go_wp2_with fail
    all_goals go_ret
    all_goals exact ⟨ret_bool (by simp_all), unhide HB4⟩
  have k7' : (K == 7) = false := by simpa using k7
  have HQ := hide (law_decode o.l _ o.b _ _ (unhide HO).env (unhide HO).hf (unhide HO).hb h.ll h.bl)
  rw [hfv] at HQ
  rw [hbv] at HQ
  have HQ2 := fun w2 (hk : Keeps (fun _ => False) (w.alloc (.cells #[.int .i64 K, .slice ao o.l.length ac, .slice bo o.r.length bc, str o.t, .slice co o.b.length cc] 32)) w2) => hide (decode_any o.l _ o.b _ w2 ((unhide HO).hf.keepF hk) ((unhide HO).hb.keepF hk) h.bl)
  rw [hfv] at HQ2
  rw [hbv] at HQ2
  generalize (decodeB o.l o.b).1 = X at *
  generalize (decodeB o.l o.b).2 = E at *
  clear hfv hrv hbv h hbc
  go_enter Tryz.func13, Tryz.ntmps13
  go_wp2_with fail
  refine (unhide HQ).mono ?_
  rintro e w2 ⟨v2, rfl, ho2, hk⟩
  obtain ⟨oo, oc, rfl⟩ := (rowAt_own ho2).form
  have q1 := (hk.cell (o := 1) hb id).trans p1
  have q2 := (hk.cell (o := 2) hb id).trans p2
  have q3 := (hk.cell (o := 3) hb id).trans p3
  have q4 := (hk.cell (o := 4) hb id).trans p4
  have HQ3 := HQ2 w2 hk
  have HB2 := hide ((unhide HB).trans hk)
  have HO2 := hide ho2
  clear ho2
  clear hk HQ HQ2
  go_wp2_with fail
  refine (unhide HQ3).mono ?_
  rintro e w3 ⟨v3, rfl, ho3, hk3⟩
  obtain ⟨o3, c3, rfl⟩ := (rowAt_own ho3).form
  have HB3 := hide ((unhide HB2).trans hk3)
  have HQ4 := hide (eqVals_any w3 _ _ X X ((vals_own (unhide HO2)).keepF hk3) (vals_own ho3) (ownsRow_max ho3))
  rw [decide_eq_true rfl] at HQ4
  clear hk3 HQ3
  clear ho3
  go_wp2_with fail
  refine (unhide HQ4).mono ?_
  rintro e w4 ⟨rfl, hk4⟩
  have HB4 := hide ((unhide HB3).trans hk4)
  clear hk4 HQ4
  go_wp2_with fail
  all_goals go_ret
  all_goals exact ⟨ret_bool (by simp_all), unhide HB4⟩

end Go.Proofs.YtbfkoamledkhnaaGreatDoor
