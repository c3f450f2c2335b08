import Derived.Test.YtbfkoamledkhnaaGreatDoorVf
import Derived.Test.YtbfkoamledkhnaaGreatDoorZg
namespace Go.Proofs.YtbfkoamledkhnaaGreatDoor
open Go.RowKit Go.Maps

set_option maxRecDepth 100000 in
set_option maxHeartbeats 1000000 in
theorem law_parse (l : List FieldA) (v : Value) (t : Txt) (w : World) (hE : Env w) (h : FldsAt w v l) (hl : l.length ≤ 1099511627776) (htl : t.length ≤ 1099511627776) :
    Calls Tryz.prog 36 #[.agg #[v], str t] w fun e w' => ∃ r', e = .returned (.tuple #[r', .int .i64 ((parseB l t).2)]) ∧ w'.ownsRow w.heap.size 69 3 r' ((parseB l t).1).length (vcs ((parseB l t).1)) ∧ Keeps (fun _ => False) w w' := by
  have HEV := hide hE
  clear hE
  obtain ⟨ao, cap, rfl⟩ := RowAt.form h
  obtain ⟨HB, hb, hbc⟩ := boxed w #[.slice ao l.length cap] 28
  have hp := hbc 0 (.slice ao l.length cap) rfl
  have HF := hide (h.keepF (unhide HB))
  have HQ := hide (copySchema_any _ _ l (unhide HF) hl)
  clear hbc h
  obtain ⟨E, HE⟩ : ∃ E, Hid ((parseB l t).2 = E) := ⟨_, rfl⟩
  rw [unhide HE]
  obtain ⟨X, HXX⟩ : ∃ X, Hid ((parseB l t).1 = X) := ⟨_, rfl⟩
  rw [unhide HXX]
  go_enter Tryz.func36, Tryz.ntmps36
  go_wp2_with fail
  refine (unhide HQ).mono ?_
  rintro e w2 ⟨v1, rfl, ho2, hk2⟩
  obtain ⟨oo, oc, rfl⟩ := (rowAt_own ho2).form
  obtain ⟨HX, hx, hxc⟩ := boxed w2 #[.slice oo l.length oc] 28
  have q0 := hxc 0 (.slice oo l.length oc) rfl
  have p2 := (((unhide HX).cell (o := 0) (Nat.lt_of_lt_of_le hb hk2.size) id).trans (hk2.cell (o := 0) hb id)).trans hp
  have HF3 := hide (((unhide HF).keepF hk2).keepF (unhide HX))
  have HA3 := hide ((flds_own ho2).keepF (unhide HX))
  have HB3 := hide (((unhide HB).trans hk2).trans (unhide HX))
  have hb3 : w.heap.size < (w2.alloc (.cells #[.slice oo l.length oc] 28)).heap.size := Nat.lt_of_lt_of_le (Nat.lt_of_lt_of_le hb hk2.size) (unhide HX).size
  clear hxc HQ hp ho2 hk2 hb HX HB HF
  have HQ2 := hide (val_parse l _ t _ ((unhide HEV).keepF (unhide HB3)) (unhide HA3) htl)
  rw [unhide HE, unhide HXX] at HQ2
  go_wp2_with fail
  refine (unhide HQ2).mono ?_
  rintro e w5 ⟨r', rfl, ho5, hk5⟩
  have q5 := (hk5.cell (o := 0) hx id).trans q0
  have p5 := (hk5.cell (o := 0) hb3 id).trans p2
  have HQ3 := hide (eqSchema_any w5 _ _ l l ((unhide HA3).keepF hk5) ((unhide HF3).keepF hk5) (len_max hl))
  rw [decide_eq_true rfl] at HQ3
  have HB5 := hide ((unhide HB3).trans hk5)
  have HO5 := hide (ownsRow_lower ho5 (unhide HB3).size)
  clear ho5
  clear HQ2 hk5 q0 p2
  go_wp2_with fail
  refine (unhide HQ3).mono ?_
  rintro e w6 ⟨rfl, hk6⟩
  have HB6 := hide ((unhide HB5).trans hk6)
  have HO6 := hide (ownsRow_kept (unhide HO5) hk6 (fun _ _ => id))
  clear HQ3 hk6
  go_wp2_with fail
  go_ret2
  exact ⟨_, rfl, unhide HO6, unhide HB6⟩

set_option maxRecDepth 100000 in
set_option maxHeartbeats 2000000 in
theorem texts_any (o : OpA) (w : World) (h : OpOK w o) :
    Calls Tryz.prog 14 #[o.v] w fun e w' => e = .returned (.bool true) ∧ Keeps (fun _ => False) w w' := by
  unfold OpA.v
  obtain ⟨ao, ac, hfv⟩ := RowAt.form h.hf
  obtain ⟨bo, bc, hrv⟩ := RowAt.form h.hr
  obtain ⟨co, cc, hbv⟩ := RowAt.form h.hb
  obtain ⟨K, hKK⟩ : ∃ K, o.kind = K := ⟨_, rfl⟩
  rw [hfv, hrv, hbv, hKK]
  clear hKK
  obtain ⟨HB, hb, hbc⟩ := boxed w #[.int .i64 K, .slice ao o.l.length ac, .slice bo o.r.length bc, str o.t, .slice co o.b.length cc] 32
  have p0 := hbc 0 (.int .i64 K) rfl
  have p1 := hbc 1 (.slice ao o.l.length ac) rfl
  have p2 := hbc 2 (.slice bo o.r.length bc) rfl
  have p3 := hbc 3 (str o.t) rfl
  have p4 := hbc 4 (.slice co o.b.length cc) rfl
  have HO := hide (h.keepF (unhide HB))
  by_cases k9 : K = 9
  · subst k9
    have HQ := hide (law_prints o.l _ o.r _ _ (unhide HO).env (unhide HO).hf (unhide HO).hr h.ll h.rl h.inr)
    rw [hfv] at HQ
    rw [hrv] at HQ
    have HQ2 := fun w2 (hk : Keeps (fun _ => False) (w.alloc (.cells #[.int .i64 9, .slice ao o.l.length ac, .slice bo o.r.length bc, str o.t, .slice co o.b.length cc] 32)) w2) => hide (print_any o.l _ o.r _ w2 ((unhide HO).hf.keepF hk) ((unhide HO).hr.keepF hk) h.inr)
    rw [hfv] at HQ2
    rw [hrv] at HQ2
    generalize printB o.l o.r = T at *
    generalize errR o.l o.r = E at *
    clear hfv hrv hbv h hbc
    go_enter Tryz.func14, Tryz.ntmps14
    go_wp2_with fail
    refine (unhide HQ).mono ?_
    rintro e w2 ⟨rfl, hk⟩
    have q1 := (hk.cell (o := 1) hb id).trans p1
    have q2 := (hk.cell (o := 2) hb id).trans p2
    have q3 := (hk.cell (o := 3) hb id).trans p3
    have q4 := (hk.cell (o := 4) hb id).trans p4
    have HQ3 := HQ2 w2 hk
    have HB2 := hide ((unhide HB).trans hk)
    clear hk HQ HQ2
    go_wp2_with fail
    refine (unhide HQ3).mono ?_
    rintro e w3 ⟨rfl, hk3⟩
    have HB3 := hide ((unhide HB2).trans hk3)
    clear hk3 HQ3
    go_wp2_with fail
    all_goals go_ret
    all_goals exact ⟨ret_bool (by simp_all), unhide HB3⟩
  have k9' : (K == 9) = false := by simpa using k9
  by_cases k10 : K = 10
  · subst k10
    have HQ := hide (law_parse o.l _ o.t _ (unhide HO).env (unhide HO).hf h.ll h.tl')
    rw [hfv] at HQ
    have HQ2 := fun w2 (hk : Keeps (fun _ => False) (w.alloc (.cells #[.int .i64 10, .slice ao o.l.length ac, .slice bo o.r.length bc, str o.t, .slice co o.b.length cc] 32)) w2) => hide (parse_any o.l _ o.t w2 ((unhide HO).hf.keepF hk) h.tl')
    rw [hfv] at HQ2
    generalize (parseB o.l o.t).1 = X at *
    generalize (parseB o.l o.t).2 = E at *
    clear hfv hrv hbv h hbc
    go_enter Tryz.func14, Tryz.ntmps14
    go_wp2_with fail
    refine (unhide HQ).mono ?_
    rintro e w2 ⟨v2, rfl, ho2, hk⟩
    obtain ⟨oo, oc, rfl⟩ := (rowAt_own ho2).form
    have q1 := (hk.cell (o := 1) hb id).trans p1
    have q2 := (hk.cell (o := 2) hb id).trans p2
    have q3 := (hk.cell (o := 3) hb id).trans p3
    have q4 := (hk.cell (o := 4) hb id).trans p4
    have HQ3 := HQ2 w2 hk
    have HB2 := hide ((unhide HB).trans hk)
    have HO2 := hide ho2
    clear ho2
    clear hk HQ HQ2
    go_wp2_with fail
    refine (unhide HQ3).mono ?_
    rintro e w3 ⟨v3, rfl, ho3, hk3⟩
    obtain ⟨o3, c3, rfl⟩ := (rowAt_own ho3).form
    have HB3 := hide ((unhide HB2).trans hk3)
    have HQ4 := hide (eqVals_any w3 _ _ X X ((vals_own (unhide HO2)).keepF hk3) (vals_own ho3) (ownsRow_max ho3))
    rw [decide_eq_true rfl] at HQ4
    clear hk3 HQ3
    clear ho3
    go_wp2_with fail
    refine (unhide HQ4).mono ?_
    rintro e w4 ⟨rfl, hk4⟩
    have HB4 := hide ((unhide HB3).trans hk4)
    clear hk4 HQ4
    go_wp2_with fail
    all_goals go_ret
    all_goals exact ⟨ret_bool (by simp_all), unhide HB4⟩
  have k10' : (K == 10) = false := by simpa using k10
  by_cases k11 : K = 11
  · subst k11
    have HQ := hide (quote_v o.t (w.alloc (.cells #[.int .i64 11, .slice ao o.l.length ac, .slice bo o.r.length bc, str o.t, .slice co o.b.length cc] 32)) h.tl')
    have HQ2 := fun w2 (_hk : Keeps (fun _ => False) (w.alloc (.cells #[.int .i64 11, .slice ao o.l.length ac, .slice bo o.r.length bc, str o.t, .slice co o.b.length cc] 32)) w2) => hide (quote_any o.t w2 h.tl')
    generalize quoteB o.t = T at *
    clear hfv hrv hbv h hbc
    go_enter Tryz.func14, Tryz.ntmps14
    go_wp2_with fail
    refine (unhide HQ).mono ?_
    rintro e w2 ⟨rfl, hk⟩
    have q1 := (hk.cell (o := 1) hb id).trans p1
    have q2 := (hk.cell (o := 2) hb id).trans p2
    have q3 := (hk.cell (o := 3) hb id).trans p3
    have q4 := (hk.cell (o := 4) hb id).trans p4
    have HQ3 := HQ2 w2 hk
    have HB2 := hide ((unhide HB).trans hk)
    clear hk HQ HQ2
    go_wp2_with fail
    refine (unhide HQ3).mono ?_
    rintro e w3 ⟨rfl, hk3⟩
    have HB3 := hide ((unhide HB2).trans hk3)
    clear hk3 HQ3
    go_wp2_with fail
    all_goals go_ret
    all_goals exact ⟨ret_bool (by simp_all), unhide HB3⟩
  have k11' : (K == 11) = false := by simpa using k11
  have HQ := hide (vv_unquote o.t (w.alloc (.cells #[.int .i64 K, .slice ao o.l.length ac, .slice bo o.r.length bc, str o.t, .slice co o.b.length cc] 32)) (unhide HO).env h.tl')
  have HQ2 := fun w2 (_hk : Keeps (fun _ => False) (w.alloc (.cells #[.int .i64 K, .slice ao o.l.length ac, .slice bo o.r.length bc, str o.t, .slice co o.b.length cc] 32)) w2) => hide (unquote_any o.t w2 h.tl')
  generalize unquoteB o.t = T at *
  clear hfv hrv hbv h hbc
  go_enter Tryz.func14, Tryz.ntmps14
  go_wp2_with fail
  refine (unhide HQ).mono ?_
  rintro e w2 ⟨rfl, hk⟩
  have q1 := (hk.cell (o := 1) hb id).trans p1
  have q2 := (hk.cell (o := 2) hb id).trans p2
  have q3 := (hk.cell (o := 3) hb id).trans p3
  have q4 := (hk.cell (o := 4) hb id).trans p4
  have HQ3 := HQ2 w2 hk
  have HB2 := hide ((unhide HB).trans hk)
  clear hk HQ HQ2
  go_wp2_with fail
  refine (unhide HQ3).mono ?_
  rintro e w3 ⟨rfl, hk3⟩
  have HB3 := hide ((unhide HB2).trans hk3)
  clear hk3 HQ3
  go_wp2_with fail
  all_goals go_ret
  all_goals exact ⟨ret_bool (by simp_all), unhide HB3⟩

end Go.Proofs.YtbfkoamledkhnaaGreatDoor
namespace Go.Proofs.YtbfkoamledkhnaaGreatDoor
open Go.RowKit Go.Maps

set_option maxRecDepth 100000 in
set_option maxHeartbeats 2000000 in
theorem plays_any (o : OpA) (w : World) (h : OpOK w o) :
    Calls Tryz.prog 10 #[o.v] w fun e w' => e = .returned (.bool true) ∧ Keeps (fun _ => False) w w' := by
  have hfo := RowAt.form h.hf
  have hro := RowAt.form h.hr
  have hbo := RowAt.form h.hb
  obtain ⟨HB, hb, hbc⟩ := boxed w #[.int .i64 o.kind, o.fv, o.rv, str o.t, o.bv] 32
  have HO := h.keepF (unhide HB)
  have A1 := hide (schemas_any o _ HO)
  have A2 := hide (records_any o _ HO)
  have A3 := hide (coded_any o _ HO)
  have A4 := hide (texts_any o _ HO)
  unfold OpA.v at A1 A2 A3 A4 ⊢
  obtain ⟨ao, ac, hfv⟩ := hfo
  obtain ⟨bo, bc, hrv⟩ := hro
  obtain ⟨co, cc, hbv⟩ := hbo
  rw [hfv, hrv, hbv] at A1 A2 A3 A4 HB ⊢
  generalize o.kind = K at *
  clear hfv hrv hbv h HO hbc hb
  go_enter Tryz.func10, Tryz.ntmps10
  go_wp2_with fail
  all_goals
    first
    | (with_reducible refine (unhide A1).mono ?_)
    | (with_reducible refine (unhide A2).mono ?_)
    | (with_reducible refine (unhide A3).mono ?_)
    | (with_reducible refine (unhide A4).mono ?_)
    | (go_ret; exact ⟨rfl, unhide HB⟩)
  all_goals
    rintro e w2 ⟨rfl, hk⟩
    have HK := hide ((unhide HB).trans hk)
    clear hk
    go_wp2_with fail
    go_ret
    exact ⟨rfl, unhide HK⟩

/-- A script. -/
def OpA.cs (o : OpA) : List Value := [.int .i64 o.kind, o.fv, o.rv, str o.t, o.bv]
structure Script (w : World) (v : Value) (ops : List OpA) : Prop where
  form : ∃ ao cap, v = .slice ao ops.length cap
  cells : 0 < ops.length → ∃ b off cap, v = .slice (some ⟨b, off, none⟩) ops.length cap ∧ b < w.heap.size ∧ ∀ i o, ops[i]? = some o → w.cell? ⟨b, off + i * 5, none⟩ = some (.int .i64 o.kind) ∧ w.cell? ⟨b, off + i * 5 + 1, none⟩ = some o.fv ∧ w.cell? ⟨b, off + i * 5 + 2, none⟩ = some o.rv ∧ w.cell? ⟨b, off + i * 5 + 3, none⟩ = some (str o.t) ∧ w.cell? ⟨b, off + i * 5 + 4, none⟩ = some o.bv
  ok : ∀ o ∈ ops, OpOK w o

set_option maxRecDepth 100000 in
set_option maxHeartbeats 2000000 in
theorem upTo_law (v : Value) (ops : List OpA) (lo hi : Int) (w : World) (h : Script w v ops) (hn : ops.length ≤ 9223372036854775807) :
    Calls Tryz.prog 9 #[v, .int .i64 lo, .int .i64 hi] w fun e w' => e = .returned (.bool true) ∧ Keeps (fun _ => False) w w' := by
  obtain ⟨ao, cap, rfl⟩ := h.form
  have HS := hide h
  clear h
  go_enter Tryz.func9, Tryz.ntmps9
  go_wp2_with fail
  go_loopw [7] (fun i wr => ∃ k : Nat, k ≤ ops.length ∧ i = .int .i64 k ∧ Keeps (fun _ => False) w wr) (fun i _ => ops.length - (intOf i).toNat)
  case atStart => exact ⟨0, Nat.zero_le _, rfl, Keeps.refl _ _⟩
  case round =>
    obtain ⟨k, hk, rfl, hkp⟩ := hrel
    have HK := hide hkp
    cases hx : ops[k]? with
    | none =>
      have h1 := get_ge hx
      clear hkp hx
      go_wp2_with fail
      go_ret
      exact ⟨rfl, unhide HK⟩
    | some o =>
      have h1 := get_lt hx
      obtain ⟨b, off, c, e1, hbl, hc⟩ := (unhide HS).cells (by omega)
      simp at e1
      obtain ⟨rfl, rfl⟩ := e1
      obtain ⟨g0, g1, g2, g3, g4⟩ := hc k o hx
      have d0 := (hkp.cell hbl id).trans g0
      have d1 := (hkp.cell hbl id).trans g1
      have d2 := (hkp.cell hbl id).trans g2
      have d3 := (hkp.cell hbl id).trans g3
      have d4 := (hkp.cell hbl id).trans g4
      have hok := ((unhide HS).ok o (List.mem_of_getElem? hx)).keepF hkp
      obtain ⟨fo, fc, hfv⟩ := RowAt.form hok.hf
      obtain ⟨ro, rc, hrv⟩ := RowAt.form hok.hr
      obtain ⟨bo, bc, hbv⟩ := RowAt.form hok.hb
      have HQ := hide (plays_any o wr hok)
      unfold OpA.v at HQ
      rw [hfv, hrv, hbv] at HQ
      rw [hfv] at d1
      rw [hrv] at d2
      rw [hbv] at d4
      have i1 : (k : Int) < (ops.length : Int) := by omega
      clear hkp hc hx g0 g1 g2 g3 g4 hok hfv hrv hbv
      go_wp2_with fail
      refine (unhide HQ).mono ?_
      rintro e w2 ⟨rfl, hk2⟩
      have HK2 := hide ((unhide HK).trans hk2)
      clear hk2 HQ
      go_wp2_with fail
      go_roundw
      case rel => exact ⟨k + 1, by omega, by go_num, unhide HK2⟩
      case measure => simp [intOf]; omega

end Go.Proofs.YtbfkoamledkhnaaGreatDoor
