import Derived.Test.YtajklagdjokojaaGreatDoorSd
import Derived.Test.YtajklagdjokojaaGreatDoorNv
namespace Go.Proofs.YtajklagdjokojaaGreatDoor
open Go.RowKit Go.Maps

theorem print_len {l : List FieldA} {r : List ValA} (he : errR l r = 0) (hI : InR r) : (printB l r).length ≤ 1810 := by
  obtain ⟨hs, hl, hf⟩ := errR_zero he
  have h8 := (schemaB_len hs).2
  have h1 : (items (l.zip r)).length ≤ 8 := by
    have h := items_len (l.zip r)
    rw [List.length_zip] at h
    omega
  have h2 : ∀ x ∈ items (l.zip r), x.length ≤ 200 := fun x hx => by
    obtain ⟨p, hp, rfl⟩ := items_mem hx
    obtain ⟨i, hi⟩ := List.mem_iff_getElem?.1 hp
    rw [List.getElem?_zip_eq_some] at hi
    have h1 := shownB_le (fitAll_at hf hi.1 hi.2) (hI p.2 (List.mem_of_getElem? hi.2))
    have h2 := (schemaB_name8 hs (List.mem_of_getElem? hi.1)).1
    simp only [List.length_append, List.length_cons, List.length_nil]
    omega
  have h3 := joinB_le h1 h2
  rw [← print_eq]
  unfold printP
  rw [if_pos he]
  simp only [List.length_append, List.length_cons, List.length_nil]
  omega
theorem schema_len {l : List FieldA} (hs : schemaB l = true) : (printSchemaB l).length ≤ 1808 := by
  have e : printSchemaB l = joinB (l.map pfield) := by unfold printSchemaB; rw [if_pos hs, psF_eq]
  rw [e]
  refine joinB_le (by rw [List.length_map]; exact (schemaB_len hs).2) (fun x hx => ?_)
  obtain ⟨g, hg, rfl⟩ := List.mem_map.1 hx
  have h1 := (schemaB_name8 hs hg).1
  have h2 := wordB_le g.type
  unfold pfield
  simp only [List.length_append, List.length_cons, List.length_nil]
  split <;> simp <;> omega

/-- What stands while ValueBack asks. -/
structure BackS (w0 wk : World) (sb : Nat) (sv pv : Value) (l : List FieldA) (r : List ValA) : Prop where
  cell : wk.cell? ⟨sb, 0, none⟩ = some sv
  lt : sb < wk.heap.size
  flds : FldsAt wk sv l
  vals : ValsAt wk pv r
  env : Env wk
  keep : Keeps (fun _ => False) w0 wk
theorem BackS.keepF {w0 wk w' : World} {sb : Nat} {sv pv : Value} {l : List FieldA} {r : List ValA} (h : BackS w0 wk sb sv pv l r) (hk : Keeps (fun _ => False) wk w') : BackS w0 w' sb sv pv l r :=
  ⟨(hk.cell (o := 0) h.lt id).trans h.cell, Nat.lt_of_lt_of_le h.lt hk.size, h.flds.keepF hk, h.vals.keepF hk, h.env.keepF hk, h.keep.trans hk⟩

set_option maxRecDepth 100000 in
set_option maxHeartbeats 8000000 in
theorem valueBack_walk (ns : List Int) (vs : List ValA) (a b : Value) (w : World) (hE : Env w) (hN : IntsAt w a ns) (hV : ValsAt w b vs) (hn : ns.length ≤ 140737488355328) (hv : vs.length ≤ 140737488355328) (hI : InR vs) :
    Calls Tryz.prog 3 #[a, b] w fun e w' => e = .returned (.bool true) ∧ Keeps (fun _ => False) w w' := by
  obtain ⟨ao, ac, rfl⟩ := RowAt.form hN
  obtain ⟨bo, bc, rfl⟩ := RowAt.form hV
  have HQ := hide (Shaped_v ns _ w hN hn)
  have hs := schemaB_shaped ns
  obtain ⟨l, HL⟩ : ∃ l, Hid (shapedB ns = l) := ⟨_, rfl⟩
  rw [unhide HL] at HQ hs
  have hl8 := (schemaB_len hs).2
  have hpl := FittedB_length l vs
  have hpe := FittedB_fits hs vs
  have hpi := FittedB_in (l := l) hI
  obtain ⟨r, HRE⟩ : ∃ r, Hid (FittedB l vs = r) := ⟨_, rfl⟩
  rw [unhide HRE] at hpl hpe hpi
  have HRL := hide hpl
  have HER := hide hpe
  have HIR := hide hpi
  have HES : Hid (errS l = 0) := by show _ = _; unfold errS; rw [if_pos hs]
  have HB1 := hide (bytes_back hpe hpi)
  have HB2 := hide (record_back hpe hpi)
  have HB3 := hide (schema_back hs)
  have HB4 := hide (make_self hpe)
  have HL1 : Hid ((encodeB l r).length ≤ 64) := by show _ ≤ _; unfold encodeB; rw [if_pos hpe]; exact enc_64 hpe hpi
  have HL2 := hide (print_len hpe hpi)
  have HL3 := hide (schema_len hs)
  obtain ⟨BB, HBB⟩ : ∃ BB : Txt, Hid (encodeB l r = BB) := ⟨_, hide rfl⟩
  obtain ⟨PT, HPT⟩ : ∃ PT : Txt, Hid (printB l r = PT) := ⟨_, hide rfl⟩
  obtain ⟨ST, HST⟩ : ∃ ST : Txt, Hid (printSchemaB l = ST) := ⟨_, hide rfl⟩
  rw [unhide HBB] at HB1 HL1
  rw [unhide HPT] at HB2 HL2
  rw [unhide HST] at HB3 HL3
  have hBl : BB.length ≤ 64 := unhide HL1
  have HE0 := hide hE
  have HV0 := hide hV
  have HVL := hide hv
  clear hE hN hV hn hv hI hs hpl hpe hpi HL1
  go_enter Tryz.func3, Tryz.ntmps3
  go_wp2_with fail
  refine (unhide HQ).mono ?_
  rintro e w1 ⟨s, rfl, ho, hk1⟩
  obtain ⟨so, sc, rfl⟩ := (rowAt_own ho).form
  obtain ⟨HB, hbb, hbc⟩ := boxed w1 #[.slice so l.length sc] 26
  have hp2 := hbc 0 (.slice so l.length sc) rfl
  have HK2 := hide (hk1.trans (unhide HB))
  have HF2 := hide ((flds_own ho).keepF (unhide HB))
  have HE2 := hide ((unhide HE0).keepF (unhide HK2))
  have HV2 := hide ((unhide HV0).keepF (unhide HK2))
  have HQ2 := hide (Fitted_v l _ vs _ _ (unhide HF2) (unhide HV2) hl8 (unhide HVL))
  rw [unhide HRE] at HQ2
  clear hbc ho hk1 HB HQ HE0 HV0
  go_wp2_with fail
  generalize w1.alloc (.cells #[.slice so l.length sc] 26) = w2 at *
  generalize w1.heap.size = sb at *
  refine (unhide HQ2).mono ?_
  rintro e w3 ⟨v3, rfl, ho3, hk3⟩
  obtain ⟨po, pc, rfl⟩ := (rowAt_own ho3).form
  have S3 : Hid (BackS w w3 sb (.slice so l.length sc) (.slice po l.length pc) l r) := ⟨(hk3.cell (o := 0) hbb id).trans hp2, Nat.lt_of_lt_of_le hbb hk3.size, (unhide HF2).keepF hk3, by unfold ValsAt; rw [unhide HRL]; exact rowAt_own ho3, (unhide HE2).keepF hk3, (unhide HK2).trans hk3⟩
  have hrl : r.length ≤ 8 := by have := unhide HRL; omega
  have hc3 := (unhide S3).cell
  have hz3 := (unhide S3).lt
  have HQ3 := hide (law_encode l _ r _ _ (unhide S3).env (unhide S3).flds (unhide S3).vals (by omega) (by omega) (unhide HIR))
  rw [unhide HER, unhide HBB] at HQ3
  clear ho3 hk3 HQ2 HF2 HE2 HV2 HK2 hp2 hbb
  go_wp2_with fail
  refine (unhide HQ3).mono ?_
  rintro e w4 ⟨v4, rfl, ho4, hk4⟩
  obtain ⟨eo, ec, rfl⟩ := (rowAt_own ho4).form
  have S4 := hide ((unhide S3).keepF hk4)
  have hc4 := (unhide S4).cell
  have hz4 := (unhide S4).lt
  have HQ4 := hide (law_decode l _ BB _ _ (unhide S4).env (unhide S4).flds (bytes_own ho4) (by omega) (by omega))
  rw [unhide HB1] at HQ4
  clear ho4 hk4 HQ3 S3 hc3 hz3
  go_wp2_with fail
  refine (unhide HQ4).mono ?_
  rintro e w5 ⟨v5, rfl, ho5, hk5⟩
  obtain ⟨do', dc, rfl⟩ := (rowAt_own ho5).form
  have S5 := hide ((unhide S4).keepF hk5)
  have hc5 := (unhide S5).cell
  have hz5 := (unhide S5).lt
  have HQ5 := hide (eqVals_any w5 _ _ r r (vals_own ho5) (unhide S5).vals (by unfold maxLen; omega))
  rw [decide_eq_true rfl] at HQ5
  clear ho5 hk5 HQ4 S4 hc4 hz4
  go_wp2_with fail
  refine (unhide HQ5).mono ?_
  rintro e w6 ⟨rfl, hk6⟩
  have S6 := hide ((unhide S5).keepF hk6)
  have hc6 := (unhide S6).cell
  have hz6 := (unhide S6).lt
  have HQ6 := hide (law_prints l _ r _ _ (unhide S6).env (unhide S6).flds (unhide S6).vals (by omega) (by omega) (unhide HIR))
  rw [unhide HER, unhide HPT] at HQ6
  have hbl : ¬ (64 : Int) < (BB.length : Int) := by omega
  clear hk6 HQ5 S5 hc5 hz5
  go_wp2_with fail
  refine (unhide HQ6).mono ?_
  rintro e w7 ⟨rfl, hk7⟩
  have S7 := hide ((unhide S6).keepF hk7)
  have hc7 := (unhide S7).cell
  have hz7 := (unhide S7).lt
  have HQ7 := hide (law_parse l _ PT _ (unhide S7).env (unhide S7).flds (by omega) (by have := unhide HL2; omega))
  rw [unhide HB2] at HQ7
  clear hk7 HQ6 S6 hc6 hz6
  go_wp2_with fail
  refine (unhide HQ7).mono ?_
  rintro e w8 ⟨v8, rfl, ho8, hk8⟩
  obtain ⟨fo, fc, rfl⟩ := (rowAt_own ho8).form
  have S8 := hide ((unhide S7).keepF hk8)
  have hc8 := (unhide S8).cell
  have hz8 := (unhide S8).lt
  have HQ8 := hide (eqVals_any w8 _ _ r r (vals_own ho8) (unhide S8).vals (by unfold maxLen; omega))
  rw [decide_eq_true rfl] at HQ8
  clear ho8 hk8 HQ7 S7 hc7 hz7
  go_wp2_with fail
  refine (unhide HQ8).mono ?_
  rintro e w9 ⟨rfl, hk9⟩
  have S9 := hide ((unhide S8).keepF hk9)
  have hc9 := (unhide S9).cell
  have hz9 := (unhide S9).lt
  have HQ9 := hide (law_printSchema l _ _ (unhide S9).env (unhide S9).flds (by omega))
  rw [unhide HES, unhide HST] at HQ9
  clear hk9 HQ8 S8 hc8 hz8
  go_wp2_with fail
  refine (unhide HQ9).mono ?_
  rintro e wa ⟨rfl, hka⟩
  have Sa := hide ((unhide S9).keepF hka)
  have hca := (unhide Sa).cell
  have hza := (unhide Sa).lt
  have HQa := hide (val_parseSchema ST _ (by have := unhide HL3; omega) (unhide Sa).env)
  rw [unhide HB3] at HQa
  clear hka HQ9 S9 hc9 hz9
  go_wp2_with fail
  refine (unhide HQa).mono ?_
  rintro e wb ⟨vb, rfl, hob, hkb⟩
  obtain ⟨zo, zc, rfl⟩ := (rowAt_own hob).form
  have Sb0 := (unhide Sa).keepF hkb
  obtain ⟨HX, hxb, hxc⟩ := boxed wb #[.slice zo l.length zc] 26
  have qx := hxc 0 (.slice zo l.length zc) rfl
  have Sb := hide (Sb0.keepF (unhide HX))
  have hcb := (unhide Sb).cell
  have hzb := (unhide Sb).lt
  have hcb0 := Sb0.cell
  have hzb0 := Sb0.lt
  have HQb := hide (eqSchema_any _ _ _ l l ((flds_own hob).keepF (unhide HX)) (unhide Sb).flds (by unfold maxLen; omega))
  rw [decide_eq_true rfl] at HQb
  clear hob hkb HQa Sa hca hza hxc Sb0
  go_wp2_with fail
  refine (unhide HQb).mono ?_
  rintro e wc ⟨rfl, hkc⟩
  have Sc := hide ((unhide Sb).keepF hkc)
  have hcc := (unhide Sc).cell
  have hzc := (unhide Sc).lt
  have HQc := hide (law_makes l _ r _ _ (unhide Sc).env (unhide Sc).flds (unhide Sc).vals (by omega) (by omega))
  rw [unhide HB4] at HQc
  clear hkc HQb Sb hcb hzb hcb0 hzb0 qx hxb HX
  go_wp2_with fail
  refine (unhide HQc).mono ?_
  rintro e wd ⟨vd, rfl, hod, hkd⟩
  obtain ⟨mo, mc, rfl⟩ := (rowAt_own hod).form
  have Sd := hide ((unhide Sc).keepF hkd)
  have hcd := (unhide Sd).cell
  have hzd := (unhide Sd).lt
  have HQd := hide (eqVals_any wd _ _ r r (vals_own hod) (unhide Sd).vals (by unfold maxLen; omega))
  rw [decide_eq_true rfl] at HQd
  clear hod hkd HQc Sc hcc hzc
  go_wp2_with fail
  refine (unhide HQd).mono ?_
  rintro e we ⟨rfl, hke⟩
  have Se := hide ((unhide Sd).keepF hke)
  have hce := (unhide Se).cell
  have hze := (unhide Se).lt
  have HQe := hide (law_check l _ r _ _ (unhide Se).env (unhide Se).flds (unhide Se).vals (by omega) (by omega))
  rw [unhide HER] at HQe
  clear hke HQd Sd hcd hzd
  go_wp2_with fail
  refine (unhide HQe).mono ?_
  rintro e wf ⟨rfl, hkf⟩
  have Sf := hide ((unhide Se).keepF hkf)
  clear hkf HQe Se hce hze
  go_wp2_with fail
  go_ret
  exact ⟨rfl, (unhide Sf).keep⟩
end Go.Proofs.YtajklagdjokojaaGreatDoor
