import Derived.Test.YtbfkoamledkhnaaGreatDoorJx
namespace Go.Proofs.YtbfkoamledkhnaaGreatDoor
open Go.RowKit Go.Maps

set_option maxRecDepth 100000 in
set_option maxHeartbeats 1000000 in
theorem law_makes (l : List FieldA) (v : Value) (r : List ValA) (u : Value) (w : World) (hE : Env w) (h : FldsAt w v l) (hr : ValsAt w u r) (hl : l.length ≤ 1099511627776) (hrl : r.length ≤ 1099511627776) :
    Calls Tryz.prog 26 #[.agg #[v], u] w fun e w' => ∃ r', e = .returned (.tuple #[r', .int .i64 ((makeB l r).2)]) ∧ w'.ownsRow w.heap.size 69 3 r' ((makeB l r).1).length (vcs ((makeB l r).1)) ∧ Keeps (fun _ => False) w w' := by
  have HEV := hide hE
  clear hE
  obtain ⟨ao, cap, rfl⟩ := RowAt.form h
  obtain ⟨bo, cbp, rfl⟩ := RowAt.form hr
  obtain ⟨HB, hb, hbc⟩ := boxed w #[.slice ao l.length cap] 28
  have hp := hbc 0 (.slice ao l.length cap) rfl
  have HF := hide (h.keepF (unhide HB))
  have HQ := hide (copySchema_any _ _ l (unhide HF) hl)
  have HR := hide (hr.keepF (unhide HB))
  clear hbc h hr
  obtain ⟨E, HE⟩ : ∃ E, Hid ((makeB l r).2 = E) := ⟨_, rfl⟩
  rw [unhide HE]
  obtain ⟨X, HXX⟩ : ∃ X, Hid ((makeB l r).1 = X) := ⟨_, rfl⟩
  rw [unhide HXX]
  go_enter Tryz.func26, Tryz.ntmps26
  go_wp2_with fail
  refine (unhide HQ).mono ?_
  rintro e w2 ⟨v1, rfl, ho2, hk2⟩
  obtain ⟨oo, oc, rfl⟩ := (rowAt_own ho2).form
  obtain ⟨HX, hx, hxc⟩ := boxed w2 #[.slice oo l.length oc] 28
  have q0 := hxc 0 (.slice oo l.length oc) rfl
  have p2 := (((unhide HX).cell (o := 0) (Nat.lt_of_lt_of_le hb hk2.size) id).trans (hk2.cell (o := 0) hb id)).trans hp
  have HF3 := hide (((unhide HF).keepF hk2).keepF (unhide HX))
  have HA3 := hide ((flds_own ho2).keepF (unhide HX))
  have HB3 := hide (((unhide HB).trans hk2).trans (unhide HX))
  have hb3 : w.heap.size < (w2.alloc (.cells #[.slice oo l.length oc] 28)).heap.size := Nat.lt_of_lt_of_le (Nat.lt_of_lt_of_le hb hk2.size) (unhide HX).size
  have HR3 := hide (((unhide HR).keepF hk2).keepF (unhide HX))
  clear hxc HQ hp ho2 hk2 hb HX HB HF HR
  have HQ1 := hide (copyVals_any (w2.alloc (.cells #[.slice oo l.length oc] 28)) _ r (unhide HR3) hrl)
  go_wp2_with fail
  refine (unhide HQ1).mono ?_
  rintro e w3 ⟨v2, rfl, ho3, hk3⟩
  obtain ⟨uo, uc, rfl⟩ := (rowAt_own ho3).form
  have q3 := (hk3.cell (o := 0) hx id).trans q0
  have p3 := (hk3.cell (o := 0) hb3 id).trans p2
  have hx3 := Nat.lt_of_lt_of_le hx hk3.size
  have hb4 := Nat.lt_of_lt_of_le hb3 hk3.size
  have HF4 := hide ((unhide HF3).keepF hk3)
  have HA4 := hide ((unhide HA3).keepF hk3)
  have HR4 := hide ((unhide HR3).keepF hk3)
  have HC4 := hide (vals_own ho3)
  have HB4 := hide ((unhide HB3).trans hk3)
  clear HQ1 q0 p2 hk3 ho3 HF3 HA3 HR3 HB3
  have HQ2 := hide (val_make l _ r _ _ ((unhide HEV).keepF (unhide HB4)).types (unhide HA4) (unhide HC4))
  rw [unhide HE, unhide HXX] at HQ2
  go_wp2_with fail
  refine (unhide HQ2).mono ?_
  rintro e w5 ⟨r', rfl, ho5, hk5⟩
  have q5 := (hk5.cell (o := 0) hx3 id).trans q3
  have p5 := (hk5.cell (o := 0) hb4 id).trans p3
  have HQ3 := hide (eqSchema_any w5 _ _ l l ((unhide HA4).keepF hk5) ((unhide HF4).keepF hk5) (len_max hl))
  rw [decide_eq_true rfl] at HQ3
  have HB5 := hide ((unhide HB4).trans hk5)
  have HR5 := hide ((unhide HR4).keepF hk5)
  have HC5 := hide ((unhide HC4).keepF hk5)
  have HO5 := hide (ownsRow_lower ho5 (unhide HB4).size)
  clear ho5
  clear HQ2 hk5 q3 p3
  go_wp2_with fail
  refine (unhide HQ3).mono ?_
  rintro e w6 ⟨rfl, hk6⟩
  have HB6 := hide ((unhide HB5).trans hk6)
  have HO6 := hide (ownsRow_kept (unhide HO5) hk6 (fun _ _ => id))
  have HQ4 := hide (eqVals_any w6 _ _ r r ((unhide HC5).keepF hk6) ((unhide HR5).keepF hk6) (len_max hrl))
  rw [decide_eq_true rfl] at HQ4
  clear HQ3 hk6
  go_wp2_with fail
  refine (unhide HQ4).mono ?_
  rintro e w7 ⟨rfl, hk7⟩
  have HB7 := hide ((unhide HB6).trans hk7)
  have HO7 := hide (ownsRow_kept (unhide HO6) hk7 (fun _ _ => id))
  clear HQ4 hk7
  go_wp2_with fail
  go_ret2
  exact ⟨_, rfl, unhide HO7, unhide HB7⟩

set_option maxRecDepth 100000 in
set_option maxHeartbeats 1000000 in
theorem law_decode (l : List FieldA) (v : Value) (t : Txt) (u : Value) (w : World) (hE : Env w) (h : FldsAt w v l) (hr : BytesAt w u t) (hl : l.length ≤ 1099511627776) (hrl : t.length ≤ 1099511627776) :
    Calls Tryz.prog 32 #[.agg #[v], u] w fun e w' => ∃ r', e = .returned (.tuple #[r', .int .i64 ((decodeB l t).2)]) ∧ w'.ownsRow w.heap.size 69 3 r' ((decodeB l t).1).length (vcs ((decodeB l t).1)) ∧ Keeps (fun _ => False) w w' := by
  have HEV := hide hE
  clear hE
  obtain ⟨ao, cap, rfl⟩ := RowAt.form h
  obtain ⟨bo, cbp, rfl⟩ := RowAt.form hr
  obtain ⟨HB, hb, hbc⟩ := boxed w #[.slice ao l.length cap] 28
  have hp := hbc 0 (.slice ao l.length cap) rfl
  have HF := hide (h.keepF (unhide HB))
  have HQ := hide (copySchema_any _ _ l (unhide HF) hl)
  have HR := hide (hr.keepF (unhide HB))
  clear hbc h hr
  obtain ⟨E, HE⟩ : ∃ E, Hid ((decodeB l t).2 = E) := ⟨_, rfl⟩
  rw [unhide HE]
  obtain ⟨X, HXX⟩ : ∃ X, Hid ((decodeB l t).1 = X) := ⟨_, rfl⟩
  rw [unhide HXX]
  go_enter Tryz.func32, Tryz.ntmps32
  go_wp2_with fail
  refine (unhide HQ).mono ?_
  rintro e w2 ⟨v1, rfl, ho2, hk2⟩
  obtain ⟨oo, oc, rfl⟩ := (rowAt_own ho2).form
  obtain ⟨HX, hx, hxc⟩ := boxed w2 #[.slice oo l.length oc] 28
  have q0 := hxc 0 (.slice oo l.length oc) rfl
  have p2 := (((unhide HX).cell (o := 0) (Nat.lt_of_lt_of_le hb hk2.size) id).trans (hk2.cell (o := 0) hb id)).trans hp
  have HF3 := hide (((unhide HF).keepF hk2).keepF (unhide HX))
  have HA3 := hide ((flds_own ho2).keepF (unhide HX))
  have HB3 := hide (((unhide HB).trans hk2).trans (unhide HX))
  have hb3 : w.heap.size < (w2.alloc (.cells #[.slice oo l.length oc] 28)).heap.size := Nat.lt_of_lt_of_le (Nat.lt_of_lt_of_le hb hk2.size) (unhide HX).size
  have HR3 := hide (((unhide HR).keepF hk2).keepF (unhide HX))
  clear hxc HQ hp ho2 hk2 hb HX HB HF HR
  have HQ1 := hide (copyBytes_any (w2.alloc (.cells #[.slice oo l.length oc] 28)) _ t (unhide HR3) (by omega))
  go_wp2_with fail
  refine (unhide HQ1).mono ?_
  rintro e w3 ⟨v2, rfl, ho3, hk3⟩
  obtain ⟨uo, uc, rfl⟩ := (rowAt_own ho3).form
  have q3 := (hk3.cell (o := 0) hx id).trans q0
  have p3 := (hk3.cell (o := 0) hb3 id).trans p2
  have hx3 := Nat.lt_of_lt_of_le hx hk3.size
  have hb4 := Nat.lt_of_lt_of_le hb3 hk3.size
  have HF4 := hide ((unhide HF3).keepF hk3)
  have HA4 := hide ((unhide HA3).keepF hk3)
  have HR4 := hide ((unhide HR3).keepF hk3)
  have HC4 := hide (bytes_own ho3)
  have HOC := hide ho3
  have HB4 := hide ((unhide HB3).trans hk3)
  clear HQ1 q0 p2 hk3 ho3 HF3 HA3 HR3 HB3
  have HQ2 := hide (vv_decode l _ t _ _ _ ((unhide HEV).keepF (unhide HB4)) (unhide HA4) (unhide HOC) hrl)
  rw [unhide HE, unhide HXX] at HQ2
  go_wp2_with fail
  refine (unhide HQ2).mono ?_
  rintro e w5 ⟨r', rfl, ho5, hk5⟩
  have q5 := (hk5.cell (o := 0) hx3 id).trans q3
  have p5 := (hk5.cell (o := 0) hb4 id).trans p3
  have HQ3 := hide (eqSchema_any w5 _ _ l l ((unhide HA4).keepF hk5) ((unhide HF4).keepF hk5) (len_max hl))
  rw [decide_eq_true rfl] at HQ3
  have HB5 := hide ((unhide HB4).trans hk5)
  have HR5 := hide ((unhide HR4).keepF hk5)
  have HC5 := hide ((unhide HC4).keepF hk5)
  have HO5 := hide (ownsRow_lower ho5 (unhide HB4).size)
  clear ho5
  clear HQ2 hk5 q3 p3
  go_wp2_with fail
  refine (unhide HQ3).mono ?_
  rintro e w6 ⟨rfl, hk6⟩
  have HB6 := hide ((unhide HB5).trans hk6)
  have HO6 := hide (ownsRow_kept (unhide HO5) hk6 (fun _ _ => id))
  have HQ4 := hide (eqBytes_any w6 _ _ t t ((unhide HC5).keepF hk6) ((unhide HR5).keepF hk6) (len_max hrl))
  rw [decide_eq_true rfl] at HQ4
  clear HQ3 hk6
  go_wp2_with fail
  refine (unhide HQ4).mono ?_
  rintro e w7 ⟨rfl, nq, rfl⟩
  have hk7 := keeps_drewN w6 nq
  have HB7 := hide ((unhide HB6).trans hk7)
  have HO7 := hide (ownsRow_kept (unhide HO6) hk7 (fun _ _ => id))
  clear HQ4 hk7
  go_wp2_with fail
  go_ret2
  exact ⟨_, rfl, unhide HO7, unhide HB7⟩

set_option maxRecDepth 100000 in
set_option maxHeartbeats 1000000 in
theorem law_prints (l : List FieldA) (v : Value) (r : List ValA) (u : Value) (w : World) (hE : Env w) (h : FldsAt w v l) (hr : ValsAt w u r) (hl : l.length ≤ 1099511627776) (hrl : r.length ≤ 1099511627776) (hI : InR r) :
    Calls Tryz.prog 34 #[.agg #[v], u] w fun e w' => e = .returned (.tuple #[str (printB l r), .int .i64 (errR l r)]) ∧ Keeps (fun _ => False) w w' := by
  have HEV := hide hE
  clear hE
  obtain ⟨ao, cap, rfl⟩ := RowAt.form h
  obtain ⟨bo, cbp, rfl⟩ := RowAt.form hr
  obtain ⟨HB, hb, hbc⟩ := boxed w #[.slice ao l.length cap] 28
  have hp := hbc 0 (.slice ao l.length cap) rfl
  have HF := hide (h.keepF (unhide HB))
  have HQ := hide (copySchema_any _ _ l (unhide HF) hl)
  have HR := hide (hr.keepF (unhide HB))
  clear hbc h hr
  obtain ⟨E, HE⟩ : ∃ E, Hid (errR l r = E) := ⟨_, rfl⟩
  rw [unhide HE]
  obtain ⟨X, HXX⟩ : ∃ X, Hid (printB l r = X) := ⟨_, rfl⟩
  rw [unhide HXX]
  go_enter Tryz.func34, Tryz.ntmps34
  go_wp2_with fail
  refine (unhide HQ).mono ?_
  rintro e w2 ⟨v1, rfl, ho2, hk2⟩
  obtain ⟨oo, oc, rfl⟩ := (rowAt_own ho2).form
  obtain ⟨HX, hx, hxc⟩ := boxed w2 #[.slice oo l.length oc] 28
  have q0 := hxc 0 (.slice oo l.length oc) rfl
  have p2 := (((unhide HX).cell (o := 0) (Nat.lt_of_lt_of_le hb hk2.size) id).trans (hk2.cell (o := 0) hb id)).trans hp
  have HF3 := hide (((unhide HF).keepF hk2).keepF (unhide HX))
  have HA3 := hide ((flds_own ho2).keepF (unhide HX))
  have HB3 := hide (((unhide HB).trans hk2).trans (unhide HX))
  have hb3 : w.heap.size < (w2.alloc (.cells #[.slice oo l.length oc] 28)).heap.size := Nat.lt_of_lt_of_le (Nat.lt_of_lt_of_le hb hk2.size) (unhide HX).size
  have HR3 := hide (((unhide HR).keepF hk2).keepF (unhide HX))
  clear hxc HQ hp ho2 hk2 hb HX HB HF HR
  have HQ1 := hide (copyVals_any (w2.alloc (.cells #[.slice oo l.length oc] 28)) _ r (unhide HR3) hrl)
  go_wp2_with fail
  refine (unhide HQ1).mono ?_
  rintro e w3 ⟨v2, rfl, ho3, hk3⟩
  obtain ⟨uo, uc, rfl⟩ := (rowAt_own ho3).form
  have q3 := (hk3.cell (o := 0) hx id).trans q0
  have p3 := (hk3.cell (o := 0) hb3 id).trans p2
  have hx3 := Nat.lt_of_lt_of_le hx hk3.size
  have hb4 := Nat.lt_of_lt_of_le hb3 hk3.size
  have HF4 := hide ((unhide HF3).keepF hk3)
  have HA4 := hide ((unhide HA3).keepF hk3)
  have HR4 := hide ((unhide HR3).keepF hk3)
  have HC4 := hide (vals_own ho3)
  have HB4 := hide ((unhide HB3).trans hk3)
  clear HQ1 q0 p2 hk3 ho3 HF3 HA3 HR3 HB3
  have HQ2 := hide (vv_print l _ r _ _ ((unhide HEV).keepF (unhide HB4)) (unhide HA4) (unhide HC4) hI)
  rw [unhide HE, unhide HXX] at HQ2
  go_wp2_with fail
  refine (unhide HQ2).mono ?_
  rintro e w5 ⟨rfl, hk5⟩
  have q5 := (hk5.cell (o := 0) hx3 id).trans q3
  have p5 := (hk5.cell (o := 0) hb4 id).trans p3
  have HQ3 := hide (eqSchema_any w5 _ _ l l ((unhide HA4).keepF hk5) ((unhide HF4).keepF hk5) (len_max hl))
  rw [decide_eq_true rfl] at HQ3
  have HB5 := hide ((unhide HB4).trans hk5)
  have HR5 := hide ((unhide HR4).keepF hk5)
  have HC5 := hide ((unhide HC4).keepF hk5)
  clear HQ2 hk5 q3 p3
  go_wp2_with fail
  refine (unhide HQ3).mono ?_
  rintro e w6 ⟨rfl, hk6⟩
  have HB6 := hide ((unhide HB5).trans hk6)
  have HQ4 := hide (eqVals_any w6 _ _ r r ((unhide HC5).keepF hk6) ((unhide HR5).keepF hk6) (len_max hrl))
  rw [decide_eq_true rfl] at HQ4
  clear HQ3 hk6
  go_wp2_with fail
  refine (unhide HQ4).mono ?_
  rintro e w7 ⟨rfl, hk7⟩
  have HB7 := hide ((unhide HB6).trans hk7)
  clear HQ4 hk7
  go_wp2_with fail
  go_ret2
  exact ⟨rfl, unhide HB7⟩

end Go.Proofs.YtbfkoamledkhnaaGreatDoor
namespace Go.Proofs.YtbfkoamledkhnaaGreatDoor
open Go.RowKit Go.Maps

/-- One call of a script. -/
structure OpA where
  kind : Int
  l : List FieldA
  fv : Value
  r : List ValA
  rv : Value
  t : Txt
  b : Txt
  bv : Value
structure OpOK (w : World) (o : OpA) : Prop where
  env : Env w
  hf : FldsAt w o.fv o.l
  hr : ValsAt w o.rv o.r
  hb : BytesAt w o.bv o.b
  ll : o.l.length ≤ 1099511627776
  rl : o.r.length ≤ 1099511627776
  tl : o.t.length ≤ 4294967280
  bl : o.b.length ≤ 1099511627776
  inr : InR o.r
theorem OpOK.tl' {w : World} {o : OpA} (h : OpOK w o) : o.t.length ≤ 1099511627776 := Nat.le_trans h.tl (by omega)
theorem OpOK.keepF {w w' : World} {o : OpA} (h : OpOK w o) (hk : Keeps (fun _ => False) w w') : OpOK w' o := ⟨h.env.keepF hk, h.hf.keepF hk, h.hr.keepF hk, h.hb.keepF hk, h.ll, h.rl, h.tl, h.bl, h.inr⟩
def OpA.v (o : OpA) : Value := .agg #[.int .i64 o.kind, o.fv, o.rv, str o.t, o.bv]

set_option maxRecDepth 100000 in
set_option maxHeartbeats 1000000 in
theorem schemas_any (o : OpA) (w : World) (h : OpOK w o) :
    Calls Tryz.prog 11 #[o.v] w fun e w' => e = .returned (.bool true) ∧ Keeps (fun _ => False) w w' := by
  unfold OpA.v
  obtain ⟨ao, ac, hfv⟩ := RowAt.form h.hf
  obtain ⟨bo, bc, hrv⟩ := RowAt.form h.hr
  obtain ⟨co, cc, hbv⟩ := RowAt.form h.hb
  obtain ⟨K, hKK⟩ : ∃ K, o.kind = K := ⟨_, rfl⟩
  rw [hfv, hrv, hbv, hKK]
  clear hKK
  obtain ⟨HB, hb, hbc⟩ := boxed w #[.int .i64 K, .slice ao o.l.length ac, .slice bo o.r.length bc, str o.t, .slice co o.b.length cc] 32
  have p0 := hbc 0 (.int .i64 K) rfl
  have p1 := hbc 1 (.slice ao o.l.length ac) rfl
  have p3 := hbc 3 (str o.t) rfl
  have HO := hide (h.keepF (unhide HB))
  have HFV := hide hfv
  by_cases k1 : K = 1
  · have HQ := hide (law_checkSchema o.l _ _ (unhide HO).env (unhide HO).hf h.ll)
    rw [hfv] at HQ
    have HQ2 := fun w2 (hk : Keeps (fun _ => False) _ w2) => hide (checkSchema_any o.l _ w2 ((unhide HO).hf.keepF hk))
    rw [hfv] at HQ2
    subst k1
    generalize errS o.l = E at *
    clear hfv hrv hbv h hbc p3
    go_enter Tryz.func11, Tryz.ntmps11
    go_wp2_with fail
    refine (unhide HQ).mono ?_
    rintro e w2 ⟨rfl, hk⟩
    have q1 := (hk.cell (o := 1) hb id).trans p1
    have HQ3 := HQ2 w2 hk
    have HB2 := hide ((unhide HB).trans hk)
    clear hk HQ HQ2
    go_wp2_with fail
    refine (unhide HQ3).mono ?_
    rintro e w3 ⟨rfl, hk3⟩
    have HB3 := hide ((unhide HB2).trans hk3)
    clear hk3
    go_wp2_with fail
    go_ret
    exact ⟨ret_bool (by simp), unhide HB3⟩
  have k1' : (K == 1) = false := by simpa using k1
  by_cases k2 : K = 2
  · have HQ := hide (law_printSchema o.l _ _ (unhide HO).env (unhide HO).hf h.ll)
    rw [hfv] at HQ
    have HQ2 := fun w2 (hk : Keeps (fun _ => False) _ w2) => hide (printSchema_any o.l _ w2 ((unhide HO).hf.keepF hk))
    rw [hfv] at HQ2
    subst k2
    generalize errS o.l = E at *
    generalize printSchemaB o.l = T at *
    clear hfv hrv hbv h hbc p3 k1
    go_enter Tryz.func11, Tryz.ntmps11
    go_wp2_with fail
    refine (unhide HQ).mono ?_
    rintro e w2 ⟨rfl, hk⟩
    have q1 := (hk.cell (o := 1) hb id).trans p1
    have HQ3 := HQ2 w2 hk
    have HB2 := hide ((unhide HB).trans hk)
    clear hk HQ HQ2
    go_wp2_with fail
    refine (unhide HQ3).mono ?_
    rintro e w3 ⟨rfl, hk3⟩
    have HB3 := hide ((unhide HB2).trans hk3)
    clear hk3
    go_wp2_with fail
    all_goals go_ret
    all_goals exact ⟨ret_bool (by simp_all), unhide HB3⟩
  · have k2' : (K == 2) = false := by simpa using k2
    have HQ := hide (val_parseSchema o.t (w.alloc (.cells #[.int .i64 K, .slice ao o.l.length ac, .slice bo o.r.length bc, str o.t, .slice co o.b.length cc] 32)) h.tl (unhide HO).env)
    have HQ2 := fun w2 => hide (parseSchema_any o.t w2 h.tl')
    generalize parseSchemaB o.t = D at *
    clear hfv hrv hbv h hbc k1 k2
    go_enter Tryz.func11, Tryz.ntmps11
    go_wp2_with fail
    refine (unhide HQ).mono ?_
    rintro e w2 ⟨v2, rfl, ho2, hk2⟩
    obtain ⟨oo, oc, rfl⟩ := (rowAt_own ho2).form
    have q3 := (hk2.cell (o := 3) hb id).trans p3
    have HB2 := hide ((unhide HB).trans hk2)
    have HO2 := hide ho2
    have hb2 := Nat.lt_of_lt_of_le hb hk2.size
    clear hk2 ho2 HQ
    go_wp2_with fail
    obtain ⟨HX, hx, hxc⟩ := boxed w2 #[.slice oo D.1.length oc] 28
    have m0 := hxc 0 (.slice oo D.1.length oc) rfl
    clear hxc
    refine (unhide (HQ2 _)).mono ?_
    rintro e w4 ⟨v4, rfl, ho4, hk4⟩
    obtain ⟨o4, c4, rfl⟩ := (rowAt_own ho4).form
    obtain ⟨HY, hy, hyc⟩ := boxed w4 #[.slice o4 D.1.length c4] 28
    have n0 := hyc 0 (.slice o4 D.1.length c4) rfl
    have m4 := ((unhide HY).cell (o := 0) (Nat.lt_of_lt_of_le hx hk4.size) id).trans ((hk4.cell (o := 0) hx id).trans m0)
    have HQ3 := hide (eqSchema_any (w4.alloc (.cells #[.slice o4 D.1.length c4] 28)) _ _ D.1 D.1 ((((flds_own (unhide HO2)).keepF (unhide HX)).keepF hk4).keepF (unhide HY)) ((flds_own ho4).keepF (unhide HY)) (ownsRow_max ho4))
    rw [decide_eq_true rfl] at HQ3
    have HB4 := hide ((((unhide HB2).trans (unhide HX)).trans hk4).trans (unhide HY))
    clear hyc ho4 hk4 HQ2 m0
    go_wp2_with fail
    refine (unhide HQ3).mono ?_
    rintro e w5 ⟨rfl, hk5⟩
    have HB5 := hide ((unhide HB4).trans hk5)
    clear hk5 HQ3
    go_wp2_with fail
    all_goals go_ret
    all_goals exact ⟨ret_bool (by simp_all), unhide HB5⟩

end Go.Proofs.YtbfkoamledkhnaaGreatDoor
