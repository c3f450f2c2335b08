import Derived.Test.YtonodcmbbgpjjaaDoorKb
import Derived.Test.YtonodcmbbgpjjaaDoorKc
namespace Go.Proofs.YtonodcmbbgpjjaaDoor
open Go.RowKit Go.Maps
/-- What Run answers, whatever it is. -/
structure OutA where
  e : Int
  here : Bool
  vals : List ValA
  steps : Nat
  deep : Nat
def outO (V R : Int) (T : List (Nat × List ValA) × MS) : OutA := if V ≠ 0 then ⟨V, false, [], 0, 0⟩ else if R ≠ 0 then ⟨R, false, [], 0, 0⟩ else ⟨0, T.2.here, T.2.vals, T.1.length, deepD T.1⟩
def outD (V R : Int) (T : List (Nat × List ValA) × MS) : List (Nat × List ValA) := if V ≠ 0 ∨ R ≠ 0 then [] else T.1
def runO (S : List FieldA) (l : List ValA) (hh : Bool) (vals : List ValA) : OutA := outO (verifyA S l).2.2 (rowE S hh vals) (playM S l l.length 0 ⟨[], hh, vals⟩)
def traceO (S : List FieldA) (l : List ValA) (hh : Bool) (vals : List ValA) : List (Nat × List ValA) := outD (verifyA S l).2.2 (rowE S hh vals) (playM S l l.length 0 ⟨[], hh, vals⟩)
theorem run_u (S : List FieldA) (sv u v : Value) (l : List ValA) (hh : Bool) (vals : List ValA) (w : World) (hE : Env w) (hS : FldsAt w sv S) (hl : ValsAt w v l) (hI : InR l) (hr : ValsAt w u vals) :
    Calls Tryd.prog 9 #[.agg #[sv], v, .agg #[.bool hh, u]] w fun e w' => ∃ ro rc, e = .returned (.tuple #[.agg #[.bool (runO S l hh vals).here, .slice ro (runO S l hh vals).vals.length rc, .int .i64 ((runO S l hh vals).steps : Int), .int .i64 ((runO S l hh vals).deep : Int)], .int .i64 (runO S l hh vals).e]) ∧ ValsAt w' (.slice ro (runO S l hh vals).vals.length rc) (runO S l hh vals).vals ∧ Keeps (fun _ => False) w w' := by
  refine (machRun_v S sv u v l hh vals w hE hS hl hI hr).mono ?_
  intro e w' h
  unfold runO
  generalize (verifyA S l).2.2 = V at *
  generalize rowE S hh vals = R at *
  generalize playM S l l.length 0 ⟨[], hh, vals⟩ = T at *
  unfold outO
  rcases h with ⟨h1, rfl, hk⟩ | ⟨rfl, rfl, rv, rfl, hv, _, hk⟩
  · by_cases hV : V = 0
    · subst hV
      have hR : R ≠ 0 := h1.resolve_left (fun q => q rfl)
      rw [if_neg (by simp), if_neg (by simp), if_pos hR]
      exact ⟨none, 0, rfl, nil_vals _, hk⟩
    · rw [if_pos hV, if_pos hV]
      exact ⟨none, 0, rfl, nil_vals _, hk⟩
  · obtain ⟨ro, rc, rfl⟩ := RowAt.form hv
    rw [if_neg (by simp), if_neg (by simp)]
    exact ⟨ro, rc, rfl, hv, hk⟩
theorem nil_steps (w : World) : StepsAt w (.slice none 0 0) [] := ⟨⟨_, _, rfl⟩, fun h0 => by simp at h0, fun ao m cap e => by simp at e; omega⟩
theorem trace_u (S : List FieldA) (sv u v : Value) (l : List ValA) (hh : Bool) (vals : List ValA) (w : World) (hE : Env w) (hS : FldsAt w sv S) (hl : ValsAt w v l) (hI : InR l) (hr : ValsAt w u vals) :
    Calls Tryd.prog 10 #[.agg #[sv], v, .agg #[.bool hh, u]] w fun e w' => ∃ ro rc, e = .returned (.tuple #[.slice ro (traceO S l hh vals).length rc, .int .i64 (runO S l hh vals).e]) ∧ StepsAt w' (.slice ro (traceO S l hh vals).length rc) (traceO S l hh vals) ∧ Keeps (fun _ => False) w w' := by
  refine (machTrace_v S sv u v l hh vals w hE hS hl hI hr).mono ?_
  intro e w' h
  unfold runO traceO
  generalize (verifyA S l).2.2 = V at *
  generalize rowE S hh vals = R at *
  generalize playM S l l.length 0 ⟨[], hh, vals⟩ = T at *
  unfold outO outD
  rcases h with ⟨h1, rfl, hk⟩ | ⟨rfl, rfl, sl, rfl, hv, hk⟩
  · rw [if_pos h1]
    by_cases hV : V = 0
    · subst hV
      have hR : R ≠ 0 := h1.resolve_left (fun q => q rfl)
      rw [if_neg (by simp), if_neg (by simp), if_pos hR]
      exact ⟨none, 0, rfl, nil_steps _, hk⟩
    · rw [if_pos hV, if_pos hV]
      exact ⟨none, 0, rfl, nil_steps _, hk⟩
  · have hv' := rowAt_own hv
    obtain ⟨ro, rc, rfl⟩ := RowAt.form hv'
    rw [if_neg (by simp), if_neg (by simp), if_neg (by simp)]
    exact ⟨ro, rc, rfl, hv', hk⟩
/-- What Exec answers, whatever it is. -/
def execO (S : List FieldA) (t : Txt) (hh : Bool) (vals : List ValA) : OutA := if (decE S t).2 ≠ 0 then ⟨(decE S t).2, false, [], 0, 0⟩ else runO S (decE S t).1 hh vals
theorem exec_u (S : List FieldA) (sv u v : Value) (t : Txt) (hh : Bool) (vals : List ValA) (w : World) (hE : Env w) (hS : FldsAt w sv S) (hb : BytesAt w v t) (hr : ValsAt w u vals) :
    Calls Tryd.prog 15 #[.agg #[sv], v, .agg #[.bool hh, u]] w fun e w' => ∃ ro rc, e = .returned (.tuple #[.agg #[.bool (execO S t hh vals).here, .slice ro (execO S t hh vals).vals.length rc], .int .i64 (execO S t hh vals).e]) ∧ ValsAt w' (.slice ro (execO S t hh vals).vals.length rc) (execO S t hh vals).vals ∧ Keeps (fun _ => False) w w' := by
  refine (machExec_v S sv u v t hh vals w hE hS hb hr).mono ?_
  intro e w' h
  unfold execO runO
  generalize (decE S t).2 = X at *
  generalize (verifyA S (decE S t).1).2.2 = V at *
  generalize rowE S hh vals = R at *
  generalize playM S (decE S t).1 (decE S t).1.length 0 ⟨[], hh, vals⟩ = T at *
  unfold outO
  have h00 : ¬ ((0 : Int) ≠ 0) := fun q => q rfl
  rcases h with ⟨h1, rfl, hk⟩ | ⟨rfl, rfl, rfl, rv, rfl, hv, hk⟩
  · by_cases hX : X = 0
    · subst hX
      simp only [if_neg h00]
      by_cases hV : V = 0
      · subst hV
        have hR : R ≠ 0 := (h1.resolve_left (fun q => q rfl)).resolve_left (fun q => q rfl)
        simp only [if_neg h00, if_pos hR]
        exact ⟨none, 0, rfl, nil_vals _, hk⟩
      · simp only [if_pos hV]
        exact ⟨none, 0, rfl, nil_vals _, hk⟩
    · simp only [if_pos hX]
      exact ⟨none, 0, rfl, nil_vals _, hk⟩
  · obtain ⟨ro, rc, rfl⟩ := RowAt.form hv
    simp only [if_neg h00]
    exact ⟨ro, rc, rfl, hv, hk⟩
/-- Two boxes: a schema's and a row's. -/
theorem two_boxes (w : World) (sv rv : Value) (hh : Bool) : ∃ Wb, Wb = (w.alloc (.cells #[sv] 24)).alloc (.cells #[.bool hh, rv] 28) ∧ Keeps (fun _ => False) w Wb ∧ w.heap.size + 1 < Wb.heap.size ∧ Wb.cell? ⟨w.heap.size, 0, none⟩ = some sv ∧ Wb.cell? ⟨w.heap.size + 1, 0, none⟩ = some (.bool hh) ∧ Wb.cell? ⟨w.heap.size + 1, 1, none⟩ = some rv := by
  have k1 := kAlloc w (.cells #[sv] 24)
  have k2 := kAlloc (w.alloc (.cells #[sv] 24)) (.cells #[.bool hh, rv] 28)
  have h1 := heap_alloc_new w (.cells #[sv] 24)
  have h2 := heap_alloc_new (w.alloc (.cells #[sv] 24)) (.cells #[.bool hh, rv] 28)
  rw [show (w.alloc (.cells #[sv] 24)).heap.size = w.heap.size + 1 by simp] at h2
  have h1' := (k2.block _ (lt_of_block h1) id).trans h1
  exact ⟨_, rfl, k1.trans k2, lt_of_block h2, (cell_of_blk h1' _).trans rfl, (cell_of_blk h2 _).trans rfl, (cell_of_blk h2 _).trans rfl⟩
/-- An outcome in its block. -/
structure OutB (w : World) (b : Nat) (h : Bool) (v : Value) (s d : Int) : Prop where
  lt : b < w.heap.size
  c0 : w.cell? ⟨b, 0, none⟩ = some (.bool h)
  c1 : w.cell? ⟨b, 1, none⟩ = some v
  c2 : w.cell? ⟨b, 2, none⟩ = some (.int .i64 s)
  c3 : w.cell? ⟨b, 3, none⟩ = some (.int .i64 d)
theorem outB_new (w : World) (h : Bool) (v : Value) (s d : Int) : OutB (w.alloc (.cells #[.bool h, v, .int .i64 s, .int .i64 d] 34)) w.heap.size h v s d := by
  have hA := heap_alloc_new w (.cells #[.bool h, v, .int .i64 s, .int .i64 d] 34)
  exact ⟨lt_of_block hA, (cell_of_blk hA _).trans rfl, (cell_of_blk hA _).trans rfl, (cell_of_blk hA _).trans rfl, (cell_of_blk hA _).trans rfl⟩
theorem OutB.keep {w w' : World} {b : Nat} {h : Bool} {v : Value} {s d : Int} (q : OutB w b h v s d) (hk : Keeps (fun _ => False) w w') : OutB w' b h v s d :=
  ⟨Nat.lt_of_lt_of_le q.lt hk.size, (hk.cell q.lt id).trans q.c0, (hk.cell q.lt id).trans q.c1, (hk.cell q.lt id).trans q.c2, (hk.cell q.lt id).trans q.c3⟩
/-- A row in its block. -/
structure RowB (w : World) (b : Nat) (h : Bool) (v : Value) : Prop where
  lt : b < w.heap.size
  c0 : w.cell? ⟨b, 0, none⟩ = some (.bool h)
  c1 : w.cell? ⟨b, 1, none⟩ = some v
theorem rowB_new (w : World) (h : Bool) (v : Value) : RowB (w.alloc (.cells #[.bool h, v] 28)) w.heap.size h v := by
  have hA := heap_alloc_new w (.cells #[.bool h, v] 28)
  exact ⟨lt_of_block hA, (cell_of_blk hA _).trans rfl, (cell_of_blk hA _).trans rfl⟩
theorem RowB.keep {w w' : World} {b : Nat} {h : Bool} {v : Value} (q : RowB w b h v) (hk : Keeps (fun _ => False) w w') : RowB w' b h v :=
  ⟨Nat.lt_of_lt_of_le q.lt hk.size, (hk.cell q.lt id).trans q.c0, (hk.cell q.lt id).trans q.c1⟩
end Go.Proofs.YtonodcmbbgpjjaaDoor
namespace Go.Proofs.YtonodcmbbgpjjaaDoor
open Go.RowKit Go.Maps
set_option maxRecDepth 100000 in
set_option maxHeartbeats 4000000 in
theorem bounds_A (S : List FieldA) (sv u v : Value) (l : List ValA) (hh : Bool) (vals : List ValA) (w : World) (hE : Env w) (hS : FldsAt w sv S) (hl : ValsAt w v l) (hI : InR l) (hr : ValsAt w u vals) (hV : (verifyA S l).2.2 ≠ 0) :
    Calls Tryd.prog 3 #[.agg #[sv], v, .agg #[.bool hh, u]] w fun e w' => e = .returned (.bool true) ∧ Keeps (fun _ => False) w w' := by
  obtain ⟨d, at_, V, HV⟩ : ∃ d a V, Hid (verifyA S l = (d, a, V)) := ⟨_, _, _, rfl⟩
  have HO : Hid (runO S l hh vals = ⟨V, false, [], 0, 0⟩) := by show _ = _; unfold runO outO; rw [if_pos hV, unhide HV]
  have HD : Hid (traceO S l hh vals = []) := by show _ = _; unfold traceO outD; rw [if_pos (Or.inl hV)]
  rw [unhide HV] at hV
  have be : (V != 0) = true := by rw [bne_iff_ne]; exact hV
  clear hV
  obtain ⟨so, sc, rfl⟩ := RowAt.form hS
  obtain ⟨uo, uc, rfl⟩ := RowAt.form hr
  obtain ⟨vo, vc, rfl⟩ := RowAt.form hl
  obtain ⟨Wb, hWb, hkb, hbs, s0, r0, r1⟩ := two_boxes w (.slice so S.length sc) (.slice uo vals.length uc) hh
  have hb0 : w.heap.size < Wb.heap.size := by omega
  have hWb' := hWb.symm
  have HB := hide hkb
  have HS := hide (hS.keepF hkb)
  have HL := hide (hl.keepF hkb)
  have HU := hide (hr.keepF hkb)
  have HE := hide (hE.keepF hkb)
  have HK0 := hide (Keeps.refl (fun _ => False) Wb)
  have HQ := hide (works_v Wb (unhide HE))
  clear hE hS hl hr hkb hWb
  go_enter Tryd.func3, Tryd.ntmps3
  go_wp2_with fail
  refine (unhide HQ).mono ?_
  rintro e w1 ⟨rfl, hk⟩
  have HK1 := hide hk
  clear hk HQ hWb'
  have s1 := ((unhide HK1).cell (o := 0) hb0 id).trans s0
  have r10 := ((unhide HK1).cell (o := 0) hbs id).trans r0
  have r11 := ((unhide HK1).cell (o := 1) hbs id).trans r1
  have q1 : w.heap.size < w1.heap.size := Nat.lt_of_lt_of_le hb0 (unhide HK1).size
  have p1 : w.heap.size + 1 < w1.heap.size := Nat.lt_of_lt_of_le hbs (unhide HK1).size
  have HQ := hide (verify_v S so sc l (.slice vo l.length vc) w1 ((unhide HE).keepF (unhide HK1)).ops ((unhide HE).keepF (unhide HK1)).types ((unhide HS).keepF (unhide HK1)) ((unhide HL).keepF (unhide HK1)) hI)
  rw [unhide HV] at HQ
  go_wp2_with fail
  refine (unhide HQ).mono ?_
  rintro e w2 ⟨rfl, hk⟩
  have HK2 := hide ((unhide HK1).trans hk)
  clear hk HQ s1 r10 r11
  have s2 := ((unhide HK2).cell (o := 0) hb0 id).trans s0
  have r20 := ((unhide HK2).cell (o := 0) hbs id).trans r0
  have r21 := ((unhide HK2).cell (o := 1) hbs id).trans r1
  have q2 : w.heap.size < w2.heap.size := Nat.lt_of_lt_of_le hb0 (unhide HK2).size
  have p2 : w.heap.size + 1 < w2.heap.size := Nat.lt_of_lt_of_le hbs (unhide HK2).size
  have HQ := hide (run_u S _ _ (.slice vo l.length vc) l hh vals w2 ((unhide HE).keepF (unhide HK2)) ((unhide HS).keepF (unhide HK2)) ((unhide HL).keepF (unhide HK2)) hI ((unhide HU).keepF (unhide HK2)))
  rw [unhide HO] at HQ
  simp only at HQ
  go_wp2_with fail
  refine (unhide HQ).mono ?_
  rintro e w3 ⟨ro, rc, rfl, hv3, hk⟩
  have HK3 := hide ((unhide HK2).trans hk)
  clear hk HQ s2 r20 r21
  have s3 := ((unhide HK3).cell (o := 0) hb0 id).trans s0
  have r30 := ((unhide HK3).cell (o := 0) hbs id).trans r0
  have r31 := ((unhide HK3).cell (o := 1) hbs id).trans r1
  have q3 : w.heap.size < w3.heap.size := Nat.lt_of_lt_of_le hb0 (unhide HK3).size
  have p3 : w.heap.size + 1 < w3.heap.size := Nat.lt_of_lt_of_le hbs (unhide HK3).size
  have HO3 := hide (outB_new w3 false (.slice ro ([] : List ValA).length rc) ((0 : Nat) : Int) ((0 : Nat) : Int))
  have HK3a := hide ((unhide HK3).alloc (.cells #[.bool false, .slice ro ([] : List ValA).length rc, .int .i64 ((0 : Nat) : Int), .int .i64 ((0 : Nat) : Int)] 34))
  have HV3 := hide (hv3.keepF (kAlloc w3 (.cells #[.bool false, .slice ro ([] : List ValA).length rc, .int .i64 ((0 : Nat) : Int), .int .i64 ((0 : Nat) : Int)] 34)))
  have HQ := hide (trace_u S _ _ (.slice vo l.length vc) l hh vals _ ((unhide HE).keepF (unhide HK3a)) ((unhide HS).keepF (unhide HK3a)) ((unhide HL).keepF (unhide HK3a)) hI ((unhide HU).keepF (unhide HK3a)))
  rw [unhide HO, unhide HD] at HQ
  simp only [List.length_nil] at HQ
  clear hv3
  go_wp2_with fail
  refine (unhide HQ).mono ?_
  rintro e w4 ⟨to, tc, rfl, ht4, hk⟩
  have HK4 := hide ((unhide HK3a).trans hk)
  obtain ⟨ol, o0, o1, o2, o3⟩ := (unhide HO3).keep hk
  have HV4 := hide ((unhide HV3).keepF hk)
  have HT4 := hide ht4
  clear hk HQ s3 r30 r31 HO3 HV3 ht4 HK3a
  have s4 := ((unhide HK4).cell (o := 0) hb0 id).trans s0
  have r40 := ((unhide HK4).cell (o := 0) hbs id).trans r0
  have r41 := ((unhide HK4).cell (o := 1) hbs id).trans r1
  have q4 : w.heap.size < w4.heap.size := Nat.lt_of_lt_of_le hb0 (unhide HK4).size
  have p4 : w.heap.size + 1 < w4.heap.size := Nat.lt_of_lt_of_le hbs (unhide HK4).size
  simp only [List.length_nil] at *
  go_wp2_with fail
  go_ret
  exact ⟨rfl, (unhide HB).trans (unhide HK4)⟩
set_option maxRecDepth 100000 in
set_option maxHeartbeats 4000000 in
theorem bounds_B (S : List FieldA) (sv u v : Value) (l : List ValA) (hh : Bool) (vals : List ValA) (w : World) (hE : Env w) (hS : FldsAt w sv S) (hl : ValsAt w v l) (hI : InR l) (hr : ValsAt w u vals) (hV : (verifyA S l).2.2 = 0) (hRB : rowB S hh vals = false) :
    Calls Tryd.prog 3 #[.agg #[sv], v, .agg #[.bool hh, u]] w fun e w' => e = .returned (.bool true) ∧ Keeps (fun _ => False) w w' := by
  have hR : rowE S hh vals = 61 := by
    rcases rowB_err (h := hh) (vals := vals) (ver_schema hV) with ⟨q, _⟩ | ⟨_, q⟩
    · rw [hRB] at q; cases q
    · exact q
  obtain ⟨d, at_, HV⟩ : ∃ d a, Hid (verifyA S l = (d, a, 0)) := ⟨(verifyA S l).1, (verifyA S l).2.1, by show _ = _; rw [← hV]⟩
  have HO : Hid (runO S l hh vals = ⟨61, false, [], 0, 0⟩) := by show _ = _; unfold runO outO; rw [hV, hR, if_neg (by decide), if_pos (by decide)]
  have HD : Hid (traceO S l hh vals = []) := by show _ = _; unfold traceO outD; rw [hR, if_pos (Or.inr (by decide))]
  have HRB := hide hRB
  clear hV hR hRB
  obtain ⟨so, sc, rfl⟩ := RowAt.form hS
  obtain ⟨uo, uc, rfl⟩ := RowAt.form hr
  obtain ⟨vo, vc, rfl⟩ := RowAt.form hl
  obtain ⟨Wb, hWb, hkb, hbs, s0, r0, r1⟩ := two_boxes w (.slice so S.length sc) (.slice uo vals.length uc) hh
  have hb0 : w.heap.size < Wb.heap.size := by omega
  have hWb' := hWb.symm
  have HB := hide hkb
  have HS := hide (hS.keepF hkb)
  have HL := hide (hl.keepF hkb)
  have HU := hide (hr.keepF hkb)
  have HE := hide (hE.keepF hkb)
  have HK0 := hide (Keeps.refl (fun _ => False) Wb)
  have HQ := hide (works_v Wb (unhide HE))
  clear hE hS hl hr hkb hWb
  go_enter Tryd.func3, Tryd.ntmps3
  go_wp2_with fail
  refine (unhide HQ).mono ?_
  rintro e w1 ⟨rfl, hk⟩
  have HK1 := hide hk
  clear hk HQ hWb'
  have s1 := ((unhide HK1).cell (o := 0) hb0 id).trans s0
  have r10 := ((unhide HK1).cell (o := 0) hbs id).trans r0
  have r11 := ((unhide HK1).cell (o := 1) hbs id).trans r1
  have q1 : w.heap.size < w1.heap.size := Nat.lt_of_lt_of_le hb0 (unhide HK1).size
  have p1 : w.heap.size + 1 < w1.heap.size := Nat.lt_of_lt_of_le hbs (unhide HK1).size
  have HQ := hide (verify_v S so sc l (.slice vo l.length vc) w1 ((unhide HE).keepF (unhide HK1)).ops ((unhide HE).keepF (unhide HK1)).types ((unhide HS).keepF (unhide HK1)) ((unhide HL).keepF (unhide HK1)) hI)
  rw [unhide HV] at HQ
  go_wp2_with fail
  refine (unhide HQ).mono ?_
  rintro e w2 ⟨rfl, hk⟩
  have HK2 := hide ((unhide HK1).trans hk)
  clear hk HQ s1 r10 r11
  have s2 := ((unhide HK2).cell (o := 0) hb0 id).trans s0
  have r20 := ((unhide HK2).cell (o := 0) hbs id).trans r0
  have r21 := ((unhide HK2).cell (o := 1) hbs id).trans r1
  have q2 : w.heap.size < w2.heap.size := Nat.lt_of_lt_of_le hb0 (unhide HK2).size
  have p2 : w.heap.size + 1 < w2.heap.size := Nat.lt_of_lt_of_le hbs (unhide HK2).size
  have HQ := hide (run_u S _ _ (.slice vo l.length vc) l hh vals w2 ((unhide HE).keepF (unhide HK2)) ((unhide HS).keepF (unhide HK2)) ((unhide HL).keepF (unhide HK2)) hI ((unhide HU).keepF (unhide HK2)))
  rw [unhide HO] at HQ
  simp only at HQ
  go_wp2_with fail
  refine (unhide HQ).mono ?_
  rintro e w3 ⟨ro, rc, rfl, hv3, hk⟩
  have HK3 := hide ((unhide HK2).trans hk)
  clear hk HQ s2 r20 r21
  have s3 := ((unhide HK3).cell (o := 0) hb0 id).trans s0
  have r30 := ((unhide HK3).cell (o := 0) hbs id).trans r0
  have r31 := ((unhide HK3).cell (o := 1) hbs id).trans r1
  have q3 : w.heap.size < w3.heap.size := Nat.lt_of_lt_of_le hb0 (unhide HK3).size
  have p3 : w.heap.size + 1 < w3.heap.size := Nat.lt_of_lt_of_le hbs (unhide HK3).size
  have HO3 := hide (outB_new w3 false (.slice ro ([] : List ValA).length rc) ((0 : Nat) : Int) ((0 : Nat) : Int))
  have HK3a := hide ((unhide HK3).alloc (.cells #[.bool false, .slice ro ([] : List ValA).length rc, .int .i64 ((0 : Nat) : Int), .int .i64 ((0 : Nat) : Int)] 34))
  have HV3 := hide (hv3.keepF (kAlloc w3 (.cells #[.bool false, .slice ro ([] : List ValA).length rc, .int .i64 ((0 : Nat) : Int), .int .i64 ((0 : Nat) : Int)] 34)))
  have HQ := hide (trace_u S _ _ (.slice vo l.length vc) l hh vals _ ((unhide HE).keepF (unhide HK3a)) ((unhide HS).keepF (unhide HK3a)) ((unhide HL).keepF (unhide HK3a)) hI ((unhide HU).keepF (unhide HK3a)))
  rw [unhide HO, unhide HD] at HQ
  simp only [List.length_nil] at HQ
  clear hv3
  go_wp2_with fail
  refine (unhide HQ).mono ?_
  rintro e w4 ⟨to, tc, rfl, ht4, hk⟩
  have HK4 := hide ((unhide HK3a).trans hk)
  obtain ⟨ol, o0, o1, o2, o3⟩ := (unhide HO3).keep hk
  have HV4 := hide ((unhide HV3).keepF hk)
  have HT4 := hide ht4
  clear hk HQ s3 r30 r31 HO3 HV3 ht4 HK3a
  have s4 := ((unhide HK4).cell (o := 0) hb0 id).trans s0
  have r40 := ((unhide HK4).cell (o := 0) hbs id).trans r0
  have r41 := ((unhide HK4).cell (o := 1) hbs id).trans r1
  have q4 : w.heap.size < w4.heap.size := Nat.lt_of_lt_of_le hb0 (unhide HK4).size
  have p4 : w.heap.size + 1 < w4.heap.size := Nat.lt_of_lt_of_le hbs (unhide HK4).size
  simp only [List.length_nil] at *
  have HQ := hide (rowOf_v S (.slice so S.length sc) (.slice uo vals.length uc) hh vals w4 ((unhide HE).keepF (unhide HK4)).types ((unhide HS).keepF (unhide HK4)) ((unhide HU).keepF (unhide HK4)))
  rw [unhide HRB] at HQ
  go_wp2_with fail
  refine (unhide HQ).mono ?_
  rintro e w5 ⟨rfl, hk⟩
  have g0 := (hk.cell (o := 0) ol id).trans o0
  have g1 := (hk.cell (o := 1) ol id).trans o1
  have g2 := (hk.cell (o := 2) ol id).trans o2
  have g3 := (hk.cell (o := 3) ol id).trans o3
  have HK5 := hide ((unhide HK4).trans hk)
  clear hk HQ
  go_wp2_with fail
  go_ret
  exact ⟨rfl, (unhide HB).trans (unhide HK5)⟩
theorem typT_len (st : List ValA) : (typT st).length = st.length := by unfold typT; simp
theorem deepD_take {D : List (Nat × List ValA)} {k : Nat} {z : Nat × List ValA} (h : D[k]? = some z) : deepD (D.take (k + 1)) = max (deepD (D.take k)) z.2.length := by rw [take_snoc _ _ _ h, deepD_snoc]
set_option maxRecDepth 100000 in
set_option maxHeartbeats 4000000 in
theorem bounds_C (S : List FieldA) (sv u v : Value) (l : List ValA) (hh : Bool) (vals : List ValA) (w : World) (hE : Env w) (hS : FldsAt w sv S) (hl : ValsAt w v l) (hI : InR l) (hr : ValsAt w u vals) (hV : (verifyA S l).2.2 = 0) (hRB : rowB S hh vals = true) :
    Calls Tryd.prog 3 #[.agg #[sv], v, .agg #[.bool hh, u]] w fun e w' => e = .returned (.bool true) ∧ Keeps (fun _ => False) w w' := by
  have hR : rowE S hh vals = 0 := by
    rcases rowB_err (h := hh) (vals := vals) (ver_schema hV) with ⟨_, q⟩ | ⟨q, _⟩
    · exact q
    · rw [hRB] at q; cases q
  obtain ⟨ps, hlk, hpl, h96, hok, hz0, hdd, hd16, hrB, _, _, _⟩ := run_bounds hV hR
  obtain ⟨d, at_, HV⟩ : ∃ d a, Hid (verifyA S l = (d, a, 0)) := ⟨(verifyA S l).1, (verifyA S l).2.1, by show _ = _; rw [← hV]⟩
  have hDl : (playM S l l.length 0 ⟨[], hh, vals⟩).1.length ≤ l.length := playM_len _ _ _
  obtain ⟨D, hD⟩ : ∃ D, D = (playM S l l.length 0 ⟨[], hh, vals⟩).1 := ⟨_, rfl⟩
  obtain ⟨H, hH⟩ : ∃ H, H = (playM S l l.length 0 ⟨[], hh, vals⟩).2.here := ⟨_, rfl⟩
  obtain ⟨vs, hvs⟩ : ∃ vs, vs = (playM S l l.length 0 ⟨[], hh, vals⟩).2.vals := ⟨_, rfl⟩
  have HO : Hid (runO S l hh vals = ⟨0, H, vs, D.length, deepD D⟩) := by show _ = _; unfold runO outO; rw [hV, hR, if_neg (by decide), if_neg (by decide), hD, hH, hvs]
  have HD : Hid (traceO S l hh vals = D) := by show _ = _; unfold traceO outD; rw [hV, hR, if_neg (by decide), hD]
  rw [← hD] at hok hdd hDl hz0
  rw [← hH, ← hvs] at hrB
  rw [unhide HV] at hdd hd16
  simp only at hdd hd16
  have HRB := hide hRB
  have HRC := hide hrB
  have HLK := hide hlk
  have HPL := hide hpl
  have HOK := hide hok
  have HZ0 := hide hz0
  have H96 := hide h96
  have HDL := hide hDl
  have HDD := hide hdd
  have HD16 := hide hd16
  clear hV hR hRB hD hH hvs hrB hlk hpl hok hz0 h96 hDl hdd hd16
  obtain ⟨so, sc, rfl⟩ := RowAt.form hS
  obtain ⟨uo, uc, rfl⟩ := RowAt.form hr
  obtain ⟨vo, vc, rfl⟩ := RowAt.form hl
  obtain ⟨Wb, hWb, hkb, hbs, s0, r0, r1⟩ := two_boxes w (.slice so S.length sc) (.slice uo vals.length uc) hh
  have hb0 : w.heap.size < Wb.heap.size := by omega
  have hWb' := hWb.symm
  have HB := hide hkb
  have HS := hide (hS.keepF hkb)
  have HL := hide (hl.keepF hkb)
  have HU := hide (hr.keepF hkb)
  have HE := hide (hE.keepF hkb)
  have HK0 := hide (Keeps.refl (fun _ => False) Wb)
  have HQ := hide (works_v Wb (unhide HE))
  clear hE hS hl hr hkb hWb
  go_enter Tryd.func3, Tryd.ntmps3
  go_wp2_with fail
  refine (unhide HQ).mono ?_
  rintro e w1 ⟨rfl, hk⟩
  have HK1 := hide hk
  clear hk HQ hWb'
  have s1 := ((unhide HK1).cell (o := 0) hb0 id).trans s0
  have r10 := ((unhide HK1).cell (o := 0) hbs id).trans r0
  have r11 := ((unhide HK1).cell (o := 1) hbs id).trans r1
  have q1 : w.heap.size < w1.heap.size := Nat.lt_of_lt_of_le hb0 (unhide HK1).size
  have p1 : w.heap.size + 1 < w1.heap.size := Nat.lt_of_lt_of_le hbs (unhide HK1).size
  have HQ := hide (verify_v S so sc l (.slice vo l.length vc) w1 ((unhide HE).keepF (unhide HK1)).ops ((unhide HE).keepF (unhide HK1)).types ((unhide HS).keepF (unhide HK1)) ((unhide HL).keepF (unhide HK1)) hI)
  rw [unhide HV] at HQ
  go_wp2_with fail
  refine (unhide HQ).mono ?_
  rintro e w2 ⟨rfl, hk⟩
  have HK2 := hide ((unhide HK1).trans hk)
  clear hk HQ s1 r10 r11
  have s2 := ((unhide HK2).cell (o := 0) hb0 id).trans s0
  have r20 := ((unhide HK2).cell (o := 0) hbs id).trans r0
  have r21 := ((unhide HK2).cell (o := 1) hbs id).trans r1
  have q2 : w.heap.size < w2.heap.size := Nat.lt_of_lt_of_le hb0 (unhide HK2).size
  have p2 : w.heap.size + 1 < w2.heap.size := Nat.lt_of_lt_of_le hbs (unhide HK2).size
  have HQ := hide (run_u S _ _ (.slice vo l.length vc) l hh vals w2 ((unhide HE).keepF (unhide HK2)) ((unhide HS).keepF (unhide HK2)) ((unhide HL).keepF (unhide HK2)) hI ((unhide HU).keepF (unhide HK2)))
  rw [unhide HO] at HQ
  simp only at HQ
  go_wp2_with fail
  refine (unhide HQ).mono ?_
  rintro e w3 ⟨ro, rc, rfl, hv3, hk⟩
  have HK3 := hide ((unhide HK2).trans hk)
  clear hk HQ s2 r20 r21
  have s3 := ((unhide HK3).cell (o := 0) hb0 id).trans s0
  have r30 := ((unhide HK3).cell (o := 0) hbs id).trans r0
  have r31 := ((unhide HK3).cell (o := 1) hbs id).trans r1
  have q3 : w.heap.size < w3.heap.size := Nat.lt_of_lt_of_le hb0 (unhide HK3).size
  have p3 : w.heap.size + 1 < w3.heap.size := Nat.lt_of_lt_of_le hbs (unhide HK3).size
  have HO3 := hide (outB_new w3 H (.slice ro vs.length rc) ((D.length : Nat) : Int) ((deepD D : Nat) : Int))
  have HK3a := hide ((unhide HK3).alloc (.cells #[.bool H, .slice ro vs.length rc, .int .i64 ((D.length : Nat) : Int), .int .i64 ((deepD D : Nat) : Int)] 34))
  have HV3 := hide (hv3.keepF (kAlloc w3 (.cells #[.bool H, .slice ro vs.length rc, .int .i64 ((D.length : Nat) : Int), .int .i64 ((deepD D : Nat) : Int)] 34)))
  have HQ := hide (trace_u S _ _ (.slice vo l.length vc) l hh vals _ ((unhide HE).keepF (unhide HK3a)) ((unhide HS).keepF (unhide HK3a)) ((unhide HL).keepF (unhide HK3a)) hI ((unhide HU).keepF (unhide HK3a)))
  rw [unhide HO, unhide HD] at HQ
  simp only at HQ
  clear hv3
  go_wp2_with fail
  refine (unhide HQ).mono ?_
  rintro e w4 ⟨to, tc, rfl, ht4, hk⟩
  have HK4 := hide ((unhide HK3a).trans hk)
  obtain ⟨ol, o0, o1, o2, o3⟩ := (unhide HO3).keep hk
  have HV4 := hide ((unhide HV3).keepF hk)
  have HT4 := hide ht4
  clear hk HQ s3 r30 r31 HO3 HV3 ht4 HK3a
  have s4 := ((unhide HK4).cell (o := 0) hb0 id).trans s0
  have r40 := ((unhide HK4).cell (o := 0) hbs id).trans r0
  have r41 := ((unhide HK4).cell (o := 1) hbs id).trans r1
  have q4 : w.heap.size < w4.heap.size := Nat.lt_of_lt_of_le hb0 (unhide HK4).size
  have p4 : w.heap.size + 1 < w4.heap.size := Nat.lt_of_lt_of_le hbs (unhide HK4).size
  have HQ := hide (rowOf_v S (.slice so S.length sc) (.slice uo vals.length uc) hh vals w4 ((unhide HE).keepF (unhide HK4)).types ((unhide HS).keepF (unhide HK4)) ((unhide HU).keepF (unhide HK4)))
  rw [unhide HRB] at HQ
  go_wp2_with fail
  refine (unhide HQ).mono ?_
  rintro e w5 ⟨rfl, hk⟩
  have HK5 := hide ((unhide HK4).trans hk)
  have HX5 := hide hk
  clear hk HQ s4 r40 r41
  have s5 := ((unhide HK5).cell (o := 0) hb0 id).trans s0
  have r50 := ((unhide HK5).cell (o := 0) hbs id).trans r0
  have r51 := ((unhide HK5).cell (o := 1) hbs id).trans r1
  have q5 : w.heap.size < w5.heap.size := Nat.lt_of_lt_of_le hb0 (unhide HK5).size
  have p5 : w.heap.size + 1 < w5.heap.size := Nat.lt_of_lt_of_le hbs (unhide HK5).size
  have HQ := hide (types_v S so sc l (.slice vo l.length vc) w5 ((unhide HE).keepF (unhide HK5)).ops ((unhide HE).keepF (unhide HK5)).types ((unhide HS).keepF (unhide HK5)) ((unhide HL).keepF (unhide HK5)) hI)
  rw [unhide HLK] at HQ
  simp only at HQ
  go_wp2_with fail
  refine (unhide HQ).mono ?_
  rintro e w6 ⟨vt, rfl, htx, hk⟩
  have HK6 := hide ((unhide HK5).trans hk)
  have HX6 := hide ((unhide HX5).trans hk)
  have hvt : RowAt w6 vt ps.length (txts ps) := rowAt_own htx
  obtain ⟨vto, vtc, rfl⟩ := RowAt.form hvt
  have HVT := hide hvt
  clear hk HQ s5 r50 r51 htx hvt HX5
  have s6 := ((unhide HK6).cell (o := 0) hb0 id).trans s0
  have r60 := ((unhide HK6).cell (o := 0) hbs id).trans r0
  have r61 := ((unhide HK6).cell (o := 1) hbs id).trans r1
  have q6 : w.heap.size < w6.heap.size := Nat.lt_of_lt_of_le hb0 (unhide HK6).size
  have p6 : w.heap.size + 1 < w6.heap.size := Nat.lt_of_lt_of_le hbs (unhide HK6).size
  have HT6 := hide (RowAt.keepF (unhide HT4) (unhide HX6))
  have HQ := hide (ways_v w6 (.slice to D.length tc) (.slice vto ps.length vtc) D ps (unhide HT6) (unhide HVT) (unhide HOK) (by have := unhide HPL; have := unhide H96; omega) (Nat.le_trans (unhide HDL) (unhide H96)) (by have := unhide HPL; omega) (unhide HZ0))
  go_wp2_with fail
  refine (unhide HQ).mono ?_
  rintro e w7 ⟨rfl, hk⟩
  have HK7 := hide ((unhide HK6).trans hk)
  have HX7 := hide ((unhide HX6).trans hk)
  have HT7 := hide (RowAt.keepF (unhide HT6) hk)
  have HV7 := hide (RowAt.keepF (unhide HV4) (unhide HX7))
  have g0 := ((unhide HX7).cell (o := 0) ol id).trans o0
  have g1 := ((unhide HX7).cell (o := 1) ol id).trans o1
  have g2 := ((unhide HX7).cell (o := 2) ol id).trans o2
  have g3 := ((unhide HX7).cell (o := 3) ol id).trans o3
  clear hk HQ s6 r60 r61 HT6 HT4 HV4 o0 o1 o2 o3 HVT HOK HX6
  have s7 := ((unhide HK7).cell (o := 0) hb0 id).trans s0
  have r70 := ((unhide HK7).cell (o := 0) hbs id).trans r0
  have r71 := ((unhide HK7).cell (o := 1) hbs id).trans r1
  have q7 : w.heap.size < w7.heap.size := Nat.lt_of_lt_of_le hb0 (unhide HK7).size
  have p7 : w.heap.size + 1 < w7.heap.size := Nat.lt_of_lt_of_le hbs (unhide HK7).size
  have z7 : w3.heap.size < w7.heap.size := Nat.lt_of_lt_of_le ol (unhide HX7).size
  have hD96 : D.length ≤ 96 := Nat.le_trans (unhide HDL) (unhide H96)
  go_wp2_with fail
  go_loopw [19, 20] (fun mo i wr => ∃ k : Nat, k ≤ D.length ∧ i = .int .i64 k ∧ mo = .int .i64 (deepD (D.take k) : Int) ∧ wr = w7) (fun _ i _ => D.length - (intOf i).toNat)
  case atStart => exact ⟨0, Nat.zero_le _, rfl, rfl, rfl⟩
  case round =>
    obtain ⟨k, hk, rfl, rfl, rfl⟩ := hrel
    by_cases hlt : k < D.length
    · obtain ⟨b, off, c, e1, hblt, hc⟩ := StepsAt.cells (unhide HT7) (by omega)
      simp at e1
      obtain ⟨rfl, rfl⟩ := e1
      obtain ⟨x, hx⟩ : ∃ x, D[k]? = some x := ⟨_, List.getElem?_eq_getElem hlt⟩
      have t1 := (hc k x hx).2
      have HDT := hide (deepD_take hx)
      have HTL := hide (typT_len x.2)
      obtain ⟨M, hM⟩ : ∃ M, M = deepD (D.take k) := ⟨_, rfl⟩
      rw [← hM]
      rw [← hM] at HDT
      have HM := hide hM
      generalize typT x.2 = TT at *
      have i1 : (k : Int) < (D.length : Int) := by omega
      have i0 : (0 : Int) ≤ (k : Int) := by omega
      clear hc hx hM
      go_wp2_with fail
      go_roundw
      case rel =>
        refine ⟨k + 1, by omega, by go_num, ?_, trivial⟩
        rw [unhide HDT, ← unhide HTL]
        go_num
      case measure => simp [intOf]; omega
    · obtain rfl : k = D.length := by omega
      rw [List.take_length]
      have HQ := hide (rowOf_v S (.slice so S.length sc) (.slice ro vs.length rc) H vs wr ((unhide HE).keepF (unhide HK7)).types ((unhide HS).keepF (unhide HK7)) (unhide HV7))
      rw [unhide HRC] at HQ
      have j1 : (D.length : Int) ≤ (l.length : Int) := by have := unhide HDL; omega
      have j2 : (deepD D : Int) ≤ (d : Int) := by have := unhide HDD; omega
      have j3 : (d : Int) ≤ 16 := by have := unhide HD16; omega
      generalize deepD D = M at *
      generalize D.length = N at *
      go_wp2_with fail
      refine (unhide HQ).mono ?_
      rintro e w8 ⟨rfl, hk⟩
      have HK8 := hide ((unhide HK7).trans hk)
      clear hk HQ
      go_wp2_with fail
      go_ret
      exact ⟨rfl, (unhide HB).trans (unhide HK8)⟩
theorem bounds_walk (S : List FieldA) (sv u v : Value) (l : List ValA) (hh : Bool) (vals : List ValA) (w : World) (hE : Env w) (hS : FldsAt w sv S) (hl : ValsAt w v l) (hI : InR l) (hr : ValsAt w u vals) :
    Calls Tryd.prog 3 #[.agg #[sv], v, .agg #[.bool hh, u]] w fun e w' => e = .returned (.bool true) ∧ Keeps (fun _ => False) w w' := by
  by_cases hV : (verifyA S l).2.2 = 0
  · cases hRB : rowB S hh vals with
    | false => exact bounds_B S sv u v l hh vals w hE hS hl hI hr hV hRB
    | true => exact bounds_C S sv u v l hh vals w hE hS hl hI hr hV hRB
  · exact bounds_A S sv u v l hh vals w hE hS hl hI hr hV
end Go.Proofs.YtonodcmbbgpjjaaDoor
