import Derived.Test.YtbokbdcjpbnodaaGreatDoorQKf
import Derived.Test.YtbokbdcjpbnodaaGreatDoorQKc
import Derived.Test.YtbokbdcjpbnodaaGreatDoorQXa
import Derived.Test.YtbokbdcjpbnodaaGreatDoorQJt
import Derived.Test.YtbokbdcjpbnodaaGreatDoorQJc
import Derived.Test.YtbokbdcjpbnodaaGreatDoorQJh
import Derived.Test.YtbokbdcjpbnodaaGreatDoorQJw
namespace Go.Proofs.YtbokbdcjpbnodaaGreatDoor
open Go.RowKit Go.Maps
theorem look_parts {S : List FieldA} {l : List ValA} {ps : List PlA} {k : Nat} {e : Int} (h : lookA S l = (some ps, k, e)) : errS S = 0 ∧ (checkI S l).2 = 0 ∧ (checkT l).2 = 0 := by
 unfold lookA at h
 by_cases h1 : errS S = 0
 ·rw [if_neg (show ¬ errS S ≠ 0 from fun q => q h1)] at h
  by_cases h2 : (checkI S l).2 = 0
  ·rw [if_neg (show ¬ (checkI S l).2 ≠ 0 from fun q => q h2)] at h
   by_cases h3 : (checkT l).2 = 0
   ·exact ⟨h1, h2, h3⟩
   ·rw [if_pos h3] at h; cases h
  ·rw [if_pos h2] at h; cases h
 ·rw [if_pos h1] at h; cases h
theorem deep_fold (D : List (Nat × List ValA)) : ∀ d : Nat, D.foldl (fun d z => max d z.2.length) d = max d (deepD D) := by
 induction D with
 | nil => intro d; simp [deepD]
 | cons z r ih =>
  intro d
  unfold deepD
  rw [List.foldl_cons, List.foldl_cons, ih, ih]
  omega
theorem ver_schema {S : List FieldA} {l : List ValA} (h : (verifyA S l).2.2 = 0) : errS S = 0 := by
 have h' : (lookA S l).2.2 = 0 := h
 rcases look_tells S l with ⟨_, _, q, r⟩ | ⟨pa, qa, _⟩
 ·rw [q] at h'; exact absurd h' r
 ·exact (look_parts qa).1
theorem row_errR {S : List FieldA} {h : Bool} {vals : List ValA} (hs : errS S = 0) (hr : rowOK S h vals) : rowB S h vals = true := by
 unfold rowB
 unfold rowOK at hr
 cases h with
 | false => rw [if_neg (by decide)] at hr ⊢; rw [hr, hs]; rfl
 | true =>
  rw [if_pos rfl] at hr ⊢
  have hsb : schemaB S = true := by
   unfold errS at hs
   split at hs
   ·assumption
   ·cases hs
  unfold errR
  rw [if_pos hsb, if_pos]
  ·rfl
  ·unfold recB fitAll
   simp only [Bool.and_eq_true, decide_eq_true_eq]
   refine ⟨hr.1, List.all_eq_true.2 fun p hp => ?_⟩
   obtain ⟨k, hk⟩ := List.mem_iff_getElem?.1 hp
   rw [List.getElem?_zip_eq_some] at hk
   exact hr.2 k p.1 p.2 hk.1 hk.2
theorem run_bounds {S : List FieldA} {l : List ValA} {hh : Bool} {vals : List ValA} (hV : (verifyA S l).2.2 = 0) (hR : rowE S hh vals = 0) :
  ∃ ps, lookA S l = (some ps, 0, 0) ∧ ps.length = l.length + 1 ∧ l.length ≤ 96 ∧ okSteps (ps.map pairP) (ps.length - 1) (-1) (playM S l l.length 0 ⟨[], hh, vals⟩).1 ∧ (∀ z r, (playM S l l.length 0 ⟨[], hh, vals⟩).1 = z :: r → z.1 = 0) ∧
   deepD (playM S l l.length 0 ⟨[], hh, vals⟩).1 ≤ (verifyA S l).1 ∧ (verifyA S l).1 ≤ 16 ∧ rowB S (playM S l l.length 0 ⟨[], hh, vals⟩).2.here (playM S l l.length 0 ⟨[], hh, vals⟩).2.vals = true ∧ (playM S l l.length 0 ⟨[], hh, vals⟩).2.st = [] ∧
   rowOK S (playM S l l.length 0 ⟨[], hh, vals⟩).2.here (playM S l l.length 0 ⟨[], hh, vals⟩).2.vals ∧ (∀ k i, l[k]? = some i → (opA i.kind).opd = 6 → k + 1 + i.n.toNat ≤ l.length) := by
 have h' : (lookA S l).2.2 = 0 := hV
 have hs := ver_schema hV
 rcases look_tells S l with ⟨_, _, q, r⟩ | ⟨ps, qa, _, ok, ln, l96, hSK, hF, hT⟩
 ·rw [q] at h'; exact absurd h' r
 have hTy : TyM S ⟨[], hh, vals⟩ [] := ⟨rfl, fun v hv => by simp at hv, rowE_ok hR⟩
 obtain ⟨p1, p2, p3⟩ := play_ok ok hSK hF hT l.length 0 ⟨[], hh, vals⟩ [] (pullA_first ok) hTy (Nat.zero_le _) (by omega)
 refine ⟨ps, qa, ln, l96, ?_, ?_, ?_, ?_, row_errR hs p2.row, ?_, p2.row, hT⟩
 ·rw [ln, Nat.add_sub_cancel]; exact p1
 ·intro z r hz
  by_cases h0 : 0 < l.length
  ·obtain ⟨r', hr'⟩ := p3 h0
   rw [hr'] at hz
   cases hz
   rfl
  ·rw [playM_end (by omega)] at hz; cases hz
 ·have : (verifyA S l).1 = deepA ps := by unfold verifyA; rw [qa]; rfl
  rw [this, ← deepH_map]
  exact p1.deep (Nat.zero_le _)
 ·have : (verifyA S l).1 = deepA ps := by unfold verifyA; rw [qa]; rfl
  rw [this]
  refine deepA_le fun p hp => ?_
  obtain ⟨k, hk⟩ := List.mem_iff_getElem?.1 hp
  have := (ok.small k (pairP p) (by rw [List.getElem?_map, hk]; rfl)).1
  exact this
 ·have := p2.ty
  simpa using this
end Go.Proofs.YtbokbdcjpbnodaaGreatDoor
namespace Go.Proofs.YtbokbdcjpbnodaaGreatDoor
open Go.RowKit Go.Maps
set_option maxRecDepth 100000
set_option maxHeartbeats 1000000
theorem eqRow_v (w : World) (ha hb : Bool) (va vb : Value) (la lb : List ValA) (h1 : ValsAt w va la) (h2 : ValsAt w vb lb) (hla : la.length ≤ maxLen) :
  Calls Tryz.prog 12 #[.agg #[.bool ha, va], .agg #[.bool hb, vb]] w fun e w' => e = .returned (.bool (decide (ha = hb) && decide (la = lb))) ∧ Keeps (fun _ => False) w w' := by
 obtain ⟨ao, ac, rfl⟩ := RowAt.form h1
 obtain ⟨bo, bc, rfl⟩ := RowAt.form h2
 have HK := hide ((kAlloc w (.cells #[.bool ha, .slice ao la.length ac] 28)).alloc (.cells #[.bool hb, .slice bo lb.length bc] 28))
 have HQ := hide (eqVals_any _ _ _ la lb (h1.keepF (uh HK)) (h2.keepF (uh HK)) hla)
 generalize decide (la = lb) = R at *
 clear h1 h2
 cases ha <;> cases hb
 all_goals
  go_enter Tryz.func12, Tryz.ntmps12
  go_wp2_with (go_at_call 30; refine (uh HQ).mono ?_; rintro e w1 ⟨rfl, hk1⟩)
  go_ret
  first | exact ⟨rfl, (uh HK).trans hk1⟩ | exact ⟨rfl, uh HK⟩
theorem copyCode_v (w : World) (v : Value) (l : List ValA) (hR : ValsAt w v l) (hl : l.length ≤ 4398046511104) :
  Calls Tryz.prog 63 #[v] w fun e w' => ∃ v', e = .returned v' ∧ w'.ownsRow w.heap.size 106 3 v' l.length (vcs l) ∧ Keeps (fun _ => False) w w' := by
 obtain ⟨i0, hi, hz0, hz1, hz2⟩ := info_parts Tryz.info106
 obtain ⟨ao, cap, rfl⟩ := RowAt.form hR
 have HR := hide hR
 have HL := hide hl
 have hl' : l.length ≤ 9223372036854775807 := by omega
 clear hR hl
 go_enter Tryz.func63, Tryz.ntmps63
 go_wp2
 go_loopw [3, 4] (fun o i wr => ∃ k : Nat, k ≤ l.length ∧ i = .int .i64 k ∧ wr.ownsRow w.heap.size 106 3 o k (vcs (l.take k)) ∧ Keeps (fun _ => False) w wr) (fun _ i _ => l.length - (intOf i).toNat)
 case atStart => exact ⟨0, Nat.zero_le _, rfl, by simpa [vcs] using World.ownsRow_nil w w.heap.size 106 3, Keeps.refl _ _⟩
 case round =>
  obtain ⟨k, hk, rfl, hown, hkeep⟩ := hrel
  have HO := hide hown
  have HK := hide hkeep
  clear hown hkeep
  by_cases hlt : k < l.length
  ·obtain ⟨b, off, c, e1, hblt, hc⟩ := (uh HR).cells (by omega)
   simp at e1
   obtain ⟨rfl, rfl⟩ := e1
   obtain ⟨x, hx⟩ : ∃ x, l[k]? = some x := ⟨_, List.getElem?_eq_getElem hlt⟩
   have p0 := ((uh HK).cell hblt id).trans (hc k x hx).1
   have p1 := ((uh HK).cell hblt id).trans (hc k x hx).2.1
   have p2 := ((uh HK).cell hblt id).trans (hc k x hx).2.2
   have HX := hide hx
   have i1 : (k : Int) < (l.length : Int) := by omega
   have i0' : (0 : Int) ≤ (k : Int) := by omega
   clear hc hx
   go_wp2_with (at_builtin; refine wpList_append_lies _ rfl _ _ _ rfl w.heap.size 106 i0 _ 3 32 Tryz.underlying25 hi hz0 hz1 hz2 rfl (by omega) u3 k (vcs (l.take k)) rfl ((uh HO).alloc _) ⟨wr.heap.size, 0, none⟩ 1 1 x.cs rfl rfl (World.news_of_block (cs := #[.int .i64 x.kind, .int .i64 x.n, str x.s]) (t := 106) (fr := (0, 0)) (heap_alloc_new wr _)) (by simp [Value.oneCell', ValA.cs]) (by omega) (by unfold maxLen; omega) (by have := uh HL; omega) (by have := (uh HK).size; simp; omega) (wr.heap.size + 1) (by simp) ?_; intro g cap w1 hown1 hgrow hat hlt1)
   go_roundw
   case rel =>
    refine ⟨k + 1, by omega, by go_num, ?_, ((uh HK).alloc _).grown hgrow (fun q e hq => by have := ((uh HO).lt q e).1; omega)⟩
    rw [take_snoc _ _ _ (uh HX)]
    simpa [vcs] using hown1
   case measure => simp [intOf]; omega
  ·go_wp2
   go_ret
   obtain rfl : k = l.length := by omega
   refine ⟨_, rfl, ?_, uh HK⟩
   have := uh HO
   rwa [List.take_length] at this
end Go.Proofs.YtbokbdcjpbnodaaGreatDoor
namespace Go.Proofs.YtbokbdcjpbnodaaGreatDoor
open Go.RowKit Go.Maps
structure OutA where
 e : Int
 here : Bool
 vals : List ValA
 steps : Nat
 deep : Nat
def outO (V R : Int) (T : List (Nat × List ValA) × MS) : OutA := if V ≠ 0 then ⟨V, false, [], 0, 0⟩ else if R ≠ 0 then ⟨R, false, [], 0, 0⟩ else ⟨0, T.2.here, T.2.vals, T.1.length, deepD T.1⟩
def outD (V R : Int) (T : List (Nat × List ValA) × MS) : List (Nat × List ValA) := if V ≠ 0 ∨ R ≠ 0 then [] else T.1
def runO (S : List FieldA) (l : List ValA) (hh : Bool) (vals : List ValA) : OutA := outO (verifyA S l).2.2 (rowE S hh vals) (playM S l l.length 0 ⟨[], hh, vals⟩)
def traceO (S : List FieldA) (l : List ValA) (hh : Bool) (vals : List ValA) : List (Nat × List ValA) := outD (verifyA S l).2.2 (rowE S hh vals) (playM S l l.length 0 ⟨[], hh, vals⟩)
theorem run_u (S : List FieldA) (sv u v : Value) (l : List ValA) (hh : Bool) (vals : List ValA) (w : World) (hE : Env w) (hS : FldsAt w sv S) (hl : ValsAt w v l) (hI : InR l) (hr : ValsAt w u vals) :
  Calls Tryz.prog 10 #[.agg #[sv], v, .agg #[.bool hh, u]] w fun e w' => ∃ ro rc, e = .returned (.tuple #[.agg #[.bool (runO S l hh vals).here, .slice ro (runO S l hh vals).vals.length rc, .int .i64 ((runO S l hh vals).steps : Int), .int .i64 ((runO S l hh vals).deep : Int)], .int .i64 (runO S l hh vals).e]) ∧ ValsAt w' (.slice ro (runO S l hh vals).vals.length rc) (runO S l hh vals).vals ∧ Keeps (fun _ => False) w w' := by
 refine (machRun_v S sv u v l hh vals w hE hS hl hI hr).mono ?_
 intro e w' h
 unfold runO
 generalize (verifyA S l).2.2 = V at *
 generalize rowE S hh vals = R at *
 generalize playM S l l.length 0 ⟨[], hh, vals⟩ = T at *
 unfold outO
 rcases h with ⟨h1, rfl, hk⟩ | ⟨rfl, rfl, rv, rfl, hv, _, hk⟩
 ·by_cases hV : V = 0
  ·subst hV
   have hR : R ≠ 0 := h1.resolve_left (fun q => q rfl)
   rw [if_neg (by simp), if_neg (by simp), if_pos hR]
   exact ⟨none, 0, rfl, nil_vals _, hk⟩
  ·rw [if_pos hV, if_pos hV]
   exact ⟨none, 0, rfl, nil_vals _, hk⟩
 ·obtain ⟨ro, rc, rfl⟩ := RowAt.form hv
  rw [if_neg (by simp), if_neg (by simp)]
  exact ⟨ro, rc, rfl, hv, hk⟩
theorem nil_steps (w : World) : StepsAt w (.slice none 0 0) [] := ⟨⟨_, _, rfl⟩, fun h0 => by simp at h0, fun ao m cap e => by simp at e; omega⟩
theorem trace_u (S : List FieldA) (sv u v : Value) (l : List ValA) (hh : Bool) (vals : List ValA) (w : World) (hE : Env w) (hS : FldsAt w sv S) (hl : ValsAt w v l) (hI : InR l) (hr : ValsAt w u vals) :
  Calls Tryz.prog 14 #[.agg #[sv], v, .agg #[.bool hh, u]] w fun e w' => ∃ ro rc, e = .returned (.tuple #[.slice ro (traceO S l hh vals).length rc, .int .i64 (runO S l hh vals).e]) ∧ StepsAt w' (.slice ro (traceO S l hh vals).length rc) (traceO S l hh vals) ∧ Keeps (fun _ => False) w w' := by
 refine (machTrace_v S sv u v l hh vals w hE hS hl hI hr).mono ?_
 intro e w' h
 unfold runO traceO
 generalize (verifyA S l).2.2 = V at *
 generalize rowE S hh vals = R at *
 generalize playM S l l.length 0 ⟨[], hh, vals⟩ = T at *
 unfold outO outD
 rcases h with ⟨h1, rfl, hk⟩ | ⟨rfl, rfl, sl, rfl, hv, hk⟩
 ·rw [if_pos h1]
  by_cases hV : V = 0
  ·subst hV
   have hR : R ≠ 0 := h1.resolve_left (fun q => q rfl)
   rw [if_neg (by simp), if_neg (by simp), if_pos hR]
   exact ⟨none, 0, rfl, nil_steps _, hk⟩
  ·rw [if_pos hV, if_pos hV]
   exact ⟨none, 0, rfl, nil_steps _, hk⟩
 ·have hv' := rowAt_own hv
  obtain ⟨ro, rc, rfl⟩ := RowAt.form hv'
  rw [if_neg (by simp), if_neg (by simp), if_neg (by simp)]
  exact ⟨ro, rc, rfl, hv', hk⟩
def execO (S : List FieldA) (t : Txt) (hh : Bool) (vals : List ValA) : OutA := if (decE S t).2 ≠ 0 then ⟨(decE S t).2, false, [], 0, 0⟩ else runO S (decE S t).1 hh vals
theorem exec_u (S : List FieldA) (sv u v : Value) (t : Txt) (hh : Bool) (vals : List ValA) (w : World) (hE : Env w) (hS : FldsAt w sv S) (hb : BytesAt w v t) (hr : ValsAt w u vals) :
  Calls Tryz.prog 17 #[.agg #[sv], v, .agg #[.bool hh, u]] w fun e w' => ∃ ro rc, e = .returned (.tuple #[.agg #[.bool (execO S t hh vals).here, .slice ro (execO S t hh vals).vals.length rc], .int .i64 (execO S t hh vals).e]) ∧ ValsAt w' (.slice ro (execO S t hh vals).vals.length rc) (execO S t hh vals).vals ∧ Keeps (fun _ => False) w w' := by
 refine (machExec_v S sv u v t hh vals w hE hS hb hr).mono ?_
 intro e w' h
 unfold execO runO
 generalize (decE S t).2 = X at *
 generalize (verifyA S (decE S t).1).2.2 = V at *
 generalize rowE S hh vals = R at *
 generalize playM S (decE S t).1 (decE S t).1.length 0 ⟨[], hh, vals⟩ = T at *
 unfold outO
 have h00 : ¬ ((0 : Int) ≠ 0) := fun q => q rfl
 rcases h with ⟨h1, rfl, hk⟩ | ⟨rfl, rfl, rfl, rv, rfl, hv, hk⟩
 ·by_cases hX : X = 0
  ·subst hX
   simp only [if_neg h00]
   by_cases hV : V = 0
   ·subst hV
    have hR : R ≠ 0 := (h1.resolve_left (fun q => q rfl)).resolve_left (fun q => q rfl)
    simp only [if_neg h00, if_pos hR]
    exact ⟨none, 0, rfl, nil_vals _, hk⟩
   ·simp only [if_pos hV]
    exact ⟨none, 0, rfl, nil_vals _, hk⟩
  ·simp only [if_pos hX]
   exact ⟨none, 0, rfl, nil_vals _, hk⟩
 ·obtain ⟨ro, rc, rfl⟩ := RowAt.form hv
  simp only [if_neg h00]
  exact ⟨ro, rc, rfl, hv, hk⟩
end Go.Proofs.YtbokbdcjpbnodaaGreatDoor
namespace Go.Proofs.YtbokbdcjpbnodaaGreatDoor
open Go.RowKit Go.Maps
theorem runO_ok {S : List FieldA} {l : List ValA} {hh : Bool} {vals : List ValA} (h : (runO S l hh vals).e = 0) : (verifyA S l).2.2 = 0 ∧ rowE S hh vals = 0 := by
 unfold runO outO at h
 split at h
 ·rename_i q; exact absurd h q
 ·rename_i q
  split at h
  ·rename_i q2; exact absurd h q2
  ·rename_i q2
   exact ⟨by simpa using q, by simpa using q2⟩
theorem rowOK_len {S : List FieldA} {h : Bool} {vals : List ValA} (hs : errS S = 0) (hr : rowOK S h vals) : vals.length ≤ 8 := by
 have hsb : schemaB S = true := by
  unfold errS at hs
  split at hs
  ·assumption
  ·cases hs
 have := (schemaB_len hsb).2
 unfold rowOK at hr
 cases h with
 | false => rw [if_neg (by decide)] at hr; rw [hr]; simp
 | true => rw [if_pos rfl] at hr; omega
theorem runO_len (S : List FieldA) (l : List ValA) (hh : Bool) (vals : List ValA) : (runO S l hh vals).vals.length ≤ 8 := by
 by_cases h : (runO S l hh vals).e = 0
 ·obtain ⟨h1, h2⟩ := runO_ok h
  obtain ⟨ps, _, _, _, _, _, _, _, _, _, hrow, _⟩ := run_bounds h1 h2
  have : (runO S l hh vals).vals = (playM S l l.length 0 ⟨[], hh, vals⟩).2.vals := by unfold runO outO; rw [h1, h2, if_neg (by decide), if_neg (by decide)]
  rw [this]
  exact rowOK_len (ver_schema h1) hrow
 ·unfold runO outO at h ⊢
  split
  ·simp
  ·rename_i q1
   rw [if_neg q1] at h
   split
   ·simp
   ·rename_i q2
    rw [if_neg q2] at h
    exact absurd rfl h
end Go.Proofs.YtbokbdcjpbnodaaGreatDoor
