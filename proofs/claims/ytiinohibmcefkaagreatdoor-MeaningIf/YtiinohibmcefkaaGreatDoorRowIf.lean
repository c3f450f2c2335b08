import Derived.Test.YtiinohibmcefkaaGreatDoorWg
import Derived.Test.YtiinohibmcefkaaGreatDoorJbe
import Derived.Test.YtiinohibmcefkaaGreatDoorCards
import Derived.Test.YtiinohibmcefkaaGreatDoorTie
import Derived.Deep.DeepWitnessRowRef
namespace Go.Proofs.YtiinohibmcefkaaGreatDoor
open Go.ChangeShapes Go.WideShapes Go.ChangeAt Go.RowKit Go.Deep

theorem own : ownKnob Tryz.prog.godebug = none := by kernel_rfl
theorem laidOut : laidOutB Tryz.prog = true := by kernel_rfl
/-- A world at the door: what the variables' own text lays. -/
noncomputable def doorWorld (os : Os) : World := World.doorLaid Tryz.prog 800 os
/-- A schema without fields, an expression without kids, no record. -/
def noSchema : Value := .agg #[.slice none 0 0]
def noExpr : Value := .agg #[.int .i64 0, .int .i64 0, .string ⟨#[]⟩, .slice none 0 0]
def noRow : Value := .agg #[.bool false, .slice none 0 0]
theorem meaningIf_door (os : Os) : laidMetH Tryz.prog Rows.meaningIfRow.laid ((doorWorld os).forCall (fun _ _ => 0) ⟨#[], #[noSchema, noExpr, .slice none 0 0, .slice none 0 0, noRow], []⟩).memory :=
  laidMetH_of_parts3 (fuel := 8) (laidMet_of_run' 8 (by kernel_rfl) (by kernel_rfl)) (by kernel_rfl) (by kernel_rfl)
theorem meaningIf_reads (os : Os) {H : Type} (enc : TypeId × Value → H) : ∃ places, DataW.whole enc Tryz.prog ((doorWorld os).forCall (fun _ _ => 0) ⟨#[], #[noSchema, noExpr, .slice none 0 0, .slice none 0 0, noRow], []⟩).memory Tryz.f3.params.toList (OpenSpec.ofChange Rows.meaningIfSpec).vars false #[noSchema, noExpr, Value.slice none 0 0, Value.slice none 0 0, noRow].toList 8 = some ([.agg [.nil], .agg [.lit (.int .i64 0), .lit (.int .i64 0), .lit (.string []), .nil], .nil, .nil, .agg [.lit (.bool false), .nil]], [], places) :=
  ⟨[], by kernel_rfl⟩

set_option maxRecDepth 100000 in
theorem meaningIfLifted (os : Os) (started : os.Started) (H : Type) (enc : TypeId × Value → H) (F : Stop.Interp) :
    ReturnsInHanded {} Tryz.checked os 3 .any ((OpenSpec.ofChange Rows.meaningIfSpec).preRow enc Tryz.prog Tryz.f3 Rows.meaningIfRow.domain false Rows.meaningIfRow.laid) (((OpenSpec.ofChange Rows.meaningIfSpec).at F).post enc Tryz.prog Tryz.f3 false true false false) := by
  obtain ⟨places, hx⟩ := meaningIf_reads os enc
  refine returnsInHanded_of_row (C := Tryz.checked) (s := OpenSpec.ofChange Rows.meaningIfSpec) own started (by kernel_rfl) Tryz.func3
    (witness_row_atRef (enc := enc) (C := Tryz.checked) false (doorWorld os) #[noSchema, noExpr, .slice none 0 0, .slice none 0 0, noRow] rfl (by kernel_rfl) (by kernel_rfl) (by kernel_rfl)
      (OpenSpec.preRow_of_cond 8 hx (by kernel_rfl) (fun k hk => by cases hk) (by kernel_rfl) (meaningIf_door os))) ?_
  intro W base args ds gs before hval0 hW _ _ hsz0 hL hsh _
  have hval : ∀ (j : Nat) t v, Tryz.f3.params[j]? = some t → args[j]? = some v → Value.okWide Tryz.prog W .any base t v := hval0
  have hsz : (DataW.weightsEach Tryz.prog (Tryz.f3.params.toList ++ Rows.meaningIfSpec.plain.varTypes Tryz.prog) (ds ++ gs)).all (· ≤ reachBytes) = true := hsz0
  have hW' := hW
  obtain ⟨p, q, hA0, hV, rfl, hfz, hnd⟩ := hW
  have hA : DataW.TrodAll enc Tryz.prog W 0 (fun _ => true) true Tryz.f3.params.toList args.toList ds p := hA0
  rw [Tryz.params3] at hA hval hsz
  obtain ⟨v0, vs0, d0, ds0, p0, q0, hargs, rfl, rfl, h0, r0⟩ := trodAll_cons hA
  obtain ⟨v1, vs1, d1, ds1, p1, q1, rfl, rfl, rfl, h1, r1⟩ := trodAll_cons r0
  obtain ⟨v2, vs2, d2, ds2, p2, q2, rfl, rfl, rfl, h2, r2⟩ := trodAll_cons r1
  obtain ⟨v3, vs3, d3, ds3, p3, q3, rfl, rfl, rfl, h3, r3⟩ := trodAll_cons r2
  obtain ⟨v4, vs4, d4, ds4, p4, q4, rfl, rfl, rfl, h4, r4⟩ := trodAll_cons r3
  obtain ⟨rfl, rfl, rfl⟩ := trodAll_nil r4
  obtain rfl : args = #[v0, v1, v2, v3, v4] := by cases args; simp_all
  obtain ⟨rfl, rfl⟩ := trodVars_none hV
  obtain ⟨cs0, rfl, hcs0⟩ := okWide_struct Tryz.underlying24 (hval 0 24 v0 rfl rfl)
  obtain ⟨cs1, rfl, hcs1⟩ := okWide_struct Tryz.underlying27 (hval 1 27 v1 rfl rfl)
  obtain ⟨o2, l2, c2, rfl⟩ := okWide_slice Tryz.underlying28 (hval 2 28 v2 rfl rfl)
  obtain ⟨o3, l3, c3, rfl⟩ := okWide_slice Tryz.underlying28 (hval 3 28 v3 rfl rfl)
  obtain ⟨cs4, rfl, hcs4⟩ := okWide_struct Tryz.underlying31 (hval 4 31 v4 rfl rfl)
  have k0 := h0
  have k1 := h1
  have k2 := h2
  have k3 := h3
  have k4 := h4
  have lt0 : ∀ x ∈ p0, x.block < W.heap.size := by obtain ⟨m, hm⟩ := k0; exact DataW.trod_lt m _ _ _ hm
  have lt1 : ∀ x ∈ p1, x.block < W.heap.size := by obtain ⟨m, hm⟩ := k1; exact DataW.trod_lt m _ _ _ hm
  have lt2 : ∀ x ∈ p2, x.block < W.heap.size := by obtain ⟨m, hm⟩ := k2; exact DataW.trod_lt m _ _ _ hm
  have lt3 : ∀ x ∈ p3, x.block < W.heap.size := by obtain ⟨m, hm⟩ := k3; exact DataW.trod_lt m _ _ _ hm
  have lt4 : ∀ x ∈ p4, x.block < W.heap.size := by obtain ⟨m, hm⟩ := k4; exact DataW.trod_lt m _ _ _ hm
  have hwt : ∀ n ∈ d0.weights Tryz.prog 24, n ≤ reachBytes := fun n hn => by
    have := List.all_eq_true.1 hsz n (DataW.weights_mem_each (j := 0) (t := 24) rfl rfl n hn)
    simpa using this
  obtain ⟨sv, S, rfl, hS, hlS⟩ := (by
    obtain ⟨fuel, hf⟩ := h0
    obtain ⟨sv, S, hcs, hS, hl⟩ := schema_in hf hwt
    refine ⟨sv, S, ?_, hS, hl⟩
    obtain ⟨cl⟩ := cs0
    have e : cl = [sv] := hcs
    rw [e] : ∃ (sv : Value) (S : List FieldA), cs0 = #[sv] ∧ FldsAt W sv S ∧ S.length ≤ 4398046511104)
  obtain ⟨op1, n1, s1, kv1, kids1, rfl, hk1⟩ := (by
    obtain ⟨fuel, hf⟩ := h1
    obtain ⟨op, n, s, kv, m, y, _, hcs, hy⟩ := expr_read hf
    obtain ⟨kids, hkids⟩ := exprs_in (m + 1) m _ _ (by omega) hy
    refine ⟨op, n, s, kv, kids, ?_, hkids⟩
    obtain ⟨cl⟩ := cs1
    have e : cl = [.int .i64 op, .int .i64 n, str s, kv] := hcs
    rw [e] : ∃ (op n : Int) (s : Txt) (kv : Value) (kids : EL), cs1 = #[.int .i64 op, .int .i64 n, str s, kv] ∧ ∀ up, SlE (argZ W.heap.size) W up kv kids)
  obtain ⟨L2, hL2⟩ := (by obtain ⟨fuel, hf⟩ := h2; exact stmts_in (fuel + 1) fuel _ _ (by omega) hf : ∃ l : SL, ∀ up, SlS (argZ W.heap.size) W up (.slice o2 l2 c2) l)
  obtain ⟨L3, hL3⟩ := (by obtain ⟨fuel, hf⟩ := h3; exact stmts_in (fuel + 1) fuel _ _ (by omega) hf : ∃ l : SL, ∀ up, SlS (argZ W.heap.size) W up (.slice o3 l3 c3) l)
  obtain ⟨hh4, u4, V4, rfl, hV4, hI4⟩ := (by
    obtain ⟨fuel, hf⟩ := h4
    obtain ⟨hh, u, vals, hcs, hv, hi⟩ := row_in hf
    refine ⟨hh, u, vals, ?_, hv, hi⟩
    obtain ⟨cl⟩ := cs4
    have e : cl = [.bool hh, u] := hcs
    rw [e] : ∃ (hh : Bool) (u : Value) (vals : List ValA), cs4 = #[.bool hh, u] ∧ ValsAt W u vals ∧ ∀ x ∈ vals, I64 x.n)
  have hTF := types_of rfl hL
  clear hA0 hval0 hsz0
  refine (if_door S op1 n1 s1 kids1 L2 L3 hh4 V4 sv kv1 (.slice o2 l2 c2) (.slice o3 l3 c3) u4 W hTF.1 hTF.2 hS (hk1 0) (hL2 0) (hL3 0) hV4).mono fun e W' ⟨he, hkk⟩ => ?_
  have bel : Below W.heap.size W W' := hkk.below (Nat.le_refl _) (fun _ h => h.elim)
  subst he
  exact ⟨_, rfl, _, _, _, [], _, [], hW', trodAll_mk1 (shut_bool Tryz.underlying4 _), (trodAll_cons_mk (Below.trod laidOut (by kernel_rfl) (of_decide_eq_true (by kernel_rfl)) k0 bel lt0) (trodAll_cons_mk (Below.trod laidOut (by kernel_rfl) (of_decide_eq_true (by kernel_rfl)) k1 bel lt1) (trodAll_cons_mk (Below.trod laidOut (by kernel_rfl) (of_decide_eq_true (by kernel_rfl)) k2 bel lt2) (trodAll_cons_mk (Below.trod laidOut (by kernel_rfl) (of_decide_eq_true (by kernel_rfl)) k3 bel lt3) (trodAll_cons_mk (Below.trod laidOut (by kernel_rfl) (of_decide_eq_true (by kernel_rfl)) k4 bel lt4) trodAll_mk0))))), rfl, bel.frame _, fun h => by cases h⟩

theorem meaningIf_row : Rows.MeaningIfSaid :=
  OpenClaim.holds_of_cond 3 Tryz.f3 rfl rfl rfl rfl rfl rfl rfl ⟨rfl, rfl, rfl, rfl, rfl⟩ rfl rfl rfl rfl rfl (by kernel_rfl) Tryz.func3 (by kernel_rfl)
    (of_decide_eq_true (by kernel_rfl)) (by unfold Func.isWrapper; first | (rw [if_pos (by decide +kernel)]; kernel_rfl) | (rw [if_neg (by decide +kernel)]; exact ⟨rfl, rfl⟩))
    (fun os started H enc _ F => by rw [OpenClaim.pre_eq_preRow]; exact meaningIfLifted os started H enc F)

theorem meaningIf_holds : Rows.MeaningIfCardSaid :=
  Claim7.holds_tied_plain_at .later [] [.data, .data] true (true, "be5a60a968e49a1d554e7d4d5b87d6a4e073b9b674c90dd913b129bfe4fa15ce") false
    meaningIf_row (fun _ h => by cases h) (by kernel_rfl) (fun _ h => by cases h) meaningIf_row_tie rfl ⟨rfl, rfl⟩ (by kernel_rfl) rfl
    (fun f fn hf hfn => by
      obtain rfl : f = 3 := Option.some.inj ((show Tryz.prog.funcNamed "arbor/arborlaw10.MeaningIf" = some 3 by kernel_rfl).symm.trans hf) |>.symm
      obtain rfl : fn = Tryz.f3 := (Option.some.inj (Tryz.func3.symm.trans hfn)).symm
      exact ⟨by kernel_rfl, fun j t ht => by
        rw [Tryz.params3] at ht
        have hm : t ∈ [24, 27, 28, 28, 31] := by simpa using Array.mem_of_getElem? ht
        have hall : ([24, 27, 28, 28, 31].all fun u => !Tryz.prog.wantsStandIn u) = true := by kernel_rfl
        exact (show Tryz.prog.wantsStandIn t = false by simpa using List.all_eq_true.1 hall t hm)⟩)
    (by kernel_rfl)
end Go.Proofs.YtiinohibmcefkaaGreatDoor
