import Derived.Test.YtiinohibmcefkaaGreatDoorZzbw
import Derived.Test.YtiinohibmcefkaaGreatDoorZzbl
import Derived.Test.YtiinohibmcefkaaGreatDoorCards
import Derived.Test.YtiinohibmcefkaaGreatDoorTie
import Derived.Deep.DeepWitnessRowRef
namespace Go.Proofs.YtiinohibmcefkaaGreatDoor
open Go.ChangeShapes Go.WideShapes Go.ChangeAt Go.RowKit Go.Deep

theorem own : ownKnob Tryz.prog.godebug = none := by kernel_rfl
theorem laidOut : laidOutB Tryz.prog = true := by kernel_rfl
/-- A world at the door: what the variables' own text lays. -/
noncomputable def doorWorld (os : Os) : World := World.doorLaid Tryz.prog 800 os
/-- A schema without fields, an expression without kids, no record. -/
def noSchema : Value := .agg #[.slice none 0 0]
def noExpr : Value := .agg #[.int .i64 0, .int .i64 0, .string ⟨#[]⟩, .slice none 0 0]
def noRow : Value := .agg #[.bool false, .slice none 0 0]
theorem meaningShort_door (os : Os) : laidMetH Tryz.prog Rows.meaningShortRow.laid ((doorWorld os).forCall (fun _ _ => 0) ⟨#[], #[noSchema, noRow, .int .i64 0, noExpr, noExpr], []⟩).memory :=
  laidMetH_of_parts3 (fuel := 8) (laidMet_of_run' 8 (by kernel_rfl) (by kernel_rfl)) (by kernel_rfl) (by kernel_rfl)
theorem meaningShort_reads (os : Os) {H : Type} (enc : TypeId × Value → H) : ∃ places, DataW.whole enc Tryz.prog ((doorWorld os).forCall (fun _ _ => 0) ⟨#[], #[noSchema, noRow, .int .i64 0, noExpr, noExpr], []⟩).memory Tryz.f4.params.toList (OpenSpec.ofChange Rows.meaningShortSpec).vars false #[noSchema, noRow, Value.int .i64 0, noExpr, noExpr].toList 8 = some ([.agg [.nil], .agg [.lit (.bool false), .nil], .lit (.int .i64 0), .agg [.lit (.int .i64 0), .lit (.int .i64 0), .lit (.string []), .nil], .agg [.lit (.int .i64 0), .lit (.int .i64 0), .lit (.string []), .nil]], [], places) :=
  ⟨[], by kernel_rfl⟩

set_option maxRecDepth 100000 in
theorem meaningShortLifted (os : Os) (started : os.Started) (H : Type) (enc : TypeId × Value → H) (F : Stop.Interp) :
    ReturnsInHanded {} Tryz.checked os 4 .any ((OpenSpec.ofChange Rows.meaningShortSpec).preRow enc Tryz.prog Tryz.f4 Rows.meaningShortRow.domain false Rows.meaningShortRow.laid) (((OpenSpec.ofChange Rows.meaningShortSpec).at F).post enc Tryz.prog Tryz.f4 false true false false) := by
  obtain ⟨places, hx⟩ := meaningShort_reads os enc
  refine returnsInHanded_of_row (C := Tryz.checked) (s := OpenSpec.ofChange Rows.meaningShortSpec) own started (by kernel_rfl) Tryz.func4
    (witness_row_atRef (enc := enc) (C := Tryz.checked) false (doorWorld os) #[noSchema, noRow, .int .i64 0, noExpr, noExpr] rfl (by kernel_rfl) (by kernel_rfl) (by kernel_rfl)
      (OpenSpec.preRow_of_cond 8 hx (by kernel_rfl) (fun k hk => by cases hk) (by kernel_rfl) (meaningShort_door os))) ?_
  intro W base args ds gs before hval0 hW _ _ hsz0 hL hsh _
  have hval : ∀ (j : Nat) t v, Tryz.f4.params[j]? = some t → args[j]? = some v → Value.okWide Tryz.prog W .any base t v := hval0
  have hsz : (DataW.weightsEach Tryz.prog (Tryz.f4.params.toList ++ Rows.meaningShortSpec.plain.varTypes Tryz.prog) (ds ++ gs)).all (· ≤ reachBytes) = true := hsz0
  have hW' := hW
  obtain ⟨p, q, hA0, hV, rfl, hfz, hnd⟩ := hW
  have hA : DataW.TrodAll enc Tryz.prog W 0 (fun _ => true) true Tryz.f4.params.toList args.toList ds p := hA0
  rw [Tryz.params4] at hA hval hsz
  obtain ⟨v0, vs0, d0, ds0, p0, q0, hargs, rfl, rfl, h0, r0⟩ := trodAll_cons hA
  obtain ⟨v1, vs1, d1, ds1, p1, q1, rfl, rfl, rfl, h1, r1⟩ := trodAll_cons r0
  obtain ⟨v2, vs2, d2, ds2, p2, q2, rfl, rfl, rfl, h2, r2⟩ := trodAll_cons r1
  obtain ⟨v3, vs3, d3, ds3, p3, q3, rfl, rfl, rfl, h3, r3⟩ := trodAll_cons r2
  obtain ⟨v4, vs4, d4, ds4, p4, q4, rfl, rfl, rfl, h4, r4⟩ := trodAll_cons r3
  obtain ⟨rfl, rfl, rfl⟩ := trodAll_nil r4
  obtain rfl : args = #[v0, v1, v2, v3, v4] := by cases args; simp_all
  obtain ⟨rfl, rfl⟩ := trodVars_none hV
  obtain ⟨cs0, rfl, hcs0⟩ := okWide_struct Tryz.underlying24 (hval 0 24 v0 rfl rfl)
  obtain ⟨cs1, rfl, hcs1⟩ := okWide_struct Tryz.underlying31 (hval 1 31 v1 rfl rfl)
  obtain ⟨cs3, rfl, hcs3⟩ := okWide_struct Tryz.underlying27 (hval 3 27 v3 rfl rfl)
  obtain ⟨cs4, rfl, hcs4⟩ := okWide_struct Tryz.underlying27 (hval 4 27 v4 rfl rfl)
  have k0 := h0
  have k1 := h1
  have k2 := h2
  have k3 := h3
  have k4 := h4
  have lt0 : ∀ x ∈ p0, x.block < W.heap.size := by obtain ⟨m, hm⟩ := k0; exact DataW.trod_lt m _ _ _ hm
  have lt1 : ∀ x ∈ p1, x.block < W.heap.size := by obtain ⟨m, hm⟩ := k1; exact DataW.trod_lt m _ _ _ hm
  have lt2 : ∀ x ∈ p2, x.block < W.heap.size := by obtain ⟨m, hm⟩ := k2; exact DataW.trod_lt m _ _ _ hm
  have lt3 : ∀ x ∈ p3, x.block < W.heap.size := by obtain ⟨m, hm⟩ := k3; exact DataW.trod_lt m _ _ _ hm
  have lt4 : ∀ x ∈ p4, x.block < W.heap.size := by obtain ⟨m, hm⟩ := k4; exact DataW.trod_lt m _ _ _ hm
  have hwt : ∀ n ∈ d0.weights Tryz.prog 24, n ≤ reachBytes := fun n hn => by
    have := List.all_eq_true.1 hsz n (DataW.weights_mem_each (j := 0) (t := 24) rfl rfl n hn)
    simpa using this
  obtain ⟨sv, S, rfl, hS, hlS⟩ := (by
    obtain ⟨fuel, hf⟩ := h0
    obtain ⟨sv, S, hcs, hS, hl⟩ := schema_in hf hwt
    skip
    refine ⟨sv, S, ?_, hS, hl⟩
    obtain ⟨cl⟩ := cs0
    have e : cl = [sv] := hcs
    rw [e] : ∃ (sv : Value) (S : List FieldA), cs0 = #[sv] ∧ FldsAt W sv S ∧ S.length ≤ 4398046511104)
  obtain ⟨hh1, u1, V1, rfl, hV1, hI1⟩ := (by
    obtain ⟨fuel, hf⟩ := h1
    obtain ⟨hh, u, vals, hcs, hv, hi⟩ := row_in hf
    skip
    refine ⟨hh, u, vals, ?_, hv, hi⟩
    obtain ⟨cl⟩ := cs1
    have e : cl = [.bool hh, u] := hcs
    rw [e] : ∃ (hh : Bool) (u : Value) (vals : List ValA), cs1 = #[.bool hh, u] ∧ ValsAt W u vals ∧ ∀ x ∈ vals, I64 x.n)
  obtain ⟨n2, rfl⟩ := okWide_int Tryz.underlying3 (hval 2 3 v2 rfl rfl)
  obtain ⟨op3, n3, s3, kv3, kids3, rfl, hk3, hI3⟩ := (by
    obtain ⟨fuel, hf⟩ := h3
    obtain ⟨op, n, s, kv, m, y, _, hn, hcs, hy⟩ := expr_readI hf
    obtain ⟨kids, hki, hkids⟩ := exprs_inI (m + 1) m _ _ (by omega) hy
    refine ⟨op, n, s, kv, kids, ?_, hkids, hn, hki⟩
    obtain ⟨cl⟩ := cs3
    have e : cl = [.int .i64 op, .int .i64 n, str s, kv] := hcs
    rw [e] : ∃ (op n : Int) (s : Txt) (kv : Value) (kids : EL), cs3 = #[.int .i64 op, .int .i64 n, str s, kv] ∧ (∀ up, SlE (argZ W.heap.size) W up kv kids) ∧ I64 n ∧ intE kids)
  obtain ⟨op4, n4, s4, kv4, kids4, rfl, hk4, hI4⟩ := (by
    obtain ⟨fuel, hf⟩ := h4
    obtain ⟨op, n, s, kv, m, y, _, hn, hcs, hy⟩ := expr_readI hf
    obtain ⟨kids, hki, hkids⟩ := exprs_inI (m + 1) m _ _ (by omega) hy
    refine ⟨op, n, s, kv, kids, ?_, hkids, hn, hki⟩
    obtain ⟨cl⟩ := cs4
    have e : cl = [.int .i64 op, .int .i64 n, str s, kv] := hcs
    rw [e] : ∃ (op n : Int) (s : Txt) (kv : Value) (kids : EL), cs4 = #[.int .i64 op, .int .i64 n, str s, kv] ∧ (∀ up, SlE (argZ W.heap.size) W up kv kids) ∧ I64 n ∧ intE kids)
  have hTF := types_of rfl hL
  clear hA0 hval0 hsz0
  refine (short_walk S hh1 V1 n2 ⟨op3, n3, s3, kids3⟩ ⟨op4, n4, s4, kids4⟩ sv u1 kv3 kv4 W hTF.1 hTF.2 hS hV1 (hk3 0) (hk4 0) hI1 hI3).mono fun e W' ⟨he, hkk⟩ => ?_
  have bel : Below W.heap.size W W' := hkk.below (Nat.le_refl _) (fun _ h => h.elim)
  subst he
  exact ⟨_, rfl, _, _, _, [], _, [], hW', trodAll_mk1 (shut_bool Tryz.underlying4 _), (trodAll_cons_mk (Below.trod laidOut (by kernel_rfl) (of_decide_eq_true (by kernel_rfl)) k0 bel lt0) (trodAll_cons_mk (Below.trod laidOut (by kernel_rfl) (of_decide_eq_true (by kernel_rfl)) k1 bel lt1) (trodAll_cons_mk (Below.trod laidOut (by kernel_rfl) (of_decide_eq_true (by kernel_rfl)) k2 bel lt2) (trodAll_cons_mk (Below.trod laidOut (by kernel_rfl) (of_decide_eq_true (by kernel_rfl)) k3 bel lt3) (trodAll_cons_mk (Below.trod laidOut (by kernel_rfl) (of_decide_eq_true (by kernel_rfl)) k4 bel lt4) trodAll_mk0))))), rfl, bel.frame _, fun h => by cases h⟩

theorem meaningShort_row : Rows.MeaningShortSaid :=
  OpenClaim.holds_of_cond 4 Tryz.f4 rfl rfl rfl rfl rfl rfl rfl ⟨rfl, rfl, rfl, rfl, rfl⟩ rfl rfl rfl rfl rfl (by kernel_rfl) Tryz.func4 (by kernel_rfl)
    (of_decide_eq_true (by kernel_rfl)) (by unfold Func.isWrapper; first | (rw [if_pos (by decide +kernel)]; kernel_rfl) | (rw [if_neg (by decide +kernel)]; exact ⟨rfl, rfl⟩))
    (fun os started H enc _ F => by rw [OpenClaim.pre_eq_preRow]; exact meaningShortLifted os started H enc F)

theorem meaningShort_holds : Rows.MeaningShortCardSaid :=
  Claim7.holds_tied_plain_at .later [] [.data, .data] true (true, "be5a60a968e49a1d554e7d4d5b87d6a4e073b9b674c90dd913b129bfe4fa15ce") false
    meaningShort_row (fun _ h => by cases h) (by kernel_rfl) (fun _ h => by cases h) meaningShort_row_tie rfl ⟨rfl, rfl⟩ (by kernel_rfl) rfl
    (fun f fn hf hfn => by
      obtain rfl : f = 4 := Option.some.inj ((show Tryz.prog.funcNamed "arbor/arborlaw10.MeaningShort" = some 4 by kernel_rfl).symm.trans hf) |>.symm
      obtain rfl : fn = Tryz.f4 := (Option.some.inj (Tryz.func4.symm.trans hfn)).symm
      exact ⟨by kernel_rfl, fun j t ht => by
        rw [Tryz.params4] at ht
        have hm : t ∈ [24, 31, 3, 27, 27] := by simpa using Array.mem_of_getElem? ht
        have hall : ([24, 31, 3, 27, 27].all fun u => !Tryz.prog.wantsStandIn u) = true := by kernel_rfl
        exact (show Tryz.prog.wantsStandIn t = false by simpa using List.all_eq_true.1 hall t hm)⟩)
    (by kernel_rfl)
end Go.Proofs.YtiinohibmcefkaaGreatDoor
