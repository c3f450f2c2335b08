import Derived.Test.YtgdabnkjipcbhaaGreatDoorJzah
import Derived.Test.YtgdabnkjipcbhaaGreatDoorQi
import Derived.Test.YtgdabnkjipcbhaaGreatDoorCards
import Derived.Test.YtgdabnkjipcbhaaGreatDoorTie
import Derived.Deep.DeepWitnessRowRef
namespace Go.Proofs.YtgdabnkjipcbhaaGreatDoor
open Go.ChangeShapes Go.WideShapes Go.ChangeAt Go.RowKit Go.Deep

theorem own : ownKnob Tryz.prog.godebug = none := by kernel_rfl
theorem laidOut : laidOutB Tryz.prog = true := by kernel_rfl
/-- A world at the door: what the variables' own text lays. -/
noncomputable def doorWorld (os : Os) : World := World.doorLaid Tryz.prog 800 os
/-- A query of nothing. -/
def noQuery : Value := .agg #[.slice none 0 0, .int .i64 0, .slice none 0 0, .slice none 0 0, .bool false, .int .i64 0]
theorem prints_door (os : Os) : laidMetH Tryz.prog Rows.queryPrintsRow.laid ((doorWorld os).forCall (fun _ _ => 0) ⟨#[], #[noQuery], []⟩).memory :=
  laidMetH_of_parts3 (fuel := 8) (laidMet_of_run' 8 (by kernel_rfl) (by kernel_rfl)) (by kernel_rfl) (by kernel_rfl)
theorem prints_reads (os : Os) {H : Type} (enc : TypeId × Value → H) : ∃ places, DataW.whole enc Tryz.prog ((doorWorld os).forCall (fun _ _ => 0) ⟨#[], #[noQuery], []⟩).memory Tryz.f3.params.toList (OpenSpec.ofChange Rows.queryPrintsSpec).vars false #[noQuery].toList 8 = some ([.agg [.nil, .lit (.int .i64 0), .nil, .nil, .lit (.bool false), .lit (.int .i64 0)]], [], places) :=
  ⟨[], by kernel_rfl⟩

set_option maxRecDepth 100000 in
theorem queryPrintsLifted (os : Os) (started : os.Started) (H : Type) (enc : TypeId × Value → H) (F : Stop.Interp) :
    ReturnsInHanded {} Tryz.checked os 3 .any ((OpenSpec.ofChange Rows.queryPrintsSpec).preRow enc Tryz.prog Tryz.f3 Rows.queryPrintsRow.domain false Rows.queryPrintsRow.laid) (((OpenSpec.ofChange Rows.queryPrintsSpec).at F).post enc Tryz.prog Tryz.f3 false true false false) := by
  obtain ⟨places, hx⟩ := prints_reads os enc
  refine returnsInHanded_of_row (C := Tryz.checked) (s := OpenSpec.ofChange Rows.queryPrintsSpec) own started (by kernel_rfl) Tryz.func3
    (witness_row_atRef (enc := enc) (C := Tryz.checked) false (doorWorld os) #[noQuery] rfl (by kernel_rfl) (by kernel_rfl) (by kernel_rfl)
      (OpenSpec.preRow_of_cond 8 hx (by kernel_rfl) (fun k hk => by cases hk) (by kernel_rfl) (prints_door os))) ?_
  intro W base args ds gs before hval0 hW _ _ hsz0 hL hsh _
  have hval : ∀ (j : Nat) t v, Tryz.f3.params[j]? = some t → args[j]? = some v → Value.okWide Tryz.prog W .any base t v := hval0
  have hW' := hW
  obtain ⟨p, q, hA0, hV, rfl, hfz, hnd⟩ := hW
  have hA : DataW.TrodAll enc Tryz.prog W 0 (fun _ => true) true Tryz.f3.params.toList args.toList ds p := hA0
  rw [Tryz.params3] at hA hval
  obtain ⟨v0, vs0, d0, ds0, p0, q0, hargs, rfl, rfl, h0, r0⟩ := trodAll_cons hA
  obtain ⟨rfl, rfl, rfl⟩ := trodAll_nil r0
  obtain rfl : args = #[v0] := by cases args; simp_all
  obtain ⟨rfl, rfl⟩ := trodVars_none hV
  obtain ⟨cs0, rfl, hcs0⟩ := okWide_struct Tryz.underlying24 (hval 0 24 v0 rfl rfl)
  have k0 := h0
  have lt0 : ∀ x ∈ p0, x.block < W.heap.size := by obtain ⟨m, hm⟩ := k0; exact DataW.trod_lt m _ _ _ hm
  obtain ⟨wv, ov, bv, k, l, d, A, O, B, rfl, hll, iA, iO, iB, hAl, hOl, hBl⟩ := (by
    obtain ⟨fuel, hf⟩ := h0
    obtain ⟨wv, ov, bv, k, l, d, m, y0, y2, y3, hll, hcs, z0, z2, z3⟩ := query_readI hf
    obtain ⟨A, iA, hA⟩ := exprs_inI (m + 1) m _ _ (by omega) z0
    obtain ⟨O, iO, hO⟩ := exprs_inI (m + 1) m _ _ (by omega) z2
    obtain ⟨B, iB, hB⟩ := exprs_inI (m + 1) m _ _ (by omega) z3
    refine ⟨wv, ov, bv, k, l, d, A, O, B, ?_, hll, iA, iO, iB, hA 0, hO 0, hB 0⟩
    obtain ⟨cl⟩ := cs0
    have e : cl = [wv, .int .i64 k, ov, bv, .bool d, .int .i64 l] := hcs
    rw [e] : ∃ (wv ov bv : Value) (k l : Int) (d : Bool) (A O B : EL), cs0 = #[wv, .int .i64 k, ov, bv, .bool d, .int .i64 l] ∧ (-9223372036854775808 ≤ l ∧ l ≤ 9223372036854775807) ∧ intE A ∧ intE O ∧ intE B ∧ SlE (argZ W.heap.size) W 0 wv A ∧ SlE (argZ W.heap.size) W 0 ov O ∧ SlE (argZ W.heap.size) W 0 bv B)
  clear hA0 hval0 hsz0
  refine (prints_walk k l d A O B wv ov bv W hAl hOl hBl iA iO iB hll.1 hll.2 (pow_of hL) (forms_of hL) (tabs_of hL)).mono fun e W' ⟨he, hkk⟩ => ?_
  have bel : Below W.heap.size W W' := hkk.below (Nat.le_refl _) (fun _ h => h.elim)
  subst he
  exact ⟨_, rfl, _, _, _, [], _, [], hW', trodAll_mk1 (shut_bool Tryz.underlying4 _), (trodAll_cons_mk (Below.trod laidOut (by kernel_rfl) (of_decide_eq_true (by kernel_rfl)) k0 bel lt0) trodAll_mk0), rfl, bel.frame _, fun h => by cases h⟩

theorem queryPrints_row : Rows.QueryPrintsSaid :=
  OpenClaim.holds_of_cond 3 Tryz.f3 rfl rfl rfl rfl rfl rfl rfl ⟨rfl, rfl, rfl, rfl, rfl⟩ rfl rfl rfl rfl rfl (by kernel_rfl) Tryz.func3 (by kernel_rfl)
    (of_decide_eq_true (by kernel_rfl)) (by unfold Func.isWrapper; first | (rw [if_pos (by decide +kernel)]; kernel_rfl) | (rw [if_neg (by decide +kernel)]; exact ⟨rfl, rfl⟩))
    (fun os started H enc _ F => by rw [OpenClaim.pre_eq_preRow]; exact queryPrintsLifted os started H enc F)

theorem queryPrints_holds : Rows.QueryPrintsCardSaid :=
  Claim7.holds_tied_plain_at .later [] [.data, .data, .data, .data, .data, .data, .data, .data] true (true, "73b54f1e95711d8a2a57c5c694400048c43469e68ab15e1ff011d996e4766533") false
    queryPrints_row (fun _ h => by cases h) (by kernel_rfl) (fun _ h => by cases h) queryPrints_row_tie rfl ⟨rfl, rfl⟩ (by kernel_rfl) rfl
    (fun f fn hf hfn => by
      obtain rfl : f = 3 := Option.some.inj ((show Tryz.prog.funcNamed "arbor/arborlaw20.QueryPrints" = some 3 by kernel_rfl).symm.trans hf) |>.symm
      obtain rfl : fn = Tryz.f3 := (Option.some.inj (Tryz.func3.symm.trans hfn)).symm
      exact ⟨by kernel_rfl, fun j t ht => by
        rw [Tryz.params3] at ht
        have hm : t ∈ [24] := by simpa using Array.mem_of_getElem? ht
        have hall : ([24].all fun u => !Tryz.prog.wantsStandIn u) = true := by kernel_rfl
        exact (show Tryz.prog.wantsStandIn t = false by simpa using List.all_eq_true.1 hall t hm)⟩)
    (by kernel_rfl)
end Go.Proofs.YtgdabnkjipcbhaaGreatDoor
