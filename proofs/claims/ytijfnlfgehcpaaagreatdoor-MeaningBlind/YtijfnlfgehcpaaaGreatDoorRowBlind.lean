import Derived.Test.YtijfnlfgehcpaaaGreatDoorYe
import Derived.Test.YtijfnlfgehcpaaaGreatDoorJbe
import Derived.Test.YtijfnlfgehcpaaaGreatDoorCards
import Derived.Test.YtijfnlfgehcpaaaGreatDoorTie
import Derived.Deep.DeepWitnessRowRef
namespace Go.Proofs.YtijfnlfgehcpaaaGreatDoor
open Go.ChangeShapes Go.WideShapes Go.ChangeAt Go.RowKit Go.Deep

theorem own : ownKnob Tryz.prog.godebug = none := by kernel_rfl
theorem laidOut : laidOutB Tryz.prog = true := by kernel_rfl
/-- A world at the door: what the variables' own text lays. -/
noncomputable def doorWorld (os : Os) : World := World.doorLaid Tryz.prog 800 os
/-- A schema without fields, an expression without kids, no record. -/
def noSchema : Value := .agg #[.slice none 0 0]
def noExpr : Value := .agg #[.int .i64 0, .int .i64 0, .string ⟨#[]⟩, .slice none 0 0]
def noRow : Value := .agg #[.bool false, .slice none 0 0]
theorem meaningBlind_door (os : Os) : laidMetH Tryz.prog Rows.meaningBlindRow.laid ((doorWorld os).forCall (fun _ _ => 0) ⟨#[], #[noSchema, .slice none 0 0, .slice none 0 0, .slice none 0 0], []⟩).memory :=
  laidMetH_of_parts3 (fuel := 8) (laidMet_of_run' 8 (by kernel_rfl) (by kernel_rfl)) (by kernel_rfl) (by kernel_rfl)
theorem meaningBlind_reads (os : Os) {H : Type} (enc : TypeId × Value → H) : ∃ places, DataW.whole enc Tryz.prog ((doorWorld os).forCall (fun _ _ => 0) ⟨#[], #[noSchema, .slice none 0 0, .slice none 0 0, .slice none 0 0], []⟩).memory Tryz.f5.params.toList (OpenSpec.ofChange Rows.meaningBlindSpec).vars false #[noSchema, Value.slice none 0 0, Value.slice none 0 0, Value.slice none 0 0].toList 8 = some ([.agg [.nil], .nil, .nil, .nil], [], places) :=
  ⟨[], by kernel_rfl⟩

set_option maxRecDepth 100000 in
theorem meaningBlindLifted (os : Os) (started : os.Started) (H : Type) (enc : TypeId × Value → H) (F : Stop.Interp) :
    ReturnsInHanded {} Tryz.checked os 5 .any ((OpenSpec.ofChange Rows.meaningBlindSpec).preRow enc Tryz.prog Tryz.f5 Rows.meaningBlindRow.domain false Rows.meaningBlindRow.laid) (((OpenSpec.ofChange Rows.meaningBlindSpec).at F).post enc Tryz.prog Tryz.f5 false true false false) := by
  obtain ⟨places, hx⟩ := meaningBlind_reads os enc
  refine returnsInHanded_of_row (C := Tryz.checked) (s := OpenSpec.ofChange Rows.meaningBlindSpec) own started (by kernel_rfl) Tryz.func5
    (witness_row_atRef (enc := enc) (C := Tryz.checked) false (doorWorld os) #[noSchema, .slice none 0 0, .slice none 0 0, .slice none 0 0] rfl (by kernel_rfl) (by kernel_rfl) (by kernel_rfl)
      (OpenSpec.preRow_of_cond 8 hx (by kernel_rfl) (fun k hk => by cases hk) (by kernel_rfl) (meaningBlind_door os))) ?_
  intro W base args ds gs before hval0 hW _ _ hsz0 hL hsh _
  have hval : ∀ (j : Nat) t v, Tryz.f5.params[j]? = some t → args[j]? = some v → Value.okWide Tryz.prog W .any base t v := hval0
  have hsz : (DataW.weightsEach Tryz.prog (Tryz.f5.params.toList ++ Rows.meaningBlindSpec.plain.varTypes Tryz.prog) (ds ++ gs)).all (· ≤ reachBytes) = true := hsz0
  have hW' := hW
  obtain ⟨p, q, hA0, hV, rfl, hfz, hnd⟩ := hW
  have hA : DataW.TrodAll enc Tryz.prog W 0 (fun _ => true) true Tryz.f5.params.toList args.toList ds p := hA0
  rw [Tryz.params5] at hA hval hsz
  obtain ⟨v0, vs0, d0, ds0, p0, q0, hargs, rfl, rfl, h0, r0⟩ := trodAll_cons hA
  obtain ⟨v1, vs1, d1, ds1, p1, q1, rfl, rfl, rfl, h1, r1⟩ := trodAll_cons r0
  obtain ⟨v2, vs2, d2, ds2, p2, q2, rfl, rfl, rfl, h2, r2⟩ := trodAll_cons r1
  obtain ⟨v3, vs3, d3, ds3, p3, q3, rfl, rfl, rfl, h3, r3⟩ := trodAll_cons r2
  obtain ⟨rfl, rfl, rfl⟩ := trodAll_nil r3
  obtain rfl : args = #[v0, v1, v2, v3] := by cases args; simp_all
  obtain ⟨rfl, rfl⟩ := trodVars_none hV
  obtain ⟨cs0, rfl, hcs0⟩ := okWide_struct Tryz.underlying24 (hval 0 24 v0 rfl rfl)
  obtain ⟨o1, l1, c1, rfl⟩ := okWide_slice Tryz.underlying28 (hval 1 28 v1 rfl rfl)
  obtain ⟨o2, l2, c2, rfl⟩ := okWide_slice Tryz.underlying29 (hval 2 29 v2 rfl rfl)
  obtain ⟨o3, l3, c3, rfl⟩ := okWide_slice Tryz.underlying29 (hval 3 29 v3 rfl rfl)
  have k0 := h0
  have k1 := h1
  have k2 := h2
  have k3 := h3
  have lt0 : ∀ x ∈ p0, x.block < W.heap.size := by obtain ⟨m, hm⟩ := k0; exact DataW.trod_lt m _ _ _ hm
  have lt1 : ∀ x ∈ p1, x.block < W.heap.size := by obtain ⟨m, hm⟩ := k1; exact DataW.trod_lt m _ _ _ hm
  have lt2 : ∀ x ∈ p2, x.block < W.heap.size := by obtain ⟨m, hm⟩ := k2; exact DataW.trod_lt m _ _ _ hm
  have lt3 : ∀ x ∈ p3, x.block < W.heap.size := by obtain ⟨m, hm⟩ := k3; exact DataW.trod_lt m _ _ _ hm
  have hwt : ∀ n ∈ d0.weights Tryz.prog 24, n ≤ reachBytes := fun n hn => by
    have := List.all_eq_true.1 hsz n (DataW.weights_mem_each (j := 0) (t := 24) rfl rfl n hn)
    simpa using this
  obtain ⟨sv, S, rfl, hS, hlS⟩ := (by
    obtain ⟨fuel, hf⟩ := h0
    obtain ⟨sv, S, hcs, hS, hl⟩ := schema_in hf hwt
    refine ⟨sv, S, ?_, hS, hl⟩
    obtain ⟨cl⟩ := cs0
    have e : cl = [sv] := hcs
    rw [e] : ∃ (sv : Value) (S : List FieldA), cs0 = #[sv] ∧ FldsAt W sv S ∧ S.length ≤ 4398046511104)
  obtain ⟨L1, hL1⟩ := (by obtain ⟨fuel, hf⟩ := h1; exact stmts_in (fuel + 1) fuel _ _ (by omega) hf : ∃ l : SL, ∀ up, SlS (argZ W.heap.size) W up (.slice o1 l1 c1) l)
  obtain ⟨V2, hV2, hI2⟩ := (by obtain ⟨fuel, hf⟩ := h2; exact vals_in hf : ∃ l : List ValA, ValsAt W (.slice o2 l2 c2) l ∧ ∀ x ∈ l, I64 x.n)
  obtain ⟨V3, hV3, hI3⟩ := (by obtain ⟨fuel, hf⟩ := h3; exact vals_in hf : ∃ l : List ValA, ValsAt W (.slice o3 l3 c3) l ∧ ∀ x ∈ l, I64 x.n)
  have hTF := types_of rfl hL
  clear hA0 hval0 hsz0
  refine (blind_walk S L1 V2 V3 sv (.slice o1 l1 c1) (.slice o2 l2 c2) (.slice o3 l3 c3) W hTF.1 hTF.2 hS (hL1 0) hV2 hV3).mono fun e W' ⟨he, hkk⟩ => ?_
  have bel : Below W.heap.size W W' := hkk.below (Nat.le_refl _) (fun _ h => h.elim)
  subst he
  exact ⟨_, rfl, _, _, _, [], _, [], hW', trodAll_mk1 (shut_bool Tryz.underlying4 _), (trodAll_cons_mk (Below.trod laidOut (by kernel_rfl) (of_decide_eq_true (by kernel_rfl)) k0 bel lt0) (trodAll_cons_mk (Below.trod laidOut (by kernel_rfl) (of_decide_eq_true (by kernel_rfl)) k1 bel lt1) (trodAll_cons_mk (Below.trod laidOut (by kernel_rfl) (of_decide_eq_true (by kernel_rfl)) k2 bel lt2) (trodAll_cons_mk (Below.trod laidOut (by kernel_rfl) (of_decide_eq_true (by kernel_rfl)) k3 bel lt3) trodAll_mk0)))), rfl, bel.frame _, fun h => by cases h⟩

theorem meaningBlind_row : Rows.MeaningBlindSaid :=
  OpenClaim.holds_of_cond 5 Tryz.f5 rfl rfl rfl rfl rfl rfl rfl ⟨rfl, rfl, rfl, rfl, rfl⟩ rfl rfl rfl rfl rfl (by kernel_rfl) Tryz.func5 (by kernel_rfl)
    (of_decide_eq_true (by kernel_rfl)) (by unfold Func.isWrapper; first | (rw [if_pos (by decide +kernel)]; kernel_rfl) | (rw [if_neg (by decide +kernel)]; exact ⟨rfl, rfl⟩))
    (fun os started H enc _ F => by rw [OpenClaim.pre_eq_preRow]; exact meaningBlindLifted os started H enc F)

theorem meaningBlind_holds : Rows.MeaningBlindCardSaid :=
  Claim7.holds_tied_plain_at .later [] [.data, .data] true (true, "7affb48160212873bfb08a82ebf53c5479036e25669237484e6b25d23a60fa64") false
    meaningBlind_row (fun _ h => by cases h) (by kernel_rfl) (fun _ h => by cases h) meaningBlind_row_tie rfl ⟨rfl, rfl⟩ (by kernel_rfl) rfl
    (fun f fn hf hfn => by
      obtain rfl : f = 5 := Option.some.inj ((show Tryz.prog.funcNamed "arbor/arborlaw10.MeaningBlind" = some 5 by kernel_rfl).symm.trans hf) |>.symm
      obtain rfl : fn = Tryz.f5 := (Option.some.inj (Tryz.func5.symm.trans hfn)).symm
      exact ⟨by kernel_rfl, fun j t ht => by
        rw [Tryz.params5] at ht
        have hm : t ∈ [24, 28, 29, 29] := by simpa using Array.mem_of_getElem? ht
        have hall : ([24, 28, 29, 29].all fun u => !Tryz.prog.wantsStandIn u) = true := by kernel_rfl
        exact (show Tryz.prog.wantsStandIn t = false by simpa using List.all_eq_true.1 hall t hm)⟩)
    (by kernel_rfl)
end Go.Proofs.YtijfnlfgehcpaaaGreatDoor
