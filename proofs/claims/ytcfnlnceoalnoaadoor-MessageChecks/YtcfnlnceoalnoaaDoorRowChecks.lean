import Derived.Test.YtcfnlnceoalnoaaDoorJu
import Derived.Test.YtcfnlnceoalnoaaDoorJv
import Derived.Test.YtcfnlnceoalnoaaDoorCards
import Derived.Test.YtcfnlnceoalnoaaDoorTie
import Derived.Deep.DeepWitnessRowRef
namespace Go.Proofs.YtcfnlnceoalnoaaDoor
open Go.ChangeShapes Go.WideShapes Go.ChangeAt Go.RowKit Go.Deep

theorem own : ownKnob Tryd.prog.godebug = none := by kernel_rfl
theorem laidOut : laidOutB Tryd.prog = true := by kernel_rfl
/-- A world at the door: what the variables' own text lays. -/
noncomputable def doorWorld (os : Os) : World := World.doorLaid Tryd.prog 800 os
theorem messageChecks_door (os : Os) : laidMetH Tryd.prog Rows.messageChecksRow.laid ((doorWorld os).forCall (fun _ _ => 0) ⟨#[], #[.agg #[.slice none 0 0], .agg #[.int .i64 0, .string ⟨#[]⟩, .slice none 0 0, .slice none 0 0]], []⟩).memory :=
  laidMetH_of_parts3 (fuel := 8) (laidMet_of_run' 8 (by kernel_rfl) (by kernel_rfl)) (by kernel_rfl) (by kernel_rfl)
theorem messageChecks_reads (os : Os) {H : Type} (enc : TypeId × Value → H) : ∃ places, DataW.whole enc Tryd.prog ((doorWorld os).forCall (fun _ _ => 0) ⟨#[], #[.agg #[.slice none 0 0], .agg #[.int .i64 0, .string ⟨#[]⟩, .slice none 0 0, .slice none 0 0]], []⟩).memory Tryd.f3.params.toList (OpenSpec.ofChange Rows.messageChecksSpec).vars false #[(.agg #[.slice none 0 0] : Value), (.agg #[.int .i64 0, .string ⟨#[]⟩, .slice none 0 0, .slice none 0 0] : Value)].toList 8 = some ([.agg [.nil], .agg [.lit (.int .i64 0), .lit (.string []), .nil, .nil]], [], places) :=
  ⟨[], by kernel_rfl⟩

set_option maxRecDepth 100000 in
theorem messageChecksLifted (os : Os) (started : os.Started) (H : Type) (enc : TypeId × Value → H) (F : Stop.Interp) :
    ReturnsInHanded {} Tryd.checked os 3 .any ((OpenSpec.ofChange Rows.messageChecksSpec).preRow enc Tryd.prog Tryd.f3 Rows.messageChecksRow.domain false Rows.messageChecksRow.laid) (((OpenSpec.ofChange Rows.messageChecksSpec).at F).post enc Tryd.prog Tryd.f3 false true false false) := by
  obtain ⟨places, hx⟩ := messageChecks_reads os enc
  refine returnsInHanded_of_row (C := Tryd.checked) (s := OpenSpec.ofChange Rows.messageChecksSpec) own started (by kernel_rfl) Tryd.func3
    (witness_row_atRef (enc := enc) (C := Tryd.checked) false (doorWorld os) #[.agg #[.slice none 0 0], .agg #[.int .i64 0, .string ⟨#[]⟩, .slice none 0 0, .slice none 0 0]] rfl (by kernel_rfl) (by kernel_rfl) (by kernel_rfl)
      (OpenSpec.preRow_of_cond 8 hx (by kernel_rfl) (fun k hk => by cases hk) (by kernel_rfl) (messageChecks_door os))) ?_
  intro W base args ds gs before hval0 hW _ hcond hsz0 hL hsh _
  have hE : EnvM W := envM_of rfl hL
  have hval : ∀ (j : Nat) t v, Tryd.f3.params[j]? = some t → args[j]? = some v → Value.okWide Tryd.prog W .any base t v := hval0
  have hsz : (DataW.weightsEach Tryd.prog (Tryd.f3.params.toList ++ Rows.messageChecksSpec.plain.varTypes Tryd.prog) (ds ++ gs)).all (· ≤ reachBytes) = true := hsz0
  have hW' := hW
  obtain ⟨p, q, hA0, hV, rfl, hfz, hnd⟩ := hW
  have hA : DataW.TrodAll enc Tryd.prog W 0 (fun _ => true) true Tryd.f3.params.toList args.toList ds p := hA0
  rw [Tryd.params3] at hA hval hsz
  obtain ⟨v0, vs0, d0, ds0, p0, q0, hargs, rfl, rfl, h0, r0⟩ := trodAll_cons hA
  obtain ⟨v1, vs1, d1, ds1, p1, q1, rfl, rfl, rfl, h1, r1⟩ := trodAll_cons r0
  obtain ⟨rfl, rfl, rfl⟩ := trodAll_nil r1
  obtain rfl : args = #[v0, v1] := by cases args; simp_all
  obtain ⟨rfl, rfl⟩ := trodVars_none hV
  obtain ⟨cs0, rfl, hcs0⟩ := okWide_struct Tryd.underlying24 (hval 0 24 v0 rfl rfl)
  obtain ⟨cs1, rfl, hcs1⟩ := okWide_struct Tryd.underlying28 (hval 1 28 v1 rfl rfl)
  have k0 := h0
  have lt0 : ∀ x ∈ p0, x.block < W.heap.size := by obtain ⟨m, hm⟩ := k0; exact DataW.trod_lt m _ _ _ hm
  have hwt0 : ∀ n ∈ d0.weights Tryd.prog 24, n ≤ reachBytes := fun n hn => by
    have := List.all_eq_true.1 hsz n (DataW.weights_mem_each (j := 0) (t := 24) rfl rfl n hn)
    simpa using this
  obtain ⟨sv, S, rfl, hS, hlS⟩ := (by
    obtain ⟨fuel, hf⟩ := h0
    obtain ⟨sv, S, hcs, hS, hl⟩ := schema_in hf hwt0
    refine ⟨sv, S, ?_, hS, hl⟩
    obtain ⟨cl⟩ := cs0
    have e : cl = [sv] := hcs
    rw [e] : ∃ (sv : Value) (S : List FieldA), cs0 = #[sv] ∧ FldsAt W sv S ∧ S.length ≤ 4398046511104)
  have k1 := h1
  have lt1 : ∀ x ∈ p1, x.block < W.heap.size := by obtain ⟨m, hm⟩ := k1; exact DataW.trod_lt m _ _ _ hm
  have hwt1 : ∀ n ∈ d1.weights Tryd.prog 28, n ≤ reachBytes := fun n hn => by
    have := List.all_eq_true.1 hsz n (DataW.weights_mem_each (j := 1) (t := 28) rfl rfl n hn)
    simpa using this
  obtain ⟨m, vv, cv, rfl, hv, hc, hkey, hlv, hlc⟩ := (by
    obtain ⟨fuel, hf⟩ := h1
    obtain ⟨m, vv, cv, hcs, hv, hc, hkey, hlv, hlc⟩ := msg_in hf hwt1
    refine ⟨m, vv, cv, ?_, hv, hc, hkey, hlv, hlc⟩
    obtain ⟨cl⟩ := cs1
    have e : cl = [.int .i64 m.kind, str m.key, vv, cv] := hcs
    rw [e] : ∃ (m : MsgA) (vv cv : Value), cs1 = #[.int .i64 m.kind, str m.key, vv, cv] ∧ ValsAt W vv m.vals ∧ BytesAt W cv m.code ∧ m.key.length ≤ 140737488355328 ∧ m.vals.length ≤ 4398046511104 ∧ m.code.length ≤ 140737488355328)
  clear hA0 hval0 hsz0 hL
  refine (checks_walk S sv vv cv m W hE hS hv hc hkey hlS hlv hlc).mono fun e W' ⟨he, hk⟩ => ?_
  have bel : Below W.heap.size W W' := hk.below (Nat.le_refl _) (fun _ h => h.elim)
  subst he
  exact ⟨_, rfl, _, _, _, [], _, [], hW', trodAll_mk1 (shut_bool Tryd.underlying4 _), (trodAll_cons_mk (Below.trod laidOut (by kernel_rfl) (of_decide_eq_true (by kernel_rfl)) k0 bel lt0) (trodAll_cons_mk (Below.trod laidOut (by kernel_rfl) (of_decide_eq_true (by kernel_rfl)) k1 bel lt1) trodAll_mk0)), rfl, bel.frame _, fun h => by cases h⟩

theorem messageChecks_row : Rows.MessageChecksSaid :=
  OpenClaim.holds_of_cond 3 Tryd.f3 rfl rfl rfl rfl rfl rfl rfl ⟨rfl, rfl, rfl, rfl, rfl⟩ rfl rfl rfl rfl rfl (by kernel_rfl) Tryd.func3 (by kernel_rfl)
    (of_decide_eq_true (by kernel_rfl)) (by unfold Func.isWrapper; first | (rw [if_pos (by decide +kernel)]; kernel_rfl) | (rw [if_neg (by decide +kernel)]; exact ⟨rfl, rfl⟩))
    (fun os started H enc _ F => by rw [OpenClaim.pre_eq_preRow]; exact messageChecksLifted os started H enc F)

theorem messageChecks_holds : Rows.MessageChecksCardSaid :=
  Claim7.holds_tied_plain_at .later [] [.data, .data, .data] true (true, "839b1ea146ca8ae38d9c350530990d3f053245dfd3493bb6075b9fdcd6e04d12") false
    messageChecks_row (fun _ h => by cases h) (by kernel_rfl) (fun _ h => by cases h) messageChecks_row_tie rfl ⟨rfl, rfl⟩ (by kernel_rfl) rfl
    (fun f fn hf hfn => by
      obtain rfl : f = 3 := Option.some.inj ((show Tryd.prog.funcNamed "arbor/arborlaw14.MessageChecks" = some 3 by kernel_rfl).symm.trans hf) |>.symm
      obtain rfl : fn = Tryd.f3 := (Option.some.inj (Tryd.func3.symm.trans hfn)).symm
      exact ⟨by kernel_rfl, fun j t ht => by
        rw [Tryd.params3] at ht
        have hm : t ∈ [24, 28] := by simpa using Array.mem_of_getElem? ht
        have hall : ([24, 28].all fun u => !Tryd.prog.wantsStandIn u) = true := by kernel_rfl
        exact (show Tryd.prog.wantsStandIn t = false by simpa using List.all_eq_true.1 hall t hm)⟩)
    (by kernel_rfl)
end Go.Proofs.YtcfnlnceoalnoaaDoor
