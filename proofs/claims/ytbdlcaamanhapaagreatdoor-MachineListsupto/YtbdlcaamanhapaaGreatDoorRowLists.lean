import Derived.Test.YtbdlcaamanhapaaGreatDoorJzbc
import Derived.Test.YtbdlcaamanhapaaGreatDoorQK
import Derived.Test.YtbdlcaamanhapaaGreatDoorCards
import Derived.Test.YtbdlcaamanhapaaGreatDoorTie
import Derived.Deep.DeepWitnessRowRef
namespace Go.Proofs.YtbdlcaamanhapaaGreatDoor
open Go.ChangeShapes Go.WideShapes Go.ChangeAt Go.RowKit Go.Deep
set_option maxRecDepth 100000
theorem own : ownKnob Tryz.prog.godebug = none := by kernel_rfl
theorem laidOut : laidOutB Tryz.prog = true := by kernel_rfl
noncomputable def doorWorld (os : Os) : World := World.doorLaid Tryz.prog 800 os
theorem machineLists_door (os : Os) : laidMetH Tryz.prog Rows.machineListsUptoRow.laid ((doorWorld os).forCall (fun _ _ => 0) ⟨#[], #[.agg #[.slice none 0 0], .agg #[.bool false, .slice none 0 0], .slice none 0 0], []⟩).memory :=
 laidMetH_of_parts3 (fuel := 8) (laidMet_of_run' 8 (by kernel_rfl) (by kernel_rfl)) (by kernel_rfl) (by kernel_rfl)
theorem machineLists_reads (os : Os) {H : Type} (enc : TypeId × Value → H) : ∃ places, DataW.whole enc Tryz.prog ((doorWorld os).forCall (fun _ _ => 0) ⟨#[], #[.agg #[.slice none 0 0], .agg #[.bool false, .slice none 0 0], .slice none 0 0], []⟩).memory Tryz.f3.params.toList (Rows.OpenSpec.upto Rows.machineListsSpec).vars false #[(.agg #[.slice none 0 0] : Value), (.agg #[.bool false, .slice none 0 0] : Value), (.slice none 0 0 : Value)].toList 8 = some ([.agg [.nil], .agg [.lit (.bool false), .nil], .nil], [], places) :=
 ⟨[], by kernel_rfl⟩
theorem machineListsLifted (os : Os) (started : os.Started) (H : Type) (enc : TypeId × Value → H) (F : Stop.Interp) :
  ReturnsInHanded {} Tryz.checked os 3 .any ((Rows.OpenSpec.upto Rows.machineListsSpec).preRow enc Tryz.prog Tryz.f3 Rows.machineListsUptoRow.domain false Rows.machineListsUptoRow.laid) (((Rows.OpenSpec.upto Rows.machineListsSpec).at F).post enc Tryz.prog Tryz.f3 false true false false) := by
 obtain ⟨places, hx⟩ := machineLists_reads os enc
 refine returnsInHanded_of_row (C := Tryz.checked) (s := Rows.OpenSpec.upto Rows.machineListsSpec) own started (by kernel_rfl) Tryz.func3
  (witness_row_atRef (enc := enc) (C := Tryz.checked) false (doorWorld os) #[.agg #[.slice none 0 0], .agg #[.bool false, .slice none 0 0], .slice none 0 0] rfl (by kernel_rfl) (by kernel_rfl) (by kernel_rfl)
    (OpenSpec.preRow_of_cond 8 hx (by kernel_rfl) (fun k hk => by cases hk; kernel_rfl) (by kernel_rfl) (machineLists_door os))) ?_
 intro W base args ds gs before hval0 hW _ hcond hsz0 hL hsh _
 have hE : Env W := env_of rfl hL
 have hval : ∀ (j : Nat) t v, Tryz.f3.params[j]? = some t → args[j]? = some v → Value.okWide Tryz.prog W .any base t v := hval0
 have hsz : (DataW.weightsEach Tryz.prog (Tryz.f3.params.toList ++ Rows.machineListsSpec.plain.varTypes Tryz.prog) (ds ++ gs)).all (· ≤ reachBytes) = true := hsz0
 have hW' := hW
 obtain ⟨p, q, hA0, hV, rfl, hfz, hnd⟩ := hW
 have hA : DataW.TrodAll enc Tryz.prog W 0 (fun _ => true) true Tryz.f3.params.toList args.toList ds p := hA0
 rw [Tryz.params3] at hA hval hsz
 obtain ⟨v0, vs0, d0, ds0, p0, q0, hargs, rfl, rfl, h0, r0⟩ := trodAll_cons hA
 obtain ⟨v1, vs1, d1, ds1, p1, q1, rfl, rfl, rfl, h1, r1⟩ := trodAll_cons r0
 obtain ⟨v2, vs2, d2, ds2, p2, q2, rfl, rfl, rfl, h2, r2⟩ := trodAll_cons r1
 obtain ⟨rfl, rfl, rfl⟩ := trodAll_nil r2
 obtain rfl : args = #[v0, v1, v2] := by cases args; simp_all
 obtain ⟨rfl, rfl⟩ := trodVars_none hV
 have hbk : Rows.uptoBulkAll ([d0, d1, d2] ++ []) ≤ 1048576 := of_decide_eq_true (hcond _ rfl)
 simp only [List.append_nil, Rows.uptoBulkAll] at hbk
 obtain ⟨cs0, rfl, hcs0⟩ := okWide_struct Tryz.underlying24 (hval 0 24 v0 rfl rfl)
 obtain ⟨cs1, rfl, hcs1⟩ := okWide_struct Tryz.underlying27 (hval 1 27 v1 rfl rfl)
 obtain ⟨o2, l2, c2, rfl⟩ := okWide_slice Tryz.underlying28 (hval 2 28 v2 rfl rfl)
 have k0 := h0
 have lt0 : ∀ x ∈ p0, x.block < W.heap.size := by obtain ⟨m, hm⟩ := k0; exact DataW.trod_lt m _ _ _ hm
 have hwt0 : ∀ n ∈ d0.weights Tryz.prog 24, n ≤ reachBytes := fun n hn => by
  have := List.all_eq_true.1 hsz n (DataW.weights_mem_each (j := 0) (t := 24) rfl rfl n hn)
  simpa using this
 obtain ⟨sv, S, rfl, hS, hlS⟩ := (by
  obtain ⟨fuel, hf⟩ := h0
  obtain ⟨sv, S, hcs, hS, hl⟩ := schema_in hf hwt0
  rw [hcs] at hf
  refine ⟨sv, S, ?_, hS, schema_bulk hf (M := 1048576) (by simp only; omega) hS⟩
  obtain ⟨cl⟩ := cs0
  have e : cl = [sv] := hcs
  rw [e] : ∃ (sv : Value) (S : List Wq), cs0 = #[sv] ∧ Wt W sv S ∧ S.length ≤ 1048576)
 have k1 := h1
 have lt1 : ∀ x ∈ p1, x.block < W.heap.size := by obtain ⟨m, hm⟩ := k1; exact DataW.trod_lt m _ _ _ hm
 obtain ⟨hh1, u1, vals1, rfl, hr1, hrl1⟩ := (by
  obtain ⟨fuel, hf⟩ := h1
  obtain ⟨hh, u, vals, hcs, hr, hn⟩ := row_inB hf (M := 1048576) (by simp only; omega)
  refine ⟨hh, u, vals, ?_, hr, hn⟩
  obtain ⟨cl⟩ := cs1
  have e : cl = [.bool hh, u] := hcs
  rw [e] : ∃ (hh : Bool) (u : Value) (vals : List ValA), cs1 = #[.bool hh, u] ∧ Wr W u vals ∧ vals.length ≤ 1048576)
 have k2 := h2
 have lt2 : ∀ x ∈ p2, x.block < W.heap.size := by obtain ⟨m, hm⟩ := k2; exact DataW.trod_lt m _ _ _ hm
 obtain ⟨Cs, hs, hC, hI, nC, nL⟩ := (by
  obtain ⟨fuel, hf⟩ := h2
  exact codes_in hf (M := 1048576) (by simp only; omega) : ∃ (Cs : List (List ValA)) (hs : List Value), CodesAt W (.slice o2 l2 c2) Cs hs ∧ (∀ l ∈ Cs, InR l) ∧ Cs.length ≤ 1048576 ∧ ∀ l ∈ Cs, l.length ≤ 1048576)
 clear hA0 hval0 hsz0 hL
 refine (lists_walk W S sv (.slice o2 l2 c2) u1 Cs hs vals1 hh1 hE hS hC hI hr1 hlS nC nL hrl1).mono fun e W' ⟨he, hk⟩ => ?_
 have bel : Below W.heap.size W W' := hk.below (Nat.le_refl _) (fun _ h => h.elim)
 subst he
 exact ⟨_, rfl, _, _, _, [], _, [], hW', trodAll_mk1 (shut_bool Tryz.underlying4 _), (trodAll_cons_mk (Below.trod laidOut (by kernel_rfl) (of_decide_eq_true (by kernel_rfl)) k0 bel lt0) (trodAll_cons_mk (Below.trod laidOut (by kernel_rfl) (of_decide_eq_true (by kernel_rfl)) k1 bel lt1) (trodAll_cons_mk (Below.trod laidOut (by kernel_rfl) (of_decide_eq_true (by kernel_rfl)) k2 bel lt2) trodAll_mk0))), rfl, bel.frame _, fun h => by cases h⟩
theorem machineLists_row : Rows.MachineListsUptoSaid :=
 OpenClaim.holds_of_cond 3 Tryz.f3 rfl rfl rfl rfl rfl rfl rfl ⟨rfl, rfl, rfl, rfl, rfl⟩ rfl rfl rfl rfl rfl (by kernel_rfl) Tryz.func3 (by kernel_rfl)
  (of_decide_eq_true (by kernel_rfl)) (by unfold Func.isWrapper; first | (rw [if_pos (by decide +kernel)]; kernel_rfl) | (rw [if_neg (by decide +kernel)]; exact ⟨rfl, rfl⟩))
  (fun os started H enc _ F => by rw [OpenClaim.pre_eq_preRow]; exact machineListsLifted os started H enc F)
theorem machineLists_holds : Rows.MachineListsUptoCardSaid :=
 Claim7.holds_tied_plain_at .later [] [.data, .data] true (true, "2bf37ddd18a576f69d432e7271baeefceede36d1f09d52e8bad7d4885acd35b4") false
  machineLists_row (fun _ h => by cases h) (by kernel_rfl) (fun _ h => by cases h) machineListsUpto_row_tie rfl ⟨rfl, rfl⟩ (by kernel_rfl) rfl
  (fun f fn hf hfn => by
    obtain rfl : f = 3 := Option.some.inj ((show Tryz.prog.funcNamed "arbor/arborlaw13.MachineLists" = some 3 by kernel_rfl).symm.trans hf) |>.symm
    obtain rfl : fn = Tryz.f3 := (Option.some.inj (Tryz.func3.symm.trans hfn)).symm
    exact ⟨by kernel_rfl, fun j t ht => by
     rw [Tryz.params3] at ht
     have hm : t ∈ [24, 27, 28] := by simpa using Array.mem_of_getElem? ht
     have hall : ([24, 27, 28].all fun u => !Tryz.prog.wantsStandIn u) = true := by kernel_rfl
     exact (show Tryz.prog.wantsStandIn t = false by simpa using List.all_eq_true.1 hall t hm)⟩)
  (by kernel_rfl)
end Go.Proofs.YtbdlcaamanhapaaGreatDoor
