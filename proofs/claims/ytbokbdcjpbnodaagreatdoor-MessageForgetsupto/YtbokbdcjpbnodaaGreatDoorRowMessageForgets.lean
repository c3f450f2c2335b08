import Derived.Test.YtbokbdcjpbnodaaGreatDoorJv
import Derived.Test.YtbokbdcjpbnodaaGreatDoorZo5
import Derived.Test.YtbokbdcjpbnodaaGreatDoorCards
import Derived.Test.YtbokbdcjpbnodaaGreatDoorTie
import Derived.Deep.DeepWitnessRowRef
namespace Go.Proofs.YtbokbdcjpbnodaaGreatDoor
open Go.ChangeShapes Go.WideShapes Go.ChangeAt Go.RowKit Go.Deep
set_option maxRecDepth 100000
theorem own : ownKnob Tryz.prog.godebug = none := by kernel_rfl
theorem laidOut : laidOutB Tryz.prog = true := by kernel_rfl
noncomputable def doorWorld (os : Os) : World := World.doorLaid Tryz.prog 800 os
theorem messageForgets_door (os : Os) : laidMetH Tryz.prog Rows.messageForgetsUptoRow.laid ((doorWorld os).forCall (fun _ _ => 0) ⟨#[], #[.agg #[.slice none 0 0], .agg #[.bool false, .slice none 0 0], .agg #[.bool false, .slice none 0 0], .slice none 0 0, .slice none 0 0, .agg #[.int .i64 0, .string ⟨#[]⟩, .slice none 0 0, .slice none 0 0], .slice none 0 0], []⟩).memory :=
 laidMetH_of_parts3 (fuel := 8) (laidMet_of_run' 8 (by kernel_rfl) (by kernel_rfl)) (by kernel_rfl) (by kernel_rfl)
theorem messageForgets_reads (os : Os) {H : Type} (enc : TypeId × Value → H) : ∃ places, DataW.whole enc Tryz.prog ((doorWorld os).forCall (fun _ _ => 0) ⟨#[], #[.agg #[.slice none 0 0], .agg #[.bool false, .slice none 0 0], .agg #[.bool false, .slice none 0 0], .slice none 0 0, .slice none 0 0, .agg #[.int .i64 0, .string ⟨#[]⟩, .slice none 0 0, .slice none 0 0], .slice none 0 0], []⟩).memory Tryz.f7.params.toList (Rows.OpenSpec.upto Rows.messageForgetsSpec).vars false #[(.agg #[.slice none 0 0] : Value), (.agg #[.bool false, .slice none 0 0] : Value), (.agg #[.bool false, .slice none 0 0] : Value), (.slice none 0 0 : Value), (.slice none 0 0 : Value), (.agg #[.int .i64 0, .string ⟨#[]⟩, .slice none 0 0, .slice none 0 0] : Value), (.slice none 0 0 : Value)].toList 8 = some ([.agg [.nil], .agg [.lit (.bool false), .nil], .agg [.lit (.bool false), .nil], .nil, .nil, .agg [.lit (.int .i64 0), .lit (.string []), .nil, .nil], .nil], [], places) :=
 ⟨[], by kernel_rfl⟩
theorem messageForgetsLifted (os : Os) (started : os.Started) (H : Type) (enc : TypeId × Value → H) (F : Stop.Interp) :
  ReturnsInHanded {} Tryz.checked os 7 .any ((Rows.OpenSpec.upto Rows.messageForgetsSpec).preRow enc Tryz.prog Tryz.f7 Rows.messageForgetsUptoRow.domain false Rows.messageForgetsUptoRow.laid) (((Rows.OpenSpec.upto Rows.messageForgetsSpec).at F).post enc Tryz.prog Tryz.f7 false true false false) := by
 obtain ⟨places, hx⟩ := messageForgets_reads os enc
 refine returnsInHanded_of_row (C := Tryz.checked) (s := Rows.OpenSpec.upto Rows.messageForgetsSpec) own started (by kernel_rfl) Tryz.func7
  (witness_row_atRef (enc := enc) (C := Tryz.checked) false (doorWorld os) #[.agg #[.slice none 0 0], .agg #[.bool false, .slice none 0 0], .agg #[.bool false, .slice none 0 0], .slice none 0 0, .slice none 0 0, .agg #[.int .i64 0, .string ⟨#[]⟩, .slice none 0 0, .slice none 0 0], .slice none 0 0] rfl (by kernel_rfl) (by kernel_rfl) (by kernel_rfl)
    (OpenSpec.preRow_of_cond 8 hx (by kernel_rfl) (fun k hk => by cases hk; kernel_rfl) (by kernel_rfl) (messageForgets_door os))) ?_
 intro W base args ds gs before hval0 hW _ hcond hsz0 hL hsh _
 have hE : EnvM W := envM_of rfl hL
 have hval : ∀ (j : Nat) t v, Tryz.f7.params[j]? = some t → args[j]? = some v → Value.okWide Tryz.prog W .any base t v := hval0
 have hsz : (DataW.weightsEach Tryz.prog (Tryz.f7.params.toList ++ Rows.messageForgetsSpec.plain.varTypes Tryz.prog) (ds ++ gs)).all (· ≤ reachBytes) = true := hsz0
 have hW' := hW
 obtain ⟨p, q, hA0, hV, rfl, hfz, hnd⟩ := hW
 have hA : DataW.TrodAll enc Tryz.prog W 0 (fun _ => true) true Tryz.f7.params.toList args.toList ds p := hA0
 rw [Tryz.params7] at hA hval hsz
 obtain ⟨v0, vs0, d0, ds0, p0, q0, hargs, rfl, rfl, h0, r0⟩ := trodAll_cons hA
 obtain ⟨v1, vs1, d1, ds1, p1, q1, rfl, rfl, rfl, h1, r1⟩ := trodAll_cons r0
 obtain ⟨v2, vs2, d2, ds2, p2, q2, rfl, rfl, rfl, h2, r2⟩ := trodAll_cons r1
 obtain ⟨v3, vs3, d3, ds3, p3, q3, rfl, rfl, rfl, h3, r3⟩ := trodAll_cons r2
 obtain ⟨v4, vs4, d4, ds4, p4, q4, rfl, rfl, rfl, h4, r4⟩ := trodAll_cons r3
 obtain ⟨v5, vs5, d5, ds5, p5, q5, rfl, rfl, rfl, h5, r5⟩ := trodAll_cons r4
 obtain ⟨v6, vs6, d6, ds6, p6, q6, rfl, rfl, rfl, h6, r6⟩ := trodAll_cons r5
 obtain ⟨rfl, rfl, rfl⟩ := trodAll_nil r6
 obtain rfl : args = #[v0, v1, v2, v3, v4, v5, v6] := by cases args; simp_all
 obtain ⟨rfl, rfl⟩ := trodVars_none hV
 have hbk : Rows.uptoBulkAll ([d0, d1, d2, d3, d4, d5, d6] ++ []) ≤ 1048576 := of_decide_eq_true (hcond _ rfl)
 simp only [List.append_nil, Rows.uptoBulkAll] at hbk
 obtain ⟨cs0, rfl, hcs0⟩ := okWide_struct Tryz.underlying24 (hval 0 24 v0 rfl rfl)
 obtain ⟨cs1, rfl, hcs1⟩ := okWide_struct Tryz.underlying28 (hval 1 28 v1 rfl rfl)
 obtain ⟨cs2, rfl, hcs2⟩ := okWide_struct Tryz.underlying28 (hval 2 28 v2 rfl rfl)
 obtain ⟨o3, l3, c3, rfl⟩ := okWide_slice Tryz.underlying58 (hval 3 58 v3 rfl rfl)
 obtain ⟨o4, l4, c4, rfl⟩ := okWide_slice Tryz.underlying58 (hval 4 58 v4 rfl rfl)
 obtain ⟨cs5, rfl, hcs5⟩ := okWide_struct Tryz.underlying50 (hval 5 50 v5 rfl rfl)
 obtain ⟨o6, l6, c6, rfl⟩ := okWide_slice Tryz.underlying58 (hval 6 58 v6 rfl rfl)
 have k0 := h0
 have lt0 : ∀ x ∈ p0, x.block < W.heap.size := by obtain ⟨m, hm⟩ := k0; exact DataW.trod_lt m _ _ _ hm
 have hwt0 : ∀ n ∈ d0.weights Tryz.prog 24, n ≤ reachBytes := fun n hn => by
  have := List.all_eq_true.1 hsz n (DataW.weights_mem_each (j := 0) (t := 24) rfl rfl n hn)
  simpa using this
 obtain ⟨sv, S, rfl, hS, hlS⟩ := (by
  obtain ⟨fuel, hf⟩ := h0
  obtain ⟨sv, S, hcs, hS, hl⟩ := schema_in hf hwt0
  rw [hcs] at hf
  refine ⟨sv, S, ?_, hS, schema_bulk hf (M := 1048576) (by simp only; omega) hS⟩
  obtain ⟨cl⟩ := cs0
  have e : cl = [sv] := hcs
  rw [e] : ∃ (sv : Value) (S : List FieldA), cs0 = #[sv] ∧ FldsAt W sv S ∧ S.length ≤ 1048576)
 have k1 := h1
 have lt1 : ∀ x ∈ p1, x.block < W.heap.size := by obtain ⟨m, hm⟩ := k1; exact DataW.trod_lt m _ _ _ hm
 have hwt1 : ∀ n ∈ d1.weights Tryz.prog 28, n ≤ reachBytes := fun n hn => by
  have := List.all_eq_true.1 hsz n (DataW.weights_mem_each (j := 1) (t := 28) rfl rfl n hn)
  simpa using this
 obtain ⟨hh1, u1, vals1, rfl, hr1, hrl1⟩ := (by
  obtain ⟨fuel, hf⟩ := h1
  obtain ⟨hh, u, vals, hcs, hr, hn⟩ := row_in hf hwt1
  rw [hcs] at hf
  refine ⟨hh, u, vals, ?_, hr, row_bulk hf (M := 1048576) (by simp only; omega) hr⟩
  obtain ⟨cl⟩ := cs1
  have e : cl = [.bool hh, u] := hcs
  rw [e] : ∃ (hh : Bool) (u : Value) (vals : List ValA), cs1 = #[.bool hh, u] ∧ ValsAt W u vals ∧ vals.length ≤ 1048576)
 have k2 := h2
 have lt2 : ∀ x ∈ p2, x.block < W.heap.size := by obtain ⟨m, hm⟩ := k2; exact DataW.trod_lt m _ _ _ hm
 have hwt2 : ∀ n ∈ d2.weights Tryz.prog 28, n ≤ reachBytes := fun n hn => by
  have := List.all_eq_true.1 hsz n (DataW.weights_mem_each (j := 2) (t := 28) rfl rfl n hn)
  simpa using this
 obtain ⟨hh2, u2, vals2, rfl, hr2, hrl2⟩ := (by
  obtain ⟨fuel, hf⟩ := h2
  obtain ⟨hh, u, vals, hcs, hr, hn⟩ := row_in hf hwt2
  rw [hcs] at hf
  refine ⟨hh, u, vals, ?_, hr, row_bulk hf (M := 1048576) (by simp only; omega) hr⟩
  obtain ⟨cl⟩ := cs2
  have e : cl = [.bool hh, u] := hcs
  rw [e] : ∃ (hh : Bool) (u : Value) (vals : List ValA), cs2 = #[.bool hh, u] ∧ ValsAt W u vals ∧ vals.length ≤ 1048576)
 have k3 := h3
 have lt3 : ∀ x ∈ p3, x.block < W.heap.size := by obtain ⟨m, hm⟩ := k3; exact DataW.trod_lt m _ _ _ hm
 have hwt3 : ∀ n ∈ d3.weights Tryz.prog 58, n ≤ reachBytes := fun n hn => by
  have := List.all_eq_true.1 hsz n (DataW.weights_mem_each (j := 3) (t := 58) rfl rfl n hn)
  simpa using this
 obtain ⟨x3, hx3, hl3⟩ := (by obtain ⟨fuel, hf⟩ := h3; obtain ⟨l, a⟩ := msgs_in hf hwt3; exact ⟨l, a, bulk_row Tryz.underlying58 hf (M := 1048576) (by simp only; omega) a.row⟩ : ∃ l : List MsgC, MsgsAt W (.slice o3 l3 c3) l ∧ l.length ≤ 1048576)
 have k4 := h4
 have lt4 : ∀ x ∈ p4, x.block < W.heap.size := by obtain ⟨m, hm⟩ := k4; exact DataW.trod_lt m _ _ _ hm
 have hwt4 : ∀ n ∈ d4.weights Tryz.prog 58, n ≤ reachBytes := fun n hn => by
  have := List.all_eq_true.1 hsz n (DataW.weights_mem_each (j := 4) (t := 58) rfl rfl n hn)
  simpa using this
 obtain ⟨x4, hx4, hl4⟩ := (by obtain ⟨fuel, hf⟩ := h4; obtain ⟨l, a⟩ := msgs_in hf hwt4; exact ⟨l, a, bulk_row Tryz.underlying58 hf (M := 1048576) (by simp only; omega) a.row⟩ : ∃ l : List MsgC, MsgsAt W (.slice o4 l4 c4) l ∧ l.length ≤ 1048576)
 have k5 := h5
 have lt5 : ∀ x ∈ p5, x.block < W.heap.size := by obtain ⟨m, hm⟩ := k5; exact DataW.trod_lt m _ _ _ hm
 have hwt5 : ∀ n ∈ d5.weights Tryz.prog 50, n ≤ reachBytes := fun n hn => by
  have := List.all_eq_true.1 hsz n (DataW.weights_mem_each (j := 5) (t := 50) rfl rfl n hn)
  simpa using this
 obtain ⟨x5, rfl, hx5⟩ := (by
  obtain ⟨fuel, hf⟩ := h5
  obtain ⟨m, vv, cv, hcs, hv, hc, hIv, hkey, hlv, hlc⟩ := msg_in hf hwt5
  refine ⟨⟨m, vv, cv⟩, ?_, ⟨hv, hc, hIv, hkey, hlv, hlc⟩⟩
  obtain ⟨cl⟩ := cs5
  have e : cl = [.int .i64 m.kind, str m.key, vv, cv] := hcs
  rw [e] : ∃ x : MsgC, cs5 = #[.int .i64 x.m.kind, str x.m.key, x.vv, x.cv] ∧ MsgOK W x)
 have k6 := h6
 have lt6 : ∀ x ∈ p6, x.block < W.heap.size := by obtain ⟨m, hm⟩ := k6; exact DataW.trod_lt m _ _ _ hm
 have hwt6 : ∀ n ∈ d6.weights Tryz.prog 58, n ≤ reachBytes := fun n hn => by
  have := List.all_eq_true.1 hsz n (DataW.weights_mem_each (j := 6) (t := 58) rfl rfl n hn)
  simpa using this
 obtain ⟨x6, hx6, hl6⟩ := (by obtain ⟨fuel, hf⟩ := h6; obtain ⟨l, a⟩ := msgs_in hf hwt6; exact ⟨l, a, bulk_row Tryz.underlying58 hf (M := 1048576) (by simp only; omega) a.row⟩ : ∃ l : List MsgC, MsgsAt W (.slice o6 l6 c6) l ∧ l.length ≤ 1048576)
 clear hA0 hval0 hsz0 hL
 refine (forgets_walk S sv u1 u2 _ _ _ hh1 hh2 vals1 vals2 x3 x4 x5 x6 W hE hS hr1 hr2 hx3 hx4 hx5 hx6 (by omega) (by omega) (by omega) (by omega) (by omega)).mono fun e W' ⟨he, hk⟩ => ?_
 have bel : Below W.heap.size W W' := hk.below (Nat.le_refl _) (fun _ h => h.elim)
 subst he
 exact ⟨_, rfl, _, _, _, [], _, [], hW', trodAll_mk1 (shut_bool Tryz.underlying4 _), (trodAll_cons_mk (Below.trod laidOut (by kernel_rfl) (of_decide_eq_true (by kernel_rfl)) k0 bel lt0) (trodAll_cons_mk (Below.trod laidOut (by kernel_rfl) (of_decide_eq_true (by kernel_rfl)) k1 bel lt1) (trodAll_cons_mk (Below.trod laidOut (by kernel_rfl) (of_decide_eq_true (by kernel_rfl)) k2 bel lt2) (trodAll_cons_mk (Below.trod laidOut (by kernel_rfl) (of_decide_eq_true (by kernel_rfl)) k3 bel lt3) (trodAll_cons_mk (Below.trod laidOut (by kernel_rfl) (of_decide_eq_true (by kernel_rfl)) k4 bel lt4) (trodAll_cons_mk (Below.trod laidOut (by kernel_rfl) (of_decide_eq_true (by kernel_rfl)) k5 bel lt5) (trodAll_cons_mk (Below.trod laidOut (by kernel_rfl) (of_decide_eq_true (by kernel_rfl)) k6 bel lt6) trodAll_mk0))))))), rfl, bel.frame _, fun h => by cases h⟩
theorem messageForgets_row : Rows.MessageForgetsUptoSaid :=
 OpenClaim.holds_of_cond 7 Tryz.f7 rfl rfl rfl rfl rfl rfl rfl ⟨rfl, rfl, rfl, rfl, rfl⟩ rfl rfl rfl rfl rfl (by kernel_rfl) Tryz.func7 (by kernel_rfl)
  (of_decide_eq_true (by kernel_rfl)) (by unfold Func.isWrapper; first | (rw [if_pos (by decide +kernel)]; kernel_rfl) | (rw [if_neg (by decide +kernel)]; exact ⟨rfl, rfl⟩))
  (fun os started H enc _ F => by rw [OpenClaim.pre_eq_preRow]; exact messageForgetsLifted os started H enc F)
theorem messageForgets_holds : Rows.MessageForgetsUptoCardSaid :=
 Claim7.holds_tied_plain_at .later [] [.data, .data, .data] true (true, "ad18ed6d540d45f2f43928920465f63b246d560455e05a5b98621723b84ec9b4") false
  messageForgets_row (fun _ h => by cases h) (by kernel_rfl) (fun _ h => by cases h) messageForgetsUpto_row_tie rfl ⟨rfl, rfl⟩ (by kernel_rfl) rfl
  (fun f fn hf hfn => by
    obtain rfl : f = 7 := Option.some.inj ((show Tryz.prog.funcNamed "arbor/arborlaw14.MessageForgets" = some 7 by kernel_rfl).symm.trans hf) |>.symm
    obtain rfl : fn = Tryz.f7 := (Option.some.inj (Tryz.func7.symm.trans hfn)).symm
    exact ⟨by kernel_rfl, fun j t ht => by
     rw [Tryz.params7] at ht
     have hm : t ∈ [24, 28, 28, 58, 58, 50, 58] := by simpa using Array.mem_of_getElem? ht
     have hall : ([24, 28, 28, 58, 58, 50, 58].all fun u => !Tryz.prog.wantsStandIn u) = true := by kernel_rfl
     exact (show Tryz.prog.wantsStandIn t = false by simpa using List.all_eq_true.1 hall t hm)⟩)
  (by kernel_rfl)
end Go.Proofs.YtbokbdcjpbnodaaGreatDoor
