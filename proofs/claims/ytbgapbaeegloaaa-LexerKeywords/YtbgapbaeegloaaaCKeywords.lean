import Derived.Test.YtbgapbaeegloaaaB
import Derived.Test.YtbgapbaeegloaaaRows
import Derived.ProofKit
import Derived.OpenShut
import Derived.ShutString
import Derived.ChangeOld
import Derived.SizedLaws
import Derived.Deep.CondSized
import Derived.Deep.Strs
namespace Go.Proofs.Ytbgapbaeegloaaa
open Go.ChangeShapes Go.WideShapes Go.ChangeAt Go.RowKit

theorem own : ownKnob Try.prog.godebug = none := by kernel_rfl
theorem laidOut : laidOutB Try.prog = true := by kernel_rfl

set_option maxRecDepth 100000 in
theorem lexKeyword_v (x : Txt) (w : World) : Calls Try.prog 4 #[str x] w fun e w' => e = .returned (.bool (decide (x ∈ kws))) ∧ w' = w := by
  have HQ := hide (keyword_v x w)
  go_enter Try.func4, Try.ntmps4
  go_wp2_with fail
  refine (unhide HQ).mono ?_
  rintro e w' ⟨rfl, rfl⟩
  go_wp2_with fail
  go_ret
  exact ⟨rfl, rfl⟩

set_option maxRecDepth 100000 in
theorem refKeyword_v (x : Txt) (hx : x.length ≤ 140737488355328) (w : World) : Calls Try.prog 5 #[str x] w fun e w' => e = .returned (.bool (decide (x ∈ kws))) ∧ w' = w := by
  have HQ := hide (listed_v (wordsT kws) x (by decide +kernel) hx w)
  rw [listed_kws] at HQ
  have e : wordsT kws = [32, 97, 110, 100, 32, 99, 97, 116, 32, 99, 108, 101, 97, 114, 32, 100, 101, 108, 101, 116, 101, 32, 101, 108, 115, 101, 32, 102, 97, 108, 115, 101, 32, 104, 97, 115, 32, 104, 101, 114, 101, 32, 105, 102, 32, 108, 101, 110, 32, 109, 97, 120, 32, 109, 105, 110, 32, 110, 101, 119, 32, 110, 111, 116, 32, 111, 114, 32, 112, 105, 99, 107, 32, 116, 114, 117, 101, 32] := by decide +kernel
  rw [e] at HQ
  clear e
  go_enter Try.func5, Try.ntmps5
  go_wp2_with fail
  refine (unhide HQ).mono ?_
  rintro e w' ⟨rfl, rfl⟩
  go_wp2_with fail
  go_ret
  exact ⟨rfl, rfl⟩

set_option maxRecDepth 100000 in
theorem lexerKeywords_walk (x : Txt) (hx : x.length ≤ 140737488355328) (w : World) : Calls Try.prog 3 #[str x] w fun e w' => e = .returned (.bool true) ∧ w' = w := by
  have HQ := hide (lexKeyword_v x w)
  have HR := hide (refKeyword_v x hx w)
  have HA := hide (lexKeyword_v [97, 110, 100] w)
  have HB := hide (lexKeyword_v [116, 114, 117, 101] w)
  rw [show decide (([97, 110, 100] : Txt) ∈ kws) = true by decide +kernel] at HA
  rw [show decide (([116, 114, 117, 101] : Txt) ∈ kws) = true by decide +kernel] at HB
  generalize decide (x ∈ kws) = K at *
  go_enter Try.func3, Try.ntmps3
  go_wp2_with fail
  refine (unhide HQ).mono ?_
  rintro e w' ⟨rfl, rfl⟩
  go_wp2_with fail
  refine (unhide HR).mono ?_
  rintro e w'' ⟨rfl, rfl⟩
  clear HQ HR
  go_wp2_with (first | (refine (unhide HA).mono ?_; rintro e w1 ⟨rfl, rfl⟩) | (refine (unhide HB).mono ?_; rintro e w1 ⟨rfl, rfl⟩))
  all_goals (go_ret; exact ⟨rfl, rfl⟩)

set_option maxRecDepth 100000 in
theorem lexerKeywordsLifted (os : Os) (started : os.Started) (H : Type) (enc : TypeId × Value → H) :
    ReturnsInHanded {} Try.checked os 3 .any (Rows.lexerKeywordsSpec.pre6 enc Try.prog Try.f3 Rows.lexerKeywordsRow.domain false) (Rows.lexerKeywordsSpec.post enc Try.prog Try.f3 false true false false) := by
  refine returnsInHanded_of_change_sized (C := Try.checked) own started (by kernel_rfl) Try.func3
    (ChangeSpec.witness6 (enc := enc) (C := Try.checked) false ⟨#[], #[.string ⟨#[]⟩], []⟩ 8 (by kernel_rfl) (by kernel_rfl) (by kernel_rfl) (by kernel_rfl)) ?_
  intro W base args ds gs before hval0 hW hcnd hsz0 _
  have hval : ∀ (j : Nat) t v, Try.f3.params[j]? = some t → args[j]? = some v → Value.okWide Try.prog W .any base t v := hval0
  have hsz : (DataW.weightsEach Try.prog (Try.f3.params.toList ++ Rows.lexerKeywordsSpec.plain.varTypes Try.prog) (ds ++ gs)).all (· ≤ reachBytes) = true := hsz0
  have hW' := hW
  obtain ⟨p, q, hA0, hV, rfl, hfz, hnd⟩ := hW
  have hA : DataW.TrodAll enc Try.prog W 0 (fun _ => true) true Try.f3.params.toList args.toList ds p := hA0
  rw [Try.params3] at hA hval hsz
  obtain ⟨v0, vs0, d0, ds0, p0, q0, hargs, rfl, rfl, h0, r0⟩ := trodAll_cons hA
  obtain ⟨rfl, rfl, rfl⟩ := trodAll_nil r0
  obtain rfl : args = #[v0] := by cases args; simp_all
  obtain ⟨rfl, rfl⟩ := trodVars_none hV
  have k0 := h0
  have lt0 : ∀ x ∈ p0, x.block < W.heap.size := by obtain ⟨m, hm⟩ := k0; exact DataW.trod_lt m _ _ _ hm
  obtain ⟨s0, rfl, hd0, -, -⟩ := Go.ChangeMaps.open_string Try.underlying9 (hval 0 9 v0 rfl rfl) h0
  have hwt : ∀ n ∈ d0.weights Try.prog 9, n ≤ reachBytes := fun n hn => by
    have := List.all_eq_true.1 hsz n (DataW.weights_mem_each (j := 0) (t := 9) rfl rfl n hn)
    simpa using this
  have hlen : s0.data.toList.length ≤ 140737488355328 := by
    have := hwt s0.data.toList.length (by rw [hd0]; simp [DataW.weights])
    unfold reachBytes at this
    omega
  clear hA0 hval0 hsz0
  have hwalk := lexerKeywords_walk s0.data.toList hlen W
  have es : str s0.data.toList = .string s0 := by simp [str]
  rw [es] at hwalk
  refine hwalk.mono fun e W' ⟨he, hw⟩ => ?_
  subst he
  subst hw
  exact ⟨_, rfl, _, _, _, [], _, [], hW', trodAll_mk1 (shut_bool Try.underlying4 _), trodAll_cons_mk (Below.trod laidOut (by kernel_rfl) (of_decide_eq_true (by kernel_rfl)) k0 (Below.refl _ _) lt0) trodAll_mk0, rfl, (Below.refl W'.heap.size W').frame _, fun h => by cases h⟩

theorem lexerKeywords_holds : Rows.LexerKeywordsSaid :=
  OpenClaim.holds_of_wide 3 Try.f3 rfl rfl rfl rfl rfl rfl rfl ⟨rfl, rfl, rfl, rfl, rfl⟩ rfl rfl rfl rfl rfl (by kernel_rfl) Try.func3 (by kernel_rfl)
    (of_decide_eq_true (by kernel_rfl)) (by unfold Func.isWrapper; first | (rw [if_pos (by decide +kernel)]; kernel_rfl) | (rw [if_neg (by decide +kernel)]; exact ⟨rfl, rfl⟩))
    (fun os started H enc _ => lexerKeywordsLifted os started H enc)
end Go.Proofs.Ytbgapbaeegloaaa
