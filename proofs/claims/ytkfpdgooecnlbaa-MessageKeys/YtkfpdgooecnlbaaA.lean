import Derived.Test.YtkfpdgooecnlbaaProg
import Derived.Test.YtkfpdgooecnlbaaChecked
import Derived.Test.YtkfpdgooecnlbaaRows
import Derived.WalkKit
import Derived.WalkSpells
import Derived.WalkLawsBesides
import Derived.BigQuiet
import Derived.Deep.QuietTactic
import Derived.Laws.IdiomStrings
import Derived.ProofKit
import Derived.OpenShut
import Derived.ShutString
import Derived.ChangeOld
import Derived.SizedLaws
import Derived.Deep.CondSized
import Derived.Deep.Strs
namespace Go.Proofs.Ytkfpdgooecnlbaa
open Go.ChangeShapes Go.WideShapes Go.ChangeAt Go.RowKit Go.Maps

theorem ret_bool {a b : Bool} (h : a = b) : Ending.returned (.bool a) = .returned (.bool b) := by rw [h]
theorem ret_int {k : IntKind} {a b : Int} (h : a = b) : Ending.returned (.int k a) = .returned (.int k b) := by rw [h]
theorem hide {p : Prop} (h : p) : Hid p := h
theorem unhide {p : Prop} (h : Hid p) : p := h
/-- A text. -/
abbrev Txt := List UInt8
abbrev str (l : Txt) : Value := .string ⟨l.toArray⟩
/-- What CheckKey answers. -/
def keyE (x : Txt) : Int := if x.length < 1 ∨ 16 < x.length then 140 else 0

theorem own : ownKnob Try.prog.godebug = none := by kernel_rfl
theorem laidOut : laidOutB Try.prog = true := by kernel_rfl

set_option maxRecDepth 100000 in
theorem checkKey_v (x : Txt) (hx : x.length ≤ 140737488355328) (w : World) : Calls Try.prog 4 #[str x] w fun e w' => e = .returned (.int .i64 (keyE x)) ∧ w' = w := by
  have HE : Hid (keyE x = if x.length < 1 ∨ 16 < x.length then 140 else 0) := rfl
  generalize keyE x = K at *
  go_enter Try.func4, Try.ntmps4
  go_wp2
  all_goals (go_ret; refine ⟨ret_int ?_, rfl⟩; have h := unhide HE; split at h <;> omega)

set_option maxRecDepth 100000 in
theorem refKey_v (x : Txt) (hx : x.length ≤ 140737488355328) (w : World) : Calls Try.prog 5 #[str x] w fun e w' => e = .returned (.int .i64 (keyE x)) ∧ w' = w := by
  have HE : Hid (keyE x = if x.length < 1 ∨ 16 < x.length then 140 else 0) := rfl
  generalize keyE x = K at *
  go_enter Try.func5, Try.ntmps5
  go_wp2
  all_goals (go_ret; refine ⟨ret_int ?_, rfl⟩; have h := unhide HE; split at h <;> omega)

set_option maxRecDepth 100000 in
theorem messageKeys_walk (x : Txt) (hx : x.length ≤ 140737488355328) (w : World) : Calls Try.prog 3 #[str x] w fun e w' => e = .returned (.bool true) ∧ w' = w := by
  have HQ := hide (checkKey_v x hx w)
  have HR := hide (refKey_v x hx w)
  generalize keyE x = K at *
  go_enter Try.func3, Try.ntmps3
  go_wp2_with fail
  refine (unhide HQ).mono ?_
  rintro e w' ⟨rfl, rfl⟩
  go_wp2_with fail
  refine (unhide HR).mono ?_
  rintro e w'' ⟨rfl, rfl⟩
  clear HQ HR
  go_wp2_with fail
  go_ret
  exact ⟨ret_bool (by simp), rfl⟩

set_option maxRecDepth 100000 in
theorem messageKeysLifted (os : Os) (started : os.Started) (H : Type) (enc : TypeId × Value → H) :
    ReturnsInHanded {} Try.checked os 3 .any (Rows.messageKeysSpec.pre6 enc Try.prog Try.f3 Rows.messageKeysRow.domain false) (Rows.messageKeysSpec.post enc Try.prog Try.f3 false true false false) := by
  refine returnsInHanded_of_change_sized (C := Try.checked) own started (by kernel_rfl) Try.func3
    (ChangeSpec.witness6 (enc := enc) (C := Try.checked) false ⟨#[], #[.string ⟨#[]⟩], []⟩ 8 (by kernel_rfl) (by kernel_rfl) (by kernel_rfl) (by kernel_rfl)) ?_
  intro W base args ds gs before hval0 hW hcnd hsz0 _
  have hval : ∀ (j : Nat) t v, Try.f3.params[j]? = some t → args[j]? = some v → Value.okWide Try.prog W .any base t v := hval0
  have hsz : (DataW.weightsEach Try.prog (Try.f3.params.toList ++ Rows.messageKeysSpec.plain.varTypes Try.prog) (ds ++ gs)).all (· ≤ reachBytes) = true := hsz0
  have hW' := hW
  obtain ⟨p, q, hA0, hV, rfl, hfz, hnd⟩ := hW
  have hA : DataW.TrodAll enc Try.prog W 0 (fun _ => true) true Try.f3.params.toList args.toList ds p := hA0
  rw [Try.params3] at hA hval hsz
  obtain ⟨v0, vs0, d0, ds0, p0, q0, hargs, rfl, rfl, h0, r0⟩ := trodAll_cons hA
  obtain ⟨rfl, rfl, rfl⟩ := trodAll_nil r0
  obtain rfl : args = #[v0] := by cases args; simp_all
  obtain ⟨rfl, rfl⟩ := trodVars_none hV
  have k0 := h0
  have lt0 : ∀ x ∈ p0, x.block < W.heap.size := by obtain ⟨m, hm⟩ := k0; exact DataW.trod_lt m _ _ _ hm
  obtain ⟨s0, rfl, hd0, -, -⟩ := Go.ChangeMaps.open_string Try.underlying9 (hval 0 9 v0 rfl rfl) h0
  have hwt : ∀ n ∈ d0.weights Try.prog 9, n ≤ reachBytes := fun n hn => by
    have := List.all_eq_true.1 hsz n (DataW.weights_mem_each (j := 0) (t := 9) rfl rfl n hn)
    simpa using this
  have hlen : s0.data.toList.length ≤ 140737488355328 := by
    have := hwt s0.data.toList.length (by rw [hd0]; simp [DataW.weights])
    unfold reachBytes at this
    omega
  clear hA0 hval0 hsz0
  have hwalk := messageKeys_walk s0.data.toList hlen W
  have es : str s0.data.toList = .string s0 := by simp [str]
  rw [es] at hwalk
  refine hwalk.mono fun e W' ⟨he, hw⟩ => ?_
  subst he
  subst hw
  exact ⟨_, rfl, _, _, _, [], _, [], hW', trodAll_mk1 (shut_bool Try.underlying4 _), trodAll_cons_mk (Below.trod laidOut (by kernel_rfl) (of_decide_eq_true (by kernel_rfl)) k0 (Below.refl _ _) lt0) trodAll_mk0, rfl, (Below.refl W'.heap.size W').frame _, fun h => by cases h⟩

theorem messageKeys_holds : Rows.MessageKeysSaid :=
  OpenClaim.holds_of_wide 3 Try.f3 rfl rfl rfl rfl rfl rfl rfl ⟨rfl, rfl, rfl, rfl, rfl⟩ rfl rfl rfl rfl rfl (by kernel_rfl) Try.func3 (by kernel_rfl)
    (of_decide_eq_true (by kernel_rfl)) (by unfold Func.isWrapper; first | (rw [if_pos (by decide +kernel)]; kernel_rfl) | (rw [if_neg (by decide +kernel)]; exact ⟨rfl, rfl⟩))
    (fun os started H enc _ => messageKeysLifted os started H enc)
end Go.Proofs.Ytkfpdgooecnlbaa
