import Derived.Test.YtficapmhghboiaaZ
import Derived.Test.YtficapmhghboiaaS
namespace Go.Proofs.Ytficapmhghboiaa
open Go.ChangeShapes Go.WideShapes Go.ChangeAt Go.RowKit

theorem survivorsWalk (a0 a1 : Int) (ao : Option Addr) (len cap : Nat) (ko : Option Addr) (kl kc : Nat) (w : World) (acts : List Pt) (hA : Acts w (.slice ao len cap) acts) (hl : acts.length = len) (ks : List Bool) (hB : Bools w (.slice ko kl kc) ks) (hkl : ks.length = kl) (hkm : kl ≤ maxLen) :
    Calls Try.prog 7 #[.int .i64 a0, .int .i64 a1, .slice ao len cap, .slice ko kl kc] w fun e w' => e = .returned (.bool true) ∧ Below w.heap.size w w' := by
  by_cases h : 1 ≤ a0 ∧ a0 ≤ 16384 ∧ 32 ≤ a1 ∧ a1 ≤ 1024
  · obtain ⟨h1, h2, h3, h4⟩ := h
    obtain ⟨n, rfl⟩ := Int.eq_ofNat_of_zero_le (show 0 ≤ a0 by omega)
    obtain ⟨s, rfl⟩ := Int.eq_ofNat_of_zero_le (show 0 ≤ a1 by omega)
    by_cases hlong : len ≤ 2147483647
    · exact diskSurvivors_any w n s _ _ acts ks hA hB (by rw [hkl]; exact hkm) (by omega) (by omega) (by omega) (by omega) (by omega)
    · exact diskSurvivors_long w n s ao len cap _ (by omega) (by omega) (by omega) (by omega) (by omega)
  · exact diskSurvivors_invalid w a0 a1 _ _ h

set_option maxRecDepth 100000 in
theorem diskSurvivorsLifted (os : Os) (started : os.Started) (H : Type) (enc : TypeId × Value → H) :
    ReturnsInHanded {} Try.checked os 7 .any (Rows.diskSurvivorsSpec.pre6 enc Try.prog Try.f7 Rows.diskSurvivorsRow.domain false) (Rows.diskSurvivorsSpec.post enc Try.prog Try.f7 false true false false) := by
  refine returnsInHanded_of_change (C := Try.checked) own started (by kernel_rfl) Try.func7
    (ChangeSpec.witness6 (enc := enc) (C := Try.checked) false ⟨#[], #[.int .i64 0, .int .i64 0, .slice none 0 0, .slice none 0 0], []⟩ 8 (by kernel_rfl) (by kernel_rfl) (by kernel_rfl) (by kernel_rfl)) ?_
  intro W base args ds gs before hval0 hW hcnd _
  have hval : ∀ (j : Nat) t v, Try.f7.params[j]? = some t → args[j]? = some v → Value.okWide Try.prog W .any base t v := hval0
  have hW' := hW
  obtain ⟨p, q, hA0, hV, rfl, hfz, hnd⟩ := hW
  have hA : DataW.TrodAll enc Try.prog W 0 (fun _ => true) true Try.f7.params.toList args.toList ds p := hA0
  rw [Try.params7] at hA hval
  obtain ⟨v0, vs0, d0, ds0, p0, q0, hargs, rfl, rfl, h0, r0⟩ := trodAll_cons hA
  obtain ⟨v1, vs1, d1, ds1, p1, q1, rfl, rfl, rfl, h1, r1⟩ := trodAll_cons r0
  obtain ⟨v2, vs2, d2, ds2, p2, q2, rfl, rfl, rfl, h2, r2⟩ := trodAll_cons r1
  obtain ⟨v3, vs3, d3, ds3, p3, q3, rfl, rfl, rfl, h3, r3⟩ := trodAll_cons r2
  obtain ⟨rfl, rfl, rfl⟩ := trodAll_nil r3
  obtain rfl : args = #[v0, v1, v2, v3] := by cases args; simp_all
  obtain ⟨rfl, rfl⟩ := trodVars_none hV
  obtain ⟨a0, rfl, rfl, rfl, w0⟩ := open_int Try.underlying3 (hval 0 3 v0 rfl rfl) h0
  obtain ⟨a1, rfl, rfl, rfl, w1⟩ := open_int Try.underlying3 (hval 1 3 v1 rfl rfl) h1
  obtain ⟨o2, l2, c2, rfl⟩ := okWide_slice Try.underlying22 (hval 2 22 v2 rfl rfl)
  have k2 := h2
  have lt2 : ∀ x ∈ p2, x.block < W.heap.size := by obtain ⟨m, hm⟩ := k2; exact DataW.trod_lt m _ _ _ hm
  obtain ⟨x2, hx2, hl2⟩ : ∃ acts : List Pt, Acts W (.slice o2 l2 c2) acts ∧ acts.length = l2 := by obtain ⟨fuel, hf⟩ := h2; exact acts_of hf
  obtain ⟨o3, l3, c3, rfl⟩ := okWide_slice Try.underlying51 (hval 3 51 v3 rfl rfl)
  have k3 := h3
  have lt3 : ∀ x ∈ p3, x.block < W.heap.size := by obtain ⟨m, hm⟩ := k3; exact DataW.trod_lt m _ _ _ hm
  obtain ⟨x3, hx3, hl3, hm3⟩ : ∃ ks : List Bool, Bools W (.slice o3 l3 c3) ks ∧ ks.length = l3 ∧ l3 ≤ maxLen := by obtain ⟨fuel, hf⟩ := h3; exact bools_of hf
  clear hA0 hval0
  refine (survivorsWalk a0 a1 o2 l2 c2 o3 l3 c3 W x2 hx2 hl2 x3 hx3 hl3 hm3).mono fun e W' ⟨he, bel⟩ => ?_
  subst he
  exact ⟨_, rfl, _, _, _, [], _, [], hW', trodAll_mk1 (shut_bool Try.underlying4 _), (trodAll_cons_mk (shut_int Try.underlying3 w0) (trodAll_cons_mk (shut_int Try.underlying3 w1) (trodAll_cons_mk (Below.trod laidOut (by kernel_rfl) (of_decide_eq_true (by kernel_rfl)) k2 bel lt2) (trodAll_cons_mk (Below.trod laidOut (by kernel_rfl) (of_decide_eq_true (by kernel_rfl)) k3 bel lt3) trodAll_mk0)))), rfl, bel.frame _, fun h => by cases h⟩

theorem diskSurvivors_holds : Rows.DiskSurvivorsSaid :=
  OpenClaim.holds_of_wide 7 Try.f7 rfl rfl rfl rfl rfl rfl rfl ⟨rfl, rfl, rfl, rfl, rfl⟩ rfl rfl rfl rfl rfl (by kernel_rfl) Try.func7 (by kernel_rfl)
    (of_decide_eq_true (by kernel_rfl)) (by unfold Func.isWrapper; first | (rw [if_pos (by decide +kernel)]; kernel_rfl) | (rw [if_neg (by decide +kernel)]; exact ⟨rfl, rfl⟩))
    (fun os started H enc _ => diskSurvivorsLifted os started H enc)
end Go.Proofs.Ytficapmhghboiaa
