import Derived.Test.YtgdabnkjipcbhaaGreatDoorHi
namespace Go.Proofs.YtgdabnkjipcbhaaGreatDoor
open Go.RowKit Go.Maps

set_option maxRecDepth 100000 in
set_option maxHeartbeats 1600000 in
theorem wParen_v (B b : Nat) (t : Txt) (m : Nat) (n : Int) (s : Txt) (want : Int) (kids : EL) (up : Nat) (kv : Value) (T : Txt) (f : FormA) (w : World) (hf : formsL[m]? = some f) (hm : m < 26) (hw : f.rank < want) (hE : Env B b w) (hS : SlE (belZ B) w up kv kids) (hI : Lib.IsBuilder 64 5 B b (bs t) w) (hl : t.length + T.length + 2 ≤ 70368744177000)
    (hC : ∀ (t' : Txt) (w' : World), Env B b w' → SlE (belZ B) w' up kv kids → Lib.IsBuilder 64 5 B b (bs t') w' → t'.length ≤ t.length + 1 → Calls Tryz.prog 45 #[.pointer (some ⟨b, 0, none⟩), exV m n s kv, .int .i64 1] w' fun e w'' => e = .returned (.tuple #[]) ∧ Lib.IsBuilder 64 5 B b (bs (t' ++ T)) w'' ∧ Keeps (KB w' B b) w' w'') :
    Calls Tryz.prog 45 #[.pointer (some ⟨b, 0, none⟩), exV m n s kv, .int .i64 want] w fun e w' => e = .returned (.tuple #[]) ∧ Lib.IsBuilder 64 5 B b (bs (t ++ ([40] ++ T ++ [41]))) w' ∧ Keeps (KB w B b) w w' := by
  obtain ⟨ao, cap, rfl, _⟩ := hS.head
  obtain ⟨hk1, hz1, hx1, hxc⟩ := boxA w #[.int .i64 m, .int .i64 n, str s, .slice ao kids.len cap] 54
  have HI1 := hide (ib_keepF hI hk1)
  have HE1 := hide (hE.keepF hk1)
  have HS1 := hide (hS.keepF hk1)
  have HK1 := hide hk1
  have HB1 := hide hx1
  have f3 := (unhide HE1).forms.cell m f hf 3 (.int .i64 f.rank) rfl
  have c0 := hxc 0 (.int .i64 m) rfl
  have c1 := hxc 1 (.int .i64 n) rfl
  have c2 := hxc 2 (str s) rfl
  have c3 := hxc 3 (.slice ao kids.len cap) rfl
  have i0 : (0 : Int) ≤ (m : Int) := by omega
  have i1 : (m : Int) < 26 := by omega
  have HC := hide hC
  generalize f.rank = frk at *
  clear hE hS hI hk1 hx1 hxc hf hC
  generalize hw1 : w.alloc (.cells #[.int .i64 m, .int .i64 n, str s, .slice ao kids.len cap] 54) = w1 at *
  go_enter Tryz.func45, Tryz.ntmps45
  go_wp2_with fail
  clear hw1
  refine (wb_step 40 40 rfl (unhide HK1).any (unhide HI1) (by omega) (unhide HE1).size).mono ?_
  rintro e w2 ⟨rfl, hi2, hk12, hk2⟩
  have HI2 := hide hi2
  have HK2 := hide hk2
  have HE2 := hide ((unhide HE1).kb hk12)
  have HS2 := hide ((unhide HS1).kb (unhide HI1) hk12)
  have g0 := box_kb (unhide HI1) hk12 (unhide HB1) (by decide) (by decide) c0
  have g1 := box_kb (unhide HI1) hk12 (unhide HB1) (by decide) (by decide) c1
  have g2 := box_kb (unhide HI1) hk12 (unhide HB1) (by decide) (by decide) c2
  have g3 := box_kb (unhide HI1) hk12 (unhide HB1) (by decide) (by decide) c3
  have HC2 := hide ((unhide HC) (t ++ [40]) w2 (unhide HE2) (unhide HS2) hi2 (by simp))
  clear hi2 hk2 hk12 HI1 HE1 HS1 HB1 c0 c1 c2 c3 f3 HC
  go_wp2_with fail
  refine (unhide HC2).mono ?_
  rintro e w3 ⟨rfl, hi3, hk23⟩
  have HE3 := hide ((unhide HE2).kb hk23)
  have HW3 := hide (wb_step 41 41 rfl (kb_trans (unhide HK2) hk23) hi3 (by simp; omega) (unhide HE3).size)
  clear hi3 hk23
  go_wp2_with fail
  refine (unhide HW3).mono ?_
  rintro e w4 ⟨rfl, hi4, _, hk4⟩
  have HI4 := hide hi4
  have HK4 := hide hk4
  clear hi4 hk4
  go_wp2_with fail
  (try simp only [Exit.inBlock, Exit.then])
  refine bodyPost_ret (results_none rfl _ _ _) rfl ?_
  refine ⟨rfl, ?_, unhide HK4⟩
  have h := unhide HI4
  simpa [List.append_assoc] using h

theorem form_at : ∀ m : Nat, 1 ≤ m → m ≤ 25 → ∃ f, formsL[m]? = some f ∧ 1 ≤ f.rank ∧ (∀ n want : Int, Want m n want → (f.rank < want ↔ rankB m n < want)) := by
  intro m h1 h2
  have : m = 1 ∨ m = 2 ∨ m = 3 ∨ m = 4 ∨ m = 5 ∨ m = 6 ∨ m = 7 ∨ m = 8 ∨ m = 9 ∨ m = 10 ∨ m = 11 ∨ m = 12 ∨ m = 13 ∨ m = 14 ∨ m = 15 ∨ m = 16 ∨ m = 17 ∨ m = 18 ∨ m = 19 ∨ m = 20 ∨ m = 21 ∨ m = 22 ∨ m = 23 ∨ m = 24 ∨ m = 25 := by omega
  rcases this with rfl | rfl | rfl | rfl | rfl | rfl | rfl | rfl | rfl | rfl | rfl | rfl | rfl | rfl | rfl | rfl | rfl | rfl | rfl | rfl | rfl | rfl | rfl | rfl | rfl
  all_goals
    refine ⟨_, rfl, by decide, fun n want hW => ?_⟩
    unfold Want at hW
    unfold rankB
    simp
    try (split <;> omega)
theorem form_two : ∀ m : Nat, 9 ≤ m → m ≤ 20 → ∃ f, formsL[m]? = some f ∧ f.shape = 3 ∧ betweens.find? (fun b => decide (b.1 = (m : Int))) = some ((m : Int), f.text, f.left, f.right) ∧ ((1 ≤ f.left ∧ f.left ≤ 8) ∧ 1 ≤ f.right ∧ f.right ≤ 8) ∧ f.text.length ≤ 4 ∧ kidsB m = 2 := by
  intro m h1 h2
  have : m = 9 ∨ m = 10 ∨ m = 11 ∨ m = 12 ∨ m = 13 ∨ m = 14 ∨ m = 15 ∨ m = 16 ∨ m = 17 ∨ m = 18 ∨ m = 19 ∨ m = 20 := by omega
  rcases this with rfl | rfl | rfl | rfl | rfl | rfl | rfl | rfl | rfl | rfl | rfl | rfl
  all_goals exact ⟨_, rfl, rfl, by decide, by decide, by decide, by decide⟩
theorem form_call : ∀ m : Nat, 21 ≤ m → m ≤ 25 → ∃ f, formsL[m]? = some f ∧ f.shape = 4 ∧ betweens.find? (fun b => decide (b.1 = (m : Int))) = none ∧ callsT.find? (fun c => decide (c.1 = (m : Int))) = some ((m : Int), f.text) ∧ f.text.length ≤ 4 ∧ 1 ≤ kidsB m := by
  intro m h1 h2
  have : m = 21 ∨ m = 22 ∨ m = 23 ∨ m = 24 ∨ m = 25 := by omega
  rcases this with rfl | rfl | rfl | rfl | rfl
  all_goals exact ⟨_, rfl, rfl, by decide, by decide, by decide, by decide⟩
end Go.Proofs.YtgdabnkjipcbhaaGreatDoor
