import Derived.Test.YtgdabnkjipcbhaaGreatDoorHj
namespace Go.Proofs.YtgdabnkjipcbhaaGreatDoor
open Go.RowKit Go.Maps

theorem node_not (n : Int) (s : Txt) (k0 : Kid) : nodeT 7 n s [k0] = [110, 111, 116] ++ [32] ++ atT k0 3 := rfl
theorem node_neg (n : Int) (s : Txt) (k0 : Kid) : nodeT 8 n s [k0] = if k0.1 = 1 ∧ 0 ≤ k0.2.1 then [45, 40] ++ k0.2.2 ++ [41] else [45] ++ atT k0 8 := rfl
set_option maxRecDepth 100000 in
/-- writeExpr where no brackets are wanted. -/
theorem wr_no (m : Nat) (n : Int) (s : Txt) (kids : EL) (hroot : rootB m n s kids.len = true) (h0 : -9223372036854775808 ≤ n) (h1 : n ≤ 9223372036854775807) (hKW : KidsW kids) (hlen : kids.len ≤ 2147483647) (f : FormA) (hf : formsL[m]? = some f) (B b : Nat) (t : Txt) (want : Int) (up : Nat) (kv : Value) (w : World) (hw : ¬ f.rank < want) (hE : Env B b w) (hS : SlE (belZ B) w up kv kids) (hI : Lib.IsBuilder 64 5 B b (bs t) w) (hl : t.length + 600 * kids.size + 500 ≤ 70368744177000) :
    Calls Tryz.prog 45 #[.pointer (some ⟨b, 0, none⟩), exV m n s kv, .int .i64 want] w fun e w' => e = .returned (.tuple #[]) ∧ Lib.IsBuilder 64 5 B b (bs (t ++ textE m n s kids)) w' ∧ Keeps (KB w B b) w w' := by
  obtain ⟨hk0, hkl, hleaf⟩ := root_parts hroot
  have hsl := leaf_len m n s hleaf
  obtain ⟨ao, cap, rfl, _⟩ := hS.head
  have hr : 1 ≤ m ∧ m ≤ 25 := by unfold kidsB at hk0; repeat' split at hk0 <;> omega
  by_cases g1 : m ≤ 6
  · have hsh : f.shape = 1 := by
      have : m = 1 ∨ m = 2 ∨ m = 3 ∨ m = 4 ∨ m = 5 ∨ m = 6 := by omega
      rcases this with rfl | rfl | rfl | rfl | rfl | rfl <;> (obtain rfl := Option.some.inj hf; rfl)
    have e : textE m n s kids = simpleT m n s := node_simple m n s _ (by omega) (by omega)
    rw [e]
    exact wPlain_v B b t m n s want ao kids.len cap f w hf (by omega) hsh hw hE hI h0 h1 hsl (by omega)
  by_cases g2 : m = 7
  · subst g2
    have k1 : kidsB ((7 : Nat) : Int) = 1 := by decide
    obtain rfl := Option.some.inj hf
    obtain ⟨o0, n0, s0, k0, rfl⟩ := EL.len1 (l := kids) (by omega)
    simp only [EL.size] at hl
    refine wAhead_v B b t 7 n s want ao _ cap _ w hf (by omega) rfl hw hE _ (fun w' hk => ?_)
    have h := writeNot_v B b t n s ⟨2, [110, 111, 116], 1, 3, 0, 3⟩ o0 n0 s0 k0 up (.slice ao _ cap) w' (hE.keepF hk) (hS.keepF hk) (ib_keepF hI hk) hKW.1 (by decide) (by decide) (by omega)
    have e : t ++ [110, 111, 116] ++ [32] ++ atT (o0, n0, textE o0 n0 s0 k0) 3 = t ++ textE ((7 : Nat) : Int) n s (.cons o0 n0 s0 k0 .nil) := by
      show _ = t ++ nodeT 7 n s [(o0, n0, nodeT o0 n0 s0 (txs k0))]
      rw [node_not]
      simp [List.append_assoc, textE]
    rw [← e]
    exact h
  by_cases g3 : m = 8
  · subst g3
    have k1 : kidsB ((8 : Nat) : Int) = 1 := by decide
    obtain rfl := Option.some.inj hf
    obtain ⟨o0, n0, s0, k0, rfl⟩ := EL.len1 (l := kids) (by omega)
    simp only [EL.size] at hl
    refine wAhead_v B b t 8 n s want ao _ cap _ w hf (by omega) rfl hw hE _ (fun w' hk => ?_)
    have e : textE ((8 : Nat) : Int) n s (.cons o0 n0 s0 k0 .nil) = if o0 = 1 ∧ 0 ≤ n0 then [45, 40] ++ textE o0 n0 s0 k0 ++ [41] else [45] ++ atT (o0, n0, textE o0 n0 s0 k0) 8 := node_neg n s _
    rw [e]
    by_cases q1 : o0 = 1
    · by_cases q2 : 0 ≤ n0
      · rw [if_pos ⟨q1, q2⟩]
        have h := writeNegLit_v B b t n s ⟨2, [45], 1, 8, 0, 8⟩ o0 n0 s0 k0 up (.slice ao _ cap) w' (hE.keepF hk) (hS.keepF hk) (ib_keepF hI hk) hKW.1 (by decide) (by decide) q1 q2 (by omega)
        have e2 : t ++ [45] ++ atT (o0, n0, textE o0 n0 s0 k0) 10 = t ++ ([45, 40] ++ textE o0 n0 s0 k0 ++ [41]) := by
          unfold atT
          rw [if_pos]
          · simp
          · show rankB o0 n0 < 10
            subst q1
            unfold rankB
            simp
            split <;> omega
        rw [← e2]
        exact h
      · rw [if_neg (fun h => q2 h.2), ← List.append_assoc]
        exact writeNegLow_v B b t n s ⟨2, [45], 1, 8, 0, 8⟩ o0 n0 s0 k0 up (.slice ao _ cap) w' (hE.keepF hk) (hS.keepF hk) (ib_keepF hI hk) hKW.1 (by decide) (by decide) q1 q2 (by omega)
    · rw [if_neg (fun h => q1 h.1), ← List.append_assoc]
      exact writeNegAny_v B b t n s ⟨2, [45], 1, 8, 0, 8⟩ o0 n0 s0 k0 up (.slice ao _ cap) w' (hE.keepF hk) (hS.keepF hk) (ib_keepF hI hk) hKW.1 (by decide) (by decide) q1 (by omega)
  by_cases g4 : m ≤ 20
  · obtain ⟨f', hf', hsh, hfind, hlr, hft, hk2⟩ := form_two m (by omega) g4
    obtain rfl := Option.some.inj (hf.symm.trans hf')
    obtain ⟨o0, n0, s0, k0, o1, n1, s1, k1, rfl⟩ := EL.len2 (l := kids) (by omega)
    simp only [EL.size] at hl
    have h := wBetween_v B b t m n s want ao _ cap f w hf (by omega) hsh hw hE o0 n0 o1 n1 s0 s1 k0 k1 up rfl hS hI hKW hlr hft (by omega)
    have e : textE m n s (.cons o0 n0 s0 k0 (.cons o1 n1 s1 k1 .nil)) = atT (o0, n0, textE o0 n0 s0 k0) f.left ++ [32] ++ f.text ++ [32] ++ atT (o1, n1, textE o1 n1 s1 k1) f.right := node_between m n s _ _ hfind
    rw [e]
    exact h
  · obtain ⟨f', hf', hsh, hno, hfind, hft, hk1⟩ := form_call m (by omega) (by omega)
    obtain rfl := Option.some.inj (hf.symm.trans hf')
    refine wCall_v B b t m n s want ao _ cap f w hf (by omega) hsh hw hE _ (fun w' hk => ?_)
    have h := writeCall_v B b t m n s f kids up (.slice ao _ cap) w' (hE.keepF hk) (hS.keepF hk) (ib_keepF hI hk) hKW hft hlen (by omega)
    have e : textE m n s kids = f.text ++ tailC [40] kids := by
      rw [tailC_commas kids [40] (by omega)]
      have := node_call m n s (txs kids) hno hfind
      unfold textE kidTs
      rw [this]
      simp [List.append_assoc]
    rw [e, ← List.append_assoc]
    exact h

set_option maxRecDepth 100000 in
theorem wrE_step (op n : Int) (s : Txt) (kids : EL) (hroot : rootB op n s kids.len = true) (h0 : -9223372036854775808 ≤ n) (h1 : n ≤ 9223372036854775807) (hKW : KidsW kids) (hlen : kids.len ≤ 2147483647) (hT : (textE op n s kids).length + 4 ≤ 300 * (kids.size + 1)) : WrE op n s kids := by
  intro B b t want up kv w hW hE hS hI hl
  have hk0 := (root_parts hroot).1
  have hr : 1 ≤ op ∧ op ≤ 25 := by unfold kidsB at hk0; repeat' split at hk0 <;> omega
  obtain ⟨m, rfl⟩ := Int.eq_ofNat_of_zero_le (show 0 ≤ op by omega)
  obtain ⟨f, hf, hf1, hrk⟩ := form_at m (by omega) (by omega)
  by_cases hw : f.rank < want
  · have e : atT ((m : Int), n, textE m n s kids) want = [40] ++ textE m n s kids ++ [41] := by unfold atT; rw [if_pos ((hrk n want hW).1 hw)]
    rw [e]
    exact wParen_v B b t m n s want kids up kv _ f w hf (by omega) hw hE hS hI (by omega) (fun t' w' hE' hS' hI' hl' => wr_no m n s kids hroot h0 h1 hKW hlen f hf B b t' 1 up kv w' (by omega) hE' hS' hI' (by omega))
  · have e : atT ((m : Int), n, textE m n s kids) want = textE m n s kids := by unfold atT; rw [if_neg (fun h => hw ((hrk n want hW).2 h))]
    rw [e]
    exact wr_no m n s kids hroot h0 h1 hKW hlen f hf B b t want up kv w hw hE hS hI (by omega)
end Go.Proofs.YtgdabnkjipcbhaaGreatDoor
