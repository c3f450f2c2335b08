import Derived.Test.YtlnkleicnkfkpaaDoorGh
namespace Go.Proofs.YtlnkleicnkfkpaaDoor
open Go.RowKit Go.Maps

set_option maxRecDepth 100000 in
set_option maxHeartbeats 1600000 in
theorem joined_v {E : World → Prop} (hL : RLib E) (Z : Zone) (N : Nat) : ∀ (l : SL), l.size < N → l.size ≤ 2147483647 → wellS l = true → intS l → ∀ (w : World) (up : Nat) (v : Value), E w → Tabs w → SlS Z w up v l →
    Calls Tryd.prog 35 #[v] w fun e w' => e = .returned (str (tailS 0 (sts l))) ∧ Keeps (fun _ => False) w w' := by
  induction N with
  | zero => intro l h; omega
  | succ N ih =>
    intro l hN hsz hw hi w up v hE hT hS
    have hlen : l.len ≤ 2147483647 := by have := SL.len_le l; omega
    have htl := tlS_le l hw hi
    obtain ⟨ao, cap, b, off, rfl, hcap, ha, hx⟩ := hS.open
    have IH := hide ih
    have HX := hide hx
    have HA := hide ha
    have HE := hide hE
    have HT := hide hT
    have HWI := hide (And.intro hw hi)
    clear hS ih hx ha hE hT hw hi
    go_enter Tryd.func35, Tryd.ntmps35
    go_wp2_with fail
    go_loopw [3, 4] (fun tv i wr => ∃ (rest : SL) (k : Nat) (S : Txt), tv = str S ∧ i = .int .i64 k ∧ k + rest.len = l.len ∧ rest.size ≤ l.size ∧ S ++ tailS k (sts rest) = tailS 0 (sts l) ∧ S.length + tlS rest ≤ tlS l ∧ (wellS rest = true ∧ intS rest) ∧ Keeps (fun _ => False) w wr ∧ StIn Z wr rest b (off + k * 5)) (fun _ i _ => l.len - (intOf i).toNat)
    case atStart => exact ⟨l, 0, [], rfl, rfl, by omega, Nat.le_refl _, rfl, by simp, unhide HWI, Keeps.refl _ _, by simpa using unhide HX⟩
    case round =>
      obtain ⟨rest, k, S, rfl, rfl, hkl, hrs, hS, hSl, ⟨hwr, hir⟩, hkeep, hr⟩ := hrel
      have HK := hide hkeep
      have HSS := hide hS
      clear hS hkeep
      cases rest with
      | nil =>
        simp only [SL.len, SL.size, tlS] at hkl hrs hSl
        clear hr
        have i1 : ¬ (k : Int) < (l.len : Int) := by omega
        go_wp2_with fail
        go_ret
        have h : S ++ [] = tailS 0 (sts l) := unhide HSS
        rw [List.append_nil] at h
        exact ⟨by rw [← h]; rfl, unhide HK⟩
      | cons op f ex th el rest =>
        obtain ⟨h1, h2, h3, h4, ⟨xv, h5, hxs⟩, ⟨tao, tcap, h6, h7, h8⟩, ⟨eao, ecap, g6, g7, g8⟩, h9⟩ := hr
        rw [wellS_cons, Bool.and_eq_true] at hwr
        obtain ⟨hst, hwr⟩ := hwr
        obtain ⟨hi1, hi2, hi3, hi4⟩ := hir
        have hst' := hst
        unfold stmtB at hst'
        simp only [Bool.and_eq_true] at hst'
        obtain ⟨hhd, hwx, hwt, hwe⟩ := hst'
        simp only [SL.len, SL.size, tlS] at hkl hrs hSl
        obtain ⟨rfl, hp⟩ := (unhide HA) (by omega)
        have hth : SlS Z wr b (.slice tao th.len tcap) th := ⟨tao, tcap, rfl, h7, h8⟩
        have hel : SlS Z wr b (.slice eao el.len ecap) el := ⟨eao, ecap, rfl, g7, g8⟩
        have hxs' := hxs
        obtain ⟨xao, xcap, rfl, hxl⟩ := hxs'.head
        have hEw := hL.keep (unhide HE) (unhide HK)
        have hTw := (unhide HT).keepF (unhide HK)
        have HWR := fun (w' : World) (hk : Keeps (fun _ => False) wr w') => hide (written_v hL Z op f ex th el hst hi1 (by omega) (by have := tlS_le th hwt hi2; omega) (by have := tlS_le el hwe hi3; omega) w' b _ tao eao tcap ecap (hL.keep hEw hk) (hTw.keepF hk) (hxs.keepF hk)
          (fun w2 hk2 => unhide IH th (by omega) (by omega) hwt hi2 w2 b _ (hL.keep hEw (hk.trans hk2)) (hTw.keepF (hk.trans hk2)) (hth.keepF (hk.trans hk2)))
          (fun w2 hk2 => unhide IH el (by omega) (by omega) hwe hi3 w2 b _ (hL.keep hEw (hk.trans hk2)) (hTw.keepF (hk.trans hk2)) (hel.keepF (hk.trans hk2))))
        have HR := hide h9
        have HWN := hide (And.intro hwr hi4)
        have i1 : (k : Int) < (l.len : Int) := by omega
        have i0 : (0 : Int) ≤ (k : Int) := by omega
        have hc : tailS k (sts (.cons op f ex th el rest)) = (if k = 0 then writtenT op f (headT ex) (sts th) (sts el) else [59, 32] ++ writtenT op f (headT ex) (sts th) (sts el)) ++ tailS (k + 1) (sts rest) := rfl
        rw [hc] at HSS
        generalize writtenT op f (headT ex) (sts th) (sts el) = T at HWR HSS hSl hc
        clear h2 h8 h9 g8 hxs hth hel hc hst hwx hwt hwe hi1 hi2 hi3 hi4 hwr hhd hEw hTw hxs'
        by_cases hk0 : k = 0
        · rw [if_pos hk0] at HSS
          have hk1' : ¬ (0 : Int) < (k : Int) := by omega
          have HSK : Hid (k = 0 → S = S) := fun _ => rfl
          clear hk0
          go_wp2_with fail
          refine (unhide (HWR _ (Keeps.refl _ wr))).mono ?_
          rintro e w1 ⟨rfl, hk1⟩
          go_wp2_with fail
          go_roundw
          case rel =>
            refine ⟨rest, k + 1, S ++ T, congrArg Value.string (cat2 S T), by go_num, by omega, by omega, ?_, by simp; omega, unhide HWN, (unhide HK).trans hk1, ?_⟩
            · rw [List.append_assoc]
              exact unhide HSS
            · rw [show off + (k + 1) * 5 = off + k * 5 + 5 by omega]
              exact (unhide HR).keepF hk1
          case measure => simp [intOf]; omega
        · rw [if_neg hk0] at HSS
          have hk1' : (0 : Int) < (k : Int) := by omega
          go_wp2_with fail
          refine (unhide (HWR _ (Keeps.refl _ wr))).mono ?_
          rintro e w1 ⟨rfl, hk1⟩
          go_wp2_with fail
          go_roundw
          case rel =>
            refine ⟨rest, k + 1, S ++ [59, 32] ++ T, ?_, by go_num, by omega, by omega, ?_, by simp; omega, unhide HWN, (unhide HK).trans hk1, ?_⟩
            · simp only [cat2]
            · have h := unhide HSS
              rw [← h]
              simp
            · rw [show off + (k + 1) * 5 = off + k * 5 + 5 by omega]
              exact (unhide HR).keepF hk1
          case measure => simp [intOf]; omega
end Go.Proofs.YtlnkleicnkfkpaaDoor
