import Derived.Test.YtnaajeldbgmdjaaDoorRn
import Derived.Test.YtnaajeldbgmdjaaDoorJk
import Derived.Test.YtnaajeldbgmdjaaDoorMc
namespace Go.Proofs.YtnaajeldbgmdjaaDoor
open Go.RowKit Go.Maps

theorem rowV_H (S : List FieldA) : (rowV S true).map ValA.kind = rowH S := by
  unfold rowV rowH
  rw [List.map_map]
  apply List.map_congr_left
  intro f _
  simp
theorem rowV_G (S : List FieldA) : (rowV S false).map ValA.kind = rowG S := by
  unfold rowV rowG
  rw [List.map_map]
  apply List.map_congr_left
  intro f _
  cases h : f.opt <;> simp [h]
theorem rowV_len (S : List FieldA) (p : Bool) : (rowV S p).length = S.length := by simp [rowV]
set_option maxRecDepth 100000 in
set_option maxHeartbeats 8000000 in
theorem right_walk (S : List FieldA) (hlS : S.length ≤ 4398046511104) (op n : Int) (s : Txt) (kids : EL) (sv xv : Value) (w : World) (hT : Types w) (hF : Forms w) (hf : FldsAt w sv S) (hx : SlE (argZ w.heap.size) w 0 xv kids) :
    Calls Tryd.prog 3 #[.agg #[sv], exV op n s xv] w fun e w' => e = .returned (.bool true) ∧ Keeps (fun _ => False) w w' := by
  obtain ⟨ao, cap, rfl, hc⟩ := hx.head
  obtain ⟨so, sc, rfl⟩ := RowAt.form hf
  have hk0 : Keeps (fun _ => False) w (((w.alloc (.cells #[.slice so S.length sc] 24)).alloc (.cells #[.int .i64 op, .int .i64 n, str s, .slice ao kids.len cap] 27)).alloc (.cells #[.int .i64 op, .int .i64 n, str s, .slice ao kids.len cap] 27)) := (((Keeps.refl _ w).alloc _).alloc _).alloc _
  have e1 : (w.alloc (.cells #[.slice so S.length sc] 24)).heap.size = w.heap.size + 1 := by simp
  have e2 : ((w.alloc (.cells #[.slice so S.length sc] 24)).alloc (.cells #[.int .i64 op, .int .i64 n, str s, .slice ao kids.len cap] 27)).heap.size = w.heap.size + 2 := by simp
  have hb0 : (((w.alloc (.cells #[.slice so S.length sc] 24)).alloc (.cells #[.int .i64 op, .int .i64 n, str s, .slice ao kids.len cap] 27)).alloc (.cells #[.int .i64 op, .int .i64 n, str s, .slice ao kids.len cap] 27)).heap[w.heap.size]? = some (.cells #[.slice so S.length sc] 24 (0, 0)) := ((((Keeps.refl (fun _ => False) _).alloc _).alloc _).block _ (by rw [e1]; omega) id).trans (heap_alloc_new w _)
  have hb1 : (((w.alloc (.cells #[.slice so S.length sc] 24)).alloc (.cells #[.int .i64 op, .int .i64 n, str s, .slice ao kids.len cap] 27)).alloc (.cells #[.int .i64 op, .int .i64 n, str s, .slice ao kids.len cap] 27)).heap[w.heap.size + 1]? = some (.cells #[.int .i64 op, .int .i64 n, str s, .slice ao kids.len cap] 27 (0, 0)) := by
    have := heap_alloc_new (w.alloc (.cells #[.slice so S.length sc] 24)) (.cells #[.int .i64 op, .int .i64 n, str s, .slice ao kids.len cap] 27)
    rw [e1] at this
    exact (((Keeps.refl (fun _ => False) _).alloc _).block _ (by rw [e2]; omega) id).trans this
  have hb2 : (((w.alloc (.cells #[.slice so S.length sc] 24)).alloc (.cells #[.int .i64 op, .int .i64 n, str s, .slice ao kids.len cap] 27)).alloc (.cells #[.int .i64 op, .int .i64 n, str s, .slice ao kids.len cap] 27)).heap[w.heap.size + 2]? = some (.cells #[.int .i64 op, .int .i64 n, str s, .slice ao kids.len cap] 27 (0, 0)) := by
    have := heap_alloc_new ((w.alloc (.cells #[.slice so S.length sc] 24)).alloc (.cells #[.int .i64 op, .int .i64 n, str s, .slice ao kids.len cap] 27)) (.cells #[.int .i64 op, .int .i64 n, str s, .slice ao kids.len cap] 27)
    rw [e2] at this
    exact this
  have SB : ∀ w' : World, Keeps (fun _ => False) (((w.alloc (.cells #[.slice so S.length sc] 24)).alloc (.cells #[.int .i64 op, .int .i64 n, str s, .slice ao kids.len cap] 27)).alloc (.cells #[.int .i64 op, .int .i64 n, str s, .slice ao kids.len cap] 27)) w' → w'.cell? ⟨w.heap.size, 0, none⟩ = some (.slice so S.length sc) ∧ w'.cell? ⟨w.heap.size + 1, 0, none⟩ = some (.int .i64 op) ∧ w'.cell? ⟨w.heap.size + 1, 1, none⟩ = some (.int .i64 n) ∧ w'.cell? ⟨w.heap.size + 1, 2, none⟩ = some (str s) ∧ w'.cell? ⟨w.heap.size + 1, 3, none⟩ = some (.slice ao kids.len cap) := fun w' hk => by
    have k0 := (hk.block _ (lt_of_block hb0) id).trans hb0
    have k1 := (hk.block _ (lt_of_block hb1) id).trans hb1
    exact ⟨by rw [cell_of_blk k0]; rfl, by rw [cell_of_blk k1]; rfl, by rw [cell_of_blk k1]; rfl, by rw [cell_of_blk k1]; rfl, by rw [cell_of_blk k1]; rfl⟩
  have HSB := hide SB
  have HD := hide (deepExprs (w.heap.size + 3) 0 (.cons op n s kids .nil) (.slice (some ⟨w.heap.size + 2, 0, none⟩) 1 1) _ (by simp) (one_arg (B := w.heap.size) hb2 (by omega) (by omega) (hx.keepF hk0) (Nat.le_refl 1) 0))
  have HK0 := hide hk0
  have HTO := fun (hsz : kids.size + 1 ≤ 2147483647) w' (hk : Keeps (fun _ => False) w w') => hide (typeOf_v (argZ w.heap.size) S hlS op n s kids hsz (.slice so S.length sc) (.slice ao kids.len cap) w' 0 (hT.keepF hk) (hF.keepF hk) (hf.keepF hk) (hx.keepF hk))
  have HCS := fun w' (hk : Keeps (fun _ => False) w w') => hide (checkSchema_any S (.slice so S.length sc) w' (hf.keepF hk))
  have HCE := fun (hsz : kids.size + 1 ≤ 2147483647) w' (hk : Keeps (fun _ => False) w w') => hide (rCheckExpr_v (argZ w.heap.size) op n s kids hsz w' 0 (.slice ao kids.len cap) (hx.keepF hk))
  have HFF := hide hf
  have HXX := hide hx
  have HTP : Hid (typeP S op n s kids = _) := rfl
  unfold typeP at HTP
  obtain ⟨⟨T, O, E⟩, hp⟩ : ∃ p, p = typeP S op n s kids := ⟨_, rfl⟩
  have hp' : (T, O, E) = _ := hp.trans (unhide HTP)
  have HP := hide hp'
  rw [← hp] at HTO
  clear hT hF hf hx SB hb0 hb1 hb2 e1 e2 hp hp' hk0 HTP
  go_enter Tryd.func3, Tryd.ntmps3
  go_wp2_with fail
  refine (unhide HD).mono ?_
  rintro e w1 ⟨r, rfl, hk1, hsz⟩
  have HK1 := hide ((unhide HK0).trans hk1)
  have HKb := hide hk1
  have y1 := unhide HSB _ hk1
  have HSZ := hide hsz
  clear hk1 hsz
  cases r with
  | true =>
    go_wp2_with fail
    go_ret
    exact ⟨rfl, unhide HK1⟩
  | false =>
    have hs : kids.size + 1 ≤ 2147483647 := by have := (unhide HSZ) rfl; simp only [EL.size] at this; omega
    go_wp2_with fail
    refine (unhide (HTO hs _ (unhide HK1))).mono ?_
    rintro e w2 ⟨rfl, hk2⟩
    have HK2 := hide ((unhide HK1).trans hk2)
    have HKc := hide ((unhide HKb).trans hk2)
    have y2 := unhide HSB _ (unhide HKc)
    clear hk2 y1 HTO
    go_wp2_with fail
    refine (unhide (HCS _ (unhide HK2))).mono ?_
    rintro e w3 ⟨rfl, hk3⟩
    have HK3 := hide ((unhide HK2).trans hk3)
    have HKd := hide ((unhide HKc).trans hk3)
    have y3 := unhide HSB _ (unhide HKd)
    clear hk3 y2 HCS
    go_wp2_with fail
    refine (unhide (HCE hs _ (unhide HK3))).mono ?_
    rintro e w4 ⟨rfl, hk4⟩
    have HK4 := hide ((unhide HK3).trans hk4)
    have HKe := hide ((unhide HKd).trans hk4)
    have y4 := unhide HSB _ (unhide HKe)
    clear hk4 y3 HCE
    by_cases hes : errS S = 0
    · by_cases hce : checkE (.cons op n s kids .nil) = 0
      · have hS : schemaB S = true := by
          unfold errS at hes
          by_cases h : schemaB S = true
          · exact h
          · rw [if_neg h] at hes; simp at hes
        have hwe : wellE (.cons op n s kids .nil) = true := by
          unfold checkE at hce
          by_cases h : wellE (.cons op n s kids .nil) = false
          · rw [if_pos h] at hce; simp at hce
          · simpa using h
        have hl8 := schema_8 hS
        have hroot : rootB op n s kids.len = true ∧ wellE kids = true := by
          simp only [wellE, Bool.and_eq_true] at hwe
          exact ⟨hwe.1, hwe.2.1⟩
        have hok := (right_pure hS _ hwe).1.1
        have HTY : Hid ((kindP S op s kids).2 = 0 → okT (kindP S op s kids).1.t) := fun h0 => by
          have h1 := kinds_okT hS (.cons op n s kids .nil) hwe
          rw [kindsP_cons] at h1
          simp [h0, kindsP] at h1
          exact h1
        rw [hes, hce]
        have hP := unhide HP
        rw [hes, hce] at hP
        simp only [ne_eq, not_true_eq_false, if_false] at hP
        have HRW := fun (p : Bool) w' (hk : Keeps (fun _ => False) w w') => hide (row_v S (.slice so S.length sc) p w' ((unhide HFF).keepF hk) hl8)
        have HGO := fun (R : List ValA) (hR : R.length = S.length) (ro : Option Addr) (rc : Nat) w' (hk : Keeps (fun _ => False) w w') (hr : ValsAt w' (.slice ro R.length rc) R) => hide (goes_v (argZ w.heap.size) S hS so sc R ro rc hR (kids.size + 1) kids (by omega) op n s w' 0 (.slice ao kids.len cap) ((unhide HXX).keepF hk) ((unhide HFF).keepF hk) hr hroot.1 hroot.2)
        have HOK := hide hok
        have HPP := hide hP
        clear hes hce hwe hroot hok hP HP
        go_wp2_with fail
        refine (unhide (HRW true _ (unhide HK4))).mono ?_
        rintro e w5 ⟨ro5, rc5, rfl, hr5, hk5⟩
        have HK5 := hide ((unhide HK4).trans hk5)
        have HKf := hide ((unhide HKe).trans hk5)
        have y5 := unhide HSB _ (unhide HKf)
        have HR5 := hide hr5
        clear hk5 hr5 y4
        go_wp2_with fail
        refine (unhide (HRW false _ (unhide HK5))).mono ?_
        rintro e w6 ⟨ro6, rc6, rfl, hr6, hk6⟩
        have HK6 := hide ((unhide HK5).trans hk6)
        have HKg := hide ((unhide HKf).trans hk6)
        have y6 := unhide HSB _ (unhide HKg)
        have HR6 := hide hr6
        have HR56 := hide (RowAt.keepF (unhide HR5) hk6)
        have HG1 := hide (unhide (HGO (rowV S true) (rowV_len S true) ro5 rc5 w6 (unhide HK6) (by unfold ValsAt; rw [rowV_len]; exact unhide HR56)))
        rw [rowV_H, rowV_len] at HG1
        clear hk6 hr6 y5 HRW HR5
        go_wp2_with fail
        refine (unhide HG1).mono ?_
        rintro e w7 ⟨⟨tH, okH, rfl, hTH⟩, hk7⟩
        have HK7 := hide ((unhide HK6).trans hk7)
        have HKh := hide ((unhide HKg).trans hk7)
        have y7 := unhide HSB _ (unhide HKh)
        have HTH := hide hTH
        have HG2 := hide (unhide (HGO (rowV S false) (rowV_len S false) ro6 rc6 w7 (unhide HK7) (by unfold ValsAt; rw [rowV_len]; exact RowAt.keepF (unhide HR6) hk7)))
        rw [rowV_G, rowV_len] at HG2
        clear hk7 hTH y6 HG1 HGO
        go_wp2_with fail
        refine (unhide HG2).mono ?_
        rintro e w8 ⟨⟨tG, okG, rfl, hTG⟩, hk8⟩
        have HK8 := hide ((unhide HK7).trans hk8)
        have HTG := hide hTG
        clear hk8 hTG y7 HG2
        by_cases hk0 : (kindP S op s kids).2 = 0
        · obtain ⟨g1, g2, _⟩ := (unhide HOK).1 hk0
          have h1 := unhide HTH
          have h2 := unhide HTG
          rw [g1] at h1
          rw [g2] at h2
          obtain ⟨rfl, rfl⟩ := h1
          obtain ⟨rfl, rfl⟩ := h2
          have hP := unhide HPP
          rw [hk0] at hP
          simp only [not_true_eq_false, if_false, Prod.mk.injEq] at hP
          obtain ⟨hPT, hPO, rfl⟩ := hP
          have hty : okT (kindP S op s kids).1.t := (unhide HTY) hk0
          have hT0 : T ≠ 0 := by rw [hPT]; rcases hty with h | h | h <;> rw [h] <;> decide
          have hgo : KA.gone (kindP S op s kids).1 = if O then 0 else T := by unfold KA.gone; rw [hPO, hPT]
          rw [← hPT, hgo]
          have e0 : (T == 0) = false := by simpa using hT0
          have e1 : (T == T) = true := by simp
          clear HTH HTG HOK HPP g1 g2 hPT hPO hty hT0 hgo hk0
          cases O with
          | true =>
            simp only [if_true]
            go_wp2
            go_ret
            exact ⟨rfl, unhide HK8⟩
          | false =>
            simp only [Bool.false_eq_true, if_false]
            go_wp2
            go_ret
            exact ⟨rfl, unhide HK8⟩
        · obtain ⟨g1, g2⟩ := (unhide HOK).2 hk0
          have hP := unhide HPP
          rw [if_pos hk0] at hP
          simp only [Prod.mk.injEq] at hP
          obtain ⟨rfl, rfl, hPE⟩ := hP
          rw [← hPE] at g2
          have hn : okH = false ∨ okG = false := by
            rcases g1 with g1 | g1
            · left; have h := unhide HTH; rw [g1] at h; exact h
            · right; have h := unhide HTG; rw [g1] at h; exact h
          clear HTH HTG HOK HPP g1 hPE hk0
          rcases g2 with rfl | rfl | rfl
          all_goals
            cases okH with
            | false =>
              go_wp2
              go_ret
              exact ⟨rfl, unhide HK8⟩
            | true =>
              cases okG with
              | false =>
                go_wp2
                go_ret
                exact ⟨rfl, unhide HK8⟩
              | true => rcases hn with h | h <;> cases h
      · have hP := unhide HP
        rw [hes] at hP
        simp only [ne_eq, not_true_eq_false, if_false] at hP
        rw [if_pos hce] at hP
        simp only [Prod.mk.injEq] at hP
        obtain ⟨rfl, rfl, hPE⟩ := hP
        rw [hes, ← hPE]
        have b1 : (E != 0) = true := by rw [hPE]; simpa using hce
        clear hes hce HP hPE
        go_wp2
        go_ret
        exact ⟨rfl, unhide HK4⟩
    · have hP := unhide HP
      rw [if_pos hes] at hP
      simp only [Prod.mk.injEq] at hP
      obtain ⟨rfl, rfl, hPE⟩ := hP
      rw [← hPE]
      have b1 : (E != 0) = true := by rw [hPE]; simpa using hes
      generalize checkE (.cons op n s kids .nil) = C at *
      clear hes HP hPE
      go_wp2
      go_ret
      exact ⟨rfl, unhide HK4⟩
end Go.Proofs.YtnaajeldbgmdjaaDoor
