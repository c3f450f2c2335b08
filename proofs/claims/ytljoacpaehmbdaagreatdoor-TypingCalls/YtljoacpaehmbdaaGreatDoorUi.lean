import Derived.Test.YtljoacpaehmbdaaGreatDoorUg
import Derived.Test.YtljoacpaehmbdaaGreatDoorUh
import Derived.Test.YtljoacpaehmbdaaGreatDoorJzac
namespace Go.Proofs.YtljoacpaehmbdaaGreatDoor
open Go.RowKit Go.Maps

theorem fieldsP_le (S : List FieldA) (l : SL) : (fieldsP S l).1.length ≤ 8 ∧ (fieldsP S l).2.1.length ≤ 8 := by
  unfold fieldsP
  by_cases hE : (checkP S l).1 = 0
  · rw [if_neg (by simpa using hE)]
    have hS := (checkP_zero hE).1
    unfold schemaB at hS
    simp only [Bool.and_eq_true, decide_eq_true_eq] at hS
    have h8 := hS.1.1.1.2
    exact ⟨Nat.le_trans (pick_le _ _) h8, Nat.le_trans (pick_le _ _) h8⟩
  · rw [if_pos hE]
    exact ⟨Nat.zero_le _, Nat.zero_le _⟩

set_option maxRecDepth 100000 in
set_option maxHeartbeats 4000000 in
theorem fields_walk (S : List FieldA) (hlS : S.length ≤ 4398046511104) (l : SL) (sv pv : Value) (w : World) (hT : Types w) (hF : Forms w) (hf : FldsAt w sv S) (hp : SlS (argZ w.heap.size) w 0 pv l) :
    Calls Tryz.prog 7 #[.agg #[sv], pv] w fun e w' => e = .returned (.bool true) ∧ Keeps (fun _ => False) w w' := by
  obtain ⟨ao, cap, rfl, hc⟩ := hp.head
  obtain ⟨so, sc, rfl⟩ := RowAt.form hf
  obtain ⟨HB, hxb, hxc⟩ := boxedT w #[.slice so S.length sc] 26
  have SB : ∀ w', Keeps (fun _ => False) (w.alloc (.cells #[.slice so S.length sc] 26)) w' → w'.cell? ⟨w.heap.size, 0, none⟩ = some (.slice so S.length sc) := fun w' hk => (hk.cell hxb id).trans (hxc 0 _ rfl)
  have HSB := hide SB
  have HD := hide (deepStmts w.heap.size 0 l (.slice ao l.len cap) _ (by simp) (hp.keepF (unhide HB)))
  have HCH' := fun (hsz : l.size ≤ 4294967294) w' (hk : Keeps (fun _ => False) w w') => hide (lawFields_v (argZ w.heap.size) S hlS l hsz (.slice so S.length sc) (.slice ao l.len cap) w' 0 (hT.keepF hk) (hF.keepF hk) (hf.keepF hk) (hp.keepF hk))
  have HRC' := fun (hsz : l.size ≤ 4294967294) w' (hk : Keeps (fun _ => False) w w') => hide (rfields_v (argZ w.heap.size) S l hsz (.slice so S.length sc) (.slice ao l.len cap) w' 0 (hf.keepF hk) (hp.keepF hk))
  obtain ⟨hl1, hl2⟩ := fieldsP_le S l
  have HL1 := hide hl1
  have HL2 := hide hl2
  clear hT hF hf hp SB hxc hl1 hl2
  go_enter Tryz.func7, Tryz.ntmps7
  go_wp2_with fail
  refine (unhide HD).mono ?_
  rintro e w1 ⟨r, rfl, hk1, hsz⟩
  have HK1 := hide ((unhide HB).trans hk1)
  have HKb := hide hk1
  have y1 := unhide HSB _ hk1
  cases r with
  | true =>
    clear hk1 hsz
    go_wp2_with fail
    go_ret
    exact ⟨rfl, unhide HK1⟩
  | false =>
    have hs : l.size ≤ 4294967294 := by have := hsz rfl; omega
    have HCH := HCH' hs
    have HRC := HRC' hs
    clear HCH' HRC' hk1 hsz hs
    have mk1 : True := trivial
    unfold FdPost at HCH HRC
    generalize fieldsP S l = P at HCH HRC HL1 HL2
    obtain ⟨lr, lw, E⟩ := P
    go_wp2_with (first
      | (go_at_call 14; refine (unhide (HCH _ (unhide HK1))).mono ?_; rintro e w2 ⟨rv, wv, rfl, hrv, hwv, hk2⟩; obtain ⟨ro, rc, rfl⟩ := (rowAt_own hrv).form; obtain ⟨wo, wc, rfl⟩ := (rowAt_own hwv).form; have HRV := hide (rowAt_own hrv); have HWV := hide (rowAt_own hwv); have HK1 := hide ((unhide HK1).trans hk2); have HKb := hide ((unhide HKb).trans hk2); have y2 := unhide HSB _ (unhide HKb); clear hk2 hrv hwv)
      | (go_at_call 15; refine (unhide (HRC _ (unhide HK1))).mono ?_; rintro e w3 ⟨rv2, wv2, rfl, hrv, hwv, hk2⟩; obtain ⟨qo, qc, rfl⟩ := (rowAt_own hrv).form; obtain ⟨vo, vc, rfl⟩ := (rowAt_own hwv).form; have HRV2 := hide (rowAt_own hrv); have HWV2 := hide (rowAt_own hwv); have HRV := hide ((unhide HRV).keepF hk2); have HWV := hide ((unhide HWV).keepF hk2); have HK1 := hide ((unhide HK1).trans hk2); clear hk2 hrv hwv)
      | (clear mk1; go_at_call 16; refine (eqNames_v lr lr (by have := unhide HL1; omega) (by have := unhide HL1; omega) _ _ _ (unhide HRV) (unhide HRV2)).mono ?_; rintro e w4 ⟨rfl, hk2⟩; rw [decide_eq_true rfl]; have HWV := hide ((unhide HWV).keepF hk2); have HWV2 := hide ((unhide HWV2).keepF hk2); have HK1 := hide ((unhide HK1).trans hk2); clear hk2; have mk2 : True := trivial)
      | (clear mk2; go_at_call 16; refine (eqNames_v lw lw (by have := unhide HL2; omega) (by have := unhide HL2; omega) _ _ _ (unhide HWV) (unhide HWV2)).mono ?_; rintro e w5 ⟨rfl, hk2⟩; rw [decide_eq_true rfl]; have HK1 := hide ((unhide HK1).trans hk2); clear hk2))
    go_ret
    exact ⟨rfl, unhide HK1⟩
end Go.Proofs.YtljoacpaehmbdaaGreatDoor
