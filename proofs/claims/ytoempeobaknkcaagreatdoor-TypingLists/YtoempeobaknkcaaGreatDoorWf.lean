import Derived.Test.YtoempeobaknkcaaGreatDoorWe
namespace Go.Proofs.YtoempeobaknkcaaGreatDoor
open Go.RowKit Go.Maps

set_option maxRecDepth 100000 in
set_option maxHeartbeats 16000000 in
theorem lists_walk (S : List FieldA) (hlS : S.length + 64 ≤ 4398046511104) (p q : SL) (sv pv qv : Value) (w : World) (hT : Types w) (hF : Forms w) (hf : FldsAt w sv S) (hp : SlS (argZ w.heap.size) w 0 pv p) (hq : SlS (argZ w.heap.size) w 0 qv q) :
    Calls Tryz.prog 3 #[.agg #[sv], pv, qv] w fun e w' => e = .returned (.bool true) ∧ Keeps (fun _ => False) w w' := by
  obtain ⟨ao, cap, rfl, hc⟩ := hp.head
  obtain ⟨bo, bcap, rfl, hbc⟩ := hq.head
  obtain ⟨so, sc, rfl⟩ := RowAt.form hf
  obtain ⟨HB, hxb, hxc⟩ := boxedT w #[.slice so S.length sc] 24
  have hs0 : (w.alloc (.cells #[.slice so S.length sc] 24)).heap.size = w.heap.size + 1 := by simp
  have HS0 := hide hs0
  obtain ⟨w0, hw0⟩ : ∃ W, W = w.alloc (.cells #[.slice so S.length sc] 24) := ⟨_, rfl⟩
  have SB : ∀ w', Keeps (fun _ => False) w0 w' → w'.cell? ⟨w.heap.size, 0, none⟩ = some (.slice so S.length sc) := fun w' hk => (hk.cell (by rw [hw0]; exact hxb) id).trans (by rw [hw0]; exact hxc 0 _ rfl)
  have HSB := hide SB
  have HKB : Hid (Keeps (fun _ => False) w w0) := by rw [hw0]; exact HB
  have HSZ0 : Hid (w0.heap.size = w.heap.size + 1) := by rw [hw0]; exact HS0
  have HD := hide (fun w' (hk : Keeps (fun _ => False) w w') => deepStmts w.heap.size 0 p (.slice ao p.len cap) w' hk.size (hp.keepF hk))
  have HD2 := hide (fun w' (hk : Keeps (fun _ => False) w w') => deepStmts w.heap.size 0 q (.slice bo q.len bcap) w' hk.size (hq.keepF hk))
  have HW0 := hide hw0
  have HT := hide hT
  have HFM := hide hF
  have HF := hide hf
  have HP := hide hp
  have HQ := hide hq
  have HNN := hide hlS
  clear hT hF hf hp hq SB hxc hxb hs0 HB hw0 hlS
  go_enter Tryz.func3, Tryz.ntmps3
  go_upto_region 1 with fail
  rw [← unhide HW0]
  go_wp2_with fail
  refine (unhide HD _ (unhide HKB)).mono ?_
  rintro e w1 ⟨r, rfl, hk1, hsz⟩
  have HK1 := hide hk1
  have HSZ := hide hsz
  clear hk1 hsz
  cases r with
  | true =>
    go_wp2_with fail
    go_ret
    exact ⟨rfl, (unhide HKB).trans (unhide HK1)⟩
  | false =>
    have hps : p.size ≤ 2147483647 := (unhide HSZ) rfl
    clear HSZ
    go_wp2_with fail
    refine (unhide HD2 _ ((unhide HKB).trans (unhide HK1))).mono ?_
    rintro e w2 ⟨r, rfl, hk2, hsz2⟩
    have HSZ2 := hide hsz2
    have HK2 := hide ((unhide HK1).trans hk2)
    clear hk2 hsz2
    cases r with
    | true =>
      go_wp2_with fail
      go_ret
      exact ⟨rfl, (unhide HKB).trans (unhide HK2)⟩
    | false =>
      have hqs : q.size ≤ 2147483647 := (unhide HSZ2) rfl
      have y2 := unhide HSB _ (unhide HK2)
      have HRP := hide (fun w' (hk : Keeps (fun _ => False) w0 w') => roomed_v (argZ w.heap.size) S p (by omega) (.slice so S.length sc) (.slice ao p.len cap) w' 0 ((unhide HT).keepF ((unhide HKB).trans hk)) ((unhide HFM).keepF ((unhide HKB).trans hk)) ((unhide HF).keepF ((unhide HKB).trans hk)) ((unhide HP).keepF ((unhide HKB).trans hk)) (plainZ ((unhide HKB).trans hk).size) (unhide HNN))
      have HRQ := hide (fun w' (hk : Keeps (fun _ => False) w0 w') => roomed_v (argZ w.heap.size) S q (by omega) (.slice so S.length sc) (.slice bo q.len bcap) w' 0 ((unhide HT).keepF ((unhide HKB).trans hk)) ((unhide HFM).keepF ((unhide HKB).trans hk)) ((unhide HF).keepF ((unhide HKB).trans hk)) ((unhide HQ).keepF ((unhide HKB).trans hk)) (plainZ ((unhide HKB).trans hk).size) (unhide HNN))
      have HST := hide (fun w' (hk : Keeps (fun _ => False) w0 w') => stale_v (argZ w.heap.size) S p hps (.slice so S.length sc) (.slice ao p.len cap) w' 0 ((unhide HT).keepF ((unhide HKB).trans hk)) ((unhide HFM).keepF ((unhide HKB).trans hk)) ((unhide HF).keepF ((unhide HKB).trans hk)) ((unhide HP).keepF ((unhide HKB).trans hk)))
      have hpp : p.size ≤ 4294967294 := by omega
      have hqq : q.size ≤ 4294967294 := by omega
      have HLP := hide (fun w' (hk : Keeps (fun _ => False) w0 w') => (lawFields_v (argZ w.heap.size) S (by have := unhide HNN; omega) p hpp (.slice so S.length sc) (.slice ao p.len cap) w' 0 ((unhide HT).keepF ((unhide HKB).trans hk)) ((unhide HFM).keepF ((unhide HKB).trans hk)) ((unhide HF).keepF ((unhide HKB).trans hk)) ((unhide HP).keepF ((unhide HKB).trans hk))).mono (fun e w2 (h : FdP (fieldsP S p).1 (fieldsP S p).2.1 (fieldsP S p).2.2 w' e w2) => h))
      have HLQ := hide (fun w' (hk : Keeps (fun _ => False) w0 w') => (lawFields_v (argZ w.heap.size) S (by have := unhide HNN; omega) q hqq (.slice so S.length sc) (.slice bo q.len bcap) w' 0 ((unhide HT).keepF ((unhide HKB).trans hk)) ((unhide HFM).keepF ((unhide HKB).trans hk)) ((unhide HF).keepF ((unhide HKB).trans hk)) ((unhide HQ).keepF ((unhide HKB).trans hk))).mono (fun e w2 (h : FdP (fieldsP S q).1 (fieldsP S q).2.1 (fieldsP S q).2.2 w' e w2) => h))
      have HMP := hide (fun w' (hk : Keeps (fun _ => False) w0 w') => rfields_v (argZ w.heap.size) S p hpp (.slice so S.length sc) (.slice ao p.len cap) w' 0 ((unhide HF).keepF ((unhide HKB).trans hk)) ((unhide HP).keepF ((unhide HKB).trans hk)))
      have HMQ := hide (fun w' (hk : Keeps (fun _ => False) w0 w') => rfields_v (argZ w.heap.size) S q hqq (.slice so S.length sc) (.slice bo q.len bcap) w' 0 ((unhide HF).keepF ((unhide HKB).trans hk)) ((unhide HQ).keepF ((unhide HKB).trans hk)))
      have h8p := fieldsP_le S p
      have h8q := fieldsP_le S q
      obtain ⟨⟨A1, C1, E1⟩, hfp⟩ : ∃ t, t = fieldsP S p := ⟨_, rfl⟩
      obtain ⟨⟨A2, C2, E2⟩, hfq⟩ : ∃ t, t = fieldsP S q := ⟨_, rfl⟩
      unfold FdPost at HMP HMQ
      rw [← hfp] at HLP HMP h8p
      rw [← hfq] at HLQ HMQ h8q
      have HL8 := hide (And.intro h8p h8q)
      clear HSZ2 HD HD2 hps hqs hpp hqq h8p h8q hfp hfq hc hbc
      go_upto_region 5 with (go_at_call 5; refine (unhide HRP _ (unhide HK2)).mono ?_; rintro e w3 ⟨rfl, hk3⟩; have HK3 := hide ((unhide HK2).trans hk3); have y3 := unhide HSB _ (unhide HK3); clear hk3)
      go_upto_region 6 with (go_at_call 5; refine (unhide HRQ _ (unhide HK3)).mono ?_; rintro e w4 ⟨rfl, hk4⟩; have HK4 := hide ((unhide HK3).trans hk4); have y4 := unhide HSB _ (unhide HK4); clear hk4)
      go_upto_region 7 with (go_at_call 6; refine (unhide HST _ (unhide HK4)).mono ?_; rintro e w5 ⟨rfl, hk5⟩; have HK5 := hide ((unhide HK4).trans hk5); clear hk5)
      have HT5 : Hid (Tre w0 w5 (w.heap.size + 1) [] (.slice none 0 0) (.slice none 0 0) (.slice none 0 0) 0 0 0 [] [] []) := ⟨Bag.nil, World.ownsRow_nil _ _ 29 1, World.ownsRow_nil _ _ 29 1, World.ownsRow_nil _ _ 29 1, Off.nil _ _ _, Off.nil _ _ _, Off.nil _ _ _, unhide HK5, by rw [unhide HSZ0]; omega, by have := (unhide HK5).size; have := unhide HSZ0; omega⟩
      clear HRP HRQ HST HK1 HK2 HK3 HK4 HK5 y2 y3 y4 HS0
      go_wp2_with fail
      go_loopw [11, 12, 13] (fun lv wv iv wr => ∃ (i : Nat) (R : List Rnd), iv = .int .i64 (i : Int) ∧ i ≤ 4 ∧ Hid (R.length = 2 * i) ∧ Hid (Tre w0 wr (w.heap.size + 1) (bagR R) lv wv (.slice none 0 0) (2 * R.length) (2 * R.length) 0 (lrow R) (wrow R) []) ∧ Hid (SmallR R)) (fun _ _ i _ => 4 - (intOf i).toNat)
      case atStart => exact ⟨0, [], rfl, by omega, rfl, HT5, (fun r hr => by cases hr)⟩
      case round =>
        clear HT5
        obtain ⟨i, R, rfl, hi, HRL, HTR, HSM⟩ := hrel
        obtain ⟨lo, lc, rfl⟩ := (rowAt_own (unhide HTR).l).form
        obtain ⟨xo, xc, rfl⟩ := (rowAt_own (unhide HTR).w_).form
        by_cases hlt : i < 4
        · have i1 : (i : Int) < 4 := by omega
          have i2 : (0 : Int) ≤ (i : Int) := by omega
          obtain ⟨zo, zn, zc, A, C, E, HZ, h8, HCL, HCM⟩ : ∃ zo zn zc A C E, Hid (i % 2 = 1 ∧ Value.slice zo zn zc = .slice bo q.len bcap ∨ i % 2 ≠ 1 ∧ Value.slice zo zn zc = .slice ao p.len cap) ∧ (A.length ≤ 8 ∧ C.length ≤ 8) ∧ Hid (∀ w', Keeps (fun _ => False) w0 w' → Calls Tryz.prog 7 #[.agg #[.slice so S.length sc], .slice zo zn zc] w' (FdP A C E w')) ∧ Hid (∀ w', Keeps (fun _ => False) w0 w' → Calls Tryz.prog 8 #[.agg #[.slice so S.length sc], .slice zo zn zc] w' (fun e w2 => ∃ rv wv, e = .returned (.tuple #[rv, wv, .int .i64 E]) ∧ NmAt w2 w'.heap.size rv A ∧ NmAt w2 w'.heap.size wv C ∧ Keeps (fun _ => False) w' w2)) := by
            by_cases h1 : i % 2 = 1
            · exact ⟨bo, q.len, bcap, A2, C2, E2, Or.inl ⟨h1, rfl⟩, (unhide HL8).2, HLQ, HMQ⟩
            · exact ⟨ao, p.len, cap, A1, C1, E1, Or.inr ⟨h1, rfl⟩, (unhide HL8).1, HLP, HMP⟩
          clear hlt
          go_upto_if 67 with fail
          go_cut [14] from 65 to 68 (fun x wx => x = .slice zo zn zc ∧ wx = wr)
          case first =>
            go_wp2_with fail
            all_goals go_meet
            · rename_i h1
              simp only [beq_iff_eq] at h1
              rcases unhide HZ with ⟨h2, h3⟩ | ⟨h2, h3⟩
              · exact ⟨h3.symm, rfl⟩
              · exfalso
                omega
            · rename_i h1
              simp only [beq_eq_false_iff_ne, ne_eq] at h1
              rcases unhide HZ with ⟨h2, h3⟩ | ⟨h2, h3⟩
              · exfalso
                omega
              · exact ⟨h3.symm, rfl⟩
          case rest =>
            obtain ⟨rfl, rfl⟩ := hcut
            rename World => wr
            have h1000A : A.length ≤ 1000 := by omega
            have h1000C : C.length ≤ 1000 := by omega
            have s16 := unhide HSB _ (unhide HTR).k
            have HC7 := hide (unhide HCL wr (unhide HTR).k)
            clear HZ
            go_upto_region 17 with (go_at_call 7; refine (unhide HC7).mono ?_; rintro e w6 ⟨av, cv, rfl, ha6, hc6, hap, hk6⟩; have HA6 := hide ha6; have HC6 := hide hc6; have HAP := hide hap; have HK6 := hide hk6; clear ha6 hc6 hap hk6)
            have HT6 := hide ((unhide HTR).new2 (unhide HK6) (unhide HA6) (unhide HC6) (unhide HAP))
            obtain ⟨a_o, a_c, rfl⟩ := (rowAt_own (unhide HA6)).form
            obtain ⟨c_o, c_c, rfl⟩ := (rowAt_own (unhide HC6)).form
            have s17 := unhide HSB _ (unhide HT6).k
            have HC8 := hide (unhide HCM w6 (unhide HT6).k)
            clear HC7 HTR s16 HK6 HAP
            go_upto_region 18 with (go_at_call 8; refine (unhide HC8).mono ?_; rintro e w7 ⟨xv, yv, rfl, hx7, hy7, hk7⟩; have HX7 := hide (rowAt_own hx7); have HY7 := hide (rowAt_own hy7); have HK7 := hide hk7; clear hx7 hy7 hk7)
            have HT7 := hide ((unhide HT6).keep (unhide HK7))
            have HA7 := hide (RowAt.keepF (rowAt_own (unhide HA6)) (unhide HK7))
            have HC7 := hide (RowAt.keepF (rowAt_own (unhide HC6)) (unhide HK7))
            clear HC8 HT6 s17 HK7 HA6 HC6
            go_upto_region 19 with (go_at_call 9; refine (eqNames_v A A h1000A h1000A _ _ w7 (unhide HA7) (unhide HX7)).mono ?_; rintro e w8 ⟨rfl, hk8⟩; rw [decide_eq_true rfl]; have HT8 := hide ((unhide HT7).keep hk8); have HC8 := hide (RowAt.keepF (unhide HC7) hk8); have HY8 := hide (RowAt.keepF (unhide HY7) hk8); clear hk8)
            clear HT7 HA7 HX7 HC7 HY7
            go_upto_region 20 with (go_at_call 9; refine (eqNames_v C C h1000C h1000C _ _ w8 (unhide HC8) (unhide HY8)).mono ?_; rintro e w9 ⟨rfl, hk9⟩; rw [decide_eq_true rfl]; have HT9 := hide ((unhide HT8).keep hk9); clear hk9)
            clear HT8 HC8 HY8
            go_upto_region 23 with fail
            obtain ⟨VR, hVR, HTX⟩ : ∃ VR : List Value, VR = [Value.slice a_o A.length a_c, .slice c_o C.length c_c] ∧ Hid (Tre w0 (w9.alloc (.cells #[.slice a_o A.length a_c, .slice c_o C.length c_c] 29)) (w.heap.size + 1) (lone1 (.slice a_o A.length a_c) A :: lone1 (.slice c_o C.length c_c) C :: bagR R) (.slice lo (2 * R.length) lc) (.slice xo (2 * R.length) xc) (.slice (some ⟨w9.heap.size, 0, none⟩) 2 2) (2 * R.length) (2 * R.length) 2 (lrow R) (wrow R) VR) := ⟨_, rfl, (unhide HT9).setS ((Keeps.refl _ w9).alloc _) (lit2_own w9 (.slice a_o A.length a_c) (.slice c_o C.length c_c))⟩
            have HVR0 := hide (show (([] ++ [lone1 (.slice a_o A.length a_c) A, lone1 (.slice c_o C.length c_c) C]).map Itm.vx = VR) by rw [hVR]; rfl)
            have HPL0 : Hid (Plain1 [lone1 (.slice a_o A.length a_c) A, lone1 (.slice c_o C.length c_c) C]) := by
              intro p hp
              simp only [List.mem_cons, List.not_mem_nil, or_false] at hp
              rcases hp with rfl | rfl
              · exact ⟨rfl, rfl, h8.1⟩
              · exact ⟨rfl, rfl, h8.2⟩
            have HVL := hide (show VR.length = 2 by rw [hVR]; rfl)
            obtain ⟨g9, hg9⟩ : ∃ g, g = w9.heap.size := ⟨_, rfl⟩
            clear HT9 h1000A h1000C h8 hVR HCL HCM
            go_wp2_with fail
            go_loopw [11, 12, 24] (fun lv wv kv wr => ∃ (D T : List Itm) (R' : List Rnd), kv = .int .i64 (D.length : Int) ∧ D.length + T.length = 2 ∧ Hid ((D ++ T).map Itm.vx = VR) ∧ Hid (Plain1 T) ∧ Hid (R'.length = 2 * i + D.length) ∧ Hid (SmallR R') ∧ Hid (Tre w0 wr (w.heap.size + 1) (T ++ bagR R') lv wv (.slice (some ⟨w9.heap.size, 0, none⟩) 2 2) (2 * R'.length) (2 * R'.length) 2 (lrow R') (wrow R') VR)) (fun _ _ i _ => 2 - (intOf i).toNat)
            case atStart => exact ⟨[], [lone1 (.slice a_o A.length a_c) A, lone1 (.slice c_o C.length c_c) C], R, rfl, rfl, HVR0, HPL0, by have := unhide HRL; show _ = _; simpa using this, HSM, HTX⟩
            case round =>
              clear HVR0 HPL0 HTX HSM HRL
              obtain ⟨D, T, R', rfl, hDT, HV, HPL, HRL, HSM, HTR⟩ := hrel
              obtain ⟨lo, lc, rfl⟩ := (rowAt_own (unhide HTR).l).form
              obtain ⟨xo, xc, rfl⟩ := (rowAt_own (unhide HTR).w_).form
              cases T with
              | nil =>
                simp only [List.length_nil, Nat.add_zero] at hDT
                have hD2 : (D.length : Int) = 2 := by omega
                have i3 : ¬ (D.length : Int) < 2 := by omega
                have HTD : Hid (Tre w0 wr (w.heap.size + 1) (bagR R') (.slice lo (2 * R'.length) lc) (.slice xo (2 * R'.length) xc) (.slice none 0 0) (2 * R'.length) (2 * R'.length) 0 (lrow R') (wrow R') []) := (unhide HTR).dropS
                have hR2 : R'.length = 2 * i + D.length := unhide HRL
                have hR3 : 0 < 2 * R'.length := by omega
                have hR8 : R'.length ≤ 8 := by omega
                obtain ⟨lg, rfl, hlc⟩ := own_some (unhide HTD).l hR3
                obtain ⟨xg, rfl, hxc⟩ := own_some (unhide HTD).w_ hR3
                have HRN : Hid (R'.length = 2 * (i + 1)) := by show _ = _; omega
                have HLC := hide (fun (k : Nat) (hk2 : k < 2 * R'.length) => (unhide HTD).l.cellAt k (by omega))
                have HXC := hide (fun (k : Nat) (hk2 : k < 2 * R'.length) => (unhide HTD).w_.cellAt k (by omega))
                have hlg := own_lt (unhide HTD).l (k := lg) rfl
                have hxg := own_lt (unhide HTD).w_ (k := xg) rfl
                obtain ⟨nR, hnR⟩ : ∃ nR, nR = 2 * R'.length := ⟨_, rfl⟩
                rw [← hnR] at HTD HLC HXC hR3 ⊢
                have HNR := hide hnR
                have hn16 : nR ≤ 16 := by omega
                rename World => w0_
                clear HTR hR2 hnR hD2 hDT hR8 HRL
                go_wp2_with fail
                go_loopw [32] (fun kv wq => ∃ k : Nat, kv = .int .i64 (k : Int) ∧ k ≤ nR ∧ Hid (Keeps (fun _ => False) w0_ wq)) (fun i _ => nR - (intOf i).toNat)
                case atStart => exact ⟨0, rfl, by omega, Keeps.refl _ _⟩
                case round =>
                  obtain ⟨k, rfl, hk, HKQ⟩ := hrel
                  by_cases hlt : k < nR
                  · have i5 : (k : Int) < (nR : Int) := by omega
                    have i6 : (0 : Int) ≤ (k : Int) := by omega
                    obtain ⟨av, bv, TX, h1, h2, h3, h4, h5⟩ := rows_at R' k (unhide HTD).bag.all (unhide HSM) (by have := unhide HNR; omega)
                    obtain ⟨av_o, av_c, rfl⟩ := (rowAt_own h3).form
                    obtain ⟨bv_o, bv_c, rfl⟩ := (rowAt_own h4).form
                    have l0 := ((unhide HKQ).cell hlg id).trans ((unhide HLC k (by have := unhide HNR; omega)).trans h1)
                    have x0 := ((unhide HKQ).cell hxg id).trans ((unhide HXC k (by have := unhide HNR; omega)).trans h2)
                    have HCE := hide (fun (W : World) (hk : Keeps (fun _ => False) w0_ W) => eqNames_v TX TX (by omega) (by omega) _ _ W (RowAt.keepF (rowAt_own h3) hk) (RowAt.keepF (rowAt_own h4) hk))
                    clear h1 h2 h3 h4 hlt
                    go_upto_region 50 with fail
                    go_region_with (go_at_call 9; refine (unhide HCE _ ((unhide HKQ).drew)).mono ?_; rintro e w9b ⟨rfl, hk9⟩; rw [decide_eq_true rfl]; have HK9 := hide ((unhide HKQ).drew.trans hk9); clear hk9)
                    all_goals (go_wp2_with fail; go_roundw; (case rel => exact ⟨k + 1, by go_num, by omega, HK9⟩); (case measure => simp [intOf]; omega))
                  · obtain rfl : k = nR := by omega
                    have i5 : ¬ (k : Int) < (k : Int) := by omega
                    have HTE := hide ((unhide HTD).keep (unhide HKQ))
                    rw [unhide HNR] at HTE ⊢
                    clear HTD HKQ HLC HXC hlt
                    go_wp2_with fail
                    go_roundw
                    case rel => exact ⟨i + 1, R', by go_num, by omega, HRN, HTE, HSM⟩
                    case measure => simp [intOf]; omega
              | cons p T =>
                simp only [List.length_cons] at hDT
                have i3 : (D.length : Int) < 2 := by omega
                have i4 : (0 : Int) ≤ (D.length : Int) := by omega
                obtain ⟨hq1, hq2, hq3⟩ := unhide HPL p (by simp)
                obtain ⟨vo, vc, n, X, rfl, hXn⟩ := plain_form ((unhide HTR).bag.all _ (List.mem_append_left _ (List.mem_cons_self ..))) hq1 hq2
                have hn8 : n ≤ 8 := by rw [← hXn]; exact hq3
                have HXN := hide hXn
                have hVk : VR[D.length]? = some (.slice vo n vc) := by rw [← unhide HV]; simp [lone1]
                have HVK := hide hVk
                have HSC := hide (fun (W : World) (M : List Itm) (lv wv : Value) (nl nw : Nat) (LR WR : List Value) (h : Tre w0 W (w.heap.size + 1) M lv wv (.slice (some ⟨w9.heap.size, 0, none⟩) 2 2) nl nw 2 LR WR VR) => (h.s.cellAt D.length (by omega)).trans (unhide HVK))
                obtain ⟨a8, ha8⟩ : ∃ c : UInt8, (48 + (i : Int)) = num c := ⟨_, ofNat_num (by omega)⟩
                obtain ⟨b8, hb8⟩ : ∃ c : UInt8, (48 + (D.length : Int)) = num c := ⟨_, ofNat_num (by omega)⟩
                have hcv := conv2g (wr.alloc (.cells #[.int .u8 (48 + (i : Int)), .int .u8 (48 + (D.length : Int))] 5)) wr.heap.size a8 b8 _ _ ha8 hb8 (heap_alloc_new wr _)
                have hR4 : R'.length ≤ 8 := by have := unhide HRL; omega
                clear ha8 hb8 hq1 hq2 hq3 hXn hVk
                go_upto_region 27 with fail
                obtain ⟨wa, hwa⟩ : ∃ W, W = wr.alloc (.cells #[.int .u8 (48 + (i : Int)), .int .u8 (48 + (D.length : Int))] 5) := ⟨_, rfl⟩
                have HTA : Hid (Tre w0 wa (w.heap.size + 1) (lone1 (.slice vo n vc) X :: lone1 (.slice none 0 0) (List.replicate 0 [a8, b8]) :: (T ++ bagR R')) (.slice lo (2 * R'.length) lc) (.slice xo (2 * R'.length) xc) (.slice (some ⟨w9.heap.size, 0, none⟩) 2 2) (2 * R'.length) (2 * R'.length) 2 (lrow R') (wrow R') VR) := by
                  rw [hwa]
                  exact ((unhide HTR).keep ((Keeps.refl _ wr).alloc _)).nilItm.perm (List.Perm.swap _ _ _)
                rw [← hwa]
                clear hcv hwa HTR
                go_wp2_with fail
                go_loopw [26, 27] (fun vv jv wr => ∃ (j : Nat) (X' : List Txt) (v1o : Option Addr) (v1c : Nat), jv = .int .i64 (j : Int) ∧ j ≤ n ∧ vv = .slice v1o j v1c ∧ Hid (X' = overL X [a8, b8] j) ∧ Hid (Tre w0 wr (w.heap.size + 1) (lone1 (.slice vo n vc) X' :: lone1 (.slice v1o j v1c) (List.replicate j [a8, b8]) :: (T ++ bagR R')) (.slice lo (2 * R'.length) lc) (.slice xo (2 * R'.length) xc) (.slice (some ⟨w9.heap.size, 0, none⟩) 2 2) (2 * R'.length) (2 * R'.length) 2 (lrow R') (wrow R') VR)) (fun _ i _ => n - (intOf i).toNat)
                case atStart => exact ⟨0, X, none, 0, rfl, by omega, rfl, (overL_zero _ _).symm, HTA⟩
                case round =>
                  clear HTA
                  obtain ⟨j, X', v1o, v1c, rfl, hj, rfl, HX', HTR⟩ := hrel
                  have v0 := unhide HSC _ _ _ _ _ _ _ _ (unhide HTR)
                  by_cases hlt : j < n
                  · have i5 : (j : Int) < (n : Int) := by omega
                    have i6 : (0 : Int) ≤ (j : Int) := by omega
                    have hX'n : X'.length = n := by rw [unhide HX', overL_len (by rw [unhide HXN]; exact hj), unhide HXN]
                    have hat := (unhide HTR).row1 hX'n
                    obtain ⟨vg, rfl, hvc⟩ := own_some hat (by omega)
                    obtain ⟨d0, c0⟩ : ∃ d, wr.cell? ⟨vg, j, none⟩ = some d := ⟨_, (hat.cellAt j (by omega)).trans (List.getElem?_eq_getElem (by rw [nmC_len]; omega))⟩
                    have f0 := hat.frozenAt j
                    have hov := overL_set (l := X) (c := [a8, b8]) (k := j) (by rw [unhide HXN]; omega)
                    have HTs := hide (((unhide HTR).set (j := j) (m := [a8, b8])).keep ((Keeps.refl _ _).alloc (.cells #[.string ⟨#[a8, b8]⟩] 9)))
                    rw [unhide HX', hov] at HTs
                    have HTv := hide ((unhide HTs).perm (List.Perm.swap _ _ _))
                    have hrl : (List.replicate j [a8, b8]).length = j := by simp
                    have HRL2 := hide hrl
                    have HRM := hide ((unhide HTv).row1 hrl)
                    have HBS := hide (unhide HTv).b2
                    have HC0 : Hid (((wr.setCell ⟨vg, j, none⟩ (.string ⟨#[a8, b8]⟩)).alloc (.cells #[.string ⟨#[a8, b8]⟩] 9)).cell? ⟨wr.heap.size, 0, none⟩ = some (str [a8, b8])) := by
                      have := cell_of_blk (heap_alloc_new (wr.setCell ⟨vg, j, none⟩ (.string ⟨#[a8, b8]⟩)) (.cells #[.string ⟨#[a8, b8]⟩] 9)) 0
                      show _ = _
                      simpa using this
                    have hl4 : j + 1 ≤ 4398046511104 := by omega
                    clear hat hX'n hov hrl HX' HTs HTR hlt
                    go_wp2_with (at_builtin; refine append_txt rfl _ _ rfl (w.heap.size + 1) _ j _ rfl (unhide HRM) wr.heap.size 1 [a8, b8] rfl (unhide HC0) hl4 (unhide HBS) ?_)
                    intro g5 cap5 w5 hg5
                    have HTn := hide (((unhide HTv).growSelf (unhide HRL2) hg5).perm (List.Perm.swap _ _ _))
                    rw [← List.replicate_succ'] at HTn
                    clear hg5 HTv HRM HBS HC0 HRL2 c0 f0 v0
                    go_wp2_with fail
                    go_roundw
                    case rel => exact ⟨j + 1, _, _, _, by go_num, by omega, rfl, rfl, HTn⟩
                    case measure => simp [intOf]; omega
                  · obtain rfl : j = n := by omega
                    have i5 : ¬ (j : Int) < (j : Int) := by omega
                    have hXe : X' = List.replicate j [a8, b8] := by
                      have := unhide HX'
                      rw [show j = X.length from (unhide HXN).symm, overL_end] at this
                      rw [this, unhide HXN]
                    rw [hXe] at HTR
                    have HTG := hide ((unhide HTR).asGrow [a8, b8])
                    clear HX' hXe HXN hlt
                    go_wp2_with fail
                    go_loopw [28, 29] (fun gv kv wr => ∃ (k : Nat) (go : Option Addr) (gc : Nat), kv = .int .i64 (k : Int) ∧ k ≤ 64 ∧ gv = .slice go (j + k) gc ∧ Hid (Tre w0 wr (w.heap.size + 1) (⟨.slice vo j vc, List.replicate j [a8, b8], .slice go (j + k) gc, List.replicate k [a8, b8]⟩ :: lone1 (.slice v1o j v1c) (List.replicate j [a8, b8]) :: (T ++ bagR R')) (.slice lo (2 * R'.length) lc) (.slice xo (2 * R'.length) xc) (.slice (some ⟨w9.heap.size, 0, none⟩) 2 2) (2 * R'.length) (2 * R'.length) 2 (lrow R') (wrow R') VR)) (fun _ i _ => 64 - (intOf i).toNat)
                    case atStart => exact ⟨0, vo, vc, rfl, by omega, rfl, HTG⟩
                    case round =>
                      clear HTG HTR v0
                      obtain ⟨k, go, gc, rfl, hk, rfl, HTR⟩ := hrel
                      by_cases hlt : k < 64
                      · have i7 : (k : Int) < 64 := by omega
                        have HTv := hide ((unhide HTR).keep ((Keeps.refl _ _).alloc (.cells #[.string ⟨#[a8, b8]⟩] 9)))
                        have hrl : (List.replicate j [a8, b8] ++ List.replicate k [a8, b8]).length = j + k := by simp
                        have HRL2 := hide hrl
                        have HRM := hide ((unhide HTv).rowM hrl)
                        have HBS := hide (unhide HTv).b2
                        have HC0 : Hid ((wr.alloc (.cells #[.string ⟨#[a8, b8]⟩] 9)).cell? ⟨wr.heap.size, 0, none⟩ = some (str [a8, b8])) := by
                          have := cell_of_blk (heap_alloc_new wr (.cells #[.string ⟨#[a8, b8]⟩] 9)) 0
                          exact this
                        have hl4 : j + k + 1 ≤ 4398046511104 := by omega
                        clear hrl HTR hlt
                        go_wp2_with (at_builtin; refine append_txt rfl _ _ rfl (w.heap.size + 1) _ (j + k) _ rfl (unhide HRM) wr.heap.size 1 [a8, b8] rfl (unhide HC0) hl4 (unhide HBS) ?_)
                        intro g5 cap5 w5 hg5
                        rw [show List.replicate (j + k) [a8, b8] = List.replicate j [a8, b8] ++ List.replicate k [a8, b8] from List.replicate_append_replicate.symm] at hg5
                        have HTn := hide ((unhide HTv).grow (unhide HRL2) hg5)
                        rw [← List.replicate_succ'] at HTn
                        clear hg5 HTv HRM HBS HC0 HRL2
                        go_wp2_with fail
                        go_roundw
                        case rel => exact ⟨k + 1, _, _, by go_num, by omega, rfl, HTn⟩
                        case measure => simp [intOf]; omega
                      · obtain rfl : k = 64 := by omega
                        have i7 : ¬ ((64 : Nat) : Int) < 64 := by omega
                        have v0 := unhide HSC _ _ _ _ _ _ _ _ (unhide HTR)
                        clear hlt
                        have HTv := hide ((unhide HTR).keep ((Keeps.refl _ _).alloc (.cells #[.slice vo j vc] 29)))
                        have HRM := hide (unhide HTv).l
                        have HBS := hide (unhide HTv).b2
                        have HC0 := hide (show ∀ jj u, [.slice vo j vc][jj]? = some u → (wr.alloc (.cells #[.slice vo j vc] 29)).cell? ⟨wr.heap.size, jj, none⟩ = some u from fun jj u hj => by rw [cell_of_blk (heap_alloc_new wr (.cells #[.slice vo j vc] 29)) jj]; simpa using hj)
                        have h1000 : 2 * R'.length + 1 ≤ 1000 := by omega
                        clear HTR
                        go_wp2_with (at_builtin; refine append_lists rfl _ _ rfl (w.heap.size + 1) _ (2 * R'.length) _ rfl (unhide HRM) wr.heap.size 1 1 _ rfl rfl (unhide HC0) (one_sl _ _ _) Nat.zero_lt_one h1000 (unhide HBS) ?_)
                        intro g38 cap38 w38 hg38
                        have HT38 := hide ((unhide HTv).growL hg38)
                        clear hg38 HTv HRM HBS HC0 h1000
                        have HTv := hide ((unhide HT38).keep ((Keeps.refl _ _).alloc (.cells #[.slice v1o j v1c] 29)))
                        have HRM := hide (unhide HTv).w_
                        have HBS := hide (unhide HTv).b2
                        have HC0 := hide (show ∀ jj u, [.slice v1o j v1c][jj]? = some u → (w38.alloc (.cells #[.slice v1o j v1c] 29)).cell? ⟨w38.heap.size, jj, none⟩ = some u from fun jj u hj => by rw [cell_of_blk (heap_alloc_new w38 (.cells #[.slice v1o j v1c] 29)) jj]; simpa using hj)
                        have h1000 : 2 * R'.length + 1 ≤ 1000 := by omega
                        clear HT38
                        go_wp2_with (at_builtin; refine append_lists rfl _ _ rfl (w.heap.size + 1) _ (2 * R'.length) _ rfl (unhide HRM) w38.heap.size 1 1 _ rfl rfl (unhide HC0) (one_sl _ _ _) Nat.zero_lt_one h1000 (unhide HBS) ?_)
                        intro g39 cap39 w39 hg39
                        have HT39 := hide ((unhide HTv).growW hg39)
                        clear hg39 HTv HRM HBS HC0 h1000
                        have HT40 := hide ((unhide HT39).nilItm)
                        clear HT39 v0
                        go_wp2_with fail
                        go_loopw [30, 31] (fun uv kv wr => ∃ (k : Nat) (uo : Option Addr) (uc : Nat), kv = .int .i64 (k : Int) ∧ k ≤ j + 64 ∧ uv = .slice uo k uc ∧ Hid (Tre w0 wr (w.heap.size + 1) (lone1 (.slice uo k uc) (List.replicate k [a8, b8]) :: (⟨.slice vo j vc, List.replicate j [a8, b8], .slice go (j + 64) gc, List.replicate 64 [a8, b8]⟩ : Itm) :: lone1 (.slice v1o j v1c) (List.replicate j [a8, b8]) :: (T ++ bagR R')) (.slice (some ⟨g38, 0, none⟩) (2 * R'.length + 1) cap38) (.slice (some ⟨g39, 0, none⟩) (2 * R'.length + 1) cap39) (.slice (some ⟨w9.heap.size, 0, none⟩) 2 2) (2 * R'.length + 1) (2 * R'.length + 1) 2 (lrow R' ++ [.slice vo j vc]) (wrow R' ++ [.slice v1o j v1c]) VR)) (fun _ i _ => j + 64 - (intOf i).toNat)
                        case atStart => exact ⟨0, none, 0, rfl, by omega, rfl, HT40⟩
                        case round =>
                          clear HT40
                          obtain ⟨k, uo, uc, rfl, hk, rfl, HTR⟩ := hrel
                          by_cases hlt : k < j + 64
                          · have i8 : (k : Int) < (j : Int) + 64 := by omega
                            have HTv := hide ((unhide HTR).keep ((Keeps.refl _ _).alloc (.cells #[.string ⟨#[a8, b8]⟩] 9)))
                            have hrl : (List.replicate k [a8, b8]).length = k := by simp
                            have HRL2 := hide hrl
                            have HRM := hide ((unhide HTv).row1 hrl)
                            have HBS := hide (unhide HTv).b2
                            have HC0 : Hid ((wr.alloc (.cells #[.string ⟨#[a8, b8]⟩] 9)).cell? ⟨wr.heap.size, 0, none⟩ = some (str [a8, b8])) := by
                              have := cell_of_blk (heap_alloc_new wr (.cells #[.string ⟨#[a8, b8]⟩] 9)) 0
                              exact this
                            have hl4 : k + 1 ≤ 4398046511104 := by omega
                            clear hrl HTR hlt
                            go_wp2_with (at_builtin; refine append_txt rfl _ _ rfl (w.heap.size + 1) _ k _ rfl (unhide HRM) wr.heap.size 1 [a8, b8] rfl (unhide HC0) hl4 (unhide HBS) ?_)
                            intro g5 cap5 w5 hg5
                            have HTn := hide ((unhide HTv).growSelf (unhide HRL2) hg5)
                            rw [← List.replicate_succ'] at HTn
                            clear hg5 HTv HRM HBS HC0 HRL2
                            go_wp2_with fail
                            go_roundw
                            case rel => exact ⟨k + 1, _, _, by go_num, by omega, rfl, HTn⟩
                            case measure => simp [intOf]; omega
                          · obtain rfl : k = j + 64 := by omega
                            have i8 : ¬ ((j + 64 : Nat) : Int) < (j : Int) + 64 := by omega
                            clear hlt
                            have HTv := hide ((unhide HTR).keep ((Keeps.refl _ _).alloc (.cells #[.slice go (j + 64) gc] 29)))
                            have HRM := hide (unhide HTv).l
                            have HBS := hide (unhide HTv).b2
                            have HC0 := hide (show ∀ jj u, [.slice go (j + 64) gc][jj]? = some u → (wr.alloc (.cells #[.slice go (j + 64) gc] 29)).cell? ⟨wr.heap.size, jj, none⟩ = some u from fun jj u hj => by rw [cell_of_blk (heap_alloc_new wr (.cells #[.slice go (j + 64) gc] 29)) jj]; simpa using hj)
                            have h1000 : 2 * R'.length + 1 + 1 ≤ 1000 := by omega
                            clear HTR
                            go_wp2_with (at_builtin; refine append_lists rfl _ _ rfl (w.heap.size + 1) _ (2 * R'.length + 1) _ rfl (unhide HRM) wr.heap.size 1 1 _ rfl rfl (unhide HC0) (one_sl _ _ _) Nat.zero_lt_one h1000 (unhide HBS) ?_)
                            intro g45 cap45 w45 hg45
                            have HT45 := hide ((unhide HTv).growL hg45)
                            clear hg45 HTv HRM HBS HC0 h1000
                            have HTv := hide ((unhide HT45).keep ((Keeps.refl _ _).alloc (.cells #[.slice uo (j + 64) uc] 29)))
                            have HRM := hide (unhide HTv).w_
                            have HBS := hide (unhide HTv).b2
                            have HC0 := hide (show ∀ jj u, [.slice uo (j + 64) uc][jj]? = some u → (w45.alloc (.cells #[.slice uo (j + 64) uc] 29)).cell? ⟨w45.heap.size, jj, none⟩ = some u from fun jj u hj => by rw [cell_of_blk (heap_alloc_new w45 (.cells #[.slice uo (j + 64) uc] 29)) jj]; simpa using hj)
                            have h1000 : 2 * R'.length + 1 + 1 ≤ 1000 := by omega
                            clear HT45
                            go_wp2_with (at_builtin; refine append_lists rfl _ _ rfl (w.heap.size + 1) _ (2 * R'.length + 1) _ rfl (unhide HRM) w45.heap.size 1 1 _ rfl rfl (unhide HC0) (one_sl _ _ _) Nat.zero_lt_one h1000 (unhide HBS) ?_)
                            intro g46 cap46 w46 hg46
                            have HT46 := hide ((unhide HTv).growW hg46)
                            clear hg46 HTv HRM HBS HC0 h1000
                            have hrnd : (List.replicate j [a8, b8]).length ≤ 8 ∧ (List.replicate 64 [a8, b8]).length = 64 := by simp; omega
                            obtain ⟨r, hr⟩ : ∃ r : Rnd, r = ⟨.slice vo j vc, .slice go (j + 64) gc, .slice v1o j v1c, .slice uo (j + 64) uc, List.replicate j [a8, b8], List.replicate 64 [a8, b8]⟩ := ⟨_, rfl⟩
                            have HTz : Hid (Tre w0 w46 (w.heap.size + 1) (T ++ bagR (R' ++ [r])) (.slice (some ⟨g45, 0, none⟩) (2 * R'.length + 1 + 1) cap45) (.slice (some ⟨g46, 0, none⟩) (2 * R'.length + 1 + 1) cap46) (.slice (some ⟨w9.heap.size, 0, none⟩) 2 2) (2 * (R' ++ [r]).length) (2 * (R' ++ [r]).length) 2 (lrow (R' ++ [r])) (wrow (R' ++ [r])) VR) := by
                              have e1 : 2 * (R' ++ [r]).length = 2 * R'.length + 1 + 1 := by rw [List.length_append]; simp; omega
                              have e2 : lrow (R' ++ [r]) = lrow R' ++ [.slice vo j vc] ++ [.slice go (j + 64) gc] := by rw [lrow_app, hr]; simp [lrow]
                              have e3 : wrow (R' ++ [r]) = wrow R' ++ [.slice v1o j v1c] ++ [.slice uo (j + 64) uc] := by rw [wrow_app, hr]; simp [wrow]
                              rw [e1, e2, e3]
                              refine (unhide HT46).perm ?_
                              rw [bagR_app, hr]
                              have e4 : List.replicate j [a8, b8] ++ List.replicate 64 [a8, b8] = List.replicate (j + 64) [a8, b8] := by rw [List.replicate_append_replicate]
                              simp only [bagR]
                              rw [e4, ← List.append_assoc]
                              refine (List.perm_append_comm (l₁ := [_, _, _])).trans (List.Perm.append_left _ ?_)
                              exact List.perm_append_comm (l₁ := [_]) (l₂ := [_, _])
                            have HLEN := hide (show (R' ++ [r]).length = 2 * i + (D.length + 1) by rw [List.length_append, unhide HRL]; rfl)
                            have HSMz : Hid (SmallR (R' ++ [r])) := by
                              intro x hx
                              rcases List.mem_append.1 hx with hx | hx
                              · exact unhide HSM x hx
                              · obtain rfl := List.mem_singleton.1 hx
                                rw [hr]
                                exact hrnd
                            have HPz : Hid (Plain1 T) := fun p hp => unhide HPL p (List.mem_cons_of_mem _ hp)
                            have HVz : Hid (((D ++ [lone1 (.slice vo j vc) X]) ++ T).map Itm.vx = VR) := by
                              have := unhide HV
                              show _ = _
                              simpa [lone1] using this
                            have he12 : 2 * R'.length + 1 + 1 = 2 * (R' ++ [r]).length := by rw [List.length_append]; simp; omega
                            rw [he12] at HTz ⊢
                            clear HT46 HRL HSM HPL HV hrnd hr he12
                            go_wp2_with fail
                            go_roundw
                            case rel => exact ⟨D ++ [lone1 (.slice vo j vc) X], T, R' ++ [r], by simp, by first | omega | (simp; done) | (simp; omega), HVz, HPz, by simpa using HLEN, HSMz, HTz⟩
                            case measure => simp [intOf]; omega
        · obtain rfl : i = 4 := by omega
          have i1 : ¬ ((4 : Nat) : Int) < 4 := by omega
          have s53 := unhide HSB _ (unhide HTR).k
          have HCS := hide (strewn_v S.length sc p.len cap q.len bcap so ao bo A1 C1 A2 C2 E1 E2 wr (unhide HL8).1.1 (unhide HL8).1.2 (unhide HL8).2.1 (unhide HL8).2.2 (fun w' hk => unhide HLP w' ((unhide HTR).k.trans hk)) (fun w' hk => unhide HLQ w' ((unhide HTR).k.trans hk)))
          have HKX := hide ((unhide HKB).trans (unhide HTR).k)
          clear HTR hlt
          go_wp2_with (go_at_call 10; refine (unhide HCS).mono ?_; rintro e w53 ⟨rfl, hk53⟩; have HKY := hide ((unhide HKX).trans hk53); clear hk53)
          go_ret
          exact ⟨rfl, unhide HKY⟩
end Go.Proofs.YtoempeobaknkcaaGreatDoor
