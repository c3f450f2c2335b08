import Derived.Test.YtgdabnkjipcbhaaGreatDoorQ8
namespace Go.Proofs.YtgdabnkjipcbhaaGreatDoor
open Go.RowKit Go.Maps

theorem keeps_of_below {N : Nat} {w w' : World} (h : Below N w w') : Keeps (fun k => N ≤ k) w w' := ⟨h.os, h.tape, h.output, h.size, fun k _ hF => h.block k (by omega)⟩
/-- What Print holds on to. -/
structure QEnv (N qb vb : Nat) (k l : Int) (d : Bool) (W O B : EL) (wv ov bv : Value) (w : World) : Prop where
  q0 : w.cell? ⟨qb, 0, none⟩ = some wv
  q2 : w.cell? ⟨qb, 2, none⟩ = some ov
  q3 : w.cell? ⟨qb, 3, none⟩ = some bv
  q4 : w.cell? ⟨qb, 4, none⟩ = some (.bool d)
  q5 : w.cell? ⟨qb, 5, none⟩ = some (.int .i64 l)
  v0 : w.cell? ⟨vb, 0, none⟩ = some (.int .i64 k)
  v2 : w.cell? ⟨vb, 2, none⟩ = some (str (verbT k))
  lq : qb < N
  lv : vb < N
  sz : N ≤ w.heap.size
  pow : ∀ W', Below N w W' → Pow W'
  forms : ∀ W', Below N w W' → Forms W'
  sw : SlE (belZ N) w 0 wv W
  so : SlE (belZ N) w 0 ov O
  sb : SlE (belZ N) w 0 bv B
section
variable {N qb vb : Nat} {k l : Int} {d : Bool} {W O B : EL} {wv ov bv : Value} {w w' : World}
theorem QEnv.below (h : QEnv N qb vb k l d W O B wv ov bv w) (hb : Below N w w') : QEnv N qb vb k l d W O B wv ov bv w' := by
  have hk := keeps_of_below hb
  have hq : ∀ o, w'.cell? ⟨qb, o, none⟩ = w.cell? ⟨qb, o, none⟩ := fun o => hk.cell (Nat.lt_of_lt_of_le h.lq h.sz) (by have := h.lq; omega)
  have hv : ∀ o, w'.cell? ⟨vb, o, none⟩ = w.cell? ⟨vb, o, none⟩ := fun o => hk.cell (Nat.lt_of_lt_of_le h.lv h.sz) (by have := h.lv; omega)
  have hs : ∀ {v : Value} {l : EL}, SlE (belZ N) w 0 v l → SlE (belZ N) w' 0 v l := fun hx => hx.inKeep hk (fun q _ (hq : q < N) => by omega)
  exact ⟨(hq 0).trans h.q0, (hq 2).trans h.q2, (hq 3).trans h.q3, (hq 4).trans h.q4, (hq 5).trans h.q5, (hv 0).trans h.v0, (hv 2).trans h.v2, h.lq, h.lv, Nat.le_trans h.sz hb.size, fun W' h' => h.pow W' (hb.trans h'), fun W' h' => h.forms W' (hb.trans h'), hs h.sw, hs h.so, hs h.sb⟩
theorem QEnv.powN (h : QEnv N qb vb k l d W O B wv ov bv w) : Pow w := h.pow w (Below.refl _ _)
theorem QEnv.formsN (h : QEnv N qb vb k l d W O B wv ov bv w) : Forms w := h.forms w (Below.refl _ _)
end

theorem printE_len (op n : Int) (s : Txt) (k : EL) (h : okE (.cons op n s k .nil)) : (printE op n s k).length ≤ 700000000000 := by
  unfold printE
  split
  · rename_i hc
    have h1 := tl_le _ (check_wellE _ hc) h.2
    have h2 := sum_tl (.cons op n s k .nil)
    have h3 : ((txs (.cons op n s k .nil)).map fun q => q.2.2.length + 2).sum = (textE op n s k).length + 2 := by simp [txs, textE]
    have h4 := h.1
    omega
  · simp
theorem ahd_le (A : List Txt) (l : EL) (hl : l.len ≤ 1) (h : okE l) (hA : ∀ x ∈ A, x.length ≤ 700000000000) : ∀ x ∈ ahd A l, x.length ≤ 700000000000 := by
  cases l with
  | nil => intro x hx; simp [ahd] at hx
  | cons op n s k rest =>
    cases rest with
    | nil =>
      intro x hx
      rcases List.mem_append.1 hx with hx | hx
      · exact hA x hx
      · obtain rfl : x = printE op n s k := by simpa using hx
        exact printE_len op n s k h
    | cons op' n' s' k' rest' => simp [EL.len] at hl
theorem verbT_le (k : Int) : (verbT k).length ≤ 700000000000 := by
  unfold verbT
  repeat' split
  all_goals simp

set_option maxRecDepth 100000 in
set_option maxHeartbeats 8000000 in
theorem printQ_v (k l : Int) (d : Bool) (W O B : EL) (wv ov bv : Value) {Z : Zone} (w : World) (hW : SlE Z w 0 wv W) (hO : SlE Z w 0 ov O) (hB : SlE Z w 0 bv B) (kW : okE W) (kO : okE O) (kB : okE B) (l0 : -9223372036854775808 ≤ l) (l1 : l ≤ 9223372036854775807) (hP : Pow w) (hF : Forms w) :
    Calls Tryz.prog 6 #[qV wv k ov bv d l] w fun e w' => e = .returned (.tuple #[str (ansQ k W O B d l).1, .int .i64 (ansQ k W O B d l).2]) ∧ Keeps (fun _ => False) w w' := by
  obtain ⟨wa, wc, rfl, _⟩ := hW.head
  obtain ⟨oa, oc, rfl, _⟩ := hO.head
  obtain ⟨ba, bc, rfl, _⟩ := hB.head
  have HV := fun W' => hide (verbOf_v wa oa ba W.len O.len B.len wc oc bc k l d W')
  obtain ⟨w1, hw1, hk1, hs1, c0, c1, c2, c3, c4, c5⟩ := box6 w (.slice wa W.len wc) (.slice oa O.len oc) (.slice ba B.len bc) k l d
  unfold ansQ
  by_cases hwell : wellQ k W.len O.len B.len d l = true
  · rw [if_pos hwell]
    obtain ⟨AN, hAN⟩ : ∃ AN : Txt × Int, AN = (if errQ W O B = 0 then (joinB (piecesQ k W O B d l), 0) else ([], errQ W O B)) := ⟨_, rfl⟩
    rw [← hAN]
    have HAN := hide hAN
    clear hAN
    have hlen : W.len ≤ 1 ∧ O.len ≤ 1 ∧ B.len ≤ 1 := by
      unfold wellQ at hwell
      simp only [Bool.and_eq_true, decide_eq_true_eq] at hwell
      obtain ⟨⟨⟨⟨⟨_, _⟩, h1⟩, h2⟩, h3⟩, _⟩ := hwell
      refine ⟨h1, ?_, h2⟩
      split at h3 <;> omega
    subst hw1
    go_enter Tryz.func6, Tryz.ntmps6
    go_wp2_with fail
    refine (unhide (HV _)).mono ?_
    rintro e w2 ⟨vk, tok, s, ao, n, c, f, rfl, _, hv, hk2⟩
    obtain ⟨rfl, rfl, fn, ca, rfl⟩ := hv hwell
    rw [hwell]
    have HX : Hid (QEnv (w2.heap.size + 1) w.heap.size w2.heap.size vk l d W O B (.slice wa W.len wc) (.slice oa O.len oc) (.slice ba B.len bc) ((w2.alloc (.cells #[.int .i64 vk, .int .i64 tok, str (verbT vk), .slice ao n c, .func fn #[] ca] 40)).alloc (.cells #[.slice none 0 0, .int .i64 0] 46)) ∧ Wtr ((w2.alloc (.cells #[.int .i64 vk, .int .i64 tok, str (verbT vk), .slice ao n c, .func fn #[] ca] 40)).alloc (.cells #[.slice none 0 0, .int .i64 0] 46)) (w2.heap.size + 1) (w2.heap.size + 1) [] 0 ∧ Below w.heap.size w ((w2.alloc (.cells #[.int .i64 vk, .int .i64 tok, str (verbT vk), .slice ao n c, .func fn #[] ca] 40)).alloc (.cells #[.slice none 0 0, .int .i64 0] 46))) := by
      have z2 : w.heap.size < w2.heap.size := Nat.lt_of_lt_of_le hs1 hk2.size
      have e2 : (w2.alloc (.cells #[.int .i64 vk, .int .i64 tok, str (verbT vk), .slice ao n c, .func fn #[] ca] 40)).heap.size = w2.heap.size + 1 := by simp
      have hka : Keeps (fun _ => False) w2 (w2.alloc (.cells #[.int .i64 vk, .int .i64 tok, str (verbT vk), .slice ao n c, .func fn #[] ca] 40)) := (Keeps.refl _ w2).alloc _
      have hkb : Keeps (fun _ => False) (w2.alloc (.cells #[.int .i64 vk, .int .i64 tok, str (verbT vk), .slice ao n c, .func fn #[] ca] 40)) ((w2.alloc (.cells #[.int .i64 vk, .int .i64 tok, str (verbT vk), .slice ao n c, .func fn #[] ca] 40)).alloc (.cells #[.slice none 0 0, .int .i64 0] 46)) := (Keeps.refl _ _).alloc _
      have hv := heap_alloc_new w2 (.cells #[.int .i64 vk, .int .i64 tok, str (verbT vk), .slice ao n c, .func fn #[] ca] 40)
      have hwt := wtr_new (w2.alloc (.cells #[.int .i64 vk, .int .i64 tok, str (verbT vk), .slice ao n c, .func fn #[] ca] 40))
      rw [e2] at hwt
      have e3 : ((w2.alloc (.cells #[.int .i64 vk, .int .i64 tok, str (verbT vk), .slice ao n c, .func fn #[] ca] 40)).alloc (.cells #[.slice none 0 0, .int .i64 0] 46)).heap.size = w2.heap.size + 2 := by simp
      generalize (w2.alloc (.cells #[.int .i64 vk, .int .i64 tok, str (verbT vk), .slice ao n c, .func fn #[] ca] 40)).alloc (.cells #[.slice none 0 0, .int .i64 0] 46) = X3 at *
      have hk3 := hk2.trans (hka.trans hkb)
      have hkw := hk1.trans hk3
      have lv : w2.heap.size < (w2.alloc (.cells #[.int .i64 vk, .int .i64 tok, str (verbT vk), .slice ao n c, .func fn #[] ca] 40)).heap.size := by omega
      have hz : ∀ W', Below (w2.heap.size + 1) X3 W' → Keeps (fun _ => False) w W' := fun W' hb => hkw.trans_of (hb.mono (by omega))
      exact ⟨⟨(hk3.cell hs1 id).trans c0, (hk3.cell hs1 id).trans c2, (hk3.cell hs1 id).trans c3, (hk3.cell hs1 id).trans c4, (hk3.cell hs1 id).trans c5, (hkb.cell lv id).trans ((cell_of_blk hv 0).trans rfl), (hkb.cell lv id).trans ((cell_of_blk hv 2).trans rfl), by omega, by omega, by omega, fun W' hb => hP.keepF (hz W' hb), fun W' hb => hF.keepF (hz W' hb), (hW.bel (show w.heap.size ≤ w2.heap.size + 1 by omega)).keepF hkw, (hO.bel (show w.heap.size ≤ w2.heap.size + 1 by omega)).keepF hkw, (hB.bel (show w.heap.size ≤ w2.heap.size + 1 by omega)).keepF hkw⟩, hwt, hkw.below (Nat.le_refl _) (fun _ h => h.elim)⟩
    have hlw : w.heap.size ≤ w2.heap.size + 1 := by have := hk2.size; omega
    obtain ⟨X3, hX3⟩ : ∃ X3, (w2.alloc (.cells #[.int .i64 vk, .int .i64 tok, str (verbT vk), .slice ao n c, .func fn #[] ca] 40)).alloc (.cells #[.slice none 0 0, .int .i64 0] 46) = X3 := ⟨_, rfl⟩
    have z3 : X3.heap.size = w2.heap.size + 2 := by rw [← hX3]; simp
    rw [hX3] at HX
    obtain ⟨E3, W3, B3⟩ := unhide HX
    have q0 := E3.q0
    have hb4 : Below (w2.heap.size + 1) X3 (X3.alloc (.cells #[str whereT] 9)) := (Below.refl _ _).alloc (by omega) _
    have E4 := E3.below hb4
    have HC := hide (wexprs_any (w2.heap.size + 1) (w2.heap.size + 1) [] [whereT] 0 _ _ 0 _ W hlen.1 kW (W3.keepF ((Keeps.refl _ X3).alloc _)) (ahead_one X3 whereT) E4.sw E4.powN E4.formsN (by simp) E4.sz)
    have HE4 := hide E4
    have HB4 := hide (B3.trans (hb4.mono hlw))
    rw [z3] at HC
    rw [← hX3] at q0 HC HE4 HB4
    clear HX E3 W3 B3 hb4 E4 hX3 z3 c0 c1 c2 c3 c4 c5 hk1 hk2 hs1 hW hO hB hP hF HV hv
    go_wp2_with fail
    refine (unhide HC).mono ?_
    rintro e w5 ⟨rfl, hw5, hb5⟩
    rw [List.nil_append] at hw5
    obtain ⟨N, hN⟩ : ∃ N, N = w2.heap.size + 1 := ⟨_, rfl⟩
    rw [← hN] at hw5 hb5 HE4 hlw
    have HE5 := hide ((unhide HE4).below hb5)
    have HB5 := hide ((unhide HB4).trans (hb5.mono hlw))
    have HW5 := hide hw5
    have v2 := (unhide HE5).v2
    clear HC HE4 HB4 hw5 hb5
    have HC := hide (words_any N N (ahd [whereT] W) [verbT vk] (errA 0 W) _ _ ((unhide HW5).keepF ((Keeps.refl _ w5).alloc _)) (ahead_one w5 (verbT vk)) (by have := ahd_len [whereT] W; simp at this ⊢; omega) (Nat.le_trans (unhide HE5).sz (by simp)))
    have HB6 := hide (Below.alloc (Below.refl N w5) (unhide HE5).sz (.cells #[str (verbT vk)] 9))
    rw [hN] at HC
    go_wp2_with fail
    refine (unhide HC).mono ?_
    rintro e w6 ⟨rfl, hw6, hb6⟩
    rw [← hN] at hw6 hb6
    have hb6' := (unhide HB6).trans hb6
    have HE6 := hide ((unhide HE5).below hb6')
    have HB7 := hide ((unhide HB5).trans (hb6'.mono hlw))
    have HW6 := hide hw6
    have q2 := (unhide HE6).q2
    clear HC HE5 HB5 HB6 hw6 hb6 hb6' HW5 v2
    have HC := hide (wexprs_any N N _ [] (errA 0 W) w6 (.slice none 0 0) 0 _ O hlen.2.1 kO (unhide HW6) (Or.inl ⟨rfl, rfl⟩) (unhide HE6).so (unhide HE6).powN (unhide HE6).formsN (by have := ahd_len [whereT] W; simp at this ⊢; omega) (unhide HE6).sz)
    rw [hN] at HC
    go_wp2_with fail
    refine (unhide HC).mono ?_
    rintro e w7 ⟨rfl, hw7, hb7⟩
    rw [← hN] at hw7 hb7
    have HE7 := hide ((unhide HE6).below hb7)
    have HB8 := hide ((unhide HB7).trans (hb7.mono hlw))
    have HW7 := hide hw7
    have q3 := (unhide HE7).q3
    clear HC HE6 HB7 hw7 hb7 HW6 q2
    have HB9 := hide (Below.alloc (Below.refl N w7) (unhide HE7).sz (.cells #[str byT] 9))
    have HE8 := hide ((unhide HE7).below (unhide HB9))
    have HC := hide (wexprs_any N N _ [byT] (errA (errA 0 W) O) _ _ 0 _ B hlen.2.2 kB ((unhide HW7).keepF ((Keeps.refl _ w7).alloc _)) (ahead_one w7 byT) (unhide HE8).sb (unhide HE8).powN (unhide HE8).formsN (by have := ahd_len [whereT] W; have := ahd_len [] O; simp at *; omega) (unhide HE8).sz)
    rw [hN] at HC
    go_wp2_with fail
    refine (unhide HC).mono ?_
    rintro e w8 ⟨rfl, hw8, hb8⟩
    rw [← hN] at hw8 hb8
    have HE9 := hide ((unhide HE8).below hb8)
    have HBA := hide ((unhide HB8).trans (((unhide HB9).trans hb8).mono hlw))
    have HW8 := hide hw8
    clear HC HE7 HE8 HB8 HB9 hw8 hb8 HW7 q3 q0
    obtain ⟨P8, hP8⟩ : ∃ P8, P8 = ahd [whereT] W ++ [verbT vk] ++ ahd [] O ++ ahd [byT] B := ⟨_, rfl⟩
    obtain ⟨R8, hR8⟩ : ∃ R8, R8 = errQ W O B := ⟨_, rfl⟩
    have HL8 : Hid (∀ x ∈ P8, x.length ≤ 700000000000) := by
      intro x hx
      rw [hP8] at hx
      simp only [List.mem_append, List.mem_singleton] at hx
      rcases hx with ((hx | rfl) | hx) | hx
      · exact ahd_le [whereT] W hlen.1 kW (fun y hy => by obtain rfl : y = whereT := by simpa using hy
                                                          decide) x hx
      · exact verbT_le vk
      · exact ahd_le [] O hlen.2.1 kO (fun y hy => by simp at hy) x hx
      · exact ahd_le [byT] B hlen.2.2 kB (fun y hy => by obtain rfl : y = byT := by simpa using hy
                                                         decide) x hx
    have hn8 : 0 < P8.length ∧ P8.length ≤ 5 := by
      rw [hP8]
      have a1 := ahd_len [whereT] W
      have a2 := ahd_len [] O
      have a3 := ahd_len [byT] B
      have a4 : O.len = 0 ∨ B.len = 0 := by
        unfold wellQ at hwell
        simp only [Bool.and_eq_true, decide_eq_true_eq] at hwell
        obtain ⟨⟨⟨⟨⟨_, _⟩, _⟩, _⟩, h3⟩, h4⟩ := hwell
        by_cases h1 : vk = 1
        · rw [if_pos (Or.inl h1)] at h3; exact Or.inl h3
        · rw [if_neg h1] at h4; simp at h4; exact Or.inr h4.1.1
      have a5 : ∀ (A : List Txt) (q : EL), q.len = 0 → ahd A q = [] := fun A q hq => by cases q with | nil => rfl | cons _ _ _ _ _ => simp [EL.len] at hq
      rcases a4 with a4 | a4
      · rw [a5 [] O a4]; simp at *; omega
      · rw [a5 [byT] B a4]; simp at *; omega
    have HPC : Hid (piecesQ vk W O B d l = P8 ++ (if d then [downT] else []) ++ (if vk = 1 ∧ 0 ≤ l then [limitT, decimal l] else [])) := by
      show _ = _
      rw [hP8]; rfl
    have HW9 : Hid (Wtr w8 N N P8 R8) := by
      show Wtr w8 N N P8 R8
      rw [hP8, hR8]
      exact unhide HW8
    have q4 := (unhide HE9).q4
    have q5 := (unhide HE9).q5
    have v0 := (unhide HE9).v0
    rw [← hR8] at HAN
    clear HW8 hP8 hR8 hwell kW kO kB hlen
    by_cases hR : R8 = 0
    · subst hR
      rw [if_pos rfl] at HAN
      by_cases hk1 : vk = 1
      · subst hk1
        by_cases hl0 : 0 ≤ l
        · cases d
          · obtain ⟨PP, hPP⟩ : ∃ PP, PP = (P8 ++ [limitT, decimal l]) := ⟨_, rfl⟩
            have hp1 : 0 < PP.length ∧ PP.length ≤ 8 := by rw [hPP]; first | omega | (simp <;> omega)
            have HP2 : Hid (∀ x ∈ PP, x.length ≤ 700000000000) := hide (fun x hx => by rw [hPP] at hx; simp only [List.mem_append, List.mem_cons, List.not_mem_nil, or_false] at hx; rcases hx with hx | rfl | rfl; exact unhide HL8 x hx; decide; exact Nat.le_trans (decimal_len l l0 l1) (by decide))
            have HANS : Hid (AN = (joinB PP, 0)) := by show _ = _; rw [unhide HAN, hPP, unhide HPC, if_neg (show ¬ (false = true) by decide), if_pos ⟨rfl, hl0⟩, List.append_nil]
            have HPP := hide hPP
            clear hPP HAN HPC HL8
            have HC := hide (itoa_v l l0 l1 w8 (unhide HE9).powN)
            go_wp2_with fail
            refine (unhide HC).mono ?_
            rintro e wb ⟨rfl, hkb⟩
            have HB2 := hide ((hkb.below (unhide HE9).sz (fun _ h => h.elim)).trans (Below.alloc (Below.refl N wb) (Nat.le_trans (unhide HE9).sz hkb.size) (.cells #[str limitT, str (decimal l)] 9)))
            have HWb := hide ((unhide HW9).keepF hkb)
            have sb := Nat.le_trans (unhide HE9).sz hkb.size
            clear HC hkb
            have HC := hide (words_any N N P8 [limitT, decimal l] _ _ _ ((unhide HWb).keepF ((Keeps.refl _ wb).alloc _)) (ahead_two wb limitT (decimal l)) (by simp; omega) (Nat.le_trans sb (by simp)))
            rw [hN] at HC
            go_wp2_with fail
            refine (unhide HC).mono ?_
            rintro e wc ⟨rfl, hwc, hbc⟩
            rw [← hN] at hwc hbc
            have hbd := (unhide HB2).trans hbc
            have HEc := hide ((unhide HE9).below hbd)
            have HBc := hide ((unhide HBA).trans (hbd.mono hlw))
            have HWc := hide hwc
            clear HC HB2 hwc hbc hbd HE9 HBA HW9 HWb
            have hww : Wtr wc N N PP 0 := by have h := unhide HWc; rw [unhide HPP]; first | exact h | simpa using h
            obtain ⟨g, cap, p0, hg, hcp, hcl⟩ := hww.row hp1.1
            obtain ⟨_, _, p1, _, _, _⟩ := hww.cells
            have HJ := hide (join_any PP g cap wc hp1.1 hp1.2 hg hcp hcl (unhide HP2))
            clear hww HP2 HPP HWc
            rw [hN] at p0 p1
            clear hg hcp hcl
            go_wp2_with fail
            refine (unhide HJ).mono ?_
            rintro e wz ⟨rfl, hkz⟩
            have HKZ := hide ((Keeps.ofBelow (unhide HBc)).trans hkz)
            clear hkz HJ
            go_wp2_with fail
            go_ret2
            rw [unhide HANS]
            exact ⟨rfl, unhide HKZ⟩
          · obtain ⟨PP, hPP⟩ : ∃ PP, PP = ((P8 ++ [downT]) ++ [limitT, decimal l]) := ⟨_, rfl⟩
            have hp1 : 0 < PP.length ∧ PP.length ≤ 8 := by rw [hPP]; first | omega | (simp <;> omega)
            have HP2 : Hid (∀ x ∈ PP, x.length ≤ 700000000000) := hide (fun x hx => by rw [hPP] at hx; simp only [List.mem_append, List.mem_cons, List.not_mem_nil, or_false] at hx; rcases hx with (hx | rfl) | rfl | rfl; exact unhide HL8 x hx; decide; decide; exact Nat.le_trans (decimal_len l l0 l1) (by decide))
            have HANS : Hid (AN = (joinB PP, 0)) := by show _ = _; rw [unhide HAN, hPP, unhide HPC, if_pos rfl, if_pos ⟨rfl, hl0⟩]
            have HPP := hide hPP
            clear hPP HAN HPC HL8
            have HB1 := hide (Below.alloc (Below.refl N w8) (unhide HE9).sz (.cells #[str downT] 9))
            have HC := hide (words_any N N P8 [downT] _ _ _ ((unhide HW9).keepF ((Keeps.refl _ w8).alloc _)) (ahead_one w8 downT) (by simp; omega) (Nat.le_trans (unhide HE9).sz (by simp)))
            rw [hN] at HC
            go_wp2_with fail
            refine (unhide HC).mono ?_
            rintro e wa ⟨rfl, hwa, hba⟩
            rw [← hN] at hwa hba
            have hbd := (unhide HB1).trans hba
            have HEa := hide ((unhide HE9).below hbd)
            have HBb := hide ((unhide HBA).trans (hbd.mono hlw))
            have HWa := hide hwa
            have q5 := (unhide HEa).q5
            have v0 := (unhide HEa).v0
            clear HC HB1 hwa hba hbd HE9 HBA HW9
            have HC := hide (itoa_v l l0 l1 wa (unhide HEa).powN)
            go_wp2_with fail
            refine (unhide HC).mono ?_
            rintro e wb ⟨rfl, hkb⟩
            have HB2 := hide ((hkb.below (unhide HEa).sz (fun _ h => h.elim)).trans (Below.alloc (Below.refl N wb) (Nat.le_trans (unhide HEa).sz hkb.size) (.cells #[str limitT, str (decimal l)] 9)))
            have HWb := hide ((unhide HWa).keepF hkb)
            have sb := Nat.le_trans (unhide HEa).sz hkb.size
            clear HC hkb
            have HC := hide (words_any N N (P8 ++ [downT]) [limitT, decimal l] _ _ _ ((unhide HWb).keepF ((Keeps.refl _ wb).alloc _)) (ahead_two wb limitT (decimal l)) (by simp; omega) (Nat.le_trans sb (by simp)))
            rw [hN] at HC
            go_wp2_with fail
            refine (unhide HC).mono ?_
            rintro e wc ⟨rfl, hwc, hbc⟩
            rw [← hN] at hwc hbc
            have hbd := (unhide HB2).trans hbc
            have HEc := hide ((unhide HEa).below hbd)
            have HBc := hide ((unhide HBb).trans (hbd.mono hlw))
            have HWc := hide hwc
            clear HC HB2 hwc hbc hbd HEa HBb HWa HWb
            have hww : Wtr wc N N PP 0 := by have h := unhide HWc; rw [unhide HPP]; first | exact h | simpa using h
            obtain ⟨g, cap, p0, hg, hcp, hcl⟩ := hww.row hp1.1
            obtain ⟨_, _, p1, _, _, _⟩ := hww.cells
            have HJ := hide (join_any PP g cap wc hp1.1 hp1.2 hg hcp hcl (unhide HP2))
            clear hww HP2 HPP HWc
            rw [hN] at p0 p1
            clear hg hcp hcl
            go_wp2_with fail
            refine (unhide HJ).mono ?_
            rintro e wz ⟨rfl, hkz⟩
            have HKZ := hide ((Keeps.ofBelow (unhide HBc)).trans hkz)
            clear hkz HJ
            go_wp2_with fail
            go_ret2
            rw [unhide HANS]
            exact ⟨rfl, unhide HKZ⟩
        · cases d
          · obtain ⟨PP, hPP⟩ : ∃ PP, PP = P8 := ⟨_, rfl⟩
            have hp1 : 0 < PP.length ∧ PP.length ≤ 8 := by rw [hPP]; first | omega | (simp <;> omega)
            have HP2 : Hid (∀ x ∈ PP, x.length ≤ 700000000000) := hide (fun x hx => by rw [hPP] at hx; exact unhide HL8 x hx)
            have HANS : Hid (AN = (joinB PP, 0)) := by show _ = _; rw [unhide HAN, hPP, unhide HPC, if_neg (show ¬ (false = true) by decide), if_neg (fun h => by have := h.2; omega), List.append_nil, List.append_nil]
            have HPP := hide hPP
            clear hPP HAN HPC HL8
            have hww : Wtr w8 N N PP 0 := by have h := unhide HW9; rw [unhide HPP]; first | exact h | simpa using h
            obtain ⟨g, cap, p0, hg, hcp, hcl⟩ := hww.row hp1.1
            obtain ⟨_, _, p1, _, _, _⟩ := hww.cells
            have HJ := hide (join_any PP g cap w8 hp1.1 hp1.2 hg hcp hcl (unhide HP2))
            clear hww HP2 HPP HW9
            rw [hN] at p0 p1
            clear hg hcp hcl
            go_wp2_with fail
            refine (unhide HJ).mono ?_
            rintro e wz ⟨rfl, hkz⟩
            have HKZ := hide ((Keeps.ofBelow (unhide HBA)).trans hkz)
            clear hkz HJ
            go_wp2_with fail
            go_ret2
            rw [unhide HANS]
            exact ⟨rfl, unhide HKZ⟩
          · obtain ⟨PP, hPP⟩ : ∃ PP, PP = (P8 ++ [downT]) := ⟨_, rfl⟩
            have hp1 : 0 < PP.length ∧ PP.length ≤ 8 := by rw [hPP]; first | omega | (simp <;> omega)
            have HP2 : Hid (∀ x ∈ PP, x.length ≤ 700000000000) := hide (fun x hx => by rw [hPP] at hx; simp only [List.mem_append, List.mem_cons, List.not_mem_nil, or_false] at hx; rcases hx with hx | rfl; exact unhide HL8 x hx; decide)
            have HANS : Hid (AN = (joinB PP, 0)) := by show _ = _; rw [unhide HAN, hPP, unhide HPC, if_pos rfl, if_neg (fun h => by have := h.2; omega), List.append_nil]
            have HPP := hide hPP
            clear hPP HAN HPC HL8
            have HB1 := hide (Below.alloc (Below.refl N w8) (unhide HE9).sz (.cells #[str downT] 9))
            have HC := hide (words_any N N P8 [downT] _ _ _ ((unhide HW9).keepF ((Keeps.refl _ w8).alloc _)) (ahead_one w8 downT) (by simp; omega) (Nat.le_trans (unhide HE9).sz (by simp)))
            rw [hN] at HC
            go_wp2_with fail
            refine (unhide HC).mono ?_
            rintro e wa ⟨rfl, hwa, hba⟩
            rw [← hN] at hwa hba
            have hbd := (unhide HB1).trans hba
            have HEa := hide ((unhide HE9).below hbd)
            have HBb := hide ((unhide HBA).trans (hbd.mono hlw))
            have HWa := hide hwa
            have q5 := (unhide HEa).q5
            have v0 := (unhide HEa).v0
            clear HC HB1 hwa hba hbd HE9 HBA HW9
            have hww : Wtr wa N N PP 0 := by have h := unhide HWa; rw [unhide HPP]; first | exact h | simpa using h
            obtain ⟨g, cap, p0, hg, hcp, hcl⟩ := hww.row hp1.1
            obtain ⟨_, _, p1, _, _, _⟩ := hww.cells
            have HJ := hide (join_any PP g cap wa hp1.1 hp1.2 hg hcp hcl (unhide HP2))
            clear hww HP2 HPP HWa
            rw [hN] at p0 p1
            clear hg hcp hcl
            go_wp2_with fail
            refine (unhide HJ).mono ?_
            rintro e wz ⟨rfl, hkz⟩
            have HKZ := hide ((Keeps.ofBelow (unhide HBb)).trans hkz)
            clear hkz HJ
            go_wp2_with fail
            go_ret2
            rw [unhide HANS]
            exact ⟨rfl, unhide HKZ⟩
      · have hk2 : (vk == 1) = false := by simpa using hk1
        cases d
        · obtain ⟨PP, hPP⟩ : ∃ PP, PP = P8 := ⟨_, rfl⟩
          have hp1 : 0 < PP.length ∧ PP.length ≤ 8 := by rw [hPP]; first | omega | (simp <;> omega)
          have HP2 : Hid (∀ x ∈ PP, x.length ≤ 700000000000) := hide (fun x hx => by rw [hPP] at hx; exact unhide HL8 x hx)
          have HANS : Hid (AN = (joinB PP, 0)) := by show _ = _; rw [unhide HAN, hPP, unhide HPC, if_neg (show ¬ (false = true) by decide), if_neg (fun h => hk1 h.1), List.append_nil, List.append_nil]
          have HPP := hide hPP
          clear hPP HAN HPC HL8
          have hww : Wtr w8 N N PP 0 := by have h := unhide HW9; rw [unhide HPP]; first | exact h | simpa using h
          obtain ⟨g, cap, p0, hg, hcp, hcl⟩ := hww.row hp1.1
          obtain ⟨_, _, p1, _, _, _⟩ := hww.cells
          have HJ := hide (join_any PP g cap w8 hp1.1 hp1.2 hg hcp hcl (unhide HP2))
          clear hww HP2 HPP HW9
          rw [hN] at p0 p1
          clear hg hcp hcl
          go_wp2_with fail
          refine (unhide HJ).mono ?_
          rintro e wz ⟨rfl, hkz⟩
          have HKZ := hide ((Keeps.ofBelow (unhide HBA)).trans hkz)
          clear hkz HJ
          go_wp2_with fail
          go_ret2
          rw [unhide HANS]
          exact ⟨rfl, unhide HKZ⟩
        · obtain ⟨PP, hPP⟩ : ∃ PP, PP = (P8 ++ [downT]) := ⟨_, rfl⟩
          have hp1 : 0 < PP.length ∧ PP.length ≤ 8 := by rw [hPP]; first | omega | (simp <;> omega)
          have HP2 : Hid (∀ x ∈ PP, x.length ≤ 700000000000) := hide (fun x hx => by rw [hPP] at hx; simp only [List.mem_append, List.mem_cons, List.not_mem_nil, or_false] at hx; rcases hx with hx | rfl; exact unhide HL8 x hx; decide)
          have HANS : Hid (AN = (joinB PP, 0)) := by show _ = _; rw [unhide HAN, hPP, unhide HPC, if_pos rfl, if_neg (fun h => hk1 h.1), List.append_nil]
          have HPP := hide hPP
          clear hPP HAN HPC HL8
          have HB1 := hide (Below.alloc (Below.refl N w8) (unhide HE9).sz (.cells #[str downT] 9))
          have HC := hide (words_any N N P8 [downT] _ _ _ ((unhide HW9).keepF ((Keeps.refl _ w8).alloc _)) (ahead_one w8 downT) (by simp; omega) (Nat.le_trans (unhide HE9).sz (by simp)))
          rw [hN] at HC
          go_wp2_with fail
          refine (unhide HC).mono ?_
          rintro e wa ⟨rfl, hwa, hba⟩
          rw [← hN] at hwa hba
          have hbd := (unhide HB1).trans hba
          have HEa := hide ((unhide HE9).below hbd)
          have HBb := hide ((unhide HBA).trans (hbd.mono hlw))
          have HWa := hide hwa
          have q5 := (unhide HEa).q5
          have v0 := (unhide HEa).v0
          clear HC HB1 hwa hba hbd HE9 HBA HW9
          have hww : Wtr wa N N PP 0 := by have h := unhide HWa; rw [unhide HPP]; first | exact h | simpa using h
          obtain ⟨g, cap, p0, hg, hcp, hcl⟩ := hww.row hp1.1
          obtain ⟨_, _, p1, _, _, _⟩ := hww.cells
          have HJ := hide (join_any PP g cap wa hp1.1 hp1.2 hg hcp hcl (unhide HP2))
          clear hww HP2 HPP HWa
          rw [hN] at p0 p1
          clear hg hcp hcl
          go_wp2_with fail
          refine (unhide HJ).mono ?_
          rintro e wz ⟨rfl, hkz⟩
          have HKZ := hide ((Keeps.ofBelow (unhide HBb)).trans hkz)
          clear hkz HJ
          go_wp2_with fail
          go_ret2
          rw [unhide HANS]
          exact ⟨rfl, unhide HKZ⟩
    · rw [if_neg hR] at HAN
      have hR1 : (R8 != 0) = true := by simpa using hR
      by_cases hk1 : vk = 1
      · subst hk1
        by_cases hl0 : 0 ≤ l
        · cases d
          · have HC := hide (itoa_v l l0 l1 w8 (unhide HE9).powN)
            go_wp2_with fail
            refine (unhide HC).mono ?_
            rintro e wb ⟨rfl, hkb⟩
            have HB2 := hide ((hkb.below (unhide HE9).sz (fun _ h => h.elim)).trans (Below.alloc (Below.refl N wb) (Nat.le_trans (unhide HE9).sz hkb.size) (.cells #[str limitT, str (decimal l)] 9)))
            have HWb := hide ((unhide HW9).keepF hkb)
            have sb := Nat.le_trans (unhide HE9).sz hkb.size
            clear HC hkb
            have HC := hide (words_any N N P8 [limitT, decimal l] _ _ _ ((unhide HWb).keepF ((Keeps.refl _ wb).alloc _)) (ahead_two wb limitT (decimal l)) (by simp; omega) (Nat.le_trans sb (by simp)))
            rw [hN] at HC
            go_wp2_with fail
            refine (unhide HC).mono ?_
            rintro e wc ⟨rfl, hwc, hbc⟩
            rw [← hN] at hwc hbc
            have hbd := (unhide HB2).trans hbc
            have HEc := hide ((unhide HE9).below hbd)
            have HBc := hide ((unhide HBA).trans (hbd.mono hlw))
            have HWc := hide hwc
            clear HC HB2 hwc hbc hbd HE9 HBA HW9 HWb
            obtain ⟨_, _, p1, _, _, _⟩ := (unhide HWc).cells
            rw [hN] at p1
            go_wp2_with fail
            go_quiet (fail)
            go_wp2_with fail
            go_ret2
            exact ⟨by rw [unhide HAN]; rfl, (Keeps.ofBelow (unhide HBc)).trans (keeps_drewN _ _)⟩
          · have HB1 := hide (Below.alloc (Below.refl N w8) (unhide HE9).sz (.cells #[str downT] 9))
            have HC := hide (words_any N N P8 [downT] _ _ _ ((unhide HW9).keepF ((Keeps.refl _ w8).alloc _)) (ahead_one w8 downT) (by simp; omega) (Nat.le_trans (unhide HE9).sz (by simp)))
            rw [hN] at HC
            go_wp2_with fail
            refine (unhide HC).mono ?_
            rintro e wa ⟨rfl, hwa, hba⟩
            rw [← hN] at hwa hba
            have hbd := (unhide HB1).trans hba
            have HEa := hide ((unhide HE9).below hbd)
            have HBb := hide ((unhide HBA).trans (hbd.mono hlw))
            have HWa := hide hwa
            have q5 := (unhide HEa).q5
            have v0 := (unhide HEa).v0
            clear HC HB1 hwa hba hbd HE9 HBA HW9
            have HC := hide (itoa_v l l0 l1 wa (unhide HEa).powN)
            go_wp2_with fail
            refine (unhide HC).mono ?_
            rintro e wb ⟨rfl, hkb⟩
            have HB2 := hide ((hkb.below (unhide HEa).sz (fun _ h => h.elim)).trans (Below.alloc (Below.refl N wb) (Nat.le_trans (unhide HEa).sz hkb.size) (.cells #[str limitT, str (decimal l)] 9)))
            have HWb := hide ((unhide HWa).keepF hkb)
            have sb := Nat.le_trans (unhide HEa).sz hkb.size
            clear HC hkb
            have HC := hide (words_any N N (P8 ++ [downT]) [limitT, decimal l] _ _ _ ((unhide HWb).keepF ((Keeps.refl _ wb).alloc _)) (ahead_two wb limitT (decimal l)) (by simp; omega) (Nat.le_trans sb (by simp)))
            rw [hN] at HC
            go_wp2_with fail
            refine (unhide HC).mono ?_
            rintro e wc ⟨rfl, hwc, hbc⟩
            rw [← hN] at hwc hbc
            have hbd := (unhide HB2).trans hbc
            have HEc := hide ((unhide HEa).below hbd)
            have HBc := hide ((unhide HBb).trans (hbd.mono hlw))
            have HWc := hide hwc
            clear HC HB2 hwc hbc hbd HEa HBb HWa HWb
            obtain ⟨_, _, p1, _, _, _⟩ := (unhide HWc).cells
            rw [hN] at p1
            go_wp2_with fail
            go_quiet (fail)
            go_wp2_with fail
            go_ret2
            exact ⟨by rw [unhide HAN]; rfl, (Keeps.ofBelow (unhide HBc)).trans (keeps_drewN _ _)⟩
        · cases d
          · obtain ⟨_, _, p1, _, _, _⟩ := (unhide HW9).cells
            rw [hN] at p1
            go_wp2_with fail
            go_quiet (fail)
            go_wp2_with fail
            go_ret2
            exact ⟨by rw [unhide HAN]; rfl, (Keeps.ofBelow (unhide HBA)).trans (keeps_drewN _ _)⟩
          · have HB1 := hide (Below.alloc (Below.refl N w8) (unhide HE9).sz (.cells #[str downT] 9))
            have HC := hide (words_any N N P8 [downT] _ _ _ ((unhide HW9).keepF ((Keeps.refl _ w8).alloc _)) (ahead_one w8 downT) (by simp; omega) (Nat.le_trans (unhide HE9).sz (by simp)))
            rw [hN] at HC
            go_wp2_with fail
            refine (unhide HC).mono ?_
            rintro e wa ⟨rfl, hwa, hba⟩
            rw [← hN] at hwa hba
            have hbd := (unhide HB1).trans hba
            have HEa := hide ((unhide HE9).below hbd)
            have HBb := hide ((unhide HBA).trans (hbd.mono hlw))
            have HWa := hide hwa
            have q5 := (unhide HEa).q5
            have v0 := (unhide HEa).v0
            clear HC HB1 hwa hba hbd HE9 HBA HW9
            obtain ⟨_, _, p1, _, _, _⟩ := (unhide HWa).cells
            rw [hN] at p1
            go_wp2_with fail
            go_quiet (fail)
            go_wp2_with fail
            go_ret2
            exact ⟨by rw [unhide HAN]; rfl, (Keeps.ofBelow (unhide HBb)).trans (keeps_drewN _ _)⟩
      · have hk2 : (vk == 1) = false := by simpa using hk1
        cases d
        · obtain ⟨_, _, p1, _, _, _⟩ := (unhide HW9).cells
          rw [hN] at p1
          go_wp2_with fail
          go_quiet (fail)
          go_wp2_with fail
          go_ret2
          exact ⟨by rw [unhide HAN]; rfl, (Keeps.ofBelow (unhide HBA)).trans (keeps_drewN _ _)⟩
        · have HB1 := hide (Below.alloc (Below.refl N w8) (unhide HE9).sz (.cells #[str downT] 9))
          have HC := hide (words_any N N P8 [downT] _ _ _ ((unhide HW9).keepF ((Keeps.refl _ w8).alloc _)) (ahead_one w8 downT) (by simp; omega) (Nat.le_trans (unhide HE9).sz (by simp)))
          rw [hN] at HC
          go_wp2_with fail
          refine (unhide HC).mono ?_
          rintro e wa ⟨rfl, hwa, hba⟩
          rw [← hN] at hwa hba
          have hbd := (unhide HB1).trans hba
          have HEa := hide ((unhide HE9).below hbd)
          have HBb := hide ((unhide HBA).trans (hbd.mono hlw))
          have HWa := hide hwa
          have q5 := (unhide HEa).q5
          have v0 := (unhide HEa).v0
          clear HC HB1 hwa hba hbd HE9 HBA HW9
          obtain ⟨_, _, p1, _, _, _⟩ := (unhide HWa).cells
          rw [hN] at p1
          go_wp2_with fail
          go_quiet (fail)
          go_wp2_with fail
          go_ret2
          exact ⟨by rw [unhide HAN]; rfl, (Keeps.ofBelow (unhide HBb)).trans (keeps_drewN _ _)⟩
  · rw [if_neg hwell]
    have hwf : wellQ k W.len O.len B.len d l = false := by simpa using hwell
    subst hw1
    go_enter Tryz.func6, Tryz.ntmps6
    go_wp2_with fail
    refine (unhide (HV _)).mono ?_
    rintro e w2 ⟨vk, tok, s, ao, n, c, f, rfl, hf, _, hk2⟩
    have HK := hide (hk1.trans hk2)
    rw [hwf]
    rcases hf with rfl | ⟨fn, ca, rfl⟩
    all_goals
      go_wp2_with fail
      go_ret2
      exact ⟨rfl, (unhide HK).alloc _⟩
end Go.Proofs.YtgdabnkjipcbhaaGreatDoor
