import Derived.Test.YtbfkoamledkhnaaGreatDoorJv
namespace Go.Proofs.YtbfkoamledkhnaaGreatDoor
open Go.RowKit Go.Maps

theorem own_set {w : World} {B e z n g c : Nat} {xs : List Value} (h : w.ownsRow B e z (.slice (some ⟨g, 0, none⟩) n c) n xs) (j : Nat) (x : Value) : (w.setCell ⟨g, j, none⟩ x).ownsRow B e z (.slice (some ⟨g, 0, none⟩) n c) n (xs.set j x) := by
  obtain ⟨h1, h2⟩ := h
  refine ⟨by rw [List.length_set]; exact h1, ?_⟩
  rcases h2 with ⟨hv, _⟩ | ⟨g', cap, cur, hv, hb, hg, h3, h4, h5, h6⟩
  · cases hv
  · simp at hv
    obtain ⟨rfl, rfl⟩ := hv
    refine Or.inr ⟨g, c, cur.setIfInBounds j x, rfl, hb, heap_setCell_at hg x, h3, h4, by simp [h5], ?_⟩
    rw [← h6]
    simp [List.take_set]
theorem vcs_set3 (A B : List ValA) (y z : ValA) : (((vcs (A ++ y :: B)).set (A.length * 3) (.int .i64 z.kind)).set (A.length * 3 + 1) (.int .i64 z.n)).set (A.length * 3 + 2) (str z.s) = vcs (A ++ z :: B) := by
  have e : ∀ y : ValA, vcs (A ++ y :: B) = vcs A ++ (y.cs ++ vcs B) := fun y => by simp [vcs]
  rw [e, e]
  have hl := vcs_length A
  rw [List.set_append_right _ _ (by omega), List.set_append_right _ _ (by omega), List.set_append_right _ _ (by omega), hl, Nat.sub_self, show A.length * 3 + 1 - A.length * 3 = 1 by omega, show A.length * 3 + 2 - A.length * 3 = 2 by omega]
  rfl
theorem own_frozen {w : World} {B e z n g c : Nat} {xs : List Value} (h : w.ownsRow B e z (.slice (some ⟨g, 0, none⟩) n c) n xs) (j : Nat) : w.frozen? ⟨g, j, none⟩ = false := by
  rcases h.2 with ⟨hv, _⟩ | ⟨g', cap, cur, hv, hb, hg, _⟩
  · cases hv
  · simp at hv
    obtain ⟨rfl, rfl⟩ := hv
    exact frozen_of_blk hg j
theorem own_cell {w : World} {B e z n g c : Nat} {xs : List Value} (h : w.ownsRow B e z (.slice (some ⟨g, 0, none⟩) n c) n xs) {j : Nat} {x : Value} (hj : xs[j]? = some x) : w.cell? ⟨g, j, none⟩ = some x := by
  have h1 := h.cells (g := g) rfl j x hj
  rwa [Addr.add_lit, Nat.zero_add] at h1

theorem valueAt_open (f : FieldA) (t : Txt) (x : Int) (n : Nat) (hx : x = (n : Int)) (w : World) (hn : n ≤ t.length) (ht : t.length ≤ 1099511627776) {z : ValA} {nx : Int} (hz : (valueAtB f t n).1 = z) (hnx : (valueAtB f t n).2 = nx) :
    Calls Tryz.prog 71 #[.agg #[str f.name, .int .i64 f.type, .bool f.opt], str t, .int .i64 x] w fun e w' => e = .returned (.tuple #[.agg #[.int .i64 z.kind, .int .i64 z.n, str z.s], .int .i64 nx]) ∧ Keeps (fun _ => False) w w' := by
  subst hx
  have h := valueAt_any f t n w hn ht
  unfold FieldA.v ValA.v at h
  rw [hz, hnx] at h
  exact h
theorem wrap2 (x y : Int) (h0 : 0 ≤ x + y) (h1 : x + y + 1 ≤ 9223372036854775807) : IntKind.i64.wrap (IntKind.i64.wrap (x + y) + 1) = x + y + 1 := by
  rw [IntWalk.i64_left, IntWalk.i64_left]
  rw [IntWalk.wrap64_in (x + y) (by omega), IntWalk.wrap64_in _ (by omega)]

set_option maxRecDepth 100000 in
set_option maxHeartbeats 4000000 in
theorem parse_any (l : List FieldA) (v : Value) (t : Txt) (w : World) (h : FldsAt w v l) (ht : t.length ≤ 1099511627776) :
    Calls Tryz.prog 37 #[.agg #[v], str t] w fun e w' => ∃ r', e = .returned (.tuple #[r', .int .i64 (parseB l t).2]) ∧ w'.ownsRow w.heap.size 69 3 r' (parseB l t).1.length (vcs (parseB l t).1) ∧ Keeps (fun _ => False) w w' := by
  obtain ⟨ao, cap, rfl⟩ := RowAt.form h
  obtain ⟨HB, hb, hbc⟩ := boxed w #[.slice ao l.length cap] 28
  have hp := hbc 0 (.slice ao l.length cap) rfl
  have HF := hide (h.keepF (unhide HB))
  have HS := hide (checkSchema_any l _ _ (unhide HF))
  clear hbc h
  obtain ⟨D, HD⟩ : ∃ D, Hid (parseB l t = D) := ⟨_, rfl⟩
  rw [unhide HD]
  go_enter Tryz.func37, Tryz.ntmps37
  go_wp2_with fail
  refine (unhide HS).mono ?_
  rintro e w2 ⟨rfl, hk2⟩
  have hp2 := (hk2.cell (o := 0) hb id).trans hp
  have hb2 := Nat.lt_of_lt_of_le hb hk2.size
  have HF2 := hide ((unhide HF).keepF hk2)
  have HB2 := hide ((unhide HB).trans hk2)
  clear HS HF HB hk2 hp hb
  generalize w.alloc (.cells #[.slice ao l.length cap] 28) = w1 at *
  rcases errS_eq l with ⟨hs, he⟩ | ⟨hs, he⟩
  · rw [he]
    have hl8 := (schemaB_len hs).2
    have hl1 := (schemaB_len hs).1
    have HSS := hide hs
    have HQ := hide (zero_any l _ w2 (unhide HF2))
    rw [show zeroB l = zeros l by simp [zeroB, hs]] at HQ
    clear hs he
    go_wp2_with fail
    refine (unhide HQ).mono ?_
    rintro e w3 ⟨v3, rfl, ho3, hk3⟩
    rw [zeros_length] at ho3
    obtain ⟨g, cr, rfl, hgB, hgl⟩ := ho3.form (by omega)
    have hp3 := (hk3.cell (o := 0) hb2 id).trans hp2
    have hb3 := Nat.lt_of_lt_of_le hb2 hk3.size
    have HF3 := hide ((unhide HF2).keepF hk3)
    have HB3 := hide ((unhide HB2).trans hk3)
    have HO3 := hide ho3
    have HK3 := hide hk3
    obtain ⟨S, hS⟩ : ∃ S, S = w2.heap.size := ⟨_, rfl⟩
    rw [← hS] at HO3 hgB hb2
    have hS3 : S ≤ w3.heap.size := by rw [hS]; exact hk3.size
    obtain ⟨b, off, c, e1, hblt, hc⟩ := (unhide HF2).cells (by omega)
    simp at e1
    obtain ⟨rfl, rfl⟩ := e1
    have HC3 : Hid (∀ i f, l[i]? = some f → w3.cell? ⟨b, off + i * 3, none⟩ = some (str f.name) ∧ w3.cell? ⟨b, off + i * 3 + 1, none⟩ = some (.int .i64 f.type) ∧ w3.cell? ⟨b, off + i * 3 + 2, none⟩ = some (.bool f.opt)) := fun i f hf => by
      rw [hk3.cell hblt id, hk3.cell hblt id, hk3.cell hblt id]
      exact hc i f hf
    have hbS : b < S := by omega
    clear HQ ho3 hk3 hp2 HF2 hc hblt hS
    have HQ := fun w => hide (begins_any t 0 [123] (by omega) ht (by simp) w)
    cases hbr : beginsB t 0 [123] with
    | false =>
      have HE9 : Hid (D = ([], 63)) := by show _ = _; rw [← unhide HD]; unfold parseB; rw [if_neg (by simp [unhide HSS]), if_pos hbr]
      rw [hbr] at HQ
      go_wp2_with fail
      refine (unhide (HQ _)).mono ?_
      rintro e w4 ⟨rfl, rfl⟩
      go_wp2_with fail
      go_ret2
      refine ⟨_, ret_vi rfl (by rw [unhide HE9]), ?_, unhide HB3⟩
      rw [unhide HE9]
      exact World.ownsRow_nil _ w.heap.size 69 3
    | true =>
      have ht1 := beginsB_le hbr
      simp at ht1
      have HE : Hid (D = match prsRest l t 0 1 false [] with | none => ([], 63) | some (r, a) => if t.drop a = [125] then (r, 0) else ([], 63)) := by
        show _ = _
        rw [← unhide HD, prsRest_zero]
        unfold parseB
        rw [if_neg (by simp [unhide HSS]), if_neg (by simp [hbr])]
        cases prsLoop l t 1 false <;> rfl
      rw [hbr] at HQ
      clear hbr
      go_wp2_with fail
      refine (unhide (HQ _)).mono ?_
      rintro e w4 ⟨rfl, rfl⟩
      clear HQ
      go_wp2_with fail
      go_loopw [9, 10, 11] (fun at_ sm i wr => ∃ (k a : Nat) (s : Bool) (R : List ValA), k ≤ l.length ∧ i = .int .i64 k ∧ at_ = .int .i64 a ∧ sm = .bool s ∧ 0 ≤ a ∧ a ≤ t.length ∧ Hid (R.length = k) ∧ wr.ownsRow S 69 3 (.slice (some ⟨g, 0, none⟩) l.length cr) l.length (vcs (R ++ zeros (l.drop k))) ∧ Hid (prsRest l t 0 1 false [] = prsRest l t k a s R) ∧ Keeps (fun q => S ≤ q) w4 wr) (fun _ _ i _ => l.length - (intOf i).toNat)
      case atStart => exact ⟨0, 1, false, [], Nat.zero_le _, rfl, rfl, rfl, Nat.zero_le _, ht1, rfl, by simpa using unhide HO3, rfl, Keeps.refl _ _⟩
      case round =>
        obtain ⟨k, a, s, R, hk, rfl, rfl, rfl, ha1, hal, HRL, hown, HU, hkp⟩ := hrel
        have HO := hide hown
        have HK := hide hkp
        have hbw : b < w4.heap.size := by omega
        have hbS' : ¬ S ≤ b := by omega
        have p0 := (hkp.cell (o := 0) hb3 (by show ¬ _ ≤ _; omega)).trans hp3
        have hx9 : (ByteArray.mk t.toArray).extract a t.length = ⟨(t.drop a).toArray⟩ := by rw [ext_str, List.take_of_length_le (by simp)]
        have hal' : (a : Int) ≤ (t.length : Int) := by omega
        by_cases hlt : k < l.length
        · obtain ⟨f, hf⟩ : ∃ f, l[k]? = some f := ⟨_, List.getElem?_eq_getElem hlt⟩
          have c0 := (hkp.cell hbw hbS').trans (unhide HC3 k f hf).1
          have c1 := (hkp.cell hbw hbS').trans (unhide HC3 k f hf).2.1
          have c2 := (hkp.cell hbw hbS').trans (unhide HC3 k f hf).2.2
          have i1 : (k : Int) < (l.length : Int) := by omega
          have HFk := hide hf
          have hnm := (schemaB_name8 (unhide HSS) (List.mem_of_getElem? hf)).1
          have z0 : w.heap.size < wr.heap.size := Nat.lt_of_lt_of_le hb3 hkp.size
          have z1 : b < wr.heap.size := Nat.lt_of_lt_of_le hbw hkp.size
          have sz : w4.heap.size ≤ wr.heap.size := hkp.size
          clear hown hkp hf
          have HQC := fun w => hide (begins_any t a [44] (by omega) ht (by simp) w)
          have a61 := fun w => add_str w f.name [61] (by simp; omega)
          cases s
          case' false =>
            obtain ⟨fr, hfr⟩ : ∃ fr, fr = a := ⟨_, rfl⟩
            have hfr0 : (if false = true then a + 1 else a) = fr := by rw [hfr]; rfl
            have hns0 : ¬ (false = true ∧ beginsB t a [44] = false) := by simp
            have K1 : Hid (beginsB t fr (f.name ++ [61]) = false → prsRest l t 0 1 false [] = prsRest l t (k + 1) a false (R ++ [zeroV f])) := fun hb => (unhide HU).trans (prsRest_skip (unhide HFk) hns0 hfr0 hb)
            have K2 : Hid (beginsB t fr (f.name ++ [61]) = true → (valueAtB f t (fr + f.name.length + 1)).2 < 0 → prsRest l t 0 1 false [] = none) := fun hb hv => (unhide HU).trans (prsRest_none (unhide HFk) hns0 hfr0 hb hv)
            have K3 : Hid (beginsB t fr (f.name ++ [61]) = true → ¬ (valueAtB f t (fr + f.name.length + 1)).2 < 0 → prsRest l t 0 1 false [] = prsRest l t (k + 1) (valueAtB f t (fr + f.name.length + 1)).2.toNat true (R ++ [(valueAtB f t (fr + f.name.length + 1)).1])) := fun hb hv => (unhide HU).trans (prsRest_some (unhide HFk) hns0 hfr0 hb hv)
            clear hfr0 hns0
            have hfrl : fr ≤ t.length := by omega
            have HFI : Hid ((fr : Int) = (a : Int)) := by show _ = _; rw [hfr]
            clear hfr HQC
            go_wp2_with fail
          case' true =>
            cases hcm : beginsB t a [44]
            case' false =>
              have HDE : Hid (D = if t.drop a = [125] then (R ++ zeros (l.drop k), 0) else ([], 63)) := by show _ = _; rw [unhide HE, unhide HU, prsRest_stop (unhide HFk) hcm]
              rw [hcm] at HQC
              clear hcm
              go_wp2_with fail
              refine (unhide (HQC _)).mono ?_
              rintro e w5 ⟨rfl, rfl⟩
              have HRE := hide (unhide HRL)
              have hKW := hide ((unhide HB3).narrow (F := fun q => S ≤ q) (unhide HK) (fun q e => by omega))
              go_wp2_with fail
              · have hc : (!t.drop a == [125]) = true := by assumption
                have HE9 : Hid (D = ([], 63)) := by show _ = _; rw [unhide HDE, if_neg (by simpa using hc)]
                go_ret2
                refine ⟨_, ret_vi rfl (by rw [unhide HE9]), ?_, unhide hKW⟩
                rw [unhide HE9]
                exact World.ownsRow_nil _ w.heap.size 69 3
              · have hc : (!t.drop a == [125]) = false := by assumption
                have HE9 : Hid (D = (R ++ zeros (l.drop k), 0)) := by show _ = _; rw [unhide HDE, if_pos (by simpa using hc)]
                go_ret2
                refine ⟨_, ret_vi rfl (by rw [unhide HE9]), ?_, unhide hKW⟩
                rw [unhide HE9]
                show World.ownsRow _ _ _ _ _ (R ++ zeros (l.drop k)).length _
                rw [show (R ++ zeros (l.drop k)).length = l.length by rw [List.length_append, zeros_length, List.length_drop, unhide HRE]; omega]
                exact ownsRow_lower (unhide HO) (by omega)
            case' true =>
              obtain ⟨fr, hfr⟩ : ∃ fr, fr = a + 1 := ⟨_, rfl⟩
              have hfr0 : (if true = true then a + 1 else a) = fr := by rw [hfr]; rfl
              have hns0 : ¬ (true = true ∧ beginsB t a [44] = false) := by simp [hcm]
              have K1 : Hid (beginsB t fr (f.name ++ [61]) = false → prsRest l t 0 1 false [] = prsRest l t (k + 1) a true (R ++ [zeroV f])) := fun hb => (unhide HU).trans (prsRest_skip (unhide HFk) hns0 hfr0 hb)
              have K2 : Hid (beginsB t fr (f.name ++ [61]) = true → (valueAtB f t (fr + f.name.length + 1)).2 < 0 → prsRest l t 0 1 false [] = none) := fun hb hv => (unhide HU).trans (prsRest_none (unhide HFk) hns0 hfr0 hb hv)
              have K3 : Hid (beginsB t fr (f.name ++ [61]) = true → ¬ (valueAtB f t (fr + f.name.length + 1)).2 < 0 → prsRest l t 0 1 false [] = prsRest l t (k + 1) (valueAtB f t (fr + f.name.length + 1)).2.toNat true (R ++ [(valueAtB f t (fr + f.name.length + 1)).1])) := fun hb hv => (unhide HU).trans (prsRest_some (unhide HFk) hns0 hfr0 hb hv)
              clear hfr0 hns0
              have hfrl : fr ≤ t.length := by have := beginsB_le hcm; simp at this; omega
              have HFI : Hid ((fr : Int) = (a : Int) + 1) := by show _ = _; rw [hfr]; rfl
              rw [hcm] at HQC
              clear hfr hcm
              go_wp2_with fail
              refine (unhide (HQC _)).mono ?_
              rintro e w5 ⟨rfl, rfl⟩
              clear HQC
              go_wp2_with fail
          all_goals
            rename World => wx
            have HZZ : Hid (R ++ zeros (l.drop k) = R ++ zeroV f :: zeros (l.drop (k + 1))) := by show _ = _; rw [drop_at (unhide HFk)]; rfl
            have HQB := hide (begins_any t fr (f.name ++ [61]) (by omega) ht (by simp; omega) wx)
            rw [unhide HFI] at HQB
            cases hbg : beginsB t fr (f.name ++ [61]) with
            | false =>
              rw [hbg] at HQB
              have HU2 := hide (unhide K1 hbg)
              clear hbg
              refine (unhide HQB).mono ?_
              rintro e w6 ⟨rfl, rfl⟩
              clear HQB
              go_wp2_with fail
              go_roundw
              case rel =>
                refine ⟨k + 1, a, _, R ++ [zeroV f], by omega, by go_num, rfl, rfl, ha1, hal, ?_, ?_, unhide HU2, unhide HK⟩
                · show _ = _; rw [List.length_append, unhide HRL]; rfl
                · have h := unhide HO
                  rw [unhide HZZ] at h
                  simpa using h
              case measure => simp [intOf]; omega
            | true =>
              have hfl := beginsB_le hbg
              rw [List.length_append, List.length_singleton] at hfl
              have HQV := hide (valueAt_any f t (fr + f.name.length + 1) wx.drew (by omega) ht)
              have hvl := valueAtB_le f t (fr + f.name.length + 1) (by omega)
              obtain ⟨z, HZ⟩ : ∃ z, Hid ((valueAtB f t (fr + f.name.length + 1)).1 = z) := ⟨_, rfl⟩
              obtain ⟨nx, HNX⟩ : ∃ nx, Hid ((valueAtB f t (fr + f.name.length + 1)).2 = nx) := ⟨_, rfl⟩
              rw [unhide HZ, unhide HNX] at HQV
              rw [unhide HNX] at hvl
              unfold FieldA.v ValA.v at HQV
              rw [hbg] at HQB
              have HBG := hide hbg
              clear hbg
              refine (unhide HQB).mono ?_
              rintro e w6 ⟨rfl, rfl⟩
              clear HQB
              clear K1
              have HFJ : Hid (((fr + f.name.length + 1 : Nat) : Int) = (fr : Int) + (f.name.length : Int) + 1) := by show _ = _; omega
              clear HQV
              have hai : (a : Int) + 1 + (f.name.length : Int) + 1 ≤ 1099511627790 := by omega
              have hka : Keeps (fun _ => False) w6 (w6.alloc (.cells #[.int .i64 0, .int .i64 0, str []] 69)).drew := ((Keeps.refl _ w6).alloc _).drewN 1
              have HKA := hide hka
              have HKD : Hid (Keeps (fun _ => False) w6 w6.drew) := (Keeps.refl _ w6).drew
              have HNB : Hid ((w6.alloc (.cells #[.int .i64 0, .int .i64 0, str []] 69)).drew.heap[w6.heap.size]? = some (.cells #[.int .i64 0, .int .i64 0, str []] 69 (0, 0))) := heap_alloc_new w6 _
              clear hka
              go_wp2_with fail
              go_region_held3 (fun w' => w'.cell? ⟨w.heap.size, 0, none⟩ = some (.slice (some ⟨b, off, none⟩) l.length cap) ∧ w'.cell? ⟨b, off + k * 3, none⟩ = some (str f.name) ∧ w'.cell? ⟨b, off + k * 3 + 1, none⟩ = some (.int .i64 f.type) ∧ w'.cell? ⟨b, off + k * 3 + 2, none⟩ = some (.bool f.opt))
                (go_keep)
                (first
                  | (go_at_call 71
                     refine (valueAt_open f t _ (fr + f.name.length + 1) (by first | (rw [wrap2 _ _ (by omega) (by omega)]; have := unhide HFI; have := unhide HFJ; omega) | (have := unhide HFI; have := unhide HFJ; omega)) _ (by omega) ht (unhide HZ) (unhide HNX)).mono ?_
                     rintro e w7 ⟨rfl, hk7⟩
                     with_reducible have k7 := Keeps.trans (unhide HKA) hk7
                     have K7 := hide k7
                     clear k7
                     have q0 := ((unhide K7).cell (o := 0) z0 id).trans p0
                     have q1 := ((unhide K7).cell z1 id).trans c0
                     have q2 := ((unhide K7).cell z1 id).trans c1
                     have q3 := ((unhide K7).cell z1 id).trans c2
                     have n0 := World.new_ne w7 _ q0
                     have n1 := World.new_ne w7 _ q1
                     have b7 := (hk7.block w6.heap.size (by simp) id).trans (unhide HNB)
                     have m0 := cell_of_blk b7 0
                     have m1 := cell_of_blk b7 1
                     have m2 := cell_of_blk b7 2
                     simp at m0 m1 m2
                     have g0 := frozen_of_blk b7 0
                     have g1 := frozen_of_blk b7 1
                     have g2 := frozen_of_blk b7 2
                     have B7 := hide b7
                     have n2 : w.heap.size ≠ w6.heap.size := Nat.ne_of_lt z0
                     have n3 : b ≠ w6.heap.size := Nat.ne_of_lt z1
                     have n4 : w6.heap.size ≠ w.heap.size := Nat.ne_of_gt z0
                     have n5 : w6.heap.size ≠ b := Nat.ne_of_gt z1
                     clear hk7 b7)
                  | (go_at_call 71
                     refine (valueAt_open f t _ (fr + f.name.length + 1) (by first | (rw [wrap2 _ _ (by omega) (by omega)]; have := unhide HFI; have := unhide HFJ; omega) | (have := unhide HFI; have := unhide HFJ; omega)) _ (by omega) ht (unhide HZ) (unhide HNX)).mono ?_
                     rintro e w7 ⟨rfl, hk7⟩
                     with_reducible have k7 := Keeps.trans (unhide HKD) hk7
                     have K7 := hide k7
                     clear k7
                     have q0 := ((unhide K7).cell (o := 0) z0 id).trans p0
                     have q1 := ((unhide K7).cell z1 id).trans c0
                     have q2 := ((unhide K7).cell z1 id).trans c1
                     have q3 := ((unhide K7).cell z1 id).trans c2
                     have n0 := World.new_ne w7 _ q0
                     have n1 := World.new_ne w7 _ q1
                     clear hk7))
              all_goals
                have hgo := unhide HO
                have hg6 : g < w6.heap.size := by
                  obtain ⟨g', c', e', _, hl'⟩ := hgo.form (by omega)
                  simp at e'
                  omega
                have HO7 := hide (ownsRow_kept hgo (unhide K7) (fun _ _ => id))
                have HK7 := hide ((unhide HK).then (unhide K7) (fun _ _ h => h.elim))
                clear hgo
                first
                | (obtain ⟨⟨s0, s1, s2⟩, hks⟩ := set3 (unhide B7) (.int .i64 z.kind) (.int .i64 z.n) (str z.s)
                   have HOy := hide (ownsRow_kept (unhide HO7) hks (fun q e e2 => by subst e2; simp [Value.ownBlock] at e; omega))
                   have HKy := hide ((unhide HK7).then hks (fun q _ e => by subst e; omega))
                   have hgz : g < w6.heap.size := hg6
                   clear hks B7 m0 m1 m2 g0 g1 g2 n0 n1 n2 n3 n4 n5
                   generalize ((w7.setCell ⟨w6.heap.size, 0, none⟩ (.int .i64 z.kind)).setCell ⟨w6.heap.size, 1, none⟩ (.int .i64 z.n)).setCell ⟨w6.heap.size, 2, none⟩ (str z.s) = wy at *
                   generalize w6.heap.size = zb at *)
                | (obtain ⟨HXA, hxa, hxac⟩ := boxed w7 #[.int .i64 z.kind, .int .i64 z.n, str z.s] 69
                   have s0 := hxac 0 (.int .i64 z.kind) rfl
                   have s1 := hxac 1 (.int .i64 z.n) rfl
                   have s2 := hxac 2 (str z.s) rfl
                   have HOy := hide (ownsRow_kept (unhide HO7) (unhide HXA) (fun _ _ => id))
                   have HKy := hide ((unhide HK7).then (unhide HXA) (fun _ _ h => h.elim))
                   have hgz : g < w7.heap.size := Nat.lt_of_lt_of_le hg6 (unhide K7).size
                   clear hxac HXA n0 n1
                   generalize w7.alloc (.cells #[.int .i64 z.kind, .int .i64 z.n, str z.s] 69) = wy at *
                   generalize w7.heap.size = zb at *)
                have HKW := hide ((unhide HB3).narrow (F := fun q => S ≤ q) (unhide HKy) (fun q e => by omega))
                clear p0 c0 c1 c2 q0 q1 q2 q3
                by_cases hneg : nx < 0
                · have HE9 : Hid (D = ([], 63)) := by show _ = _; rw [unhide HE, unhide K2 (unhide HBG) (by rw [unhide HNX]; exact hneg)]
                  go_wp2_with fail
                  go_ret2
                  refine ⟨_, ret_vi rfl (by rw [unhide HE9]), ?_, unhide HKW⟩
                  rw [unhide HE9]
                  exact World.ownsRow_nil _ w.heap.size 69 3
                · obtain ⟨m, hm⟩ : ∃ m : Nat, nx = m := ⟨nx.toNat, by omega⟩
                  subst hm
                  have HU3 : Hid (prsRest l t 0 1 false [] = prsRest l t (k + 1) m true (R ++ [z])) := by
                    have h3 := unhide K3 (unhide HBG) (by rw [unhide HNX]; omega)
                    rw [unhide HNX, unhide HZ, Int.toNat_natCast] at h3
                    exact h3
                  have hoz := unhide HOy
                  rw [unhide HZZ] at hoz
                  have hgt : (R ++ zeroV f :: zeros (l.drop (k + 1)))[k]? = some (zeroV f) := by rw [List.getElem?_append_right (by rw [unhide HRL]; omega), unhide HRL, Nat.sub_self]; rfl
                  obtain ⟨y, hy⟩ : ∃ y, y = zeroV f := ⟨_, rfl⟩
                  rw [← hy] at hoz hgt
                  have HYY := hide hy
                  clear hy
                  have gk := fun j hj => flat_get ValA.cs (fun _ => rfl) _ k _ j hgt hj
                  have r0 : wy.cell? ⟨g, k * 3, none⟩ = some (.int .i64 y.kind) := own_cell hoz (gk 0 (by omega))
                  have r1 : wy.cell? ⟨g, k * 3 + 1, none⟩ = some (.int .i64 y.n) := own_cell hoz (gk 1 (by omega))
                  have r2 : wy.cell? ⟨g, k * 3 + 2, none⟩ = some (str y.s) := own_cell hoz (gk 2 (by omega))
                  have t0 := own_frozen hoz (k * 3)
                  have t1 := own_frozen hoz (k * 3 + 1)
                  have t2 := own_frozen hoz (k * 3 + 2)
                  have HOZ := hide hoz
                  have hml : m ≤ t.length := by omega
                  have hne1 : zb ≠ g := by omega
                  have hne2 : g ≠ zb := by omega
                  clear hoz gk hgt K2 K3 hneg hgz hg6 HZ HNX HBG HFI HFJ hfl hfrl hx9 a61 hvl hai HKA HKD HNB HO7 HK7 HO HK K7 HOy HKW
                  go_wp2_with fail
                  go_roundw
                  case rel =>
                    refine ⟨k + 1, m, true, R ++ [z], by omega, by go_num, rfl, rfl, Nat.zero_le _, hml, ?_, ?_, unhide HU3, ?_⟩
                    · show _ = _; rw [List.length_append, unhide HRL]; rfl
                    · have h := own_set (own_set (own_set (unhide HOZ) (k * 3) (.int .i64 z.kind)) (k * 3 + 1) (.int .i64 z.n)) (k * 3 + 2) (str z.s)
                      have e := vcs_set3 R (zeros (l.drop (k + 1))) y z
                      rw [unhide HRL] at e
                      rw [e] at h
                      simpa using h
                    · exact (((unhide HKy).then (keeps_set wy g (k * 3) _) (fun q _ e => by omega)).then (keeps_set _ g (k * 3 + 1) _) (fun q _ e => by omega)).then (keeps_set _ g (k * 3 + 2) _) (fun q _ e => by omega)
                  case measure => simp [intOf]; omega
        · obtain rfl : k = l.length := by omega
          have HDE : Hid (D = if t.drop a = [125] then (R, 0) else ([], 63)) := by show _ = _; rw [unhide HE, unhide HU, prsRest_end]
          have hKW := hide ((unhide HB3).narrow (F := fun q => S ≤ q) hkp (fun q e => by omega))
          clear hown hkp
          go_wp2_with fail
          · have hc : (!t.drop a == [125]) = true := by assumption
            have HE9 : Hid (D = ([], 63)) := by show _ = _; rw [unhide HDE, if_neg (by simpa using hc)]
            go_ret2
            refine ⟨_, ret_vi rfl (by rw [unhide HE9]), ?_, unhide hKW⟩
            rw [unhide HE9]
            exact World.ownsRow_nil _ w.heap.size 69 3
          · have hc : (!t.drop a == [125]) = false := by assumption
            have HE9 : Hid (D = (R, 0)) := by show _ = _; rw [unhide HDE, if_pos (by simpa using hc)]
            go_ret2
            refine ⟨_, ret_vi rfl (by rw [unhide HE9]), ?_, unhide hKW⟩
            rw [unhide HE9]
            show World.ownsRow _ _ _ _ _ R.length _
            rw [unhide HRL]
            have h := unhide HO
            rw [List.drop_length, show zeros [] = [] from rfl, List.append_nil] at h
            exact ownsRow_lower h (by omega)
  · rw [he]
    have HE9 : Hid (D = ([], 60)) := by show _ = _; rw [← unhide HD]; unfold parseB; rw [if_pos hs]
    clear hs he
    go_wp2_with fail
    go_ret2
    refine ⟨_, ret_vi rfl (by rw [unhide HE9]), ?_, unhide HB2⟩
    rw [unhide HE9]
    exact World.ownsRow_nil _ w.heap.size 69 3

end Go.Proofs.YtbfkoamledkhnaaGreatDoor
