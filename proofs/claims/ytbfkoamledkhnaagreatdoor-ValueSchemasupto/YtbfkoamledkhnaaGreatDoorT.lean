import Derived.Test.YtbfkoamledkhnaaGreatDoorJf
namespace Go.Proofs.YtbfkoamledkhnaaGreatDoor
open Go.RowKit Go.Maps

theorem flat_le {α β : Type} (g : α → List β) (m : Nat) : ∀ l : List α, (∀ x ∈ l, (g x).length ≤ m) → (l.flatMap g).length ≤ m * l.length
  | [], _ => by simp
  | x :: r, h => by
    have h1 := flat_le g m r (fun y hy => h y (List.mem_cons_of_mem _ hy))
    have h2 := h x (List.mem_cons_self ..)
    simp only [List.flatMap_cons, List.length_append, List.length_cons, Nat.mul_add]
    omega
theorem bs_append (a b : Txt) : bs (a ++ b) = bs a ++ bs b := by simp [bs]
theorem ret_vi {v u : Value} {k : IntKind} {a b : Int} (h : v = u) (h2 : a = b) : Ending.returned (.tuple #[v, .int k a]) = .returned (.tuple #[u, .int k b]) := by rw [h, h2]
/-- What Encode has written ahead of value k. -/
def encTo (l : List FieldA) (r : List ValA) (k : Nat) : Txt := headT (l.zip r) ++ (r.take k).flatMap enc1
theorem encTo_snoc {l : List FieldA} {r : List ValA} {k : Nat} {x : ValA} (h : r[k]? = some x) : encTo l r (k + 1) = encTo l r k ++ enc1 x := by
  unfold encTo
  rw [take_snoc _ _ _ h, List.flatMap_append]
  simp
theorem headT_le (z : List (FieldA × ValA)) : (headT z).length ≤ 1 := by unfold headT; split <;> simp
theorem encTo_le {l : List FieldA} {r : List ValA} (hl : r.length = l.length) (hf : fitAll l r = true) (hI : InR r) (k : Nat) : (encTo l r k).length ≤ 1 + 21 * r.length := by
  unfold encTo
  have h1 := headT_le (l.zip r)
  have h2 := flat_le enc1 21 (r.take k) (fun x hx => by
    obtain ⟨i, hi⟩ := List.mem_iff_getElem?.1 (List.mem_of_mem_take hx)
    have := get_lt hi
    exact enc1_length (fitAll_at hf (List.getElem?_eq_getElem (by omega)) hi) (hI x (List.mem_of_mem_take hx)))
  rw [List.length_take] at h2
  rw [List.length_append]
  have : 21 * min k r.length ≤ 21 * r.length := Nat.mul_le_mul_left _ (Nat.min_le_right _ _)
  omega
theorem enc1_none {x : ValA} (h : x.kind = 0) : enc1 x = [] := by simp [enc1, h]
theorem enc1_int {x : ValA} (h : x.kind = 1) : enc1 x = groups (tn x.n) := by simp [enc1, h]
theorem enc1_bool {x : ValA} (h : x.kind = 2) : enc1 x = [UInt8.ofNat x.n.toNat] := by simp [enc1, h]
theorem enc1_bytes {x : ValA} (h : x.kind = 3) : enc1 x = UInt8.ofNat x.s.length :: x.s := by simp [enc1, h]

theorem errR_cases (l : List FieldA) (r : List ValA) : errR l r = 0 ∨ errR l r = 60 ∨ errR l r = 61 := by
  unfold errR
  repeat' split
  all_goals simp

theorem Keeps.narrowS {F : Nat → Prop} {a b c : World} (h : Keeps (fun _ => False) a b) (k : Keeps F b c) (hF : ∀ i, F i → a.heap.size ≤ i) : Keeps (fun _ => False) a c := h.narrow k hF

set_option maxRecDepth 100000 in
set_option maxHeartbeats 4000000 in
theorem encode_any (l : List FieldA) (v : Value) (r : List ValA) (u : Value) (w : World) (h : FldsAt w v l) (hr : ValsAt w u r) (hI : InR r) :
    Calls Tryz.prog 30 #[.agg #[v], u] w fun e w' => ∃ b', e = .returned (.tuple #[b', .int .i64 (errR l r)]) ∧ w'.ownsRow w.heap.size 5 1 b' (encodeB l r).length (bs (encodeB l r)) ∧ Keeps (fun _ => False) w w' := by
  obtain ⟨i0, hi, hz0, hz1, hz2⟩ := info_parts Tryz.info5
  obtain ⟨ao, cap, rfl⟩ := RowAt.form h
  obtain ⟨bo, cbp, rfl⟩ := RowAt.form hr
  obtain ⟨HB, hb, hbc⟩ := boxed w #[.slice ao l.length cap] 28
  have hp := hbc 0 (.slice ao l.length cap) rfl
  have HF := hide (h.keepF (unhide HB))
  have HV := hide (hr.keepF (unhide HB))
  have HS := hide (check_any l _ r _ _ (unhide HF) (unhide HV))
  have HI := hide hI
  clear hbc h hr hI
  go_enter Tryz.func30, Tryz.ntmps30
  go_wp2_with fail
  refine (unhide HS).mono ?_
  rintro e w2 ⟨rfl, hk2⟩
  have hp2 := (hk2.cell (o := 0) hb id).trans hp
  have hb2 := Nat.lt_of_lt_of_le hb hk2.size
  have HF2 := hide ((unhide HF).keepF hk2)
  have HV2 := hide ((unhide HV).keepF hk2)
  have HB2 := hide ((unhide HB).trans hk2)
  have hw2 : w.heap.size ≤ w2.heap.size := (unhide HB2).size
  clear HS HF HV HB hk2 hp hb
  generalize w.alloc (.cells #[.slice ao l.length cap] 28) = w1 at *
  by_cases he : errR l r = 0
  · obtain ⟨hs, hlen, hfit⟩ := errR_zero he
    have hl8 := (schemaB_len hs).2
    have hl1 := (schemaB_len hs).1
    have HE : Hid (encodeB l r = headT (l.zip r) ++ r.flatMap enc1) := by show _ = _; unfold encodeB; rw [if_pos he]; rfl
    rw [he]
    have HL := hide hlen
    have HT := hide hfit
    have HE0 := hide he
    have hr8 : r.length ≤ 8 := by omega
    clear hs hlen hfit he
    go_wp2_with fail
    go_loopw [8, 9, 10, 11] (fun n j p i wr => ∃ k N P J : Nat, k ≤ r.length ∧ i = .int .i64 k ∧ n = .int .i64 N ∧ p = .int .i64 P ∧ j = .int .i64 J ∧ N ≤ 256 ∧ P ≤ 256 ∧ J ≤ 8 ∧ Hid (N = headN (bitsOf ((l.zip r).take k)) ∧ J = (bitsOf ((l.zip r).take k)).length ∧ P = 2 ^ J) ∧ wr = w2) (fun _ _ _ i _ => r.length - (intOf i).toNat)
    case atStart => exact ⟨0, 0, 1, 0, Nat.zero_le _, rfl, rfl, rfl, rfl, by omega, by omega, by omega, ⟨rfl, rfl, rfl⟩, rfl⟩
    case round =>
      obtain ⟨k, N, P, J, hk, rfl, rfl, rfl, rfl, hN, hP, hJ, HQ, rfl⟩ := hrel
      by_cases hlt : k < r.length
      · obtain ⟨x, hx⟩ : ∃ x, r[k]? = some x := ⟨_, List.getElem?_eq_getElem hlt⟩
        obtain ⟨f, hf⟩ : ∃ f, l[k]? = some f := ⟨_, List.getElem?_eq_getElem (by have := unhide HL; omega)⟩
        obtain ⟨b, off, c, e, hbl, hc⟩ := (unhide HF2).cells (by have := unhide HL; omega)
        simp at e
        obtain ⟨rfl, rfl⟩ := e
        obtain ⟨b', off', c', e', hbl', hc'⟩ := (unhide HV2).cells (by omega)
        simp at e'
        obtain ⟨rfl, rfl⟩ := e'
        have c2 := (hc k f hf).2.2
        have d0 := (hc' k x hx).1
        have i1 : (k : Int) < (r.length : Int) := by omega
        have i2 : (k : Int) < (l.length : Int) := by have := unhide HL; omega
        have HZ : Hid (bitsOf ((l.zip r).take (k + 1)) = bitsOf ((l.zip r).take k) ++ (if f.opt then [decide (x.kind ≠ 0)] else [])) := by
          show _ = _
          rw [take_snoc _ _ _ (zip_get hf hx), bitsOf_snoc]
        have HZL : Hid ((bitsOf ((l.zip r).take (k + 1))).length ≤ k + 1) := by
          have h1 := bitsOf_le ((l.zip r).take (k + 1))
          rw [List.length_take] at h1
          exact Nat.le_trans h1 (by omega)
        generalize bitsOf ((l.zip r).take k) = Z at *
        obtain ⟨Z', HZE⟩ : ∃ Z', Hid (bitsOf ((l.zip r).take (k + 1)) = Z') := ⟨_, rfl⟩
        rw [unhide HZE] at HZ HZL
        clear hc hc' hf hx
        cases hfo : f.opt with
        | false =>
          rw [hfo] at c2 HZ
          simp only [Bool.false_eq_true, if_false, List.append_nil] at HZ
          go_wp2_with fail
          go_roundw
          case rel => exact ⟨k + 1, N, P, J, by omega, by go_num, rfl, rfl, rfl, hN, hP, hJ, by rw [unhide HZE, unhide HZ]; exact HQ, trivial⟩
          case measure => simp [intOf]; omega
        | true =>
          rw [hfo] at c2 HZ
          simp only [if_true] at HZ
          have HQ2 : Hid (∀ b : Bool, Z' = Z ++ [b] → headN Z' = N + (if b then P else 0) ∧ J + 1 = Z'.length ∧ P * 2 = 2 ^ (J + 1) ∧ headN Z' ≤ 256 ∧ P * 2 ≤ 256 ∧ J + 1 ≤ 8) := by
            intro b hb
            obtain ⟨q1, q2, q3⟩ := unhide HQ
            have hln := unhide HZL
            have hhl := headN_lt Z'
            have hp2 := pow2_le (k := Z'.length) (by omega)
            have hJ1 : J + 1 = Z'.length := by rw [hb, q2]; simp
            have hPP : P * 2 = 2 ^ (J + 1) := by rw [q3, Nat.pow_succ]
            refine ⟨?_, hJ1, hPP, by omega, by rw [hPP, hJ1]; exact hp2, by omega⟩
            rw [hb, headN_snoc, ← q1, ← q2, ← q3]
          by_cases hk0 : x.kind = 0
          · have hk0' : (x.kind != 0) = false := by simp [hk0]
            obtain ⟨q1, q2, q3, q4, q5, q6⟩ := unhide HQ2 false (by rw [unhide HZ]; simp [hk0])
            have HQ3 : Hid (N = headN Z' ∧ J + 1 = Z'.length ∧ P * 2 = 2 ^ (J + 1)) := ⟨by simpa using q1.symm, q2, q3⟩
            clear q1 q2 q3 q4 hk0
            go_wp2_with fail
            go_roundw
            case rel => exact ⟨k + 1, N, P * 2, J + 1, by omega, by go_num, rfl, by go_num, by go_num, hN, q5, q6, by rw [unhide HZE]; exact HQ3, trivial⟩
            case measure => simp [intOf]; omega
          · have hk0' : (x.kind != 0) = true := by simpa using hk0
            obtain ⟨q1, q2, q3, q4, q5, q6⟩ := unhide HQ2 true (by rw [unhide HZ]; simp [hk0])
            simp only [if_true] at q1
            rw [q1] at q4
            have HQ3 : Hid (N + P = headN Z' ∧ J + 1 = Z'.length ∧ P * 2 = 2 ^ (J + 1)) := ⟨q1.symm, q2, q3⟩
            clear q1 q2 q3 hk0
            go_wp2_with fail
            go_roundw
            case rel => exact ⟨k + 1, N + P, P * 2, J + 1, by omega, by go_num, by go_num, by go_num, by go_num, q4, q5, q6, by rw [unhide HZE]; exact HQ3, trivial⟩
            case measure => simp [intOf]; omega
      · obtain rfl : k = r.length := by omega
        have HN : Hid (N = headN (bitsOf (l.zip r)) ∧ J = (bitsOf (l.zip r)).length ∧ N < 256) := by
          obtain ⟨q1, q2, q3⟩ := unhide HQ
          rw [List.take_of_length_le (by rw [List.length_zip]; have := unhide HL; omega)] at q1 q2
          have hhl := headN_lt (bitsOf (l.zip r))
          have hp2 := pow2_le (k := (bitsOf (l.zip r)).length) (by omega)
          exact ⟨q1, q2, by omega⟩
        have HE2 : Hid (encodeB l r = encTo l r r.length) := by show _ = _; rw [unhide HE]; unfold encTo; rw [List.take_length]
        have HA0 : Hid (encTo l r 0 = headT (l.zip r)) := by show _ = _; simp [encTo]
        have HAL := fun k => hide (encTo_le (unhide HL) (unhide HT) (unhide HI) k)
        obtain ⟨S, hS⟩ : ∃ S, S = wr.heap.size := ⟨_, rfl⟩
        obtain ⟨b', off', c', e', hbl', hc'⟩ := (unhide HV2).cells (by have := unhide HL; omega)
        simp at e'
        obtain ⟨rfl, rfl⟩ := e'
        rw [← hS] at hbl'
        by_cases hJ0 : 0 < J
        case' pos =>
          have HN2 : Hid (headT (l.zip r) = [UInt8.ofNat N] ∧ num (UInt8.ofNat N) = (N : Int)) := by
            obtain ⟨q1, q2, q3⟩ := unhide HN
            exact ⟨by unfold headT; rw [if_pos (by omega), q1], num_of N q3⟩
          have hN3 : N < 256 := (unhide HN).2.2
          clear HN HQ hlt hk hP hN
          go_wp2_with (at_builtin; refine wpList_append_lies _ rfl _ _ _ rfl S 5 i0 _ 1 1 Tryz.underlying30 hi hz0 hz1 hz2 rfl (by omega) (.slice none 0 0) 0 [] rfl (World.ownsRow_nil _ S 5 1) ⟨wr.heap.size, 0, none⟩ 1 1 [.int .u8 (N : Int)] rfl rfl (World.news_of_block (cs := #[.int .u8 (N : Int)]) (t := 5) (fr := (0, 0)) (heap_alloc_new wr _)) (by simp [Value.oneCell']) (by omega) (by unfold maxLen; omega) (by omega) (by simp; omega) (wr.heap.size + 1) (by simp) ?_; intro g cap' w3 hown1 hgrow hat hlt1)
          have HO3 : Hid (w3.ownsRow S 5 1 (.slice (some ⟨g, 0, none⟩) (0 + 1) cap') (encTo l r 0).length (bs (encTo l r 0))) := by
            show World.ownsRow _ _ _ _ _ _ _
            rw [unhide HA0, (unhide HN2).1]
            simp only [bs, List.map_cons, List.map_nil, (unhide HN2).2, List.length_singleton]
            simpa using hown1
          have hk3 : Keeps (fun _ => False) wr w3 := ((Keeps.refl _ _).alloc _).grown hgrow (fun q e hq => by cases e)
          have HC3 : Hid (∀ i f, r[i]? = some f → w3.cell? ⟨b', off' + i * 3, none⟩ = some (.int .i64 f.kind) ∧ w3.cell? ⟨b', off' + i * 3 + 1, none⟩ = some (.int .i64 f.n) ∧ w3.cell? ⟨b', off' + i * 3 + 2, none⟩ = some (str f.s)) := fun i f hf => by
            have hb3 : b' < wr.heap.size := by omega
            rw [hk3.cell hb3 id, hk3.cell hb3 id, hk3.cell hb3 id]
            exact hc' i f hf
          have HB3 := hide ((unhide HB2).trans hk3)
          have hS3 : S ≤ w3.heap.size := by have := hk3.size; omega
          have hS0 : w.heap.size ≤ S := by omega
          clear HV2 HB2 HF2 hc' hk3 hown1 hgrow hat hlt1 hp2 hb2 hw2 hS HN2
        case' neg =>
          have hJ1 : (J : Int) ≤ 0 := by omega
          have HO3 : Hid (wr.ownsRow S 5 1 (.slice none 0 0) (encTo l r 0).length (bs (encTo l r 0))) := by
            show World.ownsRow _ _ _ _ _ _ _
            rw [unhide HA0, show headT (l.zip r) = [] by unfold headT; rw [if_neg (by have := (unhide HN).2.1; omega)]]
            exact World.ownsRow_nil _ S 5 1
          have HC3 := hide hc'
          have HB3 := HB2
          have hS3 : S ≤ wr.heap.size := by omega
          have hS0 : w.heap.size ≤ S := by omega
          clear HN HQ hlt hk hP hN HV2 HB2 HF2 hp2 hb2 hw2 hS hc'
          go_wp2_with fail
        all_goals
          rename World => wc
          go_loopw [7, 12] (fun o i wr => ∃ k : Nat, k ≤ r.length ∧ i = .int .i64 k ∧ wr.ownsRow S 5 1 o (encTo l r k).length (bs (encTo l r k)) ∧ Keeps (fun q => S ≤ q) wc wr) (fun _ i _ => r.length - (intOf i).toNat)
          case atStart => exact ⟨0, Nat.zero_le _, rfl, unhide HO3, Keeps.refl _ _⟩
          case round =>
            obtain ⟨k, hk, rfl, hown, hkp⟩ := hrel
            have HO := hide hown
            have HK := hide hkp
            have hal := unhide (HAL k)
            by_cases hlt : k < r.length
            · obtain ⟨x, hx⟩ : ∃ x, r[k]? = some x := ⟨_, List.getElem?_eq_getElem hlt⟩
              have hbw : b' < wc.heap.size := by omega
              have hbS : ¬ S ≤ b' := by omega
              have d0 := (hkp.cell hbw hbS).trans (unhide HC3 k x hx).1
              have d1 := (hkp.cell hbw hbS).trans (unhide HC3 k x hx).2.1
              have d2 := (hkp.cell hbw hbS).trans (unhide HC3 k x hx).2.2
              have i1 : (k : Int) < (r.length : Int) := by omega
              have HS1 := hide (encTo_snoc (l := l) hx)
              have z1 : b' < wr.heap.size := Nat.lt_of_lt_of_le hbw hkp.size
              obtain ⟨A', HA'⟩ : ∃ A', Hid (encTo l r (k + 1) = A') := ⟨_, rfl⟩
              have hal' := unhide (HAL (k + 1))
              rw [unhide HA'] at HS1 hal'
              obtain ⟨A, HAA⟩ : ∃ A, Hid (encTo l r k = A) := ⟨_, rfl⟩
              rw [unhide HAA] at HS1 HO hal
              have hlen : A'.length = A.length + (enc1 x).length := by rw [unhide HS1, List.length_append]
              have hAx : (enc1 x).length ≤ 300 := by omega
              have hAl : A.length ≤ 300 := by omega
              have HX := hide hx
              have HKD := hide (fitsB_kind (fitAll_at (unhide HT) (List.getElem?_eq_getElem (show k < l.length by have := unhide HL; omega)) hx))
              clear hown hkp hx hal hal' hlen
              rcases unhide HKD with h0 | h0 | ⟨h0, hn0, hn1⟩ | ⟨h0, hsl⟩
              · have HE1 := hide (enc1_none h0)
                rw [h0] at d0
                rw [unhide HE1, List.append_nil] at HS1
                clear h0 HKD
                go_wp2_with fail
                go_roundw
                case rel => exact ⟨k + 1, by omega, by go_num, by rw [unhide HA', unhide HS1]; exact unhide HO, unhide HK⟩
                case measure => simp [intOf]; omega
              · have HE1 := hide (enc1_int h0)
                rw [h0] at d0
                rw [unhide HE1] at HS1
                have HQ := hide (addInt_any wr S _ A.length (bs A) x.n (unhide HI x (List.mem_of_getElem? (unhide HX))).1 (unhide HI x (List.mem_of_getElem? (unhide HX))).2 (unhide HO) (by omega) (by have := (unhide HK).size; omega))
                clear h0 HKD
                go_wp2_with fail
                refine (unhide HQ).mono ?_
                rintro e w4 ⟨v', rfl, ho4, hk4, _⟩
                obtain ⟨oo, oc, rfl⟩ := (rowAt_own ho4).form
                have HO4 := hide ho4
                have HK4 := hide hk4
                clear ho4 hk4 HQ
                go_wp2_with fail
                go_roundw
                case rel =>
                  refine ⟨k + 1, by omega, by go_num, ?_, (unhide HK).then (unhide HK4) (fun q _ e => ((unhide HO).lt q e).1)⟩
                  rw [unhide HA', unhide HS1, List.length_append, bs_append]
                  exact unhide HO4
                case measure => simp [intOf]; omega
              · have HE1 := hide (enc1_bool h0)
                rw [h0] at d0
                rw [unhide HE1] at HS1
                have HC : Hid (num (UInt8.ofNat x.n.toNat) = x.n) := by show _ = _; rw [num_of _ (by omega)]; omega
                clear h0 HKD
                go_wp2_with (at_builtin; refine wpList_append_lies _ rfl _ _ _ rfl S 5 i0 _ 1 1 Tryz.underlying30 hi hz0 hz1 hz2 rfl (by omega) u7 A.length (bs A) rfl ((unhide HO).alloc _) ⟨wr.heap.size, 0, none⟩ 1 1 [.int .u8 x.n] rfl rfl (World.news_of_block (cs := #[.int .u8 x.n]) (t := 5) (fr := (0, 0)) (heap_alloc_new wr _)) (by simp [Value.oneCell']) (by omega) (by unfold maxLen; omega) (by omega) (by have := (unhide HK).size; simp; omega) (wr.heap.size + 1) (by simp) ?_; intro g cap' w5 hown1 hgrow hat hlt1)
                go_roundw
                case rel =>
                  refine ⟨k + 1, by omega, by go_num, ?_, ((unhide HK).alloc _).grown hgrow (fun q e _ => ((unhide HO).lt q e).1)⟩
                  rw [unhide HA', unhide HS1, List.length_append, bs_append]
                  simp only [bs, List.map_cons, List.map_nil, unhide HC, List.length_singleton] at hown1 ⊢
                  exact hown1
                case measure => simp [intOf]; omega
              · have HE1 := hide (enc1_bytes h0)
                rw [h0] at d0
                rw [unhide HE1] at HS1
                have HC : Hid (num (UInt8.ofNat x.s.length) = (x.s.length : Int)) := num_of _ (by omega)
                clear h0 HKD
                go_wp2_with (at_builtin; refine wpList_append_lies _ rfl _ _ _ rfl S 5 i0 _ 1 1 Tryz.underlying30 hi hz0 hz1 hz2 rfl (by omega) u7 A.length (bs A) rfl ((unhide HO).alloc _) ⟨wr.heap.size, 0, none⟩ 1 1 [.int .u8 (x.s.length : Int)] rfl rfl (World.news_of_block (cs := #[.int .u8 (x.s.length : Int)]) (t := 5) (fr := (0, 0)) (heap_alloc_new wr _)) (by simp [Value.oneCell']) (by omega) (by unfold maxLen; omega) (by omega) (by have := (unhide HK).size; simp; omega) (wr.heap.size + 1) (by simp) ?_; intro g cap' w5 hown1 hgrow hat hlt1)
                have HO5 : Hid (w5.ownsRow S 5 1 (.slice (some ⟨g, 0, none⟩) (A.length + 1) cap') (A.length + 1) (bs (A ++ [UInt8.ofNat x.s.length]))) := by
                  show World.ownsRow _ _ _ _ _ _ _
                  rw [bs_append]
                  simp only [bs, List.map_cons, List.map_nil, unhide HC] at hown1 ⊢
                  exact hown1
                have hk5 : Keeps (fun q => S ≤ q) wr w5 := ((Keeps.refl _ _).alloc _).grown hgrow (fun q e _ => ((unhide HO).lt q e).1)
                have e2 := (hk5.cell z1 hbS).trans d2
                have z5 : b' < w5.heap.size := Nat.lt_of_lt_of_le z1 hk5.size
                have HK5 := hide ((unhide HK).trans hk5)
                have hS5 : S ≤ w5.heap.size := by have := (unhide HK5).size; omega
                obtain ⟨D, HDD⟩ : ∃ D, Hid (A ++ [UInt8.ofNat x.s.length] = D) := ⟨_, rfl⟩
                have hDl : D.length = A.length + 1 := by rw [← unhide HDD]; simp
                have hDl2 : D.length ≤ 301 := by omega
                have HDL := hide hDl
                rw [unhide HDD, ← hDl] at HO5
                have HS2 : Hid (A' = D ++ x.s) := by show _ = _; rw [unhide HS1, ← unhide HDD]; simp
                rw [← hDl]
                clear hown1 hgrow hat hlt1 hk5 d0 d1 d2 HO HK hDl HS1
                go_loopw [7, 13] (fun o i w6 => ∃ j : Nat, j ≤ x.s.length ∧ i = .int .i64 j ∧ w6.ownsRow S 5 1 o (D.length + j) (bs D ++ bs (x.s.take j)) ∧ Keeps (fun q => S ≤ q) w5 w6) (fun _ i _ => x.s.length - (intOf i).toNat)
                case atStart => exact ⟨0, Nat.zero_le _, rfl, by simpa [bs] using unhide HO5, Keeps.refl _ _⟩
                case round =>
                  obtain ⟨j, hj, rfl, hown6, hk6⟩ := hrel
                  have HO6 := hide hown6
                  have HK6 := hide hk6
                  have f2 := (hk6.cell z5 hbS).trans e2
                  clear hown6 hk6
                  cases hy : x.s[j]? with
                  | none =>
                    have h1 := get_ge hy
                    obtain rfl : j = x.s.length := by omega
                    rw [List.take_length] at HO6
                    clear hy h1 hj
                    go_wp2_with fail
                    go_roundw
                    case rel =>
                      refine ⟨k + 1, by omega, by go_num, ?_, (unhide HK5).trans (unhide HK6)⟩
                      rw [unhide HA', unhide HS2, List.length_append, bs_append]
                      exact unhide HO6
                    case measure => simp [intOf]; omega
                  | some y =>
                    have h1 := get_lt hy
                    have q := str_at hy
                    have e1 : (y.toNat : Int) = num y := rfl
                    have HY := hide hy
                    clear hy
                    go_wp2_with (at_builtin; refine wpList_append_lies _ rfl _ _ _ rfl S 5 i0 _ 1 1 Tryz.underlying30 hi hz0 hz1 hz2 rfl (by omega) u7 (D.length + j) (bs D ++ bs (x.s.take j)) rfl ((unhide HO6).alloc _) ⟨wr.heap.size, 0, none⟩ 1 1 [.int .u8 (num y)] rfl rfl (World.news_of_block (cs := #[.int .u8 (num y)]) (t := 5) (fr := (0, 0)) (heap_alloc_new wr _)) (by simp [Value.oneCell']) (by omega) (by unfold maxLen; omega) (by omega) (by have := (unhide HK6).size; simp; omega) (wr.heap.size + 1) (by simp) ?_; intro g' cap'' w7 hown7 hgrow7 hat7 hlt7)
                    go_roundw
                    case rel =>
                      refine ⟨j + 1, by omega, by go_num, ?_, ((unhide HK6).alloc _).grown hgrow7 (fun q e _ => ((unhide HO6).lt q e).1)⟩
                      rw [take_snoc _ _ _ (unhide HY), bs_append, ← List.append_assoc]
                      exact hown7
                    case measure => simp [intOf]; omega
            · obtain rfl : k = r.length := by omega
              clear hown hkp
              go_wp2_with fail
              go_ret2
              refine ⟨_, ret_vi rfl (unhide HE0).symm, ?_, (unhide HB3).narrow (unhide HK) (fun q e => Nat.le_trans hS0 e)⟩
              rw [unhide HE2]
              exact ownsRow_lower (unhide HO) hS0
  · have HE : Hid (encodeB l r = []) := by show _ = _; unfold encodeB; rw [if_neg he]
    have he' : (errR l r != 0) = true := by simpa using he
    go_wp2_with fail
    go_ret2
    refine ⟨_, rfl, ?_, unhide HB2⟩
    rw [unhide HE]
    exact World.ownsRow_nil w2 w.heap.size 5 1

end Go.Proofs.YtbfkoamledkhnaaGreatDoor
