import Derived.Test.YtcicaifioghciaaGreatDoorGa
import Derived.Test.YtcicaifioghciaaGreatDoorJzai
namespace Go.Proofs.YtcicaifioghciaaGreatDoor
open Go.RowKit Go.Maps

theorem drop_len {t : Txt} {a : Nat} {c : UInt8} {r : Txt} (h : t.drop a = c :: r) : t[a]? = some c ∧ a + 1 + r.length = t.length ∧ t.drop (a + 1) = r := by
  have hl := congrArg List.length h
  simp at hl
  have hlt : a < t.length := by omega
  rw [List.drop_eq_getElem_cons hlt] at h
  obtain ⟨h1, h2⟩ := List.cons.inj h
  refine ⟨by rw [List.getElem?_eq_getElem hlt, h1], by omega, h2⟩
theorem opd_big {c : UInt8} : -1 ≤ opdB (num c) ∧ opdB (num c) ≤ 4 := by
  rcases opdB_cases (num c) with e | e | e | e | e | e <;> omega
set_option maxRecDepth 100000 in
set_option maxHeartbeats 4000000 in
theorem read_v (w : World) (v : Value) (t : Txt) (a : Nat) (h : BytesAt w v t) (ha : a < t.length) (ht : t.length ≤ 4096) :
    Calls Tryz.prog 36 #[v, .int .i64 a] w fun e w' => e = .returned (.tuple #[ValA.v (readC (t.drop a)).1, .int .i64 ((t.length : Int) - ((readC (t.drop a)).2.length : Int))]) ∧ Keeps (fun _ => False) w w' := by
  obtain ⟨b, off, cap, rfl, hblt, hc⟩ := RowAt.cells h (by omega)
  obtain ⟨c, r, hcr⟩ : ∃ c r, t.drop a = c :: r := by
    cases hd : t.drop a with
    | nil => have := congrArg List.length hd; simp at this; omega
    | cons c r => exact ⟨c, r, rfl⟩
  obtain ⟨hta, hlen, hdr⟩ := drop_len hcr
  have hget : ∀ (j : Nat) (x : UInt8), t[j]? = some x → w.cell? ⟨b, off + j, none⟩ = some (.int .u8 (num x)) := fun j x hx => hc j _ (by rw [bs_get, hx]; rfl)
  have HG := hide hget
  have cA := (((Keeps.refl (fun _ => False) w).alloc (.cells #[.int .i64 0, .int .i64 0, .string ⟨#[]⟩] 51)).cell hblt id).trans (hget a c hta)
  have hn := num_range c
  have i1 : (a : Int) < (t.length : Int) := by omega
  have i0 : (0 : Int) ≤ (a : Int) := by omega
  have HF := hide h
  have HQ := hide (operand_v (num c) ((w.alloc (.cells #[.int .i64 0, .int .i64 0, .string ⟨#[]⟩] 51)).alloc (.cells #[.int .i64 (num c), .int .i64 0, .string ⟨#[]⟩] 51)))
  have HKA : Hid (Keeps (fun _ => False) w ((w.alloc (.cells #[.int .i64 0, .int .i64 0, .string ⟨#[]⟩] 51)).alloc (.cells #[.int .i64 (num c), .int .i64 0, .string ⟨#[]⟩] 51))) := ((Keeps.refl _ w).alloc _).alloc _
  rw [hcr]
  clear hc h hget hcr
  by_cases h1 : opdB (num c) = 1
  · have HTB := hide (turnedBack_v ((w.alloc (.cells #[.int .i64 0, .int .i64 0, .string ⟨#[]⟩] 51)).alloc (.cells #[.int .i64 (num c), .int .i64 0, .string ⟨#[]⟩] 51)) _ t (a + 1) ((unhide HF).keepF (unhide HKA)) (by omega) ht)
    rw [hdr] at HTB
    have HE : Hid (readC (c :: r) = (⟨num c, backB (tbB r 0 1).1, []⟩, (tbB r 0 1).2)) := by show _ = _; simp only [readC]; rw [if_pos h1]
    rw [unhide HE]
    rw [h1] at HQ
    clear h1
    generalize tbB r 0 1 = TB at *
    generalize backB (TB.1 : Int) = N at *
    generalize num c = m at *
    go_enter Tryz.func36, Tryz.ntmps36
    go_wp2_with fail
    refine (unhide HQ).mono ?_
    rintro e w2 ⟨rfl, rfl⟩
    go_wp2_with fail
    refine (unhide HTB).mono ?_
    rintro e w3 ⟨rfl, rfl⟩
    go_wp2_with fail
    refine bodyPost_ret (v := .tuple #[ValA.v ⟨m, N, []⟩, .int .i64 ((t.length : Int) - (TB.2.length : Int))]) (by simp [results, go_sem, ValA.v]) rfl ?_
    exact ⟨rfl, ((Keeps.refl _ w).alloc _).alloc _⟩
  · by_cases h2 : opdB (num c) = 2
    · rw [h2] at HQ
      cases r with
      | nil =>
        have HE : Hid (readC [c] = (⟨num c, 0, []⟩, [])) := by show _ = _; simp only [readC]; rw [if_neg h1, if_pos h2]
        rw [unhide HE]
        have i2 : ¬ (a : Int) + 1 < (t.length : Int) := by simp at hlen; omega
        have HLN : Hid ((a : Int) + 1 = (t.length : Int) - (([] : Txt).length : Int)) := by show _ = _; simp at hlen ⊢; omega
        clear h1 h2
        generalize num c = m at *
        go_enter Tryz.func36, Tryz.ntmps36
        go_wp2_with fail
        refine (unhide HQ).mono ?_
        rintro e w2 ⟨rfl, rfl⟩
        go_wp2_with fail
        refine bodyPost_ret (v := .tuple #[ValA.v ⟨m, 0, []⟩, .int .i64 ((a : Int) + 1)]) (by simp [results, go_sem, ValA.v]) rfl ?_
        exact ⟨by rw [unhide HLN]; try rfl, ((Keeps.refl _ w).alloc _).alloc _⟩
      | cons k q =>
        have HE : Hid (readC (c :: k :: q) = (⟨num c, 0, q.take k.toNat⟩, q.drop k.toNat)) := by show _ = _; simp only [readC]; rw [if_neg h1, if_pos h2]
        rw [unhide HE]
        obtain ⟨htk, hlk, hdq⟩ := drop_len hdr
        have i2 : (a : Int) + 1 < (t.length : Int) := by omega
        have hk := num_range k
        have cK := ((unhide HKA).cell hblt id).trans ((unhide HG) (a + 1) k htk)
        obtain ⟨C, hC⟩ : ∃ C, k.toNat = C := ⟨_, rfl⟩
        have hCn : num k = (C : Int) := by unfold num; omega
        have hC255 : C ≤ 255 := by have := k.toNat_lt; omega
        rw [hCn] at cK
        rw [hC]
        have HDQ := hide hdq
        clear h1 h2 htk hCn hC hdq hdr HE hk
        generalize num c = m at *
        go_enter Tryz.func36, Tryz.ntmps36
        go_wp2_with fail
        refine (unhide HQ).mono ?_
        rintro e w2 ⟨rfl, rfl⟩
        have HB1 : Hid (((w.alloc (.cells #[.int .i64 0, .int .i64 0, .string ⟨#[]⟩] 51)).alloc (.cells #[.int .i64 m, .int .i64 0, .string ⟨#[]⟩] 51)).heap[w.heap.size + 1]? = some (.cells #[.int .i64 m, .int .i64 0, str []] 51 (0, 0))) := by
          have q := heap_alloc_new (w.alloc (.cells #[.int .i64 0, .int .i64 0, .string ⟨#[]⟩] 51)) (.cells #[.int .i64 m, .int .i64 0, .string ⟨#[]⟩] 51)
          rw [World.size_alloc] at q
          exact q
        have HB0 : Hid (((w.alloc (.cells #[.int .i64 0, .int .i64 0, .string ⟨#[]⟩] 51)).alloc (.cells #[.int .i64 m, .int .i64 0, .string ⟨#[]⟩] 51)).heap[w.heap.size]? = some (.cells #[.int .i64 0, .int .i64 0, .string ⟨#[]⟩] 51 (0, 0))) := by
          show _ = _
          rw [Below.heap_alloc _ _ _ (by simp)]
          exact heap_alloc_new w _
        go_wp2_with fail
        go_loopw [1, 8] (fun i j wr => ∃ s : Nat, s ≤ C ∧ s ≤ q.length ∧ i = .int .i64 ((a + 2 + s : Nat) : Int) ∧ j = .int .i64 s ∧ wr.heap[w.heap.size + 1]? = some (.cells #[.int .i64 m, .int .i64 0, str (q.take s)] 51 (0, 0)) ∧ wr.heap[w.heap.size]? = some (.cells #[.int .i64 0, .int .i64 0, .string ⟨#[]⟩] 51 (0, 0)) ∧ Keeps (fun _ => False) w wr) (fun _ j _ => C - (intOf j).toNat)
        case atStart => exact ⟨0, by omega, by omega, by go_num, rfl, unhide HB1, unhide HB0, unhide HKA⟩
        case round =>
          obtain ⟨s, hs1, hs2, rfl, rfl, hb1, hb0, hkp⟩ := hrel
          have HK := hide hkp
          have HB1R := hide hb1
          have HB0R := hide hb0
          have x2 := (cell_of_blk hb1 2).trans (show (#[.int .i64 m, .int .i64 0, str (q.take s)] : Array Value)[2]? = some (str (q.take s)) from rfl)
          have hz2 := frozen_of_blk hb1 2
          have hg1 : w.heap.size + 1 < wr.heap.size := lt_of_block hb1
          by_cases hgo : s < C ∧ s < q.length
          · obtain ⟨hg2, hg3⟩ := hgo
            obtain ⟨x, hx⟩ : ∃ x, q[s]? = some x := ⟨_, List.getElem?_eq_getElem hg3⟩
            have htx : t[a + 2 + s]? = some x := by
              have h5 := congrArg (fun l => l[s]?) (unhide HDQ)
              simp only [List.getElem?_drop] at h5
              rw [show a + 1 + 1 + s = a + 2 + s by omega] at h5
              rw [h5]
              exact hx
            have cX := (hkp.cell hblt id).trans ((unhide HG) (a + 2 + s) x htx)
            have HSN := hide (take_snoc _ _ _ hx)
            have hroom := RowAt.room (unhide HF) _ _ _ rfl
            have g1 : (s : Int) < (C : Int) := by omega
            have g2 : ((a + 2 + s : Nat) : Int) < (t.length : Int) := by omega
            have g2b : decide (((a + 2 + s : Nat) : Int) < (t.length : Int)) = true := decide_eq_true g2
            obtain ⟨P, hP⟩ : ∃ P : Nat, a + 2 + s = P := ⟨_, rfl⟩
            rw [hP] at cX g2 g2b ⊢
            have hPt : P < t.length := by omega
            have hPc : (P : Int) + 1 ≤ (cap : Int) := by omega
            have hPc2 : (P : Int) < (cap : Int) := by omega
            have hPc3 : ¬ cap = P := by omega
            have hPt2 : (P : Int) + 1 ≤ (t.length : Int) := by omega
            have hP0 : (0 : Int) ≤ (P : Int) := by omega
            obtain ⟨T, hT⟩ : ∃ T, q.take s ++ [x] = T := ⟨_, rfl⟩
            have hadd : ∀ w' : World, (Op.stringOp .add (ByteArray.mk (q.take s).toArray) (ByteArray.mk [x].toArray)).run Tryz.prog w' = .ok (str T) w' := fun w' => by
              rw [← hT]
              exact add_str w' (q.take s) [x] (by simp; omega)
            have hconv : ∀ w' : World, w'.cell? ⟨b, off + P, none⟩ = some (.int .u8 (num x)) → (convert 29 9 (.slice (some ⟨b, off + P, none⟩) 1 (cap - P))).run Tryz.prog w' = .ok (str [x]) w' := fun w' h' => conv_at w' b (off + P) (cap - P) [x] (fun j c hc => by
              cases j with
              | zero => simp at hc; subst hc; rw [Nat.add_zero]; exact h'
              | succ j => simp at hc)
            have hcv := hconv wr.drew cX
            have HT := hide hT
            have HSP : Hid (a + 2 + (s + 1) = P + 1) := by show _ = _; omega
            have HB1N := hide (heap_setCell_at (o := 2) hb1 (str T))
            have HB0N : Hid ((wr.setCell ⟨w.heap.size + 1, 2, none⟩ (str T)).heap[w.heap.size]? = some (.cells #[.int .i64 0, .int .i64 0, .string ⟨#[]⟩] 51 (0, 0))) := by
              show _ = _
              rw [Below.heap_setCell _ _ _ _ (by simp)]
              exact hb0
            have HKN := hide (hkp.fresh (show w.heap.size ≤ w.heap.size + 1 by omega) (keeps_set1 wr (w.heap.size + 1) 2 (str T)))
            clear hx htx hkp hb1 hb0 hconv hT hP hs1 hs2
            go_wp2_with fail
            go_region
            go_wp2_with fail
            go_roundw
            case rel =>
              refine ⟨s + 1, by omega, by omega, ?_, by go_num, ?_, unhide HB0N, (unhide HKN).drew⟩
              · rw [unhide HSP]
                go_num
              · rw [unhide HSN, unhide HT]
                exact unhide HB1N
            case measure => simp [intOf]; omega
          · have x0 := (cell_of_blk hb1 0).trans (show (#[.int .i64 m, .int .i64 0, str (q.take s)] : Array Value)[0]? = some (.int .i64 m) from rfl)
            have x1 := (cell_of_blk hb1 1).trans (show (#[.int .i64 m, .int .i64 0, str (q.take s)] : Array Value)[1]? = some (.int .i64 0) from rfl)
            have z0 := frozen_of_blk hb0 0
            have z1 := frozen_of_blk hb0 1
            have z2 := frozen_of_blk hb0 2
            have y0 := (cell_of_blk hb0 0).trans (show (#[.int .i64 0, .int .i64 0, .string ⟨#[]⟩] : Array Value)[0]? = some (.int .i64 0) from rfl)
            have y1 := (cell_of_blk hb0 1).trans (show (#[.int .i64 0, .int .i64 0, .string ⟨#[]⟩] : Array Value)[1]? = some (.int .i64 0) from rfl)
            have y2 := (cell_of_blk hb0 2).trans (show (#[.int .i64 0, .int .i64 0, .string ⟨#[]⟩] : Array Value)[2]? = some (.string ⟨#[]⟩) from rfl)
            have HTT : Hid (q.take s = q.take C ∧ ((a + 2 + s : Nat) : Int) = (t.length : Int) - ((q.drop C).length : Int)) := by
              by_cases hsC : s = C
              · subst hsC
                refine ⟨rfl, ?_⟩
                rw [List.length_drop]
                omega
              · have hsq : s = q.length := by omega
                refine ⟨by rw [List.take_of_length_le (by omega), List.take_of_length_le (by omega)], ?_⟩
                rw [List.length_drop]
                omega
            obtain ⟨s0, s1, s2⟩ := set3 hb0 (.int .i64 m) (.int .i64 0) (str (q.take s))
            have HKN := hide (hkp.fresh (Nat.le_refl _) (keeps_set3 wr w.heap.size (.int .i64 m) (.int .i64 0) (str (q.take s))))
            have HFIN : Hid (∀ wz : World, wz.cell? ⟨w.heap.size, 0, none⟩ = some (.int .i64 m) → wz.cell? ⟨w.heap.size, 1, none⟩ = some (.int .i64 0) → wz.cell? ⟨w.heap.size, 2, none⟩ = some (str (q.take s)) → True) := fun _ _ _ _ => trivial
            obtain ⟨P, hP⟩ : ∃ P : Nat, a + 2 + s = P := ⟨_, rfl⟩
            have hPt : P ≤ t.length := by omega
            rw [hP] at HTT ⊢
            obtain ⟨Q0, hQ0⟩ : ∃ Q0, q.take s = Q0 := ⟨_, rfl⟩
            rw [hQ0] at HTT x2 s0 s1 s2 HKN
            have hcase : (C : Int) ≤ (s : Int) ∨ ((s : Int) < (C : Int) ∧ (t.length : Int) ≤ (P : Int)) := by omega
            clear hkp hb1 hb0 hP hs1 hs2 HB1R HB0R HFIN hgo hQ0
            rcases hcase with hc1 | ⟨hc1, hc2⟩
            case' inl =>
              have hc3 : ¬ (s : Int) < (C : Int) := by omega
              go_wp2_with fail
            case' inr =>
              have hc3 : decide ((P : Int) < (t.length : Int)) = false := decide_eq_false (by omega)
              go_wp2_with fail
            all_goals
              generalize (((wr.setCell ⟨w.heap.size, 0, none⟩ (.int .i64 m)).setCell ⟨w.heap.size, 1, none⟩ (.int .i64 0)).setCell ⟨w.heap.size, 2, none⟩ (str Q0)) = w7 at s0 s1 s2 HKN ⊢
              refine bodyPost_ret (v := .tuple #[ValA.v ⟨m, 0, Q0⟩, .int .i64 (P : Int)]) (by simp [results, go_sem, ValA.v, s0, s1, s2]) rfl ?_
              refine ⟨?_, unhide HKN⟩
              rw [(unhide HTT).1, (unhide HTT).2]
              try simp only [List.length_drop]
    · by_cases h34 : opdB (num c) = 3 ∨ opdB (num c) = 4
      · have e1 : (opdB (num c) == 1) = false := by simpa using h1
        have e2 : (opdB (num c) == 2) = false := by simpa using h2
        cases r with
        | nil =>
          have HE : Hid (readC [c] = (⟨num c, 0, []⟩, [])) := by show _ = _; simp only [readC]; rw [if_neg h1, if_neg h2, if_pos h34]
          rw [unhide HE]
          have i2 : ¬ (a : Int) + 1 < (t.length : Int) := by simp at hlen; omega
          have HLN : Hid ((a : Int) + 1 = (t.length : Int) - (([] : Txt).length : Int)) := by show _ = _; simp at hlen ⊢; omega
          rcases h34 with h34 | h34
          all_goals
            rw [h34] at HQ
            clear h1 h2 h34 e1 e2
            generalize num c = m at *
            go_enter Tryz.func36, Tryz.ntmps36
            go_wp2_with fail
            refine (unhide HQ).mono ?_
            rintro e w2 ⟨rfl, rfl⟩
            go_wp2_with fail
            refine bodyPost_ret (v := .tuple #[ValA.v ⟨m, 0, []⟩, .int .i64 ((a : Int) + 1)]) (by simp [results, go_sem, ValA.v]) rfl ?_
            exact ⟨by rw [unhide HLN]; try rfl, ((Keeps.refl _ w).alloc _).alloc _⟩
        | cons k q =>
          have HE : Hid (readC (c :: k :: q) = (⟨num c, num k, []⟩, q)) := by show _ = _; simp only [readC]; rw [if_neg h1, if_neg h2, if_pos h34]
          rw [unhide HE]
          obtain ⟨htk, hlk, _⟩ := drop_len hdr
          have i2 : (a : Int) + 1 < (t.length : Int) := by omega
          have hk := num_range k
          have HLN : Hid ((a : Int) + 1 + 1 = (t.length : Int) - (q.length : Int)) := by show _ = _; omega
          have cK := ((unhide HKA).cell hblt id).trans ((unhide HG) (a + 1) k htk)
          rcases h34 with h34 | h34
          all_goals
            rw [h34] at HQ
            clear h1 h2 h34 e1 e2 htk
            generalize num c = m at *
            generalize num k = N at *
            go_enter Tryz.func36, Tryz.ntmps36
            go_wp2_with fail
            refine (unhide HQ).mono ?_
            rintro e w2 ⟨rfl, rfl⟩
            go_wp2_with fail
            refine bodyPost_ret (v := .tuple #[ValA.v ⟨m, N, []⟩, .int .i64 ((a : Int) + 1 + 1)]) (by simp [results, go_sem, ValA.v]) rfl ?_
            exact ⟨by rw [unhide HLN]; try rfl, ((Keeps.refl _ w).alloc _).alloc _⟩
      · have HE : Hid (readC (c :: r) = (⟨num c, 0, []⟩, r)) := by show _ = _; simp only [readC]; rw [if_neg h1, if_neg h2, if_neg h34]
        rw [unhide HE]
        have e1 : (opdB (num c) == 1) = false := by simpa using h1
        have e2 : (opdB (num c) == 2) = false := by simpa using h2
        have e3 : (opdB (num c) == 3) = false := by simp; intro h; exact h34 (Or.inl h)
        have e4 : (opdB (num c) == 4) = false := by simp; intro h; exact h34 (Or.inr h)
        have HLN : Hid ((a : Int) + 1 = (t.length : Int) - (r.length : Int)) := by show _ = _; omega
        clear h1 h2 h34
        generalize opdB (num c) = o at *
        generalize num c = m at *
        go_enter Tryz.func36, Tryz.ntmps36
        go_wp2_with fail
        refine (unhide HQ).mono ?_
        rintro e w2 ⟨rfl, rfl⟩
        go_wp2_with fail
        refine bodyPost_ret (v := .tuple #[ValA.v ⟨m, 0, []⟩, .int .i64 ((a : Int) + 1)]) (by simp [results, go_sem, ValA.v]) rfl ?_
        exact ⟨by rw [unhide HLN]; try rfl, ((Keeps.refl _ w).alloc _).alloc _⟩

end Go.Proofs.YtcicaifioghciaaGreatDoor
