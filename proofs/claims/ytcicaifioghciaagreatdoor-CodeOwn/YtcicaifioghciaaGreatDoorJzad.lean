import Derived.Test.YtcicaifioghciaaGreatDoorJzac
import Derived.Laws.MakeOwn
namespace Go.Proofs.YtcicaifioghciaaGreatDoor
open Go.RowKit Go.Maps

theorem run_mkb (h c : Nat) (hh : h ≤ c) (hc : c ≤ 1024) (w : World) : (Instr.makeSlice 29 (.int .i64 (h : Int)) (.int .i64 (c : Int))).run Tryz.prog w = .ok (.slice (some ⟨w.heap.size, 0, none⟩) h c) (w.alloc (.cells (madeCells #[.int .u8 0] c) 5)) := by
  obtain ⟨i0, hi, hz0, hz1, hz2⟩ := info_parts Tryz.info5
  have q := run_make (P := Tryz.prog) w 29 5 i0 (.int .u8 0) Tryz.underlying29 hi hz0 .i64 .i64 (h : Int) (c : Int) (by omega) (by omega) (by rw [hz2]; omega) (by omega)
  rw [hz1] at q
  simpa [Value.cells] using q
theorem made_zero (c : Nat) : (madeCells #[.int .u8 0] c).toList = List.replicate c (.int .u8 0) := by
  apply List.ext_getElem?
  intro i
  simp only [madeCells, Array.toList_map, List.getElem?_map, Array.getElem?_toList, List.getElem?_replicate]
  by_cases h : i < c
  · simp [h, Nat.mod_one]
  · simp [h]
theorem owns_made (w : World) (h c : Nat) (hh : h ≤ c) (hc : c ≤ 1024) : (w.alloc (.cells (madeCells #[.int .u8 0] c) 5)).ownsRow w.heap.size 5 1 (.slice (some ⟨w.heap.size, 0, none⟩) h c) h (List.replicate h (.int .u8 0)) := by
  refine ⟨by simp, Or.inr ⟨w.heap.size, c, _, rfl, Nat.le_refl _, heap_alloc_new w _, hh, by unfold maxLen; omega, by rw [size_madeCells]; omega, ?_⟩⟩
  rw [made_zero, List.take_replicate, Nat.mul_one, Nat.min_eq_left hh]

set_option maxRecDepth 100000 in
theorem put_none (a : Option Addr) (cap N : Nat) (w : World) : Calls Tryz.prog 91 #[.slice a 0 cap, .int .u64 N] w fun e w' => (∃ r, e = .returned r) ∧ w' = w := by
  go_enter Tryz.func91, Tryz.ntmps91
  go_wp2
  go_loopw [7] (fun i wr => i = .int .i64 0 ∧ wr = w) (fun _ _ => 0)
  case atStart => exact ⟨rfl, rfl⟩
  case round =>
    obtain ⟨rfl, rfl⟩ := hrel
    go_wp2

    go_end0
    exact ⟨⟨_, rfl⟩, rfl⟩

set_option maxRecDepth 100000 in
theorem put_one (g cap N : Nat) (c0 : Value) (w : World) (hN : N ≤ 255) (hc : w.cell? ⟨g, 0, none⟩ = some c0) (hf : w.frozen? ⟨g, 0, none⟩ = false) :
    Calls Tryz.prog 91 #[.slice (some ⟨g, 0, none⟩) 1 cap, .int .u64 N] w fun e w' => (∃ r, e = .returned r) ∧ w' = w.setCell ⟨g, 0, none⟩ (.int .u8 N) := by
  go_enter Tryz.func91, Tryz.ntmps91
  go_wp2
  go_loopw [1, 7] (fun n i wr => (n = .int .u64 N ∧ i = .int .i64 0 ∧ wr = w) ∨ ((∃ n', n = .int .u64 n') ∧ i = .int .i64 1 ∧ wr = w.setCell ⟨g, 0, none⟩ (.int .u8 N))) (fun _ i _ => 1 - (intOf i).toNat)
  case atStart => exact Or.inl ⟨rfl, rfl, rfl⟩
  case round =>
    have hN' : (N : Int) ≤ 255 := by omega
    rcases hrel with ⟨rfl, rfl, rfl⟩ | ⟨⟨n', rfl⟩, rfl, rfl⟩
    · go_wp2
      go_roundw
      case rel => exact Or.inr ⟨⟨_, rfl⟩, rfl, trivial⟩
      case measure => simp [intOf]
    · clear hc hf
      go_wp2
      go_end0
      exact ⟨⟨_, rfl⟩, rfl⟩

/-- The first cell of an owned row, written. -/
theorem owns_first {w : World} {B g n cap : Nat} {y x : Value} {xs : List Value} (h : w.ownsRow B 5 1 (.slice (some ⟨g, 0, none⟩) n cap) n (y :: xs)) :
    (w.setCell ⟨g, 0, none⟩ x).ownsRow B 5 1 (.slice (some ⟨g, 0, none⟩) n cap) n (x :: xs) ∧ w.cell? ⟨g, 0, none⟩ = some y ∧ w.frozen? ⟨g, 0, none⟩ = false ∧ B ≤ g := by
  obtain ⟨hl, hh⟩ := h
  rcases hh with ⟨hv, _⟩ | ⟨g', cap', cur, hv, hb, hg, h1, h2, h3, h4⟩
  · simp at hv
  · simp at hv
    obtain ⟨rfl, rfl⟩ := hv
    have hn : 0 < n := by simp at hl; omega
    refine ⟨⟨by simpa using hl, Or.inr ⟨g, cap, _, rfl, hb, heap_setCell_at hg x, h1, h2, by simpa using h3, ?_⟩⟩, ?_, frozen_of_blk hg 0, hb⟩
    · rw [Nat.mul_one] at *
      obtain ⟨cl⟩ := cur
      cases cl with
      | nil => simp at h3; omega
      | cons c r =>
        obtain ⟨m, rfl⟩ : ∃ m, n = m + 1 := ⟨n - 1, by omega⟩
        simp at h4 ⊢
        exact h4.2
    · rw [cell_of_blk hg]
      obtain ⟨cl⟩ := cur
      cases cl with
      | nil => simp at h3; omega
      | cons c r =>
        obtain ⟨m, rfl⟩ : ∃ m, n = m + 1 := ⟨n - 1, by omega⟩
        simp at h4 ⊢
        exact h4.1

theorem bitsOf_length : ∀ (l : List FieldA) (r : List ValA), r.length = l.length → (bitsOf (l.zip r)).length = opts l
  | [], r, _ => by simp [bitsOf, opts]
  | f :: l, [], h => by simp at h
  | f :: l, x :: r, h => by
    have := bitsOf_length l r (by simpa using h)
    unfold bitsOf opts at *
    simp only [List.zip_cons_cons, List.filter_cons]
    cases hf : f.opt
    · simpa [hf] using this
    · simp only [if_true, List.map_cons, List.length_cons]
      simpa using this
theorem headT_cases (l : List FieldA) (r : List ValA) (hr : r.length = l.length) (hl : l.length ≤ 8) : (headB l = 0 ∧ headT (l.zip r) = []) ∨ (headB l = 1 ∧ headT (l.zip r) = [UInt8.ofNat (headN (bitsOf (l.zip r)))]) := by
  have h1 := bitsOf_length l r hr
  have h2 := opts_le l
  unfold headB headT
  rw [h1]
  by_cases h : 0 < opts l
  · right
    exact ⟨by omega, by rw [if_pos h]⟩
  · left
    exact ⟨by omega, by rw [if_neg h]⟩
theorem or_pow : ∀ J : Fin 8, ∀ N : Fin 256, N.1 < 2 ^ J.1 → bits .or .u64 (N.1 : Int) ((2 ^ J.1 : Nat) : Int) = ((N.1 + 2 ^ J.1 : Nat) : Int) := by decide +kernel

end Go.Proofs.YtcicaifioghciaaGreatDoor
namespace Go.Proofs.YtcicaifioghciaaGreatDoor
open Go.RowKit Go.Maps

theorem or_marks (N J : Nat) (hJ : J < 8) (hN : N < 2 ^ J) : bits .or .u64 (N : Int) ((2 ^ J : Nat) : Int) = ((N + 2 ^ J : Nat) : Int) := by
  have h256 : N < 256 := Nat.lt_of_lt_of_le hN (by have := pow2_le (k := J) (by omega); omega)
  exact or_pow ⟨J, hJ⟩ ⟨N, h256⟩ hN
theorem or_marks2 (N J : Nat) (hJ : J < 8) (hN : N < 2 ^ J) : bits .or .u64 (N : Int) (IntKind.u64.wrap ((2 : Int) ^ J)) = ((N + 2 ^ J : Nat) : Int) := by
  have e : IntKind.u64.wrap ((2 : Int) ^ J) = ((2 ^ J : Nat) : Int) := by
    have h := pow2_le (k := J) (by omega)
    have h2 : ((2 : Int) ^ J) = ((2 ^ J : Nat) : Int) := by simp
    rw [h2, IntKind.wrap_u64]
    omega
  rw [e]
  exact or_marks N J hJ hN
theorem wideB_pos {l : List FieldA} (h : l.all fieldOK = true) : 0 ≤ wides l := by
  unfold wides
  induction l with
  | nil => simp
  | cons f r ih =>
    simp only [List.all_cons, Bool.and_eq_true] at h
    have h1 := h.1
    unfold fieldOK at h1
    simp only [Bool.and_eq_true, decide_eq_true_eq] at h1
    have := ih h.2
    simp only [List.map_cons, List.sum_cons]
    omega
theorem schemaB_width {l : List FieldA} (h : schemaB l = true) : ∃ W : Nat, widthB l = W ∧ headB l ≤ W ∧ W ≤ 64 := by
  have h1 := wideB_pos (schemaB_ok h)
  have h2 : widthB l ≤ 64 := by
    unfold schemaB at h
    simp only [Bool.and_eq_true, decide_eq_true_eq] at h
    exact h.2
  unfold widthB at *
  exact ⟨(headB l + wides l).toNat, by omega, by omega, by omega⟩

/-- What Encode has written ahead of value k, the head still open. -/
def bodyTo (r : List ValA) (k : Nat) : Txt := (r.take k).flatMap enc1
theorem bodyTo_snoc {r : List ValA} {k : Nat} {x : ValA} (h : r[k]? = some x) : bodyTo r (k + 1) = bodyTo r k ++ enc1 x := by
  unfold bodyTo
  rw [take_snoc _ _ _ h, List.flatMap_append]
  simp
theorem bodyTo_le {l : List FieldA} {r : List ValA} (hl : r.length = l.length) (hf : fitAll l r = true) (hI : InR r) (k : Nat) : (bodyTo r k).length ≤ 21 * r.length := by
  unfold bodyTo
  have h2 := flat_le enc1 21 (r.take k) (fun x hx => by
    obtain ⟨i, hi⟩ := List.mem_iff_getElem?.1 (List.mem_of_mem_take hx)
    have := get_lt hi
    exact enc1_length (fitAll_at hf (List.getElem?_eq_getElem (by omega)) hi) (hI x (List.mem_of_mem_take hx)))
  rw [List.length_take] at h2
  have : 21 * min k r.length ≤ 21 * r.length := Nat.mul_le_mul_left _ (Nat.min_le_right _ _)
  omega

set_option maxRecDepth 100000 in
set_option maxHeartbeats 4000000 in
theorem val_encode (l : List FieldA) (v : Value) (r : List ValA) (u : Value) (w : World) (hT : Types w) (h : FldsAt w v l) (hr : ValsAt w u r) (hI : InR r) :
    Calls Tryz.prog 65 #[.agg #[v], u] w fun e w' => ∃ b', e = .returned (.tuple #[b', .int .i64 (errR l r)]) ∧ w'.ownsRow w.heap.size 5 1 b' (encodeB l r).length (bs (encodeB l r)) ∧ Keeps (fun _ => False) w w' := by
  obtain ⟨ao, cap, rfl⟩ := RowAt.form h
  obtain ⟨bo, cbp, rfl⟩ := RowAt.form hr
  obtain ⟨HB, hb, hbc⟩ := boxed w #[.slice ao l.length cap] 24
  have hp := hbc 0 (.slice ao l.length cap) rfl
  have HF := hide (h.keepF (unhide HB))
  have HV := hide (hr.keepF (unhide HB))
  have HT := hide (hT.keepF (unhide HB))
  have HS := hide (val_check l _ r _ _ (unhide HT) (unhide HF) (unhide HV))
  have HI := hide hI
  clear hbc h hr hI hT
  go_enter Tryz.func65, Tryz.ntmps65
  go_wp2_with fail
  refine (unhide HS).mono ?_
  rintro e w2 ⟨rfl, hk2⟩
  have hp2 := (hk2.cell (o := 0) hb id).trans hp
  have hb2 := Nat.lt_of_lt_of_le hb hk2.size
  have HF2 := hide ((unhide HF).keepF hk2)
  have HV2 := hide ((unhide HV).keepF hk2)
  have HT2 := hide ((unhide HT).keepF hk2)
  have HB2 := hide ((unhide HB).trans hk2)
  have hw2 : w.heap.size ≤ w2.heap.size := (unhide HB2).size
  clear HS HF HV HB HT hk2 hp hb
  generalize w.alloc (.cells #[.slice ao l.length cap] 24) = w1 at *
  by_cases he : errR l r = 0
  · obtain ⟨hs, hlen, hfit⟩ := errR_zero he
    have hl8 := (schemaB_len hs).2
    have hl1 := (schemaB_len hs).1
    have HE : Hid (encodeB l r = headT (l.zip r) ++ r.flatMap enc1) := by show _ = _; unfold encodeB; rw [if_pos he]; rfl
    rw [he]
    obtain ⟨W, hW, hHW, hW64⟩ := schemaB_width hs
    have hHB : headB l ≤ 1 := by have := opts_le l; unfold headB; omega
    have HL := hide hlen
    have HT0 := hide hfit
    have HQ1 := hide (head_v l _ _ (unhide HF2) hl8)
    have HHC := hide (headT_cases l r hlen hl8)
    have hr8 : r.length ≤ 8 := by omega
    have HSO := hide (schemaB_ok hs)
    have HWW := hide hW
    have HE0 := hide he
    clear hs hlen hfit he hW
    generalize headB l = H at *
    go_wp2_with fail
    refine (unhide HQ1).mono ?_
    rintro e w3 ⟨rfl, hk3⟩
    have hp3 := (hk3.cell (o := 0) hb2 id).trans hp2
    have HF3 := hide ((unhide HF2).keepF hk3)
    have HT3 := hide ((unhide HT2).keepF hk3)
    have HK3 := hide hk3
    have HQ2 := hide (width_v l _ _ (unhide HT3) (unhide HF3) hl8 (unhide HSO))
    rw [unhide HWW] at HQ2
    clear hk3 HQ1
    go_wp2_with fail
    refine (unhide HQ2).mono ?_
    rintro e w4 ⟨rfl, hk4⟩
    have K24 := (unhide HK3).trans hk4
    have hp4 := (K24.cell (o := 0) hb2 id).trans hp2
    have hb4 := Nat.lt_of_lt_of_le hb2 K24.size
    have hmk := run_mkb H W hHW (by omega) w4
    have HOM := hide (owns_made w4 H W hHW (by omega))
    have HB4 := hide ((unhide HB2).trans K24)
    have HF4 := hide ((unhide HF2).keepF K24)
    have HV4 := hide ((unhide HV2).keepF K24)
    have hw4 : w.heap.size ≤ w4.heap.size := (unhide HB4).size
    have HA : Hid (Keeps (fun q => w4.heap.size ≤ q) w4 (w4.alloc (.cells (madeCells #[.int .u8 0] W) 5))) := (Keeps.refl _ _).alloc _
    have hp5 := ((unhide HA).cell (o := 0) hb4 (by omega)).trans hp4
    clear hk4 HQ2 K24 hp3 hp2 HF3 HT3 HK3 HT2 HB2 HF2 HV2
    go_wp2_with fail
    generalize w4.alloc (.cells (madeCells #[.int .u8 0] W) 5) = w5 at *
    clear hmk
    go_loopw [8, 9, 10, 28] (fun bb mm oo i wr => ∃ k N J : Nat, k ≤ l.length ∧ i = .int .i64 k ∧ mm = .int .u64 N ∧ oo = .int .i64 J ∧ N ≤ 255 ∧ J ≤ 8 ∧ Hid (N = headN (bitsOf ((l.zip r).take k)) ∧ J = (bitsOf ((l.zip r).take k)).length) ∧ wr.ownsRow w4.heap.size 5 1 bb (H + (bodyTo r k).length) (List.replicate H (.int .u8 0) ++ bs (bodyTo r k)) ∧ Keeps (fun q => w4.heap.size ≤ q) w5 wr) (fun _ _ _ i _ => l.length - (intOf i).toNat)
    case atStart => exact ⟨0, 0, 0, Nat.zero_le _, rfl, rfl, rfl, by omega, by omega, ⟨rfl, rfl⟩, by simpa [bodyTo, bs] using unhide HOM, Keeps.refl _ _⟩
    case round =>
      obtain ⟨k, N, J, hk, rfl, rfl, rfl, hN, hJ, HQ, hown, hkp⟩ := hrel
      have HO := hide hown
      have HK := hide ((unhide HA).trans hkp)
      have HBL := hide (bodyTo_le (unhide HL) (unhide HT0) (unhide HI) k)
      have hp6 := (hkp.cell (o := 0) (Nat.lt_of_lt_of_le hb4 (unhide HA).size) (by omega)).trans hp5
      have HKP := hide hkp
      clear hown hkp
      by_cases hlt : k < l.length
      · obtain ⟨x, hx⟩ : ∃ x, r[k]? = some x := ⟨_, List.getElem?_eq_getElem (by have := unhide HL; omega)⟩
        obtain ⟨f, hf⟩ : ∃ f, l[k]? = some f := ⟨_, List.getElem?_eq_getElem hlt⟩
        obtain ⟨b, off, c, e, hbl, hc⟩ := (unhide HF4).cells (by omega)
        simp at e
        obtain ⟨rfl, rfl⟩ := e
        obtain ⟨b', off', c', e', hbl', hc'⟩ := (unhide HV4).cells (by have := unhide HL; omega)
        simp at e'
        obtain ⟨rfl, rfl⟩ := e'
        have c0 := ((unhide HK).cell hbl (by omega)).trans (hc k f hf).1
        have c1 := ((unhide HK).cell hbl (by omega)).trans (hc k f hf).2.1
        have c2 := ((unhide HK).cell hbl (by omega)).trans (hc k f hf).2.2
        obtain ⟨HX, hxb, hxc⟩ := boxed wr #[str f.name, .int .i64 f.type, .bool f.opt] 55
        have K1 := (unhide HK).then (unhide HX) (fun _ _ hF => hF.elim)
        have d0 := (K1.cell hbl' (by omega)).trans (hc' k x hx).1
        have d1 := (K1.cell hbl' (by omega)).trans (hc' k x hx).2.1
        have d2 := (K1.cell hbl' (by omega)).trans (hc' k x hx).2.2
        have i1 : (k : Int) < (r.length : Int) := by have := unhide HL; omega
        have i2 : (k : Int) < (l.length : Int) := by omega
        have HZ : Hid (bitsOf ((l.zip r).take (k + 1)) = bitsOf ((l.zip r).take k) ++ (if f.opt then [decide (x.kind ≠ 0)] else [])) := by
          show _ = _
          rw [take_snoc _ _ _ (zip_get hf hx), bitsOf_snoc]
        have HZL : Hid ((bitsOf ((l.zip r).take (k + 1))).length ≤ 8) := by
          have h1 := bitsOf_le ((l.zip r).take (k + 1))
          rw [List.length_take] at h1
          show _ ≤ _
          omega
        have HCQ := hide (appendValue_v (wr.alloc (.cells #[str f.name, .int .i64 f.type, .bool f.opt] 55)) w4.heap.size u8 _ _ f x (fitAll_at (unhide HT0) hf hx) ((unhide HI) x (List.mem_of_getElem? hx)) ((unhide HO).alloc _) (by have := unhide HBL; omega) (by have := (unhide HK).size; simp; omega))
        have HBT := hide (bodyTo_snoc hx)
        have HKN := hide (((unhide HKP).alloc (.cells #[str f.name, .int .i64 f.type, .bool f.opt] 55)))
        generalize bitsOf ((l.zip r).take k) = Z at *
        obtain ⟨Z', HZE⟩ : ∃ Z', Hid (bitsOf ((l.zip r).take (k + 1)) = Z') := ⟨_, rfl⟩
        rw [unhide HZE] at HZ HZL
        unfold ValA.v at HCQ
        clear hc hc' hf hx K1 hxc HX HKP
        have HN2 := hide (headN_lt Z)
        cases hfo : f.opt with
        | true =>
          rw [hfo] at c2 HCQ HKN d0 d1 d2
          have hJ7 : J ≤ 7 := by
            have h1 := unhide HZL
            rw [unhide HZ, hfo] at h1
            simp at h1
            have := (unhide HQ).2
            omega
          by_cases hki : x.kind = 0
          · have HKI := hide hki
            rw [hki] at d0 HCQ
            clear hki
            go_wp2_with fail
            refine (unhide HCQ).mono ?_
            rintro e w7 ⟨v7, rfl, ho7, hk7⟩
            have HO7 := hide ho7
            have HK7 := hide ((unhide HKN).trans hk7)
            clear ho7 hk7 HCQ
            go_wp2_with fail
            go_roundw
            case rel =>
              refine ⟨k + 1, N, J + 1, by omega, by go_num, by go_num, by go_num, hN, (by omega), ?_, ?_, unhide HK7⟩
              · have hq := unhide HQ
                have hz := unhide HZ
                show _ ∧ _
                rw [unhide HZE]
                rw [hz, hfo, if_pos rfl, headN_snoc, decide_eq_false (by simp [unhide HKI]), List.length_append, ← hq.1, ← hq.2]; exact ⟨rfl, rfl⟩
              · rw [unhide HBT, bs_append, List.length_append, ← List.append_assoc, ← Nat.add_assoc]
                exact unhide HO7
            case measure => simp [intOf]; omega
          · have HKI := hide hki
            have hki' : (x.kind != 0) = true := by rw [bne_iff_ne]; exact hki
            have hNJ : N < 2 ^ J := by have := unhide HN2; rw [← (unhide HQ).1, ← (unhide HQ).2] at this; exact this
            have HOR := hide (or_marks2 N J (by omega) hNJ)
            have HB8 : Hid (N + 2 ^ J ≤ 255) := by
              have : 2 ^ (J + 1) ≤ 256 := pow2_le (by omega)
              rw [Nat.pow_succ] at this
              show _ ≤ _
              omega
            clear hki
            go_wp2_with fail
            refine (unhide HCQ).mono ?_
            rintro e w7 ⟨v7, rfl, ho7, hk7⟩
            have HO7 := hide ho7
            have HK7 := hide ((unhide HKN).trans hk7)
            clear ho7 hk7 HCQ
            go_wp2_with fail
            go_roundw
            case rel =>
              refine ⟨k + 1, N + 2 ^ J, J + 1, by omega, by go_num, congrArg (Value.int .u64) (unhide HOR), by go_num, (unhide HB8), (by omega), ?_, ?_, unhide HK7⟩
              · have hq := unhide HQ
                have hz := unhide HZ
                show _ ∧ _
                rw [unhide HZE]
                rw [hz, hfo, if_pos rfl, headN_snoc, decide_eq_true (unhide HKI), if_pos rfl, List.length_append, ← hq.1, ← hq.2]; exact ⟨rfl, rfl⟩
              · rw [unhide HBT, bs_append, List.length_append, ← List.append_assoc, ← Nat.add_assoc]
                exact unhide HO7
            case measure => simp [intOf]; omega
        | false =>
          rw [hfo] at c2 HCQ HKN d0 d1 d2
          go_wp2_with fail
          refine (unhide HCQ).mono ?_
          rintro e w7 ⟨v7, rfl, ho7, hk7⟩
          have HO7 := hide ho7
          have HK7 := hide ((unhide HKN).trans hk7)
          clear ho7 hk7 HCQ
          go_wp2_with fail
          go_roundw
          case rel =>
            refine ⟨k + 1, N, J, by omega, by go_num, by go_num, by go_num, hN, hJ, ?_, ?_, unhide HK7⟩
            · have hq := unhide HQ
              have hz := unhide HZ
              show _ ∧ _
              rw [unhide HZE]
              rw [hz, hfo]; simpa using hq
            · rw [unhide HBT, bs_append, List.length_append, ← List.append_assoc, ← Nat.add_assoc]
              exact unhide HO7
          case measure => simp [intOf]; omega
      · obtain rfl : k = l.length := by omega
        obtain ⟨oo, oc, rfl⟩ := (rowAt_own (unhide HO)).form
        have hroom := (rowAt_own (unhide HO)).room _ _ _ rfl
        have HBF : Hid (bodyTo r l.length = r.flatMap enc1) := by show _ = _; unfold bodyTo; rw [List.take_of_length_le (by have := unhide HL; omega)]
        have HZF : Hid (N = headN (bitsOf (l.zip r))) := by
          have := (unhide HQ).1
          rw [List.take_of_length_le (by have := unhide HL; simp; omega)] at this
          exact this
        rcases unhide HHC with ⟨hH, hT⟩ | ⟨hH, hT⟩
        · subst hH
          have HTT := hide hT
          have i5 : (0 : Int) ≤ (oc : Int) := by omega
          have HP := hide (put_none oo oc N wr)
          clear hT hlt
          go_wp2_with fail
          refine (unhide HP).mono ?_
          rintro e w7 ⟨⟨rr, rfl⟩, rfl⟩
          go_wp2_with fail
          go_ret2
          refine ⟨_, ret_vi rfl (unhide HE0).symm, ?_, (unhide HB4).narrowS ((unhide HK)) (fun i hi => by omega)⟩
          rw [unhide HE, unhide HTT, List.nil_append, ← unhide HBF]
          have := ownsRow_lower (unhide HO) hw4
          simpa using this
        · subst hH
          have HTT := hide hT
          obtain ⟨g, cap2, e3, hg1, hg2⟩ := (unhide HO).form (by omega)
          simp at e3
          obtain ⟨rfl, rfl⟩ := e3
          have i5 : (1 : Int) ≤ (oc : Int) := by omega
          have HOF := hide (owns_first (x := .int .u8 N) (y := .int .u8 0) (xs := bs (bodyTo r l.length)) (by simpa using unhide HO))
          have HP := hide (put_one g oc N _ wr hN (unhide HOF).2.1 (unhide HOF).2.2.1)
          clear hT hlt
          go_wp2_with fail
          refine (unhide HP).mono ?_
          rintro e w7 ⟨⟨rr, rfl⟩, rfl⟩
          have HKS := hide ((unhide HK).setCell (p := ⟨g, 0, none⟩) (u := .int .u8 N) (fun _ => (unhide HOF).2.2.2))
          have HO7 := hide (ownsRow_lower (unhide HOF).1 hw4)
          generalize wr.setCell ⟨g, 0, none⟩ (.int .u8 N) = w8 at *
          go_wp2_with fail
          go_ret2
          refine ⟨_, ret_vi rfl (unhide HE0).symm, ?_, (unhide HB4).narrowS (unhide HKS) (fun i hi => by omega)⟩
          have hnum : num (UInt8.ofNat N) = (N : Int) := num_of N (by omega)
          rw [unhide HE, unhide HTT, ← unhide HZF, ← unhide HBF, bs_append]
          have h7 := unhide HO7
          simpa [bs, hnum, Nat.add_comm] using h7
  · have HE : Hid (encodeB l r = []) := by show _ = _; unfold encodeB; rw [if_neg he]
    have he' : (errR l r != 0) = true := by rw [bne_iff_ne]; exact he
    clear he
    obtain ⟨E, HEE⟩ : ∃ E, Hid (errR l r = E) := ⟨_, rfl⟩
    rw [unhide HEE] at he' ⊢
    go_wp2_with fail
    go_ret2
    refine ⟨_, ret_vi rfl (unhide HEE).symm, ?_, unhide HB2⟩
    rw [unhide HE]
    exact World.ownsRow_nil _ w.heap.size 5 1

end Go.Proofs.YtcicaifioghciaaGreatDoor

namespace Go.Proofs.YtcicaifioghciaaGreatDoor
open Go.RowKit Go.Maps

/-- The schema of one plain int. -/
def intS : List FieldA := [⟨[110], 1, false⟩]
theorem row_new (w1 : World) (cs : Array Value) (t n b : Nat) (hb : b = w1.heap.size) : RowAt (w1.alloc (.cells cs t)) (.slice (some ⟨b, 0, none⟩) n n) n cs.toList := by
  subst hb
  refine ⟨⟨_, _, rfl⟩, fun _ => ⟨_, 0, _, rfl, by simp, fun j x hx => ?_⟩, fun ao m cap e => by simp at e; omega⟩
  rw [cell_of_blk (heap_alloc_new w1 _), Nat.zero_add]
  simpa using hx
set_option maxRecDepth 100000 in
theorem intSchema_v (w : World) : Calls Tryz.prog 66 #[] w fun e w' => ∃ v, e = .returned (.agg #[v]) ∧ FldsAt w' v intS ∧ Keeps (fun _ => False) w w' := by
  go_enter Tryz.func66, Tryz.ntmps66
  go_wp2_with fail
  refine bodyPost_ret (v := .agg #[.slice (some ⟨w.heap.size + 1, 0, none⟩) 1 1]) (by simp [results, go_sem]) rfl ?_
  refine ⟨_, rfl, ?_, ((Keeps.refl _ w).alloc _).alloc _⟩
  exact row_new _ #[.string ⟨#[110]⟩, .int .i64 1, .bool false] 55 1 _ (by simp)

theorem intS_ok : schemaB intS = true := by decide
theorem errR_int (n : Int) : errR intS [⟨1, n, []⟩] = 0 := by
  unfold errR
  rw [intS_ok]
  simp [recB, fitAll, intS, fitsB]
theorem encodeB_int (n : Int) : encodeB intS [⟨1, n, []⟩] = groups (tn n) := by
  unfold encodeB
  rw [if_pos (errR_int n)]
  have : enc1 ⟨1, n, []⟩ = groups (tn n) := enc1_int rfl
  simp [encB, headT, bitsOf, intS, this]
set_option maxRecDepth 100000 in
set_option maxHeartbeats 1000000 in
theorem intBytes_v (n : Int) (w : World) (hT : Types w) (h0 : -9223372036854775808 ≤ n) (h1 : n ≤ 9223372036854775807) :
    Calls Tryz.prog 44 #[.int .i64 n] w fun e w' => ∃ v, e = .returned v ∧ w'.ownsRow w.heap.size 5 1 v (groups (tn n)).length (bs (groups (tn n))) ∧ Keeps (fun _ => False) w w' := by
  have HQ := hide (intSchema_v w)
  have HT := hide hT
  clear hT
  go_enter Tryz.func44, Tryz.ntmps44
  go_wp2_with fail
  refine (unhide HQ).mono ?_
  rintro e w2 ⟨v, rfl, hf, hk⟩
  have HB : Hid (Keeps (fun _ => False) w2 (w2.alloc (.cells #[.int .i64 1, .int .i64 n, .string ⟨#[]⟩] 118))) := (Keeps.refl _ _).alloc _
  have HC := hide (val_encode intS v [⟨1, n, []⟩] (.slice (some ⟨w2.heap.size, 0, none⟩) 1 1) _ (((unhide HT).keepF hk).keepF (unhide HB)) (hf.keepF (unhide HB)) (row_new w2 #[.int .i64 1, .int .i64 n, .string ⟨#[]⟩] 118 1 _ rfl) (by intro x hx; simp at hx; subst hx; exact ⟨h0, h1⟩))
  rw [encodeB_int, errR_int] at HC
  have HK := hide (hk.trans (unhide HB))
  have hs : w.heap.size ≤ (w2.alloc (.cells #[.int .i64 1, .int .i64 n, .string ⟨#[]⟩] 118)).heap.size := (unhide HK).size
  clear HQ hf hk HB
  go_wp2_with fail
  refine (unhide HC).mono ?_
  rintro e w3 ⟨b', rfl, ho, hk3⟩
  have HO := hide (ownsRow_lower ho hs)
  have HK3 := hide ((unhide HK).trans hk3)
  clear ho hk3 HC
  go_wp2_with fail
  go_ret
  exact ⟨_, rfl, unhide HO, unhide HK3⟩

end Go.Proofs.YtcicaifioghciaaGreatDoor
namespace Go.Proofs.YtcicaifioghciaaGreatDoor
open Go.RowKit Go.Maps

/-- The groups of an int at the head of some bytes, by the program's own looking. -/
def takeG : Nat → Txt → Nat → Option (Nat × Txt)
  | _, [], _ => none
  | k, c :: r, U =>
    if k = 9 ∧ 1 < c.toNat then none
    else if c.toNat < 128 then (if c.toNat = 0 ∧ 0 < k then none else some (U + 128 ^ k * (c.toNat % 128), r))
    else takeG (k + 1) r (U + 128 ^ k * (c.toNat % 128))

theorem and_127 : ∀ x : Fin 256, bits .and .u8 (x.1 : Int) 127 = ((x.1 % 128 : Nat) : Int) := by decide +kernel
theorem or_add64 (U X : Nat) (k : Nat) (hU : U < 2 ^ k) (hX : 2 ^ k * X < 18446744073709551616) (hk : k ≤ 64) : bits .or .u64 (U : Int) ((2 ^ k * X : Nat) : Int) = ((U + 2 ^ k * X : Nat) : Int) := by
  have h64 : (2 : Nat) ^ k ≤ 2 ^ 64 := Nat.pow_le_pow_right (by omega) hk
  have hU2 : U < 18446744073709551616 := by omega
  show IntKind.u64.wrap ((BitVec.ofInt 64 (U : Int) ||| BitVec.ofInt 64 ((2 ^ k * X : Nat) : Int)).toNat : Int) = _
  rw [BitVec.toNat_or, BitVec.toNat_ofInt, BitVec.toNat_ofInt]
  have e1 : ((U : Int) % ((2 ^ 64 : Nat) : Int)).toNat = U := by omega
  have e2 : (((2 ^ k * X : Nat) : Int) % ((2 ^ 64 : Nat) : Int)).toNat = 2 ^ k * X := by omega
  rw [e1, e2, Nat.or_comm, ← Nat.two_pow_add_eq_or_of_lt hU, Nat.add_comm, IntKind.wrap_u64]
  have hor : U + 2 ^ k * X < 18446744073709551616 := by
    have h := Nat.or_lt_two_pow (x := 2 ^ k * X) (y := U) (n := 64) (by omega) (by omega)
    rw [← Nat.two_pow_add_eq_or_of_lt hU] at h
    omega
  omega
theorem group_or (U k : Nat) (c : UInt8) (hU : U < 128 ^ k) (hk : k ≤ 9) (h9 : k = 9 → c.toNat ≤ 1) : bits .or .u64 (U : Int) (IntKind.u64.wrap (IntKind.u64.wrap (bits .and .u8 (num c) 127) * 2 ^ (7 * k))) = ((U + 128 ^ k * (c.toNat % 128) : Nat) : Int) := by
  have ha : bits .and .u8 (num c) 127 = ((c.toNat % 128 : Nat) : Int) := and_127 ⟨c.toNat, c.toNat_lt⟩
  have hp : (128 : Nat) ^ k = 2 ^ (7 * k) := by rw [Nat.pow_mul]
  have hX : 2 ^ (7 * k) * (c.toNat % 128) < 18446744073709551616 := by
    rw [← hp]
    by_cases h : k = 9
    · have := h9 h
      subst h
      omega
    · have h8 : 128 ^ k ≤ 128 ^ 8 := Nat.pow_le_pow_right (by omega) (by omega)
      have h1 : c.toNat % 128 ≤ 127 := by omega
      have := Nat.mul_le_mul h8 h1
      omega
  rw [ha, show IntKind.u64.wrap ((c.toNat % 128 : Nat) : Int) = ((c.toNat % 128 : Nat) : Int) by rw [IntKind.wrap_u64]; omega]
  have e : ((c.toNat % 128 : Nat) : Int) * 2 ^ (7 * k) = ((2 ^ (7 * k) * (c.toNat % 128) : Nat) : Int) := by
    rw [Int.natCast_mul, Int.mul_comm]
    congr 1
  rw [e, show IntKind.u64.wrap ((2 ^ (7 * k) * (c.toNat % 128) : Nat) : Int) = ((2 ^ (7 * k) * (c.toNat % 128) : Nat) : Int) by rw [IntKind.wrap_u64]; omega]
  rw [hp]
  exact or_add64 U _ (7 * k) (by rw [← hp]; exact hU) hX (by omega)
theorem group_lt (U k : Nat) (c : UInt8) (hU : U < 128 ^ k) (hk : k ≤ 9) (h9 : k = 9 → c.toNat ≤ 1) : U + 128 ^ k * (c.toNat % 128) < 128 ^ (k + 1) ∧ U + 128 ^ k * (c.toNat % 128) < 18446744073709551616 := by
  have h1 : c.toNat % 128 ≤ 127 := by omega
  have h2 := Nat.mul_le_mul_left (128 ^ k) h1
  refine ⟨by rw [Nat.pow_succ]; omega, ?_⟩
  by_cases h : k = 9
  · have := h9 h
    subst h
    omega
  · have h8 : 128 ^ k ≤ 128 ^ 8 := Nat.pow_le_pow_right (by omega) (by omega)
    omega

theorem and_one64 (V : Nat) (h : V ≤ 18446744073709551615) : bits .and .u64 (V : Int) 1 = ((V % 2 : Nat) : Int) := by
  show IntKind.u64.wrap ((BitVec.ofInt 64 (V : Int) &&& BitVec.ofInt 64 1).toNat : Int) = _
  rw [BitVec.toNat_and, BitVec.toNat_ofInt, BitVec.toNat_ofInt]
  have e1 : ((V : Int) % ((2 ^ 64 : Nat) : Int)).toNat = V := by omega
  have e2 : ((1 : Int) % ((2 ^ 64 : Nat) : Int)).toNat = 1 := by omega
  rw [e1, e2, Nat.and_one_is_mod, IntKind.wrap_u64]
  omega
theorem xor_back (V : Nat) (h : V ≤ 18446744073709551615) : bits .xor .i64 ((V : Int) / 2) (wrap64 (-wrap64 (bits .and .u64 (V : Int) 1))) = backB V := by
  rw [and_one64 V h]
  unfold backB
  by_cases h2 : (V : Int) % 2 = 0
  · have e : wrap64 (-wrap64 ((V % 2 : Nat) : Int)) = 0 := by
      have : ((V % 2 : Nat) : Int) = 0 := by omega
      rw [this]
      unfold wrap64
      omega
    rw [e, if_pos h2]
    show IntKind.i64.wrap ((BitVec.ofInt 64 ((V : Int) / 2) ^^^ BitVec.ofInt 64 0).toNat : Int) = _
    rw [show BitVec.ofInt 64 0 = 0#64 from rfl, BitVec.xor_zero, BitVec.toNat_ofInt, IntKind.wrap_i64]
    omega
  · have e : wrap64 (-wrap64 ((V % 2 : Nat) : Int)) = -1 := by
      have : ((V % 2 : Nat) : Int) = 1 := by omega
      rw [this]
      unfold wrap64
      omega
    rw [e, if_neg h2]
    show IntKind.i64.wrap ((BitVec.ofInt 64 ((V : Int) / 2) ^^^ BitVec.ofInt 64 (-1)).toNat : Int) = _
    rw [show BitVec.ofInt 64 (-1) = BitVec.allOnes 64 from rfl, BitVec.xor_allOnes, BitVec.toNat_not, BitVec.toNat_ofInt, IntKind.wrap_i64]
    omega

/-- What stands behind the first k of a row. -/
theorem rest_row {w : World} {b off n cap k : Nat} {xs : List Value} (h : RowAt w (.slice (some ⟨b, off, none⟩) n cap) n xs) (hk : k ≤ n) (hl : xs.length = n) :
    RowAt w (.slice (if cap = k then some ⟨b, off, none⟩ else some ⟨b, off + k, none⟩) (n - k) (cap - k)) (n - k) (xs.drop k) := by
  have hroom := h.room _ _ _ rfl
  refine ⟨⟨_, _, rfl⟩, fun h0 => ?_, fun ao m cap' e => ?_⟩
  · obtain ⟨b', off', cap', e, hb, hc⟩ := h.cells (by omega)
    simp at e
    obtain ⟨⟨rfl, rfl⟩, rfl⟩ := e
    rw [if_neg (by omega)]
    refine ⟨b, off + k, cap - k, rfl, hb, fun j x hx => ?_⟩
    rw [List.getElem?_drop] at hx
    rw [Nat.add_assoc]
    exact hc (k + j) x hx
  · simp at e
    omega
theorem rest_bytes {w : World} {b off cap k : Nat} {t : Txt} (h : BytesAt w (.slice (some ⟨b, off, none⟩) t.length cap) t) (hk : k ≤ t.length) :
    BytesAt w (.slice (if cap = k then some ⟨b, off, none⟩ else some ⟨b, off + k, none⟩) (t.length - k) (cap - k)) (t.drop k) := by
  have := rest_row h hk (bs_length t)
  unfold BytesAt
  rw [List.length_drop]
  have e : bs (t.drop k) = (bs t).drop k := by simp [bs, List.map_drop]
  rw [e]
  exact this

set_option maxRecDepth 100000 in
set_option maxHeartbeats 2000000 in
theorem takeInt_v (w : World) (v : Value) (t : Txt) (h : BytesAt w v t) (ht : t.length ≤ 140737488355328) :
    Calls Tryz.prog 124 #[v] w fun e w' => Keeps (fun _ => False) w w' ∧ match takeG 0 t 0 with
      | none => ∃ (x : ValA) (y : Value), e = .returned (.tuple #[x.v, y, .bool false])
      | some (U, r) => ∃ y, e = .returned (.tuple #[ValA.v ⟨1, backB U, []⟩, y, .bool true]) ∧ BytesAt w' y r := by
  obtain ⟨ao, cap, rfl⟩ := RowAt.form h
  have HF := hide h
  obtain ⟨R, HR⟩ : ∃ R, Hid (takeG 0 t 0 = R) := ⟨_, rfl⟩
  rw [unhide HR]
  clear h
  go_enter Tryz.func124, Tryz.ntmps124
  go_wp2_with fail
  go_loopw [5, 11] (fun u i wr => ∃ (k U : Nat), k ≤ 9 ∧ k ≤ t.length ∧ i = .int .i64 k ∧ u = .int .u64 U ∧ U ≤ 18446744073709551615 ∧ Hid (U < 128 ^ k) ∧ Hid (R = takeG k (t.drop k) U) ∧ wr = w.alloc (.cells #[.int .i64 0, .int .i64 0, str []] 118)) (fun _ i _ => 10 - (intOf i).toNat)
  case atStart => exact ⟨0, 0, by omega, by omega, rfl, rfl, by omega, by simp [Hid], (unhide HR).symm, rfl⟩
  case round =>
    obtain ⟨k, U, hk, hkt, rfl, rfl, hU, HU, HG, rfl⟩ := hrel
    cases hx : t[k]? with
    | none =>
      have h1 := get_ge hx
      obtain rfl : k = t.length := by omega
      have HE : Hid (R = none) := by
        show _ = _
        rw [unhide HG, List.drop_length]
        rfl
      clear hx
      obtain rfl : R = none := unhide HE
      go_wp2_with fail
      refine bodyPost_ret (v := .tuple #[ValA.v ⟨0, 0, []⟩, .slice none 0 0, .bool false]) (by simp [results, go_sem, ValA.v]) rfl ?_
      exact ⟨(Keeps.refl _ _).alloc _, ⟨0, 0, []⟩, _, rfl⟩
    | some c =>
      have h1 := get_lt hx
      obtain ⟨b, off, cc, e1, hblt, hc⟩ := RowAt.cells (unhide HF) (by omega)
      simp at e1
      obtain ⟨rfl, rfl⟩ := e1
      have c0 := ((((Keeps.refl (fun _ => False) w).alloc (.cells #[.int .i64 0, .int .i64 0, str []] 118))).cell hblt id).trans (hc k _ (by rw [bs_get, hx]; rfl))
      have hcr := num_range c
      have HD : Hid (t.drop k = c :: t.drop (k + 1)) := drop_at hx
      clear hx hc
      by_cases h9 : k = 9 ∧ 1 < num c
      · obtain ⟨rfl, h9⟩ := h9
        have HE : Hid (R = none) := by
          show _ = _
          rw [unhide HG, unhide HD, takeG, if_pos ⟨rfl, by unfold num at h9; omega⟩]
        obtain rfl : R = none := unhide HE
        go_wp2_with fail
        refine bodyPost_ret (v := .tuple #[ValA.v ⟨0, 0, []⟩, .slice none 0 0, .bool false]) (by simp [results, go_sem, ValA.v]) rfl ?_
        exact ⟨(Keeps.refl _ _).alloc _, ⟨0, 0, []⟩, _, rfl⟩
      · have H9 := hide h9
        have HC9 : Hid (k = 9 → c.toNat ≤ 1) := fun e => by unfold num at h9; omega
        have HOR := hide (group_or U k c (unhide HU) hk (unhide HC9))
        have HLT := hide (group_lt U k c (unhide HU) hk (unhide HC9))
        have hg : (((k : Int) == 9) && decide (1 < num c)) = false := by
          apply Bool.eq_false_iff.2
          simp only [ne_eq, Bool.and_eq_true, beq_iff_eq, decide_eq_true_eq]
          intro h
          exact h9 ⟨by omega, h.2⟩
        have i1 : (k : Int) + 1 ≤ (t.length : Int) := by omega
        have i2 : (t.length : Int) ≤ (cap : Int) := by have := RowAt.room (unhide HF) _ _ _ rfl; omega
        obtain ⟨V, HV⟩ : ∃ V, Hid (U + 128 ^ k * (c.toNat % 128) = V) := ⟨_, rfl⟩
        rw [unhide HV] at HOR HLT
        have hV : V ≤ 18446744073709551615 := by have := (unhide HLT).2; omega
        clear h9
        have HXB := hide (xor_back V hV)
        have HRB := hide (rest_bytes (unhide HF) (k := k + 1) (by omega))
        by_cases hlt : num c < 128
        · by_cases hz : num c = 0 ∧ 0 < k
          · have HE : Hid (R = none) := by
              show _ = _
              rw [unhide HG, unhide HD, takeG, if_neg (by have := unhide HC9; omega), if_pos (by unfold num at hlt; omega), if_pos (by unfold num at hz; omega)]
            obtain rfl : R = none := unhide HE
            have hz1 : (num c == 0) = true := by rw [beq_iff_eq]; exact hz.1
            have hz2 : (0 : Int) < (k : Int) := by omega
            have hz3 : 0 < k := hz.2
            clear hz
            cases hb9 : ((k : Int) == 9) with
            | true =>
              rw [hb9] at hg
              have hc1 : num c ≤ 1 := by simpa using hg
              clear hg
              go_wp2_with fail
              rw [unhide HOR]
              go_region
              generalize (if cap = k + 1 then some (⟨b, off, none⟩ : Addr) else some ⟨b, off + (k + 1), none⟩) = A at *
              rw [unhide HXB]
              go_wp2_with fail
              refine bodyPost_ret (v := .tuple #[ValA.v ⟨1, backB V, []⟩, .slice A (t.length - (k + 1)) (cap - (k + 1)), .bool false]) (by simp [results, go_sem, ValA.v]) rfl ?_
              exact ⟨((Keeps.refl _ _).alloc _).drew, _, _, rfl⟩
            | false =>
              clear hg
              go_wp2_with fail
              rw [unhide HOR]
              go_region
              generalize (if cap = k + 1 then some (⟨b, off, none⟩ : Addr) else some ⟨b, off + (k + 1), none⟩) = A at *
              rw [unhide HXB]
              go_wp2_with fail
              refine bodyPost_ret (v := .tuple #[ValA.v ⟨1, backB V, []⟩, .slice A (t.length - (k + 1)) (cap - (k + 1)), .bool false]) (by simp [results, go_sem, ValA.v]) rfl ?_
              exact ⟨((Keeps.refl _ _).alloc _).drew, _, _, rfl⟩
          · have HE : Hid (R = some (V, t.drop (k + 1))) := by
              show _ = _
              rw [unhide HG, unhide HD, takeG, if_neg (by have := unhide HC9; omega), if_pos (by unfold num at hlt; omega), if_neg (by unfold num at hz; omega), unhide HV]
            obtain rfl : R = some (V, t.drop (k + 1)) := unhide HE
            by_cases hz0 : num c = 0
            · have hk0 : (k : Int) ≤ 0 := by omega
              have hz1 : (num c == 0) = true := by rw [beq_iff_eq]; exact hz0
              have hb9 : ((k : Int) == 9) = false := beq_eq_false_iff_ne.2 (by omega)
              clear hz hz0
              clear hg
              go_wp2_with fail
              rw [unhide HOR]
              go_region
              generalize (if cap = k + 1 then some (⟨b, off, none⟩ : Addr) else some ⟨b, off + (k + 1), none⟩) = A at *
              rw [unhide HXB]
              go_wp2_with fail
              refine bodyPost_ret (v := .tuple #[ValA.v ⟨1, backB V, []⟩, .slice A (t.length - (k + 1)) (cap - (k + 1)), .bool true]) (by simp [results, go_sem, ValA.v]; omega) rfl ?_
              exact ⟨((Keeps.refl _ _).alloc _).drew, _, rfl, (unhide HRB).keepF (((Keeps.refl _ _).alloc _).drew)⟩
            · have hz1 : (num c == 0) = false := beq_eq_false_iff_ne.2 hz0
              clear hz hz0
              cases hb9 : ((k : Int) == 9) with
              | true =>
                rw [hb9] at hg
                have hc1 : num c ≤ 1 := by simpa using hg
                clear hg
                go_wp2_with fail
                rw [unhide HOR]
                go_region
                generalize (if cap = k + 1 then some (⟨b, off, none⟩ : Addr) else some ⟨b, off + (k + 1), none⟩) = A at *
                rw [unhide HXB]
                go_wp2_with fail
                refine bodyPost_ret (v := .tuple #[ValA.v ⟨1, backB V, []⟩, .slice A (t.length - (k + 1)) (cap - (k + 1)), .bool true]) (by simp [results, go_sem, ValA.v]) rfl ?_
                exact ⟨((Keeps.refl _ _).alloc _).drew, _, rfl, (unhide HRB).keepF (((Keeps.refl _ _).alloc _).drew)⟩
              | false =>
                clear hg
                go_wp2_with fail
                rw [unhide HOR]
                go_region
                generalize (if cap = k + 1 then some (⟨b, off, none⟩ : Addr) else some ⟨b, off + (k + 1), none⟩) = A at *
                rw [unhide HXB]
                go_wp2_with fail
                refine bodyPost_ret (v := .tuple #[ValA.v ⟨1, backB V, []⟩, .slice A (t.length - (k + 1)) (cap - (k + 1)), .bool true]) (by simp [results, go_sem, ValA.v]) rfl ?_
                exact ⟨((Keeps.refl _ _).alloc _).drew, _, rfl, (unhide HRB).keepF (((Keeps.refl _ _).alloc _).drew)⟩
        · have hge : 128 ≤ num c := by omega
          have hk9 : k < 9 := by
            rcases Nat.lt_or_ge k 9 with h | h
            · exact h
            · have := unhide HC9 (by omega)
              unfold num at hge
              omega
          have hb9 : ((k : Int) == 9) = false := beq_eq_false_iff_ne.2 (by omega)
          have HE : Hid (R = takeG (k + 1) (t.drop (k + 1)) V) := by
            show _ = _
            rw [unhide HG, unhide HD, takeG, if_neg (by omega), if_neg (by unfold num at hge; omega), unhide HV]
          clear hg
          go_wp2_with fail
          go_roundw
          case rel => exact ⟨k + 1, V, by omega, by omega, by go_num, congrArg (Value.int .u64) (unhide HOR), hV, (unhide HLT).1, HE, trivial⟩
          case measure => simp [intOf]; omega
end Go.Proofs.YtcicaifioghciaaGreatDoor
