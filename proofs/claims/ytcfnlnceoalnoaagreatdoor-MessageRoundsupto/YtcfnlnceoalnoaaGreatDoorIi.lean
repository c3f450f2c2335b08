import Derived.Test.YtcfnlnceoalnoaaGreatDoorJx
namespace Go.Proofs.YtcfnlnceoalnoaaGreatDoor
open Go.RowKit Go.Maps
/-- What take's walk has: the result's block stands as it was made. -/
structure Lying (W : World) (R : Nat) (cur : World) : Prop where
  kept : Keeps (fun _ => False) W cur
  res : cur.heap[R]? = some (.cells #[.int .i64 0, .string ⟨#[]⟩, .slice none 0 0, .slice none 0 0] 28 (0, 0))
theorem Lying.keep {W : World} {R : Nat} {cur w' : World} (h : Lying W R cur) (hk : Keeps (fun _ => False) cur w') : Lying W R w' := ⟨h.kept.trans hk, (hk.block _ (lt_of_block h.res) id).trans h.res⟩
/-- What take answers. -/
def TakenM (B : Nat) (w' : World) (x y : Value) (ok : Bool) : Option (MsgA × Txt) → Prop
  | none => ok = false ∧ MsgR B w' zeroM x ∧ y = .slice none 0 0
  | some (m, r) => ok = true ∧ MsgR B w' m x ∧ ∃ yo yc, y = .slice yo r.length yc
theorem zero_msg (B : Nat) (w : World) : MsgR B w zeroM (.agg #[.int .i64 0, .string ⟨#[]⟩, .slice none 0 0, .slice none 0 0]) := ⟨none, 0, none, 0, rfl, nil_vals _, nil_bytes _, (fun k e => by cases e), (fun k e => by cases e)⟩
theorem text_some {c : UInt8} {s p r : Txt} (h : textP (c :: s) = some (p, r)) : c.toNat ≤ s.length ∧ p = s.take c.toNat ∧ r = s.drop c.toNat := by
  have h' : (if s.length < c.toNat then none else some (s.take c.toNat, s.drop c.toNat)) = some (p, r) := h
  by_cases hl : s.length < c.toNat
  · rw [if_pos hl] at h'; cases h'
  · rw [if_neg hl] at h'
    cases h'
    exact ⟨by omega, rfl, rfl⟩
theorem text_len {t p r : Txt} (h : textP t = some (p, r)) : p.length ≤ 255 ∧ t.length = 1 + p.length + r.length := by
  cases t with
  | nil => cases h
  | cons c s =>
    obtain ⟨hl, rfl, rfl⟩ := text_some h
    have := c.toNat_lt
    rw [List.length_take, List.length_drop, List.length_cons]
    omega
set_option maxRecDepth 100000 in
theorem run_from1 (g off N c : Nat) (h1 : 1 ≤ N) (W : World) : (Instr.sliceAt 26 (.slice (some ⟨g, off, none⟩) N c) (some (.int .i64 1)) none none).run Tryz.prog W = .ok (.slice (if c = 1 then some ⟨g, off, none⟩ else some ⟨g, off + 1, none⟩) (N - 1) (c - 1)) W := by
  have j1 : (1 : Int) ≤ (N : Int) := by omega
  simp [go_sem, j1]
theorem key_kept {w w' : World} {b off c R : Nat} {t : Txt} (h : BytesAt w (.slice (some ⟨b, off, none⟩) t.length c) t) (hb : ¬ b = R) (hk : Keeps (fun q => q = R) w w') : BytesAt w' (.slice (some ⟨b, off, none⟩) t.length c) t :=
  RowAt.kept h hk (fun k e q => by simp only [Value.ownBlock, Option.some.injEq] at e; subst e; exact hb q)
set_option maxRecDepth 100000 in
set_option maxHeartbeats 8000000 in
theorem take_msg (S : List FieldA) (sv v : Value) (t : Txt) (w : World) (hT : Types w) (hS : FldsAt w sv S) (hb : BytesAt w v t) (ht : t.length ≤ 140737488355328) :
    Calls Tryz.prog 35 #[.agg #[sv], v] w fun e w' => ∃ x y ok, e = .returned (.tuple #[x, y, .bool ok]) ∧ TakenM w.heap.size w' x y ok (takeM S t) ∧ Keeps (fun _ => False) w w' := by
  obtain ⟨so, sc, rfl⟩ := RowAt.form hS
  obtain ⟨vo, vc, rfl⟩ := RowAt.form hb
  have k1 := kAlloc w (.cells #[.slice so S.length sc] 24)
  have k2 := kAlloc (w.alloc (.cells #[.slice so S.length sc] 24)) (.cells #[.int .i64 0, .string ⟨#[]⟩, .slice none 0 0, .slice none 0 0] 28)
  have h1 := heap_alloc_new w (.cells #[.slice so S.length sc] 24)
  have h2 := heap_alloc_new (w.alloc (.cells #[.slice so S.length sc] 24)) (.cells #[.int .i64 0, .string ⟨#[]⟩, .slice none 0 0, .slice none 0 0] 28)
  rw [show (w.alloc (.cells #[.slice so S.length sc] 24)).heap.size = w.heap.size + 1 by simp] at h2
  have h1' := (k2.block _ (lt_of_block h1) id).trans h1
  have HW := hide (k1.trans k2)
  generalize hW : (w.alloc (.cells #[.slice so S.length sc] 24)).alloc (.cells #[.int .i64 0, .string ⟨#[]⟩, .slice none 0 0, .slice none 0 0] 28) = W at *
  have HL0 : Hid (Lying W (w.heap.size + 1) W) := ⟨Keeps.refl _ _, h2⟩
  have HB1 := hide h1'
  have HS := hide (hS.keepF (unhide HW))
  have HBT := hide (hb.keepF (unhide HW))
  have HT := hide (hT.keepF (unhide HW))
  have lS := lt_of_block h1'
  have s0 : W.cell? ⟨w.heap.size, 0, none⟩ = some (.slice so S.length sc) := (cell_of_blk h1' _).trans rfl
  obtain ⟨z0, z1, z2, z3, zf0, zf1, zf2, zf3, zl⟩ := four_cells h2
  clear hT hS hb k1 k2 h1 h1' h2
  cases t with
  | nil =>
    obtain ⟨t0, t1, t2, t3⟩ := set4c (unhide HL0).res (.int .i64 0) (.string ⟨#[]⟩) (.slice none 0 0) (.slice none 0 0)
    have HKF := hide ((unhide HW).then (keeps_set4 W (w.heap.size + 1) (.int .i64 0) (.string ⟨#[]⟩) (.slice none 0 0) (.slice none 0 0)) (fun i hi e => by omega))
    go_enter Tryz.func35, Tryz.ntmps35
    go_wp2_with fail
    refine bodyPost_ret (v := .tuple #[.agg #[.int .i64 0, .string ⟨#[]⟩, .slice none 0 0, .slice none 0 0], .slice none 0 0, .bool false]) (by simp [results, go_sem, t0, t1, t2, t3]) rfl ?_
    exact ⟨_, _, _, rfl, ⟨rfl, zero_msg _ _, rfl⟩, unhide HKF⟩
  | cons k r =>
    obtain ⟨b, off, cc, e1, hblt, hc⟩ := (unhide HBT).cells (by simp)
    simp only [Value.slice.injEq] at e1
    obtain ⟨rfl, _, rfl⟩ := e1
    have c0 := hc 0 k rfl
    rw [Nat.add_zero] at c0
    have hroom := RowAt.room (unhide HBT) _ _ _ rfl
    have hrb := rest_bytes (unhide HBT) (k := 1) (by simp)
    simp only [List.drop_one, List.tail_cons] at hrb
    have hrl : (k :: r).length - 1 = r.length := by simp
    rw [hrl] at hrb
    have hlc : (k :: r).length = r.length + 1 := by simp
    have HBL := hide hblt
    have HTK0 : Hid (takeM S (k :: r) = match textP r with | none => none | some (key, r1) => match textP r1 with | none => none | some (body, r2) => some (msgOf S (num k) key body, r2)) := rfl
    by_cases hvc : vc = 1
    · have hr0 : r = [] := by
        cases r with
        | nil => rfl
        | cons a s => simp at hroom; omega
      subst hr0
      subst hvc
      have HTK : Hid (takeM S [k] = none) := unhide HTK0
      rw [if_pos rfl] at hrb
      simp only [List.length_nil, Nat.sub_self] at hrb
      have HQ := hide (takeShort_v W _ [] hrb (by simp))
      have i1 : (1 : Int) ≤ (1 : Int) := by omega
      simp only [List.length_cons, List.length_nil, Nat.zero_add] at *
      clear hc hrb hrl HTK0
      go_enter Tryz.func35, Tryz.ntmps35
      go_wp2_with fail
      refine (unhide HQ).mono ?_
      rintro e w1 ⟨hk, x, y, ok, rfl, htk⟩
      have HKW1 := hide hk
      clear hk HQ hW
      obtain rfl : ok = false := htk
      have hL1 := (unhide HL0).keep (unhide HKW1)
      obtain ⟨y0, y1, y2, y3, yf0, yf1, yf2, yf3, yl⟩ := four_cells hL1.res
      obtain ⟨t0, t1, t2, t3⟩ := set4c hL1.res (.int .i64 0) (.string ⟨#[]⟩) (.slice none 0 0) (.slice none 0 0)
      have HKF := hide (((unhide HW).trans (unhide HKW1)).then (keeps_set4 w1 (w.heap.size + 1) (.int .i64 0) (.string ⟨#[]⟩) (.slice none 0 0) (.slice none 0 0)) (fun i hi e => by omega))
      clear hL1
      go_wp2_with fail
      refine bodyPost_ret (v := .tuple #[.agg #[.int .i64 0, .string ⟨#[]⟩, .slice none 0 0, .slice none 0 0], .slice none 0 0, .bool false]) (by simp [results, go_sem, t0, t1, t2, t3]) rfl ?_
      exact ⟨_, _, _, rfl, by rw [unhide HTK]; exact ⟨rfl, zero_msg _ _, rfl⟩, unhide HKF⟩
    rw [if_neg hvc] at hrb
    have HQ := hide (takeShort_v W _ r hrb (by omega))
    have HRC := num_range k
    have HTK := HTK0
    clear HTK0
    generalize hTM : takeM S (k :: r) = TM at *
    generalize hLL : (k :: r).length = LL at *
    have i1 : (1 : Int) ≤ (LL : Int) := by omega
    have hLL2 : LL - 1 = r.length := by omega
    clear hc hrb hrl hTM hLL
    go_enter Tryz.func35, Tryz.ntmps35
    go_wp2_with fail
    refine (unhide HQ).mono ?_
    rintro e w1 ⟨hk, x, y, ok, rfl, htk⟩
    have HKW1 := hide hk
    have hrl2 : r.length ≤ 140737488355328 := by omega
    clear hk HQ hW hLL2 hlc
    cases hP1 : textP r with
    | none =>
      rw [hP1] at htk HTK
      obtain rfl : ok = false := htk
      have hL1 := (unhide HL0).keep (unhide HKW1)
      obtain ⟨y0, y1, y2, y3, yf0, yf1, yf2, yf3, yl⟩ := four_cells hL1.res
      obtain ⟨t0, t1, t2, t3⟩ := set4c hL1.res (.int .i64 0) (.string ⟨#[]⟩) (.slice none 0 0) (.slice none 0 0)
      have HKF := hide (((unhide HW).trans (unhide HKW1)).then (keeps_set4 w1 (w.heap.size + 1) (.int .i64 0) (.string ⟨#[]⟩) (.slice none 0 0) (.slice none 0 0)) (fun i hi e => by omega))
      clear hL1
      go_wp2_with fail
      refine bodyPost_ret (v := .tuple #[.agg #[.int .i64 0, .string ⟨#[]⟩, .slice none 0 0, .slice none 0 0], .slice none 0 0, .bool false]) (by simp [results, go_sem, t0, t1, t2, t3]) rfl ?_
      exact ⟨_, _, _, rfl, by rw [unhide HTK]; exact ⟨rfl, zero_msg _ _, rfl⟩, unhide HKF⟩
    | some p1 =>
      obtain ⟨key, r1⟩ := p1
      rw [hP1] at htk HTK
      simp only at HTK
      obtain ⟨rfl, ⟨kb, ko, kc, rfl, hkb⟩, ⟨yb, yo, yc, rfl, hyb⟩, hkey, hr1⟩ := htk
      obtain ⟨hk255, htl1⟩ := text_len hP1
      have HQ := hide (takeShort_v w1 _ r1 hr1 (by omega))
      have HKY := hide hkey
      have HKBB : Hid (kb = b) := by show _ = _; simpa [Value.ownBlock] using hkb
      have hr1l : r1.length ≤ 140737488355328 := by omega
      clear hkey hr1 hP1 hkb hyb htl1
      go_wp2_with fail
      refine (unhide HQ).mono ?_
      rintro e w2 ⟨hk, x, y, ok, rfl, htk⟩
      have HKW2 := hide ((unhide HKW1).trans hk)
      have HKY2 := hide ((unhide HKY).keepF hk)
      clear hk HQ HKY
      cases hP2 : textP r1 with
      | none =>
        rw [hP2] at htk HTK
        obtain rfl : ok = false := htk
        have hL2 := (unhide HL0).keep (unhide HKW2)
        obtain ⟨y0, y1, y2, y3, yf0, yf1, yf2, yf3, yl⟩ := four_cells hL2.res
        obtain ⟨t0, t1, t2, t3⟩ := set4c hL2.res (.int .i64 0) (.string ⟨#[]⟩) (.slice none 0 0) (.slice none 0 0)
        have HKF := hide (((unhide HW).trans (unhide HKW2)).then (keeps_set4 w2 (w.heap.size + 1) (.int .i64 0) (.string ⟨#[]⟩) (.slice none 0 0) (.slice none 0 0)) (fun i hi e => by omega))
        clear hL2
        go_wp2_with fail
        refine bodyPost_ret (v := .tuple #[.agg #[.int .i64 0, .string ⟨#[]⟩, .slice none 0 0, .slice none 0 0], .slice none 0 0, .bool false]) (by simp [results, go_sem, t0, t1, t2, t3]) rfl ?_
        exact ⟨_, _, _, rfl, by rw [unhide HTK]; exact ⟨rfl, zero_msg _ _, rfl⟩, unhide HKF⟩
      | some p2 =>
        obtain ⟨bd, r2⟩ := p2
        rw [hP2] at htk HTK
        simp only at HTK
        obtain ⟨rfl, ⟨bb, bo, bc, rfl, hbb⟩, ⟨yb2, yo2, yc2, rfl, hyb2⟩, hbody, hr2⟩ := htk
        obtain ⟨hb255, _⟩ := text_len hP2
        have hwk : IntKind.i64.wrap (num k) = num k := by rw [IntKind.wrap_i64]; omega
        have hconv : (convert 26 9 (.slice (some ⟨kb, ko, none⟩) key.length kc)).run Tryz.prog w2.drew = .ok (str key) w2.drew := conv_row ((unhide HKY2).keepF ((Keeps.refl _ _).drew))
        have hconv2 : (convert 26 9 (.slice (some ⟨kb, ko, none⟩) key.length kc)).run Tryz.prog w2 = .ok (str key) w2 := conv_row (unhide HKY2)
        have i0 : (0 : Int) < (LL : Int) := by omega
        have i0n : 0 < LL := by omega
        have i00 : (0 : Int) ≤ 0 := by omega
        have HQ := hide (withBody_v S (.slice so S.length sc) _ (num k) key bd w2.drew ((unhide HT).keepF ((unhide HKW2).drew)) ((unhide HS).keepF ((unhide HKW2).drew)) (hbody.keepF ((Keeps.refl _ _).drew)) ⟨bb, bo, bc, rfl⟩ hb255)
        have d0 := ((unhide HKW2).cell (unhide HBL) id).trans c0
        have d1 := ((unhide HKW2).cell (o := 0) lS id).trans s0
        have hbR : ¬ b = w.heap.size + 1 := fun q => by
          rw [q, cell_of_blk (unhide HL0).res] at c0
          rcases (by omega : off = 0 ∨ off = 1 ∨ off = 2 ∨ off = 3 ∨ 4 ≤ off) with h | h | h | h | h
          · rw [h] at c0; simp at c0
          · rw [h] at c0; simp at c0
          · rw [h] at c0; simp at c0
          · rw [h] at c0; simp at c0
          · rw [Array.getElem?_eq_none (by simpa using h)] at c0; cases c0
        have hkR : ¬ kb = w.heap.size + 1 := by rw [unhide HKBB]; exact hbR
        have HSK : Hid (∀ w' : World, Keeps (fun q => q = w.heap.size + 1) w2 w' → w'.cell? ⟨w.heap.size, 0, none⟩ = some (.slice so S.length sc) ∧ w'.cell? ⟨b, off, none⟩ = some (.int .u8 (num k)) ∧ (convert 26 9 (.slice (some ⟨kb, ko, none⟩) key.length kc)).run Tryz.prog w' = .ok (str key) w') := fun w' hk => ⟨(hk.cell (Nat.lt_of_lt_of_le lS (unhide HKW2).size) (by omega)).trans d1, (hk.cell (Nat.lt_of_lt_of_le (unhide HBL) (unhide HKW2).size) hbR).trans d0, conv_row (key_kept (unhide HKY2) (hkR) hk)⟩
        have HL := hide ((unhide HL0).keep (unhide HKW2))
        have HLK := hide (Keeps.refl (fun _ => False) w2)
        obtain ⟨y0, y1, y2, y3, yf0, yf1, yf2, yf3, yl⟩ := four_cells (unhide HL).res
        clear hbody hr2 hP2 hbb hyb2 z0 z1 z2 z3 zf0 zf1 zf2 zf3 hbR hkR
        go_wp2_with fail
        go_region_held3 (fun w' => w'.cell? ⟨w.heap.size, 0, none⟩ = some (.slice so S.length sc) ∧ w'.cell? ⟨b, off, none⟩ = some (.int .u8 (num k)) ∧ (convert 26 9 (.slice (some ⟨kb, ko, none⟩) key.length kc)).run Tryz.prog w' = .ok (str key) w')
          (first | with_reducible exact unhide HSK _ (unhide HLK).any | with_reducible exact unhide HSK _ (unhide HLK).drew.any | with_reducible exact unhide HSK _ ((unhide HLK).any.trans (keeps_set4 _ _ _ _ _ _)))
          ((first
          | (go_at_call 58; refine (unhide HQ).mono ?_; rintro e w3 ⟨x3, rfl, hm3, hk3⟩; obtain ⟨mvo, mvc, mco, mcc, rfl, hv3, hc3, hov3, hoc3⟩ := hm3; have HL := hide ((unhide HL).keep ((Keeps.refl (fun _ => False) w2).drew.trans hk3)); have HLK := hide ((Keeps.refl (fun _ => False) w2).drew.trans hk3); have HV3 := hide hv3; have HC3 := hide hc3; have HOV3 := hide hov3; have HOC3 := hide hoc3; obtain ⟨y0, y1, y2, y3, yf0, yf1, yf2, yf3, yl⟩ := four_cells (unhide HL).res; clear hk3 hv3 hc3 hov3 hoc3)))
        all_goals go_wp2_with fail
        have hszR : w.heap.size + 1 < w2.heap.size := Nat.lt_of_lt_of_le (lt_of_block (unhide HL0).res) (unhide HKW2).size
        obtain ⟨t0, t1, t2, t3⟩ := set4c (unhide HL).res (.int .i64 (msgOf S (num k) key bd).kind) (str (msgOf S (num k) key bd).key) (.slice mvo (msgOf S (num k) key bd).vals.length mvc) (.slice mco (msgOf S (num k) key bd).code.length mcc)
        have kR := keeps_set4 w3 (w.heap.size + 1) (.int .i64 (msgOf S (num k) key bd).kind) (str (msgOf S (num k) key bd).key) (.slice mvo (msgOf S (num k) key bd).vals.length mvc) (.slice mco (msgOf S (num k) key bd).code.length mcc)
        have hvf := RowAt.kept (unhide HV3) kR (fun q e h => by have := unhide HOV3 q e; simp at this; omega)
        have hcf := RowAt.kept (unhide HC3) kR (fun q e h => by have := unhide HOC3 q e; simp at this; omega)
        have hkf := (((unhide HW).trans (unhide HKW2)).trans (unhide HLK)).then kR (fun i hi e => by omega)
        refine bodyPost_ret (v := .tuple #[.agg #[.int .i64 (msgOf S (num k) key bd).kind, str (msgOf S (num k) key bd).key, .slice mvo (msgOf S (num k) key bd).vals.length mvc, .slice mco (msgOf S (num k) key bd).code.length mcc], .slice (some ⟨yb2, yo2, none⟩) r2.length yc2, .bool true]) (by simp [results, go_sem, t0, t1, t2, t3]) rfl ?_
        have hwz : w.heap.size ≤ w2.heap.size := by omega
        exact ⟨_, _, _, rfl, by rw [unhide HTK]; exact ⟨rfl, ⟨mvo, mvc, mco, mcc, rfl, hvf, hcf, fun q e => Nat.le_trans hwz (by have := unhide HOV3 q e; simpa using this), fun q e => Nat.le_trans hwz (by have := unhide HOC3 q e; simpa using this)⟩, _, _, rfl⟩, hkf⟩
end Go.Proofs.YtcfnlnceoalnoaaGreatDoor
