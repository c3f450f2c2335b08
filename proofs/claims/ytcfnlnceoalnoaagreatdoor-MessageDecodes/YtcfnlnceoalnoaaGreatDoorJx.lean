import Derived.Test.YtcfnlnceoalnoaaGreatDoorId
namespace Go.Proofs.YtcfnlnceoalnoaaGreatDoor
open Go.RowKit Go.Maps
/-- What takeShort's three answers tell. -/
def TookP (w' : World) (x y : Value) (ok : Bool) (bk : Option Nat) : Option (Txt × Txt) → Prop
  | none => ok = false
  | some (p, r) => ok = true ∧ (∃ b off c, x = .slice (some ⟨b, off, none⟩) p.length c ∧ some b = bk) ∧ (∃ b off c, y = .slice (some ⟨b, off, none⟩) r.length c ∧ some b = bk) ∧ BytesAt w' x p ∧ BytesAt w' y r
theorem takeShort_v (w : World) (v : Value) (t : Txt) (h : BytesAt w v t) (ht : t.length ≤ 140737488355328) :
    Calls Tryz.prog 57 #[v] w fun e w' => Keeps (fun _ => False) w w' ∧ ∃ x y ok, e = .returned (.tuple #[x, y, .bool ok]) ∧ TookP w' x y ok v.ownBlock (textP t) := by
  refine (short_v w v t h ht).mono ?_
  rintro e w' ⟨hk, x, y, ok, rfl, hT⟩
  refine ⟨hk, x, y, ok, rfl, ?_⟩
  generalize textP t = T at *
  cases T with
  | none => exact hT.1
  | some p => exact hT
/-- The message that a kind, a key and a body tell. -/
def msgOf (S : List FieldA) (k : Int) (key body : Txt) : MsgA := if k = 1 then ⟨k, key, (decodeV S body).1, []⟩ else ⟨k, key, [], body⟩
/-- The message at the head of some bytes, and what stands behind it. -/
def takeM (S : List FieldA) : Txt → Option (MsgA × Txt)
  | [] => none
  | k :: r => match textP r with
    | none => none
    | some (key, r1) => match textP r1 with
      | none => none
      | some (body, r2) => some (msgOf S (num k) key body, r2)
def zeroM : MsgA := ⟨0, [], [], []⟩
/-- What Decode answers. -/
def decM (S : List FieldA) (b : Txt) : MsgA × Nat × Int := if errS S ≠ 0 then (zeroM, 0, errS S) else match takeM S b with
  | none => (zeroM, 0, 141)
  | some (m, rest) => if checkM S m = 0 then (m, b.length - rest.length, 0) else (zeroM, 0, 141)
end Go.Proofs.YtcfnlnceoalnoaaGreatDoor
namespace Go.Proofs.YtcfnlnceoalnoaaGreatDoor
open Go.RowKit Go.Maps
/-- A message's cells, and a result's block that stands as it was made. -/
theorem set1c {w : World} {b : Nat} {c0 c1 c2 c3 : Value} {t : TypeId} (h : w.heap[b]? = some (.cells #[c0, c1, c2, c3] t (0, 0))) (x : Value) : (w.setCell ⟨b, 2, none⟩ x).heap[b]? = some (.cells #[c0, c1, x, c3] t (0, 0)) ∧ (w.setCell ⟨b, 3, none⟩ x).heap[b]? = some (.cells #[c0, c1, c2, x] t (0, 0)) :=
  ⟨(heap_setCell_at (o := 2) h x).trans rfl, (heap_setCell_at (o := 3) h x).trans rfl⟩
theorem keeps_setM (w : World) (b o : Nat) (x : Value) : Keeps (fun q => q = b) w (w.setCell ⟨b, o, none⟩ x) := Keeps.setCell (F := fun q => q = b) (p := ⟨b, o, none⟩) (Keeps.refl (fun q => q = b) w) (fun _ => rfl) x
theorem four_cells {w : World} {b : Nat} {c0 c1 c2 c3 : Value} {t : TypeId} (h : w.heap[b]? = some (.cells #[c0, c1, c2, c3] t (0, 0))) : w.cell? ⟨b, 0, none⟩ = some c0 ∧ w.cell? ⟨b, 1, none⟩ = some c1 ∧ w.cell? ⟨b, 2, none⟩ = some c2 ∧ w.cell? ⟨b, 3, none⟩ = some c3 ∧ w.frozen? ⟨b, 0, none⟩ = false ∧ w.frozen? ⟨b, 1, none⟩ = false ∧ w.frozen? ⟨b, 2, none⟩ = false ∧ w.frozen? ⟨b, 3, none⟩ = false ∧ b < w.heap.size :=
  ⟨(cell_of_blk h _).trans rfl, (cell_of_blk h _).trans rfl, (cell_of_blk h _).trans rfl, (cell_of_blk h _).trans rfl, frozen_of_blk h 0, frozen_of_blk h 1, frozen_of_blk h 2, frozen_of_blk h 3, lt_of_block h⟩
theorem nil_vals (w : World) : ValsAt w (.slice none 0 0) [] := ⟨⟨_, _, rfl⟩, fun h0 => by simp at h0, fun ao m cap e => by simp at e; omega⟩
theorem nil_bytes (w : World) : BytesAt w (.slice none 0 0) [] := ⟨⟨_, _, rfl⟩, fun h0 => by simp at h0, fun ao m cap e => by simp at e; omega⟩
/-- A message that was answered. -/
theorem own_base {w : World} {B e size n : Nat} {v : Value} {xs : List Value} (h : w.ownsRow B e size v n xs) : ∀ k, v.ownBlock = some k → B ≤ k := by
  intro k hk
  rcases h.2 with ⟨rfl, _⟩ | ⟨g, cap, cur, rfl, hb, _⟩
  · cases hk
  · simp only [Value.ownBlock, Option.some.injEq] at hk
    omega
def MsgR (B : Nat) (w' : World) (m : MsgA) (x : Value) : Prop := ∃ vo vc co cc, x = .agg #[.int .i64 m.kind, str m.key, .slice vo m.vals.length vc, .slice co m.code.length cc] ∧ ValsAt w' (.slice vo m.vals.length vc) m.vals ∧ BytesAt w' (.slice co m.code.length cc) m.code ∧ (∀ k, (Value.slice vo m.vals.length vc).ownBlock = some k → B ≤ k) ∧ (∀ k, (Value.slice co m.code.length cc).ownBlock = some k → B ≤ k)
theorem MsgR.keepF {B : Nat} {w w' : World} {m : MsgA} {x : Value} (h : MsgR B w m x) (hk : Keeps (fun _ => False) w w') : MsgR B w' m x := by
  obtain ⟨vo, vc, co, cc, e, h1, h2, h3⟩ := h
  exact ⟨vo, vc, co, cc, e, h1.keepF hk, h2.keepF hk, h3⟩
set_option maxRecDepth 100000 in
set_option maxHeartbeats 4000000 in
theorem withBody_v (S : List FieldA) (sv u : Value) (k : Int) (key body : Txt) (w : World) (hT : Types w) (hS : FldsAt w sv S) (hb : BytesAt w u body) (hform : ∃ b off c, u = .slice (some ⟨b, off, none⟩) body.length c) (hbl : body.length ≤ 255) :
    Calls Tryz.prog 58 #[.agg #[sv], .agg #[.int .i64 k, str key, .slice none 0 0, .slice none 0 0], u] w fun e w' => ∃ x, e = .returned x ∧ MsgR w.heap.size w' (msgOf S k key body) x ∧ Keeps (fun _ => False) w w' := by
  obtain ⟨so, sc, rfl⟩ := RowAt.form hS
  obtain ⟨ub, uoff, ucap, rfl⟩ := hform
  obtain ⟨W2, hW2, hk2, hbs, s0, r0, r1, r2, r3⟩ := two_boxesM w (.slice so S.length sc) (.int .i64 k) (str key) (.slice none 0 0) (.slice none 0 0)
  have k3 := kAlloc W2 (.cells #[.int .i64 0, .string ⟨#[]⟩, .slice none 0 0, .slice none 0 0] 28)
  have hR := heap_alloc_new W2 (.cells #[.int .i64 0, .string ⟨#[]⟩, .slice none 0 0, .slice none 0 0] 28)
  have hs2 : W2.heap.size = w.heap.size + 1 + 1 := by rw [hW2]; simp
  rw [hs2] at hR
  have hM0 : W2.heap[w.heap.size + 1]? = some (.cells #[.int .i64 k, str key, .slice none 0 0, .slice none 0 0] 28 (0, 0)) := by
    rw [hW2]
    have h := heap_alloc_new (w.alloc (.cells #[.slice so S.length sc] 24)) (.cells #[.int .i64 k, str key, .slice none 0 0, .slice none 0 0] 28)
    rw [show (w.alloc (.cells #[.slice so S.length sc] 24)).heap.size = w.heap.size + 1 by simp] at h
    exact h
  have hM := (k3.block _ (lt_of_block hM0) id).trans hM0
  have s3 := (k3.cell (o := 0) (by omega) id).trans s0
  have HK3 := hide (hk2.trans k3)
  have hsz : w.heap.size + 1 + 1 < (W2.alloc (.cells #[.int .i64 0, .string ⟨#[]⟩, .slice none 0 0, .slice none 0 0] 28)).heap.size := lt_of_block hR
  rw [hW2] at hR hM s3 HK3 hsz
  have HS := hide (hS.keepF (unhide HK3))
  have HBD := hide (hb.keepF (unhide HK3))
  have HT := hide (hT.keepF (unhide HK3))
  clear hW2 hk2 hbs s0 r0 r1 r2 r3 k3 hs2 hM0
  generalize hW : (((w.alloc (.cells #[.slice so S.length sc] 24)).alloc (.cells #[.int .i64 k, str key, .slice none 0 0, .slice none 0 0] 28)).alloc (.cells #[.int .i64 0, .string ⟨#[]⟩, .slice none 0 0, .slice none 0 0] 28)) = W at *
  obtain ⟨m0, m1, m2, m3, mf0, mf1, mf2, mf3, ml⟩ := four_cells hM
  have HM := hide hM
  have HR := hide hR
  clear hS hb hT hM hR
  by_cases hk1 : k = 1
  · have HQ := hide (val_decode S _ body _ W (unhide HT) (unhide HS) (unhide HBD) (by omega) (Or.inr ⟨ub, uoff, ucap, rfl⟩))
    have HMO : Hid (msgOf S k key body = ⟨k, key, (decodeV S body).1, []⟩) := by show _ = _; unfold msgOf; rw [if_pos hk1]
    rw [unhide HMO]
    have be : (k == 1) = true := by rw [beq_iff_eq]; exact hk1
    generalize decodeV S body = DV at *
    clear hk1 HMO
    go_enter Tryz.func58, Tryz.ntmps58
    go_wp2_with fail
    refine (unhide HQ).mono ?_
    rintro e w1 ⟨r', rfl, how, hk⟩
    have hv1 := rowAt_own how
    obtain ⟨ro, rc, rfl⟩ := RowAt.form hv1
    have hM1 := (hk.block _ (lt_of_block (unhide HM)) id).trans (unhide HM)
    have hR1 := (hk.block _ (lt_of_block (unhide HR)) id).trans (unhide HR)
    obtain ⟨n0, n1, n2, n3, nf0, nf1, nf2, nf3, nl⟩ := four_cells hM1
    have hM2 := (set1c hM1 (.slice ro DV.1.length rc)).1
    have kM := keeps_setM w1 (w.heap.size + 1) 2 (.slice ro DV.1.length rc)
    have hR2 := (kM.block _ (lt_of_block hR1) (by omega)).trans hR1
    obtain ⟨p0, p1, p2, p3, pf0, pf1, pf2, pf3, pl⟩ := four_cells hM2
    obtain ⟨q0, q1, q2, q3, qf0, qf1, qf2, qf3, ql⟩ := four_cells hR2
    obtain ⟨t0, t1, t2, t3⟩ := set4c hR2 (.int .i64 k) (str key) (.slice ro DV.1.length rc) (.slice none 0 0)
    have kR := keeps_set4 (w1.setCell ⟨w.heap.size + 1, 2, none⟩ (.slice ro DV.1.length rc)) (w.heap.size + 1 + 1) (.int .i64 k) (str key) (.slice ro DV.1.length rc) (.slice none 0 0)
    have HVF := hide (RowAt.kept (RowAt.kept hv1 kM (own_off how hM1 (by decide))) kR (fun q e => own_off how hR1 (by decide) q e))
    have HKF := hide ((((unhide HK3).trans hk).then kM (fun i hi e => by omega)).then kR (fun i hi e => by omega))
    have HOB : Hid (∀ k, (Value.slice ro DV.1.length rc).ownBlock = some k → w.heap.size ≤ k) := fun k e => Nat.le_trans (unhide HK3).size (own_base how k e)
    have hne : ¬ w.heap.size + 1 = w.heap.size + 1 + 1 := by omega
    clear hk HQ how hv1 hM1 hR1 hM2 kM hR2 kR hW
    go_wp2_with fail
    refine bodyPost_ret (v := .agg #[.int .i64 k, str key, .slice ro DV.1.length rc, .slice none 0 0]) (by simp [results, go_sem, t0, t1, t2, t3]) rfl ?_
    exact ⟨_, rfl, ⟨ro, rc, none, 0, rfl, unhide HVF, nil_bytes _, unhide HOB, (fun k e => by cases e)⟩, unhide HKF⟩
  · have HMO : Hid (msgOf S k key body = ⟨k, key, [], body⟩) := by show _ = _; unfold msgOf; rw [if_neg hk1]
    rw [unhide HMO]
    have be : (k == 1) = false := by rw [beq_eq_false_iff_ne]; exact hk1
    have ho0 : (W.alloc (.cells #[] 5)).ownsRow W.heap.size 5 1 (.slice (some ⟨W.heap.size, 0, none⟩) 0 0) 0 [] := World.ownsRow_lit (base := W.heap.size) (e := 5) (size := 1) W #[] 0 (Nat.le_refl _) (by unfold maxLen; omega) rfl
    have HO0 := hide ho0
    have HB0 := hide ((unhide HBD).keepF (kAlloc W (.cells #[] 5)))
    clear hk1 HMO ho0
    go_enter Tryz.func58, Tryz.ntmps58
    go_wp2_with (at_builtin; refine wpList_append_any rfl _ _ rfl W.heap.size (.slice (some ⟨W.heap.size, 0, none⟩) 0 0) 0 [] rfl (unhide HO0) (.slice (some ⟨ub, uoff, none⟩) body.length ucap) body rfl (unhide HB0) (by unfold maxLen; omega) (by omega) (by simp) ?_; intro v' w1 how hg; rw [Nat.zero_add, List.nil_append] at how; have hkg : Keeps (fun _ => False) W w1 := ((Keeps.refl _ W).alloc _).grown hg (fun q e hq => by simp only [Value.ownBlock, Option.some.injEq] at e; omega); obtain ⟨bo, bc, rfl⟩ := RowAt.form (rowAt_own how); have hM1 := (hkg.block _ (lt_of_block (unhide HM)) id).trans (unhide HM); have hR1 := (hkg.block _ (lt_of_block (unhide HR)) id).trans (unhide HR); obtain ⟨n0, n1, n2, n3, nf0, nf1, nf2, nf3, nl⟩ := four_cells hM1; have HO1 := hide how; have HG1 := hide hkg; have HM1 := hide hM1; have HR1 := hide hR1; have hM2 := (set1c hM1 (.slice bo body.length bc)).2; have kM := keeps_setM w1 (w.heap.size + 1) 3 (.slice bo body.length bc); have hR2 := (kM.block _ (lt_of_block hR1) (by omega)).trans hR1; obtain ⟨p0, p1, p2, p3, pf0, pf1, pf2, pf3, pl⟩ := four_cells hM2; obtain ⟨q0, q1, q2, q3, qf0, qf1, qf2, qf3, ql⟩ := four_cells hR2; have hne : ¬ w.heap.size + 1 = w.heap.size + 1 + 1 := (by omega); have HR2 := hide hR2; clear how hg hkg hM1 hR1 hM2 kM hR2)
    obtain ⟨t0, t1, t2, t3⟩ := set4c (unhide HR2) (.int .i64 k) (str key) (.slice none 0 0) (.slice bo body.length bc)
    have kM := keeps_setM w1 (w.heap.size + 1) 3 (.slice bo body.length bc)
    have kR := keeps_set4 (w1.setCell ⟨w.heap.size + 1, 3, none⟩ (.slice bo body.length bc)) (w.heap.size + 1 + 1) (.int .i64 k) (str key) (.slice none 0 0) (.slice bo body.length bc)
    have hv1 : BytesAt w1 (.slice bo body.length bc) body := rowAt_own (unhide HO1)
    have hvf := RowAt.kept (RowAt.kept hv1 kM (own_off (unhide HO1) (unhide HM1) (by decide))) kR (fun q e => own_off (unhide HO1) (unhide HR1) (by decide) q e)
    have hkf := (((unhide HK3).trans (unhide HG1)).then kM (fun i hi e => by omega)).then kR (fun i hi e => by omega)
    refine bodyPost_ret (v := .agg #[.int .i64 k, str key, .slice none 0 0, .slice bo body.length bc]) (by simp [results, go_sem, t0, t1, t2, t3]) rfl ?_
    exact ⟨_, rfl, ⟨none, 0, bo, bc, rfl, nil_vals _, hvf, (fun k e => by cases e), fun k e => Nat.le_trans (unhide HK3).size (own_base (unhide HO1) k e)⟩, hkf⟩
end Go.Proofs.YtcfnlnceoalnoaaGreatDoor
namespace Go.Proofs.YtcfnlnceoalnoaaGreatDoor
open Go.RowKit Go.Maps
/-- What part's three answers tell. -/
def PartP (B : Nat) (w' : World) (x : Value) (n : Int) (ok : Bool) (a : Nat) : Option (Txt × Txt) → Prop
  | none => ok = false
  | some (p, _) => ok = true ∧ n = ((a + 1 + p.length : Nat) : Int) ∧ (∃ xo xc, x = .slice xo p.length xc) ∧ BytesAt w' x p ∧ (∀ k, x.ownBlock = some k → B ≤ k) ∧ ∀ W', BytesAt W' x p → (convert 26 9 x).run Tryz.prog W' = .ok (str p) W'
theorem own_conv {w : World} {B n : Nat} {v : Value} {xs : List Value} {t : Txt} (h : w.ownsRow B 5 1 v n xs) (hn : t.length = n) : ∀ W', BytesAt W' v t → (convert 26 9 v).run Tryz.prog W' = .ok (str t) W' := by
  subst hn
  rcases h.2 with ⟨rfl, h0⟩ | ⟨g, cap, cur, rfl, _⟩
  · intro W' _
    obtain rfl : t = [] := List.length_eq_zero_iff.1 h0
    simp [convert, go_sem, str, Conv.bytesToString]
    rfl
  · intro W' hb
    exact conv_row hb
theorem RowAt.len_eq {w : World} {v : Value} {n : Nat} {P : Txt} (hn : P.length = n) (h : RowAt w v n (bs P)) : BytesAt w v P := by
  unfold BytesAt
  rw [hn]
  exact h
set_option maxRecDepth 100000 in
set_option maxHeartbeats 4000000 in
theorem part_v (w : World) (v : Value) (t : Txt) (a : Nat) (h : BytesAt w v t) (ht : t.length ≤ 140737488355328) (ha : a ≤ t.length) :
    Calls Tryz.prog 36 #[v, .int .i64 (a : Int)] w fun e w' => Keeps (fun _ => False) w w' ∧ ∃ x n ok, e = .returned (.tuple #[x, .int .i64 n, .bool ok]) ∧ PartP w.heap.size w' x n ok a (textP (t.drop a)) := by
  obtain ⟨ao, cap, rfl⟩ := RowAt.form h
  by_cases hal : a = t.length
  · have HN : Hid (textP (t.drop a) = none) := by show _ = _; rw [hal, List.drop_length]; rfl
    rw [unhide HN]
    have i1 : (t.length : Int) ≤ (a : Int) := by omega
    generalize t.length = L at *
    clear h hal
    go_enter Tryz.func36, Tryz.ntmps36
    go_wp2_with fail
    go_ret3
    exact ⟨Keeps.refl _ _, _, _, _, rfl, rfl⟩
  · have hlt : a < t.length := by omega
    obtain ⟨b, off, cc, e1, hblt, hc⟩ := h.cells (by omega)
    simp only [Value.slice.injEq] at e1
    obtain ⟨rfl, _, rfl⟩ := e1
    obtain ⟨c, hcx⟩ : ∃ c, t[a]? = some c := ⟨_, List.getElem?_eq_getElem hlt⟩
    have c0 := hc a c hcx
    have hroom := RowAt.room h _ _ _ rfl
    obtain ⟨C, hC⟩ : ∃ C, c.toNat = C := ⟨_, rfl⟩
    have hCn : num c = (C : Int) := by unfold num; omega
    rw [hCn] at c0
    have hC255 : (C : Int) ≤ 255 := by have := c.toNat_lt; omega
    have hdr : t.drop a = c :: t.drop (a + 1) := drop_at hcx
    have HTK : Hid (textP (t.drop a) = if (t.drop (a + 1)).length < C then none else some ((t.drop (a + 1)).take C, (t.drop (a + 1)).drop C)) := by show _ = _; rw [hdr, ← hC]; rfl
    have hdl : (t.drop (a + 1)).length = t.length - (a + 1) := List.length_drop
    by_cases hc3 : t.length < a + 1 + C
    · have HN : Hid (textP (t.drop a) = none) := by show _ = _; rw [unhide HTK, if_pos (by omega)]
      rw [unhide HN]
      have i1 : (a : Int) < (t.length : Int) := by omega
      have i2 : (t.length : Int) < (a : Int) + 1 + (C : Int) := by omega
      have i3 : (0 : Int) ≤ (a : Int) := by omega
      generalize t.length = L at *
      clear h hal hlt hc hdr hdl hc3 HTK
      go_enter Tryz.func36, Tryz.ntmps36
      go_wp2_with fail
      go_ret3
      exact ⟨Keeps.refl _ _, _, _, _, rfl, rfl⟩
    · have HN : Hid (textP (t.drop a) = some ((t.drop (a + 1)).take C, (t.drop (a + 1)).drop C)) := by show _ = _; rw [unhide HTK, if_neg (by omega)]
      rw [unhide HN]
      have hb1 := rest_bytes h (k := a + 1) (by omega)
      rw [← hdl] at hb1
      have hb2 := first_bytes hb1 (n := C) (by omega)
      have hpl : ((t.drop (a + 1)).take C).length = C := by rw [List.length_take]; omega
      have HQ := hide (copyBytes_any w _ _ hb2 (by rw [hpl]; omega))
      have HPL := hide hpl
      have i1 : (a : Int) < (t.length : Int) := by omega
      have i2 : (a : Int) + 1 + (C : Int) ≤ (t.length : Int) := by omega
      have i3 : (0 : Int) ≤ (a : Int) := by omega
      have i4 : (t.length : Int) ≤ (cap : Int) := by omega
      generalize (t.drop (a + 1)).take C = P at *
      generalize (t.drop (a + 1)).drop C = P2 at *
      generalize t.length = L at *
      clear h hal hlt hc hdr hdl hc3 HTK hb1 hb2 HN hcx hpl
      rw [unhide HPL] at HQ
      by_cases hcap : cap = a + 1
      · have hC0 : C = 0 := by omega
        have hL1 : L = a + 1 := by omega
        rw [if_pos hcap] at HQ
        subst hcap
        subst hC0
        subst hL1
        rw [Nat.sub_self] at HQ
        go_enter Tryz.func36, Tryz.ntmps36
        go_wp2_with fail
        refine (unhide HQ).mono ?_
        rintro e w1 ⟨v', rfl, how, hk⟩
        have hv1 : BytesAt w1 v' P := RowAt.len_eq (unhide HPL) (rowAt_own how)
        have HV1 := hide hv1
        have HK1 := hide hk
        have HF1 := hide (RowAt.form hv1)
        have HO1 := hide (own_base how)
        have HC1 := hide (own_conv how (unhide HPL))
        clear how hk HQ hv1
        go_wp2_with fail
        go_ret3
        exact ⟨unhide HK1, _, _, _, rfl, rfl, by rw [unhide HPL]; omega, unhide HF1, unhide HV1, unhide HO1, unhide HC1⟩
      · rw [if_neg hcap] at HQ
        go_enter Tryz.func36, Tryz.ntmps36
        go_wp2_with fail
        refine (unhide HQ).mono ?_
        rintro e w1 ⟨v', rfl, how, hk⟩
        have hv1 : BytesAt w1 v' P := RowAt.len_eq (unhide HPL) (rowAt_own how)
        have HV1 := hide hv1
        have HK1 := hide hk
        have HF1 := hide (RowAt.form hv1)
        have HO1 := hide (own_base how)
        have HC1 := hide (own_conv how (unhide HPL))
        clear how hk HQ hv1
        go_wp2_with fail
        go_ret3
        exact ⟨unhide HK1, _, _, _, rfl, rfl, by rw [unhide HPL]; omega, unhide HF1, unhide HV1, unhide HO1, unhide HC1⟩
end Go.Proofs.YtcfnlnceoalnoaaGreatDoor
