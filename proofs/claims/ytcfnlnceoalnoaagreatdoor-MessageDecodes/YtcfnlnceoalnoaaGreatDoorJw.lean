import Derived.Test.YtcfnlnceoalnoaaGreatDoorJv
import Derived.Test.YtcfnlnceoalnoaaGreatDoorJl
import Derived.Test.YtcfnlnceoalnoaaGreatDoorJf
import Derived.Lib.ConvBytes
namespace Go.Proofs.YtcfnlnceoalnoaaGreatDoor
open Go.RowKit Go.Maps
theorem takeG_readG : ∀ (T : Txt) (k U u : Nat) (s : Txt), k ≤ 9 → U < 128 ^ k → takeG k T U = some (u, s) → ∃ j, readG (10 - k) T U k = some (u, k + j) ∧ s = T.drop j
  | [], k, U, u, s, _, _, h => by simp [takeG] at h
  | c :: r, k, U, u, s, hk, hU, h => by
    rw [takeG] at h
    split at h
    · cases h
    · rename_i h9
      have h9' : k = 9 → c.toNat ≤ 1 := fun e => by
        rcases Nat.lt_or_ge 1 c.toNat with h1 | h1
        · exact absurd ⟨e, h1⟩ h9
        · exact h1
      obtain ⟨g1, g2⟩ := group_lt U k c hU hk h9'
      rw [show 10 - k = (9 - k) + 1 by omega, readG]
      split at h
      · rename_i hc
        split at h
        · cases h
        · simp only [Option.some.injEq, Prod.mk.injEq] at h
          rw [if_pos hc, Nat.mod_eq_of_lt g2]
          exact ⟨1, by rw [h.1], by rw [← h.2]; rfl⟩
      · rename_i hc
        rw [if_neg hc, Nat.mod_eq_of_lt g2]
        have hk8 : k ≤ 8 := by
          rcases Nat.lt_or_ge k 9 with h1 | h1
          · omega
          · have := h9' (by omega); omega
        obtain ⟨j, e1, e2⟩ := takeG_readG r (k + 1) _ u s (by omega) g1 h
        rw [show 9 - k = 10 - (k + 1) by omega, e1]
        exact ⟨j + 1, by rw [show k + 1 + j = k + (j + 1) by omega], by rw [e2]; rfl⟩
theorem take_read {f : FieldA} {t : Txt} {a : Nat} {x : ValA} {s : Txt} (h : takeP f.type (t.drop a) = some (x, s)) : 0 ≤ (readB f t a).2 ∧ (readB f t a).1 = x ∧ s = t.drop (readB f t a).2.toNat := by
  unfold takeP at h
  unfold readB
  by_cases h1 : f.type = 1
  · rw [if_pos h1] at h ⊢
    unfold takeIntP at h
    cases hg : takeG 0 (t.drop a) 0 with
    | none => rw [hg] at h; cases h
    | some p =>
      obtain ⟨u, e⟩ := p
      rw [hg] at h
      simp only [Option.map_some, Option.some.injEq, Prod.mk.injEq] at h
      obtain ⟨j, e1, e2⟩ := takeG_readG _ 0 0 u e (by omega) (by simp) hg
      unfold readIntB
      rw [show 10 - 0 = 10 from rfl, Nat.zero_add] at e1
      rw [e1]
      refine ⟨by show (0 : Int) ≤ ((a + j : Nat) : Int); omega, h.1, ?_⟩
      rw [← h.2, e2, List.drop_drop]
      rfl
  · rw [if_neg h1] at h ⊢
    cases hc : t[a]? with
    | none =>
      rw [List.drop_eq_nil_of_le (get_ge hc)] at h
      split at h <;> cases h
    | some c =>
      rw [drop_at hc] at h
      simp only
      by_cases h2 : f.type = 2
      · rw [if_pos h2] at h ⊢
        replace h : (if 1 < c.toNat then none else some ((⟨2, num c, []⟩ : ValA), t.drop (a + 1))) = some (x, s) := h
        split at h
        · cases h
        · simp only [Option.some.injEq, Prod.mk.injEq] at h
          exact ⟨by show (0 : Int) ≤ ((a + 1 : Nat) : Int); omega, h.1, by rw [← h.2]; rfl⟩
      · rw [if_neg h2] at h ⊢
        replace h : (if 20 < c.toNat then none else if (t.drop (a + 1)).length < c.toNat then none else some ((⟨3, 0, (t.drop (a + 1)).take c.toNat⟩ : ValA), (t.drop (a + 1)).drop c.toNat)) = some (x, s) := h
        split at h
        · cases h
        · split at h
          · cases h
          · rename_i h3
            simp only [Option.some.injEq, Prod.mk.injEq] at h
            rw [List.length_drop] at h3
            have := get_lt hc
            rw [if_neg (by omega)]
            refine ⟨by show (0 : Int) ≤ ((a + 1 + c.toNat : Nat) : Int); omega, h.1, ?_⟩
            rw [← h.2, List.drop_drop]
            rfl
theorem decP_loop (t : Txt) : ∀ (l : List FieldA) (m a : Nat) (r : List ValA) (m' : Nat) (e : Txt), decP l m (t.drop a) = some (r, m', e) → decLoop l t m a = some r
  | [], m, a, r, m', e, h => by
    simp only [decP, Option.some.injEq, Prod.mk.injEq] at h
    rw [decLoop, h.1]
  | f :: l, m, a, r, m', e, h => by
    rw [decP] at h
    rw [decLoop]
    by_cases h1 : f.opt = true ∧ m % 2 ≠ 1
    · rw [if_pos h1] at h ⊢
      cases hd : decP l (m / 2) (t.drop a) with
      | none => rw [hd] at h; cases h
      | some q =>
        obtain ⟨q1, q2, q3⟩ := q
        rw [hd] at h
        simp only [Option.map_some, Option.some.injEq, Prod.mk.injEq] at h
        rw [decP_loop t l _ _ _ _ _ hd, ← h.1]
        rfl
    · rw [if_neg h1] at h ⊢
      cases ht : takeP f.type (t.drop a) with
      | none => rw [ht] at h; cases h
      | some p =>
        obtain ⟨x, s⟩ := p
        rw [ht] at h
        obtain ⟨g1, g2, g3⟩ := take_read ht
        rw [if_neg (by omega), g2]
        simp only [Option.bind_some] at h
        rw [g3] at h
        cases hd : decP l (if f.opt = true then m / 2 else m) (t.drop (readB f t a).2.toNat) with
        | none => rw [hd] at h; cases h
        | some q =>
          obtain ⟨q1, q2, q3⟩ := q
          rw [hd] at h
          simp only [Option.map_some, Option.some.injEq, Prod.mk.injEq] at h
          rw [decP_loop t l _ _ _ _ _ hd, ← h.1]
          rfl
theorem decLoop_in (t : Txt) : ∀ (l : List FieldA) (m a : Nat) (r : List ValA), a ≤ t.length → decLoop l t m a = some r → InR r
  | [], m, a, r, _, h => by
    simp only [decLoop, Option.some.injEq] at h
    subst h
    intro x hx; cases hx
  | f :: l, m, a, r, ha, h => by
    rw [decLoop] at h
    split at h
    · cases hd : decLoop l t (m / 2) a with
      | none => rw [hd] at h; cases h
      | some q =>
        rw [hd] at h
        simp only [Option.map_some, Option.some.injEq] at h
        subst h
        intro x hx
        rcases List.mem_cons.1 hx with rfl | hx
        · simp
        · exact decLoop_in t l _ _ _ ha hd x hx
    · split at h
      · cases h
      · rename_i h2
        have hf := readB_facts f t a ha
        cases hd : decLoop l t (if f.opt = true then m / 2 else m) (readB f t a).2.toNat with
        | none => rw [hd] at h; cases h
        | some q =>
          rw [hd] at h
          simp only [Option.map_some, Option.some.injEq] at h
          subst h
          intro x hx
          rcases List.mem_cons.1 hx with rfl | hx
          · exact hf.2
          · exact decLoop_in t l _ _ _ (by omega) hd x hx
theorem enc1_wide {f : FieldA} {x : ValA} (hok : fieldOK f = true) (h : fitsB f x = true) (hx : -9223372036854775808 ≤ x.n ∧ x.n ≤ 9223372036854775807) : ((enc1 x).length : Int) ≤ wideB f.type := by
  by_cases hk : x.kind = 0
  · have : (enc1 x).length = 0 := by unfold enc1; simp [hk]
    rcases type_of hok with e | e | e <;> rw [e] <;> simp [wideB] <;> omega
  · have hty := fits_type h hk
    have hl := enc1_length h hx
    rcases type_of hok with e | e | e
    · have h1 : enc1 x = groups (tn x.n) := by unfold enc1; simp [hty.trans e]
      have h2 := groups_length 9 (tn x.n) (by have := tn_le x.n hx.1 hx.2; omega)
      rw [h1, e]
      simp [wideB]
      omega
    · have h1 : (enc1 x).length = 1 := by unfold enc1; simp [hty.trans e]
      rw [h1, e]
      simp [wideB]
    · rw [e]
      simp [wideB]
      omega
theorem flat_wide : ∀ (l : List FieldA) (r : List ValA), l.all fieldOK = true → fitAll l r = true → r.length = l.length → InR r → ((r.flatMap enc1).length : Int) ≤ wides l
  | [], [], _, _, _, _ => by simp [wides]
  | [], x :: r, _, _, hl, _ => by simp at hl
  | f :: l, [], _, _, hl, _ => by simp at hl
  | f :: l, x :: r, hok, hf, hl, hI => by
    simp only [List.all_cons, Bool.and_eq_true] at hok
    unfold fitAll at hf
    simp only [List.zip_cons_cons, List.all_cons, Bool.and_eq_true] at hf
    have h1 := enc1_wide hok.1 hf.1 (hI x (by simp))
    have h2 := flat_wide l r hok.2 hf.2 (by simpa using hl) (fun y hy => hI y (List.mem_cons_of_mem _ hy))
    simp only [List.flatMap_cons, List.length_append, wides, List.map_cons, List.sum_cons]
    unfold wides at h2
    omega
theorem bitsOf_opts : ∀ (l : List FieldA) (r : List ValA), r.length = l.length → (bitsOf (l.zip r)).length = opts l
  | [], [], _ => rfl
  | [], x :: r, hl => by simp at hl
  | f :: l, [], hl => by simp at hl
  | f :: l, x :: r, hl => by
    have h := bitsOf_opts l r (by simpa using hl)
    rw [List.zip_cons_cons, bitsOf_cons]
    unfold opts at h ⊢
    cases ho : f.opt <;> simp [ho, h]
theorem enc_64 {l : List FieldA} {r : List ValA} (he : errR l r = 0) (hI : InR r) : (encB l r).length ≤ 64 := by
  obtain ⟨hs, hl, hf⟩ := errR_zero he
  have h1 := flat_wide l r (schemaB_ok hs) hf hl hI
  have h2 : widthB l ≤ 64 := by
    unfold schemaB at hs
    simp only [Bool.and_eq_true, decide_eq_true_eq] at hs
    exact hs.2
  unfold widthB headB at h2
  unfold encB
  rw [List.length_append]
  have h3 : (headT (l.zip r)).length ≤ (opts l + 7) / 8 := by
    unfold headT
    rw [bitsOf_opts l r hl]
    split
    · simp; omega
    · simp
  omega
theorem decode_eq (l : List FieldA) (t : Txt) : decodeV l t = decodeB l t := by
  unfold decodeV decodeB
  cases hs : schemaB l with
  | false => simp
  | true =>
    rw [if_neg (by simp), if_neg (by simp)]
    cases hd : decodeP l t with
    | some r =>
      obtain ⟨he, hI, hen⟩ := decodeP_sound hs hd
      obtain ⟨h1, h2⟩ := decodeP_some hd
      have h3 := enc_64 he hI
      rw [hen] at h3
      rw [if_neg (by omega), decP_loop t l _ _ _ _ _ h2]
      simp only
      rw [if_pos ⟨he, hen⟩]
    | none =>
      by_cases h1 : t.length < headB l ∨ 64 < t.length
      · rw [if_pos h1]
      · rw [if_neg h1]
        cases hl : decLoop l t (head0 l t) (headB l) with
        | none => rfl
        | some r =>
          simp only
          by_cases h2 : errR l r = 0 ∧ encB l r = t
          · have hI := decLoop_in t l _ _ _ (by omega) hl
            have := decodeP_enc hs h2.1 hI
            rw [h2.2, hd] at this
            cases this
          · rw [if_neg h2]
theorem bytes_back {l : List FieldA} {r : List ValA} (he : errR l r = 0) (hI : InR r) : decodeB l (encodeB l r) = (r, 0) := by
  obtain ⟨hs, hl, hf⟩ := errR_zero he
  rw [← decode_eq]
  unfold encodeB decodeV
  rw [if_pos he, if_neg (by simp [hs]), decodeP_enc hs he hI]
theorem decodeV_ok {l : List FieldA} {t : Txt} (hs : schemaB l = true) : (∃ r, decodeV l t = (r, 0) ∧ errR l r = 0 ∧ InR r ∧ encodeB l r = t) ∨ decodeV l t = ([], 62) := by
  unfold decodeV
  rw [hs, if_neg (by simp)]
  cases h : decodeP l t with
  | none => right; rfl
  | some r =>
    left
    obtain ⟨h1, h2, h3⟩ := decodeP_sound hs h
    exact ⟨r, rfl, h1, h2, by unfold encodeB; rw [if_pos h1, h3]⟩
theorem decodeV_none {l : List FieldA} {t : Txt} (hs : schemaB l = true) (h : decodeP l t = none) : decodeV l t = ([], 62) := by
  unfold decodeV
  rw [hs, if_neg (by simp), h]
theorem encodeB_eq {l : List FieldA} {r : List ValA} (h : errR l r = 0) : encodeB l r = encB l r := by unfold encodeB; rw [if_pos h]

/-- A message's body. -/
def bodyM (S : List FieldA) (m : MsgA) : Txt := if m.kind = 1 then encodeB S m.vals else m.code
/-- A message as bytes. -/
def bytesM (S : List FieldA) (m : MsgA) : Txt := u8 m.kind :: u8 m.key.length :: (m.key ++ (u8 (bodyM S m).length :: bodyM S m))
/-- What Encode answers. -/
def encM (S : List FieldA) (m : MsgA) : Txt × Int := if checkM S m = 0 then (bytesM S m, 0) else ([], checkM S m)
theorem check_parts {S : List FieldA} {m : MsgA} (h : checkM S m = 0) : errS S = 0 ∧ shapeB m = true ∧ keyE m.key = 0 ∧ (m.kind = 1 → errR S m.vals = 0) ∧ (m.kind = 3 → codeE S m.code = 0) := by
  unfold checkM at h
  split at h
  · rename_i q; exact absurd h q
  · rename_i q1
    split at h
    · cases h
    · rename_i q2
      split at h
      · rename_i q; exact absurd h q
      · rename_i q3
        refine ⟨by simpa using q1, by simpa using q2, by simpa using q3, fun hk => ?_, fun hk => ?_⟩
        · rw [if_pos hk] at h; exact h
        · rw [if_neg (by omega), if_pos hk] at h; exact h
theorem code_96 {S : List FieldA} {b : Txt} (h : codeE S b = 0) : b.length ≤ 96 := by
  unfold codeE at h
  split at h
  · rename_i q; exact absurd h q
  · rename_i q
    have q' : (decC b).2 = 0 := by simpa using q
    unfold decC at q'
    split at q'
    · cases q'
    · omega
theorem body_96 {S : List FieldA} {m : MsgA} (h : checkM S m = 0) (hI : InR m.vals) : (bodyM S m).length ≤ 96 := by
  obtain ⟨h1, h2, h3, h4, h5⟩ := check_parts h
  unfold bodyM
  rcases shape_kinds h2 with ⟨hk, _⟩ | ⟨hk, _, hc⟩ | ⟨hk, _⟩
  · rw [if_pos hk]
    unfold encodeB
    rw [if_pos (h4 hk)]
    have := enc_64 (h4 hk) hI
    omega
  · rw [if_neg (by omega), hc]; simp
  · rw [if_neg (by omega)]; exact code_96 (h5 hk)
theorem key_16 {x : Txt} (h : keyE x = 0) : 1 ≤ x.length ∧ x.length ≤ 16 := by
  unfold keyE at h
  split at h
  · cases h
  · omega
end Go.Proofs.YtcfnlnceoalnoaaGreatDoor
namespace Go.Proofs.YtcfnlnceoalnoaaGreatDoor
open Go.RowKit Go.Maps
theorem bytes_nil {w w' : World} {v : Value} (h : BytesAt w v []) : BytesAt w' v [] := by
  obtain ⟨ao, c, rfl⟩ := RowAt.form h
  exact ⟨⟨_, _, rfl⟩, fun h0 => by simp at h0, fun a m cap e => by simp at e; omega⟩
/-- Bytes that were there stay where only newer blocks are written. -/
theorem BytesAt.low {w w' : World} {v : Value} {t : Txt} (h : BytesAt w v t) {F : Nat → Prop} (hk : Keeps F w w') (hF : ∀ k, k < w.heap.size → ¬ F k) : BytesAt w' v t := by
  cases t with
  | nil => exact bytes_nil h
  | cons c r =>
    obtain ⟨b, off, cap, rfl, hb, hc⟩ := h.cells (by simp)
    exact RowAt.kept h hk (fun k e => by
      simp only [Value.ownBlock, Option.some.injEq] at e
      subst e
      exact hF _ hb)
set_option maxRecDepth 100000 in
set_option maxHeartbeats 4000000 in
theorem appendShort_v (base : Nat) (v u : Value) (xs : List Value) (n : Nat) (t : Txt) (w : World) (hown : w.ownsRow base 5 1 v n xs) (hu : ∀ W', Keeps (fun q => v.ownBlock = some q) w W' → BytesAt W' u t) (hn : n ≤ 1000) (ht : t.length ≤ 255) (hbase : base ≤ w.heap.size) :
    Calls Tryz.prog 26 #[v, u] w fun e w' => ∃ v', e = .returned v' ∧ w'.ownsRow base 5 1 v' (n + 1 + t.length) (xs ++ [.int .u8 (t.length : Int)] ++ bs t) ∧ Keeps (fun q => v.ownBlock = some q) w w' := by
  obtain ⟨i0, hi, hz0, hz1, hz2⟩ := info_parts Tryz.info5
  obtain ⟨uo, uc, rfl⟩ := RowAt.form (hu w (Keeps.refl _ _))
  obtain ⟨vo, vc, rfl⟩ := RowAt.form (rowAt_own hown)
  have HU := hide hu
  have HO := hide hown
  have HT := hide ht
  have i1 : (0 : Int) ≤ (t.length : Int) := by omega
  have i2 : (t.length : Int) ≤ 255 := by omega
  have mark0 : True := trivial
  clear hown hu ht
  go_enter Tryz.func26, Tryz.ntmps26
  go_wp2_with (first
    | (clear mark0
       at_builtin
       refine wpList_append_lies _ rfl _ _ _ rfl base 5 i0 _ 1 1 Tryz.underlying26 hi hz0 hz1 hz2 rfl (by omega) (.slice vo n vc) n xs rfl ((unhide HO).alloc _) ⟨w.heap.size, 0, none⟩ 1 1 [.int .u8 (t.length : Int)] rfl rfl (World.news_of_block (cs := #[.int .u8 (t.length : Int)]) (t := 5) (fr := (0, 0)) (heap_alloc_new w _)) (by simp [Value.oneCell']) (by omega) (by unfold maxLen; omega) (by omega) (by simp; omega) (w.heap.size + 1) (by simp) ?_
       intro g cap w1 hown1 hgrow hat hlt1
       have hk1 : Keeps (fun q => (Value.slice vo n vc).ownBlock = some q) w w1 := ((Keeps.refl _ w).alloc _).grown hgrow (fun q e _ => e)
       have HU1 := hide (unhide HU w1 hk1)
       have HK1 := hide hk1
       have HO1 := hide hown1
       have HB1 : Hid (base ≤ w1.heap.size) := Nat.le_trans hbase hk1.size
       have HAT := hide hat
       have mark1 : True := trivial
       clear hk1 hown1 hgrow hat)
    | (clear mark1
       at_builtin
       refine wpList_append_any rfl _ _ rfl base (.slice (some ⟨g, 0, none⟩) (n + 1) cap) (n + 1) (xs ++ [.int .u8 (t.length : Int)]) rfl (unhide HO1) (.slice uo t.length uc) t rfl (unhide HU1) (by have := unhide HT; unfold maxLen; omega) (by have := unhide HT; omega) (unhide HB1) ?_
       intro v2 w2 how2 hg2
       have HO2 := hide how2
       have HG2 := hide hg2
       clear how2 hg2))
  go_ret
  refine ⟨_, rfl, unhide HO2, (unhide HK1).grown (unhide HG2) (fun k e hlt => ?_)⟩
  simp only [Value.ownBlock, Option.some.injEq] at e
  subst e
  rcases unhide HAT with q | q
  · exact q
  · omega
set_option maxRecDepth 100000 in
set_option maxHeartbeats 2000000 in
theorem bodyOf_v (S : List FieldA) (sv vv cv : Value) (m : MsgA) (w : World) (hT : Types w) (hS : FldsAt w sv S) (hv : ValsAt w vv m.vals) (hc : BytesAt w cv m.code) (hI : InR m.vals) :
    Calls Tryz.prog 27 #[.agg #[sv], .agg #[.int .i64 m.kind, str m.key, vv, cv]] w fun e w' => ∃ b', e = .returned b' ∧ BytesAt w' b' (bodyM S m) ∧ (∀ k, b'.ownBlock = some k → w.heap.size ≤ k ∨ b' = cv) ∧ Keeps (fun _ => False) w w' := by
  obtain ⟨so, sc, rfl⟩ := RowAt.form hS
  obtain ⟨vo, vc, rfl⟩ := RowAt.form hv
  obtain ⟨co, cc, rfl⟩ := RowAt.form hc
  obtain ⟨Wb, hWb0, hkb, hbs, s0, r0, r1, r2, r3⟩ := two_boxesM w (.slice so S.length sc) (.int .i64 m.kind) (str m.key) (.slice vo m.vals.length vc) (.slice co m.code.length cc)
  have hb0 : w.heap.size < Wb.heap.size := by omega
  have hWb := hWb0.symm
  have HB := hide hkb
  have HQ := hide (val_encode S _ m.vals _ Wb (hT.keepF hkb) (hS.keepF hkb) (hv.keepF hkb) hI)
  have HC := hide (hc.keepF hkb)
  by_cases hk : m.kind = 1
  · have HM : Hid (bodyM S m = encodeB S m.vals) := by show _ = _; unfold bodyM; rw [if_pos hk]
    have be : (m.kind == 1) = true := by rw [beq_iff_eq]; exact hk
    generalize m.kind = MK at *
    clear hT hS hv hc hkb hWb0 hI hk
    go_enter Tryz.func27, Tryz.ntmps27
    go_wp2_with fail
    refine (unhide HQ).mono ?_
    rintro e w1 ⟨b', rfl, how, hk1⟩
    have hb' := how
    obtain ⟨bo, bc, rfl⟩ := RowAt.form (rowAt_own how)
    have HO := hide how
    have HK1 := hide hk1
    clear how hk1 HQ hb'
    go_wp2_with fail
    go_ret
    refine ⟨_, rfl, ?_, fun k e => Or.inl ?_, (unhide HB).trans (unhide HK1)⟩
    · rw [unhide HM]; exact rowAt_own (unhide HO)
    · have := ((unhide HO).lt k e).1
      have := (unhide HB).size
      omega
  · have HM : Hid (bodyM S m = m.code) := by show _ = _; unfold bodyM; rw [if_neg hk]
    have be : (m.kind == 1) = false := by rw [beq_eq_false_iff_ne]; exact hk
    generalize m.kind = MK at *
    clear hT hS hv hc hkb hWb0 hI hk HQ
    go_enter Tryz.func27, Tryz.ntmps27
    go_wp2_with fail
    go_ret
    refine ⟨_, rfl, ?_, fun k e => Or.inr rfl, unhide HB⟩
    rw [unhide HM]
    exact unhide HC
end Go.Proofs.YtcfnlnceoalnoaaGreatDoor
namespace Go.Proofs.YtcfnlnceoalnoaaGreatDoor
open Go.RowKit Go.Maps
theorem apart_body {Wb w4 w5 : World} {cv b5 : Value} {code body : Txt} (hcb : BytesAt Wb cv code) (hb : BytesAt w5 b5 body) (hor : ∀ k, b5.ownBlock = some k → w4.heap.size ≤ k ∨ b5 = cv) {g : Nat} (hg1 : Wb.heap.size ≤ g) (hg2 : g < w4.heap.size) {F : Nat → Prop} (hF : ∀ q, F q → q = g) : ∀ W', Keeps F w5 W' → BytesAt W' b5 body := by
  intro W' hk
  cases body with
  | nil => exact bytes_nil hb
  | cons c r =>
    obtain ⟨b, off, cap, rfl, hbl, hc⟩ := hb.cells (by simp)
    refine RowAt.kept hb hk (fun k e q => ?_)
    simp only [Value.ownBlock, Option.some.injEq] at e
    subst e
    have hbg := hF _ q
    rcases hor b rfl with h | h
    · omega
    · subst h
      obtain ⟨ao, cp, hf⟩ := RowAt.form hcb
      simp only [Value.slice.injEq] at hf
      obtain ⟨b2, o2, c2, e2, hb2, _⟩ := hcb.cells (by rw [← hf.2.1]; simp)
      simp only [Value.slice.injEq, Option.some.injEq, Addr.mk.injEq] at e2
      omega
theorem own_pos {w : World} {B n : Nat} {v : Value} {xs : List Value} (h : w.ownsRow B 5 1 v n xs) (hn : 0 < n) : ∃ g cap, v = .slice (some ⟨g, 0, none⟩) n cap ∧ B ≤ g ∧ g < w.heap.size := by
  rcases h.2 with ⟨_, h0⟩ | ⟨g, cap, cur, a1, a2, a3, _⟩
  · omega
  · exact ⟨g, cap, a1, a2, lt_of_block a3⟩
theorem bytesM_cells (S : List FieldA) (m : MsgA) (h1 : 0 ≤ m.kind) (h2 : m.kind ≤ 255) (h3 : m.key.length ≤ 255) (h4 : (bodyM S m).length ≤ 255) :
    bs (bytesM S m) = (([.int .u8 m.kind] ++ [.int .u8 (m.key.length : Int)]) ++ bs m.key) ++ [.int .u8 ((bodyM S m).length : Int)] ++ bs (bodyM S m) := by
  unfold bytesM
  simp only [bs, List.map_cons, List.map_append]
  rw [u8_num h1 h2, u8_num (by omega) (by omega), u8_num (by omega) (by omega)]
  simp
theorem bytesM_len (S : List FieldA) (m : MsgA) : (bytesM S m).length = 1 + 1 + m.key.length + 1 + (bodyM S m).length := by
  unfold bytesM
  simp
  omega
set_option maxRecDepth 100000 in
set_option maxHeartbeats 4000000 in
theorem msgEnc_v (S : List FieldA) (sv vv cv : Value) (m : MsgA) (w : World) (hE : EnvM w) (hS : FldsAt w sv S) (hv : ValsAt w vv m.vals) (hc : BytesAt w cv m.code) (hI : InR m.vals) (hkey : m.key.length ≤ 140737488355328) :
    Calls Tryz.prog 9 #[.agg #[sv], .agg #[.int .i64 m.kind, str m.key, vv, cv]] w fun e w' => ∃ b', e = .returned (.tuple #[b', .int .i64 (encM S m).2]) ∧ w'.ownsRow w.heap.size 5 1 b' (encM S m).1.length (bs (encM S m).1) ∧ Keeps (fun _ => False) w w' := by
  obtain ⟨so, sc, rfl⟩ := RowAt.form hS
  obtain ⟨vo, vc, rfl⟩ := RowAt.form hv
  obtain ⟨co, cc, rfl⟩ := RowAt.form hc
  obtain ⟨Wb, hWb0, hkb, hbs, s0, r0, r1, r2, r3⟩ := two_boxesM w (.slice so S.length sc) (.int .i64 m.kind) (str m.key) (.slice vo m.vals.length vc) (.slice co m.code.length cc)
  have hb0 : w.heap.size < Wb.heap.size := by omega
  have hWb := hWb0.symm
  have HB := hide hkb
  have HS := hide (hS.keepF hkb)
  have HV := hide (hv.keepF hkb)
  have HC := hide (hc.keepF hkb)
  have HE := hide (hE.keepF hkb)
  have HQ := hide (check_v S _ _ _ m Wb (unhide HE) (unhide HS) (unhide HV) (unhide HC) hkey)
  obtain ⟨R, HR⟩ : ∃ R, Hid (checkM S m = R) := ⟨_, rfl⟩
  rw [unhide HR] at HQ
  clear hE hS hv hc hkb hWb0
  go_enter Tryz.func9, Tryz.ntmps9
  go_wp2_with fail
  refine (unhide HQ).mono ?_
  rintro e w1 ⟨rfl, hk⟩
  have HK1 := hide hk
  have a0 := (hk.cell (o := 0) hb0 id).trans s0
  have a1 := (hk.cell (o := 0) hbs id).trans r0
  have a2 := (hk.cell (o := 1) hbs id).trans r1
  have a3 := (hk.cell (o := 2) hbs id).trans r2
  have a4 := (hk.cell (o := 3) hbs id).trans r3
  have l1 : w.heap.size + 1 < w1.heap.size := Nat.lt_of_lt_of_le hbs hk.size
  clear hk HQ hWb
  by_cases h0 : R = 0
  · subst h0
    have hck := unhide HR
    obtain ⟨q1, q2, q3, q4, q5⟩ := check_parts hck
    have hbl := body_96 hck hI
    obtain ⟨hk1, hk16⟩ := key_16 q3
    have hkd : 1 ≤ m.kind ∧ m.kind ≤ 3 := by rcases shape_kinds q2 with ⟨h, _⟩ | ⟨h, _⟩ | ⟨h, _⟩ <;> omega
    have HEN : Hid (encM S m = (bytesM S m, 0)) := by show _ = _; unfold encM; rw [if_pos hck]
    have HCE := hide (bytesM_cells S m (by omega) (by omega) (by omega) (by omega))
    have HBL := hide (bytesM_len S m)
    have HBQ := hide (fun (W : World) (hk : Keeps (fun _ => False) Wb W) => bodyOf_v S (.slice so S.length sc) (.slice vo m.vals.length vc) (.slice co m.code.length cc) m W ((unhide HE).keepF hk).env.types ((unhide HS).keepF hk) ((unhide HV).keepF hk) ((unhide HC).keepF hk) hI)
    have ho3 : (w1.alloc (.cells #[.int .u8 m.kind] 5)).ownsRow Wb.heap.size 5 1 (.slice (some ⟨w1.heap.size, 0, none⟩) 1 1) 1 [.int .u8 m.kind] := World.ownsRow_lit (base := Wb.heap.size) (e := 5) (size := 1) w1 #[.int .u8 m.kind] 1 (unhide HK1).size (by unfold maxLen; omega) rfl
    have HK3 := hide ((unhide HK1).trans (kAlloc w1 (.cells #[.int .u8 m.kind] 5)))
    have HQ := hide (appendStr_v Wb.heap.size (.slice (some ⟨w1.heap.size, 0, none⟩) 1 1) [.int .u8 m.kind] 1 m.key _ ho3 (by omega) (by omega) (unhide HK3).size)
    have c0 := ((unhide HK3).cell (o := 0) hb0 id).trans s0
    have c1 := ((unhide HK3).cell (o := 0) hbs id).trans r0
    have c2 := ((unhide HK3).cell (o := 1) hbs id).trans r1
    have c3 := ((unhide HK3).cell (o := 2) hbs id).trans r2
    have c4 := ((unhide HK3).cell (o := 3) hbs id).trans r3
    have i1 : (0 : Int) ≤ m.kind := by omega
    have i2 : m.kind ≤ 255 := by omega
    have HKL := hide hk16
    have HBB := hide hbl
    have HZ1 : Hid (Wb.heap.size ≤ w1.heap.size) := (unhide HK1).size
    clear q1 q2 q3 q4 q5 hck hbl hk1 hk16 hkd ho3
    go_wp2_with fail
    refine (unhide HQ).mono ?_
    rintro e w4 ⟨v4, rfl, ho4, hk4⟩
    have HK4 := hide ((unhide HK3).then hk4 (fun i hi e => by have := unhide HZ1; simp only [Value.ownBlock, Option.some.injEq] at e; omega))
    obtain ⟨g, gc, rfl, hg1, hg2⟩ := own_pos ho4 (by omega)
    have HO4 := hide ho4
    have d0 := ((unhide HK4).cell (o := 0) hb0 id).trans s0
    have d1 := ((unhide HK4).cell (o := 0) hbs id).trans r0
    have d2 := ((unhide HK4).cell (o := 1) hbs id).trans r1
    have d3 := ((unhide HK4).cell (o := 2) hbs id).trans r2
    have d4 := ((unhide HK4).cell (o := 3) hbs id).trans r3
    have HQ := hide ((unhide HBQ) w4 (unhide HK4))
    clear ho4 hk4 a0 a1 a2 a3 a4 c0 c1 c2 c3 c4
    go_wp2_with fail
    refine (unhide HQ).mono ?_
    rintro e w5 ⟨b5, rfl, hb5, hor, hk5⟩
    have HK5 := hide ((unhide HK4).trans hk5)
    have ho5 := ownsRow_kept (unhide HO4) hk5 (fun _ _ => id)
    have HQ := hide (appendShort_v Wb.heap.size _ b5 _ _ (bodyM S m) w5 ho5 (apart_body (unhide HC) hb5 hor hg1 hg2 (fun q e => by simp only [Value.ownBlock, Option.some.injEq] at e; exact e.symm)) (by have := unhide HKL; omega) (by have := unhide HBB; omega) (unhide HK5).size)
    obtain ⟨b5o, b5c, rfl⟩ := RowAt.form hb5
    have HG1 := hide hg1
    clear hb5 hor hk5 ho5 d0 d1 d2 d3 d4 hg1
    go_wp2_with fail
    refine (unhide HQ).mono ?_
    rintro e w6 ⟨v6, rfl, ho6, hk6⟩
    obtain ⟨g6, gc6, rfl, _, _⟩ := own_pos ho6 (by omega)
    have HK6 := hide (((unhide HB).trans (unhide HK5)).then hk6 (fun i hi e => by have := unhide HG1; have := (unhide HB).size; simp only [Value.ownBlock, Option.some.injEq] at e; omega))
    have HO6 := hide ho6
    clear ho6 hk6 HQ
    go_wp2_with fail
    go_ret2
    rw [unhide HEN]
    refine ⟨_, rfl, ?_, unhide HK6⟩
    have h6 := (unhide HO6).mono (base' := w.heap.size) (unhide HB).size
    rw [unhide HCE, unhide HBL]
    exact h6
  · have HEN : Hid (encM S m = ([], R)) := by show _ = _; unfold encM; rw [unhide HR, if_neg h0]
    have be : (R != 0) = true := by rw [bne_iff_ne]; exact h0
    clear h0
    go_wp2_with fail
    go_ret2
    rw [unhide HEN]
    exact ⟨_, rfl, World.ownsRow_nil w1 w.heap.size 5 1, (unhide HB).trans (unhide HK1)⟩
end Go.Proofs.YtcfnlnceoalnoaaGreatDoor
