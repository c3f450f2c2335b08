import Derived.Test.YtijfnlfgehcpaaaGreatDoorJbd
import Derived.Test.YtijfnlfgehcpaaaGreatDoorJbb
import Derived.Test.YtijfnlfgehcpaaaGreatDoorJae
namespace Go.Proofs.YtijfnlfgehcpaaaGreatDoor
open Go.RowKit Go.Maps

theorem sound_value (S : List FieldA) (op n : Int) (s : Txt) (kids : EL) (h : Bool) (vals : List ValA) :
    ((typeP S op n s kids).2.2 ≠ 0 ∧ (valueP S op n s kids h vals).2 = (typeP S op n s kids).2.2 ∧ (valueP S op n s kids h vals).1 = zV) ∨
    ((typeP S op n s kids).2.2 = 0 ∧ rowOfB S h vals = false ∧ (valueP S op n s kids h vals).2 = 61 ∧ (valueP S op n s kids h vals).1 = zV) ∨
    ((typeP S op n s kids).2.2 = 0 ∧ rowOfB S h vals = true ∧ (valueP S op n s kids h vals).2 = 0 ∧ (valueP S op n s kids h vals).1.kind = (typeP S op n s kids).1) ∨
    ((typeP S op n s kids).2.2 = 0 ∧ rowOfB S h vals = true ∧ (valueP S op n s kids h vals).2 = 0 ∧ (typeP S op n s kids).2.1 = true ∧ (valueP S op n s kids h vals).1 = zV) := by
  by_cases hE : (typeP S op n s kids).2.2 = 0
  · obtain ⟨hS, hb, hw, hk, htp⟩ := typeP_zero hE
    obtain ⟨h1, h2⟩ := rowOf_rowE hS h vals
    by_cases hR : rowE S h vals = 0
    · have hv : valueP S op n s kids h vals = (nodeV S op n s kids h vals, 0) := by unfold valueP; rw [if_neg (by simpa using hE), if_neg (by simpa using hR)]
      rw [hv, htp, h1]
      rcases node_fit hS (rowE_fit hR) (n := n) hb hw hk with ⟨_, g⟩ | ⟨g1, g2⟩
      · exact Or.inr (Or.inr (Or.inl ⟨rfl, by simpa using hR, rfl, g⟩))
      · exact Or.inr (Or.inr (Or.inr ⟨rfl, by simpa using hR, rfl, g1, g2⟩))
    · have hv : valueP S op n s kids h vals = (zV, rowE S h vals) := by unfold valueP; rw [if_neg (by simpa using hE), if_pos hR]
      rw [hv, h1]
      exact Or.inr (Or.inl ⟨hE, by simpa using hR, h2.resolve_left hR, rfl⟩)
  · have hv : valueP S op n s kids h vals = (zV, (typeP S op n s kids).2.2) := by unfold valueP; rw [if_pos hE]
    rw [hv]
    exact Or.inl ⟨hE, rfl, rfl⟩
theorem chain_bad {S : List FieldA} {l : SL} (h : (checkP S l).1 ≠ 0) (hh : Bool) (vals : List ValA) : runP S l hh vals = ((false, []), (checkP S l).1) := by
  unfold runP chainP
  have hf : firstE S [l] = (checkP S l).1 := by simp [firstE, h]
  rcases errS_eq S with ⟨hs, he⟩ | ⟨hs, he⟩
  · rw [he, hf, if_neg (by simp), if_pos h]
  · have : (checkP S l).1 = 60 := by unfold checkP; rw [he]; rfl
    rw [he, if_pos (by simp), this]
theorem run_row {S : List FieldA} {l : SL} (h : (checkP S l).1 = 0) (hh : Bool) (vals : List ValA) : runP S l hh vals = if rowE S hh vals = 0 then (runS S l (hh, vals), 0) else ((false, []), rowE S hh vals) := by
  unfold runP chainP
  have hf : firstE S [l] = 0 := by simp [firstE, h]
  rw [errS_good (checkP_zero h).1, hf, if_neg (by simp), if_neg (by simp)]
  by_cases hR : rowE S hh vals = 0
  · rw [if_neg (by simpa using hR), if_pos hR]
    rfl
  · rw [if_pos hR, if_neg hR]
theorem sound_run (S : List FieldA) (l : SL) (h : Bool) (vals : List ValA) :
    ((checkP S l).1 ≠ 0 ∧ runP S l h vals = ((false, []), (checkP S l).1)) ∨ ((checkP S l).1 = 0 ∧ rowOfB S h vals = false ∧ runP S l h vals = ((false, []), 61)) ∨
    ((checkP S l).1 = 0 ∧ rowOfB S h vals = true ∧ (runP S l h vals).2 = 0 ∧ rowOfB S (runP S l h vals).1.1 (runP S l h vals).1.2 = true) := by
  by_cases hE : (checkP S l).1 = 0
  · obtain ⟨hS, hw, hok⟩ := check_ok hE
    obtain ⟨h1, h2⟩ := rowOf_rowE hS h vals
    rw [run_row hE, h1]
    by_cases hR : rowE S h vals = 0
    · rw [if_pos hR]
      exact Or.inr (Or.inr ⟨hE, by simpa using hR, rfl, rowOf_fit hS (run_fit hS l (h, vals) hw hok (rowE_fit hR))⟩)
    · rw [if_neg hR, h2.resolve_left hR]
      exact Or.inr (Or.inl ⟨hE, by simp, rfl⟩)
  · exact Or.inl ⟨hE, chain_bad hE h vals⟩
/-- The world as MeaningSound finds it. -/
structure ProS (w X : World) (sv : Value) (op n : Int) (s : Txt) (xv : Value) (h : Bool) (u : Value) : Prop where
  kept : Keeps (fun _ => False) w X
  s0 : X.heap[w.heap.size]? = some (.cells #[sv] 24 (0, 0))
  e0 : X.heap[w.heap.size + 1]? = some (.cells #[.int .i64 op, .int .i64 n, str s, xv] 27 (0, 0))
  r0 : X.heap[w.heap.size + 1 + 1]? = some (.cells #[.bool h, u] 31 (0, 0))
  z0 : X.heap[w.heap.size + 1 + 1 + 1]? = some (.cells #[.int .i64 op, .int .i64 n, str s, xv] 27 (0, 0))
theorem proS_of (w : World) (sv : Value) (op n : Int) (s : Txt) (xv : Value) (h : Bool) (u : Value) : ∃ X, (((w.alloc (.cells #[sv] 24)).alloc (.cells #[.int .i64 op, .int .i64 n, str s, xv] 27)).alloc (.cells #[.bool h, u] 31)).alloc (.cells #[.int .i64 op, .int .i64 n, str s, xv] 27) = X ∧ ProS w X sv op n s xv h u := by
  refine ⟨_, rfl, ((((Keeps.refl _ w).alloc _).alloc _).alloc _).alloc _, ?_, ?_, ?_, alloc_at _ _ _ (by simp)⟩
  · exact (((((Keeps.refl (fun _ => False) _).alloc _).alloc _).alloc _).block _ (by simp) id).trans (heap_alloc_new w _)
  · exact ((((Keeps.refl (fun _ => False) _).alloc _).alloc _).block _ (by simp) id).trans (alloc_at _ _ _ (by simp))
  · exact (((Keeps.refl (fun _ => False) _).alloc _).block _ (by simp) id).trans (alloc_at _ _ _ (by simp))
set_option maxRecDepth 100000 in
set_option maxHeartbeats 8000000 in
theorem sound_walk (S : List FieldA) (op n : Int) (s : Txt) (kids : EL) (l : SL) (h : Bool) (vals : List ValA) (sv xv pv u : Value) (w : World) (hT : Types w) (hF : Forms w) (hf : FldsAt w sv S) (hx : SlE (argZ w.heap.size) w 0 xv kids) (hp : SlS (argZ w.heap.size) w 0 pv l) (hu : ValsAt w u vals) :
    Calls Tryz.prog 3 #[.agg #[sv], exV op n s xv, pv, .agg #[.bool h, u]] w fun e w' => e = .returned (.bool true) ∧ Keeps (fun _ => False) w w' := by
  obtain ⟨so, sc, rfl⟩ := RowAt.form hf
  obtain ⟨xo, xc, rfl, _⟩ := hx.head
  obtain ⟨po, pc, rfl, _⟩ := hp.head
  obtain ⟨uo, uc, rfl⟩ := RowAt.form hu
  obtain ⟨X, hX, P⟩ := proS_of w (.slice so S.length sc) op n s (.slice xo kids.len xc) h (.slice uo vals.length uc)
  have SB : ∀ w' : World, Keeps (fun _ => False) X w' → w'.cell? ⟨w.heap.size, 0, none⟩ = some (.slice so S.length sc) ∧ w'.cell? ⟨w.heap.size + 1, 0, none⟩ = some (.int .i64 op) ∧ w'.cell? ⟨w.heap.size + 1, 1, none⟩ = some (.int .i64 n) ∧ w'.cell? ⟨w.heap.size + 1, 2, none⟩ = some (str s) ∧ w'.cell? ⟨w.heap.size + 1, 3, none⟩ = some (.slice xo kids.len xc) ∧ w'.cell? ⟨w.heap.size + 1 + 1, 0, none⟩ = some (.bool h) ∧ w'.cell? ⟨w.heap.size + 1 + 1, 1, none⟩ = some (.slice uo vals.length uc) := fun w' hq => by
    have a := (hq.block _ (lt_of_block P.s0) id).trans P.s0
    have b := (hq.block _ (lt_of_block P.e0) id).trans P.e0
    have c := (hq.block _ (lt_of_block P.r0) id).trans P.r0
    exact ⟨(cell_of_blk a _).trans rfl, (cell_of_blk b _).trans rfl, (cell_of_blk b _).trans rfl, (cell_of_blk b _).trans rfl, (cell_of_blk b _).trans rfl, (cell_of_blk c _).trans rfl, (cell_of_blk c _).trans rfl⟩
  have HSB := hide SB
  have HD1 := hide (deepExprs X.heap.size 0 (.cons op n s kids .nil) (.slice (some ⟨w.heap.size + 1 + 1 + 1, 0, none⟩) 1 1) X (Nat.le_refl _) (one_arg (B := w.heap.size) P.z0 (lt_of_block P.z0) P.kept.size (hx.keepF P.kept) (Nat.le_refl _) 0))
  have K := fun W' (hk : Keeps (fun _ => False) X W') => P.kept.trans hk
  have HD2 := fun W' (hk : Keeps (fun _ => False) X W') => hide (deepStmts w.heap.size 0 l (.slice po l.len pc) W' (K W' hk).size (hp.keepF (K W' hk)))
  have HWK := fun W' (hk : Keeps (fun _ => False) X W') => hide (works_v W' (hT.keepF (K W' hk)) (hF.keepF (K W' hk)))
  have HRO := fun W' (hk : Keeps (fun _ => False) X W') => hide (rowOf_v S (.slice so S.length sc) (.slice uo vals.length uc) h vals W' (hT.keepF (K W' hk)) (hf.keepF (K W' hk)) (hu.keepF (K W' hk)))
  have HRO2 := fun W' (hk : Keeps (fun _ => False) X W') hh vv uu (hv : ValsAt W' uu vv) => hide (rowOf_v S (.slice so S.length sc) uu hh vv W' (hT.keepF (K W' hk)) (hf.keepF (K W' hk)) hv)
  have HTY := fun (hz : kids.size + 1 ≤ 4294967294) W' (hk : Keeps (fun _ => False) X W') => hide (type_v (argZ w.heap.size) S op n s kids hz (.slice so S.length sc) (.slice xo kids.len xc) W' 0 (hT.keepF (K W' hk)) (hF.keepF (K W' hk)) (hf.keepF (K W' hk)) (hx.keepF (K W' hk)))
  have HVA := fun (hz : kids.size + 1 ≤ 4294967294) W' (hk : Keeps (fun _ => False) X W') => hide (value_v (argZ w.heap.size) S op n s kids hz h vals (.slice so S.length sc) (.slice xo kids.len xc) (.slice uo vals.length uc) W' 0 (hT.keepF (K W' hk)) (hF.keepF (K W' hk)) (hf.keepF (K W' hk)) (hx.keepF (K W' hk)) (hu.keepF (K W' hk)))
  have HCK := fun (hz : l.size ≤ 4294967294) W' (hk : Keeps (fun _ => False) X W') => hide (tcheck_v (argZ w.heap.size) S l hz (.slice so S.length sc) (.slice po l.len pc) W' 0 (hT.keepF (K W' hk)) (hF.keepF (K W' hk)) (hf.keepF (K W' hk)) (hp.keepF (K W' hk)))
  have HRN := fun (hz : l.size ≤ 4294967294) W' (hk : Keeps (fun _ => False) X W') => hide (mrun_v (argZ w.heap.size) S l hz h vals (.slice so S.length sc) (.slice uo vals.length uc) (.slice po l.len pc) W' 0 (hT.keepF (K W' hk)) (hF.keepF (K W' hk)) (hf.keepF (K W' hk)) (hu.keepF (K W' hk)) (hp.keepF (K W' hk)))
  have HV := hide (sound_value S op n s kids h vals)
  have HR := hide (sound_run S l h vals)
  have HWX := hide P.kept
  generalize typeP S op n s kids = T at *
  generalize valueP S op n s kids h vals = V at *
  generalize checkP S l = C at *
  generalize runP S l h vals = R at *
  generalize hmine : rowOfB S h vals = M at *
  obtain ⟨T1, T2, TE⟩ := T
  obtain ⟨⟨Vk, Vn, Vx⟩, VE⟩ := V
  obtain ⟨CE, CA⟩ := C
  obtain ⟨⟨Rh, Rv⟩, RE⟩ := R
  simp only [typV, chkV, ValA.v] at HTY HVA HCK
  clear hT hF hf hx hp hu SB P K hmine
  go_enter Tryz.func3, Tryz.ntmps3
  go_wp2_with fail
  refine (unhide HD1).mono ?_
  rintro e w1 ⟨r1, rfl, hk1, hz1⟩
  have HK1 := hide hk1
  cases r1 with
  | true =>
    clear hk1 hz1
    go_wp2_with fail
    go_ret
    exact ⟨rfl, (unhide HWX).trans (unhide HK1)⟩
  | false =>
    have hzE : kids.size + 1 ≤ 4294967294 := by have := hz1 rfl; simp only [EL.size] at this; omega
    have HTY := HTY hzE
    have HVA := HVA hzE
    clear hk1 hz1 hzE
    go_wp2_with fail
    refine (unhide (HD2 _ (unhide HK1))).mono ?_
    rintro e w2 ⟨r2, rfl, hk2, hz2⟩
    have HK2 := hide ((unhide HK1).trans hk2)
    cases r2 with
    | true =>
      clear hk2 hz2
      go_wp2_with fail
      go_ret
      exact ⟨rfl, (unhide HWX).trans (unhide HK2)⟩
    | false =>
      have hzS : l.size ≤ 4294967294 := by have := hz2 rfl; omega
      have HCK := HCK hzS
      have HRN := HRN hzS
      clear hk2 hz2 hzS
      go_wp2_with fail
      refine (unhide (HWK _ (unhide HK2))).mono ?_
      rintro e w3 ⟨rfl, hk3⟩
      have HK3 := hide ((unhide HK2).trans hk3)
      have s3 := unhide HSB _ (unhide HK3)
      clear hk3
      go_wp2_with fail
      refine (unhide (HRO _ (unhide HK3))).mono ?_
      rintro e w4 ⟨rfl, hk4⟩
      have HK4 := hide ((unhide HK3).trans hk4)
      have s4 := unhide HSB _ (unhide HK4)
      clear hk4 s3
      go_wp2_with fail
      refine (unhide (HTY _ (unhide HK4))).mono ?_
      rintro e w5 ⟨rfl, hk5⟩
      have HK5 := hide ((unhide HK4).trans hk5)
      have s5 := unhide HSB _ (unhide HK5)
      clear hk5 s4
      go_wp2_with fail
      refine (unhide (HVA _ (unhide HK5))).mono ?_
      rintro e w6 ⟨rfl, hk6⟩
      obtain ⟨HB6, hb6, hc6⟩ := boxed w6 #[.int .i64 Vk, .int .i64 Vn, str Vx] 40
      have v0 := hc6 0 (.int .i64 Vk) rfl
      have v1 := hc6 1 (.int .i64 Vn) rfl
      have v2 := hc6 2 (str Vx) rfl
      have HK6 := hide (((unhide HK5).trans hk6).trans (unhide HB6))
      have s6 := unhide HSB _ (unhide HK6)
      generalize hW6 : w6.alloc (.cells #[.int .i64 Vk, .int .i64 Vn, str Vx] 40) = W6 at *
      clear hk6 s5 hc6
      go_wp2_with fail
      refine (unhide (HCK _ (unhide HK6))).mono ?_
      rintro e w7 ⟨rfl, hk7⟩
      have HK7 := hide ((unhide HK6).trans hk7)
      have s7 := unhide HSB _ (unhide HK7)
      have HV7 := hide hk7
      clear hk7 s6
      go_wp2_with fail
      refine (unhide (HRN _ (unhide HK7))).mono ?_
      rintro e w8 ⟨ro, rc, rfl, hown, hk8⟩
      obtain ⟨HB8, hb8, hc8⟩ := boxed w8 #[.bool Rh, .slice ro Rv.length rc] 31
      have q0 := hc8 0 (.bool Rh) rfl
      have q1 := hc8 1 (.slice ro Rv.length rc) rfl
      have HK8 := hide (((unhide HK7).trans hk8).trans (unhide HB8))
      have s8 := unhide HSB _ (unhide HK8)
      have hkv := (unhide HV7).trans (hk8.trans (unhide HB8))
      have t0 := (hkv.cell (o := 0) hb6 id).trans v0
      have t1 := (hkv.cell (o := 1) hb6 id).trans v1
      have t2 := (hkv.cell (o := 2) hb6 id).trans v2
      have HVR : Hid (ValsAt (w8.alloc (.cells #[.bool Rh, .slice ro Rv.length rc] 31)) (.slice ro Rv.length rc) Rv) := (show ValsAt w8 _ _ from rowAt_own hown).keepF (unhide HB8)
      generalize hW8 : w8.alloc (.cells #[.bool Rh, .slice ro Rv.length rc] 31) = W8 at *
      clear hk8 s7 hc8 hkv v0 v1 v2 hown
      have HX8 := hide ((unhide HWX).trans (unhide HK8))
      rcases unhide HV with ⟨hTE, hVE, hv⟩ | ⟨hTE, hM, hVE, hv⟩ | ⟨hTE, hM, hVE, hv⟩ | ⟨hTE, hM, hVE, hO, hv⟩
      · try simp only at hTE hVE
        subst hVE
        simp only [zV, ValA.mk.injEq] at hv
        obtain ⟨rfl, rfl, rfl⟩ := hv
        have n0 : (VE != 0) = true := by simpa using hTE
        clear hTE
        clear HV
        rcases unhide HR with ⟨hCE, hR⟩ | ⟨hCE, hM2, hR⟩ | ⟨hCE, hM2, hRE, hRO⟩
        · try simp only at hCE
          simp only [Prod.mk.injEq] at hR
          obtain ⟨⟨rfl, rfl⟩, rfl⟩ := hR
          simp only [List.length_nil] at hW8 q1 HVR
          have n1 : (RE != 0) = true := by simpa using hCE
          clear hCE HR
          go_wp2_with fail
          all_goals (go_ret; exact ⟨by first | rfl | simp, unhide HX8⟩)
        · try simp only at hCE hM2
          simp only [Prod.mk.injEq] at hR
          obtain ⟨⟨rfl, rfl⟩, rfl⟩ := hR
          simp only [List.length_nil] at hW8 q1 HVR
          subst hCE
          subst hM2
          clear HR
          go_wp2_with fail
          all_goals (go_ret; exact ⟨by first | rfl | simp, unhide HX8⟩)
        · try simp only at hCE hM2 hRE hRO
          subst hCE hRE
          subst hM2
          have HRW := hide (unhide (HRO2 W8 (unhide HK8) Rh Rv (.slice ro Rv.length rc) (unhide HVR)))
          rw [hRO] at HRW
          clear HR hRO
          go_wp2_with (go_at_call 12; refine (unhide HRW).mono ?_; rintro e w9 ⟨rfl, hk9⟩; have HX9 := hide ((unhide HX8).trans hk9); clear hk9)
          all_goals (go_ret; exact ⟨by first | rfl | simp, unhide HX9⟩)
      · try simp only at hTE hM hVE
        subst hTE hM hVE
        simp only [zV, ValA.mk.injEq] at hv
        obtain ⟨rfl, rfl, rfl⟩ := hv
        clear HV
        rcases unhide HR with ⟨hCE, hR⟩ | ⟨hCE, hM2, hR⟩ | ⟨hCE, hM2, hRE, hRO⟩
        · try simp only at hCE
          simp only [Prod.mk.injEq] at hR
          obtain ⟨⟨rfl, rfl⟩, rfl⟩ := hR
          simp only [List.length_nil] at hW8 q1 HVR
          have n1 : (RE != 0) = true := by simpa using hCE
          clear hCE HR
          go_wp2_with fail
          all_goals (go_ret; exact ⟨by first | rfl | simp, unhide HX8⟩)
        · try simp only at hCE hM2
          simp only [Prod.mk.injEq] at hR
          obtain ⟨⟨rfl, rfl⟩, rfl⟩ := hR
          simp only [List.length_nil] at hW8 q1 HVR
          subst hCE
          clear HR
          go_wp2_with fail
          all_goals (go_ret; exact ⟨by first | rfl | simp, unhide HX8⟩)
        · try simp only at hCE hM2 hRE hRO
          subst hCE hRE
          cases hM2
      · try simp only at hTE hM hVE hv
        subst hTE hM hVE hv
        clear HV
        rcases unhide HR with ⟨hCE, hR⟩ | ⟨hCE, hM2, hR⟩ | ⟨hCE, hM2, hRE, hRO⟩
        · try simp only at hCE
          simp only [Prod.mk.injEq] at hR
          obtain ⟨⟨rfl, rfl⟩, rfl⟩ := hR
          simp only [List.length_nil] at hW8 q1 HVR
          have n1 : (RE != 0) = true := by simpa using hCE
          clear hCE HR
          go_wp2_with fail
          all_goals (go_ret; exact ⟨by first | rfl | simp, unhide HX8⟩)
        · try simp only at hCE hM2
          simp only [Prod.mk.injEq] at hR
          obtain ⟨⟨rfl, rfl⟩, rfl⟩ := hR
          simp only [List.length_nil] at hW8 q1 HVR
          subst hCE
          cases hM2
        · try simp only at hCE hM2 hRE hRO
          subst hCE hRE
          have HRW := hide (unhide (HRO2 W8 (unhide HK8) Rh Rv (.slice ro Rv.length rc) (unhide HVR)))
          rw [hRO] at HRW
          clear HR hRO
          go_wp2_with (go_at_call 12; refine (unhide HRW).mono ?_; rintro e w9 ⟨rfl, hk9⟩; have HX9 := hide ((unhide HX8).trans hk9); clear hk9)
          all_goals (go_ret; exact ⟨by first | rfl | simp, unhide HX9⟩)
      · try simp only at hTE hM hVE hO
        subst hTE hM hVE hO
        simp only [zV, ValA.mk.injEq] at hv
        obtain ⟨rfl, rfl, rfl⟩ := hv
        clear HV
        rcases unhide HR with ⟨hCE, hR⟩ | ⟨hCE, hM2, hR⟩ | ⟨hCE, hM2, hRE, hRO⟩
        · try simp only at hCE
          simp only [Prod.mk.injEq] at hR
          obtain ⟨⟨rfl, rfl⟩, rfl⟩ := hR
          simp only [List.length_nil] at hW8 q1 HVR
          have n1 : (RE != 0) = true := by simpa using hCE
          clear hCE HR
          go_wp2_with fail
          all_goals (go_ret; exact ⟨by first | rfl | simp, unhide HX8⟩)
        · try simp only at hCE hM2
          simp only [Prod.mk.injEq] at hR
          obtain ⟨⟨rfl, rfl⟩, rfl⟩ := hR
          simp only [List.length_nil] at hW8 q1 HVR
          subst hCE
          cases hM2
        · try simp only at hCE hM2 hRE hRO
          subst hCE hRE
          have HRW := hide (unhide (HRO2 W8 (unhide HK8) Rh Rv (.slice ro Rv.length rc) (unhide HVR)))
          rw [hRO] at HRW
          clear HR hRO
          go_wp2_with (go_at_call 12; refine (unhide HRW).mono ?_; rintro e w9 ⟨rfl, hk9⟩; have HX9 := hide ((unhide HX8).trans hk9); clear hk9)
          all_goals (go_ret; exact ⟨by first | rfl | simp, unhide HX9⟩)
end Go.Proofs.YtijfnlfgehcpaaaGreatDoor
namespace Go.Proofs.YtijfnlfgehcpaaaGreatDoor
open Go.ChangeShapes Go.WideShapes Go.ChangeAt Go.RowKit Go.Deep

theorem e31 : Tryz.prog.cellsOf 31 = 2 := by kernel_rfl
theorem e29 : Tryz.prog.cellsOf 29 = 1 := by kernel_rfl
/-- Ints of 64 bits. -/
def I64 (n : Int) : Prop := -9223372036854775808 ≤ n ∧ n ≤ 9223372036854775807
theorem i64_of {n : Int} (h : (Lit.int .i64 n).wf = true) : I64 n := by
  have h2 : IntKind.i64.min ≤ n ∧ n ≤ IntKind.i64.max := by simpa [Lit.wf] using h
  have a : IntKind.i64.min = -9223372036854775808 := by decide +kernel
  have b : IntKind.i64.max = 9223372036854775807 := by decide +kernel
  rw [a, b] at h2
  exact h2
theorem e40 : Tryz.prog.cellsOf 40 = 3 := by kernel_rfl
instance : Inhabited ValA := ⟨⟨0, 0, []⟩⟩
theorem vcs_at : ∀ (l : List ValA) (j : Nat), (vcs l)[j]? = (l[j / 3]?).bind fun x => x.cs[j % 3]?
  | [], j => by simp [vcs]
  | y :: r, j => by
    have e : vcs (y :: r) = y.cs ++ vcs r := rfl
    have hy : y.cs.length = 3 := rfl
    rw [e]
    by_cases h : j < 3
    · rw [List.getElem?_append_left (by rw [hy]; exact h), Nat.div_eq_of_lt h, Nat.mod_eq_of_lt h]
      rfl
    · rw [List.getElem?_append_right (by rw [hy]; omega), hy, vcs_at r (j - 3)]
      have h1 : j / 3 = (j - 3) / 3 + 1 := by omega
      have h2 : j % 3 = (j - 3) % 3 := by omega
      rw [h1, h2]
      rfl
section
variable {H : Type} {enc : TypeId × Value → H} {W : World}
set_option maxRecDepth 100000 in
theorem val_read {fuel : Nat} {cs : List Value} {x : DataW H × List MemPlace} (h : DataW.trod enc Tryz.prog W 0 (fun _ => true) true fuel 40 cs = some x) : ∃ f : ValA, cs = f.cs ∧ I64 f.n := by
  obtain ⟨xs, m, hm, _, hl, hlen, hf⟩ := DataW.trod_struct Tryz.underlying40 h
  have hl' : cs.length = 3 := hl.trans e40
  match xs, hlen, cs, hl' with
  | [y0, y1, y2], _, [c0, c1, c2], _ =>
    have h0 : DataW.trod enc Tryz.prog W 0 (fun _ => true) true m 3 (([c0, c1, c2].drop 0).take (Tryz.prog.cellsOf 3)) = some y0 := hf 0 _ rfl
    have h1 : DataW.trod enc Tryz.prog W 0 (fun _ => true) true m 2 (([c0, c1, c2].drop 1).take (Tryz.prog.cellsOf 2)) = some y1 := hf 1 _ rfl
    have h2 : DataW.trod enc Tryz.prog W 0 (fun _ => true) true m 9 (([c0, c1, c2].drop 2).take (Tryz.prog.cellsOf 9)) = some y2 := hf 2 _ rfl
    rw [e3] at h0
    rw [e2] at h1
    rw [e9] at h2
    simp only [List.drop_zero, List.take_succ_cons, List.take_zero, List.drop_succ_cons] at h0 h1 h2
    obtain ⟨k, q0, _, _⟩ := DataW.trod_int Tryz.underlying3 h0
    obtain ⟨i, q1, _, w1⟩ := DataW.trod_int Tryz.underlying2 h1
    obtain ⟨s, q2, _, _⟩ := DataW.trod_string Tryz.underlying9 h2
    simp at q0 q1 q2
    exact ⟨⟨k, i, s.data.toList⟩, by rw [q0, q1, q2, str_of]; rfl, i64_of w1⟩
set_option maxRecDepth 100000 in
/-- The values that came in. -/
theorem vals_in {fuel : Nat} {c0 : Value} {x : DataW H × List MemPlace} (h0 : DataW.trod enc Tryz.prog W 0 (fun _ => true) true fuel 29 [c0] = some x) : ∃ l : List ValA, ValsAt W c0 l ∧ ∀ x ∈ l, I64 x.n := by
  rcases slice_read Tryz.underlying29 e40 (by omega) h0 with rfl | ⟨b, off, len, cap, n', spot, rfl, hlc, _, hels⟩
  · exact ⟨[], ⟨⟨_, _, rfl⟩, fun h0 => by simp at h0, fun ao m cap e => by simp at e; omega⟩, by simp⟩
  · have hev : ∀ i, i < len → ∃ f : ValA, (∀ j v, f.cs[j]? = some v → W.cell? ⟨b, off + i * 3 + j, none⟩ = some v) ∧ I64 f.n := fun i hi => by
      obtain ⟨_, _, cs, y, hc, ht, _⟩ := hels i hi
      obtain ⟨f, rfl, hi6⟩ := val_read ht
      exact ⟨f, hc, hi6⟩
    obtain ⟨f, hff⟩ := choose_lt hev
    refine ⟨(List.range len).map f, ⟨⟨_, _, by simp; exact ⟨rfl, rfl⟩⟩, fun h0 => ?_, fun ao m cap e => by simp at e; omega⟩, fun x hx => ?_⟩
    rotate_left
    · simp only [List.mem_map, List.mem_range] at hx
      obtain ⟨i, hi, rfl⟩ := hx
      exact (hff i hi).2
    simp at h0
    obtain ⟨rfl, hb, _⟩ := hels 0 h0
    refine ⟨b, off, cap, by simp, hb, fun j v hv => ?_⟩
    rw [vcs_at] at hv
    cases hi : ((List.range len).map f)[j / 3]? with
    | none => rw [hi] at hv; cases hv
    | some p =>
      rw [hi] at hv
      have hil : j / 3 < len := by
        have := (List.getElem?_eq_some_iff.1 hi).1
        simpa using this
      have hpe : f (j / 3) = p := by simpa [hil] using hi
      have := (hff (j / 3) hil).1 (j % 3) v (by rw [hpe]; exact hv)
      rw [show off + j = off + j / 3 * 3 + j % 3 by omega]
      exact this
set_option maxRecDepth 100000 in
/-- The row that came in. -/
theorem row_in {fuel : Nat} {cs : List Value} {x : DataW H × List MemPlace} (h : DataW.trod enc Tryz.prog W 0 (fun _ => true) true fuel 31 cs = some x) :
    ∃ (hh : Bool) (u : Value) (vals : List ValA), cs = [.bool hh, u] ∧ ValsAt W u vals ∧ ∀ x ∈ vals, I64 x.n := by
  obtain ⟨xs, m, hm, hx, hl, hlen, hf⟩ := DataW.trod_struct Tryz.underlying31 h
  have hl' : cs.length = 2 := hl.trans e31
  match xs, hlen, cs, hl' with
  | [y0, y1], _, [c0, c1], _ =>
    have h0 : DataW.trod enc Tryz.prog W 0 (fun _ => true) true m 4 (([c0, c1].drop 0).take (Tryz.prog.cellsOf 4)) = some y0 := hf 0 _ rfl
    have h1 : DataW.trod enc Tryz.prog W 0 (fun _ => true) true m 29 (([c0, c1].drop 1).take (Tryz.prog.cellsOf 29)) = some y1 := hf 1 _ rfl
    rw [e4] at h0
    rw [e29] at h1
    simp only [List.drop_zero, List.take_succ_cons, List.take_zero, List.drop_succ_cons] at h0 h1
    obtain ⟨o, q0, _⟩ := DataW.trod_bool Tryz.underlying4 h0
    simp at q0
    obtain ⟨l, hl, hi⟩ := vals_in h1
    exact ⟨o, c1, l, by rw [q0], hl, hi⟩
end
end Go.Proofs.YtijfnlfgehcpaaaGreatDoor
