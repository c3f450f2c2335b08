import Derived.Test.YtijfnlfgehcpaaaGreatDoorXr
namespace Go.Proofs.YtijfnlfgehcpaaaGreatDoor
open Go.RowKit Go.Maps

theorem ps_two {Z : Zone} {w : World} {up : Nat} {a b : Value} {p q : SL} (ha : SlS Z w up a p) (hb : SlS Z w up b q) : PsAt Z (w.alloc (.cells #[a, b] 28)) up (.slice (some ⟨w.heap.size, 0, none⟩) 2 2) [p, q] := by
  obtain ⟨HB, hxb, hxc⟩ := boxed w #[a, b] 28
  refine ⟨_, _, rfl, fun _ => ⟨w.heap.size, 0, rfl, hxb, fun i m hm => ?_⟩⟩
  rcases i with _ | _ | i
  · simp at hm
    subst hm
    exact ⟨_, hxc 0 _ rfl, ha.keepF (unhide HB)⟩
  · simp at hm
    subst hm
    exact ⟨_, hxc 1 _ rfl, hb.keepF (unhide HB)⟩
  · simp at hm
theorem ps_none (Z : Zone) (w : World) (up : Nat) : PsAt Z w up (.slice none 0 0) [] := ⟨none, 0, rfl, fun h => by simp at h⟩
/-- A row in a box. -/
theorem row_box {w : World} {B : Nat} {h : Bool} {ao : Option Addr} {c : Nat} {l : List ValA} (ho : w.ownsRow B 40 3 (.slice ao l.length c) l.length (vcs l)) :
    ∀ W' : World, Keeps (fun _ => False) (w.alloc (.cells #[.bool h, .slice ao l.length c] 31)) W' → W'.cell? ⟨w.heap.size, 0, none⟩ = some (.bool h) ∧ W'.cell? ⟨w.heap.size, 1, none⟩ = some (.slice ao l.length c) ∧ Hid (ValsAt W' (.slice ao l.length c) l) := fun W' hk => by
  obtain ⟨HB, hb, hc⟩ := boxed w #[.bool h, .slice ao l.length c] 31
  exact ⟨(hk.cell (o := 0) hb id).trans (hc 0 _ rfl), (hk.cell (o := 1) hb id).trans (hc 1 _ rfl), hide ((show ValsAt w _ _ from rowAt_own ho).keepF ((unhide HB).trans hk))⟩
set_option maxRecDepth 100000 in
set_option maxHeartbeats 8000000 in
theorem seq_walk (S : List FieldA) (p q : SL) (h : Bool) (vals : List ValA) (sv pv qv u : Value) (w : World) (hT : Types w) (hF : Forms w) (hf : FldsAt w sv S) (hp : SlS (argZ w.heap.size) w 0 pv p) (hq : SlS (argZ w.heap.size) w 0 qv q) (hu : ValsAt w u vals) :
    Calls Tryz.prog 6 #[.agg #[sv], pv, qv, .agg #[.bool h, u]] w fun e w' => e = .returned (.bool true) ∧ Keeps (fun _ => False) w w' := by
  obtain ⟨so, sc, rfl⟩ := RowAt.form hf
  obtain ⟨po, pc, rfl, _⟩ := hp.head
  obtain ⟨qo, qc, rfl, _⟩ := hq.head
  obtain ⟨uo, uc, rfl⟩ := RowAt.form hu
  obtain ⟨X, hX⟩ : ∃ X, (w.alloc (.cells #[(.slice so S.length sc)] 24)).alloc (.cells #[.bool h, (.slice uo vals.length uc)] 31) = X := ⟨_, rfl⟩
  have PK : Keeps (fun _ => False) w X := hX ▸ ((Keeps.refl _ w).alloc _).alloc _
  have P0 : X.heap[w.heap.size]? = some (.cells #[(.slice so S.length sc)] 24 (0, 0)) := hX ▸ ((((Keeps.refl (fun _ => False) _).alloc _).block _ (by simp) id).trans (heap_alloc_new w _))
  have P1 : X.heap[w.heap.size + 1]? = some (.cells #[.bool h, (.slice uo vals.length uc)] 31 (0, 0)) := hX ▸ alloc_at _ _ _ (by simp)
  have ALL := hide (fun (W' : World) (hk : Keeps (fun _ => False) X W') => (by
    have a := (hk.block _ (lt_of_block P0) id).trans P0
    have c := (hk.block _ (lt_of_block P1) id).trans P1
    exact ⟨hide (PK.trans hk), (cell_of_blk a _).trans rfl, (cell_of_blk c _).trans rfl, (cell_of_blk c _).trans rfl⟩ : Hid (Keeps (fun _ => False) w W') ∧ W'.cell? ⟨w.heap.size, 0, none⟩ = some (.slice so S.length sc) ∧ W'.cell? ⟨w.heap.size + 1, 0, none⟩ = some (.bool h) ∧ W'.cell? ⟨w.heap.size + 1, 1, none⟩ = some (.slice uo vals.length uc)))
  have HD1 := fun W' (hk : Keeps (fun _ => False) w W') => hide (deepStmts w.heap.size 0 p (.slice po p.len pc) W' hk.size (hp.keepF hk))
  have HD2 := fun W' (hk : Keeps (fun _ => False) w W') => hide (deepStmts w.heap.size 0 q (.slice qo q.len qc) W' hk.size (hq.keepF hk))
  have HWK := fun W' (hk : Keeps (fun _ => False) w W') => hide (works_v W' (hT.keepF hk) (hF.keepF hk))
  have HBO := fun (z1 : p.size ≤ 4294967294) (z2 : q.size ≤ 4294967294) W' (hk : Keeps (fun _ => False) w W') => hide (both_v w.heap.size p q z1 z2 (.slice po p.len pc) (.slice qo q.len qc) W' hk.size (hp.keepF hk) (hq.keepF hk))
  have HRL := fun (z : (p.app q).size ≤ 4294967294) N lv W' (hk : Keeps (fun _ => False) w W') (hl : SlS (argZ N) W' 0 lv (p.app q)) => hide (mrun_v (argZ N) S (p.app q) z h vals (.slice so S.length sc) (.slice uo vals.length uc) lv W' 0 (hT.keepF hk) (hF.keepF hk) (hf.keepF hk) (hu.keepF hk) hl)
  have HCH := fun (z1 : p.size ≤ 4294967294) (z2 : q.size ≤ 4294967294) W' (hk : Keeps (fun _ => False) w W') => hide (chain_v (argZ w.heap.size) S [p, q] (by simp) (fun l hl => by simp at hl; rcases hl with rfl | rfl <;> assumption) h vals (.slice so S.length sc) (.slice uo vals.length uc) _ (W'.alloc (.cells #[(.slice po p.len pc), (.slice qo q.len qc)] 28)) 0 ((hT.keepF hk).keepF (kAlloc W' _)) ((hF.keepF hk).keepF (kAlloc W' _)) ((hf.keepF hk).keepF (kAlloc W' _)) ((hu.keepF hk).keepF (kAlloc W' _)) (ps_two (hp.keepF hk) (hq.keepF hk)))
  have HRP := fun (z : p.size ≤ 4294967294) W' (hk : Keeps (fun _ => False) w W') => hide (mrun_v (argZ w.heap.size) S p z h vals (.slice so S.length sc) (.slice uo vals.length uc) (.slice po p.len pc) W' 0 (hT.keepF hk) (hF.keepF hk) (hf.keepF hk) (hu.keepF hk) (hp.keepF hk))
  have HRQ := fun (z : q.size ≤ 4294967294) h2 v2 u2 W' (hk : Keeps (fun _ => False) w W') (hv : ValsAt W' u2 v2) => hide (mrun_v (argZ w.heap.size) S q z h2 v2 (.slice so S.length sc) u2 (.slice qo q.len qc) W' 0 (hT.keepF hk) (hF.keepF hk) (hf.keepF hk) hv (hq.keepF hk))
  have HCN := fun W' (hk : Keeps (fun _ => False) w W') => hide (chain_v (argZ w.heap.size) S [] (by simp) (fun l hl => by simp at hl) h vals (.slice so S.length sc) (.slice uo vals.length uc) _ W' 0 (hT.keepF hk) (hF.keepF hk) (hf.keepF hk) (hu.keepF hk) (ps_none _ _ _))
  have HCK := fun (z : (p.app q).size ≤ 4294967294) N lv W' (hk : Keeps (fun _ => False) w W') (hl : SlS (argZ N) W' 0 lv (p.app q)) => hide (tcheck_v (argZ N) S (p.app q) z (.slice so S.length sc) lv W' 0 (hT.keepF hk) (hF.keepF hk) (hf.keepF hk) hl)
  have HU := fun W' (hk : Keeps (fun _ => False) w W') => hide (hu.keepF hk)
  have HP := hide (seq_pure S p q h vals)
  have lA := hide (chain_len S [p.app q] h vals)
  have lB := hide (chain_len S [p, q] h vals)
  have lZ := hide (chain_len S [] h vals)
  change Hid ((runP S (p.app q) h vals).1.2.length ≤ 8) at lA
  have s0 := unhide ALL X (Keeps.refl _ _)
  simp only [chkV] at HCK
  generalize runP S (p.app q) h vals = A at *
  generalize chainP S [p, q] h vals = B at *
  generalize chainP S [] h vals = Zr at *
  generalize checkP S (p.app q) = T at *
  obtain ⟨⟨Ah, Av⟩, AE⟩ := A
  obtain ⟨⟨Bh, Bv⟩, BE⟩ := B
  obtain ⟨⟨Zh, Zv⟩, ZE⟩ := Zr
  obtain ⟨TE, TA⟩ := T
  generalize runP S p h vals = C at *
  obtain ⟨⟨Ch, Cv⟩, CE⟩ := C
  replace HRQ := fun z => HRQ z Ch Cv
  try simp only at HP lA lB lZ
  generalize runP S q Ch Cv = Dr at *
  obtain ⟨⟨Dh, Dv⟩, DE⟩ := Dr
  try simp only at HP
  clear hT hF hf hp hq hu PK P0 P1
  go_enter Tryz.func6, Tryz.ntmps6
  go_wp2_with fail
  refine (unhide (HD1 _ (unhide s0.1))).mono ?_
  rintro e w1 ⟨r1, rfl, hk1, hz1⟩
  have ALL := hide (fun (W' : World) (hk : Keeps (fun _ => False) w1 W') => unhide ALL W' (hk1.trans hk))
  have s1 := unhide ALL w1 (Keeps.refl _ _)
  clear hk1 s0
  cases r1 with
  | true =>
    clear hz1
    go_wp2_with fail
    go_ret
    exact ⟨rfl, unhide s1.1⟩
  | false =>
    have zp := hz1 rfl
    clear hz1
    go_wp2_with fail
    refine (unhide (HD2 _ (unhide s1.1))).mono ?_
    rintro e w2 ⟨r2, rfl, hk2, hz2⟩
    have ALL := hide (fun (W' : World) (hk : Keeps (fun _ => False) w2 W') => unhide ALL W' (hk2.trans hk))
    have s2 := unhide ALL w2 (Keeps.refl _ _)
    clear hk2 s1
    cases r2 with
    | true =>
      clear hz2
      go_wp2_with fail
      go_ret
      exact ⟨rfl, unhide s2.1⟩
    | false =>
      have zq := hz2 rfl
      have zl : (p.app q).size ≤ 4294967294 := by rw [SL.size_app]; omega
      have zp2 : p.size ≤ 4294967294 := by omega
      have zq2 : q.size ≤ 4294967294 := by omega
      have HBO := HBO zp2 zq2
      have HCH := HCH zp2 zq2
      have HRP := HRP zp2
      have HRQ := HRQ zq2
      have HRL := HRL zl
      have HCK := HCK zl
      clear hz2 zp zq zl zp2 zq2
      go_wp2_with fail
      refine (unhide (HWK _ (unhide s2.1))).mono ?_
      rintro e w3 ⟨rfl, hk3⟩
      have ALL := hide (fun (W' : World) (hk : Keeps (fun _ => False) w3 W') => unhide ALL W' (hk3.trans hk))
      have s3 := unhide ALL w3 (Keeps.refl _ _)
      clear hk3 s2
      go_wp2_with fail
      refine (unhide (HBO _ (unhide s3.1))).mono ?_
      rintro e w4 ⟨lo, lc, rfl, hl4, hk4⟩
      have ALL := hide (fun (W' : World) (hk : Keeps (fun _ => False) w4 W') => And.intro (hide (hl4.keepF hk)) (unhide ALL W' (hk4.trans hk)))
      have s4 := unhide ALL w4 (Keeps.refl _ _)
      clear hk4 s3 hl4
      go_wp2_with fail
      refine (unhide (HRL _ (.slice lo (p.app q).len lc) w4 (unhide s4.2.1) (unhide s4.1))).mono ?_
      rintro e w5 ⟨b5, c5, rfl, hown, hk5⟩
      have RB := row_box (h := Ah) hown
      have ALL := hide (fun (W' : World) (hk : Keeps (fun _ => False) (w5.alloc (.cells #[.bool Ah, .slice b5 Av.length c5] 31)) W') => And.intro (RB W' hk) (unhide ALL W' (hk5.trans ((kAlloc w5 _).trans hk))))
      generalize hW5 : w5.alloc (.cells #[.bool Ah, .slice b5 Av.length c5] 31) = W5 at *
      have s5 := unhide ALL W5 (Keeps.refl _ _)
      clear hk5 s4 hown RB
      go_wp2_with fail
      refine (unhide (HCH W5 (unhide s5.2.2.1))).mono ?_
      rintro e w6 ⟨b6, c6, rfl, hown, hk6⟩
      have RB := row_box (h := Bh) hown
      have ALL := hide (fun (W' : World) (hk : Keeps (fun _ => False) (w6.alloc (.cells #[.bool Bh, .slice b6 Bv.length c6] 31)) W') => And.intro (RB W' hk) (unhide ALL W' (((kAlloc W5 _).trans hk6).trans ((kAlloc w6 _).trans hk))))
      generalize hW6 : w6.alloc (.cells #[.bool Bh, .slice b6 Bv.length c6] 31) = W6 at *
      have s6 := unhide ALL W6 (Keeps.refl _ _)
      clear hk6 s5 hown RB
      go_wp2_with fail
      refine (unhide (HRP W6 (unhide s6.2.2.2.1))).mono ?_
      rintro e w7 ⟨b7, c7, rfl, hown, hk7⟩
      have RB := row_box (h := Ch) hown
      have ALL := hide (fun (W' : World) (hk : Keeps (fun _ => False) (w7.alloc (.cells #[.bool Ch, .slice b7 Cv.length c7] 31)) W') => And.intro (RB W' hk) (unhide ALL W' (hk7.trans ((kAlloc w7 _).trans hk))))
      generalize hW7 : w7.alloc (.cells #[.bool Ch, .slice b7 Cv.length c7] 31) = W7 at *
      have s7 := unhide ALL W7 (Keeps.refl _ _)
      clear hk7 s6 hown RB
      go_wp2_with fail
      refine (unhide (HRQ _ W7 (unhide s7.2.2.2.2.1) (unhide s7.1.2.2))).mono ?_
      rintro e w8 ⟨b8, c8, rfl, hown, hk8⟩
      have RB := row_box (h := Dh) hown
      have ALL := hide (fun (W' : World) (hk : Keeps (fun _ => False) (w8.alloc (.cells #[.bool Dh, .slice b8 Dv.length c8] 31)) W') => And.intro (RB W' hk) (unhide ALL W' (hk8.trans ((kAlloc w8 _).trans hk))))
      generalize hW8 : w8.alloc (.cells #[.bool Dh, .slice b8 Dv.length c8] 31) = W8 at *
      have s8 := unhide ALL W8 (Keeps.refl _ _)
      clear hk8 s7 hown RB
      go_wp2_with fail
      refine (unhide (HCN W8 (unhide s8.2.2.2.2.2.1))).mono ?_
      rintro e w9 ⟨b9, c9, rfl, hown, hk9⟩
      have RB := row_box (h := Zh) hown
      have ALL := hide (fun (W' : World) (hk : Keeps (fun _ => False) (w9.alloc (.cells #[.bool Zh, .slice b9 Zv.length c9] 31)) W') => And.intro (RB W' hk) (unhide ALL W' (hk9.trans ((kAlloc w9 _).trans hk))))
      generalize hW9 : w9.alloc (.cells #[.bool Zh, .slice b9 Zv.length c9] 31) = W9 at *
      have s9 := unhide ALL W9 (Keeps.refl _ _)
      clear hk9 s8 hown RB
      obtain ⟨⟨z0, z1, HZ9⟩, ⟨d0, d1, HD9⟩, ⟨x0, x1, HC9⟩, ⟨y0, y1, HB9⟩, ⟨a0, a1, HA9⟩, HL9, HK9, t0, t1, t2⟩ := s9
      go_wp2_with fail
      refine (eqRow_v W9 Bh Dh (.slice b6 Bv.length c6) (.slice b8 Dv.length c8) Bv Dv (unhide HB9) (unhide HD9) (by have := unhide lB; unfold maxLen; omega)).mono ?_
      rintro e w10 ⟨rfl, hk10⟩
      have ALL := hide (fun (W' : World) (hk : Keeps (fun _ => False) w10 W') => unhide ALL W' (hk10.trans hk))
      generalize hE10 : (decide (Bh = Dh) && decide (Bv = Dv)) = E10 at *
      clear z0 z1 d0 d1 x0 x1 y0 y1 a0 a1 HZ9 HD9 HC9 HB9 HA9 HL9 HK9 t0 t1 t2
      obtain ⟨⟨z0, z1, HZ9⟩, ⟨d0, d1, HD9⟩, ⟨x0, x1, HC9⟩, ⟨y0, y1, HB9⟩, ⟨a0, a1, HA9⟩, HL9, HK9, t0, t1, t2⟩ := unhide ALL w10 (Keeps.refl _ _)
      clear hk10
      go_wp2_with fail
      refine (eqRow_v w10 Ah Bh (.slice b5 Av.length c5) (.slice b6 Bv.length c6) Av Bv (unhide HA9) (unhide HB9) (by have := unhide lA; unfold maxLen; omega)).mono ?_
      rintro e w11 ⟨rfl, hk11⟩
      have ALL := hide (fun (W' : World) (hk : Keeps (fun _ => False) w11 W') => unhide ALL W' (hk11.trans hk))
      generalize hE11 : (decide (Ah = Bh) && decide (Av = Bv)) = E11 at *
      clear z0 z1 d0 d1 x0 x1 y0 y1 a0 a1 HZ9 HD9 HC9 HB9 HA9 HL9 HK9 t0 t1 t2
      obtain ⟨⟨z0, z1, HZ9⟩, ⟨d0, d1, HD9⟩, ⟨x0, x1, HC9⟩, ⟨y0, y1, HB9⟩, ⟨a0, a1, HA9⟩, HL9, HK9, t0, t1, t2⟩ := unhide ALL w11 (Keeps.refl _ _)
      clear hk11
      go_wp2_with fail
      refine (eqRow_v w11 Zh h (.slice b9 Zv.length c9) (.slice uo vals.length uc) Zv vals (unhide HZ9) (unhide (HU _ (unhide HK9))) (by have := unhide lZ; unfold maxLen; omega)).mono ?_
      rintro e w12 ⟨rfl, hk12⟩
      have ALL := hide (fun (W' : World) (hk : Keeps (fun _ => False) w12 W') => unhide ALL W' (hk12.trans hk))
      generalize hE12 : (decide (Zh = h) && decide (Zv = vals)) = E12 at *
      clear z0 z1 d0 d1 x0 x1 y0 y1 a0 a1 HZ9 HD9 HC9 HB9 HA9 HL9 HK9 t0 t1 t2
      obtain ⟨⟨z0, z1, HZ9⟩, ⟨d0, d1, HD9⟩, ⟨x0, x1, HC9⟩, ⟨y0, y1, HB9⟩, ⟨a0, a1, HA9⟩, HL9, HK9, t0, t1, t2⟩ := unhide ALL w12 (Keeps.refl _ _)
      clear hk12
      clear HD1 HD2 HWK HBO HRL HCH HRP HRQ HCN HU lA lB lZ
      rcases unhide HP with ⟨hz, hb, ha, hcd⟩ | ⟨hz, hzr, hb, hc, hd, hbd, hA⟩
      · try simp only at hz hb ha hcd
        have n1 : (BE != 0) = true := by simpa using hb
        have n2 : (AE != 0) = true := by simpa using ha
        have n3 : (ZE == 0) = true → E12 = true := fun h0 => by
          rcases hz with hz | hz
          · simp at h0; exact absurd h0 hz
          · rw [Prod.mk.injEq] at hz
            rw [← hE12, hz.1, hz.2]
            simp
        have n4 : (CE != 0) = true ∨ (CE != 0) = false ∧ (DE != 0) = true := by
          cases hc : (CE != 0) with
          | true => exact Or.inl rfl
          | false => exact Or.inr ⟨rfl, by simpa using hcd.resolve_left (by simpa using hc)⟩
        clear HP hz hb ha hcd hE10 hE11 hE12 HCK
        cases n5 : (ZE == 0) with
        | false =>
          clear n3
          rcases n4 with n4 | ⟨n4, n6⟩
          all_goals (go_wp2_with fail; all_goals (go_ret; exact ⟨by first | rfl | simp, unhide HK9⟩))
        | true =>
          have n7 := n3 n5
          subst n7
          clear n3
          rcases n4 with n4 | ⟨n4, n6⟩
          all_goals (go_wp2_with fail; all_goals (go_ret; exact ⟨by first | rfl | simp, unhide HK9⟩))
      · try simp only at hz hzr hb hc hd hbd hA
        subst hz hb hc hd
        rw [Prod.mk.injEq] at hzr hbd
        have n1 : E12 = true := by rw [← hE12, hzr.1, hzr.2]; simp
        have n2 : E10 = true := by rw [← hE10, hbd.1, hbd.2]; simp
        subst n1 n2
        rcases hA with ⟨ha, ht⟩ | ⟨ha, hab⟩
        · subst ha ht
          clear hzr hbd hE10 hE11 hE12 HP
          go_wp2_with fail
          refine (unhide (HCK _ _ w12 (unhide HK9) (unhide HL9))).mono ?_
          rintro e w13 ⟨rfl, hk13⟩
          have HK13 := hide ((unhide HK9).trans hk13)
          clear hk13
          go_wp2_with fail
          all_goals (go_ret; exact ⟨by first | rfl | simp, unhide HK13⟩)
        · subst ha
          rw [Prod.mk.injEq] at hab
          have n3 : E11 = true := by rw [← hE11, hab.1, hab.2]; simp
          subst n3
          clear hzr hbd hE10 hE11 hE12 HP HCK hab
          go_wp2_with fail
          all_goals (go_ret; exact ⟨by first | rfl | simp, unhide HK9⟩)
end Go.Proofs.YtijfnlfgehcpaaaGreatDoor
