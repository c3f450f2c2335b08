import Derived.Test.YtijfnlfgehcpaaaGreatDoorYd
import Derived.BigQuiet
namespace Go.Proofs.YtijfnlfgehcpaaaGreatDoor
open Go.RowKit Go.Maps

theorem vcs_take {l : List ValA} {k : Nat} {x : ValA} (h : l[k]? = some x) : vcs (l.take (k + 1)) = vcs (l.take k) ++ [.int .i64 x.kind, .int .i64 x.n, str x.s] := by
  have e : l.take (k + 1) = l.take k ++ [x] := by rw [List.take_add_one, h]; rfl
  rw [e]
  simp [vcs, ValA.cs]
set_option maxRecDepth 100000 in
set_option maxHeartbeats 8000000 in
theorem blind_walk (S : List FieldA) (l : SL) (one other : List ValA) (sv pv u v : Value) (w : World) (hT : Types w) (hF : Forms w) (hf : FldsAt w sv S) (hp : SlS (argZ w.heap.size) w 0 pv l) (hu : ValsAt w u one) (hv : ValsAt w v other) :
    Calls Tryz.prog 5 #[.agg #[sv], pv, u, v] w fun e w' => e = .returned (.bool true) ∧ Keeps (fun _ => False) w w' := by
  obtain ⟨i0, hi, hz0, hz1, hz2⟩ := info_parts Tryz.info40
  obtain ⟨so, sc, rfl⟩ := RowAt.form hf
  obtain ⟨po, pc, rfl, _⟩ := hp.head
  obtain ⟨uo, uc, rfl⟩ := RowAt.form hu
  obtain ⟨vo, vc, rfl⟩ := RowAt.form hv
  obtain ⟨X, hX⟩ : ∃ X, w.alloc (.cells #[(.slice so S.length sc)] 24) = X := ⟨_, rfl⟩
  have PK : Keeps (fun _ => False) w X := hX ▸ (Keeps.refl _ w).alloc _
  have P0 : X.heap[w.heap.size]? = some (.cells #[(.slice so S.length sc)] 24 (0, 0)) := hX ▸ heap_alloc_new w _
  have ALL := hide (fun (W' : World) (hk : Keeps (fun _ => False) X W') => (by
    have a := (hk.block _ (lt_of_block P0) id).trans P0
    exact ⟨hide (PK.trans hk), (cell_of_blk a _).trans rfl⟩ : Hid (Keeps (fun _ => False) w W') ∧ W'.cell? ⟨w.heap.size, 0, none⟩ = some (.slice so S.length sc)))
  have HD1 := fun W' (hk : Keeps (fun _ => False) w W') => hide (deepStmts w.heap.size 0 l (.slice po l.len pc) W' hk.size (hp.keepF hk))
  have HWK := fun W' (hk : Keeps (fun _ => False) w W') => hide (works_v W' (hT.keepF hk) (hF.keepF hk))
  have HFD := fun (z : l.size ≤ 4294967294) W' (hk : Keeps (fun _ => False) w W') => hide (tfields_v (argZ w.heap.size) S l z (.slice so S.length sc) (.slice po l.len pc) W' 0 (hT.keepF hk) (hF.keepF hk) (hf.keepF hk) (hp.keepF hk))
  have HC1 := fun W' (hk : Keeps (fun _ => False) w W') => hide (val_check S (.slice so S.length sc) one (.slice uo one.length uc) W' (hT.keepF hk) (hf.keepF hk) (hu.keepF hk))
  have HC2 := fun W' (hk : Keeps (fun _ => False) w W') => hide (val_check S (.slice so S.length sc) other (.slice vo other.length vc) W' (hT.keepF hk) (hf.keepF hk) (hv.keepF hk))
  have HR1 := fun (z : l.size ≤ 4294967294) W' (hk : Keeps (fun _ => False) w W') => hide (mrun_v (argZ w.heap.size) S l z true one (.slice so S.length sc) (.slice uo one.length uc) (.slice po l.len pc) W' 0 (hT.keepF hk) (hF.keepF hk) (hf.keepF hk) (hu.keepF hk) (hp.keepF hk))
  have HR2 := fun (z : l.size ≤ 4294967294) u2 W' (hk : Keeps (fun _ => False) w W') (h2 : ValsAt W' u2 (blend S (fieldsP S l).1 one other)) => hide (mrun_v (argZ w.heap.size) S l z true (blend S (fieldsP S l).1 one other) (.slice so S.length sc) u2 (.slice po l.len pc) W' 0 (hT.keepF hk) (hF.keepF hk) (hf.keepF hk) h2 (hp.keepF hk))
  have HU := fun W' (hk : Keeps (fun _ => False) w W') => hide (hu.keepF hk)
  have HV := fun W' (hk : Keeps (fun _ => False) w W') => hide (hv.keepF hk)
  have HS := fun W' (hk : Keeps (fun _ => False) w W') => hide (hf.keepF hk)
  have HP := hide (blind_law S l one other)
  have HG := hide (fun (i : Nat) (g : FieldA) (a b : ValA) => blend_get S (fieldsP S l).1 one other i g a b)
  have HL := hide (fun (h1 : one.length = S.length) (h2 : other.length = S.length) => blend_len S (fieldsP S l).1 one other h1 h2)
  have HRL : Hid ((runP S l true one).1.2.length ≤ 8) := chain_len S [l] true one
  have s0 := unhide ALL X (Keeps.refl _ _)
  unfold FdPost at HFD
  generalize blend S (fieldsP S l).1 one other = two at *
  generalize fieldsP S l = FP at *
  generalize runP S l true one = R at *
  generalize runP S l true two = Q at *
  generalize errR S one = E1 at *
  generalize errR S other = E2 at *
  obtain ⟨FR, FW, FE⟩ := FP
  obtain ⟨⟨Rh, Rv⟩, RE⟩ := R
  obtain ⟨⟨Qh, Qv⟩, QE⟩ := Q
  try simp only at HP HFD HG
  clear hT hF hf hp hu hv PK P0
  go_enter Tryz.func5, Tryz.ntmps5
  go_wp2_with fail
  refine (unhide (HD1 _ (unhide s0.1))).mono ?_
  rintro e w1 ⟨r1, rfl, hk1, hz1⟩
  have ALL := hide (fun (W' : World) (hk : Keeps (fun _ => False) w1 W') => unhide ALL W' (hk1.trans hk))
  have s1 := unhide ALL w1 (Keeps.refl _ _)
  clear hk1 s0
  cases r1 with
  | true =>
    clear hz1
    go_wp2_with fail
    go_ret
    exact ⟨rfl, unhide s1.1⟩
  | false =>
    have zl : l.size ≤ 4294967294 := by have := hz1 rfl; omega
    have HFD := HFD zl
    have HR1 := HR1 zl
    have HR2 := HR2 zl
    clear hz1 zl
    go_wp2_with fail
    refine (unhide (HWK _ (unhide s1.1))).mono ?_
    rintro e w2 ⟨rfl, hk2⟩
    have ALL := hide (fun (W' : World) (hk : Keeps (fun _ => False) w2 W') => unhide ALL W' (hk2.trans hk))
    have s2 := unhide ALL w2 (Keeps.refl _ _)
    clear hk2 s1
    go_wp2_with fail
    refine (unhide (HFD _ (unhide s2.1))).mono ?_
    rintro e w3 ⟨rv, wv, rfl, hr3, _, hk3⟩
    have hr3' : RowAt w3 rv FR.length (nmC FR) := rowAt_own hr3
    have ALL := hide (fun (W' : World) (hk : Keeps (fun _ => False) w3 W') => And.intro (hide (hr3'.keepF hk)) (unhide ALL W' (hk3.trans hk)))
    have s3 := unhide ALL w3 (Keeps.refl _ _)
    clear hk3 s2 hr3 hr3'
    go_wp2_with fail
    refine (unhide (HC1 _ (unhide s3.2.1))).mono ?_
    rintro e w4 ⟨rfl, hk4⟩
    have ALL := hide (fun (W' : World) (hk : Keeps (fun _ => False) w4 W') => unhide ALL W' (hk4.trans hk))
    have s4 := unhide ALL w4 (Keeps.refl _ _)
    clear hk4 s3
    go_wp2_with fail
    refine (unhide (HC2 _ (unhide s4.2.1))).mono ?_
    rintro e w5 ⟨rfl, hk5⟩
    have ALL := hide (fun (W' : World) (hk : Keeps (fun _ => False) w5 W') => unhide ALL W' (hk5.trans hk))
    obtain ⟨HN5, HK5, t0⟩ := unhide ALL w5 (Keeps.refl _ _)
    clear hk5 s4 HD1 HWK HFD HC1 HC2
    rcases unhide HP with hE | ⟨hE, h1⟩ | ⟨hE, h1, h2⟩ | ⟨hE, h1, h2, hl1, hl2, hS8, hFl, hR, hQ, hh, hrl, hfr⟩
    · try simp only at hE
      have n1 : (FE != 0) = true := by simpa using hE
      clear HP hE ALL
      go_wp2_with fail
      all_goals (go_ret; exact ⟨by first | rfl | simp, unhide HK5⟩)
    · try simp only at hE
      subst hE
      have n1 : (E1 != 0) = true := by simpa using h1
      clear HP h1 ALL
      go_wp2_with fail
      all_goals (go_ret; exact ⟨by first | rfl | simp, unhide HK5⟩)
    · try simp only at hE
      subst hE h1
      have n1 : (E2 != 0) = true := by simpa using h2
      clear HP h2 ALL
      go_wp2_with fail
      all_goals (go_ret; exact ⟨by first | rfl | simp, unhide HK5⟩)
    · try simp only at hE hFl hR hQ hh hrl hfr
      subst hE h1 h2 hR hQ hh
      have hl3 := unhide HL hl1 hl2
      have n1 : ((Rv.length : Int) != (Qv.length : Int)) = false := by simp [hrl]
      have HFR := hide hfr
      have HLS := hide (And.intro hl1 (And.intro hl2 (And.intro hl3 hrl)))
      clear HP hfr HL hl1 hl2 hl3 hrl
      go_wp2_with fail
      go_loopw [16, 17] (fun o i wr => ∃ k : Nat, k ≤ one.length ∧ i = .int .i64 k ∧ wr.ownsRow w5.heap.size 40 3 o k (vcs (two.take k)) ∧ Keeps (fun _ => False) w5 wr) (fun _ i _ => one.length - (intOf i).toNat)
      case atStart => exact ⟨0, Nat.zero_le _, rfl, by simpa [vcs] using World.ownsRow_nil w5 w5.heap.size 40 3, Keeps.refl _ _⟩
      case round =>
        obtain ⟨k, hk, rfl, hown, hkp⟩ := hrel
        obtain ⟨oo, oc, rfl⟩ := (rowAt_own hown).form
        clear t0 HN5 HK5
        obtain ⟨HN5, HK5, t0⟩ := unhide ALL wr hkp
        obtain ⟨hl1, hl2, hl3, hrl⟩ := unhide HLS
        by_cases hlt : k < one.length
        · have hk8 : k ≤ 8 := by omega
          obtain ⟨b, off, _, e1, hbl, hc⟩ := (unhide (HU wr (unhide HK5))).cells (by omega)
          obtain ⟨b', off', _, e2, hbl', hc'⟩ := (unhide (HV wr (unhide HK5))).cells (by omega)
          obtain ⟨b2, off2, _, e3, hbl2, hc2⟩ := (unhide (HS wr (unhide HK5))).cells (by omega)
          simp at e1 e2 e3
          obtain ⟨rfl, rfl⟩ := e1
          obtain ⟨rfl, rfl⟩ := e2
          obtain ⟨rfl, rfl⟩ := e3
          obtain ⟨x, hx⟩ : ∃ x, one[k]? = some x := ⟨_, List.getElem?_eq_getElem hlt⟩
          obtain ⟨y, hy⟩ : ∃ y, other[k]? = some y := ⟨_, List.getElem?_eq_getElem (by omega)⟩
          obtain ⟨g, hg⟩ : ∃ g, S[k]? = some g := ⟨_, List.getElem?_eq_getElem (by omega)⟩
          have g0 := (hc2 k g hg).1
          have hmix := unhide HG k g x y hg hx hy
          have i1 : (k : Int) < (one.length : Int) := by omega
          have i2 : (k : Int) < (S.length : Int) := by omega
          have i3 : (k : Int) < (other.length : Int) := by omega
          have ix0 : (0 : Int) ≤ (k : Int) := by omega
          have HCX := hide (fun W' (hq : Keeps (fun _ => False) wr W') => And.intro ((hq.cell hbl id).trans (hc k x hx).1) (And.intro ((hq.cell hbl id).trans (hc k x hx).2.1) ((hq.cell hbl id).trans (hc k x hx).2.2)))
          have HCY := hide (fun W' (hq : Keeps (fun _ => False) wr W') => And.intro ((hq.cell hbl' id).trans (hc' k y hy).1) (And.intro ((hq.cell hbl' id).trans (hc' k y hy).2.1) ((hq.cell hbl' id).trans (hc' k y hy).2.2)))
          have HKP := hide hkp
          have HO := hide hown
          have HM := hide hmix
          have HN := hide (hasName_v FR (by omega) g.name rv wr (unhide HN5))
          clear hc hc' hc2 hx hy hkp hown hmix hl1 hl2 hl3 hrl
          obtain ⟨xk, xn, xs⟩ := x
          obtain ⟨yk, yn, ys⟩ := y
          go_wp2_with fail
          refine (unhide HN).mono ?_
          rintro e w6 ⟨rfl, hk6⟩
          have HKQ := hide ((unhide HKP).trans hk6)
          clear t0 HN5 HK5 g0 HN
          obtain ⟨HN5, HK5, t0⟩ := unhide ALL w6 (unhide HKQ)
          by_cases hm : g.name ∈ FR
          · have n2 : decide (g.name ∈ FR) = true := by simpa using hm
            rw [n2]
            have hxx := unhide HCX w6 hk6
            have hm2 : two[k]? = some ⟨xk, xn, xs⟩ := by rw [unhide HM, if_pos hm]
            have HM2 := hide hm2
            have HNB := hide (heap_alloc_new w6 (.cells #[.int .i64 xk, .int .i64 xn, str xs] 40))
            have HWA := hide (hk6.alloc (.cells #[.int .i64 xk, .int .i64 xn, str xs] 40))
            have HOX := hide (ownsRow_kept (unhide HO) (unhide HWA) (fun _ _ => id))
            have HB0 : Hid (w5.heap.size ≤ w6.heap.size) := (unhide HKQ).size
            have HKW := hide hk6
            clear n2 hk6 HCX HCY HM hm2
            go_wp2_with (at_builtin; refine wpList_append_lies _ rfl _ _ _ rfl w5.heap.size 40 i0 _ 3 32 Tryz.underlying29 hi hz0 hz1 hz2 rfl (by omega) (.slice oo k oc) k _ rfl (unhide HOX) ⟨w6.heap.size, 0, none⟩ 1 1 [.int .i64 xk, .int .i64 xn, str xs] rfl rfl (World.news_of_block (cs := #[.int .i64 xk, .int .i64 xn, str xs]) (t := 40) (fr := (0, 0)) (unhide HNB)) (by simp [Value.oneCell']) (by omega) (by unfold maxLen; omega) (by omega) (by have := unhide HB0; simp; omega) (w6.heap.size + 1) (by simp) ?_; intro g7 c7 w7 hown7 hgrow _ _; have HO7 := hide hown7; have HGR := hide hgrow; clear hown7 hgrow)
            go_roundw
            case rel =>
              have kr7 : Keeps (fun q => w5.heap.size ≤ q) wr w7 := (unhide HWA).any.grown (unhide HGR) (fun q e _ => ((unhide HO).lt q e).1)
              have kw7 : Keeps (fun q => w5.heap.size ≤ q) w5 w7 := (unhide HKP).any.trans kr7
              exact ⟨k + 1, by omega, by go_num, by rw [vcs_take (unhide HM2)]; exact unhide HO7, kw7.mono (fun q hq e => by have e' : w5.heap.size ≤ q := e; omega)⟩
            case measure => simp [intOf]; omega
          · have n2 : decide (g.name ∈ FR) = false := by simpa using hm
            rw [n2]
            have hxx := unhide HCY w6 hk6
            have hm2 : two[k]? = some ⟨yk, yn, ys⟩ := by rw [unhide HM, if_neg hm]
            have HM2 := hide hm2
            have HNB := hide (heap_alloc_new w6 (.cells #[.int .i64 yk, .int .i64 yn, str ys] 40))
            have HWA := hide (hk6.alloc (.cells #[.int .i64 yk, .int .i64 yn, str ys] 40))
            have HOX := hide (ownsRow_kept (unhide HO) (unhide HWA) (fun _ _ => id))
            have HB0 : Hid (w5.heap.size ≤ w6.heap.size) := (unhide HKQ).size
            have HKW := hide hk6
            clear n2 hk6 HCX HCY HM hm2
            go_wp2_with (at_builtin; refine wpList_append_lies _ rfl _ _ _ rfl w5.heap.size 40 i0 _ 3 32 Tryz.underlying29 hi hz0 hz1 hz2 rfl (by omega) (.slice oo k oc) k _ rfl (unhide HOX) ⟨w6.heap.size, 0, none⟩ 1 1 [.int .i64 yk, .int .i64 yn, str ys] rfl rfl (World.news_of_block (cs := #[.int .i64 yk, .int .i64 yn, str ys]) (t := 40) (fr := (0, 0)) (unhide HNB)) (by simp [Value.oneCell']) (by omega) (by unfold maxLen; omega) (by omega) (by have := unhide HB0; simp; omega) (w6.heap.size + 1) (by simp) ?_; intro g7 c7 w7 hown7 hgrow _ _; have HO7 := hide hown7; have HGR := hide hgrow; clear hown7 hgrow)
            go_roundw
            case rel =>
              have kr7 : Keeps (fun q => w5.heap.size ≤ q) wr w7 := (unhide HWA).any.grown (unhide HGR) (fun q e _ => ((unhide HO).lt q e).1)
              have kw7 : Keeps (fun q => w5.heap.size ≤ q) w5 w7 := (unhide HKP).any.trans kr7
              exact ⟨k + 1, by omega, by go_num, by rw [vcs_take (unhide HM2)]; exact unhide HO7, kw7.mono (fun q hq e => by have e' : w5.heap.size ≤ q := e; omega)⟩
            case measure => simp [intOf]; omega
        · have i1 : ¬ (k : Int) < (one.length : Int) := by omega
          have hk2 : k = one.length := by omega
          subst hk2
          have hle : one.length = two.length := by omega
          have h2v : ValsAt wr (.slice oo one.length oc) two := by
            have h0 := rowAt_own hown
            rw [List.take_of_length_le (by omega)] at h0
            unfold ValsAt
            rw [← hle]
            exact h0
          have ALL := hide (fun (W' : World) (hk : Keeps (fun _ => False) wr W') => And.intro (hide (h2v.keepF hk)) (unhide ALL W' (hkp.trans hk)))
          clear t0 HN5 HK5
          obtain ⟨H25, HN5, HK5, t0⟩ := unhide ALL wr (Keeps.refl _ _)
          clear hkp hown h2v hle hl1 hl2 hl3 hrl
          go_wp2_with fail
          refine (unhide (HR1 wr (unhide HK5))).mono ?_
          rintro e w8 ⟨b8, c8, rfl, hown, hk8⟩
          have RB := row_box (h := Rh) hown
          have ALL := hide (fun (W' : World) (hk : Keeps (fun _ => False) (w8.alloc (.cells #[.bool Rh, .slice b8 Rv.length c8] 31)) W') => And.intro (RB W' hk) (unhide ALL W' (hk8.trans ((kAlloc w8 _).trans hk))))
          generalize hW8 : w8.alloc (.cells #[.bool Rh, .slice b8 Rv.length c8] 31) = W8 at *
          clear hk8 hown RB t0 HN5 HK5 H25
          obtain ⟨⟨p0, p1, HP5⟩, H25, HN5, HK5, t0⟩ := unhide ALL W8 (Keeps.refl _ _)
          go_wp2_with fail
          refine (unhide (HR2 _ W8 (unhide HK5) (unhide H25))).mono ?_
          rintro e w9 ⟨b9, c9, rfl, hown, hk9⟩
          have RB := row_box (h := Rh) hown
          have ALL := hide (fun (W' : World) (hk : Keeps (fun _ => False) (w9.alloc (.cells #[.bool Rh, .slice b9 Qv.length c9] 31)) W') => And.intro (RB W' hk) (unhide ALL W' (hk9.trans ((kAlloc w9 _).trans hk))))
          generalize hW9 : w9.alloc (.cells #[.bool Rh, .slice b9 Qv.length c9] 31) = W9 at *
          clear hk9 hown RB t0 HN5 HK5 H25 p0 p1 HP5
          obtain ⟨⟨q0, q1, HQ5⟩, ⟨p0, p1, HP5⟩, H25, HN5, HK5, t0⟩ := unhide ALL W9 (Keeps.refl _ _)
          have hRl : Rv.length ≤ 8 := unhide HRL
          clear HR1 HR2 HG HN5 HRL
          go_wp2_with fail
          go_loopw [23] (fun i wr => ∃ k : Nat, k ≤ Rv.length ∧ i = .int .i64 k ∧ Keeps (fun _ => False) W9 wr) (fun i _ => Rv.length - (intOf i).toNat)
          case atStart => exact ⟨0, Nat.zero_le _, rfl, Keeps.refl _ _⟩
          case round =>
            obtain ⟨k, hk, rfl, hkp⟩ := hrel
            clear q0 q1 p0 p1 t0 HQ5 HP5 H25 HK5
            obtain ⟨⟨q0, q1, HQ5⟩, ⟨p0, p1, HP5⟩, H25, HN5, HK5, t0⟩ := unhide ALL wr hkp
            obtain ⟨hl1, hl2, hl3, hrl⟩ := unhide HLS
            by_cases hlt : k < Rv.length
            · have i1 : (k : Int) < (Rv.length : Int) := by omega
              have ix0 : (0 : Int) ≤ (k : Int) := by omega
              by_cases hlo : k < one.length
              · obtain ⟨b, off, _, e1, hbl, hc⟩ := (unhide (HU wr (unhide HK5))).cells (by omega)
                obtain ⟨b', off', _, e2, hbl', hc'⟩ := (unhide H25).cells (by omega)
                obtain ⟨b2, off2, _, e3, hbl2, hc2⟩ := (unhide HP5).cells (by omega)
                obtain ⟨b3, off3, _, e4, hbl3, hc3⟩ := (unhide HQ5).cells (by omega)
                obtain ⟨e2a, _, e2c⟩ := Value.slice.inj e2
                subst e2a e2c
                simp at e1 e3 e4
                obtain ⟨rfl, rfl⟩ := e1
                obtain ⟨rfl, rfl⟩ := e3
                obtain ⟨rfl, rfl⟩ := e4
                obtain ⟨x, hx⟩ : ∃ x, one[k]? = some x := ⟨_, List.getElem?_eq_getElem hlo⟩
                obtain ⟨y, hy⟩ : ∃ y, two[k]? = some y := ⟨_, List.getElem?_eq_getElem (by omega)⟩
                obtain ⟨z, hz⟩ : ∃ z, Rv[k]? = some z := ⟨_, List.getElem?_eq_getElem hlt⟩
                obtain ⟨t, ht⟩ : ∃ t, Qv[k]? = some t := ⟨_, List.getElem?_eq_getElem (by omega)⟩
                have hzt : x = y → z = t := fun e => by
                  subst e
                  have := unhide HFR k x hx hy
                  rw [hz, ht] at this
                  simpa using this
                have i2 : (k : Int) < (one.length : Int) := by omega
                have i3 : (k : Int) < (two.length : Int) := by omega
                have i4 : (k : Int) < (Qv.length : Int) := by omega
                obtain ⟨x0, x1, x2⟩ := hc k x hx
                obtain ⟨y0, y1, y2⟩ := hc' k y hy
                obtain ⟨z0, z1, z2⟩ := hc2 k z hz
                obtain ⟨u0, u1, u2⟩ := hc3 k t ht
                have HKP := hide hkp
                clear hc hc' hc2 hc3 hx hy hz ht hkp HN5 hl1 hl2 hl3 hrl
                obtain ⟨xk, xn, xs⟩ := x
                obtain ⟨yk, yn, ys⟩ := y
                obtain ⟨zk, zn, zs⟩ := z
                obtain ⟨tk, tn, ts⟩ := t
                simp only at *
                by_cases h1 : xk = yk
                · subst h1
                  by_cases h2 : xn = yn
                  · subst h2
                    by_cases h3 : xs = ys
                    · subst h3
                      have hzt2 := hzt rfl
                      simp only [ValA.mk.injEq] at hzt2
                      obtain ⟨rfl, rfl, rfl⟩ := hzt2
                      clear hzt
                      go_wp2_with fail
                      go_quiet (fail)
                      go_wp2_with fail
                      go_roundw
                      case rel => exact ⟨k + 1, by omega, by go_num, (unhide HKP).trans (keeps_drewN _ _)⟩
                      case measure => simp [intOf]; omega
                    · have h3' : (xs == ys) = false := by simpa using h3
                      clear hzt h3
                      go_wp2_with fail
                      go_quiet (fail)
                      go_wp2_with fail
                      go_roundw
                      case rel => exact ⟨k + 1, by omega, by go_num, (unhide HKP).trans (keeps_drewN _ _)⟩
                      case measure => simp [intOf]; omega
                  · have h3' : (xn == yn) = false := by simpa using h2
                    clear hzt h2
                    go_wp2_with fail
                    go_quiet (fail)
                    go_wp2_with fail
                    go_roundw
                    case rel => exact ⟨k + 1, by omega, by go_num, (unhide HKP).trans (keeps_drewN _ _)⟩
                    case measure => simp [intOf]; omega
                · have h3' : (xk == yk) = false := by simpa using h1
                  clear hzt h1
                  go_wp2_with fail
                  go_quiet (fail)
                  go_wp2_with fail
                  go_roundw
                  case rel => exact ⟨k + 1, by omega, by go_num, (unhide HKP).trans (keeps_drewN _ _)⟩
                  case measure => simp [intOf]; omega
              · have i2 : ¬ (k : Int) < (one.length : Int) := by omega
                clear hkp hl1 hl2 hl3 hrl
                go_wp2_with fail
                all_goals (go_ret; exact ⟨by first | rfl | simp, unhide HK5⟩)
            · have i1 : ¬ (k : Int) < (Rv.length : Int) := by omega
              clear hkp hl1 hl2 hl3 hrl
              go_wp2_with fail
              all_goals (go_ret; exact ⟨by first | rfl | simp, unhide HK5⟩)
end Go.Proofs.YtijfnlfgehcpaaaGreatDoor
