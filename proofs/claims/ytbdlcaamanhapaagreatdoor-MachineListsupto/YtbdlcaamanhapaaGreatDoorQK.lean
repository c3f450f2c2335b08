import Derived.Test.YtbdlcaamanhapaaGreatDoorQH3
import Derived.Test.YtbdlcaamanhapaaGreatDoorQI2
import Derived.Test.YtbdlcaamanhapaaGreatDoorQJ8
import Derived.Test.YtbdlcaamanhapaaGreatDoorQJ10
import Derived.Test.YtbdlcaamanhapaaGreatDoorQJ14
import Derived.Test.YtbdlcaamanhapaaGreatDoorQJ15
import Derived.Test.YtbdlcaamanhapaaGreatDoorQJ17
import Derived.Test.YtbdlcaamanhapaaGreatDoorJzbb
import Derived.Deep.CutBlock
namespace Go.Proofs.YtbdlcaamanhapaaGreatDoor
open Go.RowKit Go.Maps
set_option maxHeartbeats 64000000
theorem Sk.nowhere {w wx : World} {L : List Rowp} (h : Sk w wx L) (e : TypeId) : Sk w wx (solo e 1 0 (.slice none 0 0) [] :: L) := ⟨h.sack.nowhere (by decide), h.keeps⟩
set_option maxRecDepth 1000000 in
theorem lists_walk (w : World) (S : List Wq) (sv cv uv : Value) (Cs : List (List ValA)) (hs : List Value) (V : List ValA) (hh : Bool) (hE : Env w) (hS : Wt w sv S) (hC : CodesAt w cv Cs hs) (hI : ∀ l ∈ Cs, InR l) (hV : Wr w uv V) (nS : S.length ≤ 1048576) (nC : Cs.length ≤ 1048576) (nL : ∀ l ∈ Cs, l.length ≤ 1048576) (nV : V.length ≤ 1048576) :
  Calls Tryz.prog 3 #[.agg #[sv], .agg #[.bool hh, uv], cv] w fun e w' => e = .returned (.bool true) ∧ Wp (fun _ => False) w w' := by
 obtain ⟨so, sc, rfl⟩ := Ws.form hS
 obtain ⟨uo, uc, rfl⟩ := Ws.form hV
 obtain ⟨xo, xc, rfl⟩ := Ws.form hC.row
 obtain ⟨W, hW, hkW, g0, g1⟩ := boxes2 w #[(.slice so S.length sc)] #[.bool hh, (.slice uo V.length uc)] 24 27
 have KW0 := zB hkW
 have AA := zB (And.intro (hE.keepF hkW) (And.intro (hS.keepF hkW) (And.intro (hC.keepF hkW) (And.intro (hV.keepF hkW) (And.intro g0 g1)))))
 have HI := zB hI
 have HNL := zB nL
 have Q1 := zB (works_v W (zA AA).1)
 clear hE hS hC hI hV hkW g0 g1 nL
 go_enter Tryz.func3, Tryz.ntmps3
 go_wp2_with fail
 generalize w.heap.size + 1 = rb at *
 generalize w.heap.size = sb at *
 refine (zA Q1).mono ?_
 rintro e w1 ⟨rfl, hk1⟩
 have J1 := zB hk1
 have A1 := zB (And.intro (Wt.keepF (zA AA).2.1 hk1) (And.intro ((zA AA).2.2.1.keepF hk1) (And.intro (Wr.keepF (zA AA).2.2.2.1 hk1) (And.intro (zD (zA AA).2.2.2.2.1 hk1) (zD (zA AA).2.2.2.2.2 hk1)))))
 have E1 := zB ((zA AA).1.keepF hk1)
 obtain ⟨p2, p3⟩ := cl2 (zA A1).2.2.2.2
 have Q2 := zB (copyRowR_v w1 hh (.slice uo V.length uc) V (zA A1).2.2.1 (by omega))
 clear hk1 Q1 AA
 go_wp2_with fail
 refine (zA Q2).mono ?_
 rintro e w2 ⟨ro, rc, rfl, ho2, hk2⟩
 have hka := kA w2 (.cells #[.bool hh, (.slice ro V.length rc)] 27)
 have hX := heap_alloc_new w2 (.cells #[.bool hh, (.slice ro V.length rc)] 27)
 have hkk := hk2.trans hka
 have J2 := zB ((zA J1).trans hkk)
 have B2 : Hid (Base (w2.alloc (.cells #[.bool hh, (.slice ro V.length rc)] 27)) sb rb w2.heap.size (.slice so S.length sc) S (.slice xo Cs.length xc) Cs hs hh (.slice uo V.length uc) (.slice ro V.length rc) V) := ⟨(zA E1).keepF hkk, Wt.keepF (zA A1).1 hkk, (zA A1).2.1.keepF hkk, Wr.keepF (zA A1).2.2.1 hkk, vals_own (zJ ho2 hka) rfl, zD (zA A1).2.2.2.1 hkk, zD (zA A1).2.2.2.2 hkk, hX⟩
 clear ho2 hk2 hka hX hkk Q2 A1 E1 J1 p2 p3
 go_wp2_with fail
 generalize w2.alloc (.cells #[.bool hh, (.slice ro V.length rc)] 27) = w3 at *
 generalize w2.heap.size = db at *
 have SK0 := zB ((((( Sk.start w3).nowhere 45).nowhere 45).nowhere 25).nowhere 25)
 go_loopw [9, 10, 11, 12, 13] (fun u9 u10 u11 u12 iv wr => ∃ (n : Nat) (h9 h10 h11 h12 : Hd) (its : List Rowp), iv = .int .i64 (n : Int) ∧ n ≤ Cs.length ∧ u9 = h9.v ∧ u10 = h10.v ∧ u11 = h11.v ∧ u12 = h12.v ∧ (h9.hs.length = 2 * n ∧ h11.hs.length = 2 * n ∧ ∀ p ∈ its, p.e ≠ 38) ∧ Hid (Sk w3 wr (h9.row 25 :: h10.row 25 :: h11.row 45 :: h12.row 45 :: its)) ∧ Hid (PairsZ kV its h9.hs h10.hs) ∧ Hid (PairsZ kS its h11.hs h12.hs)) (fun _ _ _ _ iv _ => Cs.length - (intOf iv).toNat)
 case atStart => exact ⟨0, ⟨.slice none 0 0, []⟩, ⟨.slice none 0 0, []⟩, ⟨.slice none 0 0, []⟩, ⟨.slice none 0 0, []⟩, [], rfl, Nat.zero_le _, rfl, rfl, rfl, rfl, ⟨rfl, rfl, fun p hp => by cases hp⟩, SK0, ⟨rfl, fun i x y h => by cases h⟩, ⟨rfl, fun i x y h => by cases h⟩⟩
 case round =>
  clear SK0
  obtain ⟨n, h9, h10, h11, h12, its, rfl, hn, rfl, rfl, rfl, rfl, hlen, SK, PV, PS⟩ := hrel
  have HB := zB (fun (Z : World) (h : Wp (fun _ => False) w3 Z) => (zA B2).keepF h)
  by_cases hlt : n < Cs.length
  ·have i1 : (n : Int) < (Cs.length : Int) := by omega
   have i0 : (0 : Int) ≤ (n : Int) := by omega
   obtain ⟨cb, co, cc, c, hxo, _, hcv, hsi⟩ := (zA HB _ (zA SK).keeps).codes.at_ hlt
   obtain ⟨rfl, rfl⟩ : xo = some ⟨cb, co, none⟩ ∧ xc = cc := by
    simp only [Value.slice.injEq] at hxo
    exact ⟨hxo.1, hxo.2.2⟩
   obtain ⟨L, hL⟩ : ∃ L, L = Cs[n] := ⟨_, rfl⟩
   rw [← hL] at hcv
   have HLI := zB (show InR L from by rw [hL]; exact zA HI _ (List.getElem_mem hlt))
   have nL : L.length ≤ 1048576 := by rw [hL]; exact zA HNL _ (List.getElem_mem hlt)
   obtain ⟨lo, lc, rfl⟩ := Ws.form hcv
   have LL := zB hcv
   have HCL := zB (fun (Z : World) (h : Wp (fun _ => False) w3 Z) => (zA HB Z h).codes.pick hsi (show Cs[n]? = some L from by rw [hL]; exact List.getElem?_eq_getElem hlt))
   have HLEN := zB hlen
   have hd8 : (runO S L hh V).vals.length ≤ 8 := runO_len ..
   obtain ⟨O, hO⟩ : ∃ O, O = runO S L hh V := ⟨_, rfl⟩
   obtain ⟨T, hT⟩ : ∃ T, T = stepL (traceO S L hh V) := ⟨_, rfl⟩
   have hTl : T.length ≤ 1024 := by rw [hT, stepL_len]; exact trace_le S L hh V
   rw [← hO] at hd8
   have HOT := zB (And.intro hO (And.intro hT (And.intro hd8 hTl)))
   clear hxo hL hcv hlen B2 hO hT hd8 hTl
   go_upto_region 10 with fail
   refine wp_mono (reg10 (S := S) (L := L) (V := V) (hh := hh) (hE := (zA HB _ (zA SK).keeps).env) (hS := (zA HB _ (zA SK).keeps).flds) (hcell := (zA HCL _ (zA SK).keeps).1) (hL := (zA HCL _ (zA SK).keeps).2) (hV := (zA HB _ (zA SK).keeps).row) (hb0 := (zA HB _ (zA SK).keeps).b0) (hb1 := (zA HB _ (zA SK).keeps).b1) (HLI := zA HLI) (hn := hlt) (hN := nC) (nS := nS) (nL := nL) (nV := nV)) ?_
   rintro e a' x1 ⟨rfl, t10_0, t10_1, t10_2, t10_3, t10_4, t10_5, t10_6, t10_7, rfl, p, gs, ks, gc, kc, gb, kb, gr, kr, rfl, hg, hk⟩
   have G1 := zB hg
   have SK1 := zB ((zA SK).keepF hk)
   clear hg hk SK
   go_upto_region 11 with fail
   refine wp_mono (reg11 (S := S) (L := L) (V := V) (hh := hh) (hE := (zA HB _ (zA SK1).keeps).env) (hS := (zA HB _ (zA SK1).keeps).flds) (hcell := (zA HCL _ (zA SK1).keeps).1) (hL := (zA HCL _ (zA SK1).keeps).2) (hV := (zA HB _ (zA SK1).keeps).row) (hb0 := (zA HB _ (zA SK1).keeps).b0) (hb1 := (zA HB _ (zA SK1).keeps).b1) (HLI := zA HLI) (hn := hlt) (hN := nC) (nS := nS) (nL := nL) (nV := nV)) ?_
   rintro e a' x2 ⟨rfl, t11_0, t11_1, t11_2, t11_3, t11_4, t11_5, t11_6, t11_7, rfl, rfl, hk⟩
   have G2 := zB ((zA G1).keepF hk)
   have SK2 := zB ((zA SK1).keepF hk)
   clear hk G1 SK1
   go_upto_region 14 with fail
   refine wp_mono (reg14 (O := O) (hE := (zA HB _ (zA SK2).keeps).env) (hG := zA G2) (hcp := (zA HB _ (zA SK2).keeps).copy) (hb2 := (zA HB _ (zA SK2).keeps).b2) (HLI := zA HLI) (hO := (zA HOT).1)) ?_
   rintro e a' x3 ⟨rfl, t14_0, t14_1, t14_2, t14_3, t14_4, t14_5, t14_6, t14_7, t14_8, t14_9, t14_10, t14_11, t14_12, t14_13, t14_14, rfl, rfl, b1, a1, d1, rfl, hx, hv, hk⟩
   have G3 := zB ((zA G2).keepF hk)
   have SK3 := zB ((zA SK2).newRow hk hv (by decide))
   have AX3 := zB hx
   clear G2 SK2 hk hv hx
   go_upto_region 15 with fail
   refine wp_mono (reg15 (O := O) (hE := (zA HB _ (zA SK3).keeps).env) (hS := (zA HB _ (zA SK3).keeps).flds) (hcell := (zA HCL _ (zA SK3).keeps).1) (hL := (zA HCL _ (zA SK3).keeps).2) (hV := (zA HB _ (zA SK3).keeps).row) (hb0 := (zA HB _ (zA SK3).keeps).b0) (hb1 := (zA HB _ (zA SK3).keeps).b1) (HLI := zA HLI) (hn := hlt) (hN := nC) (nS := nS) (nL := nL) (nV := nV) (hO := (zA HOT).1)) ?_
   rintro e a' x4 ⟨rfl, t15_0, t15_1, t15_2, t15_3, t15_4, t15_5, t15_6, t15_7, t15_8, t15_9, t15_10, t15_11, rfl, rfl, b2, a2, d2, rfl, hx, hv, hq, hk⟩
   have G4 := zB ((zA G3).keepF hk)
   have SK4 := zB ((zA SK3).keepF hk)
   have AX4 := zB (zD (zA AX3) hk)
   have BY4 := zB (By.start (zA SK3) hv hq)
   have BX4 := zB hx
   clear G3 SK3 AX3 hk hv hx hq
   go_upto_region 16 with fail
   refine wp_mono (reg16 (O := O) (T := T) (hE := (zA HB _ (zA SK4).keeps).env) (hG := zA G4) (hcp := (zA HB _ (zA SK4).keeps).copy) (hb2 := (zA HB _ (zA SK4).keeps).b2) (HLI := zA HLI) (hO := (zA HOT).1) (hT := (zA HOT).2.1)) ?_
   rintro e a' x5 ⟨rfl, t16_0, t16_1, t16_2, t16_3, t16_4, t16_5, t16_6, t16_7, t16_8, t16_9, t16_10, t16_11, t16_12, t16_13, t16_14, rfl, rfl, a3, d3, rfl, hv, hk⟩
   have G5 := zB ((zA G4).keepF hk)
   have AX5 := zB (zD (zA AX4) hk)
   have BX5 := zB (zD (zA BX4) hk)
   have SK5 := zB ((zA SK4).newRow hk hv (by decide))
   have BY5 := zB ((zA BY4).newRow hk hv)
   clear G4 SK4 AX4 BX4 BY4 hk hv
   go_upto_region 17 with fail
   refine wp_mono (reg17 (O := O) (hE := (zA HB _ (zA SK5).keeps).env) (hG := zA G5) (hcp := (zA HB _ (zA SK5).keeps).copy) (hb2 := (zA HB _ (zA SK5).keeps).b2) (HLI := zA HLI) (hO := (zA HOT).1)) ?_
   rintro e a' x6 ⟨rfl, t17_0, t17_1, t17_2, t17_3, t17_4, t17_5, t17_6, t17_7, t17_8, t17_9, t17_10, t17_11, t17_12, t17_13, t17_14, rfl, rfl, b4, a4, d4, rfl, hx, hv, hk⟩
   have G6 := zB ((zA G5).keepF hk)
   have AX6 := zB (zD (zA AX5) hk)
   have BX6 := zB (zD (zA BX5) hk)
   have SK6 := zB ((zA SK5).newRow hk hv (by decide))
   have BY6 := zB ((zA BY5).newRow hk hv)
   have CX6 := zB hx
   clear G5 SK5 AX5 BX5 BY5 hk hv hx
   go_upto_region 18 with fail
   refine wp_mono (reg18 (O := O) (T := T) (hE := (zA HB _ (zA SK6).keeps).env) (hG := zA G6) (hcp := (zA HB _ (zA SK6).keeps).copy) (hb2 := (zA HB _ (zA SK6).keeps).b2) (HLI := zA HLI) (hO := (zA HOT).1) (hT := (zA HOT).2.1)) ?_
   rintro e a' x7 ⟨rfl, t18_0, t18_1, t18_2, t18_3, t18_4, t18_5, t18_6, t18_7, t18_8, t18_9, t18_10, t18_11, t18_12, t18_13, t18_14, rfl, rfl, a5, d5, rfl, hv, hk⟩
   have AX7 := zB (zD (zA AX6) hk)
   have BX7 := zB (zD (zA BX6) hk)
   have CX7 := zB (zD (zA CX6) hk)
   have SK7 := zB ((zA SK6).newRow hk hv (by decide))
   have BY7 := zB ((zA BY6).newRow hk hv)
   clear G6 SK6 AX6 BX6 CX6 BY6 hk hv
   go_upto_region 19 with fail
   refine wp_mono (reg19 (O := O) (T := T) (hE := (zA HB _ (zA SK7).keeps).env) (hS := (zA HB _ (zA SK7).keeps).flds) (hcell := (zA HCL _ (zA SK7).keeps).1) (hL := (zA HCL _ (zA SK7).keeps).2) (hV := (zA HB _ (zA SK7).keeps).row) (hb0 := (zA HB _ (zA SK7).keeps).b0) (hb1 := (zA HB _ (zA SK7).keeps).b1) (HLI := zA HLI) (hn := hlt) (hN := nC) (nS := nS) (nL := nL) (nV := nV) (hO := (zA HOT).1) (hT := (zA HOT).2.1)) ?_
   rintro e a' x8 ⟨rfl, t19_0, t19_1, t19_2, t19_3, t19_4, t19_5, t19_6, t19_7, t19_8, t19_9, t19_10, t19_11, rfl, rfl, a6, d6, rfl, hv, hk⟩
   have AX8 := zB (zD (zA AX7) hk)
   have BX8 := zB (zD (zA BX7) hk)
   have CX8 := zB (zD (zA CX7) hk)
   have SK8 := zB ((zA SK7).newRow hk hv (by decide))
   have BY8 := zB ((zA BY7).newRow hk hv)
   clear SK7 AX7 BX7 CX7 BY7 hk hv
   go_upto_region 20 with fail
   refine wp_mono (reg20 (l := O.vals) (T := T) (V := V) (hr := hh) (h1 := zA AX8) (h2 := zA BX8) (v1 := vals_own ((zA SK8).ati (i := 4) rfl).x rfl) (v2 := (zA BY8).vals) (t1 := zG ((zA SK8).ati (i := 3) rfl).x) (t2 := zG ((zA SK8).ati (i := 0) rfl).x) (hn := (zA HOT).2.2.1) (hl := rfl) (hm := (zA HOT).2.2.2) (hT := rfl) (h3 := (zA HB _ (zA SK8).keeps).b2) (h4 := (zA HB _ (zA SK8).keeps).b1) (v3 := (zA HB _ (zA SK8).keeps).copy) (v4 := (zA HB _ (zA SK8).keeps).row) (hV := nV)) ?_
   rintro e a' x9 ⟨rfl, t20_0, t20_1, t20_2, t20_3, t20_4, t20_5, t20_6, t20_7, t20_8, t20_9, t20_10, t20_11, t20_12, t20_13, t20_14, t20_15, rfl, rfl, hk⟩
   have SK9 := zB ((zA SK8).keepF hk)
   have BY9 := zB ((zA BY8).keepF hk)
   have AX9 := zB (zD (zA AX8) hk)
   have BX9 := zB (zD (zA BX8) hk)
   have CX9 := zB (zD (zA CX8) hk)
   clear SK8 AX8 BX8 CX8 BY8 hk
   have ee1 : (O.e == O.e) = true := by simp
   have hn2 : (n : Int) ≤ 1048576 := by omega
   obtain ⟨y0, hY, hk, m0, m1⟩ := boxes2 x9 #[.int .i64 (40 + (n : Int)), .int .i64 (n : Int), .string { data := #[109, 97, 114, 107] }] #[.int .i64 (-1 - (n : Int)), .string { data := #[109, 97, 114, 107] }] 51 53
   have ST0 := zB (St.start (zA SK9) (zA BY9) hk (by
    have hq := (zA HLEN).2.2
    intro p hp
    simp only [List.mem_cons] at hp
    rcases hp with rfl | rfl | rfl | rfl | rfl | rfl | rfl | rfl | rfl | hp
    ·exact (show (53 : Nat) ≠ 38 by decide)
    ·exact (show (53 : Nat) ≠ 38 by decide)
    ·exact (show (51 : Nat) ≠ 38 by decide)
    ·exact (show (53 : Nat) ≠ 38 by decide)
    ·exact (show (51 : Nat) ≠ 38 by decide)
    ·exact (show (25 : Nat) ≠ 38 by decide)
    ·exact (show (25 : Nat) ≠ 38 by decide)
    ·exact (show (45 : Nat) ≠ 38 by decide)
    ·exact (show (45 : Nat) ≠ 38 by decide)
    ·exact hq p hp) (zA AX9) (zA BX9) (zA CX9) (Nat.le_refl _) (Nat.le_add_right _ 1) (zE m0) (zE m1))
   have AX0 := zB (zD (zA AX9) hk)
   have BX0 := zB (zD (zA BX9) hk)
   have CX0 := zB (zD (zA CX9) hk)
   have BV0 := zB (Wr.keepF (zA BY9).vals hk)
   have TW : Hid (Two y0 (PP b1 b2 b4 x9.heap.size (x9.heap.size + 1) (.slice a2 O.vals.length d2)) x9.heap.size (x9.heap.size + 1) (40 + (n : Int)) (n : Int) (-1 - (n : Int))) := ⟨Or.inr (Or.inr (Or.inr (Or.inl rfl))), Or.inr (Or.inr (Or.inr (Or.inr (Or.inl rfl)))), m0, m1⟩
   clear SK9 BY9 AX9 BX9 CX9 hk m0 m1
   go_upto_region 25 with fail
   generalize x9.heap.size + 1 = g30 at *
   generalize x9.heap.size = g29 at *
   clear hY ee1
   go_upto_block 2 with fail
   refine wp_mono (loop2 (l := O.vals) (i := 4) (hn := (zA HOT).2.2.1) (HS := zA ST0) (hL := rfl) (hb1 := Or.inl rfl) (hg := (zA TW).p29) (e1 := zA AX0) (eg := (zA TW).c29)) ?_
   rintro e a' y1 ⟨rfl, v31, t31_0, t31_1, t31_2, t31_3, t31_4, t31_5, t31_6, t31_7, t31_8, t31_9, t31_10, t31_11, t31_12, t31_13, t31_14, t31_15, t31_16, t31_17, t31_18, rfl, HS⟩
   have ST1 : Hid (St w3 y0 y1 (solo 51 3 O.vals.length v31 (vcs (List.replicate O.vals.length ⟨40 + (n : Int), (n : Int), [109, 97, 114, 107]⟩)) :: solo 53 2 T.length (.slice a6 T.length d6) (sC T) :: solo 53 2 T.length (.slice a5 T.length d5) (sC T) :: solo 51 3 O.vals.length (.slice a4 O.vals.length d4) (vcs O.vals) :: solo 53 2 T.length (.slice a3 T.length d3) (sC T) :: solo 51 3 O.vals.length (.slice a1 O.vals.length d1) (vcs (List.replicate O.vals.length ⟨40 + (n : Int), (n : Int), [109, 97, 114, 107]⟩)) :: h9.row 25 :: h10.row 25 :: h11.row 45 :: h12.row 45 :: its) (PP b1 b2 b4 g29 g30 (.slice a2 O.vals.length d2))) := St.markDone (K := kV) HS
   clear HS ST0
   go_upto_block 4 with fail
   refine wp_mono (loop3 (l := T) (i := 4) (hn := (zA HOT).2.2.2) (HS := zA ST1) (hL := rfl) (hg := (zA TW).p30) (eg := (zA TW).c30)) ?_
   rintro e a' y2 ⟨rfl, v33, t33_0, t33_1, t33_2, t33_3, t33_4, t33_5, t33_6, t33_7, t33_8, t33_9, t33_10, t33_11, t33_12, t33_13, t33_14, rfl, HS⟩
   have ST2 : Hid (St w3 y0 y2 (solo 53 2 T.length v33 (sC (List.replicate T.length (-1 - (n : Int), [109, 97, 114, 107]))) :: solo 51 3 O.vals.length v31 (vcs (List.replicate O.vals.length ⟨40 + (n : Int), (n : Int), [109, 97, 114, 107]⟩)) :: solo 53 2 T.length (.slice a6 T.length d6) (sC T) :: solo 53 2 T.length (.slice a5 T.length d5) (sC T) :: solo 51 3 O.vals.length (.slice a4 O.vals.length d4) (vcs O.vals) :: solo 53 2 T.length (.slice a3 T.length d3) (sC (List.replicate T.length (-1 - (n : Int), [109, 97, 114, 107]))) :: solo 51 3 O.vals.length (.slice a1 O.vals.length d1) (vcs (List.replicate O.vals.length ⟨40 + (n : Int), (n : Int), [109, 97, 114, 107]⟩)) :: h9.row 25 :: h10.row 25 :: h11.row 45 :: h12.row 45 :: its) (PP b1 b2 b4 g29 g30 (.slice a2 O.vals.length d2))) := St.markDone (K := kS) HS
   clear HS ST1
   obtain ⟨k0, k1⟩ := cl2o ((zA ST2).blk (Or.inl rfl) (zA AX0))
   have hw31 : y2.ownsRow w3.heap.size 51 3 v31 O.vals.length (vcs (List.replicate O.vals.length ⟨40 + (n : Int), (n : Int), [109, 97, 114, 107]⟩)) := ((zA ST2).ati (i := 1) rfl).x
   obtain ⟨mo, mc, rfl⟩ := (zG hw31).form
   clear hw31
   have hval : Wr y2 (.slice mo O.vals.length mc) (List.replicate O.vals.length (⟨40 + (n : Int), (n : Int), [109, 97, 114, 107]⟩ : ValA)) := by
    unfold Wr
    rw [List.length_replicate]
    exact zG ((zA ST2).ati (i := 1) rfl).x
   have QC := zB (copyVals_any y2 (.slice mo O.vals.length mc) _ hval (by rw [List.length_replicate]; have := (zA HOT).2.2.1; omega))
   clear hval
   go_upto_region 38 with fail
   go_wp2_with fail
   refine (zA QC).mono ?_
   rintro e y3 ⟨v36, rfl, ho, hk⟩
   rw [List.length_replicate] at ho
   have ST3 := zB ((zA ST2).newRow hk ho (by decide))
   clear QC ST2 k0 k1 ho hk
   go_upto_region 40 with fail
   have hw33 : y3.ownsRow w3.heap.size 53 2 v33 T.length (sC (List.replicate T.length (-1 - (n : Int), [109, 97, 114, 107]))) := ((zA ST3).ati (i := 1) rfl).x
   obtain ⟨no, nc, rfl⟩ := (zG hw33).form
   clear hw33
   refine wp_mono (reg40 (l := List.replicate T.length (-1 - (n : Int), [109, 97, 114, 107])) (hl := List.length_replicate) (hm := (zA HOT).2.2.2) (ho := zG ((zA ST3).ati (i := 1) rfl).x)) ?_
   rintro e a' y4 ⟨rfl, v38, t40_0, t40_1, t40_2, rfl, ho, hk⟩
   have ST4 := zB ((zA ST3).newRow hk ho (by decide))
   clear ST3 ho hk
   have R4 := zB (show St w3 y0 y4 (rows4 O.vals.length T.length ⟨40 + (n : Int), (n : Int), [109, 97, 114, 107]⟩ (-1 - (n : Int), [109, 97, 114, 107]) (.slice a1 O.vals.length d1) (.slice a3 T.length d3) _ _ 0 0 0 0 (.slice a1 O.vals.length d1) v36 (.slice a3 T.length d3) v38) _ from St.turn4 (M := [_, _, _, _, _]) (zA ST4))
   clear ST4
   go_upto_block 6 with fail
   refine wp_mono (loop4 (hn := (zA HOT).2.2.1) (hm := (zA HOT).2.2.2) (HS := zA R4) (TW := zA TW)) ?_
   rintro e a' y5 ⟨rfl, v35, v36', v37, v38', t44_0, t44_1, t44_2, t44_3, t44_4, t44_5, t44_6, t44_7, t44_8, t44_9, t44_10, t44_11, t44_12, t44_13, t44_14, t44_15, t44_16, t44_17, t44_18, t44_19, t44_20, rfl, HS⟩
   have R5 := zB HS
   clear HS R4
   obtain ⟨o35, c35, rfl⟩ := (zG (zA R5).own35).form
   obtain ⟨o36, c36, rfl⟩ := (zG (zA R5).own36).form
   obtain ⟨o37, c37, rfl⟩ := (zG (zA R5).own37).form
   obtain ⟨o38, c38, rfl⟩ := (zG (zA R5).own38).form
   have hb9 : h9.hs.length ≤ 2097152 := by have := (zA HLEN).1; omega
   have hb10 : h10.hs.length ≤ 2097152 := by have := (zA PV).len; omega
   have hb11 : h11.hs.length ≤ 2097152 := by have := (zA HLEN).2.1; omega
   have hb12 : h12.hs.length ≤ 2097152 := by have := (zA PS).len; omega
   go_upto_region 48 with fail
   refine wp_mono (reg48 (h := h9) (i := 9) (hn := by omega) (HS := zA R5) (hL := rfl) (hb1 := Or.inl rfl) (e1 := zA AX0)) ?_
   rintro e a' y6 ⟨rfl, w9, t48_0, t48_1, t48_2, t48_3, t48_4, t48_5, t48_6, rfl, ⟨wx9, s9⟩, rfl, hs9, HS⟩
   have R6 := zB HS
   clear HS R5
   go_upto_region 49 with fail
   refine wp_mono (reg49 (h := h10) (i := 10) (hn := by omega) (HS := zA R6) (hL := rfl)) ?_
   rintro e a' y7 ⟨rfl, w10, t49_0, t49_1, t49_2, t49_3, t49_4, rfl, ⟨wx10, s10⟩, rfl, hs10, HS⟩
   have R7 := zB HS
   clear HS R6
   go_upto_region 50 with fail
   refine wp_mono (reg50 (h := h11) (i := 11) (hn := by omega) (HS := zA R7) (hL := rfl)) ?_
   rintro e a' y8 ⟨rfl, w11, t50_0, t50_1, t50_2, t50_3, t50_4, rfl, ⟨wx11, s11⟩, rfl, hs11, HS⟩
   have R8 := zB HS
   clear HS R7
   go_upto_region 51 with fail
   refine wp_mono (reg51 (h := h12) (i := 12) (hn := by omega) (HS := zA R8) (hL := rfl)) ?_
   rintro e a' y9 ⟨rfl, w12, t51_0, t51_1, t51_2, t51_3, t51_4, rfl, ⟨wx12, s12⟩, rfl, hs12, HS⟩
   have R9 := zB HS
   clear HS R8
   simp only at hs9 hs10 hs11 hs12
   go_upto_region 52 with fail
   refine wp_mono (reg52 (l := O.vals) (T := T) (h1 := (zA R9).blk (Or.inr (Or.inr (Or.inl rfl))) (zA CX0)) (h2 := (zA R9).blk (Or.inr (Or.inl rfl)) (zA BX0)) (v1 := vals_own ((zA R9).ati (i := 8) rfl).x rfl) (v2 := (zA R9).vals (zA BV0) (fun q e => Or.inr (Or.inr (Or.inr (Or.inr (Or.inr e)))))) (t1 := zG ((zA R9).ati (i := 7) rfl).x) (t2 := zG ((zA R9).ati (i := 6) rfl).x) (hn := (zA HOT).2.2.1) (hl := rfl) (hm := (zA HOT).2.2.2) (hT := rfl)) ?_
   rintro e a' z0 ⟨rfl, t52_0, t52_1, t52_2, t52_3, t52_4, t52_5, t52_6, t52_7, t52_8, t52_9, t52_10, t52_11, rfl, rfl, hk⟩
   have Z0 := zB ((zA R9).keepF hk)
   clear R9 hk
   obtain ⟨its', hits⟩ : ∃ its', its' = itemsR O.vals.length T.length ⟨40 + (n : Int), (n : Int), [109, 97, 114, 107]⟩ (-1 - (n : Int), [109, 97, 114, 107]) (.slice a1 O.vals.length d1) (.slice a3 T.length d3) (.slice mo O.vals.length mc) (.slice no T.length nc) (.slice o35 (O.vals.length + 64) c35) (.slice o36 (O.vals.length + 64) c36) (.slice o37 (T.length + 64) c37) (.slice o38 (T.length + 64) c38) (solo 53 2 T.length (.slice a6 T.length d6) (sC T)) (solo 53 2 T.length (.slice a5 T.length d5) (sC T)) (solo 51 3 O.vals.length (.slice a4 O.vals.length d4) (vcs O.vals)) ++ its := ⟨_, rfl⟩
   have Z1 : Hid (St w3 y0 z0 (itemsR O.vals.length T.length ⟨40 + (n : Int), (n : Int), [109, 97, 114, 107]⟩ (-1 - (n : Int), [109, 97, 114, 107]) (.slice a1 O.vals.length d1) (.slice a3 T.length d3) (.slice mo O.vals.length mc) (.slice no T.length nc) (.slice o35 (O.vals.length + 64) c35) (.slice o36 (O.vals.length + 64) c36) (.slice o37 (T.length + 64) c37) (.slice o38 (T.length + 64) c38) (solo 53 2 T.length (.slice a6 T.length d6) (sC T)) (solo 53 2 T.length (.slice a5 T.length d5) (sC T)) (solo 51 3 O.vals.length (.slice a4 O.vals.length d4) (vcs O.vals)) ++ ((⟨w9, s9⟩ : Hd).row 25 :: (⟨w10, s10⟩ : Hd).row 25 :: (⟨w11, s11⟩ : Hd).row 45 :: (⟨w12, s12⟩ : Hd).row 45 :: its)) (PP b1 b2 b4 g29 g30 (.slice a2 O.vals.length d2))) := zA Z0
   have hmem : ∀ p ∈ its, p ∈ its' := fun p hp => by rw [hits]; exact List.mem_append_right _ hp
   have PV2 : Hid (PairsZ kV its' s9 s10) := by
    have h1 := pairs_next (zA PV) hmem (by rw [hits]; exact items_V1 (zA HOT).2.2.1) (by rw [hits]; exact items_V2 (zA HOT).2.2.1)
    rw [← hs9, ← hs10] at h1
    exact h1
   have PS2 : Hid (PairsZ kS its' s11 s12) := by
    have h1 := pairs_next (zA PS) hmem (by rw [hits]; exact items_S1 (zA HOT).2.2.2) (by rw [hits]; exact items_S2 (zA HOT).2.2.2)
    rw [← hs11, ← hs12] at h1
    exact h1
   have n9 : s9.length = 2 * (n + 1) := by rw [hs9, List.length_append, (zA HLEN).1]; simp; omega
   have n11 : s11.length = 2 * (n + 1) := by rw [hs11, List.length_append, (zA HLEN).2.1]; simp; omega
   have n10 : s10.length = 2 * (n + 1) := by rw [← (zA PV2).len]; exact n9
   have n12 : s12.length = 2 * (n + 1) := by rw [← (zA PS2).len]; exact n11
   have HKI : Hid (∀ p ∈ its', p.e ≠ 38) := by
    show ∀ p ∈ its', _
    rw [hits]
    exact items_kind ⟨(show (53 : Nat) ≠ 38 by decide), (show (53 : Nat) ≠ 38 by decide), (show (51 : Nat) ≠ 38 by decide)⟩ (zA HLEN).2.2
   have Z2 : Hid (St w3 y0 z0 ((⟨w9, s9⟩ : Hd).row 25 :: (⟨w10, s10⟩ : Hd).row 25 :: (⟨w11, s11⟩ : Hd).row 45 :: (⟨w12, s12⟩ : Hd).row 45 :: its') (PP b1 b2 b4 g29 g30 (.slice a2 O.vals.length d2))) := by
    rw [hits]
    exact (zA Z1).perm (List.perm_append_comm_assoc _ [_, _, _, _] its)
   clear Z0 Z1 hits hs9 hs10 hs11 hs12 hmem PV PS
   have q9 : z0.ownsRow w3.heap.size 25 1 w9 (2 * (n + 1)) s9 := by rw [← n9]; exact ((zA Z2).ati (i := 0) rfl).x
   have q10 : z0.ownsRow w3.heap.size 25 1 w10 (2 * (n + 1)) s10 := by rw [← n10]; exact ((zA Z2).ati (i := 1) rfl).x
   have q11 : z0.ownsRow w3.heap.size 45 1 w11 (2 * (n + 1)) s11 := by rw [← n11]; exact ((zA Z2).ati (i := 2) rfl).x
   have q12 : z0.ownsRow w3.heap.size 45 1 w12 (2 * (n + 1)) s12 := by rw [← n12]; exact ((zA Z2).ati (i := 3) rfl).x
   obtain ⟨f9, e9, rfl⟩ := (zG q9).form
   obtain ⟨f10, e10, rfl⟩ := (zG q10).form
   obtain ⟨f11, e11, rfl⟩ := (zG q11).form
   obtain ⟨f12, e12, rfl⟩ := (zG q12).form
   clear q9 q10 q11 q12
   have HNS := zB (And.intro n9 (And.intro n10 (And.intro n11 n12)))
   clear n9 n10 n11 n12 hb9 hb10 hb11 hb12
   go_upto_block 8 with fail
   refine wp_mono (loop5 (jA := 0) (jB := 1) (jC := 2) (jD := 3) (sA := s9) (sB := s10) (sC_ := s11) (sD := s12) (HS := zA Z2) (iA := by simp only [Hd.row, (zA HNS).1]; rfl) (iB := by simp only [Hd.row, (zA HNS).2.1]; rfl) (iC := by simp only [Hd.row, (zA HNS).2.2.1]; rfl) (iD := by simp only [Hd.row, (zA HNS).2.2.2]; rfl) (PV := zA PV2) (PS := zA PS2) (hits := fun p hp => List.mem_cons_of_mem _ (List.mem_cons_of_mem _ (List.mem_cons_of_mem _ (List.mem_cons_of_mem _ hp)))) (hA := (zA HNS).1) (hC := (zA HNS).2.2.1) (hN := by omega)) ?_
   rintro e a' z1 ⟨rfl, t55_0, t55_1, t55_2, t55_3, t55_4, t55_5, t55_6, t55_7, t55_8, t55_9, t55_10, t55_11, t55_12, t55_13, t55_14, t55_15, t55_16, t55_17, t55_18, t55_19, t55_20, t55_21, t55_22, t55_23, t55_24, t55_25, t55_26, t55_27, t55_28, t55_29, rfl, HS⟩
   have Z3 := zB HS
   clear HS Z2
   go_wp2_with fail
   go_roundw
   case rel => exact ⟨n + 1, ⟨_, s9⟩, ⟨_, s10⟩, ⟨_, s11⟩, ⟨_, s12⟩, its', by go_num, by omega, rfl, rfl, rfl, rfl, ⟨(zA HNS).1, (zA HNS).2.2.1, zA HKI⟩, (zA Z3).sk, PV2, PS2⟩
   case measure => simp [intOf]; omega
  ·obtain rfl : n = Cs.length := by omega
   obtain ⟨k0, k1⟩ := cl2 (zA HB _ (zA SK).keeps).b1
   obtain ⟨k2, k3⟩ := cl2 (zA HB _ (zA SK).keeps).b2
   have Q9 := zB (eqRow_same wr hh (.slice ro V.length rc) (.slice uo V.length uc) V (zA HB _ (zA SK).keeps).copy (zA HB _ (zA SK).keeps).row (by omega))
   clear hlen
   go_wp2_with fail
   refine (zA Q9).mono ?_
   rintro e wf ⟨rfl, hk⟩
   go_wp2_with fail
   go_ret
   exact ⟨rfl, (((zA KW0).trans (zA J2)).trans (zA SK).keeps).trans hk⟩
end Go.Proofs.YtbdlcaamanhapaaGreatDoor
