import Derived.Test.YtoempeobaknkcaaGreatDoorVs
import Derived.Test.YtoempeobaknkcaaGreatDoorJyan
import Derived.Test.YtoempeobaknkcaaGreatDoorJyao
namespace Go.Proofs.YtoempeobaknkcaaGreatDoor
open Go.RowKit Go.Maps

theorem row_slS' {A : Nat → Prop} {w : World} {B m : Nat} {v : Value} {l : SL} {xs : List Value} (h : w.ownsRow B 53 5 v m xs) (hm : l.len = m) (hc : SsIn (inZ A) w l xs) (up : Nat) : SlS (inZ (fun _ => True)) w up v l := by
  subst hm
  exact row_slS h hc up

set_option maxRecDepth 100000 in
set_option maxHeartbeats 8000000 in
theorem stale_v (Z : Zone) (S : List FieldA) (l : SL) (hsz : l.size ≤ 2147483647) (sv pv : Value) (w : World) (up : Nat) (hT : Types w) (hF : Forms w) (hf : FldsAt w sv S) (hp : SlS Z w up pv l) :
    Calls Tryz.prog 6 #[.agg #[sv], pv] w fun e w' => e = .returned (.bool true) ∧ Keeps (fun _ => False) w w' := by
  obtain ⟨so, sc, rfl⟩ := RowAt.form hf
  obtain ⟨po, pc, rfl, _⟩ := hp.head
  obtain ⟨HKB, hxb, hxc⟩ := boxedT w #[.slice so S.length sc] 24
  have HBX := hide (heap_alloc_new w (.cells #[.slice so S.length sc] 24))
  have HC1 := hide (copyStmtsR_v Z l (by omega) _ up _ (hp.keepF HKB))
  have HT := hide hT
  have HF := hide hF
  have HFL := hide hf
  have hs0 : (w.alloc (.cells #[.slice so S.length sc] 24)).heap.size = w.heap.size + 1 := by simp
  have HS0 := hide hs0
  clear hxb hxc hT hF hf hp hs0
  go_enter Tryz.func6, Tryz.ntmps6
  go_upto_region 2 with (go_at_call 20; refine (unhide HC1).mono ?_; rintro e w1 ⟨qv, xs0, A, rfl, ho1, hc1, ha1, hk1⟩; obtain ⟨qo, qc, rfl⟩ := (rowAt_own ho1).form; rw [unhide HS0] at ho1 ha1; have HO1 := hide ho1; have HCS1 := hide hc1; have HA1 := hide ha1; have HKW1 := hide ((unhide HKB).trans hk1); have HSB1 := hide ((hk1.block _ (lt_of_block (unhide HBX)) id).trans (unhide HBX)); clear ho1 hc1 ha1 hk1)
  have HAN := hide (fun (q : Nat) (hq : A q) => (unhide HA1 q hq).2.2)
  clear HC1 HBX HA1
  go_wp2_with fail
  go_loopw [6] (fun tv wr => ∃ (t : Nat) (L : SL) (xs : List Value), tv = .int .i64 (t : Int) ∧ t ≤ 3 ∧ L.len = l.len ∧ (t ≤ 1 → L.size ≤ l.size) ∧ L.size ≤ 2 * l.size ∧ Hid (wr.ownsRow (w.heap.size + 1) 53 5 (.slice qo l.len qc) l.len xs) ∧ Hid (SsIn (inZ A) wr L xs) ∧ Hid (Keeps (fun _ => False) w wr) ∧ Hid (wr.heap[w.heap.size]? = some (.cells #[.slice so S.length sc] 24 (0, 0)))) (fun i _ => 3 - (intOf i).toNat)
  case atStart => exact ⟨0, l, xs0, rfl, by omega, rfl, fun _ => Nat.le_refl _, by omega, HO1, HCS1, HKW1, HSB1⟩
  case round =>
    clear HO1 HCS1 HKW1 HSB1
    obtain ⟨t, L0, xs0', rfl, ht, hLl0, hL1, hL2, HO0, HSS0, HKW0, HSB0⟩ := hrel
    have HLL0 := hide hLl0
    have hlb : l.len ≤ 2147483647 := by have := SL.len_le l; omega
    clear hLl0
    by_cases hlt : t < 3
    · have i1 : (t : Int) < 3 := by omega
      rcases (show t = 0 ∨ t = 1 ∨ t = 2 by omega) with rfl | rfl | rfl
      · go_upto_region 10 with fail
        obtain ⟨wx, hwx⟩ : ∃ W, W = wr := ⟨_, rfl⟩
        obtain ⟨L, xs, hLx⟩ : ∃ L xs, L = L0 ∧ xs = xs0' := ⟨_, _, rfl, rfl⟩
        obtain ⟨rfl, rfl⟩ := hLx
        subst hwx
        have hLl := unhide HLL0
        have hLs : L.size ≤ 4294967294 := by omega
        have HO := HO0
        have HSS := HSS0
        have HKW := HKW0
        have HSB := HSB0
        clear HO0 HSS0 HKW0 HSB0
        obtain ⟨⟨E, at'⟩, hpv⟩ : ∃ p, p = checkP S L := ⟨_, rfl⟩
        obtain ⟨⟨R, Wl, E2⟩, hfp⟩ : ∃ p, p = fieldsP S L := ⟨_, rfl⟩
        have hR8 : R.length ≤ 8 ∧ Wl.length ≤ 8 := by have := fieldsP_le S L; rwa [← hfp] at this
        have HCK := hide (fun (Y : Zone) (W : World) (hk : Keeps (fun _ => False) wx W) (V : Value) (hV : SlS Y W 0 V L) => tcheck_v Y S L hLs (.slice so S.length sc) V W 0 ((unhide HT).keepF ((unhide HKW).trans hk)) ((unhide HF).keepF ((unhide HKW).trans hk)) ((unhide HFL).keepF ((unhide HKW).trans hk)) hV)
        have HFD := hide (fun (Y : Zone) (W : World) (hk : Keeps (fun _ => False) wx W) (V : Value) (hV : SlS Y W 0 V L) => (tfields2_v Y S L hLs (.slice so S.length sc) V W 0 ((unhide HT).keepF ((unhide HKW).trans hk)) ((unhide HF).keepF ((unhide HKW).trans hk)) ((unhide HFL).keepF ((unhide HKW).trans hk)) hV).mono (fun e w' (h : FdP (fieldsP S L).1 (fieldsP S L).2.1 (fieldsP S L).2.2 W e w') => h))
        rw [← hpv] at HCK
        rw [← hfp] at HFD
        have HLL := hide hLl
        clear hLl
        have HSQ := hide (row_slS' (unhide HO) (unhide HLL) (unhide HSS) 0)
        have HCP := hide (fun (W : World) (hk : Keeps (fun _ => False) wx W) => copyStmts_v _ (L.size + 1) L (by omega) hLs W 0 _ ((unhide HSQ).keepF hk))
        have HSC := hide (fun (W : World) (hk : Keeps (fun _ => False) wx W) => (hk.cell (lt_of_block (unhide HSB)) id).trans ((cell_of_blk (unhide HSB) 0).trans (show _ = some (Value.slice so S.length sc) from rfl)))
        have s0 := unhide HSC wx (Keeps.refl _ _)
        have hRl : R.length ≤ 1000 := by omega
        have hWl : Wl.length ≤ 1000 := by omega
        clear hpv hfp hR8
        go_upto_region 11 with (go_at_call 14; refine (unhide HCK _ wx (Keeps.refl _ _) _ (unhide HSQ)).mono ?_; rintro e w1 ⟨rfl, hk1⟩; have HK1 := hide hk1; have s1 := unhide HSC _ hk1; clear hk1)
        go_upto_region 12 with (go_at_call 15; refine (unhide HFD _ w1 (unhide HK1) _ ((unhide HSQ).keepF (unhide HK1))).mono ?_; rintro e w2 ⟨rv, wv, rfl, hr2, hw2, _, hk2⟩; have HR2 := hide hr2; have HW2 := hide hw2; have HK2 := hide ((unhide HK1).trans hk2); clear hr2 hw2 hk2)
        go_upto_region 13 with (go_at_call 20; refine (unhide HCP w2 (unhide HK2)).mono ?_; rintro e w3 ⟨nv, rfl, hs3, hk3⟩; obtain ⟨no, nc, rfl, _⟩ := hs3.head; rw [unhide HLL] at hs3 ⊢; have HS3 := hide hs3; have HK3 := hide ((unhide HK2).trans hk3); have HK23 := hide hk3; have s3 := unhide HSC _ ((unhide HK2).trans hk3); clear hs3 hk3)
        go_upto_region 14 with (go_at_call 14; refine (unhide HCK _ w3 (unhide HK3) _ (unhide HS3)).mono ?_; rintro e w4 ⟨rfl, hk4⟩; have HK4 := hide ((unhide HK3).trans hk4); have HK34 := hide hk4; have s4 := unhide HSC _ ((unhide HK3).trans hk4); clear hk4)
        go_upto_region 15 with (go_at_call 15; refine (unhide HFD _ w4 (unhide HK4) _ ((unhide HS3).keepF (unhide HK34))).mono ?_; rintro e w5 ⟨xv, yv, rfl, hx5, hy5, _, hk5⟩; have HX5 := hide (rowAt_own hx5); have HY5 := hide (rowAt_own hy5); have HK5 := hide ((unhide HK4).trans hk5); have hk25 := (unhide HK23).trans ((unhide HK34).trans hk5); have HR5 := hide (RowAt.keepF (rowAt_own (unhide HR2)) hk25); have HW5 := hide (RowAt.keepF (rowAt_own (unhide HW2)) hk25); clear hx5 hy5 hk5 hk25)
        go_upto_region 16 with (go_at_call 9; refine (eqNames_v R R hRl hRl _ _ w5 (unhide HR5) (unhide HX5)).mono ?_; rintro e w6 ⟨rfl, hk6⟩; rw [decide_eq_true rfl]; have HK6 := hide ((unhide HK5).trans hk6); have HW6 := hide (RowAt.keepF (unhide HW5) hk6); have HY6 := hide (RowAt.keepF (unhide HY5) hk6); clear hk6)
        go_upto_region 17 with (go_at_call 9; refine (eqNames_v Wl Wl hWl hWl _ _ w6 (unhide HW6) (unhide HY6)).mono ?_; rintro e w7 ⟨rfl, hk7⟩; rw [decide_eq_true rfl]; have HK7 := hide ((unhide HK6).trans hk7); clear hk7)
        have HOn := hide (ownsRow_kept (unhide HO) (unhide HK7) (fun _ _ => id))
        have HSn := hide ((unhide HSS).inKeep (unhide HK7) (fun _ _ _ => id))
        have HKn := hide ((unhide HKW).trans (unhide HK7))
        have HBn := hide (((unhide HK7).block _ (lt_of_block (unhide HSB)) id).trans (unhide HSB))
        clear HCK HFD HSQ HCP HSC s0 s1 s3 s4 HK1 HK2 HK3 HK23 HK4 HK34 HK5 HK6 HK7 HR2 HW2 HS3 HX5 HY5 HR5 HW5 HW6 HY6 HO HSS HKW HSB hRl hWl
        go_wp2_with fail
        go_roundw
        case rel => exact ⟨0 + 1, L, xs, by go_num, by omega, unhide HLL, by omega, by omega, HOn, HSn, HKn, HBn⟩
        case measure => simp [intOf]
      · by_cases hn0 : 0 < l.len
        · obtain ⟨g, rfl, hgc⟩ := own_some (unhide HO0) hn0
          have hxl := (unhide HO0).1
          have ex : ∀ m, m < l.len * 5 → ∃ d, wr.cell? ⟨g, m, none⟩ = some d := fun m hm => ⟨_, ((unhide HO0).cellAt m (by omega)).trans (List.getElem?_eq_getElem (by omega))⟩
          obtain ⟨op, s, xo, xn, xc, to_, tn, tc, eo, en, ec, L, hcl, hLl', hLs2, hput⟩ := put_last (unhide HLL0) hn0 (unhide HO0) (unhide HSS0)
          have HLL' := hide hLl'
          clear hLl'
          have hce : ∀ k x, [Value.int .i64 op, str s, .slice xo xn xc, .slice to_ tn tc, .slice eo en ec][k]? = some x → wr.cell? ⟨g, (l.len - 1) * 5 + k, none⟩ = some x := fun k x hx => ((unhide HO0).cellAt _ (by have := (List.getElem?_eq_some_iff.1 hx).1; simp at this; omega)).trans (hcl k x hx)
          have z0 := hce 0 (.int .i64 op) rfl
          rw [Nat.add_zero] at z0
          have z1 := hce 1 (str s) rfl
          have z2 := hce 2 (.slice xo xn xc) rfl
          have z3 := hce 3 (.slice to_ tn tc) rfl
          have z4 := hce 4 (.slice eo en ec) rfl
          have i2 : (0 : Int) < (l.len : Int) := by omega
          obtain ⟨d0, y0⟩ := ex 0 (by omega)
          have f0 := (unhide HO0).frozenAt 0
          obtain ⟨d1, y1⟩ := ex 1 (by omega)
          have f1 := (unhide HO0).frozenAt 1
          obtain ⟨d2, y2⟩ := ex 2 (by omega)
          have f2 := (unhide HO0).frozenAt 2
          obtain ⟨d3, y3⟩ := ex 3 (by omega)
          have f3 := (unhide HO0).frozenAt 3
          obtain ⟨d4, y4⟩ := ex 4 (by omega)
          have f4 := (unhide HO0).frozenAt 4
          clear hxl ex hce hcl
          go_upto_region 10 with fail
          obtain ⟨wx, hwx⟩ : ∃ W, W = ((((wr.setCell ⟨g, 0, none⟩ (.int .i64 op)).setCell ⟨g, 1, none⟩ (.string ⟨s.toArray⟩)).setCell ⟨g, 2, none⟩ (.slice xo xn xc)).setCell ⟨g, 3, none⟩ (.slice to_ tn tc)).setCell ⟨g, 4, none⟩ (.slice eo en ec) := ⟨_, rfl⟩
          rw [← hwx]
          have hkx : Keeps (fun q => q = g) wr wx := by rw [hwx]; exact ((((Keeps.refl (fun q => q = g) wr).setCell (p := ⟨g, 0, none⟩) (fun _ => rfl) _).setCell (p := ⟨g, 1, none⟩) (fun _ => rfl) _).setCell (p := ⟨g, 2, none⟩) (fun _ => rfl) _).setCell (p := ⟨g, 3, none⟩) (fun _ => rfl) _ |>.setCell (p := ⟨g, 4, none⟩) (fun _ => rfl) _
          obtain ⟨ys, hss, a0, b0, e0, f0', g0, hxs⟩ := hput wx hkx (fun q hq e => unhide HAN q hq (by rw [e]; rfl))
          subst hxs
          have HO : Hid (wx.ownsRow (w.heap.size + 1) 53 5 (.slice (some ⟨g, 0, none⟩) l.len qc) l.len (.int .i64 op :: str s :: .slice xo xn xc :: .slice to_ tn tc :: .slice eo en ec :: ys)) := by rw [hwx]; exact row_put0 (unhide HO0)
          obtain ⟨xs, hxe⟩ : ∃ xs, xs = Value.int .i64 op :: str s :: .slice xo xn xc :: .slice to_ tn tc :: .slice eo en ec :: ys := ⟨_, rfl⟩
          rw [← hxe] at HO hss
          have HSS := hide hss
          have hgl : w.heap.size + 1 ≤ g := (World.ownsRow.lt (unhide HO0) g rfl).1
          have HKW := hide (narrowO (unhide HKW0) hkx (fun q e => by omega))
          have HSB := hide ((hkx.block _ (lt_of_block (unhide HSB0)) (by omega)).trans (unhide HSB0))
          have hLl := unhide HLL'
          have hLs : L.size ≤ 4294967294 := by omega
          clear HO0 HSS0 HKW0 HSB0 hss hkx hwx hput y0 y1 y2 y3 y4 f0 f1 f2 f3 f4 z0 z1 z2 z3 z4 hxe HLL' HLL0
          obtain ⟨⟨E, at'⟩, hpv⟩ : ∃ p, p = checkP S L := ⟨_, rfl⟩
          obtain ⟨⟨R, Wl, E2⟩, hfp⟩ : ∃ p, p = fieldsP S L := ⟨_, rfl⟩
          have hR8 : R.length ≤ 8 ∧ Wl.length ≤ 8 := by have := fieldsP_le S L; rwa [← hfp] at this
          have HCK := hide (fun (Y : Zone) (W : World) (hk : Keeps (fun _ => False) wx W) (V : Value) (hV : SlS Y W 0 V L) => tcheck_v Y S L hLs (.slice so S.length sc) V W 0 ((unhide HT).keepF ((unhide HKW).trans hk)) ((unhide HF).keepF ((unhide HKW).trans hk)) ((unhide HFL).keepF ((unhide HKW).trans hk)) hV)
          have HFD := hide (fun (Y : Zone) (W : World) (hk : Keeps (fun _ => False) wx W) (V : Value) (hV : SlS Y W 0 V L) => (tfields2_v Y S L hLs (.slice so S.length sc) V W 0 ((unhide HT).keepF ((unhide HKW).trans hk)) ((unhide HF).keepF ((unhide HKW).trans hk)) ((unhide HFL).keepF ((unhide HKW).trans hk)) hV).mono (fun e w' (h : FdP (fieldsP S L).1 (fieldsP S L).2.1 (fieldsP S L).2.2 W e w') => h))
          rw [← hpv] at HCK
          rw [← hfp] at HFD
          have HLL := hide hLl
          clear hLl
          have HSQ := hide (row_slS' (unhide HO) (unhide HLL) (unhide HSS) 0)
          have HCP := hide (fun (W : World) (hk : Keeps (fun _ => False) wx W) => copyStmts_v _ (L.size + 1) L (by omega) hLs W 0 _ ((unhide HSQ).keepF hk))
          have HSC := hide (fun (W : World) (hk : Keeps (fun _ => False) wx W) => (hk.cell (lt_of_block (unhide HSB)) id).trans ((cell_of_blk (unhide HSB) 0).trans (show _ = some (Value.slice so S.length sc) from rfl)))
          have s0 := unhide HSC wx (Keeps.refl _ _)
          have hRl : R.length ≤ 1000 := by omega
          have hWl : Wl.length ≤ 1000 := by omega
          clear hpv hfp hR8
          go_upto_region 11 with (go_at_call 14; refine (unhide HCK _ wx (Keeps.refl _ _) _ (unhide HSQ)).mono ?_; rintro e w1 ⟨rfl, hk1⟩; have HK1 := hide hk1; have s1 := unhide HSC _ hk1; clear hk1)
          go_upto_region 12 with (go_at_call 15; refine (unhide HFD _ w1 (unhide HK1) _ ((unhide HSQ).keepF (unhide HK1))).mono ?_; rintro e w2 ⟨rv, wv, rfl, hr2, hw2, _, hk2⟩; have HR2 := hide hr2; have HW2 := hide hw2; have HK2 := hide ((unhide HK1).trans hk2); clear hr2 hw2 hk2)
          go_upto_region 13 with (go_at_call 20; refine (unhide HCP w2 (unhide HK2)).mono ?_; rintro e w3 ⟨nv, rfl, hs3, hk3⟩; obtain ⟨no, nc, rfl, _⟩ := hs3.head; rw [unhide HLL] at hs3 ⊢; have HS3 := hide hs3; have HK3 := hide ((unhide HK2).trans hk3); have HK23 := hide hk3; have s3 := unhide HSC _ ((unhide HK2).trans hk3); clear hs3 hk3)
          go_upto_region 14 with (go_at_call 14; refine (unhide HCK _ w3 (unhide HK3) _ (unhide HS3)).mono ?_; rintro e w4 ⟨rfl, hk4⟩; have HK4 := hide ((unhide HK3).trans hk4); have HK34 := hide hk4; have s4 := unhide HSC _ ((unhide HK3).trans hk4); clear hk4)
          go_upto_region 15 with (go_at_call 15; refine (unhide HFD _ w4 (unhide HK4) _ ((unhide HS3).keepF (unhide HK34))).mono ?_; rintro e w5 ⟨xv, yv, rfl, hx5, hy5, _, hk5⟩; have HX5 := hide (rowAt_own hx5); have HY5 := hide (rowAt_own hy5); have HK5 := hide ((unhide HK4).trans hk5); have hk25 := (unhide HK23).trans ((unhide HK34).trans hk5); have HR5 := hide (RowAt.keepF (rowAt_own (unhide HR2)) hk25); have HW5 := hide (RowAt.keepF (rowAt_own (unhide HW2)) hk25); clear hx5 hy5 hk5 hk25)
          go_upto_region 16 with (go_at_call 9; refine (eqNames_v R R hRl hRl _ _ w5 (unhide HR5) (unhide HX5)).mono ?_; rintro e w6 ⟨rfl, hk6⟩; rw [decide_eq_true rfl]; have HK6 := hide ((unhide HK5).trans hk6); have HW6 := hide (RowAt.keepF (unhide HW5) hk6); have HY6 := hide (RowAt.keepF (unhide HY5) hk6); clear hk6)
          go_upto_region 17 with (go_at_call 9; refine (eqNames_v Wl Wl hWl hWl _ _ w6 (unhide HW6) (unhide HY6)).mono ?_; rintro e w7 ⟨rfl, hk7⟩; rw [decide_eq_true rfl]; have HK7 := hide ((unhide HK6).trans hk7); clear hk7)
          have HOn := hide (ownsRow_kept (unhide HO) (unhide HK7) (fun _ _ => id))
          have HSn := hide ((unhide HSS).inKeep (unhide HK7) (fun _ _ _ => id))
          have HKn := hide ((unhide HKW).trans (unhide HK7))
          have HBn := hide (((unhide HK7).block _ (lt_of_block (unhide HSB)) id).trans (unhide HSB))
          clear HCK HFD HSQ HCP HSC s0 s1 s3 s4 HK1 HK2 HK3 HK23 HK4 HK34 HK5 HK6 HK7 HR2 HW2 HS3 HX5 HY5 HR5 HW5 HW6 HY6 HO HSS HKW HSB hRl hWl
          go_wp2_with fail
          go_roundw
          case rel => exact ⟨1 + 1, L, xs, by go_num, by omega, unhide HLL, by omega, by omega, HOn, HSn, HKn, HBn⟩
          case measure => simp [intOf]
        · have i2 : ¬ (0 : Int) < (l.len : Int) := by omega
          go_upto_region 10 with fail
          obtain ⟨wx, hwx⟩ : ∃ W, W = wr := ⟨_, rfl⟩
          obtain ⟨L, xs, hLx⟩ : ∃ L xs, L = L0 ∧ xs = xs0' := ⟨_, _, rfl, rfl⟩
          obtain ⟨rfl, rfl⟩ := hLx
          subst hwx
          have hLl := unhide HLL0
          have hLs : L.size ≤ 4294967294 := by omega
          have HO := HO0
          have HSS := HSS0
          have HKW := HKW0
          have HSB := HSB0
          clear HO0 HSS0 HKW0 HSB0
          obtain ⟨⟨E, at'⟩, hpv⟩ : ∃ p, p = checkP S L := ⟨_, rfl⟩
          obtain ⟨⟨R, Wl, E2⟩, hfp⟩ : ∃ p, p = fieldsP S L := ⟨_, rfl⟩
          have hR8 : R.length ≤ 8 ∧ Wl.length ≤ 8 := by have := fieldsP_le S L; rwa [← hfp] at this
          have HCK := hide (fun (Y : Zone) (W : World) (hk : Keeps (fun _ => False) wx W) (V : Value) (hV : SlS Y W 0 V L) => tcheck_v Y S L hLs (.slice so S.length sc) V W 0 ((unhide HT).keepF ((unhide HKW).trans hk)) ((unhide HF).keepF ((unhide HKW).trans hk)) ((unhide HFL).keepF ((unhide HKW).trans hk)) hV)
          have HFD := hide (fun (Y : Zone) (W : World) (hk : Keeps (fun _ => False) wx W) (V : Value) (hV : SlS Y W 0 V L) => (tfields2_v Y S L hLs (.slice so S.length sc) V W 0 ((unhide HT).keepF ((unhide HKW).trans hk)) ((unhide HF).keepF ((unhide HKW).trans hk)) ((unhide HFL).keepF ((unhide HKW).trans hk)) hV).mono (fun e w' (h : FdP (fieldsP S L).1 (fieldsP S L).2.1 (fieldsP S L).2.2 W e w') => h))
          rw [← hpv] at HCK
          rw [← hfp] at HFD
          have HLL := hide hLl
          clear hLl
          have HSQ := hide (row_slS' (unhide HO) (unhide HLL) (unhide HSS) 0)
          have HCP := hide (fun (W : World) (hk : Keeps (fun _ => False) wx W) => copyStmts_v _ (L.size + 1) L (by omega) hLs W 0 _ ((unhide HSQ).keepF hk))
          have HSC := hide (fun (W : World) (hk : Keeps (fun _ => False) wx W) => (hk.cell (lt_of_block (unhide HSB)) id).trans ((cell_of_blk (unhide HSB) 0).trans (show _ = some (Value.slice so S.length sc) from rfl)))
          have s0 := unhide HSC wx (Keeps.refl _ _)
          have hRl : R.length ≤ 1000 := by omega
          have hWl : Wl.length ≤ 1000 := by omega
          clear hpv hfp hR8
          go_upto_region 11 with (go_at_call 14; refine (unhide HCK _ wx (Keeps.refl _ _) _ (unhide HSQ)).mono ?_; rintro e w1 ⟨rfl, hk1⟩; have HK1 := hide hk1; have s1 := unhide HSC _ hk1; clear hk1)
          go_upto_region 12 with (go_at_call 15; refine (unhide HFD _ w1 (unhide HK1) _ ((unhide HSQ).keepF (unhide HK1))).mono ?_; rintro e w2 ⟨rv, wv, rfl, hr2, hw2, _, hk2⟩; have HR2 := hide hr2; have HW2 := hide hw2; have HK2 := hide ((unhide HK1).trans hk2); clear hr2 hw2 hk2)
          go_upto_region 13 with (go_at_call 20; refine (unhide HCP w2 (unhide HK2)).mono ?_; rintro e w3 ⟨nv, rfl, hs3, hk3⟩; obtain ⟨no, nc, rfl, _⟩ := hs3.head; rw [unhide HLL] at hs3 ⊢; have HS3 := hide hs3; have HK3 := hide ((unhide HK2).trans hk3); have HK23 := hide hk3; have s3 := unhide HSC _ ((unhide HK2).trans hk3); clear hs3 hk3)
          go_upto_region 14 with (go_at_call 14; refine (unhide HCK _ w3 (unhide HK3) _ (unhide HS3)).mono ?_; rintro e w4 ⟨rfl, hk4⟩; have HK4 := hide ((unhide HK3).trans hk4); have HK34 := hide hk4; have s4 := unhide HSC _ ((unhide HK3).trans hk4); clear hk4)
          go_upto_region 15 with (go_at_call 15; refine (unhide HFD _ w4 (unhide HK4) _ ((unhide HS3).keepF (unhide HK34))).mono ?_; rintro e w5 ⟨xv, yv, rfl, hx5, hy5, _, hk5⟩; have HX5 := hide (rowAt_own hx5); have HY5 := hide (rowAt_own hy5); have HK5 := hide ((unhide HK4).trans hk5); have hk25 := (unhide HK23).trans ((unhide HK34).trans hk5); have HR5 := hide (RowAt.keepF (rowAt_own (unhide HR2)) hk25); have HW5 := hide (RowAt.keepF (rowAt_own (unhide HW2)) hk25); clear hx5 hy5 hk5 hk25)
          go_upto_region 16 with (go_at_call 9; refine (eqNames_v R R hRl hRl _ _ w5 (unhide HR5) (unhide HX5)).mono ?_; rintro e w6 ⟨rfl, hk6⟩; rw [decide_eq_true rfl]; have HK6 := hide ((unhide HK5).trans hk6); have HW6 := hide (RowAt.keepF (unhide HW5) hk6); have HY6 := hide (RowAt.keepF (unhide HY5) hk6); clear hk6)
          go_upto_region 17 with (go_at_call 9; refine (eqNames_v Wl Wl hWl hWl _ _ w6 (unhide HW6) (unhide HY6)).mono ?_; rintro e w7 ⟨rfl, hk7⟩; rw [decide_eq_true rfl]; have HK7 := hide ((unhide HK6).trans hk7); clear hk7)
          have HOn := hide (ownsRow_kept (unhide HO) (unhide HK7) (fun _ _ => id))
          have HSn := hide ((unhide HSS).inKeep (unhide HK7) (fun _ _ _ => id))
          have HKn := hide ((unhide HKW).trans (unhide HK7))
          have HBn := hide (((unhide HK7).block _ (lt_of_block (unhide HSB)) id).trans (unhide HSB))
          clear HCK HFD HSQ HCP HSC s0 s1 s3 s4 HK1 HK2 HK3 HK23 HK4 HK34 HK5 HK6 HK7 HR2 HW2 HS3 HX5 HY5 HR5 HW5 HW6 HY6 HO HSS HKW HSB hRl hWl
          go_wp2_with fail
          go_roundw
          case rel => exact ⟨1 + 1, L, xs, by go_num, by omega, unhide HLL, by omega, by omega, HOn, HSn, HKn, HBn⟩
          case measure => simp [intOf]
      · by_cases hn0 : 0 < l.len
        · obtain ⟨g, rfl, hgc⟩ := own_some (unhide HO0) hn0
          have hxl := (unhide HO0).1
          have ex : ∀ m, m < l.len * 5 → ∃ d, wr.cell? ⟨g, m, none⟩ = some d := fun m hm => ⟨_, ((unhide HO0).cellAt m (by omega)).trans (List.getElem?_eq_getElem (by omega))⟩
          obtain ⟨L, hLl', hLs2, a0, b0, e0, f0', g0, ys, hxs, hput⟩ := put_none (unhide HLL0) hn0 (unhide HSS0)
          have HLL' := hide hLl'
          clear hLl'
          have i2 : (0 : Int) < (l.len : Int) := by omega
          obtain ⟨d0, y0⟩ := ex 0 (by omega)
          have f0 := (unhide HO0).frozenAt 0
          obtain ⟨d1, y1⟩ := ex 1 (by omega)
          have f1 := (unhide HO0).frozenAt 1
          obtain ⟨d2, y2⟩ := ex 2 (by omega)
          have f2 := (unhide HO0).frozenAt 2
          obtain ⟨d3, y3⟩ := ex 3 (by omega)
          have f3 := (unhide HO0).frozenAt 3
          obtain ⟨d4, y4⟩ := ex 4 (by omega)
          have f4 := (unhide HO0).frozenAt 4
          clear hxl ex
          go_upto_region 10 with fail
          obtain ⟨wx, hwx⟩ : ∃ W, W = ((((wr.setCell ⟨g, 0, none⟩ (.int .i64 99)).setCell ⟨g, 1, none⟩ (.string ⟨#[]⟩)).setCell ⟨g, 2, none⟩ (.slice none 0 0)).setCell ⟨g, 3, none⟩ (.slice none 0 0)).setCell ⟨g, 4, none⟩ (.slice none 0 0) := ⟨_, rfl⟩
          rw [← hwx]
          have hkx : Keeps (fun q => q = g) wr wx := by rw [hwx]; exact ((((Keeps.refl (fun q => q = g) wr).setCell (p := ⟨g, 0, none⟩) (fun _ => rfl) _).setCell (p := ⟨g, 1, none⟩) (fun _ => rfl) _).setCell (p := ⟨g, 2, none⟩) (fun _ => rfl) _).setCell (p := ⟨g, 3, none⟩) (fun _ => rfl) _ |>.setCell (p := ⟨g, 4, none⟩) (fun _ => rfl) _
          have hss := hput wx g hkx (fun q hq e => unhide HAN q hq (by rw [e]; rfl))
          subst hxs
          have HO : Hid (wx.ownsRow (w.heap.size + 1) 53 5 (.slice (some ⟨g, 0, none⟩) l.len qc) l.len (.int .i64 99 :: str [] :: .slice none 0 0 :: .slice none 0 0 :: .slice none 0 0 :: ys)) := by rw [hwx]; exact row_put0 (unhide HO0)
          obtain ⟨xs, hxe⟩ : ∃ xs, xs = Value.int .i64 99 :: str [] :: .slice none 0 0 :: .slice none 0 0 :: .slice none 0 0 :: ys := ⟨_, rfl⟩
          rw [← hxe] at HO hss
          have HSS := hide hss
          have hgl : w.heap.size + 1 ≤ g := (World.ownsRow.lt (unhide HO0) g rfl).1
          have HKW := hide (narrowO (unhide HKW0) hkx (fun q e => by omega))
          have HSB := hide ((hkx.block _ (lt_of_block (unhide HSB0)) (by omega)).trans (unhide HSB0))
          have hLl := unhide HLL'
          have hLs : L.size ≤ 4294967294 := by omega
          clear HO0 HSS0 HKW0 HSB0 hss hkx hwx hput y0 y1 y2 y3 y4 f0 f1 f2 f3 f4 hxe HLL' HLL0
          obtain ⟨⟨E, at'⟩, hpv⟩ : ∃ p, p = checkP S L := ⟨_, rfl⟩
          obtain ⟨⟨R, Wl, E2⟩, hfp⟩ : ∃ p, p = fieldsP S L := ⟨_, rfl⟩
          have hR8 : R.length ≤ 8 ∧ Wl.length ≤ 8 := by have := fieldsP_le S L; rwa [← hfp] at this
          have HCK := hide (fun (Y : Zone) (W : World) (hk : Keeps (fun _ => False) wx W) (V : Value) (hV : SlS Y W 0 V L) => tcheck_v Y S L hLs (.slice so S.length sc) V W 0 ((unhide HT).keepF ((unhide HKW).trans hk)) ((unhide HF).keepF ((unhide HKW).trans hk)) ((unhide HFL).keepF ((unhide HKW).trans hk)) hV)
          have HFD := hide (fun (Y : Zone) (W : World) (hk : Keeps (fun _ => False) wx W) (V : Value) (hV : SlS Y W 0 V L) => (tfields2_v Y S L hLs (.slice so S.length sc) V W 0 ((unhide HT).keepF ((unhide HKW).trans hk)) ((unhide HF).keepF ((unhide HKW).trans hk)) ((unhide HFL).keepF ((unhide HKW).trans hk)) hV).mono (fun e w' (h : FdP (fieldsP S L).1 (fieldsP S L).2.1 (fieldsP S L).2.2 W e w') => h))
          rw [← hpv] at HCK
          rw [← hfp] at HFD
          have HLL := hide hLl
          clear hLl
          have HSQ := hide (row_slS' (unhide HO) (unhide HLL) (unhide HSS) 0)
          have HCP := hide (fun (W : World) (hk : Keeps (fun _ => False) wx W) => copyStmts_v _ (L.size + 1) L (by omega) hLs W 0 _ ((unhide HSQ).keepF hk))
          have HSC := hide (fun (W : World) (hk : Keeps (fun _ => False) wx W) => (hk.cell (lt_of_block (unhide HSB)) id).trans ((cell_of_blk (unhide HSB) 0).trans (show _ = some (Value.slice so S.length sc) from rfl)))
          have s0 := unhide HSC wx (Keeps.refl _ _)
          have hRl : R.length ≤ 1000 := by omega
          have hWl : Wl.length ≤ 1000 := by omega
          clear hpv hfp hR8
          go_upto_region 11 with (go_at_call 14; refine (unhide HCK _ wx (Keeps.refl _ _) _ (unhide HSQ)).mono ?_; rintro e w1 ⟨rfl, hk1⟩; have HK1 := hide hk1; have s1 := unhide HSC _ hk1; clear hk1)
          go_upto_region 12 with (go_at_call 15; refine (unhide HFD _ w1 (unhide HK1) _ ((unhide HSQ).keepF (unhide HK1))).mono ?_; rintro e w2 ⟨rv, wv, rfl, hr2, hw2, _, hk2⟩; have HR2 := hide hr2; have HW2 := hide hw2; have HK2 := hide ((unhide HK1).trans hk2); clear hr2 hw2 hk2)
          go_upto_region 13 with (go_at_call 20; refine (unhide HCP w2 (unhide HK2)).mono ?_; rintro e w3 ⟨nv, rfl, hs3, hk3⟩; obtain ⟨no, nc, rfl, _⟩ := hs3.head; rw [unhide HLL] at hs3 ⊢; have HS3 := hide hs3; have HK3 := hide ((unhide HK2).trans hk3); have HK23 := hide hk3; have s3 := unhide HSC _ ((unhide HK2).trans hk3); clear hs3 hk3)
          go_upto_region 14 with (go_at_call 14; refine (unhide HCK _ w3 (unhide HK3) _ (unhide HS3)).mono ?_; rintro e w4 ⟨rfl, hk4⟩; have HK4 := hide ((unhide HK3).trans hk4); have HK34 := hide hk4; have s4 := unhide HSC _ ((unhide HK3).trans hk4); clear hk4)
          go_upto_region 15 with (go_at_call 15; refine (unhide HFD _ w4 (unhide HK4) _ ((unhide HS3).keepF (unhide HK34))).mono ?_; rintro e w5 ⟨xv, yv, rfl, hx5, hy5, _, hk5⟩; have HX5 := hide (rowAt_own hx5); have HY5 := hide (rowAt_own hy5); have HK5 := hide ((unhide HK4).trans hk5); have hk25 := (unhide HK23).trans ((unhide HK34).trans hk5); have HR5 := hide (RowAt.keepF (rowAt_own (unhide HR2)) hk25); have HW5 := hide (RowAt.keepF (rowAt_own (unhide HW2)) hk25); clear hx5 hy5 hk5 hk25)
          go_upto_region 16 with (go_at_call 9; refine (eqNames_v R R hRl hRl _ _ w5 (unhide HR5) (unhide HX5)).mono ?_; rintro e w6 ⟨rfl, hk6⟩; rw [decide_eq_true rfl]; have HK6 := hide ((unhide HK5).trans hk6); have HW6 := hide (RowAt.keepF (unhide HW5) hk6); have HY6 := hide (RowAt.keepF (unhide HY5) hk6); clear hk6)
          go_upto_region 17 with (go_at_call 9; refine (eqNames_v Wl Wl hWl hWl _ _ w6 (unhide HW6) (unhide HY6)).mono ?_; rintro e w7 ⟨rfl, hk7⟩; rw [decide_eq_true rfl]; have HK7 := hide ((unhide HK6).trans hk7); clear hk7)
          have HOn := hide (ownsRow_kept (unhide HO) (unhide HK7) (fun _ _ => id))
          have HSn := hide ((unhide HSS).inKeep (unhide HK7) (fun _ _ _ => id))
          have HKn := hide ((unhide HKW).trans (unhide HK7))
          have HBn := hide (((unhide HK7).block _ (lt_of_block (unhide HSB)) id).trans (unhide HSB))
          clear HCK HFD HSQ HCP HSC s0 s1 s3 s4 HK1 HK2 HK3 HK23 HK4 HK34 HK5 HK6 HK7 HR2 HW2 HS3 HX5 HY5 HR5 HW5 HW6 HY6 HO HSS HKW HSB hRl hWl
          go_wp2_with fail
          go_roundw
          case rel => exact ⟨2 + 1, L, xs, by go_num, by omega, unhide HLL, by omega, by omega, HOn, HSn, HKn, HBn⟩
          case measure => simp [intOf]
        · have i2 : ¬ (0 : Int) < (l.len : Int) := by omega
          go_upto_region 10 with fail
          obtain ⟨wx, hwx⟩ : ∃ W, W = wr := ⟨_, rfl⟩
          obtain ⟨L, xs, hLx⟩ : ∃ L xs, L = L0 ∧ xs = xs0' := ⟨_, _, rfl, rfl⟩
          obtain ⟨rfl, rfl⟩ := hLx
          subst hwx
          have hLl := unhide HLL0
          have hLs : L.size ≤ 4294967294 := by omega
          have HO := HO0
          have HSS := HSS0
          have HKW := HKW0
          have HSB := HSB0
          clear HO0 HSS0 HKW0 HSB0
          obtain ⟨⟨E, at'⟩, hpv⟩ : ∃ p, p = checkP S L := ⟨_, rfl⟩
          obtain ⟨⟨R, Wl, E2⟩, hfp⟩ : ∃ p, p = fieldsP S L := ⟨_, rfl⟩
          have hR8 : R.length ≤ 8 ∧ Wl.length ≤ 8 := by have := fieldsP_le S L; rwa [← hfp] at this
          have HCK := hide (fun (Y : Zone) (W : World) (hk : Keeps (fun _ => False) wx W) (V : Value) (hV : SlS Y W 0 V L) => tcheck_v Y S L hLs (.slice so S.length sc) V W 0 ((unhide HT).keepF ((unhide HKW).trans hk)) ((unhide HF).keepF ((unhide HKW).trans hk)) ((unhide HFL).keepF ((unhide HKW).trans hk)) hV)
          have HFD := hide (fun (Y : Zone) (W : World) (hk : Keeps (fun _ => False) wx W) (V : Value) (hV : SlS Y W 0 V L) => (tfields2_v Y S L hLs (.slice so S.length sc) V W 0 ((unhide HT).keepF ((unhide HKW).trans hk)) ((unhide HF).keepF ((unhide HKW).trans hk)) ((unhide HFL).keepF ((unhide HKW).trans hk)) hV).mono (fun e w' (h : FdP (fieldsP S L).1 (fieldsP S L).2.1 (fieldsP S L).2.2 W e w') => h))
          rw [← hpv] at HCK
          rw [← hfp] at HFD
          have HLL := hide hLl
          clear hLl
          have HSQ := hide (row_slS' (unhide HO) (unhide HLL) (unhide HSS) 0)
          have HCP := hide (fun (W : World) (hk : Keeps (fun _ => False) wx W) => copyStmts_v _ (L.size + 1) L (by omega) hLs W 0 _ ((unhide HSQ).keepF hk))
          have HSC := hide (fun (W : World) (hk : Keeps (fun _ => False) wx W) => (hk.cell (lt_of_block (unhide HSB)) id).trans ((cell_of_blk (unhide HSB) 0).trans (show _ = some (Value.slice so S.length sc) from rfl)))
          have s0 := unhide HSC wx (Keeps.refl _ _)
          have hRl : R.length ≤ 1000 := by omega
          have hWl : Wl.length ≤ 1000 := by omega
          clear hpv hfp hR8
          go_upto_region 11 with (go_at_call 14; refine (unhide HCK _ wx (Keeps.refl _ _) _ (unhide HSQ)).mono ?_; rintro e w1 ⟨rfl, hk1⟩; have HK1 := hide hk1; have s1 := unhide HSC _ hk1; clear hk1)
          go_upto_region 12 with (go_at_call 15; refine (unhide HFD _ w1 (unhide HK1) _ ((unhide HSQ).keepF (unhide HK1))).mono ?_; rintro e w2 ⟨rv, wv, rfl, hr2, hw2, _, hk2⟩; have HR2 := hide hr2; have HW2 := hide hw2; have HK2 := hide ((unhide HK1).trans hk2); clear hr2 hw2 hk2)
          go_upto_region 13 with (go_at_call 20; refine (unhide HCP w2 (unhide HK2)).mono ?_; rintro e w3 ⟨nv, rfl, hs3, hk3⟩; obtain ⟨no, nc, rfl, _⟩ := hs3.head; rw [unhide HLL] at hs3 ⊢; have HS3 := hide hs3; have HK3 := hide ((unhide HK2).trans hk3); have HK23 := hide hk3; have s3 := unhide HSC _ ((unhide HK2).trans hk3); clear hs3 hk3)
          go_upto_region 14 with (go_at_call 14; refine (unhide HCK _ w3 (unhide HK3) _ (unhide HS3)).mono ?_; rintro e w4 ⟨rfl, hk4⟩; have HK4 := hide ((unhide HK3).trans hk4); have HK34 := hide hk4; have s4 := unhide HSC _ ((unhide HK3).trans hk4); clear hk4)
          go_upto_region 15 with (go_at_call 15; refine (unhide HFD _ w4 (unhide HK4) _ ((unhide HS3).keepF (unhide HK34))).mono ?_; rintro e w5 ⟨xv, yv, rfl, hx5, hy5, _, hk5⟩; have HX5 := hide (rowAt_own hx5); have HY5 := hide (rowAt_own hy5); have HK5 := hide ((unhide HK4).trans hk5); have hk25 := (unhide HK23).trans ((unhide HK34).trans hk5); have HR5 := hide (RowAt.keepF (rowAt_own (unhide HR2)) hk25); have HW5 := hide (RowAt.keepF (rowAt_own (unhide HW2)) hk25); clear hx5 hy5 hk5 hk25)
          go_upto_region 16 with (go_at_call 9; refine (eqNames_v R R hRl hRl _ _ w5 (unhide HR5) (unhide HX5)).mono ?_; rintro e w6 ⟨rfl, hk6⟩; rw [decide_eq_true rfl]; have HK6 := hide ((unhide HK5).trans hk6); have HW6 := hide (RowAt.keepF (unhide HW5) hk6); have HY6 := hide (RowAt.keepF (unhide HY5) hk6); clear hk6)
          go_upto_region 17 with (go_at_call 9; refine (eqNames_v Wl Wl hWl hWl _ _ w6 (unhide HW6) (unhide HY6)).mono ?_; rintro e w7 ⟨rfl, hk7⟩; rw [decide_eq_true rfl]; have HK7 := hide ((unhide HK6).trans hk7); clear hk7)
          have HOn := hide (ownsRow_kept (unhide HO) (unhide HK7) (fun _ _ => id))
          have HSn := hide ((unhide HSS).inKeep (unhide HK7) (fun _ _ _ => id))
          have HKn := hide ((unhide HKW).trans (unhide HK7))
          have HBn := hide (((unhide HK7).block _ (lt_of_block (unhide HSB)) id).trans (unhide HSB))
          clear HCK HFD HSQ HCP HSC s0 s1 s3 s4 HK1 HK2 HK3 HK23 HK4 HK34 HK5 HK6 HK7 HR2 HW2 HS3 HX5 HY5 HR5 HW5 HW6 HY6 HO HSS HKW HSB hRl hWl
          go_wp2_with fail
          go_roundw
          case rel => exact ⟨2 + 1, L, xs, by go_num, by omega, unhide HLL, by omega, by omega, HOn, HSn, HKn, HBn⟩
          case measure => simp [intOf]
    · obtain rfl : t = 3 := by omega
      have i1 : ¬ ((3 : Nat) : Int) < 3 := by omega
      have hsl := row_slS' (unhide HO0) (unhide HLL0) (unhide HSS0) 0
      have hLs : L0.size ≤ 4294967294 := by omega
      have HLS := hide hLs
      obtain ⟨ao, cap, b, off, e0, hcap, ha, hst⟩ := hsl.open
      simp only [Value.slice.injEq] at e0
      obtain ⟨rfl, _, rfl⟩ := e0
      have HA := hide ha
      have HST := hide hst
      have ab0 := lt_of_block (unhide HSB0)
      have a2 := (cell_of_blk (unhide HSB0) 0).trans (show _ = some (Value.slice so S.length sc) from rfl)
      have HLL3 := hide (show L0.len = l.len from unhide HLL0)
      clear ha hst hcap hlt HO0 HSS0 hsl hL1 hL2 hLs HLL0
      rename World => w3
      go_wp2_with fail
      go_loopw [21] (fun i wr => ∃ (rest : SL) (j : Nat), i = .int .i64 (j : Int) ∧ j + rest.len = l.len ∧ rest.size ≤ 4294967294 ∧ Hid (StIn (inZ (fun _ => True)) w3 rest b (off + j * 5)) ∧ Hid (Keeps (fun _ => False) w3 wr)) (fun i _ => l.len - (intOf i).toNat)
      case atStart => exact ⟨L0, 0, rfl, by rw [unhide HLL3]; omega, unhide HLS, by simpa using HST, hide (Keeps.refl _ _)⟩
      case round =>
        obtain ⟨rest, j, rfl, hjl, hrs, HRS, HK⟩ := hrel
        cases rest with
        | nil =>
          simp only [SL.len, Nat.add_zero] at hjl
          subst hjl
          have i1 : ¬ (l.len : Int) < (l.len : Int) := by omega
          go_wp2_with fail
          go_ret
          exact ⟨rfl, (unhide HKW0).trans (unhide HK)⟩
        | cons op f x t el rest =>
          obtain ⟨h1, h2, h3, h4, ⟨xv, h5, hxs⟩, _, _, h9⟩ := unhide HRS
          simp only [SL.len, SL.size] at hjl hrs
          obtain ⟨rfl, _⟩ := unhide HA (by rw [unhide HLL3]; omega)
          obtain ⟨xo, xc, bx, xoff, rfl, hxc, hxa, hxi⟩ := hxs.open
          have HXA := hide hxa
          have HXI := hide hxi
          have H9 := hide h9
          have i1 : (j : Int) < (l.len : Int) := by omega
          have i2 : (0 : Int) ≤ (j : Int) := by omega
          have hxl : x.len ≤ 4294967294 := by have := EL.len_le x; omega
          clear HRS h9 hxi hxa hxs h2 h3 h4
          go_wp2_with fail
          go_loopw [22] (fun i wq => ∃ (re : EL) (k : Nat), i = .int .i64 (k : Int) ∧ k + re.len = x.len ∧ re.size ≤ x.size ∧ Hid (ExIn (inZ (fun _ => True)) w3 re bx (xoff + k * 4)) ∧ Hid (Keeps (fun _ => False) w3 wq)) (fun i _ => x.len - (intOf i).toNat)
          case atStart => exact ⟨x, 0, rfl, by omega, Nat.le_refl _, by simpa using HXI, HK⟩
          case round =>
            clear HK
            rename_i w0_
            obtain ⟨re, k, rfl, hkl, hks, HRE, HK⟩ := hrel
            have d5 := ((unhide HK).cell h1 id).trans h5
            cases re with
            | nil =>
              simp only [EL.len, Nat.add_zero] at hkl
              subst hkl
              have i3 : ¬ (x.len : Int) < (x.len : Int) := by omega
              go_wp2_with fail
              go_roundw
              case rel => exact ⟨rest, j + 1, by go_num, by omega, by omega, by rw [show off + (j + 1) * 5 = off + j * 5 + 5 by omega]; exact H9, HK⟩
              case measure => simp [intOf]; omega
            | cons op2 n2 s2 kids re =>
              obtain ⟨y1, y2, y3, y4, y5, ⟨ko, kc, y6, y7, y8⟩, y9⟩ := unhide HRE
              simp only [EL.len, EL.size] at hkl hks
              obtain ⟨rfl, _⟩ := unhide HXA (by omega)
              have HKI : Hid (SlE (inZ (fun _ => True)) w3 bx (.slice ko kids.len kc) kids) := ⟨ko, kc, rfl, y7, y8⟩
              have H9X := hide y9
              have z0 := ((unhide HK).cell y1 id).trans y3
              have z1 := ((unhide HK).cell y1 id).trans y4
              have z2 := ((unhide HK).cell y1 id).trans y5
              have z3 := ((unhide HK).cell y1 id).trans y6
              have z4 := ((unhide HK).cell ab0 id).trans a2
              have i3 : (k : Int) < (x.len : Int) := by omega
              have i4 : (0 : Int) ≤ (k : Int) := by omega
              have hkd : kids.size + 1 ≤ 4294967294 := by omega
              have HC := hide (fun (W : World) (hk : Keeps (fun _ => False) w3 W) => staleExpr_v _ S op2 n2 s2 kids hkd (.slice so S.length sc) _ W bx ((unhide HT).keepF ((unhide HKW0).trans hk)) ((unhide HF).keepF ((unhide HKW0).trans hk)) ((unhide HFL).keepF ((unhide HKW0).trans hk)) ((unhide HKI).keepF hk))
              clear HRE y1 y3 y4 y5 y6 y8 y9
              go_upto_region 25 with fail
              go_region_with (go_at_call 21; refine (unhide HC _ (unhide HK).drew).mono ?_; rintro e w9 ⟨rfl, hk9⟩; have HK9 := hide ((unhide HK).drew.trans hk9); clear hk9)
              all_goals (go_wp2_with fail; go_roundw; (case rel => exact ⟨re, k + 1, by go_num, by omega, by omega, by rw [show xoff + (k + 1) * 4 = xoff + k * 4 + 4 by omega]; exact H9X, HK9⟩); (case measure => simp [intOf]; omega))
end Go.Proofs.YtoempeobaknkcaaGreatDoor
