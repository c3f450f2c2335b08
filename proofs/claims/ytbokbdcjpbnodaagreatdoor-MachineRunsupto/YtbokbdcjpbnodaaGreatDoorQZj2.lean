import Derived.Test.YtbokbdcjpbnodaaGreatDoorQMc
import Derived.Test.YtbokbdcjpbnodaaGreatDoorQLi
import Derived.Test.YtbokbdcjpbnodaaGreatDoorQLh
import Derived.Test.YtbokbdcjpbnodaaGreatDoorQKg
import Derived.Test.YtbokbdcjpbnodaaGreatDoorQLc
namespace Go.Proofs.YtbokbdcjpbnodaaGreatDoor
open Go.RowKit Go.Maps
set_option maxRecDepth 100000
set_option maxHeartbeats 8000000
theorem runs_walk (S : List FieldA) (sv u v : Value) (t : List ValA) (hh : Bool) (vals : List ValA) (w : World) (hE : Env w) (hS : FldsAt w sv S) (hb : ValsAt w v t) (hI : InR t) (hr : ValsAt w u vals) (lS : S.length ≤ 1048576) (lb : t.length ≤ 1048576) (lr : vals.length ≤ 1048576) :
  Calls Tryz.prog 3 #[.agg #[sv], v, .agg #[.bool hh, u]] w fun e w' => e = .returned (.bool true) ∧ Keeps (fun _ => False) w w' := by
 obtain ⟨so, sc, rfl⟩ := RowAt.form hS
 obtain ⟨xo, xc, rfl⟩ := RowAt.form hb
 obtain ⟨uo, uc, rfl⟩ := RowAt.form hr
 obtain ⟨X0, hX0, hkW, g0, g1⟩ := boxes2 w #[.slice so S.length sc] #[.bool hh, .slice uo vals.length uc] 24 28
 have PE := hide (hE.keepF hkW)
 have PS := hide (hS.keepF hkW)
 have PB := hide (hb.keepF hkW)
 have PR := hide (hr.keepF hkW)
 have HK := hide hkW
 have BS := hide g0
 have BR := hide g1
 have HAL : Hid ((runO S t hh vals).vals.length ≤ maxLen) := Nat.le_trans (runO_len _ _ _ _) (by unfold maxLen; omega)
 have HEX := hide (fun (X : World) (v1 v2 v3 : Value) (h : Env X) (a1 : FldsAt X v1 S) (a2 : ValsAt X v2 t) (a3 : ValsAt X v3 vals) => run_u S v1 v3 v2 t hh vals X h a1 a2 hI a3)
 have HER := hide (fun (X : World) (a1 : FldsAt X (.slice so S.length sc) S) (a2 : ValsAt X (.slice xo t.length xc) t) (a3 : ValsAt X (.slice uo vals.length uc) vals) => runR_v S _ _ _ t hh vals X a1 a2 hI a3)
 generalize runO S t hh vals = EO at *
 have hee : (EO.e != EO.e) = false := by simp
 clear hE hS hb hr hkW g0 g1
 have cc1 := cl1 (uh BS)
 obtain ⟨cc2, cc3⟩ := cl2 (uh BR)
 have HQ := hide (given_v S t [] hh vals _ (.slice xo t.length xc) (.slice none 0 0) _ X0 (uh PS) (uh PB) (bytes_nil X0) (uh PR) lS lb (by simp) lr)
 go_enter Tryz.func3, Tryz.ntmps3
 go_wp2_with fail
 refine (uh HQ).mono ?_
 rintro e w1 ⟨p, gs, ks, gc1, kc, gb, kb, gr, kr, rfl, hG, hk⟩
 clear HQ
 clear cc1 cc2 cc3
 replace BS := hide (blk_keep (uh BS) hk)
 replace BR := hide (blk_keep (uh BR) hk)
 replace PE := hide ((uh PE).keepF hk)
 replace PS := hide ((uh PS).keepF hk)
 replace PB := hide ((uh PB).keepF hk)
 replace PR := hide ((uh PR).keepF hk)
 replace HK := hide ((uh HK).trans hk)
 have PG := hide hG
 clear hG hk
 have HSK : Hid (∀ w', Keeps (fun q => w1.heap.size ≤ q) w1 w' → w'.cell? ⟨p, 0, none⟩ = some (.slice (some ⟨gs, 0, none⟩) S.length ks) ∧ w'.cell? ⟨p, 1, none⟩ = some (.slice (some ⟨gc1, 0, none⟩) (t : List ValA).length kc) ∧ w'.cell? ⟨p, 2, none⟩ = some (.slice (some ⟨gb, 0, none⟩) ([] : Txt).length kb) ∧ w'.cell? ⟨p, 3, none⟩ = some (.bool hh) ∧ w'.cell? ⟨p, 4, none⟩ = some (.slice (some ⟨gr, 0, none⟩) vals.length kr)) := fun w' hk => by
  have hp := lt_of_block (uh PG).blk
  exact cl5 ((hk.block _ hp (by omega)).trans (uh PG).blk)
 obtain ⟨a0, a1, a2, a3, a4⟩ := uh HSK w1 (Keeps.refl _ _)
 have HX2 := hide (fun (X : World) (hk : Keeps (fun _ => False) w1 X) => uh HEX X _ _ _ ((uh PE).keepF hk) ((uh PG).s.row.keepF hk) ((uh PG).c.row.keepF hk) ((uh PG).r.row.keepF hk))
 have HZ : Hid ((w1.alloc (.cells #[.bool false, .slice none 0 0, .int .i64 0, .int .i64 0] 32)).drew.heap[w1.heap.size]? = some (.cells #[.bool false, .slice none 0 0, .int .i64 0, .int .i64 0] 32 (0, 0))) := heap_alloc_new w1 _
 go_wp2_with fail
 go_region_held3 (fun w' => w'.cell? ⟨p, 0, none⟩ = some (.slice (some ⟨gs, 0, none⟩) S.length ks) ∧ w'.cell? ⟨p, 1, none⟩ = some (.slice (some ⟨gc1, 0, none⟩) (t : List ValA).length kc) ∧ w'.cell? ⟨p, 2, none⟩ = some (.slice (some ⟨gb, 0, none⟩) ([] : Txt).length kb) ∧ w'.cell? ⟨p, 3, none⟩ = some (.bool hh) ∧ w'.cell? ⟨p, 4, none⟩ = some (.slice (some ⟨gr, 0, none⟩) vals.length kr))
  (first | with_reducible exact uh HSK _ (Keeps.refl _ _) | with_reducible exact uh HSK _ (Keeps.refl _ _).drew | with_reducible exact uh HSK _ ((Keeps.refl _ _).drew.alloc _) | with_reducible exact uh HSK _ ((Keeps.refl _ _).alloc _) | with_reducible exact uh HSK _ ((Keeps.refl _ _).alloc _).drew | with_reducible exact uh HSK _ (uh HK2).any | with_reducible exact uh HSK _ (uh HK2).any.drew | with_reducible exact uh HSK _ ((uh HK2).any.alloc _) | with_reducible exact uh HSK _ ((uh HK2).any.trans (kset4N (Nat.le_refl _) _ _ _ _)) | with_reducible exact uh HSK _ (((uh HK2).any.alloc _).trans (kset4N (uh HK2).size _ _ _ _)))
  ((first
  | (go_at_call 10; (with_reducible refine (uh HX2 _ (Keeps.refl _ _).drew).mono ?_); rintro e w2 ⟨go, gc, rfl, hv2, hk⟩; have PV := hide hv2; have HK2 := hide ((Keeps.refl _ _).drew.trans hk); clear hv2 hk)
  | (go_at_call 10; (with_reducible refine (uh HX2 _ ((Keeps.refl _ _).alloc _).drew).mono ?_); rintro e w2 ⟨go, gc, rfl, hv2, hk⟩; have PV := hide hv2; have hb5 := blk_keep (uh HZ) hk; obtain ⟨m0, m1, m2, m3⟩ := cl4 hb5; obtain ⟨z0, z1, z2, z3⟩ := fz4 hb5; have HB5 := hide hb5; have HK2 := hide (((Keeps.refl _ _).alloc _).drew.trans hk); clear hv2 hk hb5)
  ))
 ·have kN := kAlloc w2 (.cells #[.bool EO.here, .slice go EO.vals.length gc, .int .i64 (EO.steps : Int), .int .i64 (EO.deep : Int)] 32)
  have hN := heap_alloc_new w2 (.cells #[.bool EO.here, .slice go EO.vals.length gc, .int .i64 (EO.steps : Int), .int .i64 (EO.deep : Int)] 32)
  have hk := (uh HK2).trans kN
  have hpv := (uh PV).keepF kN
  clear kN
  generalize hX3 : w2.alloc (.cells #[.bool EO.here, .slice go EO.vals.length gc, .int .i64 (EO.steps : Int), .int .i64 (EO.deep : Int)] 32) = X3 at *
  replace BS := hide (blk_keep (uh BS) hk)
  replace BR := hide (blk_keep (uh BR) hk)
  replace PE := hide ((uh PE).keepF hk)
  replace PS := hide ((uh PS).keepF hk)
  replace PB := hide ((uh PB).keepF hk)
  replace PR := hide ((uh PR).keepF hk)
  replace PG := hide ((uh PG).keepF hk)
  replace HK := hide ((uh HK).trans hk)
  have B8 : Hid (X3.heap[w2.heap.size]? = some (.cells #[.bool EO.here, .slice go EO.vals.length gc, .int .i64 (EO.steps : Int), .int .i64 (EO.deep : Int)] 32 (0, 0))) := hN
  have P8 := hide hpv
  clear hN hpv hk PV HK2 HZ HSK HX2 HEX
  have cc101 := cl1 (uh BS)
  obtain ⟨cc102, cc103⟩ := cl2 (uh BR)
  have HQ := hide (uh HER X3 (uh PS) (uh PB) (uh PR))
  go_wp2_with fail
  refine (uh HQ).mono ?_
  rintro e w4 ⟨ho, hc, rfl, hv4, hk⟩
  clear HQ
  clear cc101 cc102 cc103
  replace BS := hide (blk_keep (uh BS) hk)
  replace BR := hide (blk_keep (uh BR) hk)
  replace B8 := hide (blk_keep (uh B8) hk)
  replace PE := hide ((uh PE).keepF hk)
  replace PS := hide ((uh PS).keepF hk)
  replace PB := hide ((uh PB).keepF hk)
  replace PR := hide ((uh PR).keepF hk)
  replace PG := hide ((uh PG).keepF hk)
  replace P8 := hide ((uh P8).keepF hk)
  replace HK := hide ((uh HK).trans hk)
  have PH := hide hv4
  clear hv4 hk
  have kN := kAlloc w4 (.cells #[.bool EO.here, .slice ho EO.vals.length hc, .int .i64 (EO.steps : Int), .int .i64 (EO.deep : Int)] 32)
  have hN := heap_alloc_new w4 (.cells #[.bool EO.here, .slice ho EO.vals.length hc, .int .i64 (EO.steps : Int), .int .i64 (EO.deep : Int)] 32)
  generalize hXX5 : w4.alloc (.cells #[.bool EO.here, .slice ho EO.vals.length hc, .int .i64 (EO.steps : Int), .int .i64 (EO.deep : Int)] 32) = X5 at *
  replace BS := hide (blk_keep (uh BS) kN)
  replace BR := hide (blk_keep (uh BR) kN)
  replace B8 := hide (blk_keep (uh B8) kN)
  replace PE := hide ((uh PE).keepF kN)
  replace PS := hide ((uh PS).keepF kN)
  replace PB := hide ((uh PB).keepF kN)
  replace PR := hide ((uh PR).keepF kN)
  replace PG := hide ((uh PG).keepF kN)
  replace P8 := hide ((uh P8).keepF kN)
  replace PH := hide ((uh PH).keepF kN)
  replace HK := hide ((uh HK).trans kN)
  have BH := hide hN
  clear kN hN
  obtain ⟨cc104, cc105, cc106, cc107⟩ := cl4 (uh B8)
  obtain ⟨cc108, cc109, cc110, cc111⟩ := cl4 (uh BH)
  have HQ := hide (eqRow_v X5 EO.here EO.here _ _ EO.vals EO.vals (uh P8) (uh PH) (uh HAL))
  rw [decide_eq_true (show EO.here = EO.here from rfl), decide_eq_true (show EO.vals = EO.vals from rfl)] at HQ
  simp only [Bool.and_true] at HQ
  go_wp2_with fail
  refine (uh HQ).mono ?_
  rintro e w6 ⟨rfl, hk⟩
  clear HQ
  clear cc104 cc105 cc106 cc107 cc108 cc109 cc110 cc111
  replace BS := hide (blk_keep (uh BS) hk)
  replace BR := hide (blk_keep (uh BR) hk)
  replace B8 := hide (blk_keep (uh B8) hk)
  replace BH := hide (blk_keep (uh BH) hk)
  replace PE := hide ((uh PE).keepF hk)
  replace PS := hide ((uh PS).keepF hk)
  replace PB := hide ((uh PB).keepF hk)
  replace PR := hide ((uh PR).keepF hk)
  replace PG := hide ((uh PG).keepF hk)
  replace P8 := hide ((uh P8).keepF hk)
  replace PH := hide ((uh PH).keepF hk)
  replace HK := hide ((uh HK).trans hk)
  clear hk
  have cc112 := cl1 (uh BS)
  obtain ⟨cc113, cc114⟩ := cl2 (uh BR)
  obtain ⟨cc115, cc116, cc117, cc118⟩ := cl4 (uh B8)
  obtain ⟨cc119, cc120, cc121, cc122⟩ := cl4 (uh BH)
  have HQ := hide (still_v S t [] hh vals _ _ _ _ w6 p gs ks gc1 kc gb kb gr kr (uh PG) (uh PS) (uh PB) (bytes_nil w6) (uh PR) lS lb (by simp) lr)
  go_wp2_with fail
  refine (uh HQ).mono ?_
  rintro e w7 ⟨rfl, hk⟩
  clear HQ
  clear cc112 cc113 cc114 cc115 cc116 cc117 cc118 cc119 cc120 cc121 cc122
  go_wp2_with fail
  go_ret
  exact ⟨rfl, (uh HK).trans hk⟩
 ·have hN := heap_setCell_at (o := 3) (heap_setCell_at (o := 2) (heap_setCell_at (o := 1) (heap_setCell_at (o := 0) (uh HB5) (.bool EO.here)) (.slice go EO.vals.length gc)) (.int .i64 (EO.steps : Int))) (.int .i64 (EO.deep : Int))
  have k2 := keeps_set4 w2 w1.heap.size (.bool EO.here) (.slice go EO.vals.length gc) (.int .i64 (EO.steps : Int)) (.int .i64 (EO.deep : Int))
  have hk := (uh HK2).fresh (Nat.le_refl _) k2
  have hpv := vals_off (uh PV) (uh HB5) (offO (by simp)) k2
  clear k2
  generalize hX3 : (((w2.setCell ⟨w1.heap.size, 0, none⟩ (.bool EO.here)).setCell ⟨w1.heap.size, 1, none⟩ (.slice go EO.vals.length gc)).setCell ⟨w1.heap.size, 2, none⟩ (.int .i64 (EO.steps : Int))).setCell ⟨w1.heap.size, 3, none⟩ (.int .i64 (EO.deep : Int)) = X3 at *
  replace BS := hide (blk_keep (uh BS) hk)
  replace BR := hide (blk_keep (uh BR) hk)
  replace PE := hide ((uh PE).keepF hk)
  replace PS := hide ((uh PS).keepF hk)
  replace PB := hide ((uh PB).keepF hk)
  replace PR := hide ((uh PR).keepF hk)
  replace PG := hide ((uh PG).keepF hk)
  replace HK := hide ((uh HK).trans hk)
  have B8 : Hid (X3.heap[w1.heap.size]? = some (.cells #[.bool EO.here, .slice go EO.vals.length gc, .int .i64 (EO.steps : Int), .int .i64 (EO.deep : Int)] 32 (0, 0))) := hN
  have P8 := hide hpv
  clear hN hpv hk PV HK2 HZ HSK HX2 HEX
  have cc101 := cl1 (uh BS)
  obtain ⟨cc102, cc103⟩ := cl2 (uh BR)
  have HQ := hide (uh HER X3 (uh PS) (uh PB) (uh PR))
  go_wp2_with fail
  refine (uh HQ).mono ?_
  rintro e w4 ⟨ho, hc, rfl, hv4, hk⟩
  clear HQ
  clear cc101 cc102 cc103
  replace BS := hide (blk_keep (uh BS) hk)
  replace BR := hide (blk_keep (uh BR) hk)
  replace B8 := hide (blk_keep (uh B8) hk)
  replace PE := hide ((uh PE).keepF hk)
  replace PS := hide ((uh PS).keepF hk)
  replace PB := hide ((uh PB).keepF hk)
  replace PR := hide ((uh PR).keepF hk)
  replace PG := hide ((uh PG).keepF hk)
  replace P8 := hide ((uh P8).keepF hk)
  replace HK := hide ((uh HK).trans hk)
  have PH := hide hv4
  clear hv4 hk
  have kN := kAlloc w4 (.cells #[.bool EO.here, .slice ho EO.vals.length hc, .int .i64 (EO.steps : Int), .int .i64 (EO.deep : Int)] 32)
  have hN := heap_alloc_new w4 (.cells #[.bool EO.here, .slice ho EO.vals.length hc, .int .i64 (EO.steps : Int), .int .i64 (EO.deep : Int)] 32)
  generalize hXX5 : w4.alloc (.cells #[.bool EO.here, .slice ho EO.vals.length hc, .int .i64 (EO.steps : Int), .int .i64 (EO.deep : Int)] 32) = X5 at *
  replace BS := hide (blk_keep (uh BS) kN)
  replace BR := hide (blk_keep (uh BR) kN)
  replace B8 := hide (blk_keep (uh B8) kN)
  replace PE := hide ((uh PE).keepF kN)
  replace PS := hide ((uh PS).keepF kN)
  replace PB := hide ((uh PB).keepF kN)
  replace PR := hide ((uh PR).keepF kN)
  replace PG := hide ((uh PG).keepF kN)
  replace P8 := hide ((uh P8).keepF kN)
  replace PH := hide ((uh PH).keepF kN)
  replace HK := hide ((uh HK).trans kN)
  have BH := hide hN
  clear kN hN
  obtain ⟨cc104, cc105, cc106, cc107⟩ := cl4 (uh B8)
  obtain ⟨cc108, cc109, cc110, cc111⟩ := cl4 (uh BH)
  have HQ := hide (eqRow_v X5 EO.here EO.here _ _ EO.vals EO.vals (uh P8) (uh PH) (uh HAL))
  rw [decide_eq_true (show EO.here = EO.here from rfl), decide_eq_true (show EO.vals = EO.vals from rfl)] at HQ
  simp only [Bool.and_true] at HQ
  go_wp2_with fail
  refine (uh HQ).mono ?_
  rintro e w6 ⟨rfl, hk⟩
  clear HQ
  clear cc104 cc105 cc106 cc107 cc108 cc109 cc110 cc111
  replace BS := hide (blk_keep (uh BS) hk)
  replace BR := hide (blk_keep (uh BR) hk)
  replace B8 := hide (blk_keep (uh B8) hk)
  replace BH := hide (blk_keep (uh BH) hk)
  replace PE := hide ((uh PE).keepF hk)
  replace PS := hide ((uh PS).keepF hk)
  replace PB := hide ((uh PB).keepF hk)
  replace PR := hide ((uh PR).keepF hk)
  replace PG := hide ((uh PG).keepF hk)
  replace P8 := hide ((uh P8).keepF hk)
  replace PH := hide ((uh PH).keepF hk)
  replace HK := hide ((uh HK).trans hk)
  clear hk
  have cc112 := cl1 (uh BS)
  obtain ⟨cc113, cc114⟩ := cl2 (uh BR)
  obtain ⟨cc115, cc116, cc117, cc118⟩ := cl4 (uh B8)
  obtain ⟨cc119, cc120, cc121, cc122⟩ := cl4 (uh BH)
  have HQ := hide (still_v S t [] hh vals _ _ _ _ w6 p gs ks gc1 kc gb kb gr kr (uh PG) (uh PS) (uh PB) (bytes_nil w6) (uh PR) lS lb (by simp) lr)
  go_wp2_with fail
  refine (uh HQ).mono ?_
  rintro e w7 ⟨rfl, hk⟩
  clear HQ
  clear cc112 cc113 cc114 cc115 cc116 cc117 cc118 cc119 cc120 cc121 cc122
  go_wp2_with fail
  go_ret
  exact ⟨rfl, (uh HK).trans hk⟩
end Go.Proofs.YtbokbdcjpbnodaaGreatDoor
