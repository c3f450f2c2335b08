import Derived.Test.YtbokbdcjpbnodaaGreatDoorLj
import Derived.Test.YtbokbdcjpbnodaaGreatDoorKg
import Derived.Test.YtbokbdcjpbnodaaGreatDoorJv
import Derived.Test.YtbokbdcjpbnodaaGreatDoorLh
import Derived.Test.YtbokbdcjpbnodaaGreatDoorJt
import Derived.Test.YtbokbdcjpbnodaaGreatDoorJc
namespace Go.Proofs.YtbokbdcjpbnodaaGreatDoor
open Go.RowKit Go.Maps
set_option maxRecDepth 100000
set_option maxHeartbeats 8000000
theorem applies_walk (S : List FieldA) (sv u : Value) (hh : Bool) (vals : List ValA) (x : MsgC) (w : World) (hE : EnvM w) (hS : FldsAt w sv S) (hr : ValsAt w u vals) (hx : MsgOK w x) (hSL : S.length ≤ 4398046511104) (hVL : vals.length ≤ 4398046511104) :
  Calls Tryz.prog 6 #[.agg #[sv], .agg #[.bool hh, u], .agg #[.int .i64 x.m.kind, str x.m.key, x.vv, x.cv]] w fun e w' => e = .returned (.bool true) ∧ Keeps (fun _ => False) w w' := by
 have HIN := hide hx.inr
 have HKL := hide hx.key
 have HAL : Hid ((applyA S hh vals [x.m]).vals.length ≤ maxLen) := Nat.le_trans (apply_len (M := 4398046511104) (by omega) hVL (fun m hm => by rcases List.mem_singleton.1 hm with rfl; exact hx.lv)) (by unfold maxLen; omega)
 have hsl : S.length ≤ maxLen := by unfold maxLen; omega
 have hvl : vals.length ≤ maxLen := by unfold maxLen; omega
 have HLV := hide hx.lv
 have HLC := hide hx.lc
 have hxl : x.m.vals.length ≤ maxLen := by have := hx.lv; unfold maxLen; omega
 have hcl : x.m.code.length ≤ maxLen := by have := hx.lc; unfold maxLen; omega
 obtain ⟨so, sc, rfl⟩ := RowAt.form hS
 obtain ⟨uo, uc, rfl⟩ := RowAt.form hr
 obtain ⟨vo, vc, e1⟩ := RowAt.form hx.vals
 obtain ⟨co, cc, e2⟩ := RowAt.form hx.code
 obtain ⟨⟨xk, xkey, xv, xc⟩, xvv, xcv⟩ := x
 simp only at *
 subst e1
 subst e2
 obtain ⟨W, hW, hkW, g0, g1, g2⟩ := boxes3 w #[.slice so S.length sc] #[.bool hh, .slice uo vals.length uc] #[.int .i64 xk, str xkey, .slice vo xv.length vc, .slice co xc.length cc] 24 28 50
 obtain ⟨Re, Rh, Rv, Rs, Rd, HAA⟩ : ∃ a b c d e, Hid (applyA S hh vals [⟨xk, xkey, xv, xc⟩] = ⟨a, b, c, d, e⟩) := ⟨_, _, _, _, _, rfl⟩
 rw [uh HAA] at HAL
 simp only at HAL
 have PE := hide (hE.keepF hkW)
 have PS := hide (hS.keepF hkW)
 have PR := hide (hr.keepF hkW)
 have PX := hide (hx.keepF hkW)
 have HK := hide hkW
 have BS := hide g0
 have BR := hide g1
 have BM := hide g2
 have hee : (Re != Re) = false := by simp
 clear hE hS hr hx hkW g0 g1 g2
 have cc1 := cl1 (uh BS)
 have HQ := hide (twin_v W _ S (uh PS) hSL)
 go_enter Tryz.func6, Tryz.ntmps6
 go_wp2_with fail
 refine (uh HQ).mono ?_
 rintro e w1 ⟨t1, rfl, hot, hk⟩
 clear HQ
 clear cc1
 replace BS := hide (blk_keep (uh BS) hk)
 replace BR := hide (blk_keep (uh BR) hk)
 replace BM := hide (blk_keep (uh BM) hk)
 replace PE := hide ((uh PE).keepF hk)
 replace PS := hide ((uh PS).keepF hk)
 replace PR := hide ((uh PR).keepF hk)
 replace PX := hide ((uh PX).keepF hk)
 replace HK := hide ((uh HK).trans hk)
 have PT : Hid (FldsAt w1 t1 S) := rowAt_own hot
 obtain ⟨to, tc, rfl⟩ := RowAt.form (uh PT)
 clear hot hk
 have kN := kAlloc w1 (.cells #[.slice to S.length tc] 24)
 have hN := heap_alloc_new w1 (.cells #[.slice to S.length tc] 24)
 generalize hXX1 : w1.alloc (.cells #[.slice to S.length tc] 24) = X1 at *
 replace BS := hide (blk_keep (uh BS) kN)
 replace BR := hide (blk_keep (uh BR) kN)
 replace BM := hide (blk_keep (uh BM) kN)
 replace PE := hide ((uh PE).keepF kN)
 replace PS := hide ((uh PS).keepF kN)
 replace PR := hide ((uh PR).keepF kN)
 replace PX := hide ((uh PX).keepF kN)
 replace PT := hide ((uh PT).keepF kN)
 replace HK := hide ((uh HK).trans kN)
 have BT := hide hN
 clear kN hN
 obtain ⟨cc2, cc3⟩ := cl2 (uh BR)
 have HQ := hide (copyRowL_v X1 hh _ vals (uh PR) hVL)
 go_wp2_with fail
 refine (uh HQ).mono ?_
 rintro e w2 ⟨qo, qc, rfl, hoq, hk⟩
 clear HQ
 clear cc2 cc3
 replace BS := hide (blk_keep (uh BS) hk)
 replace BR := hide (blk_keep (uh BR) hk)
 replace BM := hide (blk_keep (uh BM) hk)
 replace BT := hide (blk_keep (uh BT) hk)
 replace PE := hide ((uh PE).keepF hk)
 replace PS := hide ((uh PS).keepF hk)
 replace PR := hide ((uh PR).keepF hk)
 replace PX := hide ((uh PX).keepF hk)
 replace PT := hide ((uh PT).keepF hk)
 replace HK := hide ((uh HK).trans hk)
 have PQ : Hid (ValsAt w2 (.slice qo vals.length qc) vals) := rowAt_own hoq
 clear hoq hk
 have kN := kAlloc w2 (.cells #[.bool hh, .slice qo vals.length qc] 28)
 have hN := heap_alloc_new w2 (.cells #[.bool hh, .slice qo vals.length qc] 28)
 generalize hXX2 : w2.alloc (.cells #[.bool hh, .slice qo vals.length qc] 28) = X2 at *
 replace BS := hide (blk_keep (uh BS) kN)
 replace BR := hide (blk_keep (uh BR) kN)
 replace BM := hide (blk_keep (uh BM) kN)
 replace BT := hide (blk_keep (uh BT) kN)
 replace PE := hide ((uh PE).keepF kN)
 replace PS := hide ((uh PS).keepF kN)
 replace PR := hide ((uh PR).keepF kN)
 replace PX := hide ((uh PX).keepF kN)
 replace PT := hide ((uh PT).keepF kN)
 replace PQ := hide ((uh PQ).keepF kN)
 replace HK := hide ((uh HK).trans kN)
 have BQ := hide hN
 clear kN hN
 obtain ⟨cc4, cc5, cc6, cc7⟩ := cl4 (uh BM)
 have HQ := hide (copyMsg_v ⟨xk, xkey, xv, xc⟩ _ _ X2 (uh PX).vals (uh PX).code (uh HLV) (uh HLC))
 simp only at HQ
 go_wp2_with fail
 refine (uh HQ).mono ?_
 rintro e w3 ⟨v1, c1, rfl, hov, hoc, hk⟩
 clear HQ
 clear cc4 cc5 cc6 cc7
 replace BS := hide (blk_keep (uh BS) hk)
 replace BR := hide (blk_keep (uh BR) hk)
 replace BM := hide (blk_keep (uh BM) hk)
 replace BT := hide (blk_keep (uh BT) hk)
 replace BQ := hide (blk_keep (uh BQ) hk)
 replace PE := hide ((uh PE).keepF hk)
 replace PS := hide ((uh PS).keepF hk)
 replace PR := hide ((uh PR).keepF hk)
 replace PX := hide ((uh PX).keepF hk)
 replace PT := hide ((uh PT).keepF hk)
 replace PQ := hide ((uh PQ).keepF hk)
 replace HK := hide ((uh HK).trans hk)
 have hv1 : ValsAt w3 v1 xv := rowAt_own hov
 have hc1 : BytesAt w3 c1 xc := rowAt_own hoc
 obtain ⟨ao, ac, rfl⟩ := RowAt.form hv1
 obtain ⟨do_, dc, rfl⟩ := RowAt.form hc1
 have PN : Hid (MsgOK w3 ⟨⟨xk, xkey, xv, xc⟩, .slice ao xv.length ac, .slice do_ xc.length dc⟩) := ⟨hv1, hc1, uh HIN, uh HKL, uh HLV, uh HLC⟩
 clear hov hoc hk hv1 hc1
 have kN := kAlloc w3 (.cells #[.int .i64 xk, str xkey, .slice ao xv.length ac, .slice do_ xc.length dc] 50)
 have hN := heap_alloc_new w3 (.cells #[.int .i64 xk, str xkey, .slice ao xv.length ac, .slice do_ xc.length dc] 50)
 generalize hXX3 : w3.alloc (.cells #[.int .i64 xk, str xkey, .slice ao xv.length ac, .slice do_ xc.length dc] 50) = X3 at *
 replace BS := hide (blk_keep (uh BS) kN)
 replace BR := hide (blk_keep (uh BR) kN)
 replace BM := hide (blk_keep (uh BM) kN)
 replace BT := hide (blk_keep (uh BT) kN)
 replace BQ := hide (blk_keep (uh BQ) kN)
 replace PE := hide ((uh PE).keepF kN)
 replace PS := hide ((uh PS).keepF kN)
 replace PR := hide ((uh PR).keepF kN)
 replace PX := hide ((uh PX).keepF kN)
 replace PT := hide ((uh PT).keepF kN)
 replace PQ := hide ((uh PQ).keepF kN)
 replace PN := hide ((uh PN).keepF kN)
 replace HK := hide ((uh HK).trans kN)
 have BN := hide hN
 clear kN hN
 have cc8 := cl1 (uh BT)
 obtain ⟨cc9, cc10⟩ := cl2 (uh BQ)
 obtain ⟨cc11, cc12, cc13, cc14⟩ := cl4 (uh BN)
 have HQ := hide (apply_v S _ _ hh vals _ X3 (uh PE) (uh PT) (uh PQ) (uh PN))
 rw [uh HAA] at HQ
 simp only at HQ
 go_wp2_with fail
 refine (uh HQ).mono ?_
 rintro e w4 ⟨go, gc, rfl, hv4, hk⟩
 clear HQ
 clear cc8 cc9 cc10 cc11 cc12 cc13 cc14
 replace BS := hide (blk_keep (uh BS) hk)
 replace BR := hide (blk_keep (uh BR) hk)
 replace BM := hide (blk_keep (uh BM) hk)
 replace BT := hide (blk_keep (uh BT) hk)
 replace BQ := hide (blk_keep (uh BQ) hk)
 replace BN := hide (blk_keep (uh BN) hk)
 replace PE := hide ((uh PE).keepF hk)
 replace PS := hide ((uh PS).keepF hk)
 replace PR := hide ((uh PR).keepF hk)
 replace PX := hide ((uh PX).keepF hk)
 replace PT := hide ((uh PT).keepF hk)
 replace PQ := hide ((uh PQ).keepF hk)
 replace PN := hide ((uh PN).keepF hk)
 replace HK := hide ((uh HK).trans hk)
 have PG := hide hv4
 clear hv4 hk
 have kN := kAlloc w4 (.cells #[.bool Rh, .slice go Rv.length gc] 28)
 have hN := heap_alloc_new w4 (.cells #[.bool Rh, .slice go Rv.length gc] 28)
 generalize hXX4 : w4.alloc (.cells #[.bool Rh, .slice go Rv.length gc] 28) = X4 at *
 replace BS := hide (blk_keep (uh BS) kN)
 replace BR := hide (blk_keep (uh BR) kN)
 replace BM := hide (blk_keep (uh BM) kN)
 replace BT := hide (blk_keep (uh BT) kN)
 replace BQ := hide (blk_keep (uh BQ) kN)
 replace BN := hide (blk_keep (uh BN) kN)
 replace PE := hide ((uh PE).keepF kN)
 replace PS := hide ((uh PS).keepF kN)
 replace PR := hide ((uh PR).keepF kN)
 replace PX := hide ((uh PX).keepF kN)
 replace PT := hide ((uh PT).keepF kN)
 replace PQ := hide ((uh PQ).keepF kN)
 replace PN := hide ((uh PN).keepF kN)
 replace PG := hide ((uh PG).keepF kN)
 replace HK := hide ((uh HK).trans kN)
 have BG := hide hN
 clear kN hN
 have cc15 := cl1 (uh BS)
 obtain ⟨cc16, cc17⟩ := cl2 (uh BR)
 obtain ⟨cc18, cc19, cc20, cc21⟩ := cl4 (uh BM)
 have HQ := hide (applyR_v S _ _ hh vals _ X4 (uh PS) (uh PR) (uh PX) hVL)
 simp only at HQ
 rw [uh HAA] at HQ
 simp only at HQ
 go_wp2_with fail
 refine (uh HQ).mono ?_
 rintro e w5 ⟨ho, hc, rfl, hv5, hk⟩
 clear HQ
 clear cc15 cc16 cc17 cc18 cc19 cc20 cc21
 replace BS := hide (blk_keep (uh BS) hk)
 replace BR := hide (blk_keep (uh BR) hk)
 replace BM := hide (blk_keep (uh BM) hk)
 replace BT := hide (blk_keep (uh BT) hk)
 replace BQ := hide (blk_keep (uh BQ) hk)
 replace BN := hide (blk_keep (uh BN) hk)
 replace BG := hide (blk_keep (uh BG) hk)
 replace PE := hide ((uh PE).keepF hk)
 replace PS := hide ((uh PS).keepF hk)
 replace PR := hide ((uh PR).keepF hk)
 replace PX := hide ((uh PX).keepF hk)
 replace PT := hide ((uh PT).keepF hk)
 replace PQ := hide ((uh PQ).keepF hk)
 replace PN := hide ((uh PN).keepF hk)
 replace PG := hide ((uh PG).keepF hk)
 replace HK := hide ((uh HK).trans hk)
 have PH := hide hv5
 clear hv5 hk
 have kN := kAlloc w5 (.cells #[.bool Rh, .slice ho Rv.length hc] 28)
 have hN := heap_alloc_new w5 (.cells #[.bool Rh, .slice ho Rv.length hc] 28)
 generalize hXX5 : w5.alloc (.cells #[.bool Rh, .slice ho Rv.length hc] 28) = X5 at *
 replace BS := hide (blk_keep (uh BS) kN)
 replace BR := hide (blk_keep (uh BR) kN)
 replace BM := hide (blk_keep (uh BM) kN)
 replace BT := hide (blk_keep (uh BT) kN)
 replace BQ := hide (blk_keep (uh BQ) kN)
 replace BN := hide (blk_keep (uh BN) kN)
 replace BG := hide (blk_keep (uh BG) kN)
 replace PE := hide ((uh PE).keepF kN)
 replace PS := hide ((uh PS).keepF kN)
 replace PR := hide ((uh PR).keepF kN)
 replace PX := hide ((uh PX).keepF kN)
 replace PT := hide ((uh PT).keepF kN)
 replace PQ := hide ((uh PQ).keepF kN)
 replace PN := hide ((uh PN).keepF kN)
 replace PG := hide ((uh PG).keepF kN)
 replace PH := hide ((uh PH).keepF kN)
 replace HK := hide ((uh HK).trans kN)
 have BH := hide hN
 clear kN hN
 obtain ⟨cc22, cc23⟩ := cl2 (uh BG)
 obtain ⟨cc24, cc25⟩ := cl2 (uh BH)
 have HQ := hide (eqRow_v X5 Rh Rh _ _ Rv Rv (uh PG) (uh PH) (uh HAL))
 rw [decide_eq_true (show Rh = Rh from rfl), decide_eq_true (show Rv = Rv from rfl)] at HQ
 simp only [Bool.and_true] at HQ
 go_wp2_with fail
 refine (uh HQ).mono ?_
 rintro e w6 ⟨rfl, hk⟩
 clear HQ
 clear cc22 cc23 cc24 cc25
 replace BS := hide (blk_keep (uh BS) hk)
 replace BR := hide (blk_keep (uh BR) hk)
 replace BM := hide (blk_keep (uh BM) hk)
 replace BT := hide (blk_keep (uh BT) hk)
 replace BQ := hide (blk_keep (uh BQ) hk)
 replace BN := hide (blk_keep (uh BN) hk)
 replace BG := hide (blk_keep (uh BG) hk)
 replace BH := hide (blk_keep (uh BH) hk)
 replace PE := hide ((uh PE).keepF hk)
 replace PS := hide ((uh PS).keepF hk)
 replace PR := hide ((uh PR).keepF hk)
 replace PX := hide ((uh PX).keepF hk)
 replace PT := hide ((uh PT).keepF hk)
 replace PQ := hide ((uh PQ).keepF hk)
 replace PN := hide ((uh PN).keepF hk)
 replace PG := hide ((uh PG).keepF hk)
 replace PH := hide ((uh PH).keepF hk)
 replace HK := hide ((uh HK).trans hk)
 clear hk
 have cc26 := cl1 (uh BT)
 have cc27 := cl1 (uh BS)
 have HQ := hide (eqSchema_any w6 _ _ S S (uh PT) (uh PS) hsl)
 rw [decide_eq_true (show S = S from rfl)] at HQ
 go_wp2_with fail
 refine (uh HQ).mono ?_
 rintro e w7 ⟨rfl, hk⟩
 clear HQ
 clear cc26 cc27
 replace BS := hide (blk_keep (uh BS) hk)
 replace BR := hide (blk_keep (uh BR) hk)
 replace BM := hide (blk_keep (uh BM) hk)
 replace BT := hide (blk_keep (uh BT) hk)
 replace BQ := hide (blk_keep (uh BQ) hk)
 replace BN := hide (blk_keep (uh BN) hk)
 replace BG := hide (blk_keep (uh BG) hk)
 replace BH := hide (blk_keep (uh BH) hk)
 replace PE := hide ((uh PE).keepF hk)
 replace PS := hide ((uh PS).keepF hk)
 replace PR := hide ((uh PR).keepF hk)
 replace PX := hide ((uh PX).keepF hk)
 replace PT := hide ((uh PT).keepF hk)
 replace PQ := hide ((uh PQ).keepF hk)
 replace PN := hide ((uh PN).keepF hk)
 replace PG := hide ((uh PG).keepF hk)
 replace PH := hide ((uh PH).keepF hk)
 replace HK := hide ((uh HK).trans hk)
 clear hk
 obtain ⟨cc28, cc29⟩ := cl2 (uh BQ)
 obtain ⟨cc30, cc31⟩ := cl2 (uh BR)
 have HQ := hide (eqRow_v w7 hh hh _ _ vals vals (uh PQ) (uh PR) hvl)
 rw [decide_eq_true (show hh = hh from rfl), decide_eq_true (show vals = vals from rfl)] at HQ
 simp only [Bool.and_true] at HQ
 go_wp2_with fail
 refine (uh HQ).mono ?_
 rintro e w8 ⟨rfl, hk⟩
 clear HQ
 clear cc28 cc29 cc30 cc31
 replace BS := hide (blk_keep (uh BS) hk)
 replace BR := hide (blk_keep (uh BR) hk)
 replace BM := hide (blk_keep (uh BM) hk)
 replace BT := hide (blk_keep (uh BT) hk)
 replace BQ := hide (blk_keep (uh BQ) hk)
 replace BN := hide (blk_keep (uh BN) hk)
 replace BG := hide (blk_keep (uh BG) hk)
 replace BH := hide (blk_keep (uh BH) hk)
 replace PE := hide ((uh PE).keepF hk)
 replace PS := hide ((uh PS).keepF hk)
 replace PR := hide ((uh PR).keepF hk)
 replace PX := hide ((uh PX).keepF hk)
 replace PT := hide ((uh PT).keepF hk)
 replace PQ := hide ((uh PQ).keepF hk)
 replace PN := hide ((uh PN).keepF hk)
 replace PG := hide ((uh PG).keepF hk)
 replace PH := hide ((uh PH).keepF hk)
 replace HK := hide ((uh HK).trans hk)
 clear hk
 obtain ⟨cc32, cc33, cc34, cc35⟩ := cl4 (uh BN)
 obtain ⟨cc36, cc37, cc38, cc39⟩ := cl4 (uh BM)
 have HQ := hide (eqMsg_v w8 xk xkey _ _ _ _ xv xc (uh PN).vals (uh PX).vals (uh PN).code (uh PX).code hxl hcl)
 go_wp2_with fail
 refine (uh HQ).mono ?_
 rintro e w9 ⟨rfl, hk⟩
 clear HQ
 clear cc32 cc33 cc34 cc35 cc36 cc37 cc38 cc39
 go_wp2_with fail
 go_ret
 exact ⟨rfl, (uh HK).trans hk⟩
end Go.Proofs.YtbokbdcjpbnodaaGreatDoor
