import Derived.Test.YtbokbdcjpbnodaaGreatDoorQMc
import Derived.Test.YtbokbdcjpbnodaaGreatDoorQMd
import Derived.Test.YtbokbdcjpbnodaaGreatDoorQKg
namespace Go.Proofs.YtbokbdcjpbnodaaGreatDoor
open Go.RowKit Go.Maps
set_option maxRecDepth 100000
set_option maxHeartbeats 8000000
theorem StepsAt.keepF {w w' : World} {v : Value} {D : List (Nat × List ValA)} (h : StepsAt w v D) (hk : Keeps (fun _ => False) w w') : StepsAt w' v D := RowAt.keepF h hk
theorem trace_len (S : List FieldA) (l : List ValA) (hh : Bool) (vals : List ValA) : (traceO S l hh vals).length ≤ 1024 := by
 unfold traceO outD
 split
 ·simp
 ·rename_i h
  have hV : (verifyA S l).2.2 = 0 := Classical.byContradiction fun q => h (Or.inl q)
  have hR : rowE S hh vals = 0 := Classical.byContradiction fun q => h (Or.inr q)
  obtain ⟨_, _, _, l96, _⟩ := run_bounds hV hR
  exact Nat.le_trans (playM_len (S := S) (l := l) _ _ _) (by omega)
theorem traces_walk (S : List FieldA) (sv u v : Value) (t : List ValA) (hh : Bool) (vals : List ValA) (w : World) (hE : Env w) (hS : FldsAt w sv S) (hb : ValsAt w v t) (hI : InR t) (hr : ValsAt w u vals) (lS : S.length ≤ 1048576) (lb : t.length ≤ 1048576) (lr : vals.length ≤ 1048576) :
  Calls Tryz.prog 4 #[.agg #[sv], v, .agg #[.bool hh, u]] w fun e w' => e = .returned (.bool true) ∧ Keeps (fun _ => False) w w' := by
 obtain ⟨so, sc, rfl⟩ := RowAt.form hS
 obtain ⟨xo, xc, rfl⟩ := RowAt.form hb
 obtain ⟨uo, uc, rfl⟩ := RowAt.form hr
 obtain ⟨X0, hX0, hkW, g0, g1⟩ := boxes2 w #[.slice so S.length sc] #[.bool hh, .slice uo vals.length uc] 24 28
 have PE := hide (hE.keepF hkW)
 have PS := hide (hS.keepF hkW)
 have PB := hide (hb.keepF hkW)
 have PR := hide (hr.keepF hkW)
 have HK := hide hkW
 have BS := hide g0
 have BR := hide g1
 have HTL := hide (trace_len S t hh vals)
 have HEX := hide (fun (X : World) (v1 v2 v3 : Value) (h : Env X) (a1 : FldsAt X v1 S) (a2 : ValsAt X v2 t) (a3 : ValsAt X v3 vals) => trace_u S v1 v3 v2 t hh vals X h a1 a2 hI a3)
 have HER := hide (fun (X : World) (a1 : FldsAt X (.slice so S.length sc) S) (a2 : ValsAt X (.slice xo t.length xc) t) (a3 : ValsAt X (.slice uo vals.length uc) vals) => traceR_v S _ _ _ t hh vals X a1 a2 hI a3)
 generalize traceO S t hh vals = TO at *
 generalize (runO S t hh vals).e = EE at *
 have hee : (EE == EE) = true := by simp
 clear hE hS hb hr hkW g0 g1
 have cc1 := cl1 (uh BS)
 obtain ⟨cc2, cc3⟩ := cl2 (uh BR)
 have HQ := hide (given_v S t [] hh vals _ (.slice xo t.length xc) (.slice none 0 0) _ X0 (uh PS) (uh PB) (bytes_nil X0) (uh PR) lS lb (by simp) lr)
 go_enter Tryz.func4, Tryz.ntmps4
 go_wp2_with fail
 refine (uh HQ).mono ?_
 rintro e w1 ⟨p, gs, ks, gc1, kc, gb, kb, gr, kr, rfl, hG, hk⟩
 clear HQ
 clear cc1 cc2 cc3
 replace BS := hide (blk_keep (uh BS) hk)
 replace BR := hide (blk_keep (uh BR) hk)
 replace PE := hide ((uh PE).keepF hk)
 replace PS := hide ((uh PS).keepF hk)
 replace PB := hide ((uh PB).keepF hk)
 replace PR := hide ((uh PR).keepF hk)
 replace HK := hide ((uh HK).trans hk)
 have PG := hide hG
 clear hG hk
 have HSK : Hid (∀ w', Keeps (fun _ => False) w1 w' → w'.cell? ⟨p, 0, none⟩ = some (.slice (some ⟨gs, 0, none⟩) S.length ks) ∧ w'.cell? ⟨p, 1, none⟩ = some (.slice (some ⟨gc1, 0, none⟩) t.length kc) ∧ w'.cell? ⟨p, 2, none⟩ = some (.slice (some ⟨gb, 0, none⟩) ([] : Txt).length kb) ∧ w'.cell? ⟨p, 3, none⟩ = some (.bool hh) ∧ w'.cell? ⟨p, 4, none⟩ = some (.slice (some ⟨gr, 0, none⟩) vals.length kr)) := fun w' hk => cl5 (blk_keep (uh PG).blk hk)
 obtain ⟨a0, a1, a2, a3, a4⟩ := uh HSK w1 (Keeps.refl _ _)
 have HX2 := hide (fun (X : World) (hk : Keeps (fun _ => False) w1 X) => uh HEX X _ _ _ ((uh PE).keepF hk) ((uh PG).s.row.keepF hk) ((uh PG).c.row.keepF hk) ((uh PG).r.row.keepF hk))
 go_wp2_with fail
 go_region_held3 (fun w' => w'.cell? ⟨p, 0, none⟩ = some (.slice (some ⟨gs, 0, none⟩) S.length ks) ∧ w'.cell? ⟨p, 1, none⟩ = some (.slice (some ⟨gc1, 0, none⟩) t.length kc) ∧ w'.cell? ⟨p, 2, none⟩ = some (.slice (some ⟨gb, 0, none⟩) ([] : Txt).length kb) ∧ w'.cell? ⟨p, 3, none⟩ = some (.bool hh) ∧ w'.cell? ⟨p, 4, none⟩ = some (.slice (some ⟨gr, 0, none⟩) vals.length kr))
  (first | with_reducible exact uh HSK _ (Keeps.refl _ _) | with_reducible exact uh HSK _ (Keeps.refl _ _).drew | with_reducible exact uh HSK _ (uh HK2) | with_reducible exact uh HSK _ (uh HK2).drew)
  ((first
  | (go_at_call 14; (with_reducible refine (uh HX2 _ (Keeps.refl _ _).drew).mono ?_); rintro e w2 ⟨go, gc, rfl, hv2, hk⟩; have PV := hide hv2; have HK2 := hide ((Keeps.refl _ _).drew.trans hk); clear hv2 hk)))
 clear a0 a1 a2 a3 a4
 have hk := uh HK2
 replace BS := hide (blk_keep (uh BS) hk)
 replace BR := hide (blk_keep (uh BR) hk)
 replace PE := hide ((uh PE).keepF hk)
 replace PS := hide ((uh PS).keepF hk)
 replace PB := hide ((uh PB).keepF hk)
 replace PR := hide ((uh PR).keepF hk)
 replace PG := hide ((uh PG).keepF hk)
 replace HK := hide ((uh HK).trans hk)
 clear hk HK2 HSK HX2 HEX
 have cc4 := cl1 (uh BS)
 obtain ⟨cc5, cc6⟩ := cl2 (uh BR)
 have HQ := hide (uh HER w2 (uh PS) (uh PB) (uh PR))
 go_wp2_with fail
 refine (uh HQ).mono ?_
 rintro e w4 ⟨ho, hc, rfl, hv4, hk⟩
 clear HQ
 clear cc4 cc5 cc6
 replace BS := hide (blk_keep (uh BS) hk)
 replace BR := hide (blk_keep (uh BR) hk)
 replace PE := hide ((uh PE).keepF hk)
 replace PS := hide ((uh PS).keepF hk)
 replace PB := hide ((uh PB).keepF hk)
 replace PR := hide ((uh PR).keepF hk)
 replace PG := hide ((uh PG).keepF hk)
 replace PV := hide ((uh PV).keepF hk)
 replace HK := hide ((uh HK).trans hk)
 have PH := hide hv4
 clear hv4 hk
 have HQ := hide (eqSteps_self w4 _ _ TO (uh PV) (uh PH) (uh HTL))
 go_wp2_with fail
 refine (uh HQ).mono ?_
 rintro e w6 ⟨rfl, hk⟩
 clear HQ
 replace BS := hide (blk_keep (uh BS) hk)
 replace BR := hide (blk_keep (uh BR) hk)
 replace PE := hide ((uh PE).keepF hk)
 replace PS := hide ((uh PS).keepF hk)
 replace PB := hide ((uh PB).keepF hk)
 replace PR := hide ((uh PR).keepF hk)
 replace PG := hide ((uh PG).keepF hk)
 replace PV := hide ((uh PV).keepF hk)
 replace PH := hide ((uh PH).keepF hk)
 replace HK := hide ((uh HK).trans hk)
 clear hk
 have cc7 := cl1 (uh BS)
 obtain ⟨cc8, cc9⟩ := cl2 (uh BR)
 have HQ := hide (still_v S t [] hh vals _ _ _ _ w6 p gs ks gc1 kc gb kb gr kr (uh PG) (uh PS) (uh PB) (bytes_nil w6) (uh PR) lS lb (by simp) lr)
 go_wp2_with fail
 refine (uh HQ).mono ?_
 rintro e w7 ⟨rfl, hk⟩
 clear HQ
 clear cc7 cc8 cc9
 go_wp2_with fail
 go_ret
 exact ⟨rfl, (uh HK).trans hk⟩
end Go.Proofs.YtbokbdcjpbnodaaGreatDoor
