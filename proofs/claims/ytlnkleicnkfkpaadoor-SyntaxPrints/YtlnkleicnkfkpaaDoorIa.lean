import Derived.Test.YtlnkleicnkfkpaaDoorHl
namespace Go.Proofs.YtlnkleicnkfkpaaDoor
open Go.RowKit Go.Maps

set_option maxRecDepth 100000 in
set_option maxHeartbeats 1600000 in
theorem writeChange_v (B b : Nat) (t : Txt) (op : Int) (f becomes : Txt) (o0 n0 : Int) (s0 : Txt) (k0 : EL) (up : Nat) (xv tv ev : Value) (w : World) (hE : Env B b w) (hS : SlE cpyZ w up xv (.cons o0 n0 s0 k0 .nil)) (hI : Lib.IsBuilder 60 5 B b (bs t) w) (hW : WrE o0 n0 s0 k0) (hf : f.length ≤ 8) (hb' : becomes.length ≤ 8) (hl : t.length + 600 * (k0.size + 1) + 50 ≤ 70368744177000) :
    Calls Tryd.prog 58 #[.pointer (some ⟨b, 0, none⟩), stV op f xv tv ev, str becomes] w fun e w' => e = .returned (.tuple #[]) ∧ Lib.IsBuilder 60 5 B b (bs (t ++ f ++ becomes ++ textE o0 n0 s0 k0)) w' ∧ Keeps (KB w B b) w w' := by
  obtain ⟨ao, cap, hb, off, rfl, hcap, ha, hx⟩ := hS.open
  obtain ⟨rfl, hp⟩ := ha (by simp [EL.len])
  have e2 : (EL.cons o0 n0 s0 k0 .nil).len = 1 := rfl
  rw [e2] at hcap ⊢
  obtain ⟨hk1, hz1, hx1, hxc⟩ := boxA w #[.int .i64 op, str f, .slice (some ⟨hb, off, none⟩) 1 cap, tv, ev] 51
  have HI1 := hide (ib_keepF hI hk1)
  have HE1 := hide (hE.keepF hk1)
  have HX1 := hide (hx.keepF hk1)
  have HK1 := hide hk1
  have HB1 := hide hx1
  have c1 := hxc 1 (str f) rfl
  have c2 := hxc 2 (.slice (some ⟨hb, off, none⟩) 1 cap) rfl
  clear hE hS hI hk1 hx1 hxc hx ha
  generalize hw1 : w.alloc (.cells #[.int .i64 op, str f, .slice (some ⟨hb, off, none⟩) 1 cap, tv, ev] 51) = w1 at *
  go_enter Tryd.func58, Tryd.ntmps58
  go_wp2_with fail
  clear hw1
  refine (ws_step (s := f) (unhide HK1).any (unhide HI1) (by omega) (unhide HE1).size).mono ?_
  rintro e w2 ⟨rfl, hi2, hk12, hk2⟩
  have HE2 := hide ((unhide HE1).kb hk12)
  have HX2 := hide ((unhide HX1).kb (unhide HI1) hk12)
  have g2 := box_kb (unhide HI1) hk12 (unhide HB1) (by decide) (by decide) c2
  have HB2 := hide ((hk12.block _ (lt_of_block (unhide HB1)) (kb_not (unhide HI1) (unhide HB1) (by decide) (by decide))).trans (unhide HB1))
  have HI2 := hide hi2
  have HC := hide (ws_step (s := becomes) hk2 hi2 (by simp; omega) (unhide HE2).size)
  clear hi2 hk12 hk2 HI1 HE1 HX1 HB1 HK1 c1 c2
  go_wp2_with fail
  refine (unhide HC).mono ?_
  rintro e w4 ⟨rfl, hi4, hk34, hk4⟩
  have HI4 := hide hi4
  have HK4 := hide hk4
  have HE4 := hide ((unhide HE2).kb hk34)
  have hx4 := (unhide HX2).kb (unhide HI2) hk34
  have m2 := box_kb (unhide HI2) hk34 (unhide HB2) (by decide) (by decide) g2
  obtain ⟨po, pc, b4, a3, a4, a5, a6, HS1⟩ := kid0 hx4
  have HWK := hide (hW B b (t ++ f ++ becomes) 1 hb (.slice po k0.len pc) w4 (Or.inl ⟨by omega, by omega⟩) (unhide HE4) (unhide HS1) hi4 (by simp; omega))
  rw [at_one] at HWK
  clear hi4 hk34 hk4 HC HI2 HE2 HX2 HB2 g2 HE4 HS1 hW
  go_wp2_with fail
  refine (unhide HWK).mono ?_
  rintro e w5 ⟨rfl, hi5, hk5⟩
  have HI5 := hide hi5
  have HKE := hide (kb_trans (unhide HK4) hk5)
  clear hi5 hk5
  go_wp2_with fail
  go_end0
  exact ⟨rfl, unhide HI5, unhide HKE⟩
end Go.Proofs.YtlnkleicnkfkpaaDoor
