import Derived.Test.YtlnkleicnkfkpaaDoorIb
namespace Go.Proofs.YtlnkleicnkfkpaaDoor
open Go.RowKit Go.Maps

/-- writeBlock of these statements writes their text in braces. -/
def WrB (l : SL) : Prop :=
  ∀ (B b : Nat) (t : Txt) (up : Nat) (v : Value) (w : World), Env B b w → SlS cpyZ w up v l → Lib.IsBuilder 60 5 B b (bs t) w → t.length + 2000 * (l.size + 1) + 20 ≤ 70368744177000 →
    Calls Tryd.prog 71 #[.pointer (some ⟨b, 0, none⟩), v] w fun e w' => e = .returned (.tuple #[]) ∧ Lib.IsBuilder 60 5 B b (bs (t ++ braceT (sts l))) w' ∧ Keeps (KB w B b) w w'
theorem wrB_of {l : SL} (hL : WrL l) (hT : (tailS 0 (sts l)).length ≤ 2000 * l.size) : WrB l := fun B b t up v w hE hS hI hl => writeBlock_v l hL B b t up v w hE hS hI hT hl

set_option maxRecDepth 100000 in
set_option maxHeartbeats 600000 in
theorem writeChoice_v (B b : Nat) (t : Txt) (op : Int) (f : Txt) (o0 n0 : Int) (s0 : Txt) (k0 : EL) (th el : SL) (up ut ue : Nat) (xv tv ev : Value) (w : World) (hE : Env B b w) (hS : SlE cpyZ w up xv (.cons o0 n0 s0 k0 .nil)) (hSt : SlS cpyZ w ut tv th) (hSe : SlS cpyZ w ue ev el) (hI : Lib.IsBuilder 60 5 B b (bs t) w) (hW : WrE o0 n0 s0 k0) (hBt : WrB th) (hBe : WrB el) (hT : (textE o0 n0 s0 k0).length + 4 ≤ 300 * (k0.size + 1)) (hb1 : (braceT (sts th)).length ≤ 2000 * th.size + 10) (hl : t.length + 600 * (k0.size + 1) + 2000 * th.size + 2000 * (el.size + 1) + 200 ≤ 70368744177000) :
    Calls Tryd.prog 59 #[.pointer (some ⟨b, 0, none⟩), stV op f xv tv ev] w fun e w' => e = .returned (.tuple #[]) ∧ Lib.IsBuilder 60 5 B b (bs (t ++ ([105, 102, 32] ++ textE o0 n0 s0 k0 ++ [32] ++ braceT (sts th) ++ (if sts el = [] then [] else [32, 101, 108, 115, 101, 32] ++ braceT (sts el))))) w' ∧ Keeps (KB w B b) w w' := by
  obtain ⟨ao, cap, hb, off, rfl, hcap, ha, hx⟩ := hS.open
  obtain ⟨rfl, hp⟩ := ha (by simp [EL.len])
  have e2 : (EL.cons o0 n0 s0 k0 .nil).len = 1 := rfl
  rw [e2] at hcap ⊢
  obtain ⟨ta, tc, rfl, _⟩ := hSt.head
  obtain ⟨ea, ec, rfl, _⟩ := hSe.head
  obtain ⟨hk1, hz1, hx1, hxc⟩ := boxA w #[.int .i64 op, str f, .slice (some ⟨hb, off, none⟩) 1 cap, .slice ta th.len tc, .slice ea el.len ec] 51
  have HI1 := hide (ib_keepF hI hk1)
  have HE1 := hide (hE.keepF hk1)
  have HX1 := hide (hx.keepF hk1)
  have HT1 := hide (hSt.keepF hk1)
  have HL1 := hide (hSe.keepF hk1)
  have HK1 := hide hk1
  have HB1 := hide hx1
  have c2 := hxc 2 (.slice (some ⟨hb, off, none⟩) 1 cap) rfl
  have c3 := hxc 3 (.slice ta th.len tc) rfl
  have c4 := hxc 4 (.slice ea el.len ec) rfl
  have HBT := hide hBt
  have HBE := hide hBe
  clear hE hS hI hk1 hx1 hxc hx ha hSt hSe hBt hBe
  generalize hw1 : w.alloc (.cells #[.int .i64 op, str f, .slice (some ⟨hb, off, none⟩) 1 cap, .slice ta th.len tc, .slice ea el.len ec] 51) = w1 at *
  generalize hR : (if sts el = [] then ([] : Txt) else [32, 101, 108, 115, 101, 32] ++ braceT (sts el)) = R at *
  have HR := hide hR
  clear hR
  generalize hQ : braceT (sts th) = Q at *
  generalize hX : textE o0 n0 s0 k0 = X at *
  go_enter Tryd.func59, Tryd.ntmps59
  go_wp2_with fail
  clear hw1
  refine (ws_step (s := [105, 102, 32]) (unhide HK1).any (unhide HI1) (by simp; omega) (unhide HE1).size).mono ?_
  rintro e w2 ⟨rfl, hi2, hk12, hk2⟩
  have HE2 := hide ((unhide HE1).kb hk12)
  have hx4 := (unhide HX1).kb (unhide HI1) hk12
  have HT2 := hide ((unhide HT1).kb (unhide HI1) hk12)
  have HL2 := hide ((unhide HL1).kb (unhide HI1) hk12)
  have g2 := box_kb (unhide HI1) hk12 (unhide HB1) (by decide) (by decide) c2
  have g3 := box_kb (unhide HI1) hk12 (unhide HB1) (by decide) (by decide) c3
  have g4 := box_kb (unhide HI1) hk12 (unhide HB1) (by decide) (by decide) c4
  have HB2 := hide ((hk12.block _ (lt_of_block (unhide HB1)) (kb_not (unhide HI1) (unhide HB1) (by decide) (by decide))).trans (unhide HB1))
  have HI2 := hide hi2
  have HK2 := hide hk2
  obtain ⟨po, pc, b4, a3, a4, a5, a6, HS1⟩ := kid0 hx4
  have HWK := hide (hW B b (t ++ [105, 102, 32]) 1 hb (.slice po k0.len pc) w2 (Or.inl ⟨by omega, by omega⟩) (unhide HE2) (unhide HS1) hi2 (by simp; omega))
  rw [at_one, hX] at HWK
  clear hi2 hk12 hk2 HI1 HE1 HX1 HT1 HL1 HB1 HK1 c2 c3 c4 hx4 hW HS1 hX
  go_wp2_with fail
  refine (unhide HWK).mono ?_
  rintro e w3 ⟨rfl, hi3, hk23⟩
  have HE3 := hide ((unhide HE2).kb hk23)
  have HT3 := hide ((unhide HT2).kb (unhide HI2) hk23)
  have HL3 := hide ((unhide HL2).kb (unhide HI2) hk23)
  have u3 := box_kb (unhide HI2) hk23 (unhide HB2) (by decide) (by decide) g3
  have u4 := box_kb (unhide HI2) hk23 (unhide HB2) (by decide) (by decide) g4
  have HB3 := hide ((hk23.block _ (lt_of_block (unhide HB2)) (kb_not (unhide HI2) (unhide HB2) (by decide) (by decide))).trans (unhide HB2))
  have HI3 := hide hi3
  have HC := hide (wb_step 32 32 rfl (kb_trans (unhide HK2) hk23) hi3 (by simp; omega) (unhide HE3).size)
  clear hi3 hk23 HI2 HE2 HT2 HL2 HB2 HK2 g2 g3 g4 HWK a3 a4 a5 a6
  go_wp2_with fail
  refine (unhide HC).mono ?_
  rintro e w4 ⟨rfl, hi4, hk34, hk4⟩
  have HE4 := hide ((unhide HE3).kb hk34)
  have HT4 := hide ((unhide HT3).kb (unhide HI3) hk34)
  have HL4 := hide ((unhide HL3).kb (unhide HI3) hk34)
  have v3 := box_kb (unhide HI3) hk34 (unhide HB3) (by decide) (by decide) u3
  have v4 := box_kb (unhide HI3) hk34 (unhide HB3) (by decide) (by decide) u4
  have HB4 := hide ((hk34.block _ (lt_of_block (unhide HB3)) (kb_not (unhide HI3) (unhide HB3) (by decide) (by decide))).trans (unhide HB3))
  have HI4 := hide hi4
  have HK4 := hide hk4
  have HBB := hide ((unhide HBT) B b _ ut (.slice ta th.len tc) w4 (unhide HE4) (unhide HT4) hi4 (by simp; omega))
  rw [hQ] at HBB
  clear hi4 hk34 hk4 HI3 HE3 HT3 HL3 HB3 u3 u4 HC hQ HBT
  go_wp2_with fail
  refine (unhide HBB).mono ?_
  rintro e w5 ⟨rfl, hi5, hk45⟩
  have HE5 := hide ((unhide HE4).kb hk45)
  have HL5 := hide ((unhide HL4).kb (unhide HI4) hk45)
  have m4 := box_kb (unhide HI4) hk45 (unhide HB4) (by decide) (by decide) v4
  have HB5 := hide ((hk45.block _ (lt_of_block (unhide HB4)) (kb_not (unhide HI4) (unhide HB4) (by decide) (by decide))).trans (unhide HB4))
  have HI5 := hide hi5
  have HK5 := hide (kb_trans (unhide HK4) hk45)
  clear hi5 hk45 HI4 HE4 HT4 HL4 HB4 HK4 v3 v4 HBB
  by_cases h0 : el.len = 0
  · have i0 : ¬ (0 : Int) < (el.len : Int) := by omega
    have j0 : ¬ 0 < el.len := by omega
    have HR0 := hide ((unhide HR).symm.trans (if_pos (by rw [sts_nil]; exact h0)))
    clear h0
    go_wp2_with fail
    go_end0
    refine ⟨rfl, ?_, unhide HK5⟩
    rw [unhide HR0]
    simpa [List.append_assoc] using unhide HI5
  · have i0 : (0 : Int) < (el.len : Int) := by omega
    have j0 : 0 < el.len := by omega
    have HR0 := hide ((unhide HR).symm.trans (if_neg (by rw [sts_nil]; exact h0)))
    clear h0
    have HC5 := hide (ws_step (s := [32, 101, 108, 115, 101, 32]) (unhide HK5) (unhide HI5) (by simp; omega) (unhide HE5).size)
    go_wp2_with fail
    refine (unhide HC5).mono ?_
    rintro e w6 ⟨rfl, hi6, hk56, hk6⟩
    have HK6 := hide hk6
    have n4 := box_kb (unhide HI5) hk56 (unhide HB5) (by decide) (by decide) m4
    have HBB := hide ((unhide HBE) B b _ ue (.slice ea el.len ec) w6 ((unhide HE5).kb hk56) ((unhide HL5).kb (unhide HI5) hk56) hi6 (by simp; omega))
    clear hi6 hk56 hk6 HC5
    go_wp2_with fail
    refine (unhide HBB).mono ?_
    rintro e w7 ⟨rfl, hi7, hk67⟩
    have HI7 := hide hi7
    have HK7 := hide (kb_trans (unhide HK6) hk67)
    clear hi7 hk67
    go_wp2_with fail
    go_end0
    refine ⟨rfl, ?_, unhide HK7⟩
    rw [unhide HR0]
    simpa [List.append_assoc] using unhide HI7
end Go.Proofs.YtlnkleicnkfkpaaDoor
