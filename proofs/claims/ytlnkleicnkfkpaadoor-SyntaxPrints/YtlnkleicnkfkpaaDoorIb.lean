import Derived.Test.YtlnkleicnkfkpaaDoorIa
namespace Go.Proofs.YtlnkleicnkfkpaaDoor
open Go.RowKit Go.Maps

/-- writeList of these statements writes their text. -/
def WrL (l : SL) : Prop :=
  ∀ (B b : Nat) (t : Txt) (up : Nat) (v : Value) (w : World), Env B b w → SlS cpyZ w up v l → Lib.IsBuilder 60 5 B b (bs t) w → t.length + 2000 * (l.size + 1) ≤ 70368744177000 →
    Calls Tryd.prog 33 #[.pointer (some ⟨b, 0, none⟩), v] w fun e w' => e = .returned (.tuple #[]) ∧ Lib.IsBuilder 60 5 B b (bs (t ++ tailS 0 (sts l))) w' ∧ Keeps (KB w B b) w w'

set_option maxRecDepth 100000 in
set_option maxHeartbeats 300000 in
theorem writeBlock_v (l : SL) (hL : WrL l) (B b : Nat) (t : Txt) (up : Nat) (v : Value) (w : World) (hE : Env B b w) (hS : SlS cpyZ w up v l) (hI : Lib.IsBuilder 60 5 B b (bs t) w) (hT : (tailS 0 (sts l)).length ≤ 2000 * l.size) (hl : t.length + 2000 * (l.size + 1) + 20 ≤ 70368744177000) :
    Calls Tryd.prog 71 #[.pointer (some ⟨b, 0, none⟩), v] w fun e w' => e = .returned (.tuple #[]) ∧ Lib.IsBuilder 60 5 B b (bs (t ++ braceT (sts l))) w' ∧ Keeps (KB w B b) w w' := by
  obtain ⟨ao, cap, rfl, _⟩ := hS.head
  have HE := hide hE
  have HS := hide hS
  have HI := hide hI
  have HT := hide hT
  clear hE hS hI
  go_enter Tryd.func71, Tryd.ntmps71
  go_wp2_with fail
  refine (ws_step (s := [123, 32]) (Keeps.refl _ w) (unhide HI) (by simp; omega) (unhide HE).size).mono ?_
  rintro e w1 ⟨rfl, hi1, hk01, hk1⟩
  have HK1 := hide hk1
  have HE1 := hide ((unhide HE).kb hk01)
  have HC := hide (hL B b (t ++ [123, 32]) up (.slice ao l.len cap) w1 (unhide HE1) ((unhide HS).kb (unhide HI) hk01) hi1 (by simp; omega))
  clear hi1 hk01 hk1 HE HS HI hL hT
  go_wp2_with fail
  refine (unhide HC).mono ?_
  rintro e w2 ⟨rfl, hi2, hk12⟩
  have HE2 := hide ((unhide HE1).kb hk12)
  have HI2 := hide hi2
  have HK2 := hide (kb_trans (unhide HK1) hk12)
  clear hi2 hk12 HC
  by_cases h0 : l.len = 0
  · have i0 : ¬ (0 : Int) < (l.len : Int) := by omega
    have j0 : ¬ 0 < l.len := by omega
    have e : braceT (sts l) = [123, 32] ++ tailS 0 (sts l) ++ [125] := by
      have : sts l = [] := by rw [sts_nil]; exact h0
      rw [this]
      rfl
    have HQ := hide e
    clear h0 e
    have HW := hide (wb_step 125 125 rfl (unhide HK2) (unhide HI2) (by have := unhide HT; simp; omega) (unhide HE2).size)
    go_wp2_with fail
    refine (unhide HW).mono ?_
    rintro e w3 ⟨rfl, hi3, _, hk3⟩
    have HI3 := hide hi3
    have HK3 := hide hk3
    clear hi3 hk3
    go_wp2_with fail
    go_end0
    refine ⟨rfl, ?_, unhide HK3⟩
    rw [unhide HQ]
    simpa [List.append_assoc] using unhide HI3
  · have i0 : (0 : Int) < (l.len : Int) := by omega
    have j0 : 0 < l.len := by omega
    have e : braceT (sts l) = [123, 32] ++ tailS 0 (sts l) ++ [32, 125] := by
      have : ¬ sts l = [] := by rw [sts_nil]; exact h0
      unfold braceT
      rw [if_neg this]
    have HQ := hide e
    clear h0 e
    have HW := hide (wb_step 32 32 rfl (unhide HK2) (unhide HI2) (by have := unhide HT; simp; omega) (unhide HE2).size)
    go_wp2_with fail
    refine (unhide HW).mono ?_
    rintro e w3 ⟨rfl, hi3, hk23, hk3⟩
    have HE3 := hide ((unhide HE2).kb hk23)
    have HW3 := hide (wb_step 125 125 rfl hk3 hi3 (by have := unhide HT; simp; omega) (unhide HE3).size)
    clear hi3 hk3 hk23 HW
    go_wp2_with fail
    refine (unhide HW3).mono ?_
    rintro e w4 ⟨rfl, hi4, _, hk4⟩
    have HI4 := hide hi4
    have HK4 := hide hk4
    clear hi4 hk4
    go_wp2_with fail
    go_end0
    refine ⟨rfl, ?_, unhide HK4⟩
    rw [unhide HQ]
    simpa [List.append_assoc] using unhide HI4
end Go.Proofs.YtlnkleicnkfkpaaDoor
