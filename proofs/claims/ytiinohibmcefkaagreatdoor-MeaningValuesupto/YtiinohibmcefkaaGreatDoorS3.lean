import Derived.Test.YtiinohibmcefkaaGreatDoorS2
namespace Go.Proofs.YtiinohibmcefkaaGreatDoor
open Go.RowKit Go.Maps

theorem MarksE.at {w : World} {g o : Nat} (h : MarksE w g o) {j : Nat} (hj : j < 16) : w.cell? ⟨g, o + j * 4, none⟩ = some (.int .i64 (-77 - (j : Int))) ∧ w.cell? ⟨g, o + j * 4 + 1, none⟩ = some (.int .i64 0) ∧ w.cell? ⟨g, o + j * 4 + 2, none⟩ = some (.string ⟨#[115, 112, 97, 114, 101]⟩) ∧ w.cell? ⟨g, o + j * 4 + 3, none⟩ = some (.slice none 0 0) := by
  have key : ∀ r x, (markE j)[r]? = some x → w.cell? ⟨g, o + j * 4 + r, none⟩ = some x := fun r x hx => by
    have := h (j * 4 + r) x (marks_get (f := markE) (sz := 4) (fun _ => rfl) hj hx)
    rwa [← Nat.add_assoc] at this
  exact ⟨key 0 _ rfl, key 1 _ rfl, key 2 _ rfl, key 3 _ rfl⟩
set_option maxRecDepth 100000 in
set_option maxHeartbeats 8000000 in
/-- The marks of a list that nobody wrote into. -/
theorem spareExprs_v (A : Nat → Prop) (N : Nat) : ∀ (l : EL), l.size < N → l.size ≤ 4294967294 → ∀ (w : World) (v : Value), WdSl A w v l → Calls Tryz.prog 60 #[v] w fun e w' => e = .returned (.bool true) ∧ Keeps (fun _ => False) w w' := by
  induction N with
  | zero => intro l h; omega
  | succ N ih =>
    intro l hsz hlen' w v hS
    have hlen : l.len ≤ 4294967294 := by have := EL.len_le l; omega
    obtain ⟨g, cap, rfl, hcap, hg, hA, hm, hin⟩ := hS
    have IH := hide ih
    have HM := hide hm
    have HIN := hide hin
    have HG := hide hg
    have c1 : (l.len : Int) + 16 ≤ (cap : Int) := by omega
    have c2 : l.len + 16 ≤ cap := by omega
    have c0 : (0 : Int) ≤ (l.len : Int) + 16 := by omega
    clear ih hm hin hg hA
    go_enter Tryz.func60, Tryz.ntmps60
    go_wp2_with fail
    go_loopw [4] (fun i wr => ∃ j : Nat, j ≤ 16 ∧ i = .int .i64 (j : Int) ∧ Hid (Keeps (fun _ => False) w wr)) (fun i _ => 16 - (intOf i).toNat)
    case atStart => exact ⟨0, by omega, rfl, hide (Keeps.refl _ _)⟩
    case round =>
      obtain ⟨j, hj, rfl, HK⟩ := hrel
      by_cases hlt : j < 16
      · have i1 : (j : Int) < 16 := by omega
        have i0 : (0 : Int) ≤ (j : Int) := by omega
        have i2 : (l.len : Int) + (j : Int) < (l.len : Int) + 16 := by omega
        have i3 : (0 : Int) ≤ (l.len : Int) + (j : Int) := by omega
        obtain ⟨m0, m1, m2, m3⟩ := (unhide HM).at hlt
        replace m0 := ((unhide HK).cell (unhide HG) id).trans m0
        replace m1 := ((unhide HK).cell (unhide HG) id).trans m1
        replace m2 := ((unhide HK).cell (unhide HG) id).trans m2
        replace m3 := ((unhide HK).cell (unhide HG) id).trans m3
        rw [show l.len * 4 + j * 4 = (l.len + j) * 4 by omega] at m0 m1 m2 m3
        obtain ⟨b0, b1, b2, b3⟩ := cl4 (heap_alloc_new wr (.cells #[.int .i64 (-77 - (j : Int)), .int .i64 0, .string ⟨#[115, 112, 97, 114, 101]⟩, .slice none 0 0] 27))
        have HKB := hide ((unhide HK).alloc (.cells #[.int .i64 (-77 - (j : Int)), .int .i64 0, .string ⟨#[115, 112, 97, 114, 101]⟩, .slice none 0 0] 27))
        go_wp2_with fail
        go_roundw
        case rel => exact ⟨j + 1, by omega, by go_num, HKB⟩
        case measure => simp [intOf]; omega
      · obtain rfl : j = 16 := by omega
        have i2 : ¬ ((16 : Nat) : Int) < 16 := by omega
        go_wp2_with fail
        rename World => wo
        go_loopw [6] (fun i wr => ∃ (pre rest : EL) (k : Nat), i = .int .i64 (k : Int) ∧ l = pre.app rest ∧ k = pre.len ∧ Hid (Keeps (fun _ => False) w wr) ∧ WdIn A w rest g (k * 4)) (fun i _ => l.len - (intOf i).toNat)
        case atStart => exact ⟨.nil, l, 0, rfl, rfl, rfl, HK, by simpa using unhide HIN⟩
        case round =>
          obtain ⟨pre, rest, k, rfl, happ, hkp, HK, hr⟩ := hrel
          have hll := congrArg EL.len happ
          have hls := congrArg EL.size happ
          rw [EL.len_app] at hll
          rw [EL.size_app] at hls
          have HAPP := hide happ
          have HKP := hide hkp
          cases rest with
          | nil =>
            simp only [EL.len] at hll
            have i3 : ¬ (k : Int) < (l.len : Int) := by omega
            clear happ hkp hll hls hr
            go_wp2_with fail
            go_ret
            exact ⟨rfl, unhide HK⟩
          | cons op n s kids rest =>
            obtain ⟨h1, h2, h3, h4, h5, ⟨g2, cp2, h6, h7, h8, h9, h10, h11⟩, h12⟩ := hr
            simp only [EL.len, EL.size] at hll hls
            have i3 : (k : Int) < (l.len : Int) := by omega
            have q3 := ((unhide HK).cell h1 id).trans h6
            have HS := hide (unhide IH kids (by omega) (by omega) wr (.slice (some ⟨g2, 0, none⟩) kids.len cp2) ((show WdSl A w _ kids from ⟨g2, cp2, rfl, h7, h8, h9, h10, h11⟩).keepF (unhide HK)))
            have HR := hide h12
            have hkl : k + (rest.len + 1) = l.len := by omega
            clear happ hkp hll hls h1 h2 h3 h4 h5 h6 h7 h8 h9 h10 h11 h12
            go_wp2_with fail
            refine (unhide HS).mono ?_
            rintro e w1 ⟨rfl, hk1⟩
            have HK1 := hide ((unhide HK).trans hk1)
            clear hk1 q3
            go_wp2_with fail
            go_roundw
            case rel =>
              refine ⟨pre.app (.cons op n s kids .nil), rest, k + 1, by go_num, by rw [app_one]; exact unhide HAPP, by rw [EL.len_app, unhide HKP]; rfl, HK1, ?_⟩
              rw [show (k + 1) * 4 = k * 4 + 4 by omega]
              exact unhide HR
            case measure => simp [intOf]; omega
end Go.Proofs.YtiinohibmcefkaaGreatDoor
