import Derived.Test.YtiinohibmcefkaaGreatDoorS4
import Derived.Test.YtiinohibmcefkaaGreatDoorJzab
import Derived.Test.YtiinohibmcefkaaGreatDoorJzaa
namespace Go.Proofs.YtiinohibmcefkaaGreatDoor
open Go.RowKit Go.Maps

theorem cl5 {w : World} {b : Nat} {c0 c1 c2 c3 c4 : Value} {t : TypeId} (h : w.heap[b]? = some (.cells #[c0, c1, c2, c3, c4] t (0, 0))) : w.cell? ⟨b, 0, none⟩ = some c0 ∧ w.cell? ⟨b, 1, none⟩ = some c1 ∧ w.cell? ⟨b, 2, none⟩ = some c2 ∧ w.cell? ⟨b, 3, none⟩ = some c3 ∧ w.cell? ⟨b, 4, none⟩ = some c4 :=
  ⟨(cell_of_blk h _).trans rfl, (cell_of_blk h _).trans rfl, (cell_of_blk h _).trans rfl, (cell_of_blk h _).trans rfl, (cell_of_blk h _).trans rfl⟩
set_option maxRecDepth 100000 in
set_option maxHeartbeats 8000000 in
/-- Twins that nobody wrote into are as they were. -/
theorem still0_v (Z : Zone) (S : List FieldA) (l : EL) (h : Bool) (vals : List ValA) (sv lv u : Value) (w : World) (up p gs ks ge ke gr kr : Nat) (hG : GivE w p S l h vals gs ks ge ke gr kr) (hS : FldsAt w sv S) (hx : SlE Z w up lv l) (hr : ValsAt w u vals) (lS : S.length ≤ 1048576) (hls : l.size ≤ 4294967294) (lr : vals.length ≤ 1048576) :
    Calls Tryz.prog 26 #[.pointer (some ⟨p, 0, none⟩), .agg #[sv], lv, .slice none 0 0, .agg #[.bool h, u]] w fun e w' => e = .returned (.bool true) ∧ Keeps (fun _ => False) w w' := by
  obtain ⟨so, sc, rfl⟩ := RowAt.form hS
  obtain ⟨uo, uc, rfl⟩ := RowAt.form hr
  obtain ⟨lo, lc, rfl, _⟩ := hx.head
  obtain ⟨W, hW, hkW, g0, g1⟩ := boxA2 w #[.slice so S.length sc] #[.bool h, .slice uo vals.length uc] 24 31
  have HWX := hide hkW
  have Ps := hide (hS.keepF hkW)
  have Px := hide (hx.keepF hkW)
  have Pr := hide (hr.keepF hkW)
  have HG := hide (hG.keepF hkW)
  have B0 := hide g0
  have B1 := hide g1
  have mS : S.length ≤ maxLen := by unfold maxLen; omega
  have mr : vals.length ≤ maxLen := by unfold maxLen; omega
  have HSK : Hid (∀ X : World, Keeps (fun _ => False) W X → ∀ m : KW X, m.wd.cell? ⟨w.heap.size, 0, none⟩ = some (.slice so S.length sc) ∧ m.wd.cell? ⟨w.heap.size + 1, 0, none⟩ = some (.bool h) ∧ m.wd.cell? ⟨w.heap.size + 1, 1, none⟩ = some (.slice uo vals.length uc) ∧
      m.wd.cell? ⟨p, 0, none⟩ = some (.slice (some ⟨gs, 0, none⟩) S.length ks) ∧ m.wd.cell? ⟨p, 1, none⟩ = some (.slice (some ⟨ge, 0, none⟩) l.len ke) ∧ m.wd.cell? ⟨p, 2, none⟩ = some (.slice none 0 0) ∧ m.wd.cell? ⟨p, 3, none⟩ = some (.bool h) ∧ m.wd.cell? ⟨p, 4, none⟩ = some (.slice (some ⟨gr, 0, none⟩) vals.length kr)) := fun X hX m => by
    have hk := hX.trans m.kept
    have x1 := blk_keep (unhide B0) hk
    have x2 := blk_keep (unhide B1) hk
    obtain ⟨y0, y1, y2, y3, y4⟩ := cl5 (blk_keep (unhide HG).blk hk)
    exact ⟨(cell_of_blk x1 _).trans rfl, (cell_of_blk x2 _).trans rfl, (cell_of_blk x2 _).trans rfl, y0, y1, y2, y3, y4⟩
  have Q55 : Hid (∀ X : World, Keeps (fun _ => False) W X → ∀ m : KW X, Calls Tryz.prog 55 #[.agg #[.slice (some ⟨gs, 0, none⟩) S.length ks], .agg #[.slice so S.length sc]] m.wd fun e w' => e = .returned (.bool true) ∧ ∃ m2 : KW X, w' = m2.wd) := fun X hX m => by
    have h := eqSchema_any m.wd _ _ S S ((unhide HG).s.row.keepF (hX.trans m.kept)) ((unhide Ps).keepF (hX.trans m.kept)) mS
    rw [decide_eq_true (show S = S from rfl)] at h
    exact kw_of m h
  have Q56 : Hid (∀ X : World, Keeps (fun _ => False) W X → ∀ m : KW X, Calls Tryz.prog 56 #[.slice (some ⟨ge, 0, none⟩) l.len ke, .slice lo l.len lc] m.wd fun e w' => e = .returned (.bool true) ∧ ∃ m2 : KW X, w' = m2.wd) := fun X hX m =>
    kw_of m (eqExprs_same _ Z (l.size + 1) l (by omega) hls m.wd 0 up _ _ (((unhide HG).e.slE 0).keepF (hX.trans m.kept)) ((unhide Px).keepF (hX.trans m.kept)))
  have Q14 : Hid (∀ X : World, Keeps (fun _ => False) W X → ∀ m : KW X, Calls Tryz.prog 14 #[.agg #[.bool h, .slice (some ⟨gr, 0, none⟩) vals.length kr], .agg #[.bool h, .slice uo vals.length uc]] m.wd fun e w' => e = .returned (.bool true) ∧ ∃ m2 : KW X, w' = m2.wd) := fun X hX m => by
    have hq := eqRow_v m.wd h h _ _ vals vals ((unhide HG).r.row.keepF (hX.trans m.kept)) ((unhide Pr).keepF (hX.trans m.kept)) mr
    rw [decide_eq_true (show h = h from rfl), decide_eq_true (show vals = vals from rfl)] at hq
    simp only [Bool.and_true] at hq
    exact kw_of m hq
  have HSP := hide (fun (X : World) (hX : Keeps (fun _ => False) W X) => spareSchema_v X gs S.length ks _ ((unhide HG).s.keepF hX) lS)
  have HSE := hide (fun (X : World) (hX : Keeps (fun _ => False) W X) => spareExprs_v (fun _ => True) (l.size + 1) l (by omega) hls X _ ((unhide HG).e.keepF hX))
  have HSV := hide (fun (X : World) (hX : Keeps (fun _ => False) W X) => spareVals_v X gr vals.length kr _ ((unhide HG).r.keepF hX) lr)
  have a0 := cl1 (unhide B0)
  obtain ⟨a1, a2⟩ := cl2 (unhide B1)
  obtain ⟨a3, a4, a5, a6, a7⟩ := cl5 (unhide HG).blk
  clear g0 g1 hkW hS hx hr hG hls
  go_enter Tryz.func26, Tryz.ntmps26
  go_wp2_with fail
  have k0 := fun m => (unhide HSK W (Keeps.refl _ _) m).1
  have k1 := fun m => (unhide HSK W (Keeps.refl _ _) m).2.1
  have k2 := fun m => (unhide HSK W (Keeps.refl _ _) m).2.2.1
  have k3 := fun m => (unhide HSK W (Keeps.refl _ _) m).2.2.2.1
  have k4 := fun m => (unhide HSK W (Keeps.refl _ _) m).2.2.2.2.1
  have k5 := fun m => (unhide HSK W (Keeps.refl _ _) m).2.2.2.2.2.1
  have k6 := fun m => (unhide HSK W (Keeps.refl _ _) m).2.2.2.2.2.2.1
  have k7 := fun m => (unhide HSK W (Keeps.refl _ _) m).2.2.2.2.2.2.2
  refine region_kept (by kernel_rfl) (by kernel_rfl) ?_
  repeat (go_big_quiet_step ((first | (go_at_call 55; exact unhide Q55 W (Keeps.refl _ _) _) | (go_at_call 56; exact unhide Q56 W (Keeps.refl _ _) _) | (go_at_call 14; exact unhide Q14 W (Keeps.refl _ _) _))))
  refine wpQuiet_nil ?_
  rintro _ ⟨n1, rfl⟩
  clear k0 k1 k2 k3 k4 k5 k6 k7 a0 a1 a2 a3 a4 a5 a6 a7
  have K1 := hide n1.kept
  generalize n1.wd = X1 at *
  go_wp2_with fail
  go_loopw [11] (fun i wr => i = .int .i64 0 ∧ X1 = wr) (fun _ _ => 0)
  case atStart => exact ⟨rfl, rfl⟩
  case round =>
    obtain ⟨rfl, rfl⟩ := hrel
    obtain ⟨_, _, _, b3, b4, b5, _, b7⟩ := unhide HSK X1 (unhide K1) ⟨X1, Keeps.refl _ _⟩
    go_wp2_with fail
    refine (unhide HSP X1 (unhide K1)).mono ?_
    rintro e w2 ⟨rfl, hk⟩
    have K2 := hide ((unhide K1).trans hk)
    clear b3 b4 b5 b7 hk
    obtain ⟨_, _, _, b3, b4, b5, _, b7⟩ := unhide HSK w2 (unhide K2) ⟨w2, Keeps.refl _ _⟩
    go_wp2_with fail
    refine (unhide HSE w2 (unhide K2)).mono ?_
    rintro e w3 ⟨rfl, hk⟩
    have K3 := hide ((unhide K2).trans hk)
    clear b3 b4 b5 b7 hk
    obtain ⟨_, _, _, b3, b4, b5, _, b7⟩ := unhide HSK w3 (unhide K3) ⟨w3, Keeps.refl _ _⟩
    go_wp2_with fail
    refine (unhide HSV w3 (unhide K3)).mono ?_
    rintro e w4 ⟨rfl, hk⟩
    have K4 := hide ((unhide K3).trans hk)
    clear b3 b4 b5 b7 hk
    go_wp2_with fail
    go_ret
    exact ⟨rfl, (unhide HWX).trans (unhide K4)⟩
end Go.Proofs.YtiinohibmcefkaaGreatDoor
