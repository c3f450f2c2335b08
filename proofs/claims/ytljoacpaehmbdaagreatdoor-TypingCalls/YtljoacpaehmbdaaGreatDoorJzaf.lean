import Derived.Test.YtljoacpaehmbdaaGreatDoorJzae
import Derived.Test.YtljoacpaehmbdaaGreatDoorJzac
namespace Go.Proofs.YtljoacpaehmbdaaGreatDoor
open Go.RowKit Go.Maps

set_option maxRecDepth 100000 in
set_option maxHeartbeats 1600000 in
theorem wellStmt_8 (Z : Zone) (f : Txt) (ex : EL) (th el : SL) (hsz : ex.size ≤ 4294967294) (w : World) (up : Nat) (xv : Value) (tao eao : Option Addr) (tcap ecap : Nat) (hX : SlE Z w up xv ex)
    (hT : ∀ w', Keeps (fun _ => False) w w' → Calls Tryz.prog 52 #[.slice tao th.len tcap] w' fun e w'' => e = .returned (.bool (wellS th)) ∧ Keeps (fun _ => False) w' w'')
    (hE : ∀ w', Keeps (fun _ => False) w w' → Calls Tryz.prog 52 #[.slice eao el.len ecap] w' fun e w'' => e = .returned (.bool (wellS el)) ∧ Keeps (fun _ => False) w' w'') :
    Calls Tryz.prog 75 #[stV 8 f xv (.slice tao th.len tcap) (.slice eao el.len ecap)] w fun e w' => e = .returned (.bool (stmtB 8 f ex th el)) ∧ Keeps (fun _ => False) w w' := by
  rw [stmtB_8 f ex th el]
  obtain ⟨xao, xcap, xb, xoff, rfl, hxcap, hxa, hxx⟩ := hX.open
  obtain ⟨HB, hxb, hxc⟩ := boxedT w #[.int .i64 8, str f, .slice xao ex.len xcap, .slice tao th.len tcap, .slice eao el.len ecap] 66
  have c0 := hxc 0 (.int .i64 8) rfl
  have c1 := hxc 1 (str f) rfl
  have c2 := hxc 2 (.slice xao ex.len xcap) rfl
  have c3 := hxc 3 (.slice tao th.len tcap) rfl
  have c4 := hxc 4 (.slice eao el.len ecap) rfl
  have HT := hide hT
  have HE := hide hE
  clear hxc hT hE
  cases f with
  | cons fc fr =>
    rw [decide_eq_false (by simp), Bool.false_and]
    clear hX hxx hxa
    go_enter Tryz.func75, Tryz.ntmps75
    go_wp2_with fail
    go_ret
    exact ⟨rfl, unhide HB⟩
  | nil =>
    rw [decide_eq_true rfl, Bool.true_and]
    by_cases hx1 : ex.len = 1
    · match ex, hx1 with
      | .cons xo xn xs xk .nil, _ =>
        obtain ⟨rfl, hp⟩ := hxa (by simp [EL.len])
        obtain ⟨h1, h2, h3, h4, h5, ⟨kao, kcap, h6, h7, h8⟩, h9⟩ := hxx
        have HW := hide (wellExpr_v Z (xk.size + 1) xk (by omega) (by simp [EL.size] at hsz; omega) xo xn xs (w.alloc (.cells #[.int .i64 8, str [], .slice (some ⟨xb, xoff, none⟩) (EL.cons xo xn xs xk .nil).len xcap, .slice tao th.len tcap, .slice eao el.len ecap] 66)) xb (.slice kao xk.len kcap) (SlE.keepF ⟨kao, kcap, rfl, h7, h8⟩ (unhide HB)))
        have e3 := ((unhide HB).cell h1 id).trans h3
        have e4 := ((unhide HB).cell h1 id).trans h4
        have e5 := ((unhide HB).cell h1 id).trans h5
        have e6 := ((unhide HB).cell h1 id).trans h6
        have ewe : wellE (EL.cons xo xn xs xk .nil) = (rootB xo xn xs xk.len && wellE xk) := by simp [wellE]
        have el1 : (EL.cons xo xn xs xk .nil).len = 1 := rfl
        rw [ewe, el1, decide_eq_true rfl, Bool.true_and]
        simp only [el1] at HW c0 c1 c2 c3 c4 hxb HB e3 e4 e5 e6
        clear hX h2 h8 h9 h3 h4 h5 h6 hxa ewe
        cases hv : (rootB xo xn xs xk.len && wellE xk) with
        | false =>
          rw [hv] at HW
          rw [Bool.false_and]
          go_enter Tryz.func75, Tryz.ntmps75
          go_wp2_with (go_at_call 44; refine (unhide HW).mono ?_; rintro e w2 ⟨rfl, hk2⟩; have HK2 := hide hk2; clear hk2)
          go_ret
          exact ⟨rfl, (unhide HB).trans (unhide HK2)⟩
        | true =>
          rw [hv] at HW
          rw [Bool.true_and]
          generalize wellS th = bt at HT ⊢
          generalize wellS el = be at HE ⊢
          cases bt with
          | false =>
            rw [Bool.false_and]
            go_enter Tryz.func75, Tryz.ntmps75
            go_wp2_with (first
              | (go_at_call 44; refine (unhide HW).mono ?_; rintro e w2 ⟨rfl, hk2⟩; have HK2 := hide hk2; have r0 := (hk2.cell (o := 0) hxb id).trans c0; have r3 := (hk2.cell (o := 3) hxb id).trans c3; have r4 := (hk2.cell (o := 4) hxb id).trans c4; clear hk2)
              | (go_at_call_of 52 (Value.slice tao th.len tcap); refine (unhide HT _ ((unhide HB).trans (unhide HK2))).mono ?_; rintro e w3 ⟨rfl, hk3⟩; have HK3 := hide ((unhide HK2).trans hk3); clear hk3))
            go_ret
            exact ⟨rfl, (unhide HB).trans (unhide HK3)⟩
          | true =>
            rw [Bool.true_and]
            go_enter Tryz.func75, Tryz.ntmps75
            go_wp2_with (first
              | (go_at_call 44; refine (unhide HW).mono ?_; rintro e w2 ⟨rfl, hk2⟩; have HJ2 := hide hk2; have HK2 := hide hk2; have r0 := (hk2.cell (o := 0) hxb id).trans c0; have r3 := (hk2.cell (o := 3) hxb id).trans c3; clear hk2)
              | (go_at_call_of 52 (Value.slice tao th.len tcap); refine (unhide HT _ ((unhide HB).trans (unhide HK2))).mono ?_; rintro e w3 ⟨rfl, hk3⟩; have HK3 := hide ((unhide HK2).trans hk3); have r4 := ((unhide HK3).cell (o := 4) hxb id).trans c4; clear hk3)
              | (go_at_call_of 52 (Value.slice eao el.len ecap); refine (unhide HE _ ((unhide HB).trans (unhide HK3))).mono ?_; rintro e w4 ⟨rfl, hk4⟩; have HK4 := hide ((unhide HK3).trans hk4); clear hk4))
            go_ret
            exact ⟨rfl, (unhide HB).trans (unhide HK4)⟩
    · rw [decide_eq_false hx1, Bool.false_and]
      have d1 : ((ex.len : Int) != 1) = true := by simp; omega
      clear hX hxx hxa
      go_enter Tryz.func75, Tryz.ntmps75
      go_wp2_with fail
      go_ret
      exact ⟨rfl, unhide HB⟩

set_option maxRecDepth 100000 in
set_option maxHeartbeats 1600000 in
theorem rWell_v (Z : Zone) (N : Nat) : ∀ (l : SL), l.size < N → l.size ≤ 4294967294 → ∀ (w : World) (up : Nat) (v : Value), SlS Z w up v l →
    Calls Tryz.prog 52 #[v] w fun e w' => e = .returned (.bool (wellS l)) ∧ Keeps (fun _ => False) w w' := by
  induction N with
  | zero => intro l h; omega
  | succ N ih =>
    intro l hsz hlen' w up v hS
    have hlen : l.len ≤ 4294967294 := by have := SL.len_le l; omega
    obtain ⟨ao, cap, b, off, rfl, hcap, ha, hx⟩ := hS.open
    have IH := hide ih
    have HX := hide hx
    have HA := hide ha
    clear hS ih hx ha
    go_enter Tryz.func52, Tryz.ntmps52
    go_wp2_with fail
    go_loopw [3] (fun i wr => ∃ (rest : SL) (k : Nat), i = .int .i64 k ∧ k + rest.len = l.len ∧ rest.size ≤ l.size ∧ wellS rest = wellS l ∧ Keeps (fun _ => False) w wr ∧ StIn Z wr rest b (off + k * 5)) (fun i _ => l.len - (intOf i).toNat)
    case atStart => exact ⟨l, 0, rfl, by omega, Nat.le_refl _, rfl, Keeps.refl _ _, by simpa using unhide HX⟩
    case round =>
      obtain ⟨rest, k, rfl, hkl, hrs, hwe, hkeep, hr⟩ := hrel
      have HK := hide hkeep
      clear hkeep
      cases rest with
      | nil =>
        simp only [SL.len, SL.size, wellS] at hkl hrs hwe
        have HWE := hide hwe
        clear hr hwe
        have i1 : ¬ (k : Int) < (l.len : Int) := by omega
        go_wp2_with fail
        go_ret
        exact ⟨ret_bool (by first | exact unhide HWE | exact (unhide HWE).symm), unhide HK⟩
      | cons op f ex th el rest =>
        obtain ⟨h1, h2, h3, h4, ⟨xv, h5, hxs⟩, ⟨tao, tcap, h6, h7, h8⟩, ⟨eao, ecap, g6, g7, g8⟩, h9⟩ := hr
        rw [wellS_cons] at hwe
        simp only [SL.len, SL.size] at hkl hrs
        obtain ⟨rfl, hp⟩ := (unhide HA) (by omega)
        have HTH : Hid (SlS Z wr b (.slice tao th.len tcap) th) := ⟨tao, tcap, rfl, h7, h8⟩
        have HEL : Hid (SlS Z wr b (.slice eao el.len ecap) el) := ⟨eao, ecap, rfl, g7, g8⟩
        have HEX := hide hxs
        obtain ⟨xao, xcap, rfl, hxl⟩ := hxs.head
        have HR := hide h9
        have HWE := hide hwe
        have i1 : (k : Int) < (l.len : Int) := by omega
        have i0 : (0 : Int) ≤ (k : Int) := by omega
        have hst : Calls Tryz.prog 75 #[stV op f (.slice xao ex.len xcap) (.slice tao th.len tcap) (.slice eao el.len ecap)] wr fun e w' => e = .returned (.bool (stmtB op f ex th el)) ∧ Keeps (fun _ => False) wr w' := by
          by_cases q1 : op = 1 ∨ op = 2 ∨ op = 3 ∨ op = 4
          · exact wellStmt_14 Z op q1 f ex th el (by omega) wr b _ tao eao tcap ecap (unhide HEX)
          by_cases q5 : op = 5
          · exact wellStmt_5 Z op q5 f ex th el (by omega) wr b _ tao eao tcap ecap (unhide HEX)
          by_cases q6 : op = 6 ∨ op = 7
          · exact wellStmt_67 Z op q6 f ex th el (by omega) wr b _ tao eao tcap ecap (unhide HEX)
          by_cases q8 : op = 8
          · subst q8
            exact wellStmt_8 Z f ex th el (by omega) wr b _ tao eao tcap ecap (unhide HEX) (fun w' hk => unhide IH th (by omega) (by omega) w' b _ ((unhide HTH).keepF hk)) (fun w' hk => unhide IH el (by omega) (by omega) w' b _ ((unhide HEL).keepF hk))
          · exact wellStmt_no Z op (by omega) f ex th el (by omega) wr b _ tao eao tcap ecap (unhide HEX)
        have HST := hide hst
        clear h2 h8 h9 hwe hxs g8 hst
        generalize stmtB op f ex th el = bs at HST HWE
        cases bs with
        | false =>
          go_wp2_with (go_at_call 75; refine (unhide HST).mono ?_; rintro e w1 ⟨rfl, hk1⟩)
          go_ret
          exact ⟨ret_bool (by have := unhide HWE; simpa using this), (unhide HK).trans hk1⟩
        | true =>
          go_wp2_with (go_at_call 75; refine (unhide HST).mono ?_; rintro e w1 ⟨rfl, hk1⟩; have HK1 := hide hk1; clear hk1)
          go_roundw
          case rel =>
            refine ⟨rest, k + 1, by go_num, by omega, by omega, by have := unhide HWE; simpa using this, (unhide HK).trans (unhide HK1), ?_⟩
            rw [show off + (k + 1) * 5 = off + k * 5 + 5 by omega]
            exact (unhide HR).keepF (unhide HK1)
          case measure => simp [intOf]; omega
end Go.Proofs.YtljoacpaehmbdaaGreatDoor
namespace Go.Proofs.YtljoacpaehmbdaaGreatDoor
open Go.RowKit Go.Maps

set_option maxRecDepth 100000 in
set_option maxHeartbeats 800000 in
theorem rCheck_v (Z : Zone) (l : SL) (hsz : l.size ≤ 4294967294) (w : World) (up : Nat) (v : Value) (hS : SlS Z w up v l) :
    Calls Tryz.prog 30 #[v] w fun e w' => e = .returned (.int .i64 (checkS l)) ∧ Keeps (fun _ => False) w w' := by
  have HW := hide (rWell_v Z (l.size + 1) l (by omega) hsz w up v hS)
  have HC := fun (w' : World) (hk : Keeps (fun _ => False) w w') => hide (rCount_v Z (l.size + 1) l (by omega) hsz w' up v (hS.keepF hk))
  have HD := fun (w' : World) (hk : Keeps (fun _ => False) w w') => hide (rDepth_v Z (l.size + 1) l (by omega) hsz w' up v (hS.keepF hk))
  obtain ⟨ao, cap, rfl, hc⟩ := hS.head
  unfold checkS
  clear hS
  generalize wellS l = bw at HW ⊢
  generalize countS l = nc at HC ⊢
  generalize depthS l = nd at HD ⊢
  cases bw with
  | false =>
    rw [if_pos rfl]
    go_enter Tryz.func30, Tryz.ntmps30
    go_wp2_with (go_at_call 52; refine (unhide HW).mono ?_; rintro e w1 ⟨rfl, hk1⟩)
    go_ret
    exact ⟨rfl, hk1⟩
  | true =>
    rw [if_neg (by simp)]
    by_cases h32 : 32 < nc
    · rw [if_pos h32]
      have g32 : (32 : Int) < (nc : Int) := by omega
      go_enter Tryz.func30, Tryz.ntmps30
      go_wp2_with (first
        | (go_at_call 52; refine (unhide HW).mono ?_; rintro e w1 ⟨rfl, hk1⟩; have HK1 := hide hk1; clear hk1)
        | (go_at_call 53; refine (unhide (HC _ (unhide HK1))).mono ?_; rintro e w2 ⟨rfl, hk2⟩; have HK2 := hide ((unhide HK1).trans hk2); clear hk2))
      go_ret
      exact ⟨rfl, unhide HK2⟩
    · rw [if_neg h32]
      have g32 : ¬ (32 : Int) < (nc : Int) := by omega
      by_cases h12 : 12 < nd
      · rw [if_pos h12]
        have g12 : (12 : Int) < (nd : Int) := by omega
        go_enter Tryz.func30, Tryz.ntmps30
        go_wp2_with (first
          | (go_at_call 52; refine (unhide HW).mono ?_; rintro e w1 ⟨rfl, hk1⟩; have HK1 := hide hk1; clear hk1)
          | (go_at_call 53; refine (unhide (HC _ (unhide HK1))).mono ?_; rintro e w2 ⟨rfl, hk2⟩; have HK2 := hide ((unhide HK1).trans hk2); clear hk2)
          | (go_at_call 54; refine (unhide (HD _ (unhide HK2))).mono ?_; rintro e w3 ⟨rfl, hk3⟩; have HK3 := hide ((unhide HK2).trans hk3); clear hk3))
        go_ret
        exact ⟨rfl, unhide HK3⟩
      · rw [if_neg h12]
        have g12 : ¬ (12 : Int) < (nd : Int) := by omega
        go_enter Tryz.func30, Tryz.ntmps30
        go_wp2_with (first
          | (go_at_call 52; refine (unhide HW).mono ?_; rintro e w1 ⟨rfl, hk1⟩; have HK1 := hide hk1; clear hk1)
          | (go_at_call 53; refine (unhide (HC _ (unhide HK1))).mono ?_; rintro e w2 ⟨rfl, hk2⟩; have HK2 := hide ((unhide HK1).trans hk2); clear hk2)
          | (go_at_call 54; refine (unhide (HD _ (unhide HK2))).mono ?_; rintro e w3 ⟨rfl, hk3⟩; have HK3 := hide ((unhide HK2).trans hk3); clear hk3))
        go_ret
        exact ⟨rfl, unhide HK3⟩

end Go.Proofs.YtljoacpaehmbdaaGreatDoor
namespace Go.Proofs.YtljoacpaehmbdaaGreatDoor
open Go.RowKit Go.Maps

set_option maxRecDepth 100000 in
set_option maxHeartbeats 800000 in
theorem eqExpr_same (op n : Int) (s : Txt) (ka kb ca cb : Nat) (oa ob : Option Addr) (w : World)
    (hK : ∀ w', Keeps (fun _ => False) w w' → Calls Tryz.prog 40 #[.slice oa ka ca, .slice ob kb cb] w' fun e w'' => e = .returned (.bool true) ∧ Keeps (fun _ => False) w' w'') :
    Calls Tryz.prog 22 #[exV op n s (.slice oa ka ca), exV op n s (.slice ob kb cb)] w fun e w' => e = .returned (.bool true) ∧ Keeps (fun _ => False) w w' := by
  have HK := hide hK
  have HB : Hid (Keeps (fun _ => False) w ((w.alloc (.cells #[.int .i64 op, .int .i64 n, str s, .slice oa ka ca] 29)).alloc (.cells #[.int .i64 op, .int .i64 n, str s, .slice ob kb cb] 29))) := hide (((Keeps.refl _ w).alloc _).alloc _)
  clear hK
  go_enter Tryz.func22, Tryz.ntmps22
  go_wp2_with (go_at_call 40; refine (unhide HK _ (unhide HB)).mono ?_; rintro e w1 ⟨rfl, hk1⟩)
  go_ret
  exact ⟨rfl, (unhide HB).trans hk1⟩

set_option maxRecDepth 100000 in
set_option maxHeartbeats 1600000 in
theorem eqExprs_same (Z Y : Zone) (N : Nat) : ∀ (l : EL), l.size < N → l.size ≤ 4294967294 → ∀ (w : World) (ua ub : Nat) (va vb : Value), SlE Z w ua va l → SlE Y w ub vb l →
    Calls Tryz.prog 40 #[va, vb] w fun e w' => e = .returned (.bool true) ∧ Keeps (fun _ => False) w w' := by
  induction N with
  | zero => intro l h; omega
  | succ N ih =>
    intro l hsz hlen' w ua ub va vb hS hT
    have hlen : l.len ≤ 4294967294 := by have := EL.len_le l; omega
    obtain ⟨ao, ac, a, ai, rfl, hac, haa, hax⟩ := hS.open
    obtain ⟨bo, bc, b, bi, rfl, hbc, hba, hbx⟩ := hT.open
    have IH := hide ih
    have HX := hide hax
    have HY := hide hbx
    have HA := hide haa
    have HB := hide hba
    clear hS hT ih hax hbx haa hba
    go_enter Tryz.func40, Tryz.ntmps40
    go_wp2_with fail
    go_loopw [5] (fun i wr => ∃ (rest : EL) (k : Nat), i = .int .i64 k ∧ k + rest.len = l.len ∧ rest.size ≤ l.size ∧ Keeps (fun _ => False) w wr ∧ ExIn Z wr rest a (ai + k * 4) ∧ ExIn Y wr rest b (bi + k * 4)) (fun i _ => l.len - (intOf i).toNat)
    case atStart => exact ⟨l, 0, rfl, by omega, Nat.le_refl _, Keeps.refl _ _, by simpa using unhide HX, by simpa using unhide HY⟩
    case round =>
      obtain ⟨rest, k, rfl, hkl, hrs, hkeep, hr, hq⟩ := hrel
      have HK := hide hkeep
      clear hkeep
      cases rest with
      | nil =>
        simp only [EL.len, EL.size] at hkl hrs
        clear hr hq
        have i1 : ¬ (k : Int) < (l.len : Int) := by omega
        go_wp2_with fail
        go_ret
        exact ⟨rfl, unhide HK⟩
      | cons op n s kids rest =>
        obtain ⟨h1, h2, h3, h4, h5, ⟨kao, kac, h6, h7, h8⟩, h9⟩ := hr
        obtain ⟨g1, g2, g3, g4, g5, ⟨kbo, kbc, g6, g7, g8⟩, g9⟩ := hq
        simp only [EL.len, EL.size] at hkl hrs
        obtain ⟨rfl, hp⟩ := (unhide HA) (by omega)
        obtain ⟨rfl, hp'⟩ := (unhide HB) (by omega)
        have hka : SlE Z wr a (.slice kao kids.len kac) kids := ⟨kao, kac, rfl, h7, h8⟩
        have hkb : SlE Y wr b (.slice kbo kids.len kbc) kids := ⟨kbo, kbc, rfl, g7, g8⟩
        have HR := hide h9
        have HQ := hide g9
        have i1 : (k : Int) < (l.len : Int) := by omega
        have i0 : (0 : Int) ≤ (k : Int) := by omega
        have HE := hide (fun (m : KW wr) => kw_of m (eqExpr_same op n s kids.len kids.len kac kbc kao kbo m.wd (fun w' hk => unhide IH kids (by omega) (by omega) w' a b _ _ (hka.keepF (m.kept.trans hk)) (hkb.keepF (m.kept.trans hk)))))
        have f0 : ∀ m : KW wr, m.wd.cell? ⟨a, ai + k * 4, none⟩ = some (.int .i64 op) := fun m => (m.kept.cell h1 id).trans h3
        have f1 : ∀ m : KW wr, m.wd.cell? ⟨a, ai + k * 4 + 1, none⟩ = some (.int .i64 n) := fun m => (m.kept.cell h1 id).trans h4
        have f2 : ∀ m : KW wr, m.wd.cell? ⟨a, ai + k * 4 + 2, none⟩ = some (str s) := fun m => (m.kept.cell h1 id).trans h5
        have f3 : ∀ m : KW wr, m.wd.cell? ⟨a, ai + k * 4 + 3, none⟩ = some (.slice kao kids.len kac) := fun m => (m.kept.cell h1 id).trans h6
        have e0 : ∀ m : KW wr, m.wd.cell? ⟨b, bi + k * 4, none⟩ = some (.int .i64 op) := fun m => (m.kept.cell g1 id).trans g3
        have e1 : ∀ m : KW wr, m.wd.cell? ⟨b, bi + k * 4 + 1, none⟩ = some (.int .i64 n) := fun m => (m.kept.cell g1 id).trans g4
        have e2 : ∀ m : KW wr, m.wd.cell? ⟨b, bi + k * 4 + 2, none⟩ = some (str s) := fun m => (m.kept.cell g1 id).trans g5
        have e3 : ∀ m : KW wr, m.wd.cell? ⟨b, bi + k * 4 + 3, none⟩ = some (.slice kbo kids.len kbc) := fun m => (m.kept.cell g1 id).trans g6
        clear h2 h8 h9 g2 g8 g9 hka hkb
        go_wp2_with fail
        refine region_kept (by kernel_rfl) (by kernel_rfl) ?_
        repeat (go_big_quiet_step ((go_at_call 22; exact unhide HE _)))
        refine wpQuiet_nil ?_
        rintro _ ⟨nq, rfl⟩
        have HK1 := hide nq.kept
        go_wp2_with fail
        go_roundw
        case rel =>
          refine ⟨rest, k + 1, by go_num, by omega, by omega, (unhide HK).trans (unhide HK1), ?_, ?_⟩
          · rw [show ai + (k + 1) * 4 = ai + k * 4 + 4 by omega]
            exact (unhide HR).keepF (unhide HK1)
          · rw [show bi + (k + 1) * 4 = bi + k * 4 + 4 by omega]
            exact (unhide HQ).keepF (unhide HK1)
        case measure => simp [intOf]; omega

set_option maxRecDepth 100000 in
set_option maxHeartbeats 1600000 in
theorem eqStmts_same (Z Y : Zone) (N : Nat) : ∀ (l : SL), l.size < N → l.size ≤ 4294967294 → ∀ (w : World) (ua ub : Nat) (va vb : Value), SlS Z w ua va l → SlS Y w ub vb l →
    Calls Tryz.prog 29 #[va, vb] w fun e w' => e = .returned (.bool true) ∧ Keeps (fun _ => False) w w' := by
  induction N with
  | zero => intro l h; omega
  | succ N ih =>
    intro l hsz hlen' w ua ub va vb hS hT
    have hlen : l.len ≤ 4294967294 := by have := SL.len_le l; omega
    obtain ⟨ao, ac, a, ai, rfl, hac, haa, hax⟩ := hS.open
    obtain ⟨bo, bc, b, bi, rfl, hbc, hba, hbx⟩ := hT.open
    have IH := hide ih
    have HX := hide hax
    have HY := hide hbx
    have HA := hide haa
    have HB := hide hba
    clear hS hT ih hax hbx haa hba
    go_enter Tryz.func29, Tryz.ntmps29
    go_wp2_with fail
    go_loopw [5] (fun i wr => ∃ (rest : SL) (k : Nat), i = .int .i64 k ∧ k + rest.len = l.len ∧ rest.size ≤ l.size ∧ Keeps (fun _ => False) w wr ∧ StIn Z wr rest a (ai + k * 5) ∧ StIn Y wr rest b (bi + k * 5)) (fun i _ => l.len - (intOf i).toNat)
    case atStart => exact ⟨l, 0, rfl, by omega, Nat.le_refl _, Keeps.refl _ _, by simpa using unhide HX, by simpa using unhide HY⟩
    case round =>
      obtain ⟨rest, k, rfl, hkl, hrs, hkeep, hr, hq⟩ := hrel
      have HK := hide hkeep
      clear hkeep
      cases rest with
      | nil =>
        simp only [SL.len, SL.size] at hkl hrs
        clear hr hq
        have i1 : ¬ (k : Int) < (l.len : Int) := by omega
        go_wp2_with fail
        go_ret
        exact ⟨rfl, unhide HK⟩
      | cons op f ex th el rest =>
        obtain ⟨h1, h2, h3, h4, ⟨xv, h5, hxs⟩, ⟨tao, tac, h6, h7, h8⟩, ⟨eao, eac, j6, j7, j8⟩, h9⟩ := hr
        obtain ⟨g1, g2, g3, g4, ⟨yv, g5, gxs⟩, ⟨tbo, tbc, g6, g7, g8⟩, ⟨ebo, ebc, k6, k7, k8⟩, g9⟩ := hq
        simp only [SL.len, SL.size] at hkl hrs
        obtain ⟨rfl, hp⟩ := (unhide HA) (by omega)
        obtain ⟨rfl, hp'⟩ := (unhide HB) (by omega)
        have hta : SlS Z wr a (.slice tao th.len tac) th := ⟨tao, tac, rfl, h7, h8⟩
        have htb : SlS Y wr b (.slice tbo th.len tbc) th := ⟨tbo, tbc, rfl, g7, g8⟩
        have hea : SlS Z wr a (.slice eao el.len eac) el := ⟨eao, eac, rfl, j7, j8⟩
        have heb : SlS Y wr b (.slice ebo el.len ebc) el := ⟨ebo, ebc, rfl, k7, k8⟩
        obtain ⟨xao, xac, rfl, hxl⟩ := hxs.head
        obtain ⟨xbo, xbc, rfl, gxl⟩ := gxs.head
        have HR := hide h9
        have HQ := hide g9
        have i1 : (k : Int) < (l.len : Int) := by omega
        have i0 : (0 : Int) ≤ (k : Int) := by omega
        have HEX := fun (w' : World) (hk : Keeps (fun _ => False) wr w') => hide (eqExprs_same Z Y (ex.size + 1) ex (by omega) (by omega) w' a b _ _ (hxs.keepF hk) (gxs.keepF hk))
        have HET := fun (w' : World) (hk : Keeps (fun _ => False) wr w') => hide (unhide IH th (by omega) (by omega) w' a b _ _ (hta.keepF hk) (htb.keepF hk))
        have HEE := fun (w' : World) (hk : Keeps (fun _ => False) wr w') => hide (unhide IH el (by omega) (by omega) w' a b _ _ (hea.keepF hk) (heb.keepF hk))
        clear h2 h8 h9 g2 g8 g9 j8 k8 hta htb hea heb hxs gxs
        obtain ⟨HBA, hab, hac'⟩ := boxedT wr #[.int .i64 op, str f, .slice xao ex.len xac, .slice tao th.len tac, .slice eao el.len eac] 66
        obtain ⟨HBB, hbb, hbc'⟩ := boxedT (wr.alloc (.cells #[.int .i64 op, str f, .slice xao ex.len xac, .slice tao th.len tac, .slice eao el.len eac] 66)) #[.int .i64 op, str f, .slice xbo ex.len xbc, .slice tbo th.len tbc, .slice ebo el.len ebc] 66
        have hsz1 : (wr.alloc (.cells #[.int .i64 op, str f, .slice xao ex.len xac, .slice tao th.len tac, .slice eao el.len eac] 66)).heap.size = wr.heap.size + 1 := by simp
        have ca3 := ((unhide HBB).cell (o := 3) hab id).trans (hac' 3 (.slice tao th.len tac) rfl)
        have ca4 := ((unhide HBB).cell (o := 4) hab id).trans (hac' 4 (.slice eao el.len eac) rfl)
        have cb3 := hbc' 3 (.slice tbo th.len tbc) rfl
        have cb4 := hbc' 4 (.slice ebo el.len ebc) rfl
        have hab2 := Nat.lt_trans hab hbb
        have HB2 := hide ((unhide HBA).trans (unhide HBB))
        rw [hsz1] at cb3 cb4 hbb
        clear hac' hbc' hsz1 HBA HBB
        go_wp2_with (first
          | (go_at_call 40; refine (unhide (HEX _ (unhide HB2))).mono ?_; rintro e w1 ⟨rfl, hk1⟩; have HJ1 := hide hk1; have HK1 := hide ((unhide HB2).trans hk1); have ra3 := (hk1.cell (o := 3) hab2 id).trans ca3; have rb3 := (hk1.cell (o := 3) hbb id).trans cb3; clear hk1)
          | (go_at_call_of 29 (Value.slice tao th.len tac); refine (unhide (HET _ (unhide HK1))).mono ?_; rintro e w2 ⟨rfl, hk2⟩; have HJ2 := hide ((unhide HJ1).trans hk2); have HK2 := hide ((unhide HK1).trans hk2); have ra4 := ((unhide HJ2).cell (o := 4) hab2 id).trans ca4; have rb4 := ((unhide HJ2).cell (o := 4) hbb id).trans cb4; clear hk2)
          | (go_at_call_of 29 (Value.slice eao el.len eac); refine (unhide (HEE _ (unhide HK2))).mono ?_; rintro e w3 ⟨rfl, hk3⟩; have HK3 := hide ((unhide HK2).trans hk3); clear hk3))
        go_roundw
        case rel =>
          refine ⟨rest, k + 1, by go_num, by omega, by omega, (unhide HK).trans (unhide HK3), ?_, ?_⟩
          · rw [show ai + (k + 1) * 5 = ai + k * 5 + 5 by omega]
            exact (unhide HR).keepF (unhide HK3)
          · rw [show bi + (k + 1) * 5 = bi + k * 5 + 5 by omega]
            exact (unhide HQ).keepF (unhide HK3)
        case measure => simp [intOf]; omega
end Go.Proofs.YtljoacpaehmbdaaGreatDoor
namespace Go.Proofs.YtljoacpaehmbdaaGreatDoor
open Go.RowKit Go.Maps

theorem refField_none (S : List FieldA) (sv : Value) (nm : Txt) (w : World) (h : FldsAt w sv S) (hl : S.length ≤ 8) (hfo : fieldOf S nm = none) :
    Calls Tryz.prog 55 #[.agg #[sv], str nm] w fun e w' => e = .returned (.int .i64 (-1)) ∧ Keeps (fun _ => False) w w' :=
  (refField_v S sv nm w h hl).mono fun e w2 ⟨⟨i, he, hi⟩, hk⟩ => by
    rcases hi with ⟨_, rfl⟩ | ⟨_, _, _, h2, _⟩
    · exact ⟨he, hk⟩
    · rw [hfo] at h2; cases h2
theorem refField_some (S : List FieldA) (sv : Value) (nm : Txt) (w : World) (h : FldsAt w sv S) (hl : S.length ≤ 8) (f : FieldA) (hfo : fieldOf S nm = some f) :
    Calls Tryz.prog 55 #[.agg #[sv], str nm] w fun e w' => (∃ k : Nat, S[k]? = some f ∧ e = .returned (.int .i64 (k : Int))) ∧ Keeps (fun _ => False) w w' :=
  (refField_v S sv nm w h hl).mono fun e w2 ⟨⟨i, he, hi⟩, hk⟩ => by
    rcases hi with ⟨h2, _⟩ | ⟨k, g, h1, h2, rfl⟩
    · rw [hfo] at h2; cases h2
    · rw [hfo] at h2
      obtain rfl := Option.some.inj h2
      exact ⟨⟨k, h1, he⟩, hk⟩
/-- What the reference says of a field, or of has. -/
def refNamed (S : List FieldA) (op : Int) (s : Txt) : KA × Int := zeroK (if op = 4 then namedK S s else hasK S s)
set_option maxRecDepth 100000 in
set_option maxHeartbeats 2000000 in
theorem refF_v (S : List FieldA) (sv : Value) (op n : Int) (s : Txt) (ao : Option Addr) (xn xc : Nat) (w : World) (h : FldsAt w sv S) (hl : S.length ≤ 8) :
    Calls Tryz.prog 46 #[.agg #[sv], exV op n s (.slice ao xn xc)] w fun e w' => e = .returned (refV (refNamed S op s)) ∧ Keeps (fun _ => False) w w' := by
  obtain ⟨so, sc, rfl⟩ := RowAt.form h
  have HK0 : Hid (Keeps (fun _ => False) w (((w.alloc (.cells #[.slice so S.length sc] 26)).alloc (.cells #[.int .i64 op, .int .i64 n, str s, .slice ao xn xc] 29)).alloc (.cells #[.int .i64 0, .bool false, .int .i64 0] 58))) := (((Keeps.refl _ w).alloc _).alloc _).alloc _
  have e1 : (w.alloc (.cells #[.slice so S.length sc] 26)).heap.size = w.heap.size + 1 := by simp
  have e2 : ((w.alloc (.cells #[.slice so S.length sc] 26)).alloc (.cells #[.int .i64 op, .int .i64 n, str s, .slice ao xn xc] 29)).heap.size = w.heap.size + 2 := by simp
  have hb0 : (((w.alloc (.cells #[.slice so S.length sc] 26)).alloc (.cells #[.int .i64 op, .int .i64 n, str s, .slice ao xn xc] 29)).alloc (.cells #[.int .i64 0, .bool false, .int .i64 0] 58)).heap[w.heap.size]? = some (.cells #[.slice so S.length sc] 26 (0, 0)) := ((((Keeps.refl (fun _ => False) _).alloc _).alloc _).block _ (by rw [e1]; omega) id).trans (heap_alloc_new w _)
  have hb1 : (((w.alloc (.cells #[.slice so S.length sc] 26)).alloc (.cells #[.int .i64 op, .int .i64 n, str s, .slice ao xn xc] 29)).alloc (.cells #[.int .i64 0, .bool false, .int .i64 0] 58)).heap[w.heap.size + 1]? = some (.cells #[.int .i64 op, .int .i64 n, str s, .slice ao xn xc] 29 (0, 0)) := by
    have := heap_alloc_new (w.alloc (.cells #[.slice so S.length sc] 26)) (.cells #[.int .i64 op, .int .i64 n, str s, .slice ao xn xc] 29)
    rw [e1] at this
    exact (((Keeps.refl (fun _ => False) _).alloc _).block _ (by rw [e2]; omega) id).trans this
  have hb2 : (((w.alloc (.cells #[.slice so S.length sc] 26)).alloc (.cells #[.int .i64 op, .int .i64 n, str s, .slice ao xn xc] 29)).alloc (.cells #[.int .i64 0, .bool false, .int .i64 0] 58)).heap[w.heap.size + 2]? = some (.cells #[.int .i64 0, .bool false, .int .i64 0] 58 (0, 0)) := by
    have := heap_alloc_new ((w.alloc (.cells #[.slice so S.length sc] 26)).alloc (.cells #[.int .i64 op, .int .i64 n, str s, .slice ao xn xc] 29)) (.cells #[.int .i64 0, .bool false, .int .i64 0] 58)
    rw [e2] at this
    exact this
  have HC := fun w' (hk : Keeps (fun _ => False) w w') => hide (refField_v S (.slice so S.length sc) s w' (h.keepF hk) hl)
  have HF := hide h
  have B0 := hide hb0
  have B1 := hide hb1
  have B2 := hide hb2
  clear h hb0 hb1 hb2 e1 e2
  have done : ∀ (w1 w2 : World) (x : Array Value), Keeps (fun _ => False) w w1 → w1.heap[w.heap.size + 2]? = some (.cells x 58 (0, 0)) → x.size = 3 → ∀ (p q r : Value), let w3 := ((w1.setCell ⟨w.heap.size + 2, 0, none⟩ p).setCell ⟨w.heap.size + 2, 1, none⟩ q).setCell ⟨w.heap.size + 2, 2, none⟩ r
      w3.cell? ⟨w.heap.size + 2, 0, none⟩ = some p ∧ w3.cell? ⟨w.heap.size + 2, 1, none⟩ = some q ∧ w3.cell? ⟨w.heap.size + 2, 2, none⟩ = some r ∧ Keeps (fun _ => False) w w3 := by
    intro w1 _ x hk hx hs p q r w3
    have hb := heap_setCell_at (o := 2) (heap_setCell_at (o := 1) (heap_setCell_at (o := 0) hx p) q) r
    have hks : Keeps (fun t => t = w.heap.size + 2) w1 w3 := ((keeps_set _ _ _ _).trans (keeps_set _ _ _ _)).trans (keeps_set _ _ _ _)
    refine ⟨?_, ?_, ?_, hk.narrow hks (fun t e => by omega)⟩
    all_goals (rw [cell_of_blk hb]; simp [hs])
  have HD := hide done
  clear done
  cases hfo : fieldOf S s with
  | none =>
    have HR : Hid (refNamed S op s = (⟨0, false⟩, 90)) := by
      show _ = _
      unfold refNamed hasK namedK
      rw [hfo]
      split <;> rfl
    have HC1 := fun w' (hk : Keeps (fun _ => False) w w') => hide (refField_none S (.slice so S.length sc) s w' ((unhide HF).keepF hk) hl hfo)
    clear HC hfo
    go_enter Tryz.func46, Tryz.ntmps46
    go_wp2_with (go_at_call 55; refine (unhide (HC1 _ (unhide HK0))).mono ?_; rintro e w1 ⟨rfl, hk1⟩; have k0 := (hk1.block _ (lt_of_block (unhide B0)) id).trans (unhide B0); have k1 := (hk1.block _ (lt_of_block (unhide B1)) id).trans (unhide B1); have k2 := (hk1.block _ (lt_of_block (unhide B2)) id).trans (unhide B2); have p0 := cell_of_blk k0 0; have p1 := cell_of_blk k1 0; have m0 := cell_of_blk k2 0; have m1 := cell_of_blk k2 1; have m2 := cell_of_blk k2 2; simp at p0 p1 m0 m1 m2; have g0 := frozen_of_blk k2 0; have g1 := frozen_of_blk k2 1; have g2 := frozen_of_blk k2 2; have HK1 := hide ((unhide HK0).trans hk1); have K2 := hide k2; clear hk1 k0 k1 k2)
    obtain ⟨s0, s1, s2, hkf⟩ := unhide HD _ w1 _ (unhide HK1) (unhide K2) rfl (.int .i64 0) (.bool false) (.int .i64 90)
    refine bodyPost_ret (v := refV (⟨0, false⟩, 90)) (by simp [results, go_sem, s0, s1, s2]) rfl ?_
    exact ⟨by rw [unhide HR], hkf⟩
  | some f =>
    obtain ⟨fname, ftype, fopt⟩ := f
    have hpos : 0 < S.length := List.length_pos_of_mem (List.mem_of_find?_eq_some hfo)
    obtain ⟨b, off, c, e, hbl, hc⟩ := (unhide HF).cells hpos
    simp at e
    obtain ⟨rfl, rfl⟩ := e
    have HCC := hide hc
    clear hc
    have HC1 := fun w' (hk : Keeps (fun _ => False) w w') => hide (refField_some S _ s w' ((unhide HF).keepF hk) hl ⟨fname, ftype, fopt⟩ hfo)
    clear HC
    by_cases h4 : op = 4
    · have HR : Hid (refNamed S op s = (⟨ftype, fopt⟩, 0)) := by
        show _ = _
        unfold refNamed namedK
        rw [if_pos h4, hfo]
        rfl
      subst h4
      clear hfo
      go_enter Tryz.func46, Tryz.ntmps46
      go_wp2_with (go_at_call 55; refine (unhide (HC1 _ (unhide HK0))).mono ?_; rintro e w1 ⟨⟨k, hkf, rfl⟩, hk1⟩; have hkl := (List.getElem?_eq_some_iff.1 hkf).1; have i1 : (k : Int) < (S.length : Int) := (by omega); have i0 : (0 : Int) ≤ (k : Int) := (by omega); have i2 : ¬ (k : Int) < 0 := (by omega); have hkw := (unhide HK0).trans hk1; have f0 := (hkw.cell hbl id).trans (unhide HCC k _ hkf).1; have f1 := (hkw.cell hbl id).trans (unhide HCC k _ hkf).2.1; have f2 := (hkw.cell hbl id).trans (unhide HCC k _ hkf).2.2; have k0 := (hk1.block _ (lt_of_block (unhide B0)) id).trans (unhide B0); have p0 : World.cell? _ _ = some (Value.slice (some ⟨b, off, none⟩) S.length sc) := cell_of_blk k0 0; have ka := hk1.trans ((Keeps.refl (fun _ => False) w1).alloc (.cells #[str fname, .int .i64 ftype, .bool fopt] 70)); have k2 := (ka.block _ (lt_of_block (unhide B2)) id).trans (unhide B2); have k1 := (ka.block _ (lt_of_block (unhide B1)) id).trans (unhide B1); have p1 : World.cell? _ _ = some (Value.int .i64 4) := cell_of_blk k1 0; have m0 : World.cell? _ _ = some (Value.int .i64 0) := cell_of_blk k2 0; have m1 : World.cell? _ _ = some (Value.bool false) := cell_of_blk k2 1; have m2 : World.cell? _ _ = some (Value.int .i64 0) := cell_of_blk k2 2; have g0 := frozen_of_blk k2 0; have g1 := frozen_of_blk k2 1; have g2 := frozen_of_blk k2 2; have HK1 := hide ((unhide HK0).trans ka); have K2 := hide k2; clear hk1 k0 k1 k2 ka hkf hkw)
      obtain ⟨s0, s1, s2, hkf⟩ := unhide HD _ w1 _ (unhide HK1) (unhide K2) rfl (.int .i64 ftype) (.bool fopt) (.int .i64 0)
      refine bodyPost_ret (v := refV (⟨ftype, fopt⟩, 0)) (by simp [results, go_sem, s0, s1, s2]) rfl ?_
      exact ⟨by rw [unhide HR], hkf⟩
    · have d4 : (op == 4) = false := by simpa using h4
      cases fopt with
      | false =>
        have HR : Hid (refNamed S op s = (⟨0, false⟩, 92)) := by
          show _ = _
          unfold refNamed hasK namedK
          rw [if_neg h4, hfo]
          simp [zeroK, orI, optI]
        clear hfo h4
        go_enter Tryz.func46, Tryz.ntmps46
        go_wp2_with (go_at_call 55; refine (unhide (HC1 _ (unhide HK0))).mono ?_; rintro e w1 ⟨⟨k, hkf, rfl⟩, hk1⟩; have hkl := (List.getElem?_eq_some_iff.1 hkf).1; have i1 : (k : Int) < (S.length : Int) := (by omega); have i0 : (0 : Int) ≤ (k : Int) := (by omega); have i2 : ¬ (k : Int) < 0 := (by omega); have hkw := (unhide HK0).trans hk1; have f0 := (hkw.cell hbl id).trans (unhide HCC k _ hkf).1; have f1 := (hkw.cell hbl id).trans (unhide HCC k _ hkf).2.1; have f2 := (hkw.cell hbl id).trans (unhide HCC k _ hkf).2.2; have k0 := (hk1.block _ (lt_of_block (unhide B0)) id).trans (unhide B0); have p0 : World.cell? _ _ = some (Value.slice (some ⟨b, off, none⟩) S.length sc) := cell_of_blk k0 0; have ka := hk1.trans ((Keeps.refl (fun _ => False) w1).alloc (.cells #[str fname, .int .i64 ftype, .bool false] 70)); have k2 := (ka.block _ (lt_of_block (unhide B2)) id).trans (unhide B2); have k1 := (ka.block _ (lt_of_block (unhide B1)) id).trans (unhide B1); have p1 : World.cell? _ _ = some (Value.int .i64 op) := cell_of_blk k1 0; have m0 : World.cell? _ _ = some (Value.int .i64 0) := cell_of_blk k2 0; have m1 : World.cell? _ _ = some (Value.bool false) := cell_of_blk k2 1; have m2 : World.cell? _ _ = some (Value.int .i64 0) := cell_of_blk k2 2; have g0 := frozen_of_blk k2 0; have g1 := frozen_of_blk k2 1; have g2 := frozen_of_blk k2 2; have HK1 := hide ((unhide HK0).trans ka); have K2 := hide k2; clear hk1 k0 k1 k2 ka hkf hkw)
        obtain ⟨s0, s1, s2, hkf⟩ := unhide HD _ w1 _ (unhide HK1) (unhide K2) rfl (.int .i64 0) (.bool false) (.int .i64 92)
        refine bodyPost_ret (v := refV (⟨0, false⟩, 92)) (by simp [results, go_sem, s0, s1, s2]) rfl ?_
        exact ⟨by rw [unhide HR], hkf⟩
      | true =>
        have HR : Hid (refNamed S op s = (⟨2, false⟩, 0)) := by
          show _ = _
          unfold refNamed hasK namedK
          rw [if_neg h4, hfo]
          simp [zeroK, orI, optI]
        clear hfo h4
        go_enter Tryz.func46, Tryz.ntmps46
        go_wp2_with (go_at_call 55; refine (unhide (HC1 _ (unhide HK0))).mono ?_; rintro e w1 ⟨⟨k, hkf, rfl⟩, hk1⟩; have hkl := (List.getElem?_eq_some_iff.1 hkf).1; have i1 : (k : Int) < (S.length : Int) := (by omega); have i0 : (0 : Int) ≤ (k : Int) := (by omega); have i2 : ¬ (k : Int) < 0 := (by omega); have hkw := (unhide HK0).trans hk1; have f0 := (hkw.cell hbl id).trans (unhide HCC k _ hkf).1; have f1 := (hkw.cell hbl id).trans (unhide HCC k _ hkf).2.1; have f2 := (hkw.cell hbl id).trans (unhide HCC k _ hkf).2.2; have k0 := (hk1.block _ (lt_of_block (unhide B0)) id).trans (unhide B0); have p0 : World.cell? _ _ = some (Value.slice (some ⟨b, off, none⟩) S.length sc) := cell_of_blk k0 0; have ka := hk1.trans ((Keeps.refl (fun _ => False) w1).alloc (.cells #[str fname, .int .i64 ftype, .bool true] 70)); have k2 := (ka.block _ (lt_of_block (unhide B2)) id).trans (unhide B2); have k1 := (ka.block _ (lt_of_block (unhide B1)) id).trans (unhide B1); have p1 : World.cell? _ _ = some (Value.int .i64 op) := cell_of_blk k1 0; have m0 : World.cell? _ _ = some (Value.int .i64 0) := cell_of_blk k2 0; have m1 : World.cell? _ _ = some (Value.bool false) := cell_of_blk k2 1; have m2 : World.cell? _ _ = some (Value.int .i64 0) := cell_of_blk k2 2; have g0 := frozen_of_blk k2 0; have g1 := frozen_of_blk k2 1; have g2 := frozen_of_blk k2 2; have HK1 := hide ((unhide HK0).trans ka); have K2 := hide k2; clear hk1 k0 k1 k2 ka hkf hkw)
        obtain ⟨s0, s1, s2, hkf⟩ := unhide HD _ w1 _ (unhide HK1) (unhide K2) rfl (.int .i64 2) (.bool false) (.int .i64 0)
        refine bodyPost_ret (v := refV (⟨2, false⟩, 0)) (by simp [results, go_sem, s0, s1, s2]) rfl ?_
        exact ⟨by rw [unhide HR], hkf⟩
end Go.Proofs.YtljoacpaehmbdaaGreatDoor
namespace Go.Proofs.YtljoacpaehmbdaaGreatDoor
open Go.RowKit Go.Maps

def wcs (l : List (Int × Bool)) : List Value := l.flatMap fun p => [.int .i64 p.1, .bool p.2]
theorem wcs_get : ∀ (l : List (Int × Bool)) (i : Nat) (x : Int × Bool) (j : Nat), l[i]? = some x → j < 2 → (wcs l)[i * 2 + j]? = [Value.int .i64 x.1, .bool x.2][j]?
  | [], i, x, j, h, _ => by simp at h
  | y :: r, 0, x, j, h, hj => by
    simp at h; subst h
    have : j < [Value.int .i64 y.1, .bool y.2].length := hj
    show (([Value.int .i64 y.1, .bool y.2] ++ wcs r))[0 * 2 + j]? = _
    rw [Nat.zero_mul, Nat.zero_add, List.getElem?_append_left this]
  | y :: r, i + 1, x, j, h, hj => by
    have ih := wcs_get r i x j (by simpa using h) hj
    show (([Value.int .i64 y.1, .bool y.2] ++ wcs r))[(i + 1) * 2 + j]? = _
    rw [List.getElem?_append_right (by simp; omega), ← ih]
    congr 1
    simp; omega
/-- What a rule asks, in a slice. -/
def WAt (w : World) (v : Value) (l : List (Int × Bool)) : Prop := RowAt w v l.length (wcs l)
theorem WAt.keepF {w w' : World} {v : Value} {l : List (Int × Bool)} (h : WAt w v l) (hk : Keeps (fun _ => False) w w') : WAt w' v l := RowAt.keepF h hk
theorem WAt.cells {w : World} {v : Value} {l : List (Int × Bool)} (h : WAt w v l) (h0 : 0 < l.length) :
    ∃ b off cap, v = .slice (some ⟨b, off, none⟩) l.length cap ∧ b < w.heap.size ∧ ∀ i f, l[i]? = some f → w.cell? ⟨b, off + i * 2, none⟩ = some (.int .i64 f.1) ∧ w.cell? ⟨b, off + i * 2 + 1, none⟩ = some (.bool f.2) := by
  obtain ⟨b, off, cap, e, hb, hc⟩ := RowAt.cells h h0
  refine ⟨b, off, cap, e, hb, fun i f hf => ⟨?_, ?_⟩⟩
  · exact hc (i * 2) _ (by have := wcs_get l i f 0 hf (by omega); simpa using this)
  · have := hc (i * 2 + 1) (.bool f.2) (by have := wcs_get l i f 1 hf (by omega); simpa using this)
    rw [show off + i * 2 + 1 = off + (i * 2 + 1) by omega]
    exact this
theorem wants_new (X : World) (l : List (Int × Bool)) (H : Nat) (hH : X.heap.size = H) : WAt (X.alloc (.cells (wcs l).toArray 90)) (.slice (some ⟨H, 0, none⟩) l.length l.length) l := by
  subst hH
  refine ⟨⟨_, _, rfl⟩, fun _ => ⟨_, 0, _, rfl, by simp, fun j x hx => ?_⟩, fun ao m cap e => by simp at e; omega⟩
  rw [cell_of_blk (heap_alloc_new X _)]
  simpa using hx
def rcs (l : List KA) : List Value := l.flatMap fun k => [.int .i64 k.t, .bool k.o, .int .i64 0]
/-- Kinds of the reference in a slice. -/
def RksAt (w : World) (v : Value) (l : List KA) : Prop := RowAt w v l.length (rcs l)
theorem RksAt.keepF {w w' : World} {v : Value} {l : List KA} (h : RksAt w v l) (hk : Keeps (fun _ => False) w w') : RksAt w' v l := RowAt.keepF h hk
theorem RksAt.cells {w : World} {v : Value} {l : List KA} (h : RksAt w v l) (h0 : 0 < l.length) :
    ∃ b off cap, v = .slice (some ⟨b, off, none⟩) l.length cap ∧ b < w.heap.size ∧ ∀ i f, l[i]? = some f → w.cell? ⟨b, off + i * 3, none⟩ = some (.int .i64 f.t) ∧ w.cell? ⟨b, off + i * 3 + 1, none⟩ = some (.bool f.o) := by
  obtain ⟨b, off, cap, e, hb, hc⟩ := RowAt.cells h h0
  refine ⟨b, off, cap, e, hb, fun i f hf => ⟨?_, ?_⟩⟩
  · exact hc (i * 3) _ (by have := flat_get (fun k : KA => [Value.int .i64 k.t, .bool k.o, .int .i64 0]) (fun _ => rfl) l i f 0 hf (by omega); simpa [rcs] using this)
  · have := hc (i * 3 + 1) (.bool f.o) (by have := flat_get (fun k : KA => [Value.int .i64 k.t, .bool k.o, .int .i64 0]) (fun _ => rfl) l i f 1 hf (by omega); simpa [rcs] using this)
    rw [show off + i * 3 + 1 = off + (i * 3 + 1) by omega]
    exact this
set_option maxRecDepth 100000 in
set_option maxHeartbeats 1000000 in
theorem asked_v (q t : Int) (ks : List KA) (v : Value) (w : World) (h : RksAt w v ks) (h2 : q = -2 → 0 < ks.length) (h3 : q = -3 → 1 < ks.length) :
    Calls Tryz.prog 48 #[.int .i64 q, .int .i64 t, v] w fun e w' => e = .returned (.bool (askedB q t ks)) ∧ w' = w := by
  unfold askedB
  by_cases q0 : q = 0
  · rw [if_pos q0]
    subst q0
    obtain ⟨ko, kc, rfl⟩ := RowAt.form h
    go_enter Tryz.func48, Tryz.ntmps48
    go_wp2_with fail
    go_ret
    exact ⟨rfl, rfl⟩
  rw [if_neg q0]
  have d0 : (q == 0) = false := by simpa using q0
  by_cases q1 : q = -1
  · rw [if_pos q1]
    subst q1
    obtain ⟨ko, kc, rfl⟩ := RowAt.form h
    clear h2 h3 d0 q0
    by_cases t1 : t = 1
    · subst t1
      go_enter Tryz.func48, Tryz.ntmps48
      go_wp2_with fail
      go_ret
      exact ⟨rfl, rfl⟩
    · have e1 : (t == 1) = false := by simpa using t1
      rw [decide_eq_false t1, Bool.false_or]
      clear t1
      go_enter Tryz.func48, Tryz.ntmps48
      go_wp2_with fail
      go_ret
      exact ⟨ret_bool (by first | rfl | simp), rfl⟩
  rw [if_neg q1]
  have d1 : (q == -1) = false := by simpa using q1
  by_cases q2 : q = -2
  · rw [if_pos q2]
    obtain ⟨b, off, c, rfl, hb, hc⟩ := h.cells (h2 q2)
    have hl := h2 q2
    obtain ⟨k0, hk0⟩ : ∃ k, ks[0]? = some k := ⟨_, List.getElem?_eq_getElem hl⟩
    have c0 := (hc 0 k0 hk0).1
    have e0 : kth ks 0 = k0 := by simp [kth, List.getD, hk0]
    rw [e0]
    simp only [Nat.zero_mul, Nat.add_zero] at c0
    have i1 : (0 : Int) < (ks.length : Int) := by omega
    subst q2
    clear h2 h3 d0 d1 q0 q1 hc h hk0 e0
    go_enter Tryz.func48, Tryz.ntmps48
    go_wp2_with fail
    go_ret
    exact ⟨ret_bool (by first | rfl | simp), rfl⟩
  rw [if_neg q2]
  have d2 : (q == -2) = false := by simpa using q2
  by_cases q3 : q = -3
  · rw [if_pos q3]
    have hl := h3 q3
    obtain ⟨b, off, c, rfl, hb, hc⟩ := h.cells (by omega)
    obtain ⟨k0, hk0⟩ : ∃ k, ks[1]? = some k := ⟨_, List.getElem?_eq_getElem hl⟩
    have c0 := (hc 1 k0 hk0).1
    have e0 : kth ks 1 = k0 := by simp [kth, List.getD, hk0]
    rw [e0]
    simp only [Nat.one_mul] at c0
    have i1 : (1 : Int) < (ks.length : Int) := by omega
    subst q3
    clear h2 h3 d0 d1 d2 q0 q1 q2 hc h hk0 e0
    go_enter Tryz.func48, Tryz.ntmps48
    go_wp2_with fail
    go_ret
    exact ⟨ret_bool (by first | rfl | simp), rfl⟩
  rw [if_neg q3]
  have d3 : (q == -3) = false := by simpa using q3
  obtain ⟨ko, kc, rfl⟩ := RowAt.form h
  clear h2 h3 q0 q1 q2 q3 h
  go_enter Tryz.func48, Tryz.ntmps48
  go_wp2_with fail
  go_ret
  exact ⟨ret_bool (by first | rfl | simp), rfl⟩
end Go.Proofs.YtljoacpaehmbdaaGreatDoor
