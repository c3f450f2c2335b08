import Derived.Test.YtgdabnkjipcbhaaGreatDoorJzad
import Derived.Test.YtgdabnkjipcbhaaGreatDoorRows
import Derived.ProofKit
import Derived.LaidLaws
import Derived.LaidMore
import Derived.LaidSub
import Derived.Lib.LaidTab
import Derived.OpenShut
import Derived.ShutString
import Derived.ChangeOld
import Derived.Deep.Slices
import Derived.Deep.Strs
import Derived.SizedLaws
import Derived.Deep.CondSized
namespace Go.Proofs.YtgdabnkjipcbhaaGreatDoor
open Go.RowKit Go.Maps

set_option maxRecDepth 100000 in
set_option maxHeartbeats 1600000 in
theorem depthExpr_v (Z : Zone) (N : Nat) : ∀ (kids : EL), kids.size < N → kids.size ≤ 2147483647 → ∀ (op n : Int) (s : Txt) (w : World) (up : Nat) (v : Value), SlE Z w up v kids →
    Calls Tryz.prog 50 #[exV op n s v] w fun e w' => e = .returned (.int .i64 ((1 + depthE kids : Nat) : Int)) ∧ Keeps (fun _ => False) w w' := by
  induction N with
  | zero => intro l h; omega
  | succ N ih =>
    intro l hsz hlen' op n s w up v hS
    have hlen : l.len ≤ 2147483647 := by have := EL.len_le l; omega
    have hdl := depthE_le l
    obtain ⟨ao, cap, b, off, rfl, hcap, ha, hx⟩ := hS.open
    obtain ⟨HB, hxb, hxc⟩ := boxedT w #[.int .i64 op, .int .i64 n, str s, .slice ao l.len cap] 54
    have c3 := hxc 3 (.slice ao l.len cap) rfl
    have IH := hide ih
    have HX := hide hx
    have HA := hide ha
    clear hS ih hx ha hxc
    go_enter Tryz.func50, Tryz.ntmps50
    go_wp2_with fail
    go_loopw [3, 4] (fun d i wr => ∃ (rest : EL) (k m : Nat), d = .int .i64 m ∧ i = .int .i64 k ∧ k + rest.len = l.len ∧ rest.size ≤ l.size ∧ max m (depthE rest) = depthE l ∧ Keeps (fun _ => False) (w.alloc (.cells #[.int .i64 op, .int .i64 n, str s, .slice ao l.len cap] 54)) wr ∧ ExIn Z wr rest b (off + k * 4)) (fun _ i _ => l.len - (intOf i).toNat)
    case atStart => exact ⟨l, 0, 0, rfl, rfl, by omega, Nat.le_refl _, by omega, Keeps.refl _ _, by simpa using (unhide HX).keepF (unhide HB)⟩
    case round =>
      obtain ⟨rest, k, m, rfl, rfl, hkl, hrs, hwe, hkeep, hr⟩ := hrel
      have q3 := (hkeep.cell (o := 3) hxb id).trans c3
      have HK := hide hkeep
      clear hkeep
      cases rest with
      | nil =>
        simp only [EL.len, EL.size, depthE] at hkl hrs hwe
        clear hr
        have i1 : ¬ (k : Int) < (l.len : Int) := by omega
        go_wp2_with fail
        go_ret
        exact ⟨ret_int (by omega), (unhide HB).trans (unhide HK)⟩
      | cons op' n' s' kids rest =>
        obtain ⟨h1, h2, h3, h4, h5, ⟨kao, kcap, h6, h7, h8⟩, h9⟩ := hr
        simp only [EL.len, EL.size, depthE] at hkl hrs hwe
        obtain ⟨rfl, hp⟩ := (unhide HA) (by omega)
        have HKID : Hid (SlE Z wr b (.slice kao kids.len kcap) kids) := ⟨kao, kcap, rfl, h7, h8⟩
        have HR := hide h9
        have HWE := hide hwe
        have i1 : (k : Int) < (l.len : Int) := by omega
        have i0 : (0 : Int) ≤ (k : Int) := by omega
        have HKD := hide (unhide IH kids (by omega) (by omega) op' n' s' wr b (.slice kao kids.len kcap) (unhide HKID))
        have hdk := depthE_le kids
        generalize hD : 1 + depthE kids = D at HKD HWE
        clear h2 h8 h9 hwe
        by_cases hmd : (m : Int) < (D : Int)
        · go_wp2_with (go_at_call 50; refine (unhide HKD).mono ?_; rintro e w1 ⟨rfl, hk1⟩; have HK1 := hide hk1; clear hk1)
          go_roundw
          case rel =>
            refine ⟨rest, k + 1, D, rfl, by go_num, by omega, by omega, by have := unhide HWE; omega, (unhide HK).trans (unhide HK1), ?_⟩
            rw [show off + (k + 1) * 4 = off + k * 4 + 4 by omega]
            exact (unhide HR).keepF (unhide HK1)
          case measure => simp [intOf]; omega
        · go_wp2_with (go_at_call 50; refine (unhide HKD).mono ?_; rintro e w1 ⟨rfl, hk1⟩; have HK1 := hide hk1; clear hk1)
          go_roundw
          case rel =>
            refine ⟨rest, k + 1, m, rfl, by go_num, by omega, by omega, by have := unhide HWE; omega, (unhide HK).trans (unhide HK1), ?_⟩
            rw [show off + (k + 1) * 4 = off + k * 4 + 4 by omega]
            exact (unhide HR).keepF (unhide HK1)
          case measure => simp [intOf]; omega
end Go.Proofs.YtgdabnkjipcbhaaGreatDoor
namespace Go.Proofs.YtgdabnkjipcbhaaGreatDoor
open Go.RowKit Go.Maps

end Go.Proofs.YtgdabnkjipcbhaaGreatDoor
namespace Go.Proofs.YtgdabnkjipcbhaaGreatDoor
open Go.RowKit Go.Maps

end Go.Proofs.YtgdabnkjipcbhaaGreatDoor
namespace Go.Proofs.YtgdabnkjipcbhaaGreatDoor
open Go.RowKit Go.Maps

/-- Is a statement well made? -/
def stmtB (op : Int) (f : Txt) (ex : EL) (th el : SL) : Bool := headB op f ex.len th.len el.len && (wellE ex && (wellS th && wellS el))
theorem wellS_cons (op : Int) (f : Txt) (ex : EL) (th el r : SL) : wellS (.cons op f ex th el r) = (stmtB op f ex th el && wellS r) := by
  simp only [wellS, stmtB, Bool.and_assoc]
theorem zero_th (th : SL) : (decide (th.len = 0) && wellS th) = decide (th.len = 0) := by
  cases th with
  | nil => rfl
  | cons o f x t e r => simp [SL.len]
theorem zero_ex (ex : EL) : (decide (ex.len = 0) && wellE ex) = decide (ex.len = 0) := by
  cases ex with
  | nil => rfl
  | cons o n s k r => simp [EL.len]
theorem and4 (a b c d e f g : Bool) (h1 : (c && f) = c) (h2 : (d && g) = d) : (a && (b && (c && d)) && (e && (f && g))) = (a && (b && (e && (c && d)))) := by
  cases a <;> cases b <;> cases c <;> cases d <;> cases e <;> cases f <;> cases g <;> simp_all
theorem and5 (a b c d e f g : Bool) (h1 : (c && f) = c) (h2 : (d && g) = d) (h3 : (b && e) = b) : (a && (b && (c && d)) && (e && (f && g))) = (a && (b && (c && d))) := by
  cases a <;> cases b <;> cases c <;> cases d <;> cases e <;> cases f <;> cases g <;> simp_all
theorem stmtB_14 (op : Int) (f : Txt) (ex : EL) (th el : SL) (h : op = 1 ∨ op = 2 ∨ op = 3 ∨ op = 4) : stmtB op f ex th el = (nameB f && (decide (ex.len = 1) && (wellE ex && (decide (th.len = 0) && decide (el.len = 0))))) := by
  unfold stmtB headB
  rw [if_pos h, and4 _ _ _ _ _ _ _ (zero_th th) (zero_th el)]
theorem stmtB_5 (f : Txt) (ex : EL) (th el : SL) : stmtB 5 f ex th el = (nameB f && (decide (ex.len = 0) && (decide (th.len = 0) && decide (el.len = 0)))) := by
  unfold stmtB headB
  rw [if_neg (by omega), if_pos rfl, and5 _ _ _ _ _ _ _ (zero_th th) (zero_th el) (zero_ex ex)]
theorem stmtB_67 (op : Int) (f : Txt) (ex : EL) (th el : SL) (h : op = 6 ∨ op = 7) : stmtB op f ex th el = (decide (f = []) && (decide (ex.len = 0) && (decide (th.len = 0) && decide (el.len = 0)))) := by
  unfold stmtB headB
  rw [if_neg (by omega), if_neg (by omega), if_pos h, and5 _ _ _ _ _ _ _ (zero_th th) (zero_th el) (zero_ex ex)]
theorem stmtB_8 (f : Txt) (ex : EL) (th el : SL) : stmtB 8 f ex th el = (decide (f = []) && (decide (ex.len = 1) && (wellE ex && (wellS th && wellS el)))) := by
  unfold stmtB headB
  rw [if_neg (by omega), if_neg (by omega), if_neg (by omega), if_pos rfl, Bool.and_assoc]
theorem stmtB_no (op : Int) (f : Txt) (ex : EL) (th el : SL) (h : op < 1 ∨ 8 < op) : stmtB op f ex th el = false := by
  unfold stmtB headB
  rw [if_neg (by omega), if_neg (by omega), if_neg (by omega), if_neg (by omega), Bool.false_and]

end Go.Proofs.YtgdabnkjipcbhaaGreatDoor
namespace Go.Proofs.YtgdabnkjipcbhaaGreatDoor
open Go.RowKit Go.Maps

end Go.Proofs.YtgdabnkjipcbhaaGreatDoor
namespace Go.Proofs.YtgdabnkjipcbhaaGreatDoor
open Go.RowKit Go.Maps

end Go.Proofs.YtgdabnkjipcbhaaGreatDoor
namespace Go.Proofs.YtgdabnkjipcbhaaGreatDoor
open Go.RowKit Go.Maps

set_option maxRecDepth 100000 in
set_option maxHeartbeats 800000 in
theorem rCheckExpr_v (Z : Zone) (op n : Int) (s : Txt) (kids : EL) (hsz : kids.size + 1 ≤ 2147483647) (w : World) (up : Nat) (v : Value) (hS : SlE Z w up v kids) :
    Calls Tryz.prog 33 #[exV op n s v] w fun e w' => e = .returned (.int .i64 (checkE (.cons op n s kids .nil))) ∧ Keeps (fun _ => False) w w' := by
  have HW := fun (w' : World) (hk : Keeps (fun _ => False) w w') => hide (wellExpr_v Z (kids.size + 1) kids (by omega) (by omega) op n s w' up v (hS.keepF hk))
  have HD := fun (w' : World) (hk : Keeps (fun _ => False) w w') => hide (depthExpr_v Z (kids.size + 1) kids (by omega) (by omega) op n s w' up v (hS.keepF hk))
  obtain ⟨ao, cap, rfl, hc⟩ := hS.head
  have e1 : wellE (.cons op n s kids .nil) = (rootB op n s kids.len && wellE kids) := by simp [wellE]
  have e2 : depthE (.cons op n s kids .nil) = 1 + depthE kids := by simp [depthE]
  unfold checkE
  rw [e1, e2]
  clear hS e1 e2
  generalize (rootB op n s kids.len && wellE kids) = bw at HW ⊢
  generalize 1 + depthE kids = nd at HD ⊢
  obtain ⟨HB, hxb, hxc⟩ := boxedT w #[.int .i64 op, .int .i64 n, str s, .slice ao kids.len cap] 54
  have c0 := hxc 0 (.int .i64 op) rfl
  have c1 := hxc 1 (.int .i64 n) rfl
  have c2 := hxc 2 (str s) rfl
  have c3 := hxc 3 (.slice ao kids.len cap) rfl
  clear hxc
  cases bw with
  | false =>
    rw [if_pos rfl]
    go_enter Tryz.func33, Tryz.ntmps33
    go_wp2_with (go_at_call 49; refine (unhide (HW _ (unhide HB))).mono ?_; rintro e w1 ⟨rfl, hk1⟩)
    go_ret
    exact ⟨rfl, (unhide HB).trans hk1⟩
  | true =>
    rw [if_neg (by simp)]
    by_cases h12 : 12 < nd
    · rw [if_pos h12]
      have g12 : (12 : Int) < (nd : Int) := by omega
      go_enter Tryz.func33, Tryz.ntmps33
      go_wp2_with (first
        | (go_at_call 49; refine (unhide (HW _ (unhide HB))).mono ?_; rintro e w1 ⟨rfl, hk1⟩; have HK1 := hide ((unhide HB).trans hk1); have r0 := (hk1.cell (o := 0) hxb id).trans c0; have r1 := (hk1.cell (o := 1) hxb id).trans c1; have r2 := (hk1.cell (o := 2) hxb id).trans c2; have r3 := (hk1.cell (o := 3) hxb id).trans c3; clear hk1)
        | (go_at_call 50; refine (unhide (HD _ (unhide HK1))).mono ?_; rintro e w2 ⟨rfl, hk2⟩; have HK2 := hide ((unhide HK1).trans hk2); clear hk2))
      go_ret
      exact ⟨rfl, unhide HK2⟩
    · rw [if_neg h12]
      have g12 : ¬ (12 : Int) < (nd : Int) := by omega
      go_enter Tryz.func33, Tryz.ntmps33
      go_wp2_with (first
        | (go_at_call 49; refine (unhide (HW _ (unhide HB))).mono ?_; rintro e w1 ⟨rfl, hk1⟩; have HK1 := hide ((unhide HB).trans hk1); have r0 := (hk1.cell (o := 0) hxb id).trans c0; have r1 := (hk1.cell (o := 1) hxb id).trans c1; have r2 := (hk1.cell (o := 2) hxb id).trans c2; have r3 := (hk1.cell (o := 3) hxb id).trans c3; clear hk1)
        | (go_at_call 50; refine (unhide (HD _ (unhide HK1))).mono ?_; rintro e w2 ⟨rfl, hk2⟩; have HK2 := hide ((unhide HK1).trans hk2); clear hk2))
      go_ret
      exact ⟨rfl, unhide HK2⟩
end Go.Proofs.YtgdabnkjipcbhaaGreatDoor
namespace Go.Proofs.YtgdabnkjipcbhaaGreatDoor
open Go.RowKit Go.Maps

set_option maxRecDepth 100000 in
set_option maxHeartbeats 800000 in
theorem eqExpr_same (op n : Int) (s : Txt) (ka kb ca cb : Nat) (oa ob : Option Addr) (w : World)
    (hK : ∀ w', Keeps (fun _ => False) w w' → Calls Tryz.prog 22 #[.slice oa ka ca, .slice ob kb cb] w' fun e w'' => e = .returned (.bool true) ∧ Keeps (fun _ => False) w' w'') :
    Calls Tryz.prog 35 #[exV op n s (.slice oa ka ca), exV op n s (.slice ob kb cb)] w fun e w' => e = .returned (.bool true) ∧ Keeps (fun _ => False) w w' := by
  have HK := hide hK
  have HB : Hid (Keeps (fun _ => False) w ((w.alloc (.cells #[.int .i64 op, .int .i64 n, str s, .slice oa ka ca] 54)).alloc (.cells #[.int .i64 op, .int .i64 n, str s, .slice ob kb cb] 54))) := hide (((Keeps.refl _ w).alloc _).alloc _)
  clear hK
  go_enter Tryz.func35, Tryz.ntmps35
  go_wp2_with (go_at_call 22; refine (unhide HK _ (unhide HB)).mono ?_; rintro e w1 ⟨rfl, hk1⟩)
  go_ret
  exact ⟨rfl, (unhide HB).trans hk1⟩

set_option maxRecDepth 100000 in
set_option maxHeartbeats 1600000 in
theorem eqExprs_same (Z Y : Zone) (N : Nat) : ∀ (l : EL), l.size < N → l.size ≤ 2147483647 → ∀ (w : World) (ua ub : Nat) (va vb : Value), SlE Z w ua va l → SlE Y w ub vb l →
    Calls Tryz.prog 22 #[va, vb] w fun e w' => e = .returned (.bool true) ∧ Keeps (fun _ => False) w w' := by
  induction N with
  | zero => intro l h; omega
  | succ N ih =>
    intro l hsz hlen' w ua ub va vb hS hT
    have hlen : l.len ≤ 2147483647 := by have := EL.len_le l; omega
    obtain ⟨ao, ac, a, ai, rfl, hac, haa, hax⟩ := hS.open
    obtain ⟨bo, bc, b, bi, rfl, hbc, hba, hbx⟩ := hT.open
    have IH := hide ih
    have HX := hide hax
    have HY := hide hbx
    have HA := hide haa
    have HB := hide hba
    clear hS hT ih hax hbx haa hba
    go_enter Tryz.func22, Tryz.ntmps22
    go_wp2_with fail
    go_loopw [5] (fun i wr => ∃ (rest : EL) (k : Nat), i = .int .i64 k ∧ k + rest.len = l.len ∧ rest.size ≤ l.size ∧ Keeps (fun _ => False) w wr ∧ ExIn Z wr rest a (ai + k * 4) ∧ ExIn Y wr rest b (bi + k * 4)) (fun i _ => l.len - (intOf i).toNat)
    case atStart => exact ⟨l, 0, rfl, by omega, Nat.le_refl _, Keeps.refl _ _, by simpa using unhide HX, by simpa using unhide HY⟩
    case round =>
      obtain ⟨rest, k, rfl, hkl, hrs, hkeep, hr, hq⟩ := hrel
      have HK := hide hkeep
      clear hkeep
      cases rest with
      | nil =>
        simp only [EL.len, EL.size] at hkl hrs
        clear hr hq
        have i1 : ¬ (k : Int) < (l.len : Int) := by omega
        go_wp2_with fail
        go_ret
        exact ⟨rfl, unhide HK⟩
      | cons op n s kids rest =>
        obtain ⟨h1, h2, h3, h4, h5, ⟨kao, kac, h6, h7, h8⟩, h9⟩ := hr
        obtain ⟨g1, g2, g3, g4, g5, ⟨kbo, kbc, g6, g7, g8⟩, g9⟩ := hq
        simp only [EL.len, EL.size] at hkl hrs
        obtain ⟨rfl, hp⟩ := (unhide HA) (by omega)
        obtain ⟨rfl, hp'⟩ := (unhide HB) (by omega)
        have hka : SlE Z wr a (.slice kao kids.len kac) kids := ⟨kao, kac, rfl, h7, h8⟩
        have hkb : SlE Y wr b (.slice kbo kids.len kbc) kids := ⟨kbo, kbc, rfl, g7, g8⟩
        have HR := hide h9
        have HQ := hide g9
        have i1 : (k : Int) < (l.len : Int) := by omega
        have i0 : (0 : Int) ≤ (k : Int) := by omega
        have HE := hide (fun (m : KW wr) => kw_of m (eqExpr_same op n s kids.len kids.len kac kbc kao kbo m.wd (fun w' hk => unhide IH kids (by omega) (by omega) w' a b _ _ (hka.keepF (m.kept.trans hk)) (hkb.keepF (m.kept.trans hk)))))
        have f0 : ∀ m : KW wr, m.wd.cell? ⟨a, ai + k * 4, none⟩ = some (.int .i64 op) := fun m => (m.kept.cell h1 id).trans h3
        have f1 : ∀ m : KW wr, m.wd.cell? ⟨a, ai + k * 4 + 1, none⟩ = some (.int .i64 n) := fun m => (m.kept.cell h1 id).trans h4
        have f2 : ∀ m : KW wr, m.wd.cell? ⟨a, ai + k * 4 + 2, none⟩ = some (str s) := fun m => (m.kept.cell h1 id).trans h5
        have f3 : ∀ m : KW wr, m.wd.cell? ⟨a, ai + k * 4 + 3, none⟩ = some (.slice kao kids.len kac) := fun m => (m.kept.cell h1 id).trans h6
        have e0 : ∀ m : KW wr, m.wd.cell? ⟨b, bi + k * 4, none⟩ = some (.int .i64 op) := fun m => (m.kept.cell g1 id).trans g3
        have e1 : ∀ m : KW wr, m.wd.cell? ⟨b, bi + k * 4 + 1, none⟩ = some (.int .i64 n) := fun m => (m.kept.cell g1 id).trans g4
        have e2 : ∀ m : KW wr, m.wd.cell? ⟨b, bi + k * 4 + 2, none⟩ = some (str s) := fun m => (m.kept.cell g1 id).trans g5
        have e3 : ∀ m : KW wr, m.wd.cell? ⟨b, bi + k * 4 + 3, none⟩ = some (.slice kbo kids.len kbc) := fun m => (m.kept.cell g1 id).trans g6
        clear h2 h8 h9 g2 g8 g9 hka hkb
        go_wp2_with fail
        refine region_kept (by kernel_rfl) (by kernel_rfl) ?_
        repeat (go_big_quiet_step ((go_at_call 35; exact unhide HE _)))
        refine wpQuiet_nil ?_
        rintro _ ⟨nq, rfl⟩
        have HK1 := hide nq.kept
        go_wp2_with fail
        go_roundw
        case rel =>
          refine ⟨rest, k + 1, by go_num, by omega, by omega, (unhide HK).trans (unhide HK1), ?_, ?_⟩
          · rw [show ai + (k + 1) * 4 = ai + k * 4 + 4 by omega]
            exact (unhide HR).keepF (unhide HK1)
          · rw [show bi + (k + 1) * 4 = bi + k * 4 + 4 by omega]
            exact (unhide HQ).keepF (unhide HK1)
        case measure => simp [intOf]; omega

end Go.Proofs.YtgdabnkjipcbhaaGreatDoor
namespace Go.Proofs.YtgdabnkjipcbhaaGreatDoor
open Go.RowKit Go.Maps

/-- Decimal digits. -/
def decN (u : Nat) : Txt := if _h : u = 0 then [] else decN (u / 10) ++ [UInt8.ofNat (48 + u % 10)]
def decimal (n : Int) : Txt := if n = 0 then [48] else if n < 0 then 45 :: decN n.natAbs else decN n.natAbs
def hexD (n : Nat) : UInt8 := if n < 10 then UInt8.ofNat (48 + n) else UInt8.ofNat (87 + n)
def quote1 (c : UInt8) : Txt := if c = 34 ∨ c = 92 then [92, c] else if 32 ≤ c.toNat ∧ c.toNat ≤ 126 then [c] else [92, 120, hexD (c.toNat / 16), hexD (c.toNat % 16)]
def quoteB (t : Txt) : Txt := 34 :: (t.flatMap quote1 ++ [34])
/-- The text of an expression without kids. -/
def simpleT (op n : Int) (s : Txt) : Txt :=
  if op = 1 then decimal n else if op = 2 then (if n = 1 then [116, 114, 117, 101] else [102, 97, 108, 115, 101]) else if op = 3 then quoteB s
  else if op = 5 then [104, 97, 115, 32] ++ s else if op = 6 then [104, 101, 114, 101] else s
/-- The rank of an expression. -/
def rankB (op n : Int) : Int :=
  if op = 19 then 1 else if op = 18 then 2 else if op = 7 then 3 else if op = 20 then 5 else if op = 9 ∨ op = 10 then 6 else if op = 11 then 7 else if op = 8 then 8
  else if op = 1 then (if n < 0 then 8 else 9) else if 12 ≤ op ∧ op ≤ 17 then 4 else 9
/-- The operations between two kids: mark, rank wanted on the left, on the right. -/
def betweens : List (Int × Txt × Int × Int) := [(16, [61, 61], 5, 5), (17, [33, 61], 5, 5), (12, [60], 5, 5), (13, [60, 61], 5, 5), (14, [62], 5, 5), (15, [62, 61], 5, 5), (19, [111, 114], 1, 2), (18, [97, 110, 100], 2, 3), (20, [63, 63], 6, 5), (9, [43], 6, 7), (10, [45], 6, 7), (11, [42], 7, 8)]
def callsT : List (Int × Txt) := [(21, [109, 105, 110]), (22, [109, 97, 120]), (24, [99, 97, 116]), (23, [108, 101, 110]), (25, [112, 105, 99, 107])]
/-- A kid: its operation, its number, its text. -/
abbrev Kid := Int × Int × Txt
def atT (k : Kid) (want : Int) : Txt := if rankB k.1 k.2.1 < want then [40] ++ k.2.2 ++ [41] else k.2.2
/-- Texts with a comma between them. -/
def commas : List Txt → Txt
  | [] => []
  | [t] => t
  | t :: u :: r => t ++ [44, 32] ++ commas (u :: r)
def nodeT (op n : Int) (s : Txt) (ks : List Kid) : Txt :=
  match betweens.find? (fun b => decide (b.1 = op)), callsT.find? (fun c => decide (c.1 = op)), ks with
  | some (_, m, l, r), _, k0 :: k1 :: _ => atT k0 l ++ [32] ++ m ++ [32] ++ atT k1 r
  | some _, _, _ => []
  | none, some (_, wd), ks => wd ++ [40] ++ commas (ks.map fun k => k.2.2) ++ [41]
  | none, none, ks => if op = 7 then (match ks with
      | k0 :: _ => [110, 111, 116, 32] ++ atT k0 3
      | [] => []) else if op = 8 then (match ks with
      | k0 :: _ => if k0.1 = 1 ∧ 0 ≤ k0.2.1 then [45, 40] ++ k0.2.2 ++ [41] else [45] ++ atT k0 8
      | [] => []) else simpleT op n s
def txs : EL → List Kid
  | .nil => []
  | .cons op n s k r => (op, n, nodeT op n s (txs k)) :: txs r
/-- The text of an expression. -/
def textE (op n : Int) (s : Txt) (kids : EL) : Txt := nodeT op n s (txs kids)
/-- Numbers are of 64 bits. -/
def intE : EL → Prop
  | .nil => True
  | .cons _ n _ k r => (-9223372036854775808 ≤ n ∧ n ≤ 9223372036854775807) ∧ intE k ∧ intE r
end Go.Proofs.YtgdabnkjipcbhaaGreatDoor
namespace Go.Proofs.YtgdabnkjipcbhaaGreatDoor
open Go.ChangeShapes Go.WideShapes Go.ChangeAt Go.RowKit Go.Deep

theorem Tryz.cells54 : Tryz.prog.cellsOf 54 = 4 := by kernel_rfl
theorem e2 : Tryz.prog.cellsOf 2 = 1 := by kernel_rfl
theorem e3 : Tryz.prog.cellsOf 3 = 1 := by kernel_rfl
theorem e4 : Tryz.prog.cellsOf 4 = 1 := by kernel_rfl
theorem Tryz.cells24 : Tryz.prog.cellsOf 24 = 6 := by kernel_rfl
theorem e9 : Tryz.prog.cellsOf 9 = 1 := by kernel_rfl
theorem e23 : Tryz.prog.cellsOf 22 = 1 := by kernel_rfl
theorem str_of (s : ByteArray) : Value.string s = str s.data.toList := by cases s; simp

section
variable {H : Type} {enc : TypeId × Value → H} {W : World}
/-- A slice, opened element by element. -/
theorem slice_read {fuel : Nat} {t e sz : Nat} (ht : Tryz.prog.underlying t = some (.slice e)) (hsz : Tryz.prog.cellsOf e = sz) (h0 : 0 < sz) {c : Value} {x : DataW H × List MemPlace} (h : DataW.trod enc Tryz.prog W 0 (fun _ => true) true fuel t [c] = some x) :
    c = .slice none 0 0 ∨ ∃ (b off len cap n : Nat) (spot : _), c = .slice (some ⟨b, off, spot⟩) len cap ∧ len ≤ cap ∧ fuel = n + 1 ∧ ∀ i, i < len → spot = none ∧ b < W.heap.size ∧ ∃ cs y, (∀ j v, cs[j]? = some v → W.cell? ⟨b, off + i * sz + j, none⟩ = some v) ∧ DataW.trod enc Tryz.prog W 0 (fun _ => true) true n e cs = some y ∧ cs.length = sz := by
  rcases DataW.trod_slice ht h with ⟨hcs, _⟩ | ⟨a, len, cap, elems, rest, n, hn, hcs, _, _, hl, _, hlen, hel, _, _⟩
  · simp at hcs
    exact Or.inl hcs
  · simp at hcs
    subst hcs
    obtain ⟨b, off, spot⟩ := a
    have cell : ∀ i, i < len → ∃ cs y, W.cells? 0 (Addr.add ⟨b, off, spot⟩ (i * sz)) sz = some cs ∧ DataW.trod enc Tryz.prog W 0 (fun _ => true) true n e cs = some y := fun i hi => by
      have hi' := hel i hi
      rw [hsz] at hi'
      obtain ⟨y, hy⟩ : ∃ y, elems[i]? = some y := ⟨_, List.getElem?_eq_getElem (by omega)⟩
      rw [hy] at hi'
      cases hcells : W.cells? 0 (Addr.add ⟨b, off, spot⟩ (i * sz)) sz with
      | none => rw [hcells] at hi'; cases hi'
      | some cs =>
        rw [hcells] at hi'
        exact ⟨cs, y, rfl, hi'⟩
    have hspot : 0 < len → spot = none := fun h1 => by
      obtain ⟨cs, y, hcs, _⟩ := cell 0 h1
      obtain ⟨_, hcl, hcc⟩ := World.cells?_some hcs
      have hc0 := hcc 0 h0
      obtain ⟨v0, hv0⟩ : ∃ v, cs[0]? = some v := ⟨_, List.getElem?_eq_getElem (by omega)⟩
      rw [hv0] at hc0
      have := World.cell?_spot hc0
      simpa [Addr.add] using this
    refine Or.inr ⟨b, off, len, cap, n, spot, rfl, hl, hn, fun i hi => ?_⟩
    obtain rfl := hspot (by omega)
    obtain ⟨cs, y, hcs, hy⟩ := cell i hi
    obtain ⟨_, hcl, hcc⟩ := World.cells?_some hcs
    simp only [Addr.add_lit] at hcc
    have hat : ∀ j v, cs[j]? = some v → W.cell? ⟨b, off + i * sz + j, none⟩ = some v := fun j v hv => by
      have hj := (List.getElem?_eq_some_iff.1 hv).1
      have := hcc j (by omega)
      rw [hv] at this
      exact this
    obtain ⟨v0, hv0⟩ : ∃ v, cs[0]? = some v := ⟨_, List.getElem?_eq_getElem (by omega)⟩
    exact ⟨rfl, World.block_lt_of_cell? W _ (hat 0 v0 hv0), cs, y, hat, hy, hcl⟩

end
end Go.Proofs.YtgdabnkjipcbhaaGreatDoor
namespace Go.Proofs.YtgdabnkjipcbhaaGreatDoor
open Go.ChangeShapes Go.WideShapes Go.ChangeAt Go.RowKit Go.Deep

theorem gForms : Tryz.prog.globalNamed "arbor/syntax.forms" = some 4 := by kernel_rfl
theorem tForms : (Tryz.prog.globals[4]?).map (·.type) = some 112 := by kernel_rfl
theorem c76 : Tryz.prog.cellsOf 111 = 6 := by kernel_rfl
theorem c77 : Tryz.prog.cellsOf 112 = 156 := by kernel_rfl
/-- A row of the table, as a datum. -/
def FormA.dat (f : FormA) : DataW Unit := .agg [.lit (.int .i64 f.shape), .lit (.string f.text), .lit (.int .i64 f.kids), .lit (.int .i64 f.rank), .lit (.int .i64 f.left), .lit (.int .i64 f.right)]
theorem forms_dat : (Rows.laid_arbor_syntax_forms : DataW Unit) = .agg (formsL.map FormA.dat) := rfl
set_option maxRecDepth 100000 in
theorem form_el {W : World} {m : Nat} {cs : List Value} {x : DataW Unit × List MemPlace} {f : FormA} (h : DataW.trod (fun _ => ()) Tryz.prog W 0 (fun _ => true) false m 111 cs = some x) (hx : x.1 = f.dat) : cs = f.cs := by
  obtain ⟨xs, k, _, rfl, hl, hlen, hf⟩ := DataW.trod_struct Tryz.underlying111 h
  have hl' : cs.length = 6 := hl.trans c76
  match xs, hlen, cs, hl' with
  | [y0, y1, y2, y3, y4, y5], _, [a0, a1, a2, a3, a4, a5], _ =>
    have h0 : DataW.trod (fun _ => ()) Tryz.prog W 0 (fun _ => true) false k 3 (([a0, a1, a2, a3, a4, a5].drop 0).take (Tryz.prog.cellsOf 3)) = some y0 := hf 0 _ rfl
    have h1 : DataW.trod (fun _ => ()) Tryz.prog W 0 (fun _ => true) false k 9 (([a0, a1, a2, a3, a4, a5].drop 1).take (Tryz.prog.cellsOf 9)) = some y1 := hf 1 _ rfl
    have h2 : DataW.trod (fun _ => ()) Tryz.prog W 0 (fun _ => true) false k 3 (([a0, a1, a2, a3, a4, a5].drop 2).take (Tryz.prog.cellsOf 3)) = some y2 := hf 2 _ rfl
    have h3 : DataW.trod (fun _ => ()) Tryz.prog W 0 (fun _ => true) false k 3 (([a0, a1, a2, a3, a4, a5].drop 3).take (Tryz.prog.cellsOf 3)) = some y3 := hf 3 _ rfl
    have h4 : DataW.trod (fun _ => ()) Tryz.prog W 0 (fun _ => true) false k 3 (([a0, a1, a2, a3, a4, a5].drop 4).take (Tryz.prog.cellsOf 3)) = some y4 := hf 4 _ rfl
    have h5 : DataW.trod (fun _ => ()) Tryz.prog W 0 (fun _ => true) false k 3 (([a0, a1, a2, a3, a4, a5].drop 5).take (Tryz.prog.cellsOf 3)) = some y5 := hf 5 _ rfl
    rw [e3] at h0 h2 h3 h4 h5
    rw [e9] at h1
    obtain ⟨n0, q0, w0, _⟩ := DataW.trod_int Tryz.underlying3 h0
    obtain ⟨s1, q1, w1, _⟩ := DataW.trod_string Tryz.underlying9 h1
    obtain ⟨n2, q2, w2, _⟩ := DataW.trod_int Tryz.underlying3 h2
    obtain ⟨n3, q3, w3, _⟩ := DataW.trod_int Tryz.underlying3 h3
    obtain ⟨n4, q4, w4, _⟩ := DataW.trod_int Tryz.underlying3 h4
    obtain ⟨n5, q5, w5, _⟩ := DataW.trod_int Tryz.underlying3 h5
    simp only [FormA.dat, DataW.agg.injEq, List.map_cons, List.map_nil, List.cons.injEq, and_true] at hx
    rw [w0, w1, w2, w3, w4, w5] at hx
    simp at hx q0 q1 q2 q3 q4 q5
    obtain ⟨r0, r1, r2, r3, r4, r5⟩ := hx
    rw [q0, q1, q2, q3, q4, q5, str_of, r0, r1, r2, r3, r4, r5]
    rfl
theorem forms_met {W : World} (h : laidMetH Tryz.prog [("arbor/syntax.forms", Rows.laid_arbor_syntax_forms)] W) : Forms W := by
  rw [MakeChecks.laidMetH_plain _ _ _ (by kernel_rfl)] at h
  obtain ⟨ps, ⟨g0, t0, cs0, f0, p0, q0, hg0, ht0, hv0, hd0, _, _⟩, _, _⟩ := h
  obtain rfl := Option.some.inj (gForms.symm.trans hg0)
  obtain rfl := Option.some.inj (tForms.symm.trans ht0)
  obtain ⟨xs, m1, rfl, hx1, hlen, hn3, hel⟩ := DataW.trod_array Tryz.underlying112 hd0
  have q := fun j => World.var?_cell hg0 hv0 j
  obtain ⟨cl⟩ := cs0
  have hlen' : cl.length = 156 := hlen.trans c77
  have hxs : xs.map (·.1) = formsL.map FormA.dat := by
    have := (Prod.mk.inj hx1).1
    rw [forms_dat] at this
    exact (DataW.agg.inj this).symm
  have el : ∀ (i : Nat) (f : FormA), formsL[i]? = some f → (cl.drop (i * 6)).take 6 = f.cs := fun i f hf => by
    have hi : i < 26 := (List.getElem?_eq_some_iff.1 hf).1
    have h1 : (xs.map (·.1))[i]? = some f.dat := by rw [hxs]; simp [hf]
    cases hx : xs[i]? with
    | none => rw [List.getElem?_map, hx] at h1; cases h1
    | some x =>
      rw [List.getElem?_map, hx] at h1
      have h2 := hel i hi
      rw [c76, hx] at h2
      exact form_el h2 (Option.some.inj h1)
  have hlt : 4 < W.heap.size := by
    obtain ⟨c, hc⟩ : ∃ c, cl[0]? = some c := ⟨_, List.getElem?_eq_getElem (by omega)⟩
    have := World.block_lt_of_cell? W ⟨4, 0, none⟩ (u := c) (by rw [q 0]; simpa using hc)
    exact this
  refine ⟨hlt, fun i f hf j x hx => ?_⟩
  have hj : j < 6 := (List.getElem?_eq_some_iff.1 hx).1
  have hq := q (i * 6 + j)
  rw [hq]
  have := congrArg (fun l => l[j]?) (el i f hf)
  simp only [List.getElem?_take, hj, if_true, List.getElem?_drop] at this
  simpa [this] using hx
end Go.Proofs.YtgdabnkjipcbhaaGreatDoor
