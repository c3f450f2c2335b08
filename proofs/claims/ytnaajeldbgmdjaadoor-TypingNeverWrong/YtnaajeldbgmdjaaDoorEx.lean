import Derived.Test.YtnaajeldbgmdjaaDoorEw
namespace Go.Proofs.YtnaajeldbgmdjaaDoor
open Go.RowKit Go.Maps

set_option maxRecDepth 100000 in
set_option maxHeartbeats 800000 in
theorem eqExpr_same (op n : Int) (s : Txt) (ka kb ca cb : Nat) (oa ob : Option Addr) (w : World)
    (hK : ∀ w', Keeps (fun _ => False) w w' → Calls Tryd.prog 55 #[.slice oa ka ca, .slice ob kb cb] w' fun e w'' => e = .returned (.bool true) ∧ Keeps (fun _ => False) w' w'') :
    Calls Tryd.prog 32 #[exV op n s (.slice oa ka ca), exV op n s (.slice ob kb cb)] w fun e w' => e = .returned (.bool true) ∧ Keeps (fun _ => False) w w' := by
  have HK := hide hK
  have HB : Hid (Keeps (fun _ => False) w ((w.alloc (.cells #[.int .i64 op, .int .i64 n, str s, .slice oa ka ca] 27)).alloc (.cells #[.int .i64 op, .int .i64 n, str s, .slice ob kb cb] 27))) := hide (((Keeps.refl _ w).alloc _).alloc _)
  clear hK
  go_enter Tryd.func32, Tryd.ntmps32
  go_wp2_with (go_at_call 55; refine (unhide HK _ (unhide HB)).mono ?_; rintro e w1 ⟨rfl, hk1⟩)
  go_ret
  exact ⟨rfl, (unhide HB).trans hk1⟩

set_option maxRecDepth 100000 in
set_option maxHeartbeats 1600000 in
theorem eqExprs_same (Z Y : Zone) (N : Nat) : ∀ (l : EL), l.size < N → l.size ≤ 2147483647 → ∀ (w : World) (ua ub : Nat) (va vb : Value), SlE Z w ua va l → SlE Y w ub vb l →
    Calls Tryd.prog 55 #[va, vb] w fun e w' => e = .returned (.bool true) ∧ Keeps (fun _ => False) w w' := by
  induction N with
  | zero => intro l h; omega
  | succ N ih =>
    intro l hsz hlen' w ua ub va vb hS hT
    have hlen : l.len ≤ 2147483647 := by have := EL.len_le l; omega
    obtain ⟨ao, ac, a, ai, rfl, hac, haa, hax⟩ := hS.open
    obtain ⟨bo, bc, b, bi, rfl, hbc, hba, hbx⟩ := hT.open
    have IH := hide ih
    have HX := hide hax
    have HY := hide hbx
    have HA := hide haa
    have HB := hide hba
    clear hS hT ih hax hbx haa hba
    go_enter Tryd.func55, Tryd.ntmps55
    go_wp2_with fail
    go_loopw [5] (fun i wr => ∃ (rest : EL) (k : Nat), i = .int .i64 k ∧ k + rest.len = l.len ∧ rest.size ≤ l.size ∧ Keeps (fun _ => False) w wr ∧ ExIn Z wr rest a (ai + k * 4) ∧ ExIn Y wr rest b (bi + k * 4)) (fun i _ => l.len - (intOf i).toNat)
    case atStart => exact ⟨l, 0, rfl, by omega, Nat.le_refl _, Keeps.refl _ _, by simpa using unhide HX, by simpa using unhide HY⟩
    case round =>
      obtain ⟨rest, k, rfl, hkl, hrs, hkeep, hr, hq⟩ := hrel
      have HK := hide hkeep
      clear hkeep
      cases rest with
      | nil =>
        simp only [EL.len, EL.size] at hkl hrs
        clear hr hq
        have i1 : ¬ (k : Int) < (l.len : Int) := by omega
        go_wp2_with fail
        go_ret
        exact ⟨rfl, unhide HK⟩
      | cons op n s kids rest =>
        obtain ⟨h1, h2, h3, h4, h5, ⟨kao, kac, h6, h7, h8⟩, h9⟩ := hr
        obtain ⟨g1, g2, g3, g4, g5, ⟨kbo, kbc, g6, g7, g8⟩, g9⟩ := hq
        simp only [EL.len, EL.size] at hkl hrs
        obtain ⟨rfl, hp⟩ := (unhide HA) (by omega)
        obtain ⟨rfl, hp'⟩ := (unhide HB) (by omega)
        have hka : SlE Z wr a (.slice kao kids.len kac) kids := ⟨kao, kac, rfl, h7, h8⟩
        have hkb : SlE Y wr b (.slice kbo kids.len kbc) kids := ⟨kbo, kbc, rfl, g7, g8⟩
        have HR := hide h9
        have HQ := hide g9
        have i1 : (k : Int) < (l.len : Int) := by omega
        have i0 : (0 : Int) ≤ (k : Int) := by omega
        have HE := hide (fun (m : KW wr) => kw_of m (eqExpr_same op n s kids.len kids.len kac kbc kao kbo m.wd (fun w' hk => unhide IH kids (by omega) (by omega) w' a b _ _ (hka.keepF (m.kept.trans hk)) (hkb.keepF (m.kept.trans hk)))))
        have f0 : ∀ m : KW wr, m.wd.cell? ⟨a, ai + k * 4, none⟩ = some (.int .i64 op) := fun m => (m.kept.cell h1 id).trans h3
        have f1 : ∀ m : KW wr, m.wd.cell? ⟨a, ai + k * 4 + 1, none⟩ = some (.int .i64 n) := fun m => (m.kept.cell h1 id).trans h4
        have f2 : ∀ m : KW wr, m.wd.cell? ⟨a, ai + k * 4 + 2, none⟩ = some (str s) := fun m => (m.kept.cell h1 id).trans h5
        have f3 : ∀ m : KW wr, m.wd.cell? ⟨a, ai + k * 4 + 3, none⟩ = some (.slice kao kids.len kac) := fun m => (m.kept.cell h1 id).trans h6
        have e0 : ∀ m : KW wr, m.wd.cell? ⟨b, bi + k * 4, none⟩ = some (.int .i64 op) := fun m => (m.kept.cell g1 id).trans g3
        have e1 : ∀ m : KW wr, m.wd.cell? ⟨b, bi + k * 4 + 1, none⟩ = some (.int .i64 n) := fun m => (m.kept.cell g1 id).trans g4
        have e2 : ∀ m : KW wr, m.wd.cell? ⟨b, bi + k * 4 + 2, none⟩ = some (str s) := fun m => (m.kept.cell g1 id).trans g5
        have e3 : ∀ m : KW wr, m.wd.cell? ⟨b, bi + k * 4 + 3, none⟩ = some (.slice kbo kids.len kbc) := fun m => (m.kept.cell g1 id).trans g6
        clear h2 h8 h9 g2 g8 g9 hka hkb
        go_wp2_with fail
        refine region_kept (by kernel_rfl) (by kernel_rfl) ?_
        repeat (go_big_quiet_step ((go_at_call 32; exact unhide HE _)))
        refine wpQuiet_nil ?_
        rintro _ ⟨nq, rfl⟩
        have HK1 := hide nq.kept
        go_wp2_with fail
        go_roundw
        case rel =>
          refine ⟨rest, k + 1, by go_num, by omega, by omega, (unhide HK).trans (unhide HK1), ?_, ?_⟩
          · rw [show ai + (k + 1) * 4 = ai + k * 4 + 4 by omega]
            exact (unhide HR).keepF (unhide HK1)
          · rw [show bi + (k + 1) * 4 = bi + k * 4 + 4 by omega]
            exact (unhide HQ).keepF (unhide HK1)
        case measure => simp [intOf]; omega

set_option maxRecDepth 100000 in
set_option maxHeartbeats 1600000 in
theorem eqStmts_same (Z Y : Zone) (N : Nat) : ∀ (l : SL), l.size < N → l.size ≤ 2147483647 → ∀ (w : World) (ua ub : Nat) (va vb : Value), SlS Z w ua va l → SlS Y w ub vb l →
    Calls Tryd.prog 44 #[va, vb] w fun e w' => e = .returned (.bool true) ∧ Keeps (fun _ => False) w w' := by
  induction N with
  | zero => intro l h; omega
  | succ N ih =>
    intro l hsz hlen' w ua ub va vb hS hT
    have hlen : l.len ≤ 2147483647 := by have := SL.len_le l; omega
    obtain ⟨ao, ac, a, ai, rfl, hac, haa, hax⟩ := hS.open
    obtain ⟨bo, bc, b, bi, rfl, hbc, hba, hbx⟩ := hT.open
    have IH := hide ih
    have HX := hide hax
    have HY := hide hbx
    have HA := hide haa
    have HB := hide hba
    clear hS hT ih hax hbx haa hba
    go_enter Tryd.func44, Tryd.ntmps44
    go_wp2_with fail
    go_loopw [5] (fun i wr => ∃ (rest : SL) (k : Nat), i = .int .i64 k ∧ k + rest.len = l.len ∧ rest.size ≤ l.size ∧ Keeps (fun _ => False) w wr ∧ StIn Z wr rest a (ai + k * 5) ∧ StIn Y wr rest b (bi + k * 5)) (fun i _ => l.len - (intOf i).toNat)
    case atStart => exact ⟨l, 0, rfl, by omega, Nat.le_refl _, Keeps.refl _ _, by simpa using unhide HX, by simpa using unhide HY⟩
    case round =>
      obtain ⟨rest, k, rfl, hkl, hrs, hkeep, hr, hq⟩ := hrel
      have HK := hide hkeep
      clear hkeep
      cases rest with
      | nil =>
        simp only [SL.len, SL.size] at hkl hrs
        clear hr hq
        have i1 : ¬ (k : Int) < (l.len : Int) := by omega
        go_wp2_with fail
        go_ret
        exact ⟨rfl, unhide HK⟩
      | cons op f ex th el rest =>
        obtain ⟨h1, h2, h3, h4, ⟨xv, h5, hxs⟩, ⟨tao, tac, h6, h7, h8⟩, ⟨eao, eac, j6, j7, j8⟩, h9⟩ := hr
        obtain ⟨g1, g2, g3, g4, ⟨yv, g5, gxs⟩, ⟨tbo, tbc, g6, g7, g8⟩, ⟨ebo, ebc, k6, k7, k8⟩, g9⟩ := hq
        simp only [SL.len, SL.size] at hkl hrs
        obtain ⟨rfl, hp⟩ := (unhide HA) (by omega)
        obtain ⟨rfl, hp'⟩ := (unhide HB) (by omega)
        have hta : SlS Z wr a (.slice tao th.len tac) th := ⟨tao, tac, rfl, h7, h8⟩
        have htb : SlS Y wr b (.slice tbo th.len tbc) th := ⟨tbo, tbc, rfl, g7, g8⟩
        have hea : SlS Z wr a (.slice eao el.len eac) el := ⟨eao, eac, rfl, j7, j8⟩
        have heb : SlS Y wr b (.slice ebo el.len ebc) el := ⟨ebo, ebc, rfl, k7, k8⟩
        obtain ⟨xao, xac, rfl, hxl⟩ := hxs.head
        obtain ⟨xbo, xbc, rfl, gxl⟩ := gxs.head
        have HR := hide h9
        have HQ := hide g9
        have i1 : (k : Int) < (l.len : Int) := by omega
        have i0 : (0 : Int) ≤ (k : Int) := by omega
        have HEX := fun (w' : World) (hk : Keeps (fun _ => False) wr w') => hide (eqExprs_same Z Y (ex.size + 1) ex (by omega) (by omega) w' a b _ _ (hxs.keepF hk) (gxs.keepF hk))
        have HET := fun (w' : World) (hk : Keeps (fun _ => False) wr w') => hide (unhide IH th (by omega) (by omega) w' a b _ _ (hta.keepF hk) (htb.keepF hk))
        have HEE := fun (w' : World) (hk : Keeps (fun _ => False) wr w') => hide (unhide IH el (by omega) (by omega) w' a b _ _ (hea.keepF hk) (heb.keepF hk))
        clear h2 h8 h9 g2 g8 g9 j8 k8 hta htb hea heb hxs gxs
        obtain ⟨HBA, hab, hac'⟩ := boxedT wr #[.int .i64 op, str f, .slice xao ex.len xac, .slice tao th.len tac, .slice eao el.len eac] 87
        obtain ⟨HBB, hbb, hbc'⟩ := boxedT (wr.alloc (.cells #[.int .i64 op, str f, .slice xao ex.len xac, .slice tao th.len tac, .slice eao el.len eac] 87)) #[.int .i64 op, str f, .slice xbo ex.len xbc, .slice tbo th.len tbc, .slice ebo el.len ebc] 87
        have hsz1 : (wr.alloc (.cells #[.int .i64 op, str f, .slice xao ex.len xac, .slice tao th.len tac, .slice eao el.len eac] 87)).heap.size = wr.heap.size + 1 := by simp
        have ca3 := ((unhide HBB).cell (o := 3) hab id).trans (hac' 3 (.slice tao th.len tac) rfl)
        have ca4 := ((unhide HBB).cell (o := 4) hab id).trans (hac' 4 (.slice eao el.len eac) rfl)
        have cb3 := hbc' 3 (.slice tbo th.len tbc) rfl
        have cb4 := hbc' 4 (.slice ebo el.len ebc) rfl
        have hab2 := Nat.lt_trans hab hbb
        have HB2 := hide ((unhide HBA).trans (unhide HBB))
        rw [hsz1] at cb3 cb4 hbb
        clear hac' hbc' hsz1 HBA HBB
        go_wp2_with (first
          | (go_at_call 55; refine (unhide (HEX _ (unhide HB2))).mono ?_; rintro e w1 ⟨rfl, hk1⟩; have HJ1 := hide hk1; have HK1 := hide ((unhide HB2).trans hk1); have ra3 := (hk1.cell (o := 3) hab2 id).trans ca3; have rb3 := (hk1.cell (o := 3) hbb id).trans cb3; clear hk1)
          | (go_at_call_of 44 (Value.slice tao th.len tac); refine (unhide (HET _ (unhide HK1))).mono ?_; rintro e w2 ⟨rfl, hk2⟩; have HJ2 := hide ((unhide HJ1).trans hk2); have HK2 := hide ((unhide HK1).trans hk2); have ra4 := ((unhide HJ2).cell (o := 4) hab2 id).trans ca4; have rb4 := ((unhide HJ2).cell (o := 4) hbb id).trans cb4; clear hk2)
          | (go_at_call_of 44 (Value.slice eao el.len eac); refine (unhide (HEE _ (unhide HK2))).mono ?_; rintro e w3 ⟨rfl, hk3⟩; have HK3 := hide ((unhide HK2).trans hk3); clear hk3))
        go_roundw
        case rel =>
          refine ⟨rest, k + 1, by go_num, by omega, by omega, (unhide HK).trans (unhide HK3), ?_, ?_⟩
          · rw [show ai + (k + 1) * 5 = ai + k * 5 + 5 by omega]
            exact (unhide HR).keepF (unhide HK3)
          · rw [show bi + (k + 1) * 5 = bi + k * 5 + 5 by omega]
            exact (unhide HQ).keepF (unhide HK3)
        case measure => simp [intOf]; omega
end Go.Proofs.YtnaajeldbgmdjaaDoor
