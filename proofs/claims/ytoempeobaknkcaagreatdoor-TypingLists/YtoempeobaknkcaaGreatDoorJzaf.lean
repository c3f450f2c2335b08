import Derived.Test.YtoempeobaknkcaaGreatDoorJzae
import Derived.Test.YtoempeobaknkcaaGreatDoorJzaa
import Derived.Test.YtoempeobaknkcaaGreatDoorJzab
namespace Go.Proofs.YtoempeobaknkcaaGreatDoor
open Go.RowKit Go.Maps

set_option maxRecDepth 100000 in
set_option maxHeartbeats 800000 in
theorem rCheck_v (Z : Zone) (l : SL) (hsz : l.size ≤ 4294967294) (w : World) (up : Nat) (v : Value) (hS : SlS Z w up v l) :
    Calls Tryz.prog 42 #[v] w fun e w' => e = .returned (.int .i64 (checkS l)) ∧ Keeps (fun _ => False) w w' := by
  have HW := hide (rWell_v Z (l.size + 1) l (by omega) hsz w up v hS)
  have HC := fun (w' : World) (hk : Keeps (fun _ => False) w w') => hide (rCount_v Z (l.size + 1) l (by omega) hsz w' up v (hS.keepF hk))
  have HD := fun (w' : World) (hk : Keeps (fun _ => False) w w') => hide (rDepth_v Z (l.size + 1) l (by omega) hsz w' up v (hS.keepF hk))
  obtain ⟨ao, cap, rfl, hc⟩ := hS.head
  unfold checkS
  clear hS
  generalize wellS l = bw at HW ⊢
  generalize countS l = nc at HC ⊢
  generalize depthS l = nd at HD ⊢
  cases bw with
  | false =>
    rw [if_pos rfl]
    go_enter Tryz.func42, Tryz.ntmps42
    go_wp2_with (go_at_call 61; refine (unhide HW).mono ?_; rintro e w1 ⟨rfl, hk1⟩)
    go_ret
    exact ⟨rfl, hk1⟩
  | true =>
    rw [if_neg (by simp)]
    by_cases h32 : 32 < nc
    · rw [if_pos h32]
      have g32 : (32 : Int) < (nc : Int) := by omega
      go_enter Tryz.func42, Tryz.ntmps42
      go_wp2_with (first
        | (go_at_call 61; refine (unhide HW).mono ?_; rintro e w1 ⟨rfl, hk1⟩; have HK1 := hide hk1; clear hk1)
        | (go_at_call 62; refine (unhide (HC _ (unhide HK1))).mono ?_; rintro e w2 ⟨rfl, hk2⟩; have HK2 := hide ((unhide HK1).trans hk2); clear hk2))
      go_ret
      exact ⟨rfl, unhide HK2⟩
    · rw [if_neg h32]
      have g32 : ¬ (32 : Int) < (nc : Int) := by omega
      by_cases h12 : 12 < nd
      · rw [if_pos h12]
        have g12 : (12 : Int) < (nd : Int) := by omega
        go_enter Tryz.func42, Tryz.ntmps42
        go_wp2_with (first
          | (go_at_call 61; refine (unhide HW).mono ?_; rintro e w1 ⟨rfl, hk1⟩; have HK1 := hide hk1; clear hk1)
          | (go_at_call 62; refine (unhide (HC _ (unhide HK1))).mono ?_; rintro e w2 ⟨rfl, hk2⟩; have HK2 := hide ((unhide HK1).trans hk2); clear hk2)
          | (go_at_call 63; refine (unhide (HD _ (unhide HK2))).mono ?_; rintro e w3 ⟨rfl, hk3⟩; have HK3 := hide ((unhide HK2).trans hk3); clear hk3))
        go_ret
        exact ⟨rfl, unhide HK3⟩
      · rw [if_neg h12]
        have g12 : ¬ (12 : Int) < (nd : Int) := by omega
        go_enter Tryz.func42, Tryz.ntmps42
        go_wp2_with (first
          | (go_at_call 61; refine (unhide HW).mono ?_; rintro e w1 ⟨rfl, hk1⟩; have HK1 := hide hk1; clear hk1)
          | (go_at_call 62; refine (unhide (HC _ (unhide HK1))).mono ?_; rintro e w2 ⟨rfl, hk2⟩; have HK2 := hide ((unhide HK1).trans hk2); clear hk2)
          | (go_at_call 63; refine (unhide (HD _ (unhide HK2))).mono ?_; rintro e w3 ⟨rfl, hk3⟩; have HK3 := hide ((unhide HK2).trans hk3); clear hk3))
        go_ret
        exact ⟨rfl, unhide HK3⟩

end Go.Proofs.YtoempeobaknkcaaGreatDoor
namespace Go.Proofs.YtoempeobaknkcaaGreatDoor
open Go.RowKit Go.Maps

set_option maxRecDepth 100000 in
set_option maxHeartbeats 800000 in
theorem eqExpr_same (op n : Int) (s : Txt) (ka kb ca cb : Nat) (oa ob : Option Addr) (w : World)
    (hK : ∀ w', Keeps (fun _ => False) w w' → Calls Tryz.prog 38 #[.slice oa ka ca, .slice ob kb cb] w' fun e w'' => e = .returned (.bool true) ∧ Keeps (fun _ => False) w' w'') :
    Calls Tryz.prog 57 #[exV op n s (.slice oa ka ca), exV op n s (.slice ob kb cb)] w fun e w' => e = .returned (.bool true) ∧ Keeps (fun _ => False) w w' := by
  have HK := hide hK
  have HB : Hid (Keeps (fun _ => False) w ((w.alloc (.cells #[.int .i64 op, .int .i64 n, str s, .slice oa ka ca] 57)).alloc (.cells #[.int .i64 op, .int .i64 n, str s, .slice ob kb cb] 57))) := hide (((Keeps.refl _ w).alloc _).alloc _)
  clear hK
  go_enter Tryz.func57, Tryz.ntmps57
  go_wp2_with (go_at_call 38; refine (unhide HK _ (unhide HB)).mono ?_; rintro e w1 ⟨rfl, hk1⟩)
  go_ret
  exact ⟨rfl, (unhide HB).trans hk1⟩

set_option maxRecDepth 100000 in
set_option maxHeartbeats 1600000 in
theorem eqExprs_same (Z Y : Zone) (N : Nat) : ∀ (l : EL), l.size < N → l.size ≤ 4294967294 → ∀ (w : World) (ua ub : Nat) (va vb : Value), SlE Z w ua va l → SlE Y w ub vb l →
    Calls Tryz.prog 38 #[va, vb] w fun e w' => e = .returned (.bool true) ∧ Keeps (fun _ => False) w w' := by
  induction N with
  | zero => intro l h; omega
  | succ N ih =>
    intro l hsz hlen' w ua ub va vb hS hT
    have hlen : l.len ≤ 4294967294 := by have := EL.len_le l; omega
    obtain ⟨ao, ac, a, ai, rfl, hac, haa, hax⟩ := hS.open
    obtain ⟨bo, bc, b, bi, rfl, hbc, hba, hbx⟩ := hT.open
    have IH := hide ih
    have HX := hide hax
    have HY := hide hbx
    have HA := hide haa
    have HB := hide hba
    clear hS hT ih hax hbx haa hba
    go_enter Tryz.func38, Tryz.ntmps38
    go_wp2_with fail
    go_loopw [5] (fun i wr => ∃ (rest : EL) (k : Nat), i = .int .i64 k ∧ k + rest.len = l.len ∧ rest.size ≤ l.size ∧ Keeps (fun _ => False) w wr ∧ ExIn Z wr rest a (ai + k * 4) ∧ ExIn Y wr rest b (bi + k * 4)) (fun i _ => l.len - (intOf i).toNat)
    case atStart => exact ⟨l, 0, rfl, by omega, Nat.le_refl _, Keeps.refl _ _, by simpa using unhide HX, by simpa using unhide HY⟩
    case round =>
      obtain ⟨rest, k, rfl, hkl, hrs, hkeep, hr, hq⟩ := hrel
      have HK := hide hkeep
      clear hkeep
      cases rest with
      | nil =>
        simp only [EL.len, EL.size] at hkl hrs
        clear hr hq
        have i1 : ¬ (k : Int) < (l.len : Int) := by omega
        go_wp2_with fail
        go_ret
        exact ⟨rfl, unhide HK⟩
      | cons op n s kids rest =>
        obtain ⟨h1, h2, h3, h4, h5, ⟨kao, kac, h6, h7, h8⟩, h9⟩ := hr
        obtain ⟨g1, g2, g3, g4, g5, ⟨kbo, kbc, g6, g7, g8⟩, g9⟩ := hq
        simp only [EL.len, EL.size] at hkl hrs
        obtain ⟨rfl, hp⟩ := (unhide HA) (by omega)
        obtain ⟨rfl, hp'⟩ := (unhide HB) (by omega)
        have hka : SlE Z wr a (.slice kao kids.len kac) kids := ⟨kao, kac, rfl, h7, h8⟩
        have hkb : SlE Y wr b (.slice kbo kids.len kbc) kids := ⟨kbo, kbc, rfl, g7, g8⟩
        have HR := hide h9
        have HQ := hide g9
        have i1 : (k : Int) < (l.len : Int) := by omega
        have i0 : (0 : Int) ≤ (k : Int) := by omega
        have HE := hide (fun (m : KW wr) => kw_of m (eqExpr_same op n s kids.len kids.len kac kbc kao kbo m.wd (fun w' hk => unhide IH kids (by omega) (by omega) w' a b _ _ (hka.keepF (m.kept.trans hk)) (hkb.keepF (m.kept.trans hk)))))
        have f0 : ∀ m : KW wr, m.wd.cell? ⟨a, ai + k * 4, none⟩ = some (.int .i64 op) := fun m => (m.kept.cell h1 id).trans h3
        have f1 : ∀ m : KW wr, m.wd.cell? ⟨a, ai + k * 4 + 1, none⟩ = some (.int .i64 n) := fun m => (m.kept.cell h1 id).trans h4
        have f2 : ∀ m : KW wr, m.wd.cell? ⟨a, ai + k * 4 + 2, none⟩ = some (str s) := fun m => (m.kept.cell h1 id).trans h5
        have f3 : ∀ m : KW wr, m.wd.cell? ⟨a, ai + k * 4 + 3, none⟩ = some (.slice kao kids.len kac) := fun m => (m.kept.cell h1 id).trans h6
        have e0 : ∀ m : KW wr, m.wd.cell? ⟨b, bi + k * 4, none⟩ = some (.int .i64 op) := fun m => (m.kept.cell g1 id).trans g3
        have e1 : ∀ m : KW wr, m.wd.cell? ⟨b, bi + k * 4 + 1, none⟩ = some (.int .i64 n) := fun m => (m.kept.cell g1 id).trans g4
        have e2 : ∀ m : KW wr, m.wd.cell? ⟨b, bi + k * 4 + 2, none⟩ = some (str s) := fun m => (m.kept.cell g1 id).trans g5
        have e3 : ∀ m : KW wr, m.wd.cell? ⟨b, bi + k * 4 + 3, none⟩ = some (.slice kbo kids.len kbc) := fun m => (m.kept.cell g1 id).trans g6
        clear h2 h8 h9 g2 g8 g9 hka hkb
        go_wp2_with fail
        refine region_kept (by kernel_rfl) (by kernel_rfl) ?_
        repeat (go_big_quiet_step ((go_at_call 57; exact unhide HE _)))
        refine wpQuiet_nil ?_
        rintro _ ⟨nq, rfl⟩
        have HK1 := hide nq.kept
        go_wp2_with fail
        go_roundw
        case rel =>
          refine ⟨rest, k + 1, by go_num, by omega, by omega, (unhide HK).trans (unhide HK1), ?_, ?_⟩
          · rw [show ai + (k + 1) * 4 = ai + k * 4 + 4 by omega]
            exact (unhide HR).keepF (unhide HK1)
          · rw [show bi + (k + 1) * 4 = bi + k * 4 + 4 by omega]
            exact (unhide HQ).keepF (unhide HK1)
        case measure => simp [intOf]; omega

set_option maxRecDepth 100000 in
set_option maxHeartbeats 1600000 in
theorem eqStmts_same (Z Y : Zone) (N : Nat) : ∀ (l : SL), l.size < N → l.size ≤ 4294967294 → ∀ (w : World) (ua ub : Nat) (va vb : Value), SlS Z w ua va l → SlS Y w ub vb l →
    Calls Tryz.prog 18 #[va, vb] w fun e w' => e = .returned (.bool true) ∧ Keeps (fun _ => False) w w' := by
  induction N with
  | zero => intro l h; omega
  | succ N ih =>
    intro l hsz hlen' w ua ub va vb hS hT
    have hlen : l.len ≤ 4294967294 := by have := SL.len_le l; omega
    obtain ⟨ao, ac, a, ai, rfl, hac, haa, hax⟩ := hS.open
    obtain ⟨bo, bc, b, bi, rfl, hbc, hba, hbx⟩ := hT.open
    have IH := hide ih
    have HX := hide hax
    have HY := hide hbx
    have HA := hide haa
    have HB := hide hba
    clear hS hT ih hax hbx haa hba
    go_enter Tryz.func18, Tryz.ntmps18
    go_wp2_with fail
    go_loopw [5] (fun i wr => ∃ (rest : SL) (k : Nat), i = .int .i64 k ∧ k + rest.len = l.len ∧ rest.size ≤ l.size ∧ Keeps (fun _ => False) w wr ∧ StIn Z wr rest a (ai + k * 5) ∧ StIn Y wr rest b (bi + k * 5)) (fun i _ => l.len - (intOf i).toNat)
    case atStart => exact ⟨l, 0, rfl, by omega, Nat.le_refl _, Keeps.refl _ _, by simpa using unhide HX, by simpa using unhide HY⟩
    case round =>
      obtain ⟨rest, k, rfl, hkl, hrs, hkeep, hr, hq⟩ := hrel
      have HK := hide hkeep
      clear hkeep
      cases rest with
      | nil =>
        simp only [SL.len, SL.size] at hkl hrs
        clear hr hq
        have i1 : ¬ (k : Int) < (l.len : Int) := by omega
        go_wp2_with fail
        go_ret
        exact ⟨rfl, unhide HK⟩
      | cons op f ex th el rest =>
        obtain ⟨h1, h2, h3, h4, ⟨xv, h5, hxs⟩, ⟨tao, tac, h6, h7, h8⟩, ⟨eao, eac, j6, j7, j8⟩, h9⟩ := hr
        obtain ⟨g1, g2, g3, g4, ⟨yv, g5, gxs⟩, ⟨tbo, tbc, g6, g7, g8⟩, ⟨ebo, ebc, k6, k7, k8⟩, g9⟩ := hq
        simp only [SL.len, SL.size] at hkl hrs
        obtain ⟨rfl, hp⟩ := (unhide HA) (by omega)
        obtain ⟨rfl, hp'⟩ := (unhide HB) (by omega)
        have hta : SlS Z wr a (.slice tao th.len tac) th := ⟨tao, tac, rfl, h7, h8⟩
        have htb : SlS Y wr b (.slice tbo th.len tbc) th := ⟨tbo, tbc, rfl, g7, g8⟩
        have hea : SlS Z wr a (.slice eao el.len eac) el := ⟨eao, eac, rfl, j7, j8⟩
        have heb : SlS Y wr b (.slice ebo el.len ebc) el := ⟨ebo, ebc, rfl, k7, k8⟩
        obtain ⟨xao, xac, rfl, hxl⟩ := hxs.head
        obtain ⟨xbo, xbc, rfl, gxl⟩ := gxs.head
        have HR := hide h9
        have HQ := hide g9
        have i1 : (k : Int) < (l.len : Int) := by omega
        have i0 : (0 : Int) ≤ (k : Int) := by omega
        have HEX := fun (w' : World) (hk : Keeps (fun _ => False) wr w') => hide (eqExprs_same Z Y (ex.size + 1) ex (by omega) (by omega) w' a b _ _ (hxs.keepF hk) (gxs.keepF hk))
        have HET := fun (w' : World) (hk : Keeps (fun _ => False) wr w') => hide (unhide IH th (by omega) (by omega) w' a b _ _ (hta.keepF hk) (htb.keepF hk))
        have HEE := fun (w' : World) (hk : Keeps (fun _ => False) wr w') => hide (unhide IH el (by omega) (by omega) w' a b _ _ (hea.keepF hk) (heb.keepF hk))
        clear h2 h8 h9 g2 g8 g9 j8 k8 hta htb hea heb hxs gxs
        obtain ⟨HBA, hab, hac'⟩ := boxedT wr #[.int .i64 op, str f, .slice xao ex.len xac, .slice tao th.len tac, .slice eao el.len eac] 53
        obtain ⟨HBB, hbb, hbc'⟩ := boxedT (wr.alloc (.cells #[.int .i64 op, str f, .slice xao ex.len xac, .slice tao th.len tac, .slice eao el.len eac] 53)) #[.int .i64 op, str f, .slice xbo ex.len xbc, .slice tbo th.len tbc, .slice ebo el.len ebc] 53
        have hsz1 : (wr.alloc (.cells #[.int .i64 op, str f, .slice xao ex.len xac, .slice tao th.len tac, .slice eao el.len eac] 53)).heap.size = wr.heap.size + 1 := by simp
        have ca3 := ((unhide HBB).cell (o := 3) hab id).trans (hac' 3 (.slice tao th.len tac) rfl)
        have ca4 := ((unhide HBB).cell (o := 4) hab id).trans (hac' 4 (.slice eao el.len eac) rfl)
        have cb3 := hbc' 3 (.slice tbo th.len tbc) rfl
        have cb4 := hbc' 4 (.slice ebo el.len ebc) rfl
        have hab2 := Nat.lt_trans hab hbb
        have HB2 := hide ((unhide HBA).trans (unhide HBB))
        rw [hsz1] at cb3 cb4 hbb
        clear hac' hbc' hsz1 HBA HBB
        go_wp2_with (first
          | (go_at_call 38; refine (unhide (HEX _ (unhide HB2))).mono ?_; rintro e w1 ⟨rfl, hk1⟩; have HJ1 := hide hk1; have HK1 := hide ((unhide HB2).trans hk1); have ra3 := (hk1.cell (o := 3) hab2 id).trans ca3; have rb3 := (hk1.cell (o := 3) hbb id).trans cb3; clear hk1)
          | (go_at_call_of 18 (Value.slice tao th.len tac); refine (unhide (HET _ (unhide HK1))).mono ?_; rintro e w2 ⟨rfl, hk2⟩; have HJ2 := hide ((unhide HJ1).trans hk2); have HK2 := hide ((unhide HK1).trans hk2); have ra4 := ((unhide HJ2).cell (o := 4) hab2 id).trans ca4; have rb4 := ((unhide HJ2).cell (o := 4) hbb id).trans cb4; clear hk2)
          | (go_at_call_of 18 (Value.slice eao el.len eac); refine (unhide (HEE _ (unhide HK2))).mono ?_; rintro e w3 ⟨rfl, hk3⟩; have HK3 := hide ((unhide HK2).trans hk3); clear hk3))
        go_roundw
        case rel =>
          refine ⟨rest, k + 1, by go_num, by omega, by omega, (unhide HK).trans (unhide HK3), ?_, ?_⟩
          · rw [show ai + (k + 1) * 5 = ai + k * 5 + 5 by omega]
            exact (unhide HR).keepF (unhide HK3)
          · rw [show bi + (k + 1) * 5 = bi + k * 5 + 5 by omega]
            exact (unhide HQ).keepF (unhide HK3)
        case measure => simp [intOf]; omega
end Go.Proofs.YtoempeobaknkcaaGreatDoor
namespace Go.Proofs.YtoempeobaknkcaaGreatDoor
open Go.RowKit Go.Maps

theorem Tryz.info5 : (Tryz.prog.info? 5).map (fun i => (i.zero, i.size, i.bytes)) = some (some (.int .u8 0), 1, 1) := by kernel_rfl
theorem Tryz.info67 : (Tryz.prog.info? 67).map (fun i => (i.zero, i.size, i.bytes)) = some (some (.agg #[.string ⟨#[]⟩, .int .i64 0, .bool false]), 3, 32) := by kernel_rfl

theorem BytesAt.cells {w : World} {v : Value} {l : Txt} (h : BytesAt w v l) (h0 : 0 < l.length) :
    ∃ b off cap, v = .slice (some ⟨b, off, none⟩) l.length cap ∧ b < w.heap.size ∧ ∀ i c, l[i]? = some c → w.cell? ⟨b, off + i, none⟩ = some (.int .u8 (num c)) := by
  obtain ⟨b, off, cap, e, hb, hc⟩ := RowAt.cells h h0
  exact ⟨b, off, cap, e, hb, fun i c hi => hc i _ (by rw [bs_get, hi]; rfl)⟩

end Go.Proofs.YtoempeobaknkcaaGreatDoor
namespace Go.Proofs.YtoempeobaknkcaaGreatDoor
open Go.RowKit Go.Maps

theorem take_succ_eq {α : Type} {a b : List α} {k : Nat} (h : a.take k = b.take k) {x : α} (ha : a[k]? = some x) (hb : b[k]? = some x) : a.take (k + 1) = b.take (k + 1) := by
  rw [take_snoc _ _ _ ha, take_snoc _ _ _ hb, h]
theorem take_end {α : Type} {a b : List α} (hl : a.length = b.length) {k : Nat} (hk : a.length ≤ k) (h : a.take k = b.take k) : a = b := by
  rwa [List.take_of_length_le hk, List.take_of_length_le (by omega)] at h
theorem get_ne {α : Type} {a b : List α} {k : Nat} {x y : α} (ha : a[k]? = some x) (hb : b[k]? = some y) (h : x ≠ y) : a ≠ b := by
  intro e
  rw [e, hb] at ha
  exact h (by simpa using ha.symm)

end Go.Proofs.YtoempeobaknkcaaGreatDoor
namespace Go.Proofs.YtoempeobaknkcaaGreatDoor
open Go.RowKit Go.Maps

set_option maxRecDepth 100000 in
set_option maxHeartbeats 2000000 in
theorem eqSchema_any (w : World) (va vb : Value) (la lb : List FieldA) (ha : FldsAt w va la) (hb : FldsAt w vb lb) (hla : la.length ≤ maxLen) :
    Calls Tryz.prog 23 #[.agg #[va], .agg #[vb]] w fun e w' => e = .returned (.bool (decide (la = lb))) ∧ Keeps (fun _ => False) w w' := by
  obtain ⟨ao, capa, rfl⟩ := RowAt.form ha
  obtain ⟨bo, capb, rfl⟩ := RowAt.form hb
  unfold maxLen at hla
  obtain ⟨H1, h1, hc1⟩ := boxed w #[.slice ao la.length capa] 24
  obtain ⟨H2, h2, hc2⟩ := boxed (w.alloc (.cells #[.slice ao la.length capa] 24)) #[.slice bo lb.length capb] 24
  have hp1 := ((unhide H2).cell (o := 0) h1 id).trans (hc1 0 _ rfl)
  have hp2 := hc2 0 _ rfl
  have h1' := Nat.lt_of_lt_of_le h1 (unhide H2).size
  have HB := hide ((unhide H1).trans (unhide H2))
  have HA := hide (ha.keepF (unhide HB))
  have HBB := hide (hb.keepF (unhide HB))
  have hsz : (w.alloc (.cells #[.slice ao la.length capa] 24)).heap.size = w.heap.size + 1 := by simp
  rw [hsz] at h2 hp2
  clear ha hb hc1 hc2 H1 H2 h1 hsz
  go_enter Tryz.func23, Tryz.ntmps23
  by_cases hlen : la.length = lb.length
  · have hne : ((la.length : Int) != (lb.length : Int)) = false := by simp [hlen]
    have HL := hide hlen
    clear hlen
    go_wp2
    generalize (w.alloc (.cells #[.slice ao la.length capa] 24)).alloc (.cells #[.slice bo lb.length capb] 24) = w2 at *
    generalize w.heap.size = sb at *
    go_loopw [5] (fun i wr => ∃ k : Nat, k ≤ la.length ∧ i = .int .i64 k ∧ Hid (la.take k = lb.take k) ∧ Keeps (fun _ => False) w2 wr) (fun i _ => la.length - (intOf i).toNat)
    case atStart => exact ⟨0, Nat.zero_le _, rfl, rfl, Keeps.refl _ _⟩
    case round =>
      obtain ⟨k, hk, rfl, HT, hkp⟩ := hrel
      have HK := hide hkp
      have p1 := (hkp.cell (o := 0) h1' id).trans hp1
      have p2 := (hkp.cell (o := 0) h2 id).trans hp2
      by_cases hlt : k < la.length
      · have hltb : k < lb.length := by have := unhide HL; omega
        obtain ⟨b, off, c1, e1, hbl, hc⟩ := (unhide HA).cells (by omega)
        obtain ⟨b', off', c2, e2, hbl', hc'⟩ := (unhide HBB).cells (by omega)
        simp at e1 e2
        obtain ⟨rfl, rfl⟩ := e1
        obtain ⟨rfl, rfl⟩ := e2
        obtain ⟨x, hx⟩ : ∃ x, la[k]? = some x := ⟨_, List.getElem?_eq_getElem hlt⟩
        obtain ⟨y, hy⟩ : ∃ y, lb[k]? = some y := ⟨_, List.getElem?_eq_getElem hltb⟩
        have c0 := (hkp.cell hbl id).trans (hc k x hx).1
        have c1 := (hkp.cell hbl id).trans (hc k x hx).2.1
        have c2 := (hkp.cell hbl id).trans (hc k x hx).2.2
        have d0 := (hkp.cell hbl' id).trans (hc' k y hy).1
        have d1 := (hkp.cell hbl' id).trans (hc' k y hy).2.1
        have d2 := (hkp.cell hbl' id).trans (hc' k y hy).2.2
        have z0 : sb < wr.heap.size := Nat.lt_of_lt_of_le h1' (unhide HK).size
        have z1 : b < wr.heap.size := Nat.lt_of_lt_of_le hbl (unhide HK).size
        have z2 : b' < wr.heap.size := Nat.lt_of_lt_of_le hbl' (unhide HK).size
        have z3 : sb + 1 < wr.heap.size := Nat.lt_of_lt_of_le h2 (unhide HK).size
        have i1 : (k : Int) < (la.length : Int) := by omega
        have i2 : (k : Int) < (lb.length : Int) := by omega
        have HX := hide hx
        have HY := hide hy
        clear hc hc' hx hy hkp
        go_wp2
        case roundEnd =>
          rename_i ho
          have HXY : Hid (x = y) := by
            obtain ⟨n1, t1, o1⟩ := x
            obtain ⟨n2, t2, o2⟩ := y
            show _ = _
            simp_all
          go_roundw
          case rel => exact ⟨k + 1, by omega, by go_num, take_succ_eq (unhide HT) (unhide HX) (by rw [unhide HXY]; exact unhide HY), ((unhide HK).alloc _).alloc _⟩
          case measure => simp [intOf]; omega
        all_goals
          rename_i ho
          have HXY : Hid (x ≠ y) := by
            rintro rfl
            simp at ho
          go_ret
          exact ⟨ret_bool (by symm; rw [decide_eq_false_iff_not]; exact get_ne (unhide HX) (unhide HY) (unhide HXY)), (unhide HB).trans (((unhide HK).alloc _).alloc _)⟩
      · have HF := hide (take_end (unhide HL) (by omega) (unhide HT))
        clear hkp
        go_wp2
        go_ret
        exact ⟨ret_bool (by symm; rw [decide_eq_true_iff]; exact unhide HF), (unhide HB).trans (unhide HK)⟩
  · have hne : ((la.length : Int) != (lb.length : Int)) = true := by rw [bne_iff_ne]; omega
    have HL := hide hlen
    clear hlen
    go_wp2
    go_ret
    exact ⟨ret_bool (by symm; rw [decide_eq_false_iff_not]; intro e; exact unhide HL (by rw [e])), unhide HB⟩

end Go.Proofs.YtoempeobaknkcaaGreatDoor
namespace Go.Proofs.YtoempeobaknkcaaGreatDoor
open Go.RowKit Go.Maps

theorem ownsRow_kept {w w' : World} {B e size n : Nat} {v : Value} {xs : List Value} (h : w.ownsRow B e size v n xs) {F : Nat → Prop} (hk : Keeps F w w') (hF : ∀ k, v.ownBlock = some k → ¬ F k) : w'.ownsRow B e size v n xs := by
  obtain ⟨h1, h2⟩ := h
  refine ⟨h1, ?_⟩
  rcases h2 with h2 | ⟨g, cap, cur, hv, hb, hg, rest⟩
  · exact Or.inl h2
  · exact Or.inr ⟨g, cap, cur, hv, hb, by rw [hk.block g (lt_of_block hg) (hF g (by rw [hv]; rfl))]; exact hg, rest⟩
theorem ownsRow_ne {w : World} {B e size n : Nat} {v : Value} {xs : List Value} (h : w.ownsRow B e size v n xs) {k : Nat} {c : Array Value} {t : TypeId} {fr : Nat × Nat} (hb : w.heap[k]? = some (.cells c t fr)) (ht : t ≠ e) : v.ownBlock ≠ some k := by
  rcases h.2 with ⟨hv, _⟩ | ⟨g, cap, cur, hv, _, hg, _⟩
  · rw [hv]; simp [Value.ownBlock]
  · rw [hv]
    simp only [Value.ownBlock, ne_eq, Option.some.injEq]
    rintro rfl
    rw [hb] at hg
    simp at hg
    exact ht hg.2.1
theorem ownsRow_lower {w : World} {B C e size n : Nat} {v : Value} {xs : List Value} (h : w.ownsRow B e size v n xs) (hC : C ≤ B) : w.ownsRow C e size v n xs := by
  obtain ⟨h1, h2⟩ := h
  refine ⟨h1, ?_⟩
  rcases h2 with h2 | ⟨g, cap, cur, hv, hb, rest⟩
  · exact Or.inl h2
  · exact Or.inr ⟨g, cap, cur, hv, Nat.le_trans hC hb, rest⟩
theorem Keeps.narrow {F : Nat → Prop} {a b c : World} (h : Keeps (fun _ => False) a b) (k : Keeps F b c) (hF : ∀ i, F i → a.heap.size ≤ i) : Keeps (fun _ => False) a c :=
  ⟨k.os.trans h.os, k.tape.trans h.tape, k.output.trans h.output, Nat.le_trans h.size k.size, fun i hi _ => (k.block i (Nat.lt_of_lt_of_le hi h.size) (fun f => by have := hF i f; omega)).trans (h.block i hi id)⟩

theorem keeps_set (w : World) (b o : Nat) (u : Value) : Keeps (fun q => q = b) w (w.setCell ⟨b, o, none⟩ u) :=
  (Keeps.refl (fun q => q = b) w).setCell (p := ⟨b, o, none⟩) (fun _ => rfl) u

set_option maxRecDepth 100000 in
set_option maxHeartbeats 2000000 in
theorem copySchema_any (w : World) (v : Value) (l : List FieldA) (h : FldsAt w v l) (hl : l.length ≤ 1099511627776) :
    Calls Tryz.prog 22 #[.agg #[v]] w fun e w' => ∃ v', e = .returned (.agg #[v']) ∧ w'.ownsRow w.heap.size 67 3 v' l.length (fcs l) ∧ Keeps (fun _ => False) w w' := by
  obtain ⟨i0, hi, hz0, hz1, hz2⟩ := info_parts Tryz.info67
  obtain ⟨ao, cap, rfl⟩ := RowAt.form h
  obtain ⟨w3, hw3⟩ : ∃ w3, w3 = ((w.alloc (.cells #[.slice ao l.length cap] 24)).alloc (.cells #[.slice none 0 0] 24)).alloc (.cells #[.slice none 0 0] 24) := ⟨_, rfl⟩
  have hK : Keeps (fun _ => False) w w3 := by rw [hw3]; exact (((Keeps.refl _ _).alloc _).alloc _).alloc _
  have hs3 : w3.heap.size = w.heap.size + 3 := by rw [hw3]; simp
  have b0 : w3.heap[w.heap.size]? = some (.cells #[.slice ao l.length cap] 24 (0, 0)) := by
    rw [hw3, Below.heap_alloc _ _ _ (by simp; omega), Below.heap_alloc _ _ _ (by simp)]
    exact heap_alloc_new w _
  have b1 : w3.heap[w.heap.size + 1]? = some (.cells #[.slice none 0 0] 24 (0, 0)) := by
    rw [hw3, Below.heap_alloc _ _ _ (by simp)]
    have := heap_alloc_new (w.alloc (.cells #[.slice ao l.length cap] 24)) (.cells #[.slice none 0 0] 24)
    simpa using this
  have b2 : w3.heap[w.heap.size + 1 + 1]? = some (.cells #[.slice none 0 0] 24 (0, 0)) := by
    rw [hw3]
    have := heap_alloc_new ((w.alloc (.cells #[.slice ao l.length cap] 24)).alloc (.cells #[.slice none 0 0] 24)) (.cells #[.slice none 0 0] 24)
    simpa using this
  have HF := hide (h.keepF hK)
  have HW := hide hw3
  have HK := hide hK
  have HL := hide hl
  have B0 := hide b0
  have B1 := hide b1
  have B2 := hide b2
  have HS := hide hs3
  clear h hw3 hK b0 b1 b2 hs3 hl
  have hl' : l.length ≤ 9223372036854775807 := by have := unhide HL; omega
  go_enter Tryz.func22, Tryz.ntmps22
  go_wp2
  rw [← unhide HW]
  go_loopw [4] (fun i wr => ∃ (k : Nat) (o : Value), k ≤ l.length ∧ i = .int .i64 k ∧ wr.heap[w.heap.size + 1 + 1]? = some (.cells #[o] 24 (0, 0)) ∧ wr.ownsRow w3.heap.size 67 3 o k (fcs (l.take k)) ∧ Keeps (fun q => q = w.heap.size + 1 + 1) w3 wr) (fun i _ => l.length - (intOf i).toNat)
  case atStart => exact ⟨0, _, Nat.zero_le _, rfl, unhide B2, by simpa [fcs] using World.ownsRow_nil w3 w3.heap.size 67 3, Keeps.refl _ _⟩
  case round =>
    obtain ⟨k, o, hk, rfl, hbo, hown, hkp⟩ := hrel
    obtain ⟨oo, oc, rfl⟩ := (rowAt_own hown).form
    have HBo := hide hbo
    have HO := hide hown
    have HP := hide hkp
    have p0 : wr.cell? ⟨w.heap.size, 0, none⟩ = some (.slice ao l.length cap) := (hkp.cell (lt_of_block (unhide B0)) (by show ¬ _ = _; omega)).trans (by rw [cell_of_blk (unhide B0)]; rfl)
    have p2 : wr.cell? ⟨w.heap.size + 1 + 1, 0, none⟩ = some (.slice oo k oc) := by rw [cell_of_blk hbo]; rfl
    have f2 := frozen_of_blk hbo 0
    have z2 := lt_of_block hbo
    have z0 : w.heap.size < wr.heap.size := by omega
    by_cases hlt : k < l.length
    · obtain ⟨b, off, c1, e1, hbl, hc⟩ := (unhide HF).cells (by omega)
      simp at e1
      obtain ⟨rfl, rfl⟩ := e1
      obtain ⟨f, hf⟩ : ∃ f, l[k]? = some f := ⟨_, List.getElem?_eq_getElem hlt⟩
      have hbne : b ≠ w.heap.size + 1 + 1 := by
        rintro rfl
        have h1 := (hc k f hf).2.1
        have h2 := (hc k f hf).2.2
        rw [cell_of_blk (unhide B2)] at h1 h2
        rw [Array.getElem?_eq_none (by simp)] at h2
        cases h2
      have c0 := (hkp.cell hbl (by show ¬ _ = _; omega)).trans (hc k f hf).1
      have c1 := (hkp.cell hbl (by show ¬ _ = _; omega)).trans (hc k f hf).2.1
      have c2 := (hkp.cell hbl (by show ¬ _ = _; omega)).trans (hc k f hf).2.2
      have z1 : b < wr.heap.size := Nat.lt_of_lt_of_le hbl hkp.size
      have HX := hide hf
      have HN := hide (ownsRow_ne hown hbo (by decide))
      have i1 : (k : Int) < (l.length : Int) := by omega
      have i0' : (0 : Int) ≤ (k : Int) := by omega
      clear hc hf hbo hown hkp
      go_wp2_with fail
      go_region_law (first
        | (refine step_append_lies _ (by rfl) _ _ _ (by rfl) w3.heap.size 67 i0 _ 3 32 Tryz.underlying22 hi hz0 hz1 hz2 rfl (by omega) (.slice oo k oc) k (fcs (l.take k)) (by rfl) (((unhide HO).alloc _).drew)
            ⟨wr.heap.size, 0, none⟩ 1 1 f.cs (by rfl) (by rfl) (World.news_of_block (cs := #[str f.name, .int .i64 f.type, .bool f.opt]) (t := 67) (fr := (0, 0)) (by exact heap_alloc_new wr _)) (by simp [Value.oneCell', FieldA.cs])
            (by omega) (by unfold maxLen; omega) (by have := unhide HL; omega) (by have := (unhide HP).size; simp; omega) (wr.heap.size + 1) (by simp) ?_; intro g cap' w5 hown2 hgrow hat hlt2
           have f2' : w5.frozen? ⟨w.heap.size + 1 + 1, 0, none⟩ = false := by (rw [hgrow.frozen_far _ (by simp; omega) (Ne.symm (unhide HN))]; simpa [World.frozen?_alloc_past, z2] using f2)
           have p2' : w5.cell? ⟨w.heap.size + 1 + 1, 0, none⟩ = some (.slice oo k oc) := by (rw [hgrow.cell_far _ (by simp; omega) (Ne.symm (unhide HN))]; simpa [World.cell?_alloc_past, z2] using p2)))
      all_goals
        have hb5 : w5.heap[w.heap.size + 1 + 1]? = some (.cells #[.slice oo k oc] 24 (0, 0)) := by
          rw [hgrow.block (w.heap.size + 1 + 1) (by simp; omega) (Ne.symm (unhide HN))]
          show (wr.alloc _).heap[w.heap.size + 1 + 1]? = _
          rw [Below.heap_alloc _ _ _ z2]
          exact unhide HBo
        have H5 := hide hb5
        have HO2 := hide hown2
        have HG2 := hide hgrow
        clear hb5 hown2 hgrow
        go_wp2
        go_roundw
        case rel =>
          refine ⟨k + 1, .slice (some ⟨g, 0, none⟩) (k + 1) cap', by omega, by go_num, ?_, ?_, ?_⟩
          · rw [heap_setCell_at (unhide H5)]; rfl
          · rw [take_snoc _ _ _ (unhide HX)]
            have h1 : w5.ownsRow w3.heap.size 67 3 (.slice (some ⟨g, 0, none⟩) (k + 1) cap') (k + 1) (fcs (l.take k ++ [f])) := by simpa [fcs] using unhide HO2
            exact ownsRow_kept (F := fun q => q = w.heap.size + 1 + 1) h1 (keeps_set w5 _ 0 _) (fun q e e2 => by subst e2; exact ownsRow_ne h1 (unhide H5) (by decide) e)
          · exact ((((unhide HP).alloc _).drew).grown (unhide HG2) (fun q e hq => by have := ((unhide HO).lt q e).1; omega)).setCell (fun _ => rfl) _
        case measure => simp [intOf]; omega
    · obtain rfl : k = l.length := by omega
      have hb1 : wr.heap[w.heap.size + 1]? = some (.cells #[.slice none 0 0] 24 (0, 0)) := by rw [hkp.block _ (lt_of_block (unhide B1)) (by show ¬ _ = _; omega)]; exact unhide B1
      have p1 : wr.cell? ⟨w.heap.size + 1, 0, none⟩ = some (.slice none 0 0) := by rw [cell_of_blk hb1]; rfl
      have f1 := frozen_of_blk hb1 0
      have H1 := hide hb1
      have HN1 := hide (ownsRow_ne hown hb1 (by decide))
      clear hb1 hown hkp hbo
      go_wp2
      have hq : (wr.setCell ⟨w.heap.size + 1, 0, none⟩ (.slice oo l.length oc)).cell? ⟨w.heap.size + 1, 0, none⟩ = some (.slice oo l.length oc) := by rw [cell_of_blk (heap_setCell_at (unhide H1) _)]; rfl
      refine bodyPost_ret (v := .agg #[.slice oo l.length oc]) (by simp [results, go_sem, hq]) rfl ?_
      refine ⟨.slice oo l.length oc, rfl, ?_, ?_⟩
      · have h1 := unhide HO
        rw [List.take_length] at h1
        exact ownsRow_lower (ownsRow_kept (F := fun q => q = w.heap.size + 1) h1 (keeps_set wr _ 0 _) (fun q e e2 => unhide HN1 (by rw [← e2]; exact e))) (unhide HK).size
      · exact (unhide HK).narrow (F := fun q => q = w.heap.size + 1 + 1 ∨ q = w.heap.size + 1) (((unhide HP).mono (fun q _ h => Or.inl h)).then (keeps_set wr (w.heap.size + 1) 0 _) (fun q _ h => Or.inr h)) (fun q h => by omega)

end Go.Proofs.YtoempeobaknkcaaGreatDoor
namespace Go.Proofs.YtoempeobaknkcaaGreatDoor
open Go.RowKit Go.Maps

/-- What a field or an expression is: its type, and whether it is optional. -/
structure KA where
  t : Int
  o : Bool
deriving DecidableEq
def fieldOf (S : List FieldA) (nm : Txt) : Option FieldA := S.find? fun f => decide (f.name = nm)
/-- The first of two errors. -/
def orI (a b : Int) : Int := if a = 0 then b else a
def ofI (k : KA) (ts : List Int) : Int := if ts.contains k.t then 0 else 91
def plainI (k : KA) (ts : List Int) : Int := orI (ofI k ts) (if k.o then 92 else 0)
def optI (k : KA) : Int := if k.o then 0 else 92
def takesI : List KA → List Int → Int
  | k :: ks, t :: ts => orI (plainI k [t]) (takesI ks ts)
  | _, _ => 0
def namedK (S : List FieldA) (s : Txt) : KA × Int := match fieldOf S s with
  | some f => (⟨f.type, f.opt⟩, 0)
  | none => (⟨0, false⟩, 90)
def hasK (S : List FieldA) (s : Txt) : KA × Int := (⟨2, false⟩, orI (namedK S s).2 (optI (namedK S s).1))
def takesK (is : Int) (ts : List Int) (ks : List KA) : KA × Int := if takesI ks ts = 0 then (⟨is, false⟩, 0) else (⟨0, false⟩, takesI ks ts)
def kth (ks : List KA) (i : Nat) : KA := ks.getD i ⟨0, false⟩
def comparesK (ts : List Int) (ks : List KA) : KA × Int := (⟨2, false⟩, orI (plainI (kth ks 0) ts) (plainI (kth ks 1) [(kth ks 0).t]))
def orElseK (ks : List KA) : KA × Int := (⟨(kth ks 0).t, false⟩, orI (optI (kth ks 0)) (plainI (kth ks 1) [(kth ks 0).t]))
def pickK (ks : List KA) : KA × Int := (⟨(kth ks 1).t, false⟩, orI (plainI (kth ks 0) [2]) (orI (plainI (kth ks 1) [(kth ks 1).t]) (plainI (kth ks 2) [(kth ks 1).t])))
/-- The rule of an operation. -/
inductive RuleA where
  | takes (is : Int) (ts : List Int)
  | field
  | has
  | compares (ts : List Int)
  | orElse
  | pick
def ruleL : List (Option RuleA) := [none, some (.takes 1 []), some (.takes 2 []), some (.takes 3 []), some .field, some .has, some (.takes 2 []), some (.takes 2 [2]), some (.takes 1 [1]),
  some (.takes 1 [1, 1]), some (.takes 1 [1, 1]), some (.takes 1 [1, 1]), some (.compares [1, 3]), some (.compares [1, 3]), some (.compares [1, 3]), some (.compares [1, 3]), some (.compares [1, 2, 3]), some (.compares [1, 2, 3]),
  some (.takes 2 [2, 2]), some (.takes 2 [2, 2]), some .orElse, some (.takes 1 [1, 1]), some (.takes 1 [1, 1]), some (.takes 1 [3]), some (.takes 3 [3, 3]), some .pick]
def RuleA.fit (S : List FieldA) (r : RuleA) (s : Txt) (ks : List KA) : KA × Int := match r with
  | .takes is ts => takesK is ts ks
  | .field => namedK S s
  | .has => hasK S s
  | .compares ts => comparesK ts ks
  | .orElse => orElseK ks
  | .pick => pickK ks
/-- How many kids a rule asks for. -/
def RuleA.kids : RuleA → Nat
  | .takes _ ts => ts.length
  | .field => 0
  | .has => 0
  | .compares _ => 2
  | .orElse => 2
  | .pick => 3
def ruleP (S : List FieldA) (op : Int) (s : Txt) (ks : List KA) : KA × Int := match (ruleL[op.toNat]?).join with
  | some r => r.fit S s ks
  | none => (⟨0, false⟩, 0)
def kindsP (S : List FieldA) : EL → List KA × Int
  | .nil => ([], 0)
  | .cons op _ s kids rest =>
    if (kindsP S kids).2 ≠ 0 then ([], (kindsP S kids).2)
    else if (ruleP S op s (kindsP S kids).1).2 ≠ 0 then ([], (ruleP S op s (kindsP S kids).1).2)
    else if (kindsP S rest).2 ≠ 0 then ([], (kindsP S rest).2)
    else ((ruleP S op s (kindsP S kids).1).1 :: (kindsP S rest).1, 0)
def kindP (S : List FieldA) (op : Int) (s : Txt) (kids : EL) : KA × Int :=
  if (kindsP S kids).2 ≠ 0 then (⟨0, false⟩, (kindsP S kids).2) else ruleP S op s (kindsP S kids).1
theorem kindsP_cons (S : List FieldA) (op n : Int) (s : Txt) (kids rest : EL) : kindsP S (.cons op n s kids rest) =
    if (kindP S op s kids).2 ≠ 0 then ([], (kindP S op s kids).2) else if (kindsP S rest).2 ≠ 0 then ([], (kindsP S rest).2) else ((kindP S op s kids).1 :: (kindsP S rest).1, 0) := by
  unfold kindP
  simp only [kindsP]
  by_cases h : (kindsP S kids).2 = 0
  · simp [h]
  · simp [h]
/-- The type, whether it is optional, the error. -/
def typeP (S : List FieldA) (op n : Int) (s : Txt) (kids : EL) : Int × Bool × Int :=
  if errS S ≠ 0 then (0, false, errS S) else if checkE (.cons op n s kids .nil) ≠ 0 then (0, false, checkE (.cons op n s kids .nil))
  else if (kindP S op s kids).2 ≠ 0 then (0, false, (kindP S op s kids).2) else ((kindP S op s kids).1.t, (kindP S op s kids).1.o, 0)
theorem kindsP_len (S : List FieldA) : ∀ l : EL, (kindsP S l).2 = 0 → (kindsP S l).1.length = l.len
  | .nil, _ => rfl
  | .cons op n s kids rest, h => by
    have ih := kindsP_len S rest
    rw [kindsP_cons] at h ⊢
    by_cases h1 : (kindP S op s kids).2 = 0
    · by_cases h2 : (kindsP S rest).2 = 0
      · simp [h1, h2, EL.len, ih h2]
      · simp [h1, h2] at h
    · simp [h1] at h
theorem ruleL_kids : ∀ m : Nat, 1 ≤ m → m ≤ 25 → ∃ r, (ruleL[m]?).join = some r ∧ (r.kids : Int) = kidsB m := by
  have h : ∀ m : Fin 26, 1 ≤ m.val → ((ruleL[m.val]?).join).map (fun r => (r.kids : Int)) = some (kidsB m.val) := by decide
  intro m h1 h2
  have := h ⟨m, by omega⟩ h1
  cases hr : (ruleL[m]?).join with
  | none => simp only [hr] at this; cases this
  | some r => simp only [hr] at this; exact ⟨r, rfl, Option.some.inj this⟩
end Go.Proofs.YtoempeobaknkcaaGreatDoor
