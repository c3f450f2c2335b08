import Derived.Test.YtoempeobaknkcaaGreatDoorJzay
import Derived.Test.YtoempeobaknkcaaGreatDoorJzax
import Derived.Test.YtoempeobaknkcaaGreatDoorJzaw
namespace Go.Proofs.YtoempeobaknkcaaGreatDoor
open Go.RowKit Go.Maps

/-- Where a new row lies: in a block of its own (an empty one is said to lie in a block that is there). -/
theorem row_open {B0 b m : Nat} {w1 w2 : World} {ao : Option Addr} {c n : Nat} {ys xs : List Value} {v : Value} (bl : b < B0) (ho : w2.ownsRow w1.heap.size 53 5 (.slice ao n c) n ys) (hv : w1.ownsRow B0 53 5 v m xs) (hk : Keeps (fun _ => False) w1 w2) (hB : B0 ≤ w1.heap.size := by assumption) :
    ∃ g go, (n ≠ 0 → ao = some ⟨g, go, none⟩) ∧ g < w2.heap.size ∧ (∀ i x, ys[i]? = some x → w2.cell? ⟨g, go + i, none⟩ = some x) ∧ True ∧ v.ownBlock ≠ some g := by
  rcases Nat.eq_zero_or_pos n with h0 | h0
  · refine ⟨b, 0, fun h => absurd h0 h, by have := hk.size; omega, fun i x hx => ?_, trivial, fun e => by have := (hv.lt b e).1; omega⟩
    have hl := ho.1
    rw [h0, Nat.zero_mul] at hl
    rw [List.eq_nil_of_length_eq_zero hl] at hx
    simp at hx
  · obtain ⟨g, go, cap, e, hg, hc⟩ := (rowAt_own ho).cells h0
    simp at e
    obtain ⟨rfl, rfl⟩ := e
    have h1 := (ho.lt g rfl).1
    exact ⟨g, go, fun _ => rfl, hg, hc, trivial, fun e => by have := (hv.lt g e).2; omega⟩

set_option maxRecDepth 100000 in
set_option maxHeartbeats 16000000 in
theorem flat_v (B : Nat) (N : Nat) : ∀ (l : SL), l.size < N → l.size ≤ 4294967294 → ∀ (w : World) (up : Nat) (v : Value), B ≤ w.heap.size → SlS (argZ B) w up v l → Calls Tryz.prog 25 #[v] w (NPost B l w) := by
  induction N with
  | zero => intro l h; omega
  | succ N ih =>
    intro l hsz hlen' w up v hB hS
    have hlen : l.len ≤ 4294967294 := by have := SL.len_le l; omega
    obtain ⟨ao, cap, b, off, rfl, hcap, ha, hx⟩ := hS.open
    obtain ⟨i0, hi, hz0, hz1, hz2⟩ := info_parts Tryz.info53
    have IH := hide ih
    have HX := hide hx
    have HA := hide ha
    clear hS ih hx ha
    go_enter Tryz.func25, Tryz.ntmps25
    go_wp2_with fail
    go_loopw [3, 4] (fun o i wr => ∃ (pre rest : SL) (k n : Nat) (xs : List Value), i = .int .i64 k ∧ l = pre.app rest ∧ k = pre.len ∧ n = (flatS pre).len ∧ wr.ownsRow w.heap.size 53 5 o n xs ∧ SsIn (argZ B) wr (flatS pre) xs ∧ Keeps (fun _ => False) w wr ∧ StIn (argZ B) w rest b (off + k * 5)) (fun _ i _ => l.len - (intOf i).toNat)
    case atStart => exact ⟨.nil, l, 0, 0, [], rfl, rfl, rfl, rfl, World.ownsRow_nil w w.heap.size 53 5, rfl, Keeps.refl _ _, by simpa using unhide HX⟩
    case round =>
      obtain ⟨pre, rest, k, n, xs, rfl, happ, hkp, hnp, hown, hss, hkeep, hr⟩ := hrel
      obtain ⟨oo, oc, rfl⟩ := (rowAt_own hown).form
      have hll := congrArg SL.len happ
      have hls := congrArg SL.size happ
      rw [SL.len_app] at hll
      rw [SL.size_app] at hls
      have hcp : n ≤ pre.size := by rw [hnp, flatS_len]; exact countS_le pre
      have HO := hide hown
      have HSS := hide hss
      have HK := hide hkeep
      have HAPP := hide happ
      have HNP := hide hnp
      cases rest with
      | nil =>
        rw [SL.app_nil] at happ
        subst happ
        simp only [SL.len, SL.size] at hll hls
        have i1 : ¬ (k : Int) < (l.len : Int) := by omega
        subst hkp
        clear hown hss hkeep hr hll hls HAPP hnp
        go_wp2_with fail
        go_ret
        exact ⟨oo, oc, n, xs, rfl, unhide HNP, unhide HO, unhide HSS, unhide HK⟩
      | cons op f x t el rest =>
        obtain ⟨h1, h2, h3, h4, ⟨xv, h5, hxs⟩, ⟨tao, tcap, h6, h7, h8⟩, ⟨eao, ecap, j6, j7, j8⟩, h9⟩ := hr
        simp only [SL.len, SL.size] at hll hls
        have hkl : k + (rest.len + 1) = l.len := by omega
        obtain ⟨xao, xcap, rfl, hxl⟩ := hxs.head
        have hct : (flatS t).len ≤ t.size := by rw [flatS_len]; exact countS_le t
        have hce : (flatS el).len ≤ el.size := by rw [flatS_len]; exact countS_le el
        have hbd : n + 1 + (flatS t).len + (flatS el).len ≤ 4294967294 := by omega
        have hst : t.size < N ∧ t.size ≤ 4294967294 ∧ el.size < N ∧ el.size ≤ 4294967294 := by omega
        have HBD := hide hbd
        have hn1 : n ≤ 4294967293 := by omega
        have HKP := hide hkp
        have HST := hide hst
        clear hll hls hkp hct hce hcp hnp hbd hst
        obtain ⟨rfl, hp⟩ := (unhide HA) (by omega)
        have HXS : Hid (SlE (argZ B) w b (.slice xao x.len xcap) x) := hxs
        have HTS : Hid (SlS (argZ B) w b (.slice tao t.len tcap) t) := ⟨tao, tcap, rfl, h7, h8⟩
        have HES : Hid (SlS (argZ B) w b (.slice eao el.len ecap) el) := ⟨eao, ecap, rfl, j7, j8⟩
        have HR := hide h9
        have HBW : Hid (b < w.heap.size) := h1
        have i1 : (k : Int) < (l.len : Int) := by omega
        have ix0 : (0 : Int) ≤ (k : Int) := by omega
        have HQX : Hid (∀ W, Keeps (fun _ => False) w W → W.cell? ⟨b, off + k * 5, none⟩ = some (.int .i64 op) ∧ W.cell? ⟨b, off + k * 5 + 1, none⟩ = some (str f) ∧ W.cell? ⟨b, off + k * 5 + 2, none⟩ = some (.slice xao x.len xcap) ∧ W.cell? ⟨b, off + k * 5 + 3, none⟩ = some (.slice tao t.len tcap) ∧ W.cell? ⟨b, off + k * 5 + 4, none⟩ = some (.slice eao el.len ecap)) := fun W hk =>
          ⟨(hk.cell h1 id).trans h3, (hk.cell h1 id).trans h4, (hk.cell h1 id).trans h5, (hk.cell h1 id).trans h6, (hk.cell h1 id).trans j6⟩
        have q0 := unhide HQX _ hkeep
        have HB0 : Hid (w.heap.size ≤ wr.heap.size) := hkeep.size
        have HNB := hide (heap_alloc_new wr (.cells #[.int .i64 op, str f, .slice xao x.len xcap, .slice tao t.len tcap, .slice eao el.len ecap] 53))
        have HOX := hide (ownsRow_kept hown ((Keeps.refl (fun _ => False) wr).alloc (.cells #[.int .i64 op, str f, .slice xao x.len xcap, .slice tao t.len tcap, .slice eao el.len ecap] 53)) (fun _ _ => id))
        have HC := hide (fun (w' : World) (hk : Keeps (fun _ => False) w w') => And.intro (unhide IH t (unhide HST).1 (unhide HST).2.1 w' b _ (Nat.le_trans hB hk.size) ((unhide HTS).keepF hk)) (unhide IH el (unhide HST).2.2.1 (unhide HST).2.2.2 w' b _ (Nat.le_trans hB hk.size) ((unhide HES).keepF hk)))
        have HBB := hide hB
        have mk1 : True := trivial
        clear hown hss hkeep h1 h2 h3 h4 h5 h6 h8 h9 j6 j8 happ hxs hB
        go_wp2_with (first
          | (clear mk1; at_builtin; refine wpList_append_lies _ rfl _ _ _ rfl w.heap.size 53 i0 _ 5 96 Tryz.underlying25 hi hz0 hz1 hz2 rfl (by omega) (.slice oo n oc) n xs rfl (unhide HOX) ⟨wr.heap.size, 0, none⟩ 1 1 [.int .i64 op, str f, .slice xao x.len xcap, .slice tao t.len tcap, .slice eao el.len ecap] rfl rfl (World.news_of_block (cs := #[.int .i64 op, str f, .slice xao x.len xcap, .slice tao t.len tcap, .slice eao el.len ecap]) (t := 53) (fr := (0, 0)) (unhide HNB)) (by simp [Value.oneCell']) (by omega) (by unfold maxLen; omega) (by omega) (by have := unhide HB0; simp; omega) (wr.heap.size + 1) (by simp) ?_; intro g1 c1 w1 hown1 hgrow1 _ _; have hk1 : Keeps (fun q => w.heap.size ≤ q) wr w1 := ((Keeps.refl _ wr).alloc _).grown hgrow1 (fun q e _ => ((unhide HO).lt q e).1); have HO1 := hide hown1; have HKw1 := hide ((unhide HK).any.trans hk1); have hkf1 : Keeps (fun _ => False) w w1 := (unhide HKw1).mono (fun q hq e => by have e' : w.heap.size ≤ q := e; omega); have HKF1 := hide hkf1; have qa := unhide HQX _ hkf1; have HW1 := hide hk1; have hB1 := hkf1.size; clear hown1 hgrow1 hk1 hkf1; have mk2 : True := trivial)
          | (clear mk2; go_at_call 25; refine (unhide HC _ (unhide HKF1)).1.mono ?_; rintro e w2 ⟨ao2, ac2, n2, ys2, rfl, hn2, hown2, hss2, hk2⟩; have HN2 := hide hn2; have HO2 := hide (ownsRow_kept (unhide HO1) hk2 (fun _ _ => id)); have hF : ∀ q, w.heap.size ≤ q → B ≤ q := (fun q h => Nat.le_trans (unhide HBB) h); have kw2 : Keeps (fun q => w.heap.size ≤ q) w w2 := (unhide HKw1).trans hk2.any; have HS1 : Hid (SsIn (argZ B) w2 ((flatS pre).app (.cons op f x t el .nil)) (xs ++ [.int .i64 op, str f, .slice xao x.len xcap, .slice tao t.len tcap, .slice eao el.len ecap])) := ((unhide HSS).argKeep ((unhide HW1).trans hk2.any) hF).app ⟨_, _, _, [], rfl, ((unhide HXS).argKeep kw2 hF).anyUp 0, ((unhide HTS).argKeep kw2 hF).anyUp 0, ((unhide HES).argKeep kw2 hF).anyUp 0, rfl⟩; have HS2 := hide hss2; have HKw2 := hide kw2; have HRO := hide (row_open (b := b) (bl := unhide HBW) hown2 (unhide HO1) hk2); clear hown2 hss2 hk2 hn2 hF kw2))
        obtain ⟨g2, go2, hg2, hro2⟩ := unhide HRO
        have HGO := hide hg2
        have HRO2 := hide hro2
        have HTOT : Hid ((((flatS pre).app (.cons op f x t el .nil)).app (flatS t)).len ≤ 4294967294) := by show _ ≤ _; rw [SL.len_app, SL.len_app, ← unhide HNP, ← unhide HN2]; have := unhide HBD; have h2 := unhide HN2; simp only [SL.len]; omega
        have hnb2 : n2 ≤ 4294967294 := by have := unhide HBD; have h2 := unhide HN2; omega
        clear hg2 hro2 HRO hB1
        go_loopw [3, 6] (fun o i wr => ∃ (acc rest2 : SL) (j m : Nat) (xs2 yr : List Value), i = .int .i64 j ∧ j + rest2.len = n2 ∧ Grow B w w acc (((flatS pre).app (.cons op f x t el .nil)).app (flatS t)) g2 go2 o j m xs2 rest2 yr wr) (fun _ i _ => n2 - (intOf i).toNat)
        case atStart =>
          obtain ⟨hgA, hgB, hgC, hgD⟩ := unhide HRO2
          exact ⟨(flatS pre).app (.cons op f x t el .nil), flatS t, 0, n + 1, _, ys2, rfl, by rw [Nat.zero_add]; exact (unhide HN2).symm, ⟨unhide HO2, unhide HS1, unhide HS2, by simpa using hgB, hgD, hgA, unhide HKw2, rfl, by rw [SL.len_app, unhide HNP]; rfl⟩⟩
        case round =>
          obtain ⟨acc, rest2, j, m, xs2, yr, rfl, hjl, hgr⟩ := hrel
          obtain ⟨oo2, oc2, rfl⟩ := (rowAt_own hgr.own).form
          have HG := hide hgr
          have hmb : m ≤ 4294967294 := by have h1 := hgr.len; have h2 := congrArg SL.len hgr.all; rw [SL.len_app] at h2; have h3 := unhide HTOT; omega
          cases rest2 with
          | cons op2 f2 x2 t2 e2 rest2 =>
            simp only [SL.len] at hjl
            obtain ⟨xo2, xc2, to2, tc2, eo2, ec2, yr, rfl⟩ := hgr.left.cons_open
            obtain rfl := (unhide HGO) (by omega)
            have hmb1 : m + 1 ≤ 4294967294 := by have h1 := hgr.len; have h2 := congrArg SL.len hgr.all; rw [SL.len_app] at h2; simp only [SL.len] at h2; have h3 := unhide HTOT; omega
            have z0 := hgr.cells 0 _ rfl
            have z1 := hgr.cells 1 _ rfl
            have z2 := hgr.cells 2 _ rfl
            have z3 := hgr.cells 3 _ rfl
            have z4 := hgr.cells 4 _ rfl
            rw [Nat.add_zero] at z0
            have HNB := hide (heap_alloc_new wr (.cells #[.int .i64 op2, str f2, .slice xo2 x2.len xc2, .slice to2 t2.len tc2, .slice eo2 e2.len ec2] 53))
            have HOX := hide (ownsRow_kept hgr.own ((Keeps.refl (fun _ => False) wr).alloc (.cells #[.int .i64 op2, str f2, .slice xo2 x2.len xc2, .slice to2 t2.len tc2, .slice eo2 e2.len ec2] 53)) (fun _ _ => id))
            have HB0 : Hid (w.heap.size ≤ wr.heap.size) := hgr.kept.size
            have i1 : (j : Int) < (n2 : Int) := by omega
            have ix0 : (0 : Int) ≤ (j : Int) := by omega
            have HJL := hide hjl
            clear hgr hmb hjl
            go_wp2_with (at_builtin; refine wpList_append_lies _ rfl _ _ _ rfl w.heap.size 53 i0 _ 5 96 Tryz.underlying25 hi hz0 hz1 hz2 rfl (by omega) (.slice oo2 m oc2) m xs2 rfl (unhide HOX) ⟨wr.heap.size, 0, none⟩ 1 1 [.int .i64 op2, str f2, .slice xo2 x2.len xc2, .slice to2 t2.len tc2, .slice eo2 e2.len ec2] rfl rfl (World.news_of_block (cs := #[.int .i64 op2, str f2, .slice xo2 x2.len xc2, .slice to2 t2.len tc2, .slice eo2 e2.len ec2]) (t := 53) (fr := (0, 0)) (unhide HNB)) (by simp [Value.oneCell']) (by omega) (by unfold maxLen; omega) (by omega) (by have := unhide HB0; simp; omega) (wr.heap.size + 1) (by simp) ?_; intro g6 c6 w6 hown6 hgrow hat _; have HO6 := hide hown6; have HGR := hide hgrow; have HAT := hide hat; clear hown6 hgrow hat)
            go_roundw
            case rel => exact ⟨_, rest2, j + 1, _, _, _, by go_num, by have := unhide HJL; omega, (unhide HG).step (unhide HBB) (unhide HO6) (unhide HGR) (unhide HAT)⟩
            case measure => have := unhide HJL; simp [intOf]; omega
          | nil =>
            simp only [SL.len, Nat.add_zero] at hjl
            have i1 : ¬ (j : Int) < (n2 : Int) := by omega
            have hall := hgr.all
            rw [SL.app_nil] at hall
            subst hall
            clear hmb
            have hkf : Keeps (fun _ => False) w wr := hgr.kept.mono (fun q hq e => by have e' : w.heap.size ≤ q := e; omega)
            have qq := unhide HQX _ hkf
            have HOa := hide hgr.own
            have HSa := hide hgr.held
            have HKa := hide hgr.kept
            have HML := hide hgr.len
            have HKF := hide hkf
            clear hgr HG hjl hkf HGO HTOT
            go_wp2_with (go_at_call 25; refine (unhide HC _ (unhide HKF)).2.mono ?_; rintro e w4 ⟨ao4, ac4, n4, ys4, rfl, hn4, hown4, hss4, hk4⟩; have HN4 := hide hn4; have HO4 := hide (ownsRow_kept (unhide HOa) hk4 (fun _ _ => id)); have HS3 := hide ((unhide HSa).argKeep hk4 (fun _ h => h.elim)); have HS4 := hide hss4; have HKw4 := hide ((unhide HKa).trans hk4.any); have HRO := hide (row_open (b := b) (bl := unhide HBW) hown4 (unhide HOa) hk4 (unhide HKF).size); clear hown4 hss4 hk4 hn4)
            obtain ⟨g4, go4, hg4, hro4⟩ := unhide HRO
            have HGO := hide hg4
            have HRO4 := hide hro4
            have HTOT : Hid (((((flatS pre).app (.cons op f x t el .nil)).app (flatS t)).app (flatS el)).len ≤ 4294967294) := by show _ ≤ _; rw [SL.len_app, SL.len_app, SL.len_app, ← unhide HNP, ← unhide HN2, ← unhide HN4]; have := unhide HBD; have h2 := unhide HN2; have h4 := unhide HN4; simp only [SL.len]; omega
            have hnb4 : n4 ≤ 4294967294 := by have := unhide HBD; have h2 := unhide HN4; omega
            clear hg4 hro4 HRO HRO2
            go_loopw [3, 7] (fun o i wr => ∃ (acc rest2 : SL) (j m : Nat) (xs2 yr : List Value), i = .int .i64 j ∧ j + rest2.len = n4 ∧ Grow B w w acc ((((flatS pre).app (.cons op f x t el .nil)).app (flatS t)).app (flatS el)) g4 go4 o j m xs2 rest2 yr wr) (fun _ i _ => n4 - (intOf i).toNat)
            case atStart =>
              obtain ⟨hgA, hgB, hgC, hgD⟩ := unhide HRO4
              exact ⟨_, flatS el, 0, m, xs2, ys4, rfl, by rw [Nat.zero_add]; exact (unhide HN4).symm, ⟨unhide HO4, unhide HS3, unhide HS4, by simpa using hgB, hgD, hgA, unhide HKw4, rfl, unhide HML⟩⟩
            case round =>
              obtain ⟨acc, rest2, j, m, xs2, yr, rfl, hjl, hgr⟩ := hrel
              obtain ⟨oo2, oc2, rfl⟩ := (rowAt_own hgr.own).form
              have HG := hide hgr
              have hmb : m ≤ 4294967294 := by have h1 := hgr.len; have h2 := congrArg SL.len hgr.all; rw [SL.len_app] at h2; have h3 := unhide HTOT; omega
              cases rest2 with
              | cons op2 f2 x2 t2 e2 rest2 =>
                simp only [SL.len] at hjl
                obtain ⟨xo2, xc2, to2, tc2, eo2, ec2, yr, rfl⟩ := hgr.left.cons_open
                obtain rfl := (unhide HGO) (by omega)
                have hmb1 : m + 1 ≤ 4294967294 := by have h1 := hgr.len; have h2 := congrArg SL.len hgr.all; rw [SL.len_app] at h2; simp only [SL.len] at h2; have h3 := unhide HTOT; omega
                have z0 := hgr.cells 0 _ rfl
                have z1 := hgr.cells 1 _ rfl
                have z2 := hgr.cells 2 _ rfl
                have z3 := hgr.cells 3 _ rfl
                have z4 := hgr.cells 4 _ rfl
                rw [Nat.add_zero] at z0
                have HNB := hide (heap_alloc_new wr (.cells #[.int .i64 op2, str f2, .slice xo2 x2.len xc2, .slice to2 t2.len tc2, .slice eo2 e2.len ec2] 53))
                have HOX := hide (ownsRow_kept hgr.own ((Keeps.refl (fun _ => False) wr).alloc (.cells #[.int .i64 op2, str f2, .slice xo2 x2.len xc2, .slice to2 t2.len tc2, .slice eo2 e2.len ec2] 53)) (fun _ _ => id))
                have HB0 : Hid (w.heap.size ≤ wr.heap.size) := hgr.kept.size
                have i1 : (j : Int) < (n4 : Int) := by omega
                have ix0 : (0 : Int) ≤ (j : Int) := by omega
                have HJL := hide hjl
                clear hgr hmb hjl
                go_wp2_with (at_builtin; refine wpList_append_lies _ rfl _ _ _ rfl w.heap.size 53 i0 _ 5 96 Tryz.underlying25 hi hz0 hz1 hz2 rfl (by omega) (.slice oo2 m oc2) m xs2 rfl (unhide HOX) ⟨wr.heap.size, 0, none⟩ 1 1 [.int .i64 op2, str f2, .slice xo2 x2.len xc2, .slice to2 t2.len tc2, .slice eo2 e2.len ec2] rfl rfl (World.news_of_block (cs := #[.int .i64 op2, str f2, .slice xo2 x2.len xc2, .slice to2 t2.len tc2, .slice eo2 e2.len ec2]) (t := 53) (fr := (0, 0)) (unhide HNB)) (by simp [Value.oneCell']) (by omega) (by unfold maxLen; omega) (by omega) (by have := unhide HB0; simp; omega) (wr.heap.size + 1) (by simp) ?_; intro g6 c6 w6 hown6 hgrow hat _; have HO6 := hide hown6; have HGR := hide hgrow; have HAT := hide hat; clear hown6 hgrow hat)
                go_roundw
                case rel => exact ⟨_, rest2, j + 1, _, _, _, by go_num, by have := unhide HJL; omega, (unhide HG).step (unhide HBB) (unhide HO6) (unhide HGR) (unhide HAT)⟩
                case measure => have := unhide HJL; simp [intOf]; omega
              | nil =>
                simp only [SL.len, Nat.add_zero] at hjl
                have i1 : ¬ (j : Int) < (n4 : Int) := by omega
                have hall := hgr.all
                rw [SL.app_nil] at hall
                subst hall
                clear hmb
                have HOf := hide hgr.own
                have HSf := hide hgr.held
                have HKf := hide hgr.kept
                have HLf := hide hgr.len
                clear hgr HG hjl
                go_wp2_with fail
                go_roundw
                case rel =>
                  refine ⟨pre.app (.cons op f x t el .nil), rest, k + 1, m, _, by go_num, by rw [app_oneS]; exact unhide HAPP, by rw [SL.len_app, unhide HKP]; rfl, ?_, unhide HOf, ?_, (unhide HKf).mono (fun q hq e => by have e' : w.heap.size ≤ q := e; omega), ?_⟩
                  · rw [flat_snoc]; exact unhide HLf
                  · rw [flat_snoc]; exact unhide HSf
                  · rw [show off + (k + 1) * 5 = off + k * 5 + 5 by omega]
                    exact unhide HR
                case measure => simp [intOf]; omega
end Go.Proofs.YtoempeobaknkcaaGreatDoor
namespace Go.Proofs.YtoempeobaknkcaaGreatDoor
open Go.RowKit Go.Maps

theorem refField_no (S : List FieldA) (sv : Value) (nm : Txt) (w : World) (h : FldsAt w sv S) (hl : S.length ≤ 8) (hno : fieldOf S nm = none) :
    Calls Tryz.prog 64 #[.agg #[sv], str nm] w fun e w' => e = .returned (.int .i64 (-1)) ∧ Keeps (fun _ => False) w w' :=
  (refField_v S sv nm w h hl).mono fun e w' ⟨⟨i, he, hi⟩, hk⟩ => ⟨(by
    rcases hi with ⟨_, rfl⟩ | ⟨k, f, _, hs, _⟩
    · exact he
    · rw [hno] at hs
      exact absurd hs (by simp)), hk⟩
theorem refField_at (S : List FieldA) (hS : schemaB S = true) (sv : Value) (nm : Txt) (w : World) (h : FldsAt w sv S) (hl : S.length ≤ 8) (kf : Nat) (d : FieldA) (hkf : S[kf]? = some d) (hd : fieldOf S nm = some d) :
    Calls Tryz.prog 64 #[.agg #[sv], str nm] w fun e w' => e = .returned (.int .i64 (kf : Int)) ∧ Keeps (fun _ => False) w w' :=
  (refField_v S sv nm w h hl).mono fun e w' ⟨⟨i, he, hi⟩, hk⟩ => ⟨(by
    rcases hi with ⟨hno, _⟩ | ⟨k, f, h1, h2, rfl⟩
    · rw [hno] at hd; cases hd
    · have e1 := idx_some hS h1 h2
      have e2 := idx_some hS hkf hd
      rw [e1] at e2
      cases e2
      exact he), hk⟩
theorem zeroK_err {p : KA × Int} {E : Int} (h : p.2 = E) (h0 : E ≠ 0) : zeroK p = (⟨0, false⟩, E) := by
  unfold zeroK
  rw [if_pos (by rw [h]; exact h0), h]
theorem zeroK_ok {p : KA × Int} {T : Int} {O : Bool} (h : p = (⟨T, O⟩, 0)) : zeroK p = (⟨T, O⟩, 0) := by
  unfold zeroK
  rw [h]
  rfl
end Go.Proofs.YtoempeobaknkcaaGreatDoor
namespace Go.Proofs.YtoempeobaknkcaaGreatDoor
open Go.RowKit Go.Maps

set_option maxRecDepth 100000 in
set_option maxHeartbeats 4000000 in
theorem own5x (S : List FieldA) (hS : schemaB S = true) (so : Option Addr) (sc : Nat) (f : Txt) (xo to eo : Option Addr) (xn xc tn tc en ec : Nat) (w : World) (hf : FldsAt w (.slice so S.length sc) S) (hno : fieldOf S f = none) :
    Calls Tryz.prog 43 #[.agg #[.slice so S.length sc], stV 5 f (.slice xo xn xc) (.slice to tn tc) (.slice eo en ec)] w fun e w' => e = .returned (.int .i64 90) ∧ Keeps (fun _ => False) w w' := by
  have hl8 := schema_8 hS
  obtain ⟨HX, hxb, hxc⟩ := boxedT w #[.slice so S.length sc] 24
  obtain ⟨HY, hyb, hyc⟩ := boxedT (w.alloc (.cells #[.slice so S.length sc] 24)) #[.int .i64 5, str f, .slice xo xn xc, .slice to tn tc, .slice eo en ec] 53
  rw [World.size_alloc] at hyc hyb
  have HK0 := hide ((unhide HX).trans (unhide HY))
  have SB : ∀ w', Keeps (fun _ => False) ((w.alloc (.cells #[.slice so S.length sc] 24)).alloc (.cells #[.int .i64 5, str f, .slice xo xn xc, .slice to tn tc, .slice eo en ec] 53)) w' → w'.cell? ⟨w.heap.size, 0, none⟩ = some (.slice so S.length sc) ∧ w'.cell? ⟨w.heap.size + 1, 0, none⟩ = some (.int .i64 5) ∧ w'.cell? ⟨w.heap.size + 1, 1, none⟩ = some (str f) := fun w' hk =>
    ⟨(((unhide HY).trans hk).cell hxb id).trans (hxc 0 _ rfl), (hk.cell hyb id).trans (hyc 0 _ rfl), (hk.cell hyb id).trans (hyc 1 _ rfl)⟩
  have y := SB _ (Keeps.refl _ _)
  have HSB := hide SB
  have HFI := hide (refField_no S (.slice so S.length sc) f _ (hf.keepF (unhide HK0)) hl8 hno)
  clear hf hxc hyc SB HX HY hno
  go_enter Tryz.func43, Tryz.ntmps43
  go_wp2_with (go_at_call 64; refine (unhide HFI).mono ?_; rintro e w1 ⟨rfl, hk1⟩; have y1 := unhide HSB _ hk1; have HK0 := hide ((unhide HK0).trans hk1); clear hk1)
  go_ret
  exact ⟨rfl, unhide HK0⟩

set_option maxRecDepth 100000 in
set_option maxHeartbeats 4000000 in
theorem own5true (S : List FieldA) (hS : schemaB S = true) (so : Option Addr) (sc : Nat) (f : Txt) (xo to eo : Option Addr) (xn xc tn tc en ec : Nat) (w : World) (hf : FldsAt w (.slice so S.length sc) S) (kf : Nat) (nm : Txt) (DT : Int) (DO : Bool) (hDO : DO = true) (hkf : S[kf]? = some ⟨nm, DT, DO⟩) (hsome : fieldOf S f = some ⟨nm, DT, DO⟩) :
    Calls Tryz.prog 43 #[.agg #[.slice so S.length sc], stV 5 f (.slice xo xn xc) (.slice to tn tc) (.slice eo en ec)] w fun e w' => e = .returned (.int .i64 0) ∧ Keeps (fun _ => False) w w' := by
  have hl8 := schema_8 hS
  subst hDO
  have hkl := get_lt hkf
  obtain ⟨fb, foff, fc, fe, hfb, hfc⟩ := FldsAt.cells hf (by omega)
  simp only [Value.slice.injEq] at fe
  obtain ⟨rfl, _, rfl⟩ := fe
  have g1 : ¬ (kf : Int) < 0 := by omega
  have g1' : decide ((kf : Int) < 0) = false := decide_eq_false g1
  have i1 : (kf : Int) < (S.length : Int) := by omega
  have i0 : (0 : Int) ≤ (kf : Int) := by omega
  obtain ⟨HX, hxb, hxc⟩ := boxedT w #[.slice (some ⟨fb, foff, none⟩) S.length sc] 24
  obtain ⟨HY, hyb, hyc⟩ := boxedT (w.alloc (.cells #[.slice (some ⟨fb, foff, none⟩) S.length sc] 24)) #[.int .i64 5, str f, .slice xo xn xc, .slice to tn tc, .slice eo en ec] 53
  rw [World.size_alloc] at hyc hyb
  have HK0 := hide ((unhide HX).trans (unhide HY))
  have SB : ∀ w', Keeps (fun _ => False) ((w.alloc (.cells #[.slice (some ⟨fb, foff, none⟩) S.length sc] 24)).alloc (.cells #[.int .i64 5, str f, .slice xo xn xc, .slice to tn tc, .slice eo en ec] 53)) w' → w'.cell? ⟨w.heap.size, 0, none⟩ = some (.slice (some ⟨fb, foff, none⟩) S.length sc) ∧ w'.cell? ⟨w.heap.size + 1, 0, none⟩ = some (.int .i64 5) ∧ w'.cell? ⟨w.heap.size + 1, 1, none⟩ = some (str f) ∧ w'.cell? ⟨fb, foff + kf * 3, none⟩ = some (str nm) ∧ w'.cell? ⟨fb, foff + kf * 3 + 1, none⟩ = some (.int .i64 DT) ∧ w'.cell? ⟨fb, foff + kf * 3 + 2, none⟩ = some (.bool true) := fun w' hk =>
    ⟨(((unhide HY).trans hk).cell hxb id).trans (hxc 0 _ rfl), (hk.cell hyb id).trans (hyc 0 _ rfl), (hk.cell hyb id).trans (hyc 1 _ rfl), (((unhide HK0).trans hk).cell hfb id).trans (hfc kf _ hkf).1, (((unhide HK0).trans hk).cell hfb id).trans (hfc kf _ hkf).2.1, (((unhide HK0).trans hk).cell hfb id).trans (hfc kf _ hkf).2.2⟩
  have y := SB _ (Keeps.refl _ _)
  have HSB := hide SB
  have HFI := hide (refField_at S hS (.slice (some ⟨fb, foff, none⟩) S.length sc) f _ (hf.keepF (unhide HK0)) hl8 kf _ hkf hsome)
  clear hf hxc hyc SB HX HY hfc hkf hsome
  go_enter Tryz.func43, Tryz.ntmps43
  go_wp2_with (go_at_call 64; refine (unhide HFI).mono ?_; rintro e w1 ⟨rfl, hk1⟩; have y1 := unhide HSB _ hk1; have HK0 := hide ((unhide HK0).trans hk1); clear hk1)
  go_ret
  exact ⟨rfl, unhide HK0⟩

set_option maxRecDepth 100000 in
set_option maxHeartbeats 4000000 in
theorem own5false (S : List FieldA) (hS : schemaB S = true) (so : Option Addr) (sc : Nat) (f : Txt) (xo to eo : Option Addr) (xn xc tn tc en ec : Nat) (w : World) (hf : FldsAt w (.slice so S.length sc) S) (kf : Nat) (nm : Txt) (DT : Int) (DO : Bool) (hDO : DO = false) (hkf : S[kf]? = some ⟨nm, DT, DO⟩) (hsome : fieldOf S f = some ⟨nm, DT, DO⟩) :
    Calls Tryz.prog 43 #[.agg #[.slice so S.length sc], stV 5 f (.slice xo xn xc) (.slice to tn tc) (.slice eo en ec)] w fun e w' => e = .returned (.int .i64 92) ∧ Keeps (fun _ => False) w w' := by
  have hl8 := schema_8 hS
  subst hDO
  have hkl := get_lt hkf
  obtain ⟨fb, foff, fc, fe, hfb, hfc⟩ := FldsAt.cells hf (by omega)
  simp only [Value.slice.injEq] at fe
  obtain ⟨rfl, _, rfl⟩ := fe
  have g1 : ¬ (kf : Int) < 0 := by omega
  have g1' : decide ((kf : Int) < 0) = false := decide_eq_false g1
  have i1 : (kf : Int) < (S.length : Int) := by omega
  have i0 : (0 : Int) ≤ (kf : Int) := by omega
  obtain ⟨HX, hxb, hxc⟩ := boxedT w #[.slice (some ⟨fb, foff, none⟩) S.length sc] 24
  obtain ⟨HY, hyb, hyc⟩ := boxedT (w.alloc (.cells #[.slice (some ⟨fb, foff, none⟩) S.length sc] 24)) #[.int .i64 5, str f, .slice xo xn xc, .slice to tn tc, .slice eo en ec] 53
  rw [World.size_alloc] at hyc hyb
  have HK0 := hide ((unhide HX).trans (unhide HY))
  have SB : ∀ w', Keeps (fun _ => False) ((w.alloc (.cells #[.slice (some ⟨fb, foff, none⟩) S.length sc] 24)).alloc (.cells #[.int .i64 5, str f, .slice xo xn xc, .slice to tn tc, .slice eo en ec] 53)) w' → w'.cell? ⟨w.heap.size, 0, none⟩ = some (.slice (some ⟨fb, foff, none⟩) S.length sc) ∧ w'.cell? ⟨w.heap.size + 1, 0, none⟩ = some (.int .i64 5) ∧ w'.cell? ⟨w.heap.size + 1, 1, none⟩ = some (str f) ∧ w'.cell? ⟨fb, foff + kf * 3, none⟩ = some (str nm) ∧ w'.cell? ⟨fb, foff + kf * 3 + 1, none⟩ = some (.int .i64 DT) ∧ w'.cell? ⟨fb, foff + kf * 3 + 2, none⟩ = some (.bool false) := fun w' hk =>
    ⟨(((unhide HY).trans hk).cell hxb id).trans (hxc 0 _ rfl), (hk.cell hyb id).trans (hyc 0 _ rfl), (hk.cell hyb id).trans (hyc 1 _ rfl), (((unhide HK0).trans hk).cell hfb id).trans (hfc kf _ hkf).1, (((unhide HK0).trans hk).cell hfb id).trans (hfc kf _ hkf).2.1, (((unhide HK0).trans hk).cell hfb id).trans (hfc kf _ hkf).2.2⟩
  have y := SB _ (Keeps.refl _ _)
  have HSB := hide SB
  have HFI := hide (refField_at S hS (.slice (some ⟨fb, foff, none⟩) S.length sc) f _ (hf.keepF (unhide HK0)) hl8 kf _ hkf hsome)
  clear hf hxc hyc SB HX HY hfc hkf hsome
  go_enter Tryz.func43, Tryz.ntmps43
  go_wp2_with (go_at_call 64; refine (unhide HFI).mono ?_; rintro e w1 ⟨rfl, hk1⟩; have y1 := unhide HSB _ hk1; have HK0 := hide ((unhide HK0).trans hk1); clear hk1)
  go_ret
  exact ⟨rfl, unhide HK0⟩

set_option maxRecDepth 100000 in
set_option maxHeartbeats 4000000 in
theorem own6 (S : List FieldA) (hS : schemaB S = true) (so : Option Addr) (sc : Nat) (f : Txt) (xo to eo : Option Addr) (xn xc tn tc en ec : Nat) (w : World) (_hf : FldsAt w (.slice so S.length sc) S) :
    Calls Tryz.prog 43 #[.agg #[.slice so S.length sc], stV 6 f (.slice xo xn xc) (.slice to tn tc) (.slice eo en ec)] w fun e w' => e = .returned (.int .i64 0) ∧ Keeps (fun _ => False) w w' := by
  have hl8 := schema_8 hS
  obtain ⟨HX, hxb, hxc⟩ := boxedT w #[.slice so S.length sc] 24
  obtain ⟨HY, hyb, hyc⟩ := boxedT (w.alloc (.cells #[.slice so S.length sc] 24)) #[.int .i64 6, str f, .slice xo xn xc, .slice to tn tc, .slice eo en ec] 53
  rw [World.size_alloc] at hyc hyb
  have HK0 := hide ((unhide HX).trans (unhide HY))
  have SB : ∀ w', Keeps (fun _ => False) ((w.alloc (.cells #[.slice so S.length sc] 24)).alloc (.cells #[.int .i64 6, str f, .slice xo xn xc, .slice to tn tc, .slice eo en ec] 53)) w' → w'.cell? ⟨w.heap.size, 0, none⟩ = some (.slice so S.length sc) ∧ w'.cell? ⟨w.heap.size + 1, 0, none⟩ = some (.int .i64 6) ∧ w'.cell? ⟨w.heap.size + 1, 1, none⟩ = some (str f) := fun w' hk =>
    ⟨(((unhide HY).trans hk).cell hxb id).trans (hxc 0 _ rfl), (hk.cell hyb id).trans (hyc 0 _ rfl), (hk.cell hyb id).trans (hyc 1 _ rfl)⟩
  have y := SB _ (Keeps.refl _ _)
  have HSB := hide SB
  clear hxc hyc SB HX HY
  go_enter Tryz.func43, Tryz.ntmps43
  go_wp2_with fail
  go_ret
  exact ⟨rfl, unhide HK0⟩

set_option maxRecDepth 100000 in
set_option maxHeartbeats 4000000 in
theorem own7 (S : List FieldA) (hS : schemaB S = true) (so : Option Addr) (sc : Nat) (f : Txt) (xo to eo : Option Addr) (xn xc tn tc en ec : Nat) (w : World) (_hf : FldsAt w (.slice so S.length sc) S) :
    Calls Tryz.prog 43 #[.agg #[.slice so S.length sc], stV 7 f (.slice xo xn xc) (.slice to tn tc) (.slice eo en ec)] w fun e w' => e = .returned (.int .i64 0) ∧ Keeps (fun _ => False) w w' := by
  have hl8 := schema_8 hS
  obtain ⟨HX, hxb, hxc⟩ := boxedT w #[.slice so S.length sc] 24
  obtain ⟨HY, hyb, hyc⟩ := boxedT (w.alloc (.cells #[.slice so S.length sc] 24)) #[.int .i64 7, str f, .slice xo xn xc, .slice to tn tc, .slice eo en ec] 53
  rw [World.size_alloc] at hyc hyb
  have HK0 := hide ((unhide HX).trans (unhide HY))
  have SB : ∀ w', Keeps (fun _ => False) ((w.alloc (.cells #[.slice so S.length sc] 24)).alloc (.cells #[.int .i64 7, str f, .slice xo xn xc, .slice to tn tc, .slice eo en ec] 53)) w' → w'.cell? ⟨w.heap.size, 0, none⟩ = some (.slice so S.length sc) ∧ w'.cell? ⟨w.heap.size + 1, 0, none⟩ = some (.int .i64 7) ∧ w'.cell? ⟨w.heap.size + 1, 1, none⟩ = some (str f) := fun w' hk =>
    ⟨(((unhide HY).trans hk).cell hxb id).trans (hxc 0 _ rfl), (hk.cell hyb id).trans (hyc 0 _ rfl), (hk.cell hyb id).trans (hyc 1 _ rfl)⟩
  have y := SB _ (Keeps.refl _ _)
  have HSB := hide SB
  clear hxc hyc SB HX HY
  go_enter Tryz.func43, Tryz.ntmps43
  go_wp2_with fail
  go_ret
  exact ⟨rfl, unhide HK0⟩
end Go.Proofs.YtoempeobaknkcaaGreatDoor
