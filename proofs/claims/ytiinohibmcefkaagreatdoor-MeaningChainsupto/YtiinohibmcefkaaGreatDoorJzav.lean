import Derived.Test.YtiinohibmcefkaaGreatDoorJzau
import Derived.Test.YtiinohibmcefkaaGreatDoorJzao
import Derived.Test.YtiinohibmcefkaaGreatDoorJzaf
namespace Go.Proofs.YtiinohibmcefkaaGreatDoor
open Go.RowKit Go.Maps
set_option maxRecDepth 100000
set_option maxHeartbeats 16000000
theorem row_open {B0 b m : Nat} {w1 w2 : World} {ao : Option Addr} {c n : Nat} {ys xs : List Value} {v : Value} (bl : b < B0) (ho : w2.ownsRow w1.heap.size 39 5 (.slice ao n c) n ys) (hv : w1.ownsRow B0 39 5 v m xs) (hk : Keeps (fun _ => False) w1 w2) (hB : B0 ≤ w1.heap.size := by assumption) :
  ∃ g go, (n ≠ 0 → ao = some ⟨g, go, none⟩) ∧ g < w2.heap.size ∧ (∀ i x, ys[i]? = some x → w2.cell? ⟨g, go + i, none⟩ = some x) ∧ True ∧ v.ownBlock ≠ some g := by
 rcases Nat.eq_zero_or_pos n with h0 | h0
 ·refine ⟨b, 0, fun h => absurd h0 h, by have := hk.size; omega, fun i x hx => ?_, trivial, fun e => by have := (hv.lt b e).1; omega⟩
  have hl := ho.1
  rw [h0, Nat.zero_mul] at hl
  rw [List.eq_nil_of_length_eq_zero hl] at hx
  simp at hx
 ·obtain ⟨g, go, cap, e, hg, hc⟩ := (rowAt_own ho).cells h0
  simp at e
  obtain ⟨rfl, rfl⟩ := e
  have h1 := (ho.lt g rfl).1
  exact ⟨g, go, fun _ => rfl, hg, hc, trivial, fun e => by have := (hv.lt g e).2; omega⟩
theorem flat_v (B : Nat) (N : Nat) : ∀ (l : SL), l.size < N → l.size ≤ 4294967294 → ∀ (w : World) (up : Nat) (v : Value), B ≤ w.heap.size → SlS (argZ B) w up v l → Calls Tryz.prog 98 #[v] w (NPost B l w) := by
 induction N with
 | zero => intro l h; omega
 | succ N ih =>
  intro l hsz hlen' w up v hB hS
  have hlen : l.len ≤ 4294967294 := by have := SL.len_le l; omega
  obtain ⟨ao, cap, b, off, rfl, hcap, ha, hx⟩ := hS.open
  obtain ⟨i0, hi, hz0, hz1, hz2⟩ := info_parts Tryz.info39
  have IH := hide ih
  have HX := hide hx
  have HA := hide ha
  clear hS ih hx ha
  go_enter Tryz.func98, Tryz.ntmps98
  go_wp2_with fail
  go_loopw [3, 4] (fun o i wr => ∃ (pre rest : SL) (k n : Nat) (xs : List Value), i = .int .i64 k ∧ l = pre.app rest ∧ k = pre.len ∧ n = (flatS pre).len ∧ wr.ownsRow w.heap.size 39 5 o n xs ∧ SsIn (argZ B) wr (flatS pre) xs ∧ Keeps (fun _ => False) w wr ∧ StIn (argZ B) w rest b (off + k * 5)) (fun _ i _ => l.len - (intOf i).toNat)
  case atStart => exact ⟨.nil, l, 0, 0, [], rfl, rfl, rfl, rfl, World.ownsRow_nil w w.heap.size 39 5, rfl, Keeps.refl _ _, by simpa using uh HX⟩
  case round =>
   obtain ⟨pre, rest, k, n, xs, rfl, happ, hkp, hnp, hown, hss, hkeep, hr⟩ := hrel
   obtain ⟨oo, oc, rfl⟩ := (rowAt_own hown).form
   have hll := congrArg SL.len happ
   have hls := congrArg SL.size happ
   rw [SL.len_app] at hll
   rw [SL.size_app] at hls
   have hcp : n ≤ pre.size := by rw [hnp, flatS_len]; exact countS_le pre
   have HO := hide hown
   have HSS := hide hss
   have HK := hide hkeep
   have HAPP := hide happ
   have HNP := hide hnp
   cases rest with
   | nil =>
    rw [SL.app_nil] at happ
    subst happ
    simp only [SL.len, SL.size] at hll hls
    have i1 : ¬ (k : Int) < (l.len : Int) := by omega
    subst hkp
    clear hown hss hkeep hr hll hls HAPP hnp
    go_wp2_with fail
    go_ret
    exact ⟨oo, oc, n, xs, rfl, uh HNP, uh HO, uh HSS, uh HK⟩
   | cons op f x t el rest =>
    obtain ⟨h1, h2, h3, h4, ⟨xv, h5, hxs⟩, ⟨tao, tcap, h6, h7, h8⟩, ⟨eao, ecap, j6, j7, j8⟩, h9⟩ := hr
    simp only [SL.len, SL.size] at hll hls
    have hkl : k + (rest.len + 1) = l.len := by omega
    obtain ⟨xao, xcap, rfl, hxl⟩ := hxs.head
    have hct : (flatS t).len ≤ t.size := by rw [flatS_len]; exact countS_le t
    have hce : (flatS el).len ≤ el.size := by rw [flatS_len]; exact countS_le el
    have hbd : n + 1 + (flatS t).len + (flatS el).len ≤ 4294967294 := by omega
    have hst : t.size < N ∧ t.size ≤ 4294967294 ∧ el.size < N ∧ el.size ≤ 4294967294 := by omega
    have HBD := hide hbd
    have hn1 : n ≤ 4294967293 := by omega
    have HKP := hide hkp
    have HST := hide hst
    clear hll hls hkp hct hce hcp hnp hbd hst
    obtain ⟨rfl, hp⟩ := (uh HA) (by omega)
    have HXS : Hid (SlE (argZ B) w b (.slice xao x.len xcap) x) := hxs
    have HTS : Hid (SlS (argZ B) w b (.slice tao t.len tcap) t) := ⟨tao, tcap, rfl, h7, h8⟩
    have HES : Hid (SlS (argZ B) w b (.slice eao el.len ecap) el) := ⟨eao, ecap, rfl, j7, j8⟩
    have HR := hide h9
    have HBW : Hid (b < w.heap.size) := h1
    have i1 : (k : Int) < (l.len : Int) := by omega
    have ix0 : (0 : Int) ≤ (k : Int) := by omega
    have HQX : Hid (∀ W, Keeps (fun _ => False) w W → W.cell? ⟨b, off + k * 5, none⟩ = some (.int .i64 op) ∧ W.cell? ⟨b, off + k * 5 + 1, none⟩ = some (str f) ∧ W.cell? ⟨b, off + k * 5 + 2, none⟩ = some (.slice xao x.len xcap) ∧ W.cell? ⟨b, off + k * 5 + 3, none⟩ = some (.slice tao t.len tcap) ∧ W.cell? ⟨b, off + k * 5 + 4, none⟩ = some (.slice eao el.len ecap)) := fun W hk =>
     ⟨(hk.cell h1 id).trans h3, (hk.cell h1 id).trans h4, (hk.cell h1 id).trans h5, (hk.cell h1 id).trans h6, (hk.cell h1 id).trans j6⟩
    have q0 := uh HQX _ hkeep
    have HB0 : Hid (w.heap.size ≤ wr.heap.size) := hkeep.size
    have HNB := hide (heap_alloc_new wr (.cells #[.int .i64 op, str f, .slice xao x.len xcap, .slice tao t.len tcap, .slice eao el.len ecap] 39))
    have HOX := hide (ownsRow_kept hown ((Keeps.refl (fun _ => False) wr).alloc (.cells #[.int .i64 op, str f, .slice xao x.len xcap, .slice tao t.len tcap, .slice eao el.len ecap] 39)) (fun _ _ => id))
    have HC := hide (fun (w' : World) (hk : Keeps (fun _ => False) w w') => And.intro (uh IH t (uh HST).1 (uh HST).2.1 w' b _ (Nat.le_trans hB hk.size) ((uh HTS).keepF hk)) (uh IH el (uh HST).2.2.1 (uh HST).2.2.2 w' b _ (Nat.le_trans hB hk.size) ((uh HES).keepF hk)))
    have HBB := hide hB
    have mk1 : True := trivial
    clear hown hss hkeep h1 h2 h3 h4 h5 h6 h8 h9 j6 j8 happ hxs hB
    go_wp2_with (first
     | (clear mk1; at_builtin; refine wpList_append_lies _ rfl _ _ _ rfl w.heap.size 39 i0 _ 5 96 Tryz.underlying28 hi hz0 hz1 hz2 rfl (by omega) (.slice oo n oc) n xs rfl (uh HOX) ⟨wr.heap.size, 0, none⟩ 1 1 [.int .i64 op, str f, .slice xao x.len xcap, .slice tao t.len tcap, .slice eao el.len ecap] rfl rfl (World.news_of_block (cs := #[.int .i64 op, str f, .slice xao x.len xcap, .slice tao t.len tcap, .slice eao el.len ecap]) (t := 39) (fr := (0, 0)) (uh HNB)) (by simp [Value.oneCell']) (by omega) (by unfold maxLen; omega) (by omega) (by have := uh HB0; simp; omega) (wr.heap.size + 1) (by simp) ?_; intro g1 c1 w1 hown1 hgrow1 _ _; have hk1 : Keeps (fun q => w.heap.size ≤ q) wr w1 := ((Keeps.refl _ wr).alloc _).grown hgrow1 (fun q e _ => ((uh HO).lt q e).1); have HO1 := hide hown1; have HKw1 := hide ((uh HK).any.trans hk1); have hkf1 : Keeps (fun _ => False) w w1 := (uh HKw1).mono (fun q hq e => by have e' : w.heap.size ≤ q := e; omega); have HKF1 := hide hkf1; have qa := uh HQX _ hkf1; have HW1 := hide hk1; have hB1 := hkf1.size; clear hown1 hgrow1 hk1 hkf1; have mk2 : True := trivial)
     | (clear mk2; go_at_call 98; refine (uh HC _ (uh HKF1)).1.mono ?_; rintro e w2 ⟨ao2, ac2, n2, ys2, rfl, hn2, hown2, hss2, hk2⟩; have HN2 := hide hn2; have HO2 := hide (ownsRow_kept (uh HO1) hk2 (fun _ _ => id)); have hF : ∀ q, w.heap.size ≤ q → B ≤ q := (fun q h => Nat.le_trans (uh HBB) h); have kw2 : Keeps (fun q => w.heap.size ≤ q) w w2 := (uh HKw1).trans hk2.any; have HS1 : Hid (SsIn (argZ B) w2 ((flatS pre).app (.cons op f x t el .nil)) (xs ++ [.int .i64 op, str f, .slice xao x.len xcap, .slice tao t.len tcap, .slice eao el.len ecap])) := ((uh HSS).argKeep ((uh HW1).trans hk2.any) hF).app ⟨_, _, _, [], rfl, ((uh HXS).argKeep kw2 hF).anyUp 0, ((uh HTS).argKeep kw2 hF).anyUp 0, ((uh HES).argKeep kw2 hF).anyUp 0, rfl⟩; have HS2 := hide hss2; have HKw2 := hide kw2; have HRO := hide (row_open (b := b) (bl := uh HBW) hown2 (uh HO1) hk2); clear hown2 hss2 hk2 hn2 hF kw2))
    obtain ⟨g2, go2, hg2, hro2⟩ := uh HRO
    have HGO := hide hg2
    have HRO2 := hide hro2
    have HTOT : Hid ((((flatS pre).app (.cons op f x t el .nil)).app (flatS t)).len ≤ 4294967294) := by show _ ≤ _; rw [SL.len_app, SL.len_app, ← uh HNP, ← uh HN2]; have := uh HBD; have h2 := uh HN2; simp only [SL.len]; omega
    have hnb2 : n2 ≤ 4294967294 := by have := uh HBD; have h2 := uh HN2; omega
    clear hg2 hro2 HRO hB1
    go_loopw [3, 6] (fun o i wr => ∃ (acc rest2 : SL) (j m : Nat) (xs2 yr : List Value), i = .int .i64 j ∧ j + rest2.len = n2 ∧ Grow B w w acc (((flatS pre).app (.cons op f x t el .nil)).app (flatS t)) g2 go2 o j m xs2 rest2 yr wr) (fun _ i _ => n2 - (intOf i).toNat)
    case atStart =>
     obtain ⟨hgA, hgB, hgC, hgD⟩ := uh HRO2
     exact ⟨(flatS pre).app (.cons op f x t el .nil), flatS t, 0, n + 1, _, ys2, rfl, by rw [Nat.zero_add]; exact (uh HN2).symm, ⟨uh HO2, uh HS1, uh HS2, by simpa using hgB, hgD, hgA, uh HKw2, rfl, by rw [SL.len_app, uh HNP]; rfl⟩⟩
    case round =>
     obtain ⟨acc, rest2, j, m, xs2, yr, rfl, hjl, hgr⟩ := hrel
     obtain ⟨oo2, oc2, rfl⟩ := (rowAt_own hgr.own).form
     have HG := hide hgr
     have hmb : m ≤ 4294967294 := by have h1 := hgr.len; have h2 := congrArg SL.len hgr.all; rw [SL.len_app] at h2; have h3 := uh HTOT; omega
     cases rest2 with
     | cons op2 f2 x2 t2 e2 rest2 =>
      simp only [SL.len] at hjl
      obtain ⟨xo2, xc2, to2, tc2, eo2, ec2, yr, rfl⟩ := hgr.left.cons_open
      obtain rfl := (uh HGO) (by omega)
      have hmb1 : m + 1 ≤ 4294967294 := by have h1 := hgr.len; have h2 := congrArg SL.len hgr.all; rw [SL.len_app] at h2; simp only [SL.len] at h2; have h3 := uh HTOT; omega
      have z0 := hgr.cells 0 _ rfl
      have z1 := hgr.cells 1 _ rfl
      have z2 := hgr.cells 2 _ rfl
      have z3 := hgr.cells 3 _ rfl
      have z4 := hgr.cells 4 _ rfl
      rw [Nat.add_zero] at z0
      have HNB := hide (heap_alloc_new wr (.cells #[.int .i64 op2, str f2, .slice xo2 x2.len xc2, .slice to2 t2.len tc2, .slice eo2 e2.len ec2] 39))
      have HOX := hide (ownsRow_kept hgr.own ((Keeps.refl (fun _ => False) wr).alloc (.cells #[.int .i64 op2, str f2, .slice xo2 x2.len xc2, .slice to2 t2.len tc2, .slice eo2 e2.len ec2] 39)) (fun _ _ => id))
      have HB0 : Hid (w.heap.size ≤ wr.heap.size) := hgr.kept.size
      have i1 : (j : Int) < (n2 : Int) := by omega
      have ix0 : (0 : Int) ≤ (j : Int) := by omega
      have HJL := hide hjl
      clear hgr hmb hjl
      go_wp2_with (at_builtin; refine wpList_append_lies _ rfl _ _ _ rfl w.heap.size 39 i0 _ 5 96 Tryz.underlying28 hi hz0 hz1 hz2 rfl (by omega) (.slice oo2 m oc2) m xs2 rfl (uh HOX) ⟨wr.heap.size, 0, none⟩ 1 1 [.int .i64 op2, str f2, .slice xo2 x2.len xc2, .slice to2 t2.len tc2, .slice eo2 e2.len ec2] rfl rfl (World.news_of_block (cs := #[.int .i64 op2, str f2, .slice xo2 x2.len xc2, .slice to2 t2.len tc2, .slice eo2 e2.len ec2]) (t := 39) (fr := (0, 0)) (uh HNB)) (by simp [Value.oneCell']) (by omega) (by unfold maxLen; omega) (by omega) (by have := uh HB0; simp; omega) (wr.heap.size + 1) (by simp) ?_; intro g6 c6 w6 hown6 hgrow hat _; have HO6 := hide hown6; have HGR := hide hgrow; have HAT := hide hat; clear hown6 hgrow hat)
      go_roundw
      case rel => exact ⟨_, rest2, j + 1, _, _, _, by go_num, by have := uh HJL; omega, (uh HG).step (uh HBB) (uh HO6) (uh HGR) (uh HAT)⟩
      case measure => have := uh HJL; simp [intOf]; omega
     | nil =>
      simp only [SL.len, Nat.add_zero] at hjl
      have i1 : ¬ (j : Int) < (n2 : Int) := by omega
      have hall := hgr.all
      rw [SL.app_nil] at hall
      subst hall
      clear hmb
      have hkf : Keeps (fun _ => False) w wr := hgr.kept.mono (fun q hq e => by have e' : w.heap.size ≤ q := e; omega)
      have qq := uh HQX _ hkf
      have HOa := hide hgr.own
      have HSa := hide hgr.held
      have HKa := hide hgr.kept
      have HML := hide hgr.len
      have HKF := hide hkf
      clear hgr HG hjl hkf HGO HTOT
      go_wp2_with (go_at_call 98; refine (uh HC _ (uh HKF)).2.mono ?_; rintro e w4 ⟨ao4, ac4, n4, ys4, rfl, hn4, hown4, hss4, hk4⟩; have HN4 := hide hn4; have HO4 := hide (ownsRow_kept (uh HOa) hk4 (fun _ _ => id)); have HS3 := hide ((uh HSa).argKeep hk4 (fun _ h => h.elim)); have HS4 := hide hss4; have HKw4 := hide ((uh HKa).trans hk4.any); have HRO := hide (row_open (b := b) (bl := uh HBW) hown4 (uh HOa) hk4 (uh HKF).size); clear hown4 hss4 hk4 hn4)
      obtain ⟨g4, go4, hg4, hro4⟩ := uh HRO
      have HGO := hide hg4
      have HRO4 := hide hro4
      have HTOT : Hid (((((flatS pre).app (.cons op f x t el .nil)).app (flatS t)).app (flatS el)).len ≤ 4294967294) := by show _ ≤ _; rw [SL.len_app, SL.len_app, SL.len_app, ← uh HNP, ← uh HN2, ← uh HN4]; have := uh HBD; have h2 := uh HN2; have h4 := uh HN4; simp only [SL.len]; omega
      have hnb4 : n4 ≤ 4294967294 := by have := uh HBD; have h2 := uh HN4; omega
      clear hg4 hro4 HRO HRO2
      go_loopw [3, 7] (fun o i wr => ∃ (acc rest2 : SL) (j m : Nat) (xs2 yr : List Value), i = .int .i64 j ∧ j + rest2.len = n4 ∧ Grow B w w acc ((((flatS pre).app (.cons op f x t el .nil)).app (flatS t)).app (flatS el)) g4 go4 o j m xs2 rest2 yr wr) (fun _ i _ => n4 - (intOf i).toNat)
      case atStart =>
       obtain ⟨hgA, hgB, hgC, hgD⟩ := uh HRO4
       exact ⟨_, flatS el, 0, m, xs2, ys4, rfl, by rw [Nat.zero_add]; exact (uh HN4).symm, ⟨uh HO4, uh HS3, uh HS4, by simpa using hgB, hgD, hgA, uh HKw4, rfl, uh HML⟩⟩
      case round =>
       obtain ⟨acc, rest2, j, m, xs2, yr, rfl, hjl, hgr⟩ := hrel
       obtain ⟨oo2, oc2, rfl⟩ := (rowAt_own hgr.own).form
       have HG := hide hgr
       have hmb : m ≤ 4294967294 := by have h1 := hgr.len; have h2 := congrArg SL.len hgr.all; rw [SL.len_app] at h2; have h3 := uh HTOT; omega
       cases rest2 with
       | cons op2 f2 x2 t2 e2 rest2 =>
        simp only [SL.len] at hjl
        obtain ⟨xo2, xc2, to2, tc2, eo2, ec2, yr, rfl⟩ := hgr.left.cons_open
        obtain rfl := (uh HGO) (by omega)
        have hmb1 : m + 1 ≤ 4294967294 := by have h1 := hgr.len; have h2 := congrArg SL.len hgr.all; rw [SL.len_app] at h2; simp only [SL.len] at h2; have h3 := uh HTOT; omega
        have z0 := hgr.cells 0 _ rfl
        have z1 := hgr.cells 1 _ rfl
        have z2 := hgr.cells 2 _ rfl
        have z3 := hgr.cells 3 _ rfl
        have z4 := hgr.cells 4 _ rfl
        rw [Nat.add_zero] at z0
        have HNB := hide (heap_alloc_new wr (.cells #[.int .i64 op2, str f2, .slice xo2 x2.len xc2, .slice to2 t2.len tc2, .slice eo2 e2.len ec2] 39))
        have HOX := hide (ownsRow_kept hgr.own ((Keeps.refl (fun _ => False) wr).alloc (.cells #[.int .i64 op2, str f2, .slice xo2 x2.len xc2, .slice to2 t2.len tc2, .slice eo2 e2.len ec2] 39)) (fun _ _ => id))
        have HB0 : Hid (w.heap.size ≤ wr.heap.size) := hgr.kept.size
        have i1 : (j : Int) < (n4 : Int) := by omega
        have ix0 : (0 : Int) ≤ (j : Int) := by omega
        have HJL := hide hjl
        clear hgr hmb hjl
        go_wp2_with (at_builtin; refine wpList_append_lies _ rfl _ _ _ rfl w.heap.size 39 i0 _ 5 96 Tryz.underlying28 hi hz0 hz1 hz2 rfl (by omega) (.slice oo2 m oc2) m xs2 rfl (uh HOX) ⟨wr.heap.size, 0, none⟩ 1 1 [.int .i64 op2, str f2, .slice xo2 x2.len xc2, .slice to2 t2.len tc2, .slice eo2 e2.len ec2] rfl rfl (World.news_of_block (cs := #[.int .i64 op2, str f2, .slice xo2 x2.len xc2, .slice to2 t2.len tc2, .slice eo2 e2.len ec2]) (t := 39) (fr := (0, 0)) (uh HNB)) (by simp [Value.oneCell']) (by omega) (by unfold maxLen; omega) (by omega) (by have := uh HB0; simp; omega) (wr.heap.size + 1) (by simp) ?_; intro g6 c6 w6 hown6 hgrow hat _; have HO6 := hide hown6; have HGR := hide hgrow; have HAT := hide hat; clear hown6 hgrow hat)
        go_roundw
        case rel => exact ⟨_, rest2, j + 1, _, _, _, by go_num, by have := uh HJL; omega, (uh HG).step (uh HBB) (uh HO6) (uh HGR) (uh HAT)⟩
        case measure => have := uh HJL; simp [intOf]; omega
       | nil =>
        simp only [SL.len, Nat.add_zero] at hjl
        have i1 : ¬ (j : Int) < (n4 : Int) := by omega
        have hall := hgr.all
        rw [SL.app_nil] at hall
        subst hall
        clear hmb
        have HOf := hide hgr.own
        have HSf := hide hgr.held
        have HKf := hide hgr.kept
        have HLf := hide hgr.len
        clear hgr HG hjl
        go_wp2_with fail
        go_roundw
        case rel =>
         refine ⟨pre.app (.cons op f x t el .nil), rest, k + 1, m, _, by go_num, by rw [app_oneS]; exact uh HAPP, by rw [SL.len_app, uh HKP]; rfl, ?_, uh HOf, ?_, (uh HKf).mono (fun q hq e => by have e' : w.heap.size ≤ q := e; omega), ?_⟩
         ·rw [flat_snoc]; exact uh HLf
         ·rw [flat_snoc]; exact uh HSf
         ·rw [show off + (k + 1) * 5 = off + k * 5 + 5 by omega]
          exact uh HR
        case measure => simp [intOf]; omega
end Go.Proofs.YtiinohibmcefkaaGreatDoor
namespace Go.Proofs.YtiinohibmcefkaaGreatDoor
open Go.RowKit Go.Maps
theorem refField_no (S : List FieldA) (sv : Value) (nm : Txt) (w : World) (h : FldsAt w sv S) (hl : S.length ≤ 8) (hno : fieldOf S nm = none) :
  Calls Tryz.prog 93 #[.agg #[sv], str nm] w fun e w' => e = .returned (.int .i64 (-1)) ∧ Keeps (fun _ => False) w w' :=
 (refField_v S sv nm w h hl).mono fun e w' ⟨⟨i, he, hi⟩, hk⟩ => ⟨(by
   rcases hi with ⟨_, rfl⟩ | ⟨k, f, _, hs, _⟩
   ·exact he
   ·rw [hno] at hs
    exact absurd hs (by simp)), hk⟩
theorem refField_at (S : List FieldA) (hS : schemaB S = true) (sv : Value) (nm : Txt) (w : World) (h : FldsAt w sv S) (hl : S.length ≤ 8) (kf : Nat) (d : FieldA) (hkf : S[kf]? = some d) (hd : fieldOf S nm = some d) :
  Calls Tryz.prog 93 #[.agg #[sv], str nm] w fun e w' => e = .returned (.int .i64 (kf : Int)) ∧ Keeps (fun _ => False) w w' :=
 (refField_v S sv nm w h hl).mono fun e w' ⟨⟨i, he, hi⟩, hk⟩ => ⟨(by
   rcases hi with ⟨hno, _⟩ | ⟨k, f, h1, h2, rfl⟩
   ·rw [hno] at hd; cases hd
   ·have e1 := idx_some hS h1 h2
    have e2 := idx_some hS hkf hd
    rw [e1] at e2
    cases e2
    exact he), hk⟩
theorem zeroK_err {p : KA × Int} {E : Int} (h : p.2 = E) (h0 : E ≠ 0) : zeroK p = (⟨0, false⟩, E) := by
 unfold zeroK
 rw [if_pos (by rw [h]; exact h0), h]
theorem zeroK_ok {p : KA × Int} {T : Int} {O : Bool} (h : p = (⟨T, O⟩, 0)) : zeroK p = (⟨T, O⟩, 0) := by
 unfold zeroK
 rw [h]
 rfl
end Go.Proofs.YtiinohibmcefkaaGreatDoor
namespace Go.Proofs.YtiinohibmcefkaaGreatDoor
open Go.RowKit Go.Maps
set_option maxRecDepth 100000
set_option maxHeartbeats 4000000
theorem own5x (S : List FieldA) (hS : schemaB S = true) (so : Option Addr) (sc : Nat) (f : Txt) (xo tq eo : Option Addr) (xn xc tn tc en ec : Nat) (w : World) (hf : FldsAt w (.slice so S.length sc) S) (hno : fieldOf S f = none) :
  Calls Tryz.prog 99 #[.agg #[.slice so S.length sc], stV 5 f (.slice xo xn xc) (.slice tq tn tc) (.slice eo en ec)] w fun e w' => e = .returned (.int .i64 90) ∧ Keeps (fun _ => False) w w' := by
 have hl8 := schema_8 hS
 obtain ⟨HX, hxb, hxc⟩ := boxedT w #[.slice so S.length sc] 24
 obtain ⟨HY, hyb, hyc⟩ := boxedT (w.alloc (.cells #[.slice so S.length sc] 24)) #[.int .i64 5, str f, .slice xo xn xc, .slice tq tn tc, .slice eo en ec] 39
 rw [World.size_alloc] at hyc hyb
 have HK0 := hide ((uh HX).trans (uh HY))
 have SB : ∀ w', Keeps (fun _ => False) ((w.alloc (.cells #[.slice so S.length sc] 24)).alloc (.cells #[.int .i64 5, str f, .slice xo xn xc, .slice tq tn tc, .slice eo en ec] 39)) w' → w'.cell? ⟨w.heap.size, 0, none⟩ = some (.slice so S.length sc) ∧ w'.cell? ⟨w.heap.size + 1, 0, none⟩ = some (.int .i64 5) ∧ w'.cell? ⟨w.heap.size + 1, 1, none⟩ = some (str f) := fun w' hk =>
  ⟨(((uh HY).trans hk).cell hxb id).trans (hxc 0 _ rfl), (hk.cell hyb id).trans (hyc 0 _ rfl), (hk.cell hyb id).trans (hyc 1 _ rfl)⟩
 have y := SB _ (Keeps.refl _ _)
 have HSB := hide SB
 have HFI := hide (refField_no S (.slice so S.length sc) f _ (hf.keepF (uh HK0)) hl8 hno)
 clear hf hxc hyc SB HX HY hno
 go_enter Tryz.func99, Tryz.ntmps99
 go_wp2_with (go_at_call 93; refine (uh HFI).mono ?_; rintro e w1 ⟨rfl, hk1⟩; have y1 := uh HSB _ hk1; have HK0 := hide ((uh HK0).trans hk1); clear hk1)
 go_ret
 exact ⟨rfl, uh HK0⟩
theorem own5true (S : List FieldA) (hS : schemaB S = true) (so : Option Addr) (sc : Nat) (f : Txt) (xo tq eo : Option Addr) (xn xc tn tc en ec : Nat) (w : World) (hf : FldsAt w (.slice so S.length sc) S) (kf : Nat) (nm : Txt) (DT : Int) (DO : Bool) (hDO : DO = true) (hkf : S[kf]? = some ⟨nm, DT, DO⟩) (hsome : fieldOf S f = some ⟨nm, DT, DO⟩) :
  Calls Tryz.prog 99 #[.agg #[.slice so S.length sc], stV 5 f (.slice xo xn xc) (.slice tq tn tc) (.slice eo en ec)] w fun e w' => e = .returned (.int .i64 0) ∧ Keeps (fun _ => False) w w' := by
 have hl8 := schema_8 hS
 subst hDO
 have hkl := get_lt hkf
 obtain ⟨fb, foff, fc, fe, hfb, hfc⟩ := FldsAt.cells hf (by omega)
 simp only [Value.slice.injEq] at fe
 obtain ⟨rfl, _, rfl⟩ := fe
 have g1 : ¬ (kf : Int) < 0 := by omega
 have g1' : decide ((kf : Int) < 0) = false := decide_eq_false g1
 have i1 : (kf : Int) < (S.length : Int) := by omega
 have i0 : (0 : Int) ≤ (kf : Int) := by omega
 obtain ⟨HX, hxb, hxc⟩ := boxedT w #[.slice (some ⟨fb, foff, none⟩) S.length sc] 24
 obtain ⟨HY, hyb, hyc⟩ := boxedT (w.alloc (.cells #[.slice (some ⟨fb, foff, none⟩) S.length sc] 24)) #[.int .i64 5, str f, .slice xo xn xc, .slice tq tn tc, .slice eo en ec] 39
 rw [World.size_alloc] at hyc hyb
 have HK0 := hide ((uh HX).trans (uh HY))
 have SB : ∀ w', Keeps (fun _ => False) ((w.alloc (.cells #[.slice (some ⟨fb, foff, none⟩) S.length sc] 24)).alloc (.cells #[.int .i64 5, str f, .slice xo xn xc, .slice tq tn tc, .slice eo en ec] 39)) w' → w'.cell? ⟨w.heap.size, 0, none⟩ = some (.slice (some ⟨fb, foff, none⟩) S.length sc) ∧ w'.cell? ⟨w.heap.size + 1, 0, none⟩ = some (.int .i64 5) ∧ w'.cell? ⟨w.heap.size + 1, 1, none⟩ = some (str f) ∧ w'.cell? ⟨fb, foff + kf * 3, none⟩ = some (str nm) ∧ w'.cell? ⟨fb, foff + kf * 3 + 1, none⟩ = some (.int .i64 DT) ∧ w'.cell? ⟨fb, foff + kf * 3 + 2, none⟩ = some (.bool true) := fun w' hk =>
  ⟨(((uh HY).trans hk).cell hxb id).trans (hxc 0 _ rfl), (hk.cell hyb id).trans (hyc 0 _ rfl), (hk.cell hyb id).trans (hyc 1 _ rfl), (((uh HK0).trans hk).cell hfb id).trans (hfc kf _ hkf).1, (((uh HK0).trans hk).cell hfb id).trans (hfc kf _ hkf).2.1, (((uh HK0).trans hk).cell hfb id).trans (hfc kf _ hkf).2.2⟩
 have y := SB _ (Keeps.refl _ _)
 have HSB := hide SB
 have HFI := hide (refField_at S hS (.slice (some ⟨fb, foff, none⟩) S.length sc) f _ (hf.keepF (uh HK0)) hl8 kf _ hkf hsome)
 clear hf hxc hyc SB HX HY hfc hkf hsome
 go_enter Tryz.func99, Tryz.ntmps99
 go_wp2_with (go_at_call 93; refine (uh HFI).mono ?_; rintro e w1 ⟨rfl, hk1⟩; have y1 := uh HSB _ hk1; have HK0 := hide ((uh HK0).trans hk1); clear hk1)
 go_ret
 exact ⟨rfl, uh HK0⟩
theorem own5false (S : List FieldA) (hS : schemaB S = true) (so : Option Addr) (sc : Nat) (f : Txt) (xo tq eo : Option Addr) (xn xc tn tc en ec : Nat) (w : World) (hf : FldsAt w (.slice so S.length sc) S) (kf : Nat) (nm : Txt) (DT : Int) (DO : Bool) (hDO : DO = false) (hkf : S[kf]? = some ⟨nm, DT, DO⟩) (hsome : fieldOf S f = some ⟨nm, DT, DO⟩) :
  Calls Tryz.prog 99 #[.agg #[.slice so S.length sc], stV 5 f (.slice xo xn xc) (.slice tq tn tc) (.slice eo en ec)] w fun e w' => e = .returned (.int .i64 92) ∧ Keeps (fun _ => False) w w' := by
 have hl8 := schema_8 hS
 subst hDO
 have hkl := get_lt hkf
 obtain ⟨fb, foff, fc, fe, hfb, hfc⟩ := FldsAt.cells hf (by omega)
 simp only [Value.slice.injEq] at fe
 obtain ⟨rfl, _, rfl⟩ := fe
 have g1 : ¬ (kf : Int) < 0 := by omega
 have g1' : decide ((kf : Int) < 0) = false := decide_eq_false g1
 have i1 : (kf : Int) < (S.length : Int) := by omega
 have i0 : (0 : Int) ≤ (kf : Int) := by omega
 obtain ⟨HX, hxb, hxc⟩ := boxedT w #[.slice (some ⟨fb, foff, none⟩) S.length sc] 24
 obtain ⟨HY, hyb, hyc⟩ := boxedT (w.alloc (.cells #[.slice (some ⟨fb, foff, none⟩) S.length sc] 24)) #[.int .i64 5, str f, .slice xo xn xc, .slice tq tn tc, .slice eo en ec] 39
 rw [World.size_alloc] at hyc hyb
 have HK0 := hide ((uh HX).trans (uh HY))
 have SB : ∀ w', Keeps (fun _ => False) ((w.alloc (.cells #[.slice (some ⟨fb, foff, none⟩) S.length sc] 24)).alloc (.cells #[.int .i64 5, str f, .slice xo xn xc, .slice tq tn tc, .slice eo en ec] 39)) w' → w'.cell? ⟨w.heap.size, 0, none⟩ = some (.slice (some ⟨fb, foff, none⟩) S.length sc) ∧ w'.cell? ⟨w.heap.size + 1, 0, none⟩ = some (.int .i64 5) ∧ w'.cell? ⟨w.heap.size + 1, 1, none⟩ = some (str f) ∧ w'.cell? ⟨fb, foff + kf * 3, none⟩ = some (str nm) ∧ w'.cell? ⟨fb, foff + kf * 3 + 1, none⟩ = some (.int .i64 DT) ∧ w'.cell? ⟨fb, foff + kf * 3 + 2, none⟩ = some (.bool false) := fun w' hk =>
  ⟨(((uh HY).trans hk).cell hxb id).trans (hxc 0 _ rfl), (hk.cell hyb id).trans (hyc 0 _ rfl), (hk.cell hyb id).trans (hyc 1 _ rfl), (((uh HK0).trans hk).cell hfb id).trans (hfc kf _ hkf).1, (((uh HK0).trans hk).cell hfb id).trans (hfc kf _ hkf).2.1, (((uh HK0).trans hk).cell hfb id).trans (hfc kf _ hkf).2.2⟩
 have y := SB _ (Keeps.refl _ _)
 have HSB := hide SB
 have HFI := hide (refField_at S hS (.slice (some ⟨fb, foff, none⟩) S.length sc) f _ (hf.keepF (uh HK0)) hl8 kf _ hkf hsome)
 clear hf hxc hyc SB HX HY hfc hkf hsome
 go_enter Tryz.func99, Tryz.ntmps99
 go_wp2_with (go_at_call 93; refine (uh HFI).mono ?_; rintro e w1 ⟨rfl, hk1⟩; have y1 := uh HSB _ hk1; have HK0 := hide ((uh HK0).trans hk1); clear hk1)
 go_ret
 exact ⟨rfl, uh HK0⟩
theorem own6 (S : List FieldA) (hS : schemaB S = true) (so : Option Addr) (sc : Nat) (f : Txt) (xo tq eo : Option Addr) (xn xc tn tc en ec : Nat) (w : World) (_hf : FldsAt w (.slice so S.length sc) S) :
  Calls Tryz.prog 99 #[.agg #[.slice so S.length sc], stV 6 f (.slice xo xn xc) (.slice tq tn tc) (.slice eo en ec)] w fun e w' => e = .returned (.int .i64 0) ∧ Keeps (fun _ => False) w w' := by
 have hl8 := schema_8 hS
 obtain ⟨HX, hxb, hxc⟩ := boxedT w #[.slice so S.length sc] 24
 obtain ⟨HY, hyb, hyc⟩ := boxedT (w.alloc (.cells #[.slice so S.length sc] 24)) #[.int .i64 6, str f, .slice xo xn xc, .slice tq tn tc, .slice eo en ec] 39
 rw [World.size_alloc] at hyc hyb
 have HK0 := hide ((uh HX).trans (uh HY))
 have SB : ∀ w', Keeps (fun _ => False) ((w.alloc (.cells #[.slice so S.length sc] 24)).alloc (.cells #[.int .i64 6, str f, .slice xo xn xc, .slice tq tn tc, .slice eo en ec] 39)) w' → w'.cell? ⟨w.heap.size, 0, none⟩ = some (.slice so S.length sc) ∧ w'.cell? ⟨w.heap.size + 1, 0, none⟩ = some (.int .i64 6) ∧ w'.cell? ⟨w.heap.size + 1, 1, none⟩ = some (str f) := fun w' hk =>
  ⟨(((uh HY).trans hk).cell hxb id).trans (hxc 0 _ rfl), (hk.cell hyb id).trans (hyc 0 _ rfl), (hk.cell hyb id).trans (hyc 1 _ rfl)⟩
 have y := SB _ (Keeps.refl _ _)
 have HSB := hide SB
 clear hxc hyc SB HX HY
 go_enter Tryz.func99, Tryz.ntmps99
 go_wp2_with fail
 go_ret
 exact ⟨rfl, uh HK0⟩
theorem own7 (S : List FieldA) (hS : schemaB S = true) (so : Option Addr) (sc : Nat) (f : Txt) (xo tq eo : Option Addr) (xn xc tn tc en ec : Nat) (w : World) (_hf : FldsAt w (.slice so S.length sc) S) :
  Calls Tryz.prog 99 #[.agg #[.slice so S.length sc], stV 7 f (.slice xo xn xc) (.slice tq tn tc) (.slice eo en ec)] w fun e w' => e = .returned (.int .i64 0) ∧ Keeps (fun _ => False) w w' := by
 have hl8 := schema_8 hS
 obtain ⟨HX, hxb, hxc⟩ := boxedT w #[.slice so S.length sc] 24
 obtain ⟨HY, hyb, hyc⟩ := boxedT (w.alloc (.cells #[.slice so S.length sc] 24)) #[.int .i64 7, str f, .slice xo xn xc, .slice tq tn tc, .slice eo en ec] 39
 rw [World.size_alloc] at hyc hyb
 have HK0 := hide ((uh HX).trans (uh HY))
 have SB : ∀ w', Keeps (fun _ => False) ((w.alloc (.cells #[.slice so S.length sc] 24)).alloc (.cells #[.int .i64 7, str f, .slice xo xn xc, .slice tq tn tc, .slice eo en ec] 39)) w' → w'.cell? ⟨w.heap.size, 0, none⟩ = some (.slice so S.length sc) ∧ w'.cell? ⟨w.heap.size + 1, 0, none⟩ = some (.int .i64 7) ∧ w'.cell? ⟨w.heap.size + 1, 1, none⟩ = some (str f) := fun w' hk =>
  ⟨(((uh HY).trans hk).cell hxb id).trans (hxc 0 _ rfl), (hk.cell hyb id).trans (hyc 0 _ rfl), (hk.cell hyb id).trans (hyc 1 _ rfl)⟩
 have y := SB _ (Keeps.refl _ _)
 have HSB := hide SB
 clear hxc hyc SB HX HY
 go_enter Tryz.func99, Tryz.ntmps99
 go_wp2_with fail
 go_ret
 exact ⟨rfl, uh HK0⟩
end Go.Proofs.YtiinohibmcefkaaGreatDoor
namespace Go.Proofs.YtiinohibmcefkaaGreatDoor
open Go.RowKit Go.Maps
set_option maxRecDepth 100000
set_option maxHeartbeats 8000000
theorem opD {op : Int} (h : op = 1 ∨ op = 2 ∨ op = 3 ∨ op = 4) : ¬ op = 5 ∧ ¬ op = 6 ∧ ¬ op = 7 ∧ ¬ op = 8 ∧ (op == 5) = false ∧ (op == 6) = false ∧ (op == 7) = false ∧ (op == 8) = false ∧ (op != 8) = true := by
 rcases h with rfl | rfl | rfl | rfl <;> decide
theorem bne_of {a b : Int} (h : a ≠ b) : (a != b) = true := by simpa using h
theorem beq_of {a b : Int} (h : ¬ a = b) : (a == b) = false := by simpa using h
def OwnA (op T : Int) (O : Bool) (E DT : Int) (DO : Bool) (r : Int) : Prop :=
 (E ≠ 0 ∧ r = E) ∨ (E = 0 ∧ op = 1 ∧ T ≠ DT ∧ r = 91) ∨ (E = 0 ∧ op = 1 ∧ T = DT ∧ O = true ∧ DO = false ∧ r = 92) ∨ (E = 0 ∧ op = 1 ∧ T = DT ∧ O = false ∧ r = 0) ∨ (E = 0 ∧ op = 1 ∧ T = DT ∧ O = true ∧ DO = true ∧ r = 0) ∨
 (E = 0 ∧ ¬ op = 1 ∧ DT ≠ 1 ∧ r = 91) ∨ (E = 0 ∧ ¬ op = 1 ∧ DT = 1 ∧ T ≠ 1 ∧ r = 91) ∨ (E = 0 ∧ ¬ op = 1 ∧ DT = 1 ∧ T = 1 ∧ O = true ∧ r = 92) ∨ (E = 0 ∧ ¬ op = 1 ∧ DT = 1 ∧ T = 1 ∧ O = false ∧ r = 0)
def OwnB (T : Int) (O : Bool) (E r : Int) : Prop := (E ≠ 0 ∧ r = E) ∨ (E = 0 ∧ T ≠ 2 ∧ r = 91) ∨ (E = 0 ∧ T = 2 ∧ O = true ∧ r = 92) ∨ (E = 0 ∧ T = 2 ∧ O = false ∧ r = 0)
theorem ownA (op : Int) (hop : op = 1 ∨ op = 2 ∨ op = 3 ∨ op = 4) (Z : Zone) (S : List FieldA) (hS : schemaB S = true) (so : Option Addr) (sc : Nat) (f : Txt) (o n : Int) (s : Txt) (kids : EL) (xv : Value) (up : Nat) (tq eo : Option Addr) (tn tc en ec : Nat) (w : World) (hf : FldsAt w (.slice so S.length sc) S)
  (hx : SlE Z w up xv (.cons o n s kids .nil)) (hro : rootB o n s kids.len = true) (hw : wellE kids = true) (kf : Nat) (nm : Txt) (DT : Int) (DO : Bool) (hkf : S[kf]? = some ⟨nm, DT, DO⟩) (hsome : fieldOf S f = some ⟨nm, DT, DO⟩) (T : Int) (O : Bool) (E : Int) (hE : zeroK (kindP S o s kids) = (⟨T, O⟩, E)) (r : Int) (hr : OwnA op T O E DT DO r) :
  Calls Tryz.prog 99 #[.agg #[.slice so S.length sc], stV op f xv (.slice tq tn tc) (.slice eo en ec)] w fun e w' => e = .returned (.int .i64 r) ∧ Keeps (fun _ => False) w w' := by
 have hl8 := schema_8 hS
 obtain ⟨xo, xc, b, off, rfl, hcap, ha, hin⟩ := hx.open
 obtain ⟨rfl, _⟩ := ha (by simp [EL.len])
 obtain ⟨h1, h2, h3, h4, h5, ⟨kao, kcap, h6, h7, h8⟩, _⟩ := hin
 have hkid : SlE Z w b (.slice kao kids.len kcap) kids := ⟨kao, kcap, rfl, h7, h8⟩
 have hlen : (EL.cons o n s kids .nil).len = 1 := rfl
 rw [hlen] at hcap ⊢
 have hkl := get_lt hkf
 obtain ⟨fb, foff, fc, fe, hfb, hfc⟩ := FldsAt.cells hf (by omega)
 simp only [Value.slice.injEq] at fe
 obtain ⟨rfl, _, rfl⟩ := fe
 have g1 : ¬ (kf : Int) < 0 := by omega
 have g1' : decide ((kf : Int) < 0) = false := decide_eq_false g1
 have i1 : (kf : Int) < (S.length : Int) := by omega
 have i0 : (0 : Int) ≤ (kf : Int) := by omega
 obtain ⟨HX, hxb, hxc⟩ := boxedT w #[.slice (some ⟨fb, foff, none⟩) S.length sc] 24
 obtain ⟨HY, hyb, hyc⟩ := boxedT (w.alloc (.cells #[.slice (some ⟨fb, foff, none⟩) S.length sc] 24)) #[.int .i64 op, str f, .slice (some ⟨b, off, none⟩) 1 xc, .slice tq tn tc, .slice eo en ec] 39
 rw [World.size_alloc] at hyc hyb
 have HK0 := hide ((uh HX).trans (uh HY))
 have SB : ∀ w', Keeps (fun _ => False) ((w.alloc (.cells #[.slice (some ⟨fb, foff, none⟩) S.length sc] 24)).alloc (.cells #[.int .i64 op, str f, .slice (some ⟨b, off, none⟩) 1 xc, .slice tq tn tc, .slice eo en ec] 39)) w' → w'.cell? ⟨w.heap.size, 0, none⟩ = some (.slice (some ⟨fb, foff, none⟩) S.length sc) ∧ w'.cell? ⟨w.heap.size + 1, 0, none⟩ = some (.int .i64 op) ∧ w'.cell? ⟨w.heap.size + 1, 1, none⟩ = some (str f) ∧ w'.cell? ⟨w.heap.size + 1, 2, none⟩ = some (.slice (some ⟨b, off, none⟩) 1 xc) ∧ w'.cell? ⟨b, off, none⟩ = some (.int .i64 o) ∧ w'.cell? ⟨b, off + 1, none⟩ = some (.int .i64 n) ∧ w'.cell? ⟨b, off + 2, none⟩ = some (str s) ∧ w'.cell? ⟨b, off + 3, none⟩ = some (.slice kao kids.len kcap) ∧ w'.cell? ⟨fb, foff + kf * 3, none⟩ = some (str nm) ∧ w'.cell? ⟨fb, foff + kf * 3 + 1, none⟩ = some (.int .i64 DT) ∧ w'.cell? ⟨fb, foff + kf * 3 + 2, none⟩ = some (.bool DO) := fun w' hk =>
  ⟨(((uh HY).trans hk).cell hxb id).trans (hxc 0 _ rfl), (hk.cell hyb id).trans (hyc 0 _ rfl), (hk.cell hyb id).trans (hyc 1 _ rfl), (hk.cell hyb id).trans (hyc 2 _ rfl), (((uh HK0).trans hk).cell h1 id).trans h3, (((uh HK0).trans hk).cell h1 id).trans h4, (((uh HK0).trans hk).cell h1 id).trans h5, (((uh HK0).trans hk).cell h1 id).trans h6, (((uh HK0).trans hk).cell hfb id).trans (hfc kf _ hkf).1, (((uh HK0).trans hk).cell hfb id).trans (hfc kf _ hkf).2.1, (((uh HK0).trans hk).cell hfb id).trans (hfc kf _ hkf).2.2⟩
 have y := SB _ (Keeps.refl _ _)
 have HSB := hide SB
 have HFI := hide (refField_at S hS (.slice (some ⟨fb, foff, none⟩) S.length sc) f _ (hf.keepF (uh HK0)) hl8 kf _ hkf hsome)
 have HGO := fun w' (hk : Keeps (fun _ => False) w w') => hide (refKind_v Z S hS (some ⟨fb, foff, none⟩) sc (kids.size + 1) kids (by omega) o n s w' b (.slice kao kids.len kcap) (hkid.keepF hk) (hf.keepF hk) hro hw)
 rw [hE] at HGO
 obtain ⟨n5, n6, n7, n8, b5, b6, b7, b8, c8⟩ := opD hop
 have HR := hide hr
 clear hr hop
 clear hE
 clear hx hkid hf hxc hyc SB hro hw ha h2 h3 h4 h5 h6 h8 HX HY hfc hkf hsome
 go_enter Tryz.func99, Tryz.ntmps99
 go_wp2_with (go_at_call 93; refine (uh HFI).mono ?_; rintro e w1 ⟨rfl, hk1⟩; have HKb := hide hk1; have y1 := uh HSB _ hk1; have HK1 := hide ((uh HK0).trans hk1); clear hk1)
 go_region_held3 (fun w' => w'.cell? ⟨w.heap.size, 0, none⟩ = some (.slice (some ⟨fb, foff, none⟩) S.length sc) ∧ w'.cell? ⟨w.heap.size + 1, 0, none⟩ = some (.int .i64 op) ∧ w'.cell? ⟨w.heap.size + 1, 1, none⟩ = some (str f) ∧ w'.cell? ⟨w.heap.size + 1, 2, none⟩ = some (.slice (some ⟨b, off, none⟩) 1 xc) ∧ w'.cell? ⟨b, off, none⟩ = some (.int .i64 o) ∧ w'.cell? ⟨b, off + 1, none⟩ = some (.int .i64 n) ∧ w'.cell? ⟨b, off + 2, none⟩ = some (str s) ∧ w'.cell? ⟨b, off + 3, none⟩ = some (.slice kao kids.len kcap) ∧ w'.cell? ⟨fb, foff + kf * 3, none⟩ = some (str nm) ∧ w'.cell? ⟨fb, foff + kf * 3 + 1, none⟩ = some (.int .i64 DT) ∧ w'.cell? ⟨fb, foff + kf * 3 + 2, none⟩ = some (.bool DO))
  (first | with_reducible exact uh HSB _ (uh HKe) | with_reducible exact uh HSB _ (uh HKd) | with_reducible exact uh HSB _ ((uh HKd).alloc _) | with_reducible exact uh HSB _ (uh HKb).drew | with_reducible exact uh HSB _ ((uh HKb).alloc _).drew)
  ((go_at_call 87; first
    | ((with_reducible refine (uh (HGO w1.drew (uh HK1).drew)).mono ?_); rintro e w2 ⟨rfl, hk2⟩; have hkd := (Keeps.refl (fun _ => False) w1).drew.trans hk2; have HKd := hide ((uh HKb).trans hkd); obtain ⟨HZ, hzb, hzc⟩ := boxedT w2 #[.int .i64 T, .bool O, .int .i64 E] 134; have c0 := hzc 0 (.int .i64 T) rfl; have c1 := hzc 1 (.bool O) rfl; have c2 := hzc 2 (.int .i64 E) rfl; have HKe := hide ((uh HKd).trans (uh HZ)); have yy := uh HSB _ (uh HKe); have HKF := hide (((uh HK1).trans hkd).trans (uh HZ)); clear hk2 hkd hzc)
    | ((with_reducible refine (uh (HGO (w1.alloc (.cells #[.int .i64 0, .bool false, .int .i64 0] 134)).drew ((uh HK1).alloc _).drew)).mono ?_); rintro e w2 ⟨rfl, hk2⟩; have hz := zero3_at hk2; have hkd := ((Keeps.refl (fun _ => False) w1).alloc (.cells #[.int .i64 0, .bool false, .int .i64 0] 134)).drew.trans hk2; have HKd := hide ((uh HKb).trans hkd); have m0 : World.cell? _ _ = some (Value.int .i64 0) := cB hz 0; have m1 : World.cell? _ _ = some (Value.bool false) := cB hz 1; have m2 : World.cell? _ _ = some (Value.int .i64 0) := cB hz 2; have f0 := fB hz 0; have f1 := fB hz 1; have f2 := fB hz 2; have hst := set3 hz rfl (.int .i64 T) (.bool O) (.int .i64 E); have hbs := (uh HKb).size; have HKe : Hid (Keeps (fun _ => False) ((w.alloc (.cells #[.slice (some ⟨fb, foff, none⟩) S.length sc] 24)).alloc (.cells #[.int .i64 op, str f, .slice (some ⟨b, off, none⟩) 1 xc, .slice tq tn tc, .slice eo en ec] 39)) (((w2.setCell ⟨w1.heap.size, 0, none⟩ (.int .i64 T)).setCell ⟨w1.heap.size, 1, none⟩ (.bool O)).setCell ⟨w1.heap.size, 2, none⟩ (.int .i64 E))) := (uh HKd).narrow hst.2 (fun q e => by omega); have yy := uh HSB _ (uh HKe); have c0 := hst.1.1; have c1 := hst.1.2.1; have c2 := hst.1.2.2; have HKF : Hid (Keeps (fun _ => False) w (((w2.setCell ⟨w1.heap.size, 0, none⟩ (.int .i64 T)).setCell ⟨w1.heap.size, 1, none⟩ (.bool O)).setCell ⟨w1.heap.size, 2, none⟩ (.int .i64 E))) := (uh HK0).trans (uh HKe); clear hk2 hkd hz hst hbs)))
 all_goals rcases uh HR with ⟨q, rfl⟩ | ⟨rfl, rfl, q, rfl⟩ | ⟨rfl, rfl, rfl, rfl, rfl, rfl⟩ | ⟨rfl, rfl, rfl, rfl, rfl⟩ | ⟨rfl, rfl, rfl, rfl, rfl, rfl⟩ | ⟨rfl, n1, q, rfl⟩ | ⟨rfl, n1, rfl, q, rfl⟩ | ⟨rfl, n1, rfl, rfl, rfl, rfl⟩ | ⟨rfl, n1, rfl, rfl, rfl, rfl⟩
 all_goals clear HR
 all_goals (try have q2 := bne_of q)
 all_goals (try have b1 := beq_of n1)
 all_goals (try clear q)
 all_goals go_wp2_with fail
 all_goals (go_ret; exact ⟨rfl, uh HKF⟩)
theorem ownX (op : Int) (hop : op = 1 ∨ op = 2 ∨ op = 3 ∨ op = 4) (S : List FieldA) (hS : schemaB S = true) (so : Option Addr) (sc : Nat) (f : Txt) (xo tq eo : Option Addr) (xn xc tn tc en ec : Nat) (w : World) (hf : FldsAt w (.slice so S.length sc) S) (hno : fieldOf S f = none) :
  Calls Tryz.prog 99 #[.agg #[.slice so S.length sc], stV op f (.slice xo xn xc) (.slice tq tn tc) (.slice eo en ec)] w fun e w' => e = .returned (.int .i64 90) ∧ Keeps (fun _ => False) w w' := by
 have hl8 := schema_8 hS
 obtain ⟨n5, n6, n7, n8, b5, b6, b7, b8, c8⟩ := opD hop
 clear hop
 obtain ⟨HX, hxb, hxc⟩ := boxedT w #[.slice so S.length sc] 24
 obtain ⟨HY, hyb, hyc⟩ := boxedT (w.alloc (.cells #[.slice so S.length sc] 24)) #[.int .i64 op, str f, .slice xo xn xc, .slice tq tn tc, .slice eo en ec] 39
 rw [World.size_alloc] at hyc hyb
 have HK0 := hide ((uh HX).trans (uh HY))
 have SB : ∀ w', Keeps (fun _ => False) ((w.alloc (.cells #[.slice so S.length sc] 24)).alloc (.cells #[.int .i64 op, str f, .slice xo xn xc, .slice tq tn tc, .slice eo en ec] 39)) w' → w'.cell? ⟨w.heap.size, 0, none⟩ = some (.slice so S.length sc) ∧ w'.cell? ⟨w.heap.size + 1, 0, none⟩ = some (.int .i64 op) ∧ w'.cell? ⟨w.heap.size + 1, 1, none⟩ = some (str f) := fun w' hk =>
  ⟨(((uh HY).trans hk).cell hxb id).trans (hxc 0 _ rfl), (hk.cell hyb id).trans (hyc 0 _ rfl), (hk.cell hyb id).trans (hyc 1 _ rfl)⟩
 have y := SB _ (Keeps.refl _ _)
 have HSB := hide SB
 have HFI := hide (refField_no S (.slice so S.length sc) f _ (hf.keepF (uh HK0)) hl8 hno)
 clear hf hxc hyc SB HX HY hno
 go_enter Tryz.func99, Tryz.ntmps99
 go_wp2_with (go_at_call 93; refine (uh HFI).mono ?_; rintro e w1 ⟨rfl, hk1⟩; have y1 := uh HSB _ hk1; have HK0 := hide ((uh HK0).trans hk1); clear hk1)
 go_ret
 exact ⟨rfl, uh HK0⟩
end Go.Proofs.YtiinohibmcefkaaGreatDoor
namespace Go.Proofs.YtiinohibmcefkaaGreatDoor
open Go.RowKit Go.Maps
set_option maxRecDepth 100000
set_option maxHeartbeats 8000000
theorem ownB (Z : Zone) (S : List FieldA) (hS : schemaB S = true) (so : Option Addr) (sc : Nat) (f : Txt) (o n : Int) (s : Txt) (kids : EL) (xv : Value) (up : Nat) (tq eo : Option Addr) (tn tc en ec : Nat) (w : World) (hf : FldsAt w (.slice so S.length sc) S)
  (hx : SlE Z w up xv (.cons o n s kids .nil)) (hro : rootB o n s kids.len = true) (hw : wellE kids = true) (T : Int) (O : Bool) (E : Int) (hE : zeroK (kindP S o s kids) = (⟨T, O⟩, E)) (r : Int) (hr : OwnB T O E r) :
  Calls Tryz.prog 99 #[.agg #[.slice so S.length sc], stV 8 f xv (.slice tq tn tc) (.slice eo en ec)] w fun e w' => e = .returned (.int .i64 r) ∧ Keeps (fun _ => False) w w' := by
 have hl8 := schema_8 hS
 obtain ⟨xo, xc, b, off, rfl, hcap, ha, hin⟩ := hx.open
 obtain ⟨rfl, _⟩ := ha (by simp [EL.len])
 obtain ⟨h1, h2, h3, h4, h5, ⟨kao, kcap, h6, h7, h8⟩, _⟩ := hin
 have hkid : SlE Z w b (.slice kao kids.len kcap) kids := ⟨kao, kcap, rfl, h7, h8⟩
 have hlen : (EL.cons o n s kids .nil).len = 1 := rfl
 rw [hlen] at hcap ⊢
 obtain ⟨HX, hxb, hxc⟩ := boxedT w #[.slice so S.length sc] 24
 obtain ⟨HY, hyb, hyc⟩ := boxedT (w.alloc (.cells #[.slice so S.length sc] 24)) #[.int .i64 8, str f, .slice (some ⟨b, off, none⟩) 1 xc, .slice tq tn tc, .slice eo en ec] 39
 rw [World.size_alloc] at hyc hyb
 have HK0 := hide ((uh HX).trans (uh HY))
 have SB : ∀ w', Keeps (fun _ => False) ((w.alloc (.cells #[.slice so S.length sc] 24)).alloc (.cells #[.int .i64 8, str f, .slice (some ⟨b, off, none⟩) 1 xc, .slice tq tn tc, .slice eo en ec] 39)) w' → w'.cell? ⟨w.heap.size, 0, none⟩ = some (.slice so S.length sc) ∧ w'.cell? ⟨w.heap.size + 1, 0, none⟩ = some (.int .i64 8) ∧ w'.cell? ⟨w.heap.size + 1, 1, none⟩ = some (str f) ∧ w'.cell? ⟨w.heap.size + 1, 2, none⟩ = some (.slice (some ⟨b, off, none⟩) 1 xc) ∧ w'.cell? ⟨b, off, none⟩ = some (.int .i64 o) ∧ w'.cell? ⟨b, off + 1, none⟩ = some (.int .i64 n) ∧ w'.cell? ⟨b, off + 2, none⟩ = some (str s) ∧ w'.cell? ⟨b, off + 3, none⟩ = some (.slice kao kids.len kcap) := fun w' hk =>
  ⟨(((uh HY).trans hk).cell hxb id).trans (hxc 0 _ rfl), (hk.cell hyb id).trans (hyc 0 _ rfl), (hk.cell hyb id).trans (hyc 1 _ rfl), (hk.cell hyb id).trans (hyc 2 _ rfl), (((uh HK0).trans hk).cell h1 id).trans h3, (((uh HK0).trans hk).cell h1 id).trans h4, (((uh HK0).trans hk).cell h1 id).trans h5, (((uh HK0).trans hk).cell h1 id).trans h6⟩
 have y := SB _ (Keeps.refl _ _)
 have HSB := hide SB
 have HFI := hide (refField_v S (.slice so S.length sc) f _ (hf.keepF (uh HK0)) hl8)
 have HGO := fun w' (hk : Keeps (fun _ => False) w w') => hide (refKind_v Z S hS so sc (kids.size + 1) kids (by omega) o n s w' b (.slice kao kids.len kcap) (hkid.keepF hk) (hf.keepF hk) hro hw)
 rw [hE] at HGO
 have HR := hide hr
 clear hr
 clear hE
 clear hx hkid hf hxc hyc SB hro hw ha h2 h3 h4 h5 h6 h8 HX HY
 go_enter Tryz.func99, Tryz.ntmps99
 go_wp2_with (go_at_call 93; refine (uh HFI).mono ?_; rintro e w1 ⟨⟨ix, rfl, _⟩, hk1⟩; have HKb := hide hk1; have y1 := uh HSB _ hk1; have HK1 := hide ((uh HK0).trans hk1); clear hk1)
 go_region_held3 (fun w' => w'.cell? ⟨w.heap.size, 0, none⟩ = some (.slice so S.length sc) ∧ w'.cell? ⟨w.heap.size + 1, 0, none⟩ = some (.int .i64 8) ∧ w'.cell? ⟨w.heap.size + 1, 1, none⟩ = some (str f) ∧ w'.cell? ⟨w.heap.size + 1, 2, none⟩ = some (.slice (some ⟨b, off, none⟩) 1 xc) ∧ w'.cell? ⟨b, off, none⟩ = some (.int .i64 o) ∧ w'.cell? ⟨b, off + 1, none⟩ = some (.int .i64 n) ∧ w'.cell? ⟨b, off + 2, none⟩ = some (str s) ∧ w'.cell? ⟨b, off + 3, none⟩ = some (.slice kao kids.len kcap))
  (first | with_reducible exact uh HSB _ (uh HKe) | with_reducible exact uh HSB _ (uh HKd) | with_reducible exact uh HSB _ ((uh HKd).alloc _) | with_reducible exact uh HSB _ (uh HKb).drew | with_reducible exact uh HSB _ ((uh HKb).alloc _).drew)
  ((go_at_call 87; first
    | ((with_reducible refine (uh (HGO w1.drew (uh HK1).drew)).mono ?_); rintro e w2 ⟨rfl, hk2⟩; have hkd := (Keeps.refl (fun _ => False) w1).drew.trans hk2; have HKd := hide ((uh HKb).trans hkd); obtain ⟨HZ, hzb, hzc⟩ := boxedT w2 #[.int .i64 T, .bool O, .int .i64 E] 134; have c0 := hzc 0 (.int .i64 T) rfl; have c1 := hzc 1 (.bool O) rfl; have c2 := hzc 2 (.int .i64 E) rfl; have HKe := hide ((uh HKd).trans (uh HZ)); have yy := uh HSB _ (uh HKe); have HKF := hide (((uh HK1).trans hkd).trans (uh HZ)); clear hk2 hkd hzc)
    | ((with_reducible refine (uh (HGO (w1.alloc (.cells #[.int .i64 0, .bool false, .int .i64 0] 134)).drew ((uh HK1).alloc _).drew)).mono ?_); rintro e w2 ⟨rfl, hk2⟩; have hz := zero3_at hk2; have hkd := ((Keeps.refl (fun _ => False) w1).alloc (.cells #[.int .i64 0, .bool false, .int .i64 0] 134)).drew.trans hk2; have HKd := hide ((uh HKb).trans hkd); have m0 : World.cell? _ _ = some (Value.int .i64 0) := cB hz 0; have m1 : World.cell? _ _ = some (Value.bool false) := cB hz 1; have m2 : World.cell? _ _ = some (Value.int .i64 0) := cB hz 2; have f0 := fB hz 0; have f1 := fB hz 1; have f2 := fB hz 2; have hst := set3 hz rfl (.int .i64 T) (.bool O) (.int .i64 E); have hbs := (uh HKb).size; have HKe : Hid (Keeps (fun _ => False) ((w.alloc (.cells #[.slice so S.length sc] 24)).alloc (.cells #[.int .i64 8, str f, .slice (some ⟨b, off, none⟩) 1 xc, .slice tq tn tc, .slice eo en ec] 39)) (((w2.setCell ⟨w1.heap.size, 0, none⟩ (.int .i64 T)).setCell ⟨w1.heap.size, 1, none⟩ (.bool O)).setCell ⟨w1.heap.size, 2, none⟩ (.int .i64 E))) := (uh HKd).narrow hst.2 (fun q e => by omega); have yy := uh HSB _ (uh HKe); have c0 := hst.1.1; have c1 := hst.1.2.1; have c2 := hst.1.2.2; have HKF : Hid (Keeps (fun _ => False) w (((w2.setCell ⟨w1.heap.size, 0, none⟩ (.int .i64 T)).setCell ⟨w1.heap.size, 1, none⟩ (.bool O)).setCell ⟨w1.heap.size, 2, none⟩ (.int .i64 E))) := (uh HK0).trans (uh HKe); clear hk2 hkd hz hst hbs)))
 all_goals rcases uh HR with ⟨q, rfl⟩ | ⟨rfl, q, rfl⟩ | ⟨rfl, rfl, rfl, rfl⟩ | ⟨rfl, rfl, rfl, rfl⟩
 all_goals clear HR
 all_goals (try have q2 := bne_of q)
 all_goals (try clear q)
 all_goals go_wp2_with fail
 all_goals (go_ret; exact ⟨rfl, uh HKF⟩)
end Go.Proofs.YtiinohibmcefkaaGreatDoor
namespace Go.Proofs.YtiinohibmcefkaaGreatDoor
open Go.RowKit Go.Maps
theorem chg_val {E : Int} {K : KA} {d : FieldA} (hE : E = 0) : orL [0, E, ofI ⟨d.type, d.opt⟩ [1], plainI K [1]] = if d.type ≠ 1 then 91 else if K.t ≠ 1 then 91 else if K.o then 92 else 0 := by
 subst hE
 obtain ⟨nm, DT, DO⟩ := d
 obtain ⟨T, O⟩ := K
 by_cases h1 : DT = 1
 ·subst h1
  by_cases h2 : T = 1
  ·subst h2
   cases O <;> rfl
  ·simp [orL, ofI, plainI, orI, h2]
 ·simp [orL, ofI, h1]
theorem set_val {E : Int} {K : KA} {d : FieldA} (hE : E = 0) : orL [0, E, ofI K [d.type], if K.o = true ∧ d.opt = false then 92 else 0] = if K.t ≠ d.type then 91 else if K.o = true ∧ d.opt = false then 92 else 0 := by
 subst hE
 obtain ⟨nm, DT, DO⟩ := d
 obtain ⟨T, O⟩ := K
 by_cases h1 : T = DT
 ·subst h1
  cases O <;> cases DO <;> simp [orL, ofI]
 ·simp [orL, ofI, h1]
theorem if_val {E : Int} {K : KA} (hE : E = 0) : orL [E, plainI K [2]] = if K.t ≠ 2 then 91 else if K.o then 92 else 0 := by
 subst hE
 obtain ⟨T, O⟩ := K
 by_cases h1 : T = 2
 ·subst h1
  cases O <;> rfl
 ·simp [orL, plainI, orI, ofI, h1]
theorem refOwn_v (Z : Zone) (S : List FieldA) (hS : schemaB S = true) (so : Option Addr) (sc : Nat) (op : Int) (f : Txt) (x : EL) (t e : SL) (xv tv ev : Value) (up : Nat) (w : World) (hf : FldsAt w (.slice so S.length sc) S)
  (hx : SlE Z w up xv x) (hv : ∃ tq tn tc eo en ec, tv = .slice tq tn tc ∧ ev = .slice eo en ec) (hh : headS op f x.len t.len e.len = true) (hw : wellE x = true) :
  Calls Tryz.prog 99 #[.agg #[.slice so S.length sc], stV op f xv tv ev] w fun e w' => e = .returned (.int .i64 (ownP S op f x)) ∧ Keeps (fun _ => False) w w' := by
 obtain ⟨tq, tn, tc, eo, en, ec, rfl, rfl⟩ := hv
 rcases head_open hh with ⟨h1, _, hl⟩ | ⟨rfl, _, rfl⟩ | ⟨h1, rfl⟩ | ⟨rfl, hl⟩
 ·obtain ⟨o, n, s, kids, rfl⟩ := EL.one_of hl
  simp only [wellE, Bool.and_eq_true] at hw
  have hhk : headK S (.cons o n s kids .nil) = kindP S o s kids := rfl
  obtain ⟨xo, xc, rfl, _⟩ := hx.head
  cases hfo : fieldOf S f with
  | none =>
   have hn : namedK S f = (⟨0, false⟩, 90) := by unfold namedK; rw [hfo]
   have ho : ownP S op f (.cons o n s kids .nil) = 90 := by
    unfold ownP
    rcases h1 with rfl | rfl | rfl | rfl
    ·rw [if_pos rfl, hn]; rfl
    all_goals rw [if_neg (by decide), if_pos (by decide), hn]; rfl
   rw [ho]
   exact ownX op h1 S hS so sc f xo tq eo _ xc tn tc en ec w hf hfo
  | some d =>
   have hn : namedK S f = (⟨d.type, d.opt⟩, 0) := by unfold namedK; rw [hfo]
   obtain ⟨kf, hkf⟩ := field_at hfo
   by_cases hE : (kindP S o s kids).2 = 0
   ·have hk : kindP S o s kids = (⟨(kindP S o s kids).1.t, (kindP S o s kids).1.o⟩, 0) := by rw [← hE]
    have hgo := fun r (hr : OwnA op (kindP S o s kids).1.t (kindP S o s kids).1.o 0 d.type d.opt r) => ownA op h1 Z S hS so sc f o n s kids _ up tq eo tn tc en ec w hf hx hw.1 hw.2.1 kf d.name d.type d.opt hkf hfo _ _ _ (zeroK_ok hk) r hr
    rcases h1 with rfl | h1
    ·have ho : ownP S 1 f (.cons o n s kids .nil) = if (kindP S o s kids).1.t ≠ d.type then 91 else if (kindP S o s kids).1.o = true ∧ d.opt = false then 92 else 0 := by
      unfold ownP
      rw [if_pos rfl, hn, hhk]
      exact set_val hE
     rw [ho]
     refine hgo _ ?_
     unfold OwnA
     by_cases hT : (kindP S o s kids).1.t = d.type
     ·cases hO : (kindP S o s kids).1.o <;> cases hD : d.opt <;> simp [hT]
     ·simp [hT]
    ·have ho : ownP S op f (.cons o n s kids .nil) = if d.type ≠ 1 then 91 else if (kindP S o s kids).1.t ≠ 1 then 91 else if (kindP S o s kids).1.o then 92 else 0 := by
      unfold ownP
      rw [if_neg (by omega), if_pos h1, hn, hhk]
      exact chg_val hE
     rw [ho]
     refine hgo _ ?_
     unfold OwnA
     have hn1 : ¬ op = 1 := by omega
     by_cases hD : d.type = 1
     ·by_cases hT : (kindP S o s kids).1.t = 1
      ·cases hO : (kindP S o s kids).1.o <;> simp [hT, hD, hn1]
      ·simp [hT, hD, hn1]
     ·simp [hD, hn1]
   ·have ho : ownP S op f (.cons o n s kids .nil) = (kindP S o s kids).2 := by
     unfold ownP
     rcases h1 with rfl | h1
     ·rw [if_pos rfl, hn, hhk, orL_skip, orL_head hE]
     ·rw [if_neg (by omega), if_pos h1, hn, hhk, orL_skip, orL_head hE]
    rw [ho]
    exact ownA op h1 Z S hS so sc f o n s kids _ up tq eo tn tc en ec w hf hx hw.1 hw.2.1 kf d.name d.type d.opt hkf hfo _ _ _ (zeroK_err rfl hE) _ (Or.inl ⟨hE, rfl⟩)
 ·obtain ⟨xo, xc, rfl, _⟩ := hx.head
  have ho : ownP S 5 f .nil = orL [(namedK S f).2, optI (namedK S f).1] := rfl
  rw [ho]
  cases hfo : fieldOf S f with
  | none =>
   rw [show namedK S f = (⟨0, false⟩, 90) from by unfold namedK; rw [hfo]]
   exact own5x S hS so sc f xo tq eo _ xc tn tc en ec w hf hfo
  | some d =>
   obtain ⟨kf, hkf⟩ := field_at hfo
   rw [show namedK S f = (⟨d.type, d.opt⟩, 0) from by unfold namedK; rw [hfo]]
   cases hD : d.opt with
   | true => exact own5true S hS so sc f xo tq eo _ xc tn tc en ec w hf kf d.name d.type d.opt hD hkf hfo
   | false => exact own5false S hS so sc f xo tq eo _ xc tn tc en ec w hf kf d.name d.type d.opt hD hkf hfo
 ·obtain ⟨xo, xc, rfl, _⟩ := hx.head
  rcases h1 with rfl | rfl
  ·exact own6 S hS so sc f xo tq eo _ xc tn tc en ec w hf
  ·exact own7 S hS so sc f xo tq eo _ xc tn tc en ec w hf
 ·obtain ⟨o, n, s, kids, rfl⟩ := EL.one_of hl
  simp only [wellE, Bool.and_eq_true] at hw
  have ho : ownP S 8 f (.cons o n s kids .nil) = orL [(kindP S o s kids).2, plainI (kindP S o s kids).1 [2]] := rfl
  rw [ho]
  by_cases hE : (kindP S o s kids).2 = 0
  ·have hk : kindP S o s kids = (⟨(kindP S o s kids).1.t, (kindP S o s kids).1.o⟩, 0) := by rw [← hE]
   rw [if_val hE]
   refine ownB Z S hS so sc f o n s kids xv up tq eo tn tc en ec w hf hx hw.1 hw.2.1 _ _ _ (zeroK_ok hk) _ ?_
   unfold OwnB
   by_cases hT : (kindP S o s kids).1.t = 2
   ·cases hO : (kindP S o s kids).1.o <;> simp [hT]
   ·simp [hT]
  ·rw [orL_head hE]
   exact ownB Z S hS so sc f o n s kids xv up tq eo tn tc en ec w hf hx hw.1 hw.2.1 _ _ _ (zeroK_err rfl hE) _ (Or.inl ⟨hE, rfl⟩)
end Go.Proofs.YtiinohibmcefkaaGreatDoor
