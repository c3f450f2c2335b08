import Derived.Test.YtoempeobaknkcaaGreatDoorJyaw
namespace Go.Proofs.YtoempeobaknkcaaGreatDoor
open Go.RowKit Go.Maps

/-- A row that grows by another one, statement by statement: what stands so far. (Blocks from A on below C are the other row's.) -/
structure Grow (B : Nat) (W0 W1 : World) (acc tot : SL) (g go : Nat) (v : Value) (j m : Nat) (xs : List Value) (rest : SL) (yr : List Value) (cur : World) : Prop where
  own : cur.ownsRow W0.heap.size 53 5 v m xs
  held : SsIn (argZ B) cur acc xs
  left : SsIn (argZ B) cur rest yr
  cells : ∀ i x, yr[i]? = some x → cur.cell? ⟨g, go + j * 5 + i, none⟩ = some x
  far : v.ownBlock ≠ some g
  lt : g < cur.heap.size
  kept : Keeps (fun q => W0.heap.size ≤ q) W1 cur
  all : acc.app rest = tot
  len : m = acc.len

/-- One statement more. -/
theorem Grow.step {B : Nat} {W0 W1 : World} {acc tot : SL} {g go : Nat} {oo : Option Addr} {oc : Nat} {j m : Nat} {xs : List Value} {op : Int} {f : Txt} {x : EL} {t el rest : SL} {xv tv ev : Value} {yr : List Value} {cur w6 : World} {g6 c6 : Nat} (hB : B ≤ W0.heap.size)
    (h : Grow B W0 W1 acc tot g go (.slice oo m oc) j m xs (.cons op f x t el rest) (.int .i64 op :: str f :: xv :: tv :: ev :: yr) cur)
    (ho : w6.ownsRow W0.heap.size 53 5 (.slice (some ⟨g6, 0, none⟩) (m + 1) c6) (m + 1) (xs ++ [.int .i64 op, str f, xv, tv, ev]))
    (hg : (cur.alloc (.cells #[.int .i64 op, str f, xv, tv, ev] 53)).grownBy w6 (Value.slice oo m oc).ownBlock) (hat : (Value.slice oo m oc).ownBlock = some g6 ∨ g6 = cur.heap.size + 1) :
    Grow B W0 W1 (acc.app (.cons op f x t el .nil)) tot g go (.slice (some ⟨g6, 0, none⟩) (m + 1) c6) (j + 1) (m + 1) (xs ++ [.int .i64 op, str f, xv, tv, ev]) rest yr w6 := by
  have hF : ∀ q, W0.heap.size ≤ q → B ≤ q := fun q hq => Nat.le_trans hB hq
  have k1 : Keeps (fun q => (Value.slice oo m oc).ownBlock = some q) cur w6 := ((Keeps.refl _ cur).alloc _).grown hg (fun q e _ => e)
  have k2 : Keeps (fun q => W0.heap.size ≤ q) cur w6 := k1.mono (fun q _ e => (h.own.lt q e).1)
  obtain ⟨xv', tv', ev', yr', e, h1, h2, h3, h4⟩ := h.left
  simp only [List.cons.injEq, true_and] at e
  obtain ⟨rfl, rfl, rfl, rfl⟩ := e
  refine ⟨ho, (h.held.argKeep k2 hF).app ⟨_, _, _, [], rfl, h1.argKeep k2 hF, h2.argKeep k2 hF, h3.argKeep k2 hF, rfl⟩, h4.argKeep k2 hF, fun i y hy => ?_, fun e => ?_, Nat.lt_of_lt_of_le h.lt k1.size, h.kept.trans k2, ?_, ?_⟩
  · rw [k1.cell h.lt h.far, show go + (j + 1) * 5 + i = go + j * 5 + (i + 5) by omega]
    exact h.cells (i + 5) y (by simpa using hy)
  · have e' : g6 = g := by simpa [Value.ownBlock] using e
    have := h.lt
    rcases hat with ha | ha
    · exact h.far (by rw [ha, e'])
    · omega
  · rw [app_oneS]; exact h.all
  · rw [SL.len_app, h.len]; rfl
theorem SsIn.cons_open {Z : Zone} {w : World} {op : Int} {f : Txt} {x : EL} {t e r : SL} {xs : List Value} (h : SsIn Z w (.cons op f x t e r) xs) : ∃ xo xc to tc eo ec ys, xs = .int .i64 op :: str f :: .slice xo x.len xc :: .slice to t.len tc :: .slice eo e.len ec :: ys := by
  obtain ⟨xv, tv, ev, ys, e, h1, h2, h3, _⟩ := h
  obtain ⟨xo, xc, rfl, _⟩ := h1.head
  obtain ⟨to, tc, rfl, _⟩ := h2.head
  obtain ⟨eo, ec, rfl, _⟩ := h3.head
  exact ⟨xo, xc, to, tc, eo, ec, ys, e⟩
theorem SsIn.nil_open {Z : Zone} {w : World} {xs : List Value} (h : SsIn Z w .nil xs) : xs = [] := h
end Go.Proofs.YtoempeobaknkcaaGreatDoor
namespace Go.Proofs.YtoempeobaknkcaaGreatDoor
open Go.RowKit Go.Maps

/-- Where a new row lies: in a block of its own (an empty one is said to lie in a block that is there). -/
theorem row_open {B0 b m : Nat} {w1 w2 : World} {ao : Option Addr} {c n : Nat} {ys xs : List Value} {v : Value} (bl : b < B0) (ho : w2.ownsRow w1.heap.size 53 5 (.slice ao n c) n ys) (hv : w1.ownsRow B0 53 5 v m xs) (hk : Keeps (fun _ => False) w1 w2) (hB : B0 ≤ w1.heap.size := by assumption) :
    ∃ g go, (n ≠ 0 → ao = some ⟨g, go, none⟩) ∧ g < w2.heap.size ∧ (∀ i x, ys[i]? = some x → w2.cell? ⟨g, go + i, none⟩ = some x) ∧ True ∧ v.ownBlock ≠ some g := by
  rcases Nat.eq_zero_or_pos n with h0 | h0
  · refine ⟨b, 0, fun h => absurd h0 h, by have := hk.size; omega, fun i x hx => ?_, trivial, fun e => by have := (hv.lt b e).1; omega⟩
    have hl := ho.1
    rw [h0, Nat.zero_mul] at hl
    rw [List.eq_nil_of_length_eq_zero hl] at hx
    simp at hx
  · obtain ⟨g, go, cap, e, hg, hc⟩ := (rowAt_own ho).cells h0
    simp at e
    obtain ⟨rfl, rfl⟩ := e
    have h1 := (ho.lt g rfl).1
    exact ⟨g, go, fun _ => rfl, hg, hc, trivial, fun e => by have := (hv.lt g e).2; omega⟩

set_option maxRecDepth 100000 in
set_option maxHeartbeats 16000000 in
theorem flat_v (B : Nat) (N : Nat) : ∀ (l : SL), l.size < N → l.size ≤ 4294967294 → ∀ (w : World) (up : Nat) (v : Value), B ≤ w.heap.size → SlS (argZ B) w up v l → Calls Tryz.prog 25 #[v] w (NPost B l w) := by
  induction N with
  | zero => intro l h; omega
  | succ N ih =>
    intro l hsz hlen' w up v hB hS
    have hlen : l.len ≤ 4294967294 := by have := SL.len_le l; omega
    obtain ⟨ao, cap, b, off, rfl, hcap, ha, hx⟩ := hS.open
    obtain ⟨i0, hi, hz0, hz1, hz2⟩ := info_parts Tryz.info53
    have IH := hide ih
    have HX := hide hx
    have HA := hide ha
    clear hS ih hx ha
    go_enter Tryz.func25, Tryz.ntmps25
    go_wp2_with fail
    go_loopw [3, 4] (fun o i wr => ∃ (pre rest : SL) (k n : Nat) (xs : List Value), i = .int .i64 k ∧ l = pre.app rest ∧ k = pre.len ∧ n = (flatS pre).len ∧ wr.ownsRow w.heap.size 53 5 o n xs ∧ SsIn (argZ B) wr (flatS pre) xs ∧ Keeps (fun _ => False) w wr ∧ StIn (argZ B) w rest b (off + k * 5)) (fun _ i _ => l.len - (intOf i).toNat)
    case atStart => exact ⟨.nil, l, 0, 0, [], rfl, rfl, rfl, rfl, World.ownsRow_nil w w.heap.size 53 5, rfl, Keeps.refl _ _, by simpa using unhide HX⟩
    case round =>
      obtain ⟨pre, rest, k, n, xs, rfl, happ, hkp, hnp, hown, hss, hkeep, hr⟩ := hrel
      obtain ⟨oo, oc, rfl⟩ := (rowAt_own hown).form
      have hll := congrArg SL.len happ
      have hls := congrArg SL.size happ
      rw [SL.len_app] at hll
      rw [SL.size_app] at hls
      have hcp : n ≤ pre.size := by rw [hnp, flatS_len]; exact countS_le pre
      have HO := hide hown
      have HSS := hide hss
      have HK := hide hkeep
      have HAPP := hide happ
      have HNP := hide hnp
      cases rest with
      | nil =>
        rw [SL.app_nil] at happ
        subst happ
        simp only [SL.len, SL.size] at hll hls
        have i1 : ¬ (k : Int) < (l.len : Int) := by omega
        subst hkp
        clear hown hss hkeep hr hll hls HAPP hnp
        go_wp2_with fail
        go_ret
        exact ⟨oo, oc, n, xs, rfl, unhide HNP, unhide HO, unhide HSS, unhide HK⟩
      | cons op f x t el rest =>
        obtain ⟨h1, h2, h3, h4, ⟨xv, h5, hxs⟩, ⟨tao, tcap, h6, h7, h8⟩, ⟨eao, ecap, j6, j7, j8⟩, h9⟩ := hr
        simp only [SL.len, SL.size] at hll hls
        have hkl : k + (rest.len + 1) = l.len := by omega
        obtain ⟨xao, xcap, rfl, hxl⟩ := hxs.head
        have hct : (flatS t).len ≤ t.size := by rw [flatS_len]; exact countS_le t
        have hce : (flatS el).len ≤ el.size := by rw [flatS_len]; exact countS_le el
        have hbd : n + 1 + (flatS t).len + (flatS el).len ≤ 4294967294 := by omega
        have hst : t.size < N ∧ t.size ≤ 4294967294 ∧ el.size < N ∧ el.size ≤ 4294967294 := by omega
        have HBD := hide hbd
        have hn1 : n ≤ 4294967293 := by omega
        have HKP := hide hkp
        have HST := hide hst
        clear hll hls hkp hct hce hcp hnp hbd hst
        obtain ⟨rfl, hp⟩ := (unhide HA) (by omega)
        have HXS : Hid (SlE (argZ B) w b (.slice xao x.len xcap) x) := hxs
        have HTS : Hid (SlS (argZ B) w b (.slice tao t.len tcap) t) := ⟨tao, tcap, rfl, h7, h8⟩
        have HES : Hid (SlS (argZ B) w b (.slice eao el.len ecap) el) := ⟨eao, ecap, rfl, j7, j8⟩
        have HR := hide h9
        have HBW : Hid (b < w.heap.size) := h1
        have i1 : (k : Int) < (l.len : Int) := by omega
        have ix0 : (0 : Int) ≤ (k : Int) := by omega
        have HQX : Hid (∀ W, Keeps (fun _ => False) w W → W.cell? ⟨b, off + k * 5, none⟩ = some (.int .i64 op) ∧ W.cell? ⟨b, off + k * 5 + 1, none⟩ = some (str f) ∧ W.cell? ⟨b, off + k * 5 + 2, none⟩ = some (.slice xao x.len xcap) ∧ W.cell? ⟨b, off + k * 5 + 3, none⟩ = some (.slice tao t.len tcap) ∧ W.cell? ⟨b, off + k * 5 + 4, none⟩ = some (.slice eao el.len ecap)) := fun W hk =>
          ⟨(hk.cell h1 id).trans h3, (hk.cell h1 id).trans h4, (hk.cell h1 id).trans h5, (hk.cell h1 id).trans h6, (hk.cell h1 id).trans j6⟩
        have q0 := unhide HQX _ hkeep
        have HB0 : Hid (w.heap.size ≤ wr.heap.size) := hkeep.size
        have HNB := hide (heap_alloc_new wr (.cells #[.int .i64 op, str f, .slice xao x.len xcap, .slice tao t.len tcap, .slice eao el.len ecap] 53))
        have HOX := hide (ownsRow_kept hown ((Keeps.refl (fun _ => False) wr).alloc (.cells #[.int .i64 op, str f, .slice xao x.len xcap, .slice tao t.len tcap, .slice eao el.len ecap] 53)) (fun _ _ => id))
        have HC := hide (fun (w' : World) (hk : Keeps (fun _ => False) w w') => And.intro (unhide IH t (unhide HST).1 (unhide HST).2.1 w' b _ (Nat.le_trans hB hk.size) ((unhide HTS).keepF hk)) (unhide IH el (unhide HST).2.2.1 (unhide HST).2.2.2 w' b _ (Nat.le_trans hB hk.size) ((unhide HES).keepF hk)))
        have HBB := hide hB
        have mk1 : True := trivial
        clear hown hss hkeep h1 h2 h3 h4 h5 h6 h8 h9 j6 j8 happ hxs hB
        go_wp2_with (first
          | (clear mk1; at_builtin; refine wpList_append_lies _ rfl _ _ _ rfl w.heap.size 53 i0 _ 5 96 Tryz.underlying25 hi hz0 hz1 hz2 rfl (by omega) (.slice oo n oc) n xs rfl (unhide HOX) ⟨wr.heap.size, 0, none⟩ 1 1 [.int .i64 op, str f, .slice xao x.len xcap, .slice tao t.len tcap, .slice eao el.len ecap] rfl rfl (World.news_of_block (cs := #[.int .i64 op, str f, .slice xao x.len xcap, .slice tao t.len tcap, .slice eao el.len ecap]) (t := 53) (fr := (0, 0)) (unhide HNB)) (by simp [Value.oneCell']) (by omega) (by unfold maxLen; omega) (by omega) (by have := unhide HB0; simp; omega) (wr.heap.size + 1) (by simp) ?_; intro g1 c1 w1 hown1 hgrow1 _ _; have hk1 : Keeps (fun q => w.heap.size ≤ q) wr w1 := ((Keeps.refl _ wr).alloc _).grown hgrow1 (fun q e _ => ((unhide HO).lt q e).1); have HO1 := hide hown1; have HKw1 := hide ((unhide HK).any.trans hk1); have hkf1 : Keeps (fun _ => False) w w1 := (unhide HKw1).mono (fun q hq e => by have e' : w.heap.size ≤ q := e; omega); have HKF1 := hide hkf1; have qa := unhide HQX _ hkf1; have HW1 := hide hk1; have hB1 := hkf1.size; clear hown1 hgrow1 hk1 hkf1; have mk2 : True := trivial)
          | (clear mk2; go_at_call 25; refine (unhide HC _ (unhide HKF1)).1.mono ?_; rintro e w2 ⟨ao2, ac2, n2, ys2, rfl, hn2, hown2, hss2, hk2⟩; have HN2 := hide hn2; have HO2 := hide (ownsRow_kept (unhide HO1) hk2 (fun _ _ => id)); have hF : ∀ q, w.heap.size ≤ q → B ≤ q := (fun q h => Nat.le_trans (unhide HBB) h); have kw2 : Keeps (fun q => w.heap.size ≤ q) w w2 := (unhide HKw1).trans hk2.any; have HS1 : Hid (SsIn (argZ B) w2 ((flatS pre).app (.cons op f x t el .nil)) (xs ++ [.int .i64 op, str f, .slice xao x.len xcap, .slice tao t.len tcap, .slice eao el.len ecap])) := ((unhide HSS).argKeep ((unhide HW1).trans hk2.any) hF).app ⟨_, _, _, [], rfl, ((unhide HXS).argKeep kw2 hF).anyUp 0, ((unhide HTS).argKeep kw2 hF).anyUp 0, ((unhide HES).argKeep kw2 hF).anyUp 0, rfl⟩; have HS2 := hide hss2; have HKw2 := hide kw2; have HRO := hide (row_open (b := b) (bl := unhide HBW) hown2 (unhide HO1) hk2); clear hown2 hss2 hk2 hn2 hF kw2))
        obtain ⟨g2, go2, hg2, hro2⟩ := unhide HRO
        have HGO := hide hg2
        have HRO2 := hide hro2
        have HTOT : Hid ((((flatS pre).app (.cons op f x t el .nil)).app (flatS t)).len ≤ 4294967294) := by show _ ≤ _; rw [SL.len_app, SL.len_app, ← unhide HNP, ← unhide HN2]; have := unhide HBD; have h2 := unhide HN2; simp only [SL.len]; omega
        have hnb2 : n2 ≤ 4294967294 := by have := unhide HBD; have h2 := unhide HN2; omega
        clear hg2 hro2 HRO hB1
        go_loopw [3, 6] (fun o i wr => ∃ (acc rest2 : SL) (j m : Nat) (xs2 yr : List Value), i = .int .i64 j ∧ j + rest2.len = n2 ∧ Grow B w w acc (((flatS pre).app (.cons op f x t el .nil)).app (flatS t)) g2 go2 o j m xs2 rest2 yr wr) (fun _ i _ => n2 - (intOf i).toNat)
        case atStart =>
          obtain ⟨hgA, hgB, hgC, hgD⟩ := unhide HRO2
          exact ⟨(flatS pre).app (.cons op f x t el .nil), flatS t, 0, n + 1, _, ys2, rfl, by rw [Nat.zero_add]; exact (unhide HN2).symm, ⟨unhide HO2, unhide HS1, unhide HS2, by simpa using hgB, hgD, hgA, unhide HKw2, rfl, by rw [SL.len_app, unhide HNP]; rfl⟩⟩
        case round =>
          obtain ⟨acc, rest2, j, m, xs2, yr, rfl, hjl, hgr⟩ := hrel
          obtain ⟨oo2, oc2, rfl⟩ := (rowAt_own hgr.own).form
          have HG := hide hgr
          have hmb : m ≤ 4294967294 := by have h1 := hgr.len; have h2 := congrArg SL.len hgr.all; rw [SL.len_app] at h2; have h3 := unhide HTOT; omega
          cases rest2 with
          | cons op2 f2 x2 t2 e2 rest2 =>
            simp only [SL.len] at hjl
            obtain ⟨xo2, xc2, to2, tc2, eo2, ec2, yr, rfl⟩ := hgr.left.cons_open
            obtain rfl := (unhide HGO) (by omega)
            have hmb1 : m + 1 ≤ 4294967294 := by have h1 := hgr.len; have h2 := congrArg SL.len hgr.all; rw [SL.len_app] at h2; simp only [SL.len] at h2; have h3 := unhide HTOT; omega
            have z0 := hgr.cells 0 _ rfl
            have z1 := hgr.cells 1 _ rfl
            have z2 := hgr.cells 2 _ rfl
            have z3 := hgr.cells 3 _ rfl
            have z4 := hgr.cells 4 _ rfl
            rw [Nat.add_zero] at z0
            have HNB := hide (heap_alloc_new wr (.cells #[.int .i64 op2, str f2, .slice xo2 x2.len xc2, .slice to2 t2.len tc2, .slice eo2 e2.len ec2] 53))
            have HOX := hide (ownsRow_kept hgr.own ((Keeps.refl (fun _ => False) wr).alloc (.cells #[.int .i64 op2, str f2, .slice xo2 x2.len xc2, .slice to2 t2.len tc2, .slice eo2 e2.len ec2] 53)) (fun _ _ => id))
            have HB0 : Hid (w.heap.size ≤ wr.heap.size) := hgr.kept.size
            have i1 : (j : Int) < (n2 : Int) := by omega
            have ix0 : (0 : Int) ≤ (j : Int) := by omega
            have HJL := hide hjl
            clear hgr hmb hjl
            go_wp2_with (at_builtin; refine wpList_append_lies _ rfl _ _ _ rfl w.heap.size 53 i0 _ 5 96 Tryz.underlying25 hi hz0 hz1 hz2 rfl (by omega) (.slice oo2 m oc2) m xs2 rfl (unhide HOX) ⟨wr.heap.size, 0, none⟩ 1 1 [.int .i64 op2, str f2, .slice xo2 x2.len xc2, .slice to2 t2.len tc2, .slice eo2 e2.len ec2] rfl rfl (World.news_of_block (cs := #[.int .i64 op2, str f2, .slice xo2 x2.len xc2, .slice to2 t2.len tc2, .slice eo2 e2.len ec2]) (t := 53) (fr := (0, 0)) (unhide HNB)) (by simp [Value.oneCell']) (by omega) (by unfold maxLen; omega) (by omega) (by have := unhide HB0; simp; omega) (wr.heap.size + 1) (by simp) ?_; intro g6 c6 w6 hown6 hgrow hat _; have HO6 := hide hown6; have HGR := hide hgrow; have HAT := hide hat; clear hown6 hgrow hat)
            go_roundw
            case rel => exact ⟨_, rest2, j + 1, _, _, _, by go_num, by have := unhide HJL; omega, (unhide HG).step (unhide HBB) (unhide HO6) (unhide HGR) (unhide HAT)⟩
            case measure => have := unhide HJL; simp [intOf]; omega
          | nil =>
            simp only [SL.len, Nat.add_zero] at hjl
            have i1 : ¬ (j : Int) < (n2 : Int) := by omega
            have hall := hgr.all
            rw [SL.app_nil] at hall
            subst hall
            clear hmb
            have hkf : Keeps (fun _ => False) w wr := hgr.kept.mono (fun q hq e => by have e' : w.heap.size ≤ q := e; omega)
            have qq := unhide HQX _ hkf
            have HOa := hide hgr.own
            have HSa := hide hgr.held
            have HKa := hide hgr.kept
            have HML := hide hgr.len
            have HKF := hide hkf
            clear hgr HG hjl hkf HGO HTOT
            go_wp2_with (go_at_call 25; refine (unhide HC _ (unhide HKF)).2.mono ?_; rintro e w4 ⟨ao4, ac4, n4, ys4, rfl, hn4, hown4, hss4, hk4⟩; have HN4 := hide hn4; have HO4 := hide (ownsRow_kept (unhide HOa) hk4 (fun _ _ => id)); have HS3 := hide ((unhide HSa).argKeep hk4 (fun _ h => h.elim)); have HS4 := hide hss4; have HKw4 := hide ((unhide HKa).trans hk4.any); have HRO := hide (row_open (b := b) (bl := unhide HBW) hown4 (unhide HOa) hk4 (unhide HKF).size); clear hown4 hss4 hk4 hn4)
            obtain ⟨g4, go4, hg4, hro4⟩ := unhide HRO
            have HGO := hide hg4
            have HRO4 := hide hro4
            have HTOT : Hid (((((flatS pre).app (.cons op f x t el .nil)).app (flatS t)).app (flatS el)).len ≤ 4294967294) := by show _ ≤ _; rw [SL.len_app, SL.len_app, SL.len_app, ← unhide HNP, ← unhide HN2, ← unhide HN4]; have := unhide HBD; have h2 := unhide HN2; have h4 := unhide HN4; simp only [SL.len]; omega
            have hnb4 : n4 ≤ 4294967294 := by have := unhide HBD; have h2 := unhide HN4; omega
            clear hg4 hro4 HRO HRO2
            go_loopw [3, 7] (fun o i wr => ∃ (acc rest2 : SL) (j m : Nat) (xs2 yr : List Value), i = .int .i64 j ∧ j + rest2.len = n4 ∧ Grow B w w acc ((((flatS pre).app (.cons op f x t el .nil)).app (flatS t)).app (flatS el)) g4 go4 o j m xs2 rest2 yr wr) (fun _ i _ => n4 - (intOf i).toNat)
            case atStart =>
              obtain ⟨hgA, hgB, hgC, hgD⟩ := unhide HRO4
              exact ⟨_, flatS el, 0, m, xs2, ys4, rfl, by rw [Nat.zero_add]; exact (unhide HN4).symm, ⟨unhide HO4, unhide HS3, unhide HS4, by simpa using hgB, hgD, hgA, unhide HKw4, rfl, unhide HML⟩⟩
            case round =>
              obtain ⟨acc, rest2, j, m, xs2, yr, rfl, hjl, hgr⟩ := hrel
              obtain ⟨oo2, oc2, rfl⟩ := (rowAt_own hgr.own).form
              have HG := hide hgr
              have hmb : m ≤ 4294967294 := by have h1 := hgr.len; have h2 := congrArg SL.len hgr.all; rw [SL.len_app] at h2; have h3 := unhide HTOT; omega
              cases rest2 with
              | cons op2 f2 x2 t2 e2 rest2 =>
                simp only [SL.len] at hjl
                obtain ⟨xo2, xc2, to2, tc2, eo2, ec2, yr, rfl⟩ := hgr.left.cons_open
                obtain rfl := (unhide HGO) (by omega)
                have hmb1 : m + 1 ≤ 4294967294 := by have h1 := hgr.len; have h2 := congrArg SL.len hgr.all; rw [SL.len_app] at h2; simp only [SL.len] at h2; have h3 := unhide HTOT; omega
                have z0 := hgr.cells 0 _ rfl
                have z1 := hgr.cells 1 _ rfl
                have z2 := hgr.cells 2 _ rfl
                have z3 := hgr.cells 3 _ rfl
                have z4 := hgr.cells 4 _ rfl
                rw [Nat.add_zero] at z0
                have HNB := hide (heap_alloc_new wr (.cells #[.int .i64 op2, str f2, .slice xo2 x2.len xc2, .slice to2 t2.len tc2, .slice eo2 e2.len ec2] 53))
                have HOX := hide (ownsRow_kept hgr.own ((Keeps.refl (fun _ => False) wr).alloc (.cells #[.int .i64 op2, str f2, .slice xo2 x2.len xc2, .slice to2 t2.len tc2, .slice eo2 e2.len ec2] 53)) (fun _ _ => id))
                have HB0 : Hid (w.heap.size ≤ wr.heap.size) := hgr.kept.size
                have i1 : (j : Int) < (n4 : Int) := by omega
                have ix0 : (0 : Int) ≤ (j : Int) := by omega
                have HJL := hide hjl
                clear hgr hmb hjl
                go_wp2_with (at_builtin; refine wpList_append_lies _ rfl _ _ _ rfl w.heap.size 53 i0 _ 5 96 Tryz.underlying25 hi hz0 hz1 hz2 rfl (by omega) (.slice oo2 m oc2) m xs2 rfl (unhide HOX) ⟨wr.heap.size, 0, none⟩ 1 1 [.int .i64 op2, str f2, .slice xo2 x2.len xc2, .slice to2 t2.len tc2, .slice eo2 e2.len ec2] rfl rfl (World.news_of_block (cs := #[.int .i64 op2, str f2, .slice xo2 x2.len xc2, .slice to2 t2.len tc2, .slice eo2 e2.len ec2]) (t := 53) (fr := (0, 0)) (unhide HNB)) (by simp [Value.oneCell']) (by omega) (by unfold maxLen; omega) (by omega) (by have := unhide HB0; simp; omega) (wr.heap.size + 1) (by simp) ?_; intro g6 c6 w6 hown6 hgrow hat _; have HO6 := hide hown6; have HGR := hide hgrow; have HAT := hide hat; clear hown6 hgrow hat)
                go_roundw
                case rel => exact ⟨_, rest2, j + 1, _, _, _, by go_num, by have := unhide HJL; omega, (unhide HG).step (unhide HBB) (unhide HO6) (unhide HGR) (unhide HAT)⟩
                case measure => have := unhide HJL; simp [intOf]; omega
              | nil =>
                simp only [SL.len, Nat.add_zero] at hjl
                have i1 : ¬ (j : Int) < (n4 : Int) := by omega
                have hall := hgr.all
                rw [SL.app_nil] at hall
                subst hall
                clear hmb
                have HOf := hide hgr.own
                have HSf := hide hgr.held
                have HKf := hide hgr.kept
                have HLf := hide hgr.len
                clear hgr HG hjl
                go_wp2_with fail
                go_roundw
                case rel =>
                  refine ⟨pre.app (.cons op f x t el .nil), rest, k + 1, m, _, by go_num, by rw [app_oneS]; exact unhide HAPP, by rw [SL.len_app, unhide HKP]; rfl, ?_, unhide HOf, ?_, (unhide HKf).mono (fun q hq e => by have e' : w.heap.size ≤ q := e; omega), ?_⟩
                  · rw [flat_snoc]; exact unhide HLf
                  · rw [flat_snoc]; exact unhide HSf
                  · rw [show off + (k + 1) * 5 = off + k * 5 + 5 by omega]
                    exact unhide HR
                case measure => simp [intOf]; omega
end Go.Proofs.YtoempeobaknkcaaGreatDoor
