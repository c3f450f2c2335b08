import Derived.Test.YtiinohibmcefkaaGreatDoorZzai
import Derived.Test.YtiinohibmcefkaaGreatDoorZzak
import Derived.Test.YtiinohibmcefkaaGreatDoorZzbq
namespace Go.Proofs.YtiinohibmcefkaaGreatDoor
open Go.RowKit Go.Maps

theorem app_oneS (pre : SL) (op : Int) (f : Txt) (x : EL) (t e rest : SL) : (pre.app (.cons op f x t e .nil)).app rest = pre.app (.cons op f x t e rest) := by rw [SL.app_assoc]; rfl
theorem flat_snoc (pre : SL) (op : Int) (f : Txt) (x : EL) (t e : SL) : flatS (pre.app (.cons op f x t e .nil)) = (((flatS pre).app (.cons op f x t e .nil)).app (flatS t)).app (flatS e) := by
  rw [flatS_app]
  simp only [flatS, SL.app_nil, SL.app_assoc, SL.app]
/-- What the list of a program's statements is. -/
def NPost (B : Nat) (l : SL) (w : World) (e : Ending) (w' : World) : Prop := ∃ (ao : Option Addr) (c n : Nat) (xs : List Value), e = .returned (.slice ao n c) ∧ n = (flatS l).len ∧ w'.ownsRow w.heap.size 39 5 (.slice ao n c) n xs ∧ SsIn (argZ B) w' (flatS l) xs ∧ Keeps (fun _ => False) w w'

set_option maxRecDepth 100000 in
set_option maxHeartbeats 8000000 in
theorem numbered_v (B : Nat) (N : Nat) : ∀ (l : SL), l.size < N → l.size ≤ 4294967294 → ∀ (w : World) (up : Nat) (v : Value), B ≤ w.heap.size → SlS (argZ B) w up v l → Calls Tryz.prog 45 #[v] w (NPost B l w) := by
  induction N with
  | zero => intro l h; omega
  | succ N ih =>
    intro l hsz hlen' w up v hB hS
    have hlen : l.len ≤ 4294967294 := by have := SL.len_le l; omega
    obtain ⟨ao, cap, b, off, rfl, hcap, ha, hx⟩ := hS.open
    obtain ⟨i0, hi, hz0, hz1, hz2⟩ := info_parts Tryz.info39
    have IH := hide ih
    have HX := hide hx
    have HA := hide ha
    clear hS ih hx ha
    go_enter Tryz.func45, Tryz.ntmps45
    go_wp2_with fail
    go_loopw [3, 8] (fun o i wr => ∃ (pre rest : SL) (k n : Nat) (xs : List Value), i = .int .i64 k ∧ l = pre.app rest ∧ k = pre.len ∧ n = (flatS pre).len ∧ wr.ownsRow w.heap.size 39 5 o n xs ∧ SsIn (argZ B) wr (flatS pre) xs ∧ Keeps (fun _ => False) w wr ∧ StIn (argZ B) w rest b (off + k * 5)) (fun _ i _ => l.len - (intOf i).toNat)
    case atStart => exact ⟨.nil, l, 0, 0, [], rfl, rfl, rfl, rfl, World.ownsRow_nil w w.heap.size 39 5, rfl, Keeps.refl _ _, by simpa using unhide HX⟩
    case round =>
      obtain ⟨pre, rest, k, n, xs, rfl, happ, hkp, hnp, hown, hss, hkeep, hr⟩ := hrel
      obtain ⟨oo, oc, rfl⟩ := (rowAt_own hown).form
      have hll := congrArg SL.len happ
      have hls := congrArg SL.size happ
      rw [SL.len_app] at hll
      rw [SL.size_app] at hls
      have hcp : n ≤ pre.size := by rw [hnp, flatS_len]; exact countS_le pre
      have HO := hide hown
      have HSS := hide hss
      have HK := hide hkeep
      have HAPP := hide happ
      have HNP := hide hnp
      cases rest with
      | nil =>
        rw [SL.app_nil] at happ
        subst happ
        simp only [SL.len, SL.size] at hll hls
        have i1 : ¬ (k : Int) < (l.len : Int) := by omega
        subst hkp
        clear hown hss hkeep hr hll hls HAPP hnp
        go_wp2_with fail
        go_ret
        exact ⟨oo, oc, n, xs, rfl, unhide HNP, unhide HO, unhide HSS, unhide HK⟩
      | cons op f x t el rest =>
        obtain ⟨h1, h2, h3, h4, ⟨xv, h5, hxs⟩, ⟨tao, tcap, h6, h7, h8⟩, ⟨eao, ecap, j6, j7, j8⟩, h9⟩ := hr
        simp only [SL.len, SL.size] at hll hls
        have hkl : k + (rest.len + 1) = l.len := by omega
        obtain ⟨xao, xcap, rfl, hxl⟩ := hxs.head
        have hct : (flatS t).len ≤ t.size := by rw [flatS_len]; exact countS_le t
        have hce : (flatS el).len ≤ el.size := by rw [flatS_len]; exact countS_le el
        have hbd : n + 1 + (flatS t).len + (flatS el).len ≤ 4294967294 := by omega
        have hst : t.size < N ∧ t.size ≤ 4294967294 ∧ el.size < N ∧ el.size ≤ 4294967294 := by omega
        have HBD := hide hbd
        have hn1 : n ≤ 4294967293 := by omega
        have HKP := hide hkp
        have HST := hide hst
        clear hll hls hkp hct hce hcp hnp hbd hst
        obtain ⟨rfl, hp⟩ := (unhide HA) (by omega)
        have HXS : Hid (SlE (argZ B) w b (.slice xao x.len xcap) x) := hxs
        have HTS : Hid (SlS (argZ B) w b (.slice tao t.len tcap) t) := ⟨tao, tcap, rfl, h7, h8⟩
        have HES : Hid (SlS (argZ B) w b (.slice eao el.len ecap) el) := ⟨eao, ecap, rfl, j7, j8⟩
        have HR := hide h9
        have i1 : (k : Int) < (l.len : Int) := by omega
        have ix0 : (0 : Int) ≤ (k : Int) := by omega
        have q0 := (hkeep.cell h1 id).trans h3
        have q1 := (hkeep.cell h1 id).trans h4
        have q2 := (hkeep.cell h1 id).trans h5
        have q3 := (hkeep.cell h1 id).trans h6
        have q4 := (hkeep.cell h1 id).trans j6
        have HB0 : Hid (w.heap.size ≤ wr.heap.size) := hkeep.size
        obtain ⟨HBk, hkbb, hkc⟩ := boxedT wr #[.int .i64 op, str f, .slice xao x.len xcap, .slice tao t.len tcap, .slice eao el.len ecap] 39
        have k0 := hkc 0 (.int .i64 op) rfl
        have k1 := hkc 1 (str f) rfl
        have k2 := hkc 2 (.slice xao x.len xcap) rfl
        have k3 := hkc 3 (.slice tao t.len tcap) rfl
        have k4 := hkc 4 (.slice eao el.len ecap) rfl
        have HBX := hide (heap_alloc_new wr (.cells #[.int .i64 op, str f, .slice xao x.len xcap, .slice tao t.len tcap, .slice eao el.len ecap] 39))
        have HNB := hide (heap_alloc_new (wr.alloc (.cells #[.int .i64 op, str f, .slice xao x.len xcap, .slice tao t.len tcap, .slice eao el.len ecap] 39)) (.cells #[.int .i64 op, str f, .slice xao x.len xcap, .slice tao t.len tcap, .slice eao el.len ecap] 39))
        rw [show (wr.alloc (.cells #[.int .i64 op, str f, .slice xao x.len xcap, .slice tao t.len tcap, .slice eao el.len ecap] 39)).heap.size = wr.heap.size + 1 by simp] at HNB
        have HK2 : Hid (Keeps (fun _ => False) wr ((wr.alloc (.cells #[.int .i64 op, str f, .slice xao x.len xcap, .slice tao t.len tcap, .slice eao el.len ecap] 39)).alloc (.cells #[.int .i64 op, str f, .slice xao x.len xcap, .slice tao t.len tcap, .slice eao el.len ecap] 39))) := ((Keeps.refl _ wr).alloc _).alloc _
        have HOX := hide (ownsRow_kept (unhide HO) (unhide HK2) (fun _ _ => id))
        have mk1 : True := trivial
        have HC := hide (fun (w' : World) (hk : Keeps (fun q => w.heap.size ≤ q) w w') => And.intro (unhide IH t (unhide HST).1 (unhide HST).2.1 w' b _ (Nat.le_trans hB hk.size) ((unhide HTS).argKeep hk (fun q h => Nat.le_trans hB h))) (unhide IH el (unhide HST).2.2.1 (unhide HST).2.2.2 w' b _ (Nat.le_trans hB hk.size) ((unhide HES).argKeep hk (fun q h => Nat.le_trans hB h))))
        have HBB := hide hB
        clear hown hss hkeep h2 h3 h4 h5 h6 h8 h9 j6 j8 happ hkc hxs hB
        go_wp2_with (first
          | (clear mk1; at_builtin; refine wpList_append_lies _ rfl _ _ _ rfl w.heap.size 39 i0 _ 5 96 Tryz.underlying28 hi hz0 hz1 hz2 rfl (by omega) (.slice oo n oc) n xs rfl (unhide HOX) ⟨wr.heap.size + 1, 0, none⟩ 1 1 [.int .i64 op, str f, .slice xao x.len xcap, .slice tao t.len tcap, .slice eao el.len ecap] rfl rfl (World.news_of_block (cs := #[.int .i64 op, str f, .slice xao x.len xcap, .slice tao t.len tcap, .slice eao el.len ecap]) (t := 39) (fr := (0, 0)) (unhide HNB)) (by simp [Value.oneCell']) (by omega) (by unfold maxLen; omega) (by omega) (by have := unhide HB0; simp; omega) (wr.heap.size + 2) (by simp) ?_; intro g1 c1 w1 hown1 hgrow1 hat1 _; have hgne : ¬ g1 = wr.heap.size := hat1.elim (fun h => by have := ((unhide HO).lt _ h).2; omega) (fun h => by omega); have HGNE := hide hgne; have hk1 : Keeps (fun q => (Value.slice oo n oc).ownBlock = some q) wr w1 := (unhide HK2).any.trans ((Keeps.refl _ _).grown hgrow1 (fun q e _ => e)); have hb1 : w1.heap[wr.heap.size]? = some (.cells #[.int .i64 op, str f, .slice xao x.len xcap, .slice tao t.len tcap, .slice eao el.len ecap] 39 (0, 0)) := (((Keeps.refl (fun q => (Value.slice oo n oc).ownBlock = some q) _).alloc _).grown hgrow1 (fun q e _ => e)).block wr.heap.size hkbb (fun e => by have := ((unhide HO).lt _ e).2; omega) |>.trans (unhide HBX); have r3 := cell_of_blk hb1 3; have r4 := cell_of_blk hb1 4; simp at r3 r4; have HO1 := hide hown1; have HK1 := hide ((unhide HK).any.then hk1 (fun q _ e => ((unhide HO).lt q e).1)); have HW1 := hide hk1; have HB1 := hide hb1; clear hown1 hgrow1 hk1 hb1 hat1 hgne; have mk2 : True := trivial)
          | (clear mk2; go_at_call 45; refine (unhide HC w1 (unhide HK1)).1.mono ?_; rintro e w2 ⟨vo2, vc2, n2, ys2, rfl, hn2, hown2, hss2, hk2⟩; have hb2 := (hk2.block _ (lt_of_block (unhide HB1)) id).trans (unhide HB1); have r4' := cell_of_blk hb2 4; simp at r4'; have HN2 := hide hn2; have hbn2 : n + 1 + n2 ≤ 4294967294 := (by have := unhide HBD; omega); have HO2 := hide (ownsRow_kept (unhide HO1) hk2 (fun _ _ => id)); have HR2 := hide (rowAt_own hown2); have HS2 := hide hss2; have HK22 := hide hk2; have HB2 := hide hb2; have HKw2 := hide ((unhide HK1).trans hk2.any); clear hown2 hss2 hk2 hb2 hn2; have mk3 : True := trivial)
          | (clear mk3; at_builtin; refine wpList_append_row rfl _ _ _ rfl w.heap.size 39 i0 _ 5 96 Tryz.underlying28 hi hz0 hz1 hz2 rfl (by omega) (.slice (some ⟨g1, 0, none⟩) (n + 1) c1) (n + 1) (xs ++ [.int .i64 op, str f, .slice xao x.len xcap, .slice tao t.len tcap, .slice eao el.len ecap]) rfl (unhide HO2) (.slice vo2 n2 vc2) n2 ys2 rfl (unhide HR2) (by rw [(unhide HS2).len, unhide HN2]) (unhide HS2).one (by unfold maxLen; omega) (by omega) ((unhide HKw2).size) (fun ty ao n c xc h => run_appendS_no _ ty ao n c xc h) ?_; intro v3 w3 hown3 hgrow3 _; obtain ⟨vo3, vc3, rfl⟩ := (rowAt_own hown3).form; have hk3 : Keeps (fun q => (Value.slice (some ⟨g1, 0, none⟩) (n + 1) c1).ownBlock = some q) w2 w3 := (Keeps.refl _ _).grown hgrow3 (fun q e _ => e); have hg1 := (unhide HO1).lt g1 rfl; have HK3 := hide ((unhide HKw2).then hk3 (fun q _ e => ((unhide HO2).lt q e).1)); have HKo3 := hide (hk3.mono (G := fun q => w.heap.size ≤ q) (fun q _ e => ((unhide HO2).lt q e).1)); have hne : ¬ (Value.slice (some ⟨g1, 0, none⟩) (n + 1) c1).ownBlock = some wr.heap.size := (fun e => unhide HGNE (by simpa [Value.ownBlock] using e)); have hb3 := (hk3.block _ (lt_of_block (unhide HB2)) hne).trans (unhide HB2); have t4 := cell_of_blk hb3 4; simp at t4; have HO3 := hide hown3; clear hown3 hgrow3 hk3 hb3; have mk4 : True := trivial)
          | (clear mk4; go_at_call 45; refine (unhide HC w3 (unhide HK3)).2.mono ?_; rintro e w4 ⟨vo4, vc4, n4, ys4, rfl, hn4, hown4, hss4, hk4⟩; have HN4 := hide hn4; have hbn4 : n + 1 + n2 + n4 ≤ 4294967294 := (by have := unhide HBD; have := unhide HN2; omega); have HO4 := hide (ownsRow_kept (unhide HO3) hk4 (fun _ _ => id)); have HR4 := hide (rowAt_own hown4); have HS4 := hide hss4; have HK44 := hide hk4; have HKw4 := hide ((unhide HK3).trans hk4.any); clear hown4 hss4 hk4 hn4; have mk5 : True := trivial)
          | (clear mk5; at_builtin; refine wpList_append_row rfl _ _ _ rfl w.heap.size 39 i0 _ 5 96 Tryz.underlying28 hi hz0 hz1 hz2 rfl (by omega) (.slice vo3 (n + 1 + n2) vc3) (n + 1 + n2) _ rfl (unhide HO4) (.slice vo4 n4 vc4) n4 ys4 rfl (unhide HR4) (by rw [(unhide HS4).len, unhide HN4]) (unhide HS4).one (by unfold maxLen; omega) (by omega) ((unhide HKw4).size) (fun ty ao n c xc h => run_appendS_no _ ty ao n c xc h) ?_; intro v5 w5 hown5 hgrow5 _; obtain ⟨vo5, vc5, rfl⟩ := (rowAt_own hown5).form; have hk5 : Keeps (fun q => w.heap.size ≤ q) w4 w5 := (Keeps.refl _ _).grown hgrow5 (fun q e _ => ((unhide HO4).lt q e).1); have HK5 := hide hk5; have HO5 := hide hown5; clear hown5 hgrow5 hk5))
        go_roundw
        case rel =>
          have hF : ∀ q, w.heap.size ≤ q → B ≤ q := fun q h => Nat.le_trans (unhide HBB) h
          have k35 : Keeps (fun q => w.heap.size ≤ q) w3 w5 := (unhide HK44).any.trans (unhide HK5)
          have k25 : Keeps (fun q => w.heap.size ≤ q) w2 w5 := (unhide HKo3).trans k35
          have k15 : Keeps (fun q => w.heap.size ≤ q) w1 w5 := (unhide HK22).any.trans k25
          have kr1 : Keeps (fun q => w.heap.size ≤ q) wr w1 := (unhide HW1).mono (fun q _ e => ((unhide HO).lt q e).1)
          have kr5 := kr1.trans k15
          have kw5 : Keeps (fun q => w.heap.size ≤ q) w w5 := (unhide HKw4).trans (unhide HK5)
          have s1 := (unhide HSS).argKeep kr5 hF
          have s2 : SsIn (argZ B) w5 (.cons op f x t el .nil) [.int .i64 op, str f, .slice xao x.len xcap, .slice tao t.len tcap, .slice eao el.len ecap] :=
            ⟨_, _, _, [], rfl, ((unhide HXS).argKeep kw5 hF).anyUp 0, ((unhide HTS).argKeep kw5 hF).anyUp 0, ((unhide HES).argKeep kw5 hF).anyUp 0, rfl⟩
          have s3 := (unhide HS2).argKeep k25 hF
          have s4 := (unhide HS4).argKeep (unhide HK5) hF
          refine ⟨pre.app (.cons op f x t el .nil), rest, k + 1, n + 1 + n2 + n4, _, by go_num, ?_, ?_, ?_, unhide HO5, ?_, kw5.mono (fun q hq e => by have e' : w.heap.size ≤ q := e; omega), ?_⟩
          · rw [app_oneS]; exact unhide HAPP
          · rw [SL.len_app, unhide HKP]; rfl
          · rw [flat_snoc, SL.len_app, SL.len_app, SL.len_app, ← unhide HNP, ← unhide HN2, ← unhide HN4]; rfl
          · rw [flat_snoc]; exact ((s1.app s2).app s3).app s4
          · rw [show off + (k + 1) * 5 = off + k * 5 + 5 by omega]
            exact unhide HR
        case measure => simp [intOf]; omega
end Go.Proofs.YtiinohibmcefkaaGreatDoor
namespace Go.Proofs.YtiinohibmcefkaaGreatDoor
open Go.RowKit Go.Maps

/-- What the first expression is. -/
def headK (S : List FieldA) : EL → KA × Int
  | .nil => (⟨0, false⟩, 0)
  | .cons op _ s kids _ => kindP S op s kids
/-- Why a statement by itself does not fit; 0: it does. -/
def ownP (S : List FieldA) (op : Int) (f : Txt) (x : EL) : Int :=
  if op = 1 then orL [(namedK S f).2, (headK S x).2, ofI (headK S x).1 [(namedK S f).1.t], if (headK S x).1.o = true ∧ (namedK S f).1.o = false then 92 else 0]
  else if op = 2 ∨ op = 3 ∨ op = 4 then orL [(namedK S f).2, (headK S x).2, ofI (namedK S f).1 [1], plainI (headK S x).1 [1]]
  else if op = 5 then orL [(namedK S f).2, optI (namedK S f).1]
  else if op = 8 then orL [(headK S x).2, plainI (headK S x).1 [2]]
  else 0

theorem isPlain_new (k : KA) (t : Int) (cur : World) (g : Nat) (hg : g = cur.heap.size) : Calls Tryz.prog 208 #[.agg #[.int .i64 k.t, .bool k.o], .slice (some ⟨g, 0, none⟩) 1 1] (cur.alloc (.cells #[.int .i64 t] 3)) fun e w' => e = .returned (.int .i64 (plainI k [t])) ∧ Keeps (fun _ => False) cur w' := by
  subst hg
  exact (isPlain_v k [t] _ _ (ints_new cur [t] 3 1 rfl) (by simp)).mono fun _ _ ⟨he, hk⟩ => ⟨he, ((Keeps.refl _ cur).alloc _).trans hk⟩
theorem or_two (a b : Int) (cur : World) (g : Nat) (hg : g = cur.heap.size) : Calls Tryz.prog 211 #[.slice (some ⟨g, 0, none⟩) 2 2] (cur.alloc (.cells #[.int .i64 a, .int .i64 b] 35)) fun e w' => e = .returned (.int .i64 (orL [a, b])) ∧ Keeps (fun _ => False) cur w' := by
  subst hg
  exact or_keep [a, b] 2 rfl (by simp) cur
theorem or_four (a b c d : Int) (cur : World) (g : Nat) (hg : g = cur.heap.size) : Calls Tryz.prog 211 #[.slice (some ⟨g, 0, none⟩) 4 4] (cur.alloc (.cells #[.int .i64 a, .int .i64 b, .int .i64 c, .int .i64 d] 35)) fun e w' => e = .returned (.int .i64 (orL [a, b, c, d])) ∧ Keeps (fun _ => False) cur w' := by
  subst hg
  exact or_keep [a, b, c, d] 4 rfl (by simp) cur

set_option maxRecDepth 100000 in
set_option maxHeartbeats 2000000 in
theorem clearF_v (j mb nn : Nat) (S : List FieldA) (hS : (S.map FieldA.name).Nodup) (op : Int) (f : Txt) (hl : f.length ≤ 1000) (xo to eo : Option Addr) (xn xc tn tc en ec : Nat) (w : World) (h : MapAt w j mb nn S) :
    Calls Tryz.prog 183 #[.pointer (some ⟨j, 0, none⟩), stV op f (.slice xo xn xc) (.slice to tn tc) (.slice eo en ec)] w fun e w' => e = .returned (.int .i64 (orL [(namedK S f).2, optI (namedK S f).1])) ∧ Keeps (fun _ => False) w w' := by
  obtain ⟨HB, hxb, hxc⟩ := boxedT w #[.int .i64 op, str f, .slice xo xn xc, .slice to tn tc, .slice eo en ec] 39
  have c1 := hxc 1 (str f) rfl
  have HN := hide (namedJ_v j mb nn S hS f hl _ (h.keepF (unhide HB)))
  obtain ⟨⟨⟨T, O⟩, E⟩, hp⟩ : ∃ p, p = namedK S f := ⟨_, rfl⟩
  rw [← hp] at HN ⊢
  clear hp h hxc
  go_enter Tryz.func183, Tryz.ntmps183
  go_wp2_with (first
    | (go_at_call 210; refine (unhide HN).mono ?_; rintro e w1 ⟨rfl, hk1⟩; obtain ⟨HK1, hb1, hc1⟩ := boxedT w1 #[.int .i64 T, .bool O] 113; have a0 := hc1 0 (.int .i64 T) rfl; have a1 := hc1 1 (.bool O) rfl; have HKa := hide (((unhide HB).trans hk1).trans (unhide HK1)); clear hc1 hk1)
    | (go_at_call 212; refine (isOptional_v ⟨T, O⟩ _).mono ?_; rintro e w2 ⟨rfl, hk2⟩; have HKa := hide ((unhide HKa).trans hk2); clear hk2)
    | (go_at_call 211; refine (or_two E (optI ⟨T, O⟩) _ _ (by simp)).mono ?_; rintro e w3 ⟨rfl, hk3⟩; have HKa := hide ((unhide HKa).trans hk3); clear hk3))
  go_ret
  exact ⟨rfl, unhide HKa⟩
set_option maxRecDepth 100000 in
theorem alwaysF_v (op : Int) (f : Txt) (xo to eo : Option Addr) (xn xc tn tc en ec : Nat) (w : World) :
    Calls Tryz.prog 184 #[stV op f (.slice xo xn xc) (.slice to tn tc) (.slice eo en ec)] w fun e w' => e = .returned (.int .i64 0) ∧ Keeps (fun _ => False) w w' := by
  have HK : Hid (Keeps (fun _ => False) w (w.alloc (.cells #[.int .i64 op, str f, .slice xo xn xc, .slice to tn tc, .slice eo en ec] 39))) := (Keeps.refl _ w).alloc _
  go_enter Tryz.func184, Tryz.ntmps184
  go_wp2_with fail
  go_ret
  exact ⟨rfl, unhide HK⟩

set_option maxRecDepth 100000 in
set_option maxHeartbeats 4000000 in
theorem chooseF_v (Z : Zone) (j mb nn tab : Nat) (S : List FieldA) (hS : (S.map FieldA.name).Nodup) (op : Int) (f : Txt) (o n : Int) (s : Txt) (kids : EL) (hsz : kids.size + 1 ≤ 4294967294) (xv : Value) (up : Nat) (to eo : Option Addr) (tn tc en ec : Nat) (w : World) (h : JudgeAt w j mb nn tab S)
    (hx : SlE Z w up xv (.cons o n s kids .nil)) (hr : rootB o n s kids.len = true) (hw : wellE kids = true) :
    Calls Tryz.prog 185 #[.pointer (some ⟨j, 0, none⟩), stV op f xv (.slice to tn tc) (.slice eo en ec)] w fun e w' => e = .returned (.int .i64 (orL [(kindP S o s kids).2, plainI (kindP S o s kids).1 [2]])) ∧ Keeps (fun _ => False) w w' := by
  obtain ⟨xo, xc, b, off, rfl, hcap, ha, hin⟩ := hx.open
  obtain ⟨rfl, _⟩ := ha (by simp [EL.len])
  obtain ⟨h1, h2, h3, h4, h5, ⟨kao, kcap, h6, h7, h8⟩, _⟩ := hin
  have hkid : SlE Z w b (.slice kao kids.len kcap) kids := ⟨kao, kcap, rfl, h7, h8⟩
  have hlen : (EL.cons o n s kids .nil).len = 1 := rfl
  rw [hlen] at hcap ⊢
  obtain ⟨HB, hxb, hxc⟩ := boxedT w #[.int .i64 op, str f, .slice (some ⟨b, off, none⟩) 1 xc, .slice to tn tc, .slice eo en ec] 39
  have c2 := hxc 2 (.slice (some ⟨b, off, none⟩) 1 xc) rfl
  have q0 := ((unhide HB).cell h1 id).trans h3
  have q1 := ((unhide HB).cell h1 id).trans h4
  have q2 := ((unhide HB).cell h1 id).trans h5
  have q3 := ((unhide HB).cell h1 id).trans h6
  have HE := hide (exprJ_v Z j mb nn tab S hS (kids.size + 1) kids (by omega) (by omega) o n s _ b (.slice kao kids.len kcap) (h.keepF (unhide HB)) (hkid.keepF (unhide HB)) hr hw)
  obtain ⟨⟨⟨T, O⟩, E⟩, hp⟩ : ∃ p, p = kindP S o s kids := ⟨_, rfl⟩
  rw [← hp] at HE ⊢
  clear hp h hxc hkid hx h2 h3 h4 h5 h6 h8 hr hw ha
  go_enter Tryz.func185, Tryz.ntmps185
  go_wp2_with (first
    | (go_at_call 72; refine (unhide HE).mono ?_; rintro e w1 ⟨rfl, hk1⟩; obtain ⟨HK1, hb1, hc1⟩ := boxedT w1 #[.int .i64 T, .bool O] 113; have a0 := hc1 0 (.int .i64 T) rfl; have a1 := hc1 1 (.bool O) rfl; have HKa := hide (((unhide HB).trans hk1).trans (unhide HK1)); clear hc1 hk1)
    | (go_at_call 208; refine (isPlain_new ⟨T, O⟩ 2 _ _ (by simp)).mono ?_; rintro e w2 ⟨rfl, hk2⟩; have HKa := hide ((unhide HKa).trans hk2); clear hk2)
    | (go_at_call 211; refine (or_two E (plainI ⟨T, O⟩ [2]) _ _ (by simp)).mono ?_; rintro e w3 ⟨rfl, hk3⟩; have HKa := hide ((unhide HKa).trans hk3); clear hk3))
  go_ret
  exact ⟨rfl, unhide HKa⟩
end Go.Proofs.YtiinohibmcefkaaGreatDoor
namespace Go.Proofs.YtiinohibmcefkaaGreatDoor
open Go.RowKit Go.Maps

/-- What a walk through a statement's rule has laid: all that was there stands, and in these blocks stands one number each. -/
structure Lay (w : World) (L : List (Nat × Int)) (cur : World) : Prop where
  kept : Keeps (fun _ => False) w cur
  one : ∀ p ∈ L, cur.heap[p.1]? = some (.cells #[.int .i64 p.2] 3 (0, 0))
theorem Lay.keep {w : World} {L : List (Nat × Int)} {cur w' : World} (h : Lay w L cur) (hk : Keeps (fun _ => False) cur w') : Lay w L w' :=
  ⟨h.kept.trans hk, fun p hp => (hk.block _ (lt_of_block (h.one p hp)) id).trans (h.one p hp)⟩
theorem Lay.drew {w : World} {L : List (Nat × Int)} {cur : World} (h : Lay w L cur) : Lay w L cur.drew := h.keep (Keeps.refl _ _).drew
theorem Lay.lay {w : World} {L : List (Nat × Int)} {cur : World} (h : Lay w L cur) (t : Int) : Lay w (L ++ [(cur.heap.size, t)]) (cur.alloc (.cells #[.int .i64 t] 3)) := by
  have h2 := h.keep ((Keeps.refl (fun _ => False) cur).alloc (.cells #[.int .i64 t] 3))
  refine ⟨h2.kept, fun p hp => ?_⟩
  rcases List.mem_append.1 hp with hp | hp
  · exact h2.one p hp
  · obtain rfl : p = (cur.heap.size, t) := by simpa using hp
    exact heap_alloc_new cur _
theorem Lay.num {w : World} {L : List (Nat × Int)} {cur : World} (h : Lay w L cur) {b : Nat} {t : Int} (hm : (b, t) ∈ L) : IntsAt cur (.slice (some ⟨b, 0, none⟩) 1 1) [t] := by
  have hb := h.one _ hm
  refine ⟨⟨_, _, rfl⟩, fun _ => ⟨b, 0, _, rfl, lt_of_block hb, fun j x hx => ?_⟩, fun ao m cap e => by simp at e; omega⟩
  rw [cell_of_blk hb]
  simpa [ints] using hx
theorem isPlain_lay (k : KA) {w : World} {L : List (Nat × Int)} {cur : World} (h : Lay w L cur) {b : Nat} {t : Int} (hm : (b, t) ∈ L) : Calls Tryz.prog 208 #[.agg #[.int .i64 k.t, .bool k.o], .slice (some ⟨b, 0, none⟩) 1 1] cur fun e w' => e = .returned (.int .i64 (plainI k [t])) ∧ Lay w L w' :=
  (isPlain_v k [t] _ cur (h.num hm) (by simp)).mono fun _ _ ⟨he, hk⟩ => ⟨he, h.keep hk⟩
theorem isOf_lay (k : KA) {w : World} {L : List (Nat × Int)} {cur : World} (h : Lay w L cur) {b : Nat} {t : Int} (hm : (b, t) ∈ L) : Calls Tryz.prog 214 #[.agg #[.int .i64 k.t, .bool k.o], .slice (some ⟨b, 0, none⟩) 1 1] cur fun e w' => e = .returned (.int .i64 (ofI k [t])) ∧ Lay w L w' :=
  (isOf_v k [t] _ cur (h.num hm) (by simp)).mono fun _ _ ⟨he, hk⟩ => ⟨he, h.keep hk⟩
theorem unless_lay (r : Bool) (x : Int) {w : World} {L : List (Nat × Int)} {cur : World} (h : Lay w L cur) : Calls Tryz.prog 215 #[.bool r, .int .i64 x] cur fun e w' => e = .returned (.int .i64 (unlessI r x)) ∧ Lay w L w' :=
  (unless_v r x cur).mono fun _ _ ⟨he, hw⟩ => ⟨he, by subst hw; exact h⟩
theorem or_lay (a b c d : Int) {w : World} {L : List (Nat × Int)} {cur : World} (h : Lay w L cur) : Calls Tryz.prog 211 #[.slice (some ⟨cur.heap.size, 0, none⟩) 4 4] (cur.alloc (.cells #[.int .i64 a, .int .i64 b, .int .i64 c, .int .i64 d] 35)) fun e w' => e = .returned (.int .i64 (orL [a, b, c, d])) ∧ Lay w L w' :=
  (or_four a b c d cur _ rfl).mono fun _ _ ⟨he, hk⟩ => ⟨he, h.keep hk⟩

set_option maxRecDepth 100000 in
set_option maxHeartbeats 8000000 in
theorem changeF_v (Z : Zone) (j mb nn tab : Nat) (S : List FieldA) (hS : (S.map FieldA.name).Nodup) (op : Int) (f : Txt) (hl : f.length ≤ 1000) (o n : Int) (s : Txt) (kids : EL) (hsz : kids.size + 1 ≤ 4294967294) (xv : Value) (up : Nat) (to eo : Option Addr) (tn tc en ec : Nat) (w : World) (h : JudgeAt w j mb nn tab S)
    (hx : SlE Z w up xv (.cons o n s kids .nil)) (hr : rootB o n s kids.len = true) (hw : wellE kids = true) :
    Calls Tryz.prog 182 #[.pointer (some ⟨j, 0, none⟩), stV op f xv (.slice to tn tc) (.slice eo en ec)] w fun e w' => e = .returned (.int .i64 (orL [(namedK S f).2, (kindP S o s kids).2, ofI (namedK S f).1 [1], plainI (kindP S o s kids).1 [1]])) ∧ Keeps (fun _ => False) w w' := by
  obtain ⟨xo, xc, b, off, rfl, hcap, ha, hin⟩ := hx.open
  obtain ⟨rfl, _⟩ := ha (by simp [EL.len])
  obtain ⟨h1, h2, h3, h4, h5, ⟨kao, kcap, h6, h7, h8⟩, _⟩ := hin
  have hkid : SlE Z w b (.slice kao kids.len kcap) kids := ⟨kao, kcap, rfl, h7, h8⟩
  have hlen : (EL.cons o n s kids .nil).len = 1 := rfl
  rw [hlen] at hcap ⊢
  obtain ⟨HB, hxb, hxc⟩ := boxedT w #[.int .i64 op, str f, .slice (some ⟨b, off, none⟩) 1 xc, .slice to tn tc, .slice eo en ec] 39
  have c1 := hxc 1 (str f) rfl
  have SB : ∀ w', Keeps (fun _ => False) (w.alloc (.cells #[.int .i64 op, str f, .slice (some ⟨b, off, none⟩) 1 xc, .slice to tn tc, .slice eo en ec] 39)) w' → w'.cell? ⟨w.heap.size, 2, none⟩ = some (.slice (some ⟨b, off, none⟩) 1 xc) ∧ w'.cell? ⟨b, off, none⟩ = some (.int .i64 o) ∧ w'.cell? ⟨b, off + 1, none⟩ = some (.int .i64 n) ∧ w'.cell? ⟨b, off + 2, none⟩ = some (str s) ∧ w'.cell? ⟨b, off + 3, none⟩ = some (.slice kao kids.len kcap) := fun w' hk =>
    ⟨(hk.cell hxb id).trans (hxc 2 _ rfl), (((unhide HB).trans hk).cell h1 id).trans h3, (((unhide HB).trans hk).cell h1 id).trans h4, (((unhide HB).trans hk).cell h1 id).trans h5, (((unhide HB).trans hk).cell h1 id).trans h6⟩
  have HSB := hide SB
  have HN := hide (namedJ_v j mb nn S hS f hl _ (h.map.keepF (unhide HB)))
  have HE := fun w' (hk : Keeps (fun _ => False) w w') => hide (exprJ_v Z j mb nn tab S hS (kids.size + 1) kids (by omega) (by omega) o n s w' b (.slice kao kids.len kcap) (h.keepF hk) (hkid.keepF hk) hr hw)
  obtain ⟨⟨⟨T, O⟩, E⟩, hp⟩ : ∃ p, p = namedK S f := ⟨_, rfl⟩
  obtain ⟨⟨⟨T2, O2⟩, E2⟩, hp2⟩ : ∃ p, p = kindP S o s kids := ⟨_, rfl⟩
  rw [← hp] at HN ⊢
  rw [← hp2] at HE ⊢
  clear hp hp2 h hxc hkid hx h2 h3 h4 h5 h6 h8 hr hw ha SB
  go_enter Tryz.func182, Tryz.ntmps182
  go_wp2_with (first
    | (go_at_call 210; refine (unhide HN).mono ?_; rintro e w1 ⟨rfl, hk1⟩; have hka := hk1.alloc (.cells #[.int .i64 T, .bool O] 113); have d1 := unhide HSB _ hka; have HBA := hide (heap_alloc_new w1 (.cells #[.int .i64 T, .bool O] 113)); have HK1 := hide ((unhide HB).trans hka); clear hk1 hka)
    | (go_at_call 72; refine (unhide (HE _ (unhide HK1))).mono ?_; rintro e w2 ⟨rfl, hk2⟩; have hkb := hk2.alloc (.cells #[.int .i64 T2, .bool O2] 113); have HBA2 := hide ((hkb.block _ (lt_of_block (unhide HBA)) id).trans (unhide HBA)); have HBB := hide (heap_alloc_new w2 (.cells #[.int .i64 T2, .bool O2] 113)); have HK2 := hide ((unhide HK1).trans hkb); clear hk2 hkb))
  have hA := unhide HBA2
  have hB := unhide HBB
  have SK : ∀ w', Keeps (fun _ => False) (w2.alloc (.cells #[.int .i64 T2, .bool O2] 113)) w' → w'.cell? ⟨w1.heap.size, 0, none⟩ = some (.int .i64 T) ∧ w'.cell? ⟨w1.heap.size, 1, none⟩ = some (.bool O) ∧ w'.cell? ⟨w2.heap.size, 0, none⟩ = some (.int .i64 T2) ∧ w'.cell? ⟨w2.heap.size, 1, none⟩ = some (.bool O2) := fun w' hk => by
    have k0 := (hk.block _ (lt_of_block hA) id).trans hA
    have k1 := (hk.block _ (lt_of_block hB) id).trans hB
    exact ⟨by rw [cell_of_blk k0]; rfl, by rw [cell_of_blk k0]; rfl, by rw [cell_of_blk k1]; rfl, by rw [cell_of_blk k1]; rfl⟩
  have HSK := hide SK
  have HL : Hid (Lay (w2.alloc (.cells #[.int .i64 T2, .bool O2] 113)) [] (w2.alloc (.cells #[.int .i64 T2, .bool O2] 113))) := ⟨Keeps.refl _ _, fun p hp => by simp at hp⟩
  clear hA hB SK HBA HBA2 HBB d1 HE HN HSB
  go_region_held3 (fun w' => w'.cell? ⟨w1.heap.size, 0, none⟩ = some (.int .i64 T) ∧ w'.cell? ⟨w1.heap.size, 1, none⟩ = some (.bool O) ∧ w'.cell? ⟨w2.heap.size, 0, none⟩ = some (.int .i64 T2) ∧ w'.cell? ⟨w2.heap.size, 1, none⟩ = some (.bool O2))
    (first | with_reducible exact unhide HSK _ (unhide HL).kept | with_reducible exact unhide HSK _ ((unhide HL).lay _).kept | with_reducible exact unhide HSK _ (((unhide HL).lay _).lay _).kept | with_reducible exact unhide HSK _ (unhide HL).kept.drew | with_reducible exact unhide HSK _ ((unhide HL).lay _).kept.drew | with_reducible exact unhide HSK _ (((unhide HL).lay _).lay _).kept.drew | with_reducible exact unhide HSK _ ((unhide HL).kept.alloc _) | with_reducible exact unhide HSK _ ((unhide HL).drew.lay _).kept | with_reducible exact unhide HSK _ (((unhide HL).drew.lay _).lay _).kept)
    ((first
    | (go_at_call 214; refine (isOf_lay ⟨T, O⟩ (by first | with_reducible exact unhide HL | with_reducible exact (unhide HL).lay _ | with_reducible exact ((unhide HL).lay _).lay _ | with_reducible exact (unhide HL).drew.lay _ | with_reducible exact ((unhide HL).drew.lay _).lay _ | with_reducible exact ((unhide HL).lay _).drew | with_reducible exact (((unhide HL).lay _).lay _).drew) (t := 1) (by simp)).mono ?_; rintro e w3 ⟨rfl, hl1⟩; have HL := hide hl1; clear hl1)
    | (go_at_call 208; refine (isPlain_lay ⟨T2, O2⟩ (by first | with_reducible exact unhide HL | with_reducible exact (unhide HL).lay _ | with_reducible exact ((unhide HL).lay _).lay _ | with_reducible exact (unhide HL).drew.lay _ | with_reducible exact ((unhide HL).drew.lay _).lay _ | with_reducible exact ((unhide HL).lay _).drew | with_reducible exact (((unhide HL).lay _).lay _).drew) (t := 1) (by simp)).mono ?_; rintro e w3 ⟨rfl, hl1⟩; have HL := hide hl1; clear hl1)
    | (go_at_call 211; refine (or_lay E E2 (ofI ⟨T, O⟩ [1]) (plainI ⟨T2, O2⟩ [1]) (unhide HL)).mono ?_; rintro e w3 ⟨rfl, hl1⟩; have HL := hide hl1; clear hl1)))
  all_goals go_wp2_with fail
  all_goals (go_ret; exact ⟨rfl, (unhide HK2).trans (unhide HL).kept⟩)
end Go.Proofs.YtiinohibmcefkaaGreatDoor
namespace Go.Proofs.YtiinohibmcefkaaGreatDoor
open Go.RowKit Go.Maps

theorem StmtsAt.keepF {w w' : World} {j : Nat} (h : StmtsAt w j) (hj : j < w.heap.size) (hk : Keeps (fun _ => False) w w') : StmtsAt w' j := by
  obtain ⟨t2, h1, h2⟩ := h
  exact ⟨t2, (hk.cell hj id).trans h1, (hk.block _ (lt_of_block h2) id).trans h2⟩

set_option maxRecDepth 100000 in
set_option maxHeartbeats 2000000 in
theorem stmtJ1 (j : Nat) (f : Txt) (xv tv ev : Value) (hv : ∃ xo xn xc to tn tc eo en ec, xv = .slice xo xn xc ∧ tv = .slice to tn tc ∧ ev = .slice eo en ec) (R : Int) (w : World) (hj : j < w.heap.size) (h : StmtsAt w j)
    (hC : ∀ w', Keeps (fun _ => False) w w' → Calls Tryz.prog 181 #[.pointer (some ⟨j, 0, none⟩), stV 1 f xv tv ev] w' fun e w'' => e = .returned (.int .i64 R) ∧ Keeps (fun _ => False) w' w'') :
    Calls Tryz.prog 84 #[.pointer (some ⟨j, 0, none⟩), stV 1 f xv tv ev] w fun e w' => e = .returned (.int .i64 R) ∧ Keeps (fun _ => False) w w' := by
  obtain ⟨xo, xn, xc, to, tn, tc, eo, en, ec, rfl, rfl, rfl⟩ := hv
  obtain ⟨t2, h1, h2⟩ := h
  obtain ⟨HB, hxb, hxc⟩ := boxedT w #[.int .i64 1, str f, .slice xo xn xc, .slice to tn tc, .slice eo en ec] 39
  have ht := lt_of_block h2
  have e0 : ∀ m : KW (w.alloc (.cells #[.int .i64 1, str f, .slice xo xn xc, .slice to tn tc, .slice eo en ec] 39)), m.wd.cell? ⟨j, 2, none⟩ = some (.slice (some ⟨t2, 0, none⟩) 9 9) := fun m => (((unhide HB).trans m.kept).cell hj id).trans h1
  have e1 : ∀ m : KW (w.alloc (.cells #[.int .i64 1, str f, .slice xo xn xc, .slice to tn tc, .slice eo en ec] 39)), m.wd.cell? ⟨t2, 1, none⟩ = some (.func (.func 181) #[.pointer (some ⟨j, 0, none⟩)] #[]) := fun m => (((unhide HB).trans m.kept).cell ht id).trans (by rw [cell_of_blk h2]; rfl)
  have f0 : ∀ m : KW (w.alloc (.cells #[.int .i64 1, str f, .slice xo xn xc, .slice to tn tc, .slice eo en ec] 39)), m.wd.cell? ⟨w.heap.size, 0, none⟩ = some (.int .i64 1) := fun m => (m.kept.cell hxb id).trans (hxc 0 _ rfl)
  have f1 : ∀ m : KW (w.alloc (.cells #[.int .i64 1, str f, .slice xo xn xc, .slice to tn tc, .slice eo en ec] 39)), m.wd.cell? ⟨w.heap.size, 1, none⟩ = some (str f) := fun m => (m.kept.cell hxb id).trans (hxc 1 _ rfl)
  have f2 : ∀ m : KW (w.alloc (.cells #[.int .i64 1, str f, .slice xo xn xc, .slice to tn tc, .slice eo en ec] 39)), m.wd.cell? ⟨w.heap.size, 2, none⟩ = some (.slice xo xn xc) := fun m => (m.kept.cell hxb id).trans (hxc 2 _ rfl)
  have f3 : ∀ m : KW (w.alloc (.cells #[.int .i64 1, str f, .slice xo xn xc, .slice to tn tc, .slice eo en ec] 39)), m.wd.cell? ⟨w.heap.size, 3, none⟩ = some (.slice to tn tc) := fun m => (m.kept.cell hxb id).trans (hxc 3 _ rfl)
  have f4 : ∀ m : KW (w.alloc (.cells #[.int .i64 1, str f, .slice xo xn xc, .slice to tn tc, .slice eo en ec] 39)), m.wd.cell? ⟨w.heap.size, 4, none⟩ = some (.slice eo en ec) := fun m => (m.kept.cell hxb id).trans (hxc 4 _ rfl)
  have HE := hide (fun (m : KW (w.alloc (.cells #[.int .i64 1, str f, .slice xo xn xc, .slice to tn tc, .slice eo en ec] 39))) => kw_of m (hC m.wd ((unhide HB).trans m.kept)))
  clear hC hxc h1 h2
  go_enter Tryz.func84, Tryz.ntmps84
  go_wp2_with fail
  refine region_kept (by kernel_rfl) (by kernel_rfl) ?_
  repeat (go_big_quiet_step ((go_at_call 181; exact unhide HE _)))
  refine wpQuiet_nil ?_
  rintro _ ⟨nq, rfl⟩
  have HK1 := hide nq.kept
  go_wp2_with fail
  go_ret
  exact ⟨rfl, (unhide HB).trans (unhide HK1)⟩

set_option maxRecDepth 100000 in
set_option maxHeartbeats 2000000 in
theorem stmtJ2 (j : Nat) (f : Txt) (xv tv ev : Value) (hv : ∃ xo xn xc to tn tc eo en ec, xv = .slice xo xn xc ∧ tv = .slice to tn tc ∧ ev = .slice eo en ec) (R : Int) (w : World) (hj : j < w.heap.size) (h : StmtsAt w j)
    (hC : ∀ w', Keeps (fun _ => False) w w' → Calls Tryz.prog 182 #[.pointer (some ⟨j, 0, none⟩), stV 2 f xv tv ev] w' fun e w'' => e = .returned (.int .i64 R) ∧ Keeps (fun _ => False) w' w'') :
    Calls Tryz.prog 84 #[.pointer (some ⟨j, 0, none⟩), stV 2 f xv tv ev] w fun e w' => e = .returned (.int .i64 R) ∧ Keeps (fun _ => False) w w' := by
  obtain ⟨xo, xn, xc, to, tn, tc, eo, en, ec, rfl, rfl, rfl⟩ := hv
  obtain ⟨t2, h1, h2⟩ := h
  obtain ⟨HB, hxb, hxc⟩ := boxedT w #[.int .i64 2, str f, .slice xo xn xc, .slice to tn tc, .slice eo en ec] 39
  have ht := lt_of_block h2
  have e0 : ∀ m : KW (w.alloc (.cells #[.int .i64 2, str f, .slice xo xn xc, .slice to tn tc, .slice eo en ec] 39)), m.wd.cell? ⟨j, 2, none⟩ = some (.slice (some ⟨t2, 0, none⟩) 9 9) := fun m => (((unhide HB).trans m.kept).cell hj id).trans h1
  have e1 : ∀ m : KW (w.alloc (.cells #[.int .i64 2, str f, .slice xo xn xc, .slice to tn tc, .slice eo en ec] 39)), m.wd.cell? ⟨t2, 2, none⟩ = some (.func (.func 182) #[.pointer (some ⟨j, 0, none⟩)] #[]) := fun m => (((unhide HB).trans m.kept).cell ht id).trans (by rw [cell_of_blk h2]; rfl)
  have f0 : ∀ m : KW (w.alloc (.cells #[.int .i64 2, str f, .slice xo xn xc, .slice to tn tc, .slice eo en ec] 39)), m.wd.cell? ⟨w.heap.size, 0, none⟩ = some (.int .i64 2) := fun m => (m.kept.cell hxb id).trans (hxc 0 _ rfl)
  have f1 : ∀ m : KW (w.alloc (.cells #[.int .i64 2, str f, .slice xo xn xc, .slice to tn tc, .slice eo en ec] 39)), m.wd.cell? ⟨w.heap.size, 1, none⟩ = some (str f) := fun m => (m.kept.cell hxb id).trans (hxc 1 _ rfl)
  have f2 : ∀ m : KW (w.alloc (.cells #[.int .i64 2, str f, .slice xo xn xc, .slice to tn tc, .slice eo en ec] 39)), m.wd.cell? ⟨w.heap.size, 2, none⟩ = some (.slice xo xn xc) := fun m => (m.kept.cell hxb id).trans (hxc 2 _ rfl)
  have f3 : ∀ m : KW (w.alloc (.cells #[.int .i64 2, str f, .slice xo xn xc, .slice to tn tc, .slice eo en ec] 39)), m.wd.cell? ⟨w.heap.size, 3, none⟩ = some (.slice to tn tc) := fun m => (m.kept.cell hxb id).trans (hxc 3 _ rfl)
  have f4 : ∀ m : KW (w.alloc (.cells #[.int .i64 2, str f, .slice xo xn xc, .slice to tn tc, .slice eo en ec] 39)), m.wd.cell? ⟨w.heap.size, 4, none⟩ = some (.slice eo en ec) := fun m => (m.kept.cell hxb id).trans (hxc 4 _ rfl)
  have HE := hide (fun (m : KW (w.alloc (.cells #[.int .i64 2, str f, .slice xo xn xc, .slice to tn tc, .slice eo en ec] 39))) => kw_of m (hC m.wd ((unhide HB).trans m.kept)))
  clear hC hxc h1 h2
  go_enter Tryz.func84, Tryz.ntmps84
  go_wp2_with fail
  refine region_kept (by kernel_rfl) (by kernel_rfl) ?_
  repeat (go_big_quiet_step ((go_at_call 182; exact unhide HE _)))
  refine wpQuiet_nil ?_
  rintro _ ⟨nq, rfl⟩
  have HK1 := hide nq.kept
  go_wp2_with fail
  go_ret
  exact ⟨rfl, (unhide HB).trans (unhide HK1)⟩

set_option maxRecDepth 100000 in
set_option maxHeartbeats 2000000 in
theorem stmtJ3 (j : Nat) (f : Txt) (xv tv ev : Value) (hv : ∃ xo xn xc to tn tc eo en ec, xv = .slice xo xn xc ∧ tv = .slice to tn tc ∧ ev = .slice eo en ec) (R : Int) (w : World) (hj : j < w.heap.size) (h : StmtsAt w j)
    (hC : ∀ w', Keeps (fun _ => False) w w' → Calls Tryz.prog 182 #[.pointer (some ⟨j, 0, none⟩), stV 3 f xv tv ev] w' fun e w'' => e = .returned (.int .i64 R) ∧ Keeps (fun _ => False) w' w'') :
    Calls Tryz.prog 84 #[.pointer (some ⟨j, 0, none⟩), stV 3 f xv tv ev] w fun e w' => e = .returned (.int .i64 R) ∧ Keeps (fun _ => False) w w' := by
  obtain ⟨xo, xn, xc, to, tn, tc, eo, en, ec, rfl, rfl, rfl⟩ := hv
  obtain ⟨t2, h1, h2⟩ := h
  obtain ⟨HB, hxb, hxc⟩ := boxedT w #[.int .i64 3, str f, .slice xo xn xc, .slice to tn tc, .slice eo en ec] 39
  have ht := lt_of_block h2
  have e0 : ∀ m : KW (w.alloc (.cells #[.int .i64 3, str f, .slice xo xn xc, .slice to tn tc, .slice eo en ec] 39)), m.wd.cell? ⟨j, 2, none⟩ = some (.slice (some ⟨t2, 0, none⟩) 9 9) := fun m => (((unhide HB).trans m.kept).cell hj id).trans h1
  have e1 : ∀ m : KW (w.alloc (.cells #[.int .i64 3, str f, .slice xo xn xc, .slice to tn tc, .slice eo en ec] 39)), m.wd.cell? ⟨t2, 3, none⟩ = some (.func (.func 182) #[.pointer (some ⟨j, 0, none⟩)] #[]) := fun m => (((unhide HB).trans m.kept).cell ht id).trans (by rw [cell_of_blk h2]; rfl)
  have f0 : ∀ m : KW (w.alloc (.cells #[.int .i64 3, str f, .slice xo xn xc, .slice to tn tc, .slice eo en ec] 39)), m.wd.cell? ⟨w.heap.size, 0, none⟩ = some (.int .i64 3) := fun m => (m.kept.cell hxb id).trans (hxc 0 _ rfl)
  have f1 : ∀ m : KW (w.alloc (.cells #[.int .i64 3, str f, .slice xo xn xc, .slice to tn tc, .slice eo en ec] 39)), m.wd.cell? ⟨w.heap.size, 1, none⟩ = some (str f) := fun m => (m.kept.cell hxb id).trans (hxc 1 _ rfl)
  have f2 : ∀ m : KW (w.alloc (.cells #[.int .i64 3, str f, .slice xo xn xc, .slice to tn tc, .slice eo en ec] 39)), m.wd.cell? ⟨w.heap.size, 2, none⟩ = some (.slice xo xn xc) := fun m => (m.kept.cell hxb id).trans (hxc 2 _ rfl)
  have f3 : ∀ m : KW (w.alloc (.cells #[.int .i64 3, str f, .slice xo xn xc, .slice to tn tc, .slice eo en ec] 39)), m.wd.cell? ⟨w.heap.size, 3, none⟩ = some (.slice to tn tc) := fun m => (m.kept.cell hxb id).trans (hxc 3 _ rfl)
  have f4 : ∀ m : KW (w.alloc (.cells #[.int .i64 3, str f, .slice xo xn xc, .slice to tn tc, .slice eo en ec] 39)), m.wd.cell? ⟨w.heap.size, 4, none⟩ = some (.slice eo en ec) := fun m => (m.kept.cell hxb id).trans (hxc 4 _ rfl)
  have HE := hide (fun (m : KW (w.alloc (.cells #[.int .i64 3, str f, .slice xo xn xc, .slice to tn tc, .slice eo en ec] 39))) => kw_of m (hC m.wd ((unhide HB).trans m.kept)))
  clear hC hxc h1 h2
  go_enter Tryz.func84, Tryz.ntmps84
  go_wp2_with fail
  refine region_kept (by kernel_rfl) (by kernel_rfl) ?_
  repeat (go_big_quiet_step ((go_at_call 182; exact unhide HE _)))
  refine wpQuiet_nil ?_
  rintro _ ⟨nq, rfl⟩
  have HK1 := hide nq.kept
  go_wp2_with fail
  go_ret
  exact ⟨rfl, (unhide HB).trans (unhide HK1)⟩

set_option maxRecDepth 100000 in
set_option maxHeartbeats 2000000 in
theorem stmtJ4 (j : Nat) (f : Txt) (xv tv ev : Value) (hv : ∃ xo xn xc to tn tc eo en ec, xv = .slice xo xn xc ∧ tv = .slice to tn tc ∧ ev = .slice eo en ec) (R : Int) (w : World) (hj : j < w.heap.size) (h : StmtsAt w j)
    (hC : ∀ w', Keeps (fun _ => False) w w' → Calls Tryz.prog 182 #[.pointer (some ⟨j, 0, none⟩), stV 4 f xv tv ev] w' fun e w'' => e = .returned (.int .i64 R) ∧ Keeps (fun _ => False) w' w'') :
    Calls Tryz.prog 84 #[.pointer (some ⟨j, 0, none⟩), stV 4 f xv tv ev] w fun e w' => e = .returned (.int .i64 R) ∧ Keeps (fun _ => False) w w' := by
  obtain ⟨xo, xn, xc, to, tn, tc, eo, en, ec, rfl, rfl, rfl⟩ := hv
  obtain ⟨t2, h1, h2⟩ := h
  obtain ⟨HB, hxb, hxc⟩ := boxedT w #[.int .i64 4, str f, .slice xo xn xc, .slice to tn tc, .slice eo en ec] 39
  have ht := lt_of_block h2
  have e0 : ∀ m : KW (w.alloc (.cells #[.int .i64 4, str f, .slice xo xn xc, .slice to tn tc, .slice eo en ec] 39)), m.wd.cell? ⟨j, 2, none⟩ = some (.slice (some ⟨t2, 0, none⟩) 9 9) := fun m => (((unhide HB).trans m.kept).cell hj id).trans h1
  have e1 : ∀ m : KW (w.alloc (.cells #[.int .i64 4, str f, .slice xo xn xc, .slice to tn tc, .slice eo en ec] 39)), m.wd.cell? ⟨t2, 4, none⟩ = some (.func (.func 182) #[.pointer (some ⟨j, 0, none⟩)] #[]) := fun m => (((unhide HB).trans m.kept).cell ht id).trans (by rw [cell_of_blk h2]; rfl)
  have f0 : ∀ m : KW (w.alloc (.cells #[.int .i64 4, str f, .slice xo xn xc, .slice to tn tc, .slice eo en ec] 39)), m.wd.cell? ⟨w.heap.size, 0, none⟩ = some (.int .i64 4) := fun m => (m.kept.cell hxb id).trans (hxc 0 _ rfl)
  have f1 : ∀ m : KW (w.alloc (.cells #[.int .i64 4, str f, .slice xo xn xc, .slice to tn tc, .slice eo en ec] 39)), m.wd.cell? ⟨w.heap.size, 1, none⟩ = some (str f) := fun m => (m.kept.cell hxb id).trans (hxc 1 _ rfl)
  have f2 : ∀ m : KW (w.alloc (.cells #[.int .i64 4, str f, .slice xo xn xc, .slice to tn tc, .slice eo en ec] 39)), m.wd.cell? ⟨w.heap.size, 2, none⟩ = some (.slice xo xn xc) := fun m => (m.kept.cell hxb id).trans (hxc 2 _ rfl)
  have f3 : ∀ m : KW (w.alloc (.cells #[.int .i64 4, str f, .slice xo xn xc, .slice to tn tc, .slice eo en ec] 39)), m.wd.cell? ⟨w.heap.size, 3, none⟩ = some (.slice to tn tc) := fun m => (m.kept.cell hxb id).trans (hxc 3 _ rfl)
  have f4 : ∀ m : KW (w.alloc (.cells #[.int .i64 4, str f, .slice xo xn xc, .slice to tn tc, .slice eo en ec] 39)), m.wd.cell? ⟨w.heap.size, 4, none⟩ = some (.slice eo en ec) := fun m => (m.kept.cell hxb id).trans (hxc 4 _ rfl)
  have HE := hide (fun (m : KW (w.alloc (.cells #[.int .i64 4, str f, .slice xo xn xc, .slice to tn tc, .slice eo en ec] 39))) => kw_of m (hC m.wd ((unhide HB).trans m.kept)))
  clear hC hxc h1 h2
  go_enter Tryz.func84, Tryz.ntmps84
  go_wp2_with fail
  refine region_kept (by kernel_rfl) (by kernel_rfl) ?_
  repeat (go_big_quiet_step ((go_at_call 182; exact unhide HE _)))
  refine wpQuiet_nil ?_
  rintro _ ⟨nq, rfl⟩
  have HK1 := hide nq.kept
  go_wp2_with fail
  go_ret
  exact ⟨rfl, (unhide HB).trans (unhide HK1)⟩

set_option maxRecDepth 100000 in
set_option maxHeartbeats 2000000 in
theorem stmtJ5 (j : Nat) (f : Txt) (xv tv ev : Value) (hv : ∃ xo xn xc to tn tc eo en ec, xv = .slice xo xn xc ∧ tv = .slice to tn tc ∧ ev = .slice eo en ec) (R : Int) (w : World) (hj : j < w.heap.size) (h : StmtsAt w j)
    (hC : ∀ w', Keeps (fun _ => False) w w' → Calls Tryz.prog 183 #[.pointer (some ⟨j, 0, none⟩), stV 5 f xv tv ev] w' fun e w'' => e = .returned (.int .i64 R) ∧ Keeps (fun _ => False) w' w'') :
    Calls Tryz.prog 84 #[.pointer (some ⟨j, 0, none⟩), stV 5 f xv tv ev] w fun e w' => e = .returned (.int .i64 R) ∧ Keeps (fun _ => False) w w' := by
  obtain ⟨xo, xn, xc, to, tn, tc, eo, en, ec, rfl, rfl, rfl⟩ := hv
  obtain ⟨t2, h1, h2⟩ := h
  obtain ⟨HB, hxb, hxc⟩ := boxedT w #[.int .i64 5, str f, .slice xo xn xc, .slice to tn tc, .slice eo en ec] 39
  have ht := lt_of_block h2
  have e0 : ∀ m : KW (w.alloc (.cells #[.int .i64 5, str f, .slice xo xn xc, .slice to tn tc, .slice eo en ec] 39)), m.wd.cell? ⟨j, 2, none⟩ = some (.slice (some ⟨t2, 0, none⟩) 9 9) := fun m => (((unhide HB).trans m.kept).cell hj id).trans h1
  have e1 : ∀ m : KW (w.alloc (.cells #[.int .i64 5, str f, .slice xo xn xc, .slice to tn tc, .slice eo en ec] 39)), m.wd.cell? ⟨t2, 5, none⟩ = some (.func (.func 183) #[.pointer (some ⟨j, 0, none⟩)] #[]) := fun m => (((unhide HB).trans m.kept).cell ht id).trans (by rw [cell_of_blk h2]; rfl)
  have f0 : ∀ m : KW (w.alloc (.cells #[.int .i64 5, str f, .slice xo xn xc, .slice to tn tc, .slice eo en ec] 39)), m.wd.cell? ⟨w.heap.size, 0, none⟩ = some (.int .i64 5) := fun m => (m.kept.cell hxb id).trans (hxc 0 _ rfl)
  have f1 : ∀ m : KW (w.alloc (.cells #[.int .i64 5, str f, .slice xo xn xc, .slice to tn tc, .slice eo en ec] 39)), m.wd.cell? ⟨w.heap.size, 1, none⟩ = some (str f) := fun m => (m.kept.cell hxb id).trans (hxc 1 _ rfl)
  have f2 : ∀ m : KW (w.alloc (.cells #[.int .i64 5, str f, .slice xo xn xc, .slice to tn tc, .slice eo en ec] 39)), m.wd.cell? ⟨w.heap.size, 2, none⟩ = some (.slice xo xn xc) := fun m => (m.kept.cell hxb id).trans (hxc 2 _ rfl)
  have f3 : ∀ m : KW (w.alloc (.cells #[.int .i64 5, str f, .slice xo xn xc, .slice to tn tc, .slice eo en ec] 39)), m.wd.cell? ⟨w.heap.size, 3, none⟩ = some (.slice to tn tc) := fun m => (m.kept.cell hxb id).trans (hxc 3 _ rfl)
  have f4 : ∀ m : KW (w.alloc (.cells #[.int .i64 5, str f, .slice xo xn xc, .slice to tn tc, .slice eo en ec] 39)), m.wd.cell? ⟨w.heap.size, 4, none⟩ = some (.slice eo en ec) := fun m => (m.kept.cell hxb id).trans (hxc 4 _ rfl)
  have HE := hide (fun (m : KW (w.alloc (.cells #[.int .i64 5, str f, .slice xo xn xc, .slice to tn tc, .slice eo en ec] 39))) => kw_of m (hC m.wd ((unhide HB).trans m.kept)))
  clear hC hxc h1 h2
  go_enter Tryz.func84, Tryz.ntmps84
  go_wp2_with fail
  refine region_kept (by kernel_rfl) (by kernel_rfl) ?_
  repeat (go_big_quiet_step ((go_at_call 183; exact unhide HE _)))
  refine wpQuiet_nil ?_
  rintro _ ⟨nq, rfl⟩
  have HK1 := hide nq.kept
  go_wp2_with fail
  go_ret
  exact ⟨rfl, (unhide HB).trans (unhide HK1)⟩

set_option maxRecDepth 100000 in
set_option maxHeartbeats 2000000 in
theorem stmtJ6 (j : Nat) (f : Txt) (xv tv ev : Value) (hv : ∃ xo xn xc to tn tc eo en ec, xv = .slice xo xn xc ∧ tv = .slice to tn tc ∧ ev = .slice eo en ec) (R : Int) (w : World) (hj : j < w.heap.size) (h : StmtsAt w j)
    (hC : ∀ w', Keeps (fun _ => False) w w' → Calls Tryz.prog 184 #[stV 6 f xv tv ev] w' fun e w'' => e = .returned (.int .i64 R) ∧ Keeps (fun _ => False) w' w'') :
    Calls Tryz.prog 84 #[.pointer (some ⟨j, 0, none⟩), stV 6 f xv tv ev] w fun e w' => e = .returned (.int .i64 R) ∧ Keeps (fun _ => False) w w' := by
  obtain ⟨xo, xn, xc, to, tn, tc, eo, en, ec, rfl, rfl, rfl⟩ := hv
  obtain ⟨t2, h1, h2⟩ := h
  obtain ⟨HB, hxb, hxc⟩ := boxedT w #[.int .i64 6, str f, .slice xo xn xc, .slice to tn tc, .slice eo en ec] 39
  have ht := lt_of_block h2
  have e0 : ∀ m : KW (w.alloc (.cells #[.int .i64 6, str f, .slice xo xn xc, .slice to tn tc, .slice eo en ec] 39)), m.wd.cell? ⟨j, 2, none⟩ = some (.slice (some ⟨t2, 0, none⟩) 9 9) := fun m => (((unhide HB).trans m.kept).cell hj id).trans h1
  have e1 : ∀ m : KW (w.alloc (.cells #[.int .i64 6, str f, .slice xo xn xc, .slice to tn tc, .slice eo en ec] 39)), m.wd.cell? ⟨t2, 6, none⟩ = some (.func (.func 184) #[] #[]) := fun m => (((unhide HB).trans m.kept).cell ht id).trans (by rw [cell_of_blk h2]; rfl)
  have f0 : ∀ m : KW (w.alloc (.cells #[.int .i64 6, str f, .slice xo xn xc, .slice to tn tc, .slice eo en ec] 39)), m.wd.cell? ⟨w.heap.size, 0, none⟩ = some (.int .i64 6) := fun m => (m.kept.cell hxb id).trans (hxc 0 _ rfl)
  have f1 : ∀ m : KW (w.alloc (.cells #[.int .i64 6, str f, .slice xo xn xc, .slice to tn tc, .slice eo en ec] 39)), m.wd.cell? ⟨w.heap.size, 1, none⟩ = some (str f) := fun m => (m.kept.cell hxb id).trans (hxc 1 _ rfl)
  have f2 : ∀ m : KW (w.alloc (.cells #[.int .i64 6, str f, .slice xo xn xc, .slice to tn tc, .slice eo en ec] 39)), m.wd.cell? ⟨w.heap.size, 2, none⟩ = some (.slice xo xn xc) := fun m => (m.kept.cell hxb id).trans (hxc 2 _ rfl)
  have f3 : ∀ m : KW (w.alloc (.cells #[.int .i64 6, str f, .slice xo xn xc, .slice to tn tc, .slice eo en ec] 39)), m.wd.cell? ⟨w.heap.size, 3, none⟩ = some (.slice to tn tc) := fun m => (m.kept.cell hxb id).trans (hxc 3 _ rfl)
  have f4 : ∀ m : KW (w.alloc (.cells #[.int .i64 6, str f, .slice xo xn xc, .slice to tn tc, .slice eo en ec] 39)), m.wd.cell? ⟨w.heap.size, 4, none⟩ = some (.slice eo en ec) := fun m => (m.kept.cell hxb id).trans (hxc 4 _ rfl)
  have HE := hide (fun (m : KW (w.alloc (.cells #[.int .i64 6, str f, .slice xo xn xc, .slice to tn tc, .slice eo en ec] 39))) => kw_of m (hC m.wd ((unhide HB).trans m.kept)))
  clear hC hxc h1 h2
  go_enter Tryz.func84, Tryz.ntmps84
  go_wp2_with fail
  refine region_kept (by kernel_rfl) (by kernel_rfl) ?_
  repeat (go_big_quiet_step ((go_at_call 184; exact unhide HE _)))
  refine wpQuiet_nil ?_
  rintro _ ⟨nq, rfl⟩
  have HK1 := hide nq.kept
  go_wp2_with fail
  go_ret
  exact ⟨rfl, (unhide HB).trans (unhide HK1)⟩

set_option maxRecDepth 100000 in
set_option maxHeartbeats 2000000 in
theorem stmtJ7 (j : Nat) (f : Txt) (xv tv ev : Value) (hv : ∃ xo xn xc to tn tc eo en ec, xv = .slice xo xn xc ∧ tv = .slice to tn tc ∧ ev = .slice eo en ec) (R : Int) (w : World) (hj : j < w.heap.size) (h : StmtsAt w j)
    (hC : ∀ w', Keeps (fun _ => False) w w' → Calls Tryz.prog 184 #[stV 7 f xv tv ev] w' fun e w'' => e = .returned (.int .i64 R) ∧ Keeps (fun _ => False) w' w'') :
    Calls Tryz.prog 84 #[.pointer (some ⟨j, 0, none⟩), stV 7 f xv tv ev] w fun e w' => e = .returned (.int .i64 R) ∧ Keeps (fun _ => False) w w' := by
  obtain ⟨xo, xn, xc, to, tn, tc, eo, en, ec, rfl, rfl, rfl⟩ := hv
  obtain ⟨t2, h1, h2⟩ := h
  obtain ⟨HB, hxb, hxc⟩ := boxedT w #[.int .i64 7, str f, .slice xo xn xc, .slice to tn tc, .slice eo en ec] 39
  have ht := lt_of_block h2
  have e0 : ∀ m : KW (w.alloc (.cells #[.int .i64 7, str f, .slice xo xn xc, .slice to tn tc, .slice eo en ec] 39)), m.wd.cell? ⟨j, 2, none⟩ = some (.slice (some ⟨t2, 0, none⟩) 9 9) := fun m => (((unhide HB).trans m.kept).cell hj id).trans h1
  have e1 : ∀ m : KW (w.alloc (.cells #[.int .i64 7, str f, .slice xo xn xc, .slice to tn tc, .slice eo en ec] 39)), m.wd.cell? ⟨t2, 7, none⟩ = some (.func (.func 184) #[] #[]) := fun m => (((unhide HB).trans m.kept).cell ht id).trans (by rw [cell_of_blk h2]; rfl)
  have f0 : ∀ m : KW (w.alloc (.cells #[.int .i64 7, str f, .slice xo xn xc, .slice to tn tc, .slice eo en ec] 39)), m.wd.cell? ⟨w.heap.size, 0, none⟩ = some (.int .i64 7) := fun m => (m.kept.cell hxb id).trans (hxc 0 _ rfl)
  have f1 : ∀ m : KW (w.alloc (.cells #[.int .i64 7, str f, .slice xo xn xc, .slice to tn tc, .slice eo en ec] 39)), m.wd.cell? ⟨w.heap.size, 1, none⟩ = some (str f) := fun m => (m.kept.cell hxb id).trans (hxc 1 _ rfl)
  have f2 : ∀ m : KW (w.alloc (.cells #[.int .i64 7, str f, .slice xo xn xc, .slice to tn tc, .slice eo en ec] 39)), m.wd.cell? ⟨w.heap.size, 2, none⟩ = some (.slice xo xn xc) := fun m => (m.kept.cell hxb id).trans (hxc 2 _ rfl)
  have f3 : ∀ m : KW (w.alloc (.cells #[.int .i64 7, str f, .slice xo xn xc, .slice to tn tc, .slice eo en ec] 39)), m.wd.cell? ⟨w.heap.size, 3, none⟩ = some (.slice to tn tc) := fun m => (m.kept.cell hxb id).trans (hxc 3 _ rfl)
  have f4 : ∀ m : KW (w.alloc (.cells #[.int .i64 7, str f, .slice xo xn xc, .slice to tn tc, .slice eo en ec] 39)), m.wd.cell? ⟨w.heap.size, 4, none⟩ = some (.slice eo en ec) := fun m => (m.kept.cell hxb id).trans (hxc 4 _ rfl)
  have HE := hide (fun (m : KW (w.alloc (.cells #[.int .i64 7, str f, .slice xo xn xc, .slice to tn tc, .slice eo en ec] 39))) => kw_of m (hC m.wd ((unhide HB).trans m.kept)))
  clear hC hxc h1 h2
  go_enter Tryz.func84, Tryz.ntmps84
  go_wp2_with fail
  refine region_kept (by kernel_rfl) (by kernel_rfl) ?_
  repeat (go_big_quiet_step ((go_at_call 184; exact unhide HE _)))
  refine wpQuiet_nil ?_
  rintro _ ⟨nq, rfl⟩
  have HK1 := hide nq.kept
  go_wp2_with fail
  go_ret
  exact ⟨rfl, (unhide HB).trans (unhide HK1)⟩

set_option maxRecDepth 100000 in
set_option maxHeartbeats 2000000 in
theorem stmtJ8 (j : Nat) (f : Txt) (xv tv ev : Value) (hv : ∃ xo xn xc to tn tc eo en ec, xv = .slice xo xn xc ∧ tv = .slice to tn tc ∧ ev = .slice eo en ec) (R : Int) (w : World) (hj : j < w.heap.size) (h : StmtsAt w j)
    (hC : ∀ w', Keeps (fun _ => False) w w' → Calls Tryz.prog 185 #[.pointer (some ⟨j, 0, none⟩), stV 8 f xv tv ev] w' fun e w'' => e = .returned (.int .i64 R) ∧ Keeps (fun _ => False) w' w'') :
    Calls Tryz.prog 84 #[.pointer (some ⟨j, 0, none⟩), stV 8 f xv tv ev] w fun e w' => e = .returned (.int .i64 R) ∧ Keeps (fun _ => False) w w' := by
  obtain ⟨xo, xn, xc, to, tn, tc, eo, en, ec, rfl, rfl, rfl⟩ := hv
  obtain ⟨t2, h1, h2⟩ := h
  obtain ⟨HB, hxb, hxc⟩ := boxedT w #[.int .i64 8, str f, .slice xo xn xc, .slice to tn tc, .slice eo en ec] 39
  have ht := lt_of_block h2
  have e0 : ∀ m : KW (w.alloc (.cells #[.int .i64 8, str f, .slice xo xn xc, .slice to tn tc, .slice eo en ec] 39)), m.wd.cell? ⟨j, 2, none⟩ = some (.slice (some ⟨t2, 0, none⟩) 9 9) := fun m => (((unhide HB).trans m.kept).cell hj id).trans h1
  have e1 : ∀ m : KW (w.alloc (.cells #[.int .i64 8, str f, .slice xo xn xc, .slice to tn tc, .slice eo en ec] 39)), m.wd.cell? ⟨t2, 8, none⟩ = some (.func (.func 185) #[.pointer (some ⟨j, 0, none⟩)] #[]) := fun m => (((unhide HB).trans m.kept).cell ht id).trans (by rw [cell_of_blk h2]; rfl)
  have f0 : ∀ m : KW (w.alloc (.cells #[.int .i64 8, str f, .slice xo xn xc, .slice to tn tc, .slice eo en ec] 39)), m.wd.cell? ⟨w.heap.size, 0, none⟩ = some (.int .i64 8) := fun m => (m.kept.cell hxb id).trans (hxc 0 _ rfl)
  have f1 : ∀ m : KW (w.alloc (.cells #[.int .i64 8, str f, .slice xo xn xc, .slice to tn tc, .slice eo en ec] 39)), m.wd.cell? ⟨w.heap.size, 1, none⟩ = some (str f) := fun m => (m.kept.cell hxb id).trans (hxc 1 _ rfl)
  have f2 : ∀ m : KW (w.alloc (.cells #[.int .i64 8, str f, .slice xo xn xc, .slice to tn tc, .slice eo en ec] 39)), m.wd.cell? ⟨w.heap.size, 2, none⟩ = some (.slice xo xn xc) := fun m => (m.kept.cell hxb id).trans (hxc 2 _ rfl)
  have f3 : ∀ m : KW (w.alloc (.cells #[.int .i64 8, str f, .slice xo xn xc, .slice to tn tc, .slice eo en ec] 39)), m.wd.cell? ⟨w.heap.size, 3, none⟩ = some (.slice to tn tc) := fun m => (m.kept.cell hxb id).trans (hxc 3 _ rfl)
  have f4 : ∀ m : KW (w.alloc (.cells #[.int .i64 8, str f, .slice xo xn xc, .slice to tn tc, .slice eo en ec] 39)), m.wd.cell? ⟨w.heap.size, 4, none⟩ = some (.slice eo en ec) := fun m => (m.kept.cell hxb id).trans (hxc 4 _ rfl)
  have HE := hide (fun (m : KW (w.alloc (.cells #[.int .i64 8, str f, .slice xo xn xc, .slice to tn tc, .slice eo en ec] 39))) => kw_of m (hC m.wd ((unhide HB).trans m.kept)))
  clear hC hxc h1 h2
  go_enter Tryz.func84, Tryz.ntmps84
  go_wp2_with fail
  refine region_kept (by kernel_rfl) (by kernel_rfl) ?_
  repeat (go_big_quiet_step ((go_at_call 185; exact unhide HE _)))
  refine wpQuiet_nil ?_
  rintro _ ⟨nq, rfl⟩
  have HK1 := hide nq.kept
  go_wp2_with fail
  go_ret
  exact ⟨rfl, (unhide HB).trans (unhide HK1)⟩
end Go.Proofs.YtiinohibmcefkaaGreatDoor
namespace Go.Proofs.YtiinohibmcefkaaGreatDoor
open Go.RowKit Go.Maps

set_option maxRecDepth 100000 in
set_option maxHeartbeats 8000000 in
theorem setF_yes (Z : Zone) (j mb nn tab : Nat) (S : List FieldA) (hS : (S.map FieldA.name).Nodup) (op : Int) (f : Txt) (hl : f.length ≤ 1000) (o n : Int) (s : Txt) (kids : EL) (hsz : kids.size + 1 ≤ 4294967294) (xv : Value) (up : Nat) (to eo : Option Addr) (tn tc en ec : Nat) (w : World) (h : JudgeAt w j mb nn tab S)
    (hx : SlE Z w up xv (.cons o n s kids .nil)) (hr : rootB o n s kids.len = true) (hw : wellE kids = true) (hO : (kindP S o s kids).1.o = true) :
    Calls Tryz.prog 181 #[.pointer (some ⟨j, 0, none⟩), stV op f xv (.slice to tn tc) (.slice eo en ec)] w fun e w' => e = .returned (.int .i64 (orL [(namedK S f).2, (kindP S o s kids).2, ofI (kindP S o s kids).1 [(namedK S f).1.t], if (kindP S o s kids).1.o = true ∧ (namedK S f).1.o = false then 92 else 0])) ∧ Keeps (fun _ => False) w w' := by
  obtain ⟨xo, xc, b, off, rfl, hcap, ha, hin⟩ := hx.open
  obtain ⟨rfl, _⟩ := ha (by simp [EL.len])
  obtain ⟨h1, h2, h3, h4, h5, ⟨kao, kcap, h6, h7, h8⟩, _⟩ := hin
  have hkid : SlE Z w b (.slice kao kids.len kcap) kids := ⟨kao, kcap, rfl, h7, h8⟩
  have hlen : (EL.cons o n s kids .nil).len = 1 := rfl
  rw [hlen] at hcap ⊢
  obtain ⟨HB, hxb, hxc⟩ := boxedT w #[.int .i64 op, str f, .slice (some ⟨b, off, none⟩) 1 xc, .slice to tn tc, .slice eo en ec] 39
  have c1 := hxc 1 (str f) rfl
  have SB : ∀ w', Keeps (fun _ => False) (w.alloc (.cells #[.int .i64 op, str f, .slice (some ⟨b, off, none⟩) 1 xc, .slice to tn tc, .slice eo en ec] 39)) w' → w'.cell? ⟨w.heap.size, 2, none⟩ = some (.slice (some ⟨b, off, none⟩) 1 xc) ∧ w'.cell? ⟨b, off, none⟩ = some (.int .i64 o) ∧ w'.cell? ⟨b, off + 1, none⟩ = some (.int .i64 n) ∧ w'.cell? ⟨b, off + 2, none⟩ = some (str s) ∧ w'.cell? ⟨b, off + 3, none⟩ = some (.slice kao kids.len kcap) := fun w' hk =>
    ⟨(hk.cell hxb id).trans (hxc 2 _ rfl), (((unhide HB).trans hk).cell h1 id).trans h3, (((unhide HB).trans hk).cell h1 id).trans h4, (((unhide HB).trans hk).cell h1 id).trans h5, (((unhide HB).trans hk).cell h1 id).trans h6⟩
  have HSB := hide SB
  have HN := hide (namedJ_v j mb nn S hS f hl _ (h.map.keepF (unhide HB)))
  have HE := fun w' (hk : Keeps (fun _ => False) w w') => hide (exprJ_v Z j mb nn tab S hS (kids.size + 1) kids (by omega) (by omega) o n s w' b (.slice kao kids.len kcap) (h.keepF hk) (hkid.keepF hk) hr hw)
  obtain ⟨⟨⟨T, O⟩, E⟩, hp⟩ : ∃ p, p = namedK S f := ⟨_, rfl⟩
  obtain ⟨⟨⟨T2, O2⟩, E2⟩, hp2⟩ : ∃ p, p = kindP S o s kids := ⟨_, rfl⟩
  rw [← hp] at HN ⊢
  rw [← hp2] at HE hO ⊢
  have hO2 : O2 = true := hO
  subst hO2
  clear hO
  clear hp hp2 h hxc hkid hx h2 h3 h4 h5 h6 h8 hr hw ha SB
  have hU : (if true = true ∧ O = false then (92 : Int) else 0) = unlessI (!true || O) 92 := by cases O <;> rfl
  show Calls _ _ _ _ (fun e w' => e = .returned (.int .i64 (orL [E, E2, ofI ⟨T2, true⟩ [T], if true = true ∧ O = false then 92 else 0])) ∧ _)
  rw [hU]
  clear hU
  obtain ⟨U, hU⟩ : ∃ u, u = unlessI (!true || O) 92 := ⟨_, rfl⟩
  rw [← hU]
  have HU := hide hU
  clear hU
  go_enter Tryz.func181, Tryz.ntmps181
  go_wp2_with (first
    | (go_at_call 210; refine (unhide HN).mono ?_; rintro e w1 ⟨rfl, hk1⟩; have hka := hk1.alloc (.cells #[.int .i64 T, .bool O] 113); have d1 := unhide HSB _ hka; have HBA := hide (heap_alloc_new w1 (.cells #[.int .i64 T, .bool O] 113)); have HK1 := hide ((unhide HB).trans hka); clear hk1 hka)
    | (go_at_call 72; refine (unhide (HE _ (unhide HK1))).mono ?_; rintro e w2 ⟨rfl, hk2⟩; have hkb := hk2.alloc (.cells #[.int .i64 T2, .bool true] 113); have HBA2 := hide ((hkb.block _ (lt_of_block (unhide HBA)) id).trans (unhide HBA)); have HBB := hide (heap_alloc_new w2 (.cells #[.int .i64 T2, .bool true] 113)); have HK2 := hide ((unhide HK1).trans hkb); clear hk2 hkb))
  have hA := unhide HBA2
  have hB := unhide HBB
  have SK : ∀ w', Keeps (fun _ => False) (w2.alloc (.cells #[.int .i64 T2, .bool true] 113)) w' → w'.cell? ⟨w1.heap.size, 0, none⟩ = some (.int .i64 T) ∧ w'.cell? ⟨w1.heap.size, 1, none⟩ = some (.bool O) ∧ w'.cell? ⟨w2.heap.size, 0, none⟩ = some (.int .i64 T2) ∧ w'.cell? ⟨w2.heap.size, 1, none⟩ = some (.bool true) := fun w' hk => by
    have k0 := (hk.block _ (lt_of_block hA) id).trans hA
    have k1 := (hk.block _ (lt_of_block hB) id).trans hB
    exact ⟨by rw [cell_of_blk k0]; rfl, by rw [cell_of_blk k0]; rfl, by rw [cell_of_blk k1]; rfl, by rw [cell_of_blk k1]; rfl⟩
  have HSK := hide SK
  have HL : Hid (Lay (w2.alloc (.cells #[.int .i64 T2, .bool true] 113)) [] (w2.alloc (.cells #[.int .i64 T2, .bool true] 113))) := ⟨Keeps.refl _ _, fun p hp => by simp at hp⟩
  clear hA hB SK HBA HBA2 HBB d1 HE HN HSB
  go_region_held3 (fun w' => w'.cell? ⟨w1.heap.size, 0, none⟩ = some (.int .i64 T) ∧ w'.cell? ⟨w1.heap.size, 1, none⟩ = some (.bool O) ∧ w'.cell? ⟨w2.heap.size, 0, none⟩ = some (.int .i64 T2) ∧ w'.cell? ⟨w2.heap.size, 1, none⟩ = some (.bool true))
    (first | with_reducible exact unhide HSK _ (unhide HL).kept | with_reducible exact unhide HSK _ ((unhide HL).lay _).kept | with_reducible exact unhide HSK _ (((unhide HL).lay _).lay _).kept | with_reducible exact unhide HSK _ (unhide HL).kept.drew | with_reducible exact unhide HSK _ ((unhide HL).lay _).kept.drew | with_reducible exact unhide HSK _ (((unhide HL).lay _).lay _).kept.drew | with_reducible exact unhide HSK _ ((unhide HL).kept.alloc _) | with_reducible exact unhide HSK _ ((unhide HL).drew.lay _).kept | with_reducible exact unhide HSK _ (((unhide HL).drew.lay _).lay _).kept)
    ((first
    | (go_at_call 214; refine (isOf_lay ⟨T2, true⟩ (by first | with_reducible exact unhide HL | with_reducible exact (unhide HL).lay _ | with_reducible exact ((unhide HL).lay _).lay _ | with_reducible exact (unhide HL).drew.lay _ | with_reducible exact ((unhide HL).drew.lay _).lay _ | with_reducible exact ((unhide HL).lay _).drew | with_reducible exact (((unhide HL).lay _).lay _).drew) (t := T) (by simp)).mono ?_; rintro e w3 ⟨rfl, hl1⟩; have HL := hide hl1; clear hl1)
    | (go_at_call 215; refine (unless_lay _ 92 (by first | with_reducible exact unhide HL | with_reducible exact (unhide HL).drew | with_reducible exact (unhide HL).lay _ | with_reducible exact ((unhide HL).lay _).drew)).mono ?_; rintro e w3 ⟨rfl, hl1⟩; have HL := hide hl1; clear hl1)
    | (go_at_call 211; refine (or_lay E E2 (ofI ⟨T2, true⟩ [T]) _ (unhide HL)).mono ?_; rintro e w3 ⟨rfl, hl1⟩; have HL := hide hl1; clear hl1)))
  all_goals go_wp2_with fail
  all_goals (go_ret; exact ⟨by rw [unhide HU]; rfl, (unhide HK2).trans (unhide HL).kept⟩)
end Go.Proofs.YtiinohibmcefkaaGreatDoor
