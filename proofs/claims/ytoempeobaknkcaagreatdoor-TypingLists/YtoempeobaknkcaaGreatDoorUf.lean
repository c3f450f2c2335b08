import Derived.Test.YtoempeobaknkcaaGreatDoorJzay
import Derived.Test.YtoempeobaknkcaaGreatDoorTi
namespace Go.Proofs.YtoempeobaknkcaaGreatDoor
open Go.RowKit Go.Maps

/-- Two lists of names of one's own, apart. -/
def TwoNm (w : World) (base : Nat) (o1 o2 : Value) (l1 l2 : List Txt) : Prop := NmAt w base o1 l1 ∧ NmAt w base o2 l2 ∧ ∀ q, o1.ownBlock = some q → o2.ownBlock ≠ some q
theorem TwoNm.symm {w : World} {base : Nat} {o1 o2 : Value} {l1 l2 : List Txt} (h : TwoNm w base o1 o2 l1 l2) : TwoNm w base o2 o1 l2 l1 :=
  ⟨h.2.1, h.1, fun q e e2 => h.2.2 q e2 e⟩
theorem TwoNm.keepF {w w' : World} {base : Nat} {o1 o2 : Value} {l1 l2 : List Txt} (h : TwoNm w base o1 o2 l1 l2) (hk : Keeps (fun _ => False) w w') : TwoNm w' base o1 o2 l1 l2 :=
  ⟨ownsRow_kept h.1 hk (fun _ _ => id), ownsRow_kept h.2.1 hk (fun _ _ => id), h.2.2⟩
theorem TwoNm.step {w w6 : World} {base g6 c6 : Nat} {o1 o2 : Value} {l1 l2 : List Txt} {nm : Txt} (h : TwoNm w base o1 o2 l1 l2) (hown : w6.ownsRow base 9 1 (.slice (some ⟨g6, 0, none⟩) (l1.length + 1) c6) (l1.length + 1) (nmC l1 ++ [str nm])) (hgr : (w.alloc (.cells #[str nm] 9)).grownBy w6 o1.ownBlock) (hat : o1.ownBlock = some g6 ∨ g6 = w.heap.size + 1) :
    TwoNm w6 base (.slice (some ⟨g6, 0, none⟩) (l1.length + 1) c6) o2 (l1 ++ [nm]) l2 := by
  obtain ⟨h1, h2, h3⟩ := h
  refine ⟨?_, ?_, fun q e e2 => ?_⟩
  · unfold NmAt
    rw [nmC_snoc, List.length_append]
    exact hown
  · have hk : Keeps (fun q => o1.ownBlock = some q) (w.alloc (.cells #[str nm] 9)) w6 := (Keeps.refl _ _).grown hgr (fun q e _ => e)
    exact ownsRow_kept (ownsRow_kept h2 ((Keeps.refl (fun _ => False) w).alloc _) (fun _ _ => id)) hk (fun q e e1 => h3 q e1 e)
  · have e' : g6 = q := by simpa [Value.ownBlock] using e
    subst e'
    rcases hat with hat | hat
    · exact h3 _ hat e2
    · have := (h2.lt _ e2).2
      omega
theorem rd_head (op : Int) (f : Txt) (x : EL) (t e r : SL) (s : Txt) : decide (0 < rdF (.cons op f x t e r) s) = (rd1 op f x s || decide (0 < rdF r s)) := by
  rw [Bool.eq_iff_iff]
  simp only [rd1, Bool.or_eq_true, decide_eq_true_eq]
  show 0 < cntE x s + (if (op = 2 ∨ op = 3 ∨ op = 4) ∧ f = s then 1 else 0) + rdF r s ↔ _
  by_cases h : (op = 2 ∨ op = 3 ∨ op = 4) ∧ f = s
  · rw [if_pos h]
    exact ⟨fun _ => Or.inl (Or.inr h), fun _ => by omega⟩
  · rw [if_neg h]
    refine ⟨fun h2 => ?_, fun h2 => ?_⟩
    · by_cases h3 : 0 < cntE x s
      · exact Or.inl (Or.inl h3)
      · exact Or.inr (by omega)
    · rcases h2 with (h2 | h2) | h2
      · omega
      · exact absurd h2 h
      · omega
theorem wr_head (op : Int) (f : Txt) (x : EL) (t e r : SL) (s : Txt) : decide (0 < wrF (.cons op f x t e r) s) = (wr1 op f s || decide (0 < wrF r s)) := by
  rw [Bool.eq_iff_iff]
  simp only [wr1, Bool.or_eq_true, decide_eq_true_eq]
  show 0 < (if (op = 1 ∨ op = 2 ∨ op = 3 ∨ op = 4 ∨ op = 5) ∧ f = s then 1 else 0) + wrF r s ↔ _
  by_cases h : (op = 1 ∨ op = 2 ∨ op = 3 ∨ op = 4 ∨ op = 5) ∧ f = s
  · rw [if_pos h]
    exact ⟨fun _ => Or.inl h, fun _ => by omega⟩
  · rw [if_neg h]
    refine ⟨fun h2 => Or.inr (by omega), fun h2 => ?_⟩
    rcases h2 with h2 | h2
    · exact absurd h2 h
    · omega

set_option maxRecDepth 100000 in
set_option maxHeartbeats 4000000 in
theorem rfields_bad (Z : Zone) (S : List FieldA) (l : SL) (hsz : l.size ≤ 4294967294) (sv pv : Value) (w : World) (up : Nat) (hf : FldsAt w sv S) (hp : SlS Z w up pv l) (hE : (checkP S l).1 ≠ 0) :
    Calls Tryz.prog 8 #[.agg #[sv], pv] w fun e w' => e = .returned (.tuple #[.slice none 0 0, .slice none 0 0, .int .i64 (checkP S l).1]) ∧ Keeps (fun _ => False) w w' := by
  obtain ⟨ao, cap, rfl, hc⟩ := hp.head
  obtain ⟨so, sc, rfl⟩ := RowAt.form hf
  obtain ⟨HB, hxb, hxc⟩ := boxedT w #[.slice so S.length sc] 24
  have c0 := hxc 0 (.slice so S.length sc) rfl
  have HCK := fun w' (hk : Keeps (fun _ => False) w w') => hide (rcheck9_v Z S l hsz (.slice so S.length sc) (.slice ao l.len cap) w' up (hf.keepF hk) (hp.keepF hk))
  obtain ⟨⟨E, at'⟩, hpv⟩ : ∃ p, p = checkP S l := ⟨_, rfl⟩
  rw [← hpv] at hE HCK ⊢
  have hE' : (E != 0) = true := by simpa using hE
  clear hf hp hxc hpv hE
  go_enter Tryz.func8, Tryz.ntmps8
  go_wp2_with (go_at_call 24; refine (unhide (HCK _ (unhide HB))).mono ?_; rintro e w1 ⟨rfl, hk1⟩; have HKa := hide ((unhide HB).trans hk1); clear hk1)
  refine bodyPost_ret (v := .tuple #[.slice none 0 0, .slice none 0 0, .int .i64 E]) (by simp [results, go_sem]) rfl ?_
  exact ⟨rfl, unhide HKa⟩

set_option maxRecDepth 100000 in
set_option maxHeartbeats 4000000 in
theorem rfields_fit (Z : Zone) (S : List FieldA) (l : SL) (hsz : l.size ≤ 4294967294) (sv pv : Value) (w : World) (up : Nat) (hf : FldsAt w sv S) (hp : SlS Z w up pv l) (hE : (checkP S l).1 = 0) :
    Calls Tryz.prog 8 #[.agg #[sv], pv] w fun e w' => ∃ rv wv, e = .returned (.tuple #[rv, wv, .int .i64 0]) ∧ NmAt w' w.heap.size rv (pick S (fun s => decide (0 < rdF (flatS l) s))) ∧ NmAt w' w.heap.size wv (pick S (fun s => decide (0 < wrF (flatS l) s))) ∧ Keeps (fun _ => False) w w' := by
  obtain ⟨hS, hC⟩ := checkP_zero hE
  have hwl := checkS_well hC
  have hnl : (flatS l).len ≤ 4294967294 := by rw [flatS_len]; exact Nat.le_trans (countS_le l) hsz
  obtain ⟨ao, cap, rfl, hc⟩ := hp.head
  obtain ⟨so, sc, rfl⟩ := RowAt.form hf
  obtain ⟨HB, hxb, hxc⟩ := boxedT w #[.slice so S.length sc] 24
  have c0 := hxc 0 (.slice so S.length sc) rfl
  have SB : ∀ w', Keeps (fun _ => False) (w.alloc (.cells #[.slice so S.length sc] 24)) w' → w'.cell? ⟨w.heap.size, 0, none⟩ = some (.slice so S.length sc) := fun w' hk => (hk.cell hxb id).trans c0
  have HSB := hide SB
  have HCK := fun w' (hk : Keeps (fun _ => False) w w') => hide (rcheck9_v Z S l hsz (.slice so S.length sc) (.slice ao l.len cap) w' up (hf.keepF hk) (hp.keepF hk))
  have HNU := fun w' (hk : Keeps (fun _ => False) w w') => hide (flat_v w'.heap.size (l.size + 1) l (by omega) hsz w' 0 (.slice ao l.len cap) (Nat.le_refl _) ((hp.keepF hk).arg (Nat.le_refl _) 0))
  obtain ⟨⟨E, at'⟩, hpv⟩ : ∃ p, p = checkP S l := ⟨_, rfl⟩
  rw [← hpv] at hE HCK
  subst hE
  have HF := hide hf
  have HW := hide (flat_well (N := 4294967294) l hsz hwl)
  clear hf hp hxc hpv SB hC hwl
  go_enter Tryz.func8, Tryz.ntmps8
  go_wp2_with (first
    | (go_at_call 24; refine (unhide (HCK _ (unhide HB))).mono ?_; rintro e w1 ⟨rfl, hk1⟩; have HKa := hide ((unhide HB).trans hk1); have HKb := hide hk1; clear hk1)
    | (go_at_call 25; refine (unhide (HNU _ (unhide HKa))).mono ?_; rintro e w4 ⟨fo, fc, n, xs, rfl, hn, hown, hss, hk1⟩; obtain ⟨g, goff, hg, hst⟩ := num_open hn (rowAt_own hown) hss; have HNL := hide hn; have HG := hide hg; have HST := hide hst; have HKa := hide ((unhide HKa).trans hk1); have HKb := hide ((unhide HKb).trans hk1); clear hn hown hss hg hst hk1))
  have hn2 : n ≤ 4294967294 := by rw [unhide HNL]; exact hnl
  clear hnl HCK HNU c0
  obtain ⟨i0, hi, hz0, hz1, hz2⟩ := info_parts Tryz.info9
  obtain ⟨i0, hi, hz0, hz1, hz2⟩ := info_parts Tryz.info9
  obtain ⟨i0, hi, hz0, hz1, hz2⟩ := info_parts Tryz.info9
  obtain ⟨i0, hi, hz0, hz1, hz2⟩ := info_parts Tryz.info9
  obtain ⟨i0, hi, hz0, hz1, hz2⟩ := info_parts Tryz.info9
  have hSB := hS
  unfold schemaB at hSB
  simp only [Bool.and_eq_true, decide_eq_true_eq] at hSB
  have hl8 := hSB.1.1.1.2
  have hw4 : w.heap.size ≤ w4.heap.size := (unhide HKa).size
  clear hSB hS
  go_loopw [7, 8, 12] (fun o1 o2 i wr => ∃ (k : Nat), i = .int .i64 k ∧ k ≤ S.length ∧ TwoNm wr w4.heap.size o1 o2 (pick (S.take k) (fun s => decide (0 < rdF (flatS l) s))) (pick (S.take k) (fun s => decide (0 < wrF (flatS l) s))) ∧ Keeps (fun _ => False) w4 wr) (fun _ _ i _ => S.length - (intOf i).toNat)
  case atStart => exact ⟨0, rfl, Nat.zero_le _, ⟨World.ownsRow_nil _ w4.heap.size 9 1, World.ownsRow_nil _ w4.heap.size 9 1, fun q e => by simp [Value.ownBlock] at e⟩, Keeps.refl _ _⟩
  case round =>
    rename World => wo
    obtain ⟨k, rfl, hk, htwo, hkeep⟩ := hrel
    obtain ⟨oo, oc, rfl⟩ := (rowAt_own htwo.1).form
    obtain ⟨po, pc, rfl⟩ := (rowAt_own htwo.2.1).form
    have HT := hide htwo
    have HK := hide hkeep
    have p0 := unhide HSB _ ((unhide HKb).trans hkeep)
    have ha8 : (pick (S.take k) (fun s => decide (0 < rdF (flatS l) s))).length ≤ 8 := by have := pick_le (S.take k) (fun s => decide (0 < rdF (flatS l) s)); simp at this; omega
    have hb8 : (pick (S.take k) (fun s => decide (0 < wrF (flatS l) s))).length ≤ 8 := by have := pick_le (S.take k) (fun s => decide (0 < wrF (flatS l) s)); simp at this; omega
    cases h : S[k]? with
    | none =>
      have h1 := get_ge h
      obtain rfl : k = S.length := by omega
      have i1 : ¬ (S.length : Int) < (S.length : Int) := by omega
      clear h h1 htwo hkeep hk ha8 hb8
      go_wp2_with fail
      rw [List.take_length] at HT
      refine bodyPost_ret (v := .tuple #[.slice oo _ oc, .slice po _ pc, .int .i64 0]) (by simp [results, go_sem]; exact ⟨rfl, rfl⟩) rfl ?_
      exact ⟨_, _, rfl, ownsRow_lower (unhide HT).1 hw4, ownsRow_lower (unhide HT).2.1 hw4, (unhide HKa).trans (unhide HK)⟩
    | some f =>
      have h1 := get_lt h
      obtain ⟨b, off, c1, e, hbl, hc⟩ := ((unhide HF).keepF (unhide HKa)).cells (by omega)
      simp at e
      obtain ⟨rfl, rfl⟩ := e
      have hq0 := (hc k f h).1
      have HQ : Hid (∀ w', Keeps (fun _ => False) w4 w' → w'.cell? ⟨b, off + k * 3, none⟩ = some (str f.name)) := fun w' hk' => (hk'.cell hbl id).trans hq0
      have i1 : (k : Int) < (S.length : Int) := by omega
      have ix0 : (0 : Int) ≤ (k : Int) := by omega
      have HTK := hide (take_snoc _ _ _ h)
      have HP1 := hide (pick_snoc (S.take k) f (fun s => decide (0 < rdF (flatS l) s)))
      have HP2 := hide (pick_snoc (S.take k) f (fun s => decide (0 < wrF (flatS l) s)))
      clear h hc hq0 htwo hkeep
      go_wp2_with fail
      go_loopw [13, 14, 15] (fun r1 r2 i wq => ∃ (rest : SL) (j : Nat) (a b : Bool), r1 = .bool a ∧ r2 = .bool b ∧ i = .int .i64 j ∧ j + rest.len = n ∧ Hid ((a || decide (0 < rdF rest f.name)) = decide (0 < rdF (flatS l) f.name)) ∧ Hid ((b || decide (0 < wrF rest f.name)) = decide (0 < wrF (flatS l) f.name)) ∧ wellF 4294967294 rest ∧ Keeps (fun _ => False) wo wq ∧ StIn (argZ w4.heap.size) w4 rest g (goff + j * 5)) (fun _ _ i _ => n - (intOf i).toNat)
      case atStart => exact ⟨flatS l, 0, false, false, rfl, rfl, rfl, by rw [Nat.zero_add]; exact (unhide HNL).symm, rfl, rfl, unhide HW, Keeps.refl _ _, by simpa using unhide HST⟩
      case round =>
        obtain ⟨rest, j, a, bb, rfl, rfl, rfl, hjl, HA1, HB1, hwf, hkeep2, hr⟩ := hrel
        have HK2 := hide hkeep2
        cases rest with
        | cons op ff x t el rest =>
          obtain ⟨h1, h2, h3, h4, ⟨xv, h5, hxs⟩, ⟨tao, tcap, h6, h7, h8⟩, ⟨eao, ecap, j6, j7, j8⟩, h9⟩ := hr
          obtain ⟨hh, hwx, hxz, hwr⟩ := hwf
          simp only [SL.len] at hjl
          obtain ⟨xao, xcap, rfl, hxl⟩ := hxs.head
          obtain rfl := (unhide HG) (by omega)
          have HR := hide h9
          have HWq := hide hwr
          have j1 : (j : Int) < (n : Int) := by omega
          have jx0 : (0 : Int) ≤ (j : Int) := by omega
          have HJL := hide hjl
          have hkw : Keeps (fun _ => False) w4 wr := (unhide HK).trans hkeep2
          have e0 : ∀ m : KW wr, m.wd.cell? ⟨w.heap.size, 0, none⟩ = some (.slice (some ⟨b, off, none⟩) S.length sc) := fun m => unhide HSB _ (((unhide HKb).trans hkw).trans m.kept)
          have e1 : ∀ m : KW wr, m.wd.cell? ⟨b, off + k * 3, none⟩ = some (str f.name) := fun m => unhide HQ _ (hkw.trans m.kept)
          have f0 : ∀ m : KW wr, m.wd.cell? ⟨g, goff + j * 5, none⟩ = some (.int .i64 op) := fun m => ((hkw.trans m.kept).cell h1 id).trans h3
          have f1 : ∀ m : KW wr, m.wd.cell? ⟨g, goff + j * 5 + 1, none⟩ = some (str ff) := fun m => ((hkw.trans m.kept).cell h1 id).trans h4
          have f2 : ∀ m : KW wr, m.wd.cell? ⟨g, goff + j * 5 + 2, none⟩ = some (.slice xao x.len xcap) := fun m => ((hkw.trans m.kept).cell h1 id).trans h5
          have f3 : ∀ m : KW wr, m.wd.cell? ⟨g, goff + j * 5 + 3, none⟩ = some (.slice tao t.len tcap) := fun m => ((hkw.trans m.kept).cell h1 id).trans h6
          have f4 : ∀ m : KW wr, m.wd.cell? ⟨g, goff + j * 5 + 4, none⟩ = some (.slice eao el.len ecap) := fun m => ((hkw.trans m.kept).cell h1 id).trans j6
          have HE := hide (fun (m : KW wr) => kw_of m (uses_v (argZ w4.heap.size) op ff x hxz f.name m.wd g _ (.slice tao t.len tcap) (.slice eao el.len ecap) (hxs.keepF (hkw.trans m.kept)) ⟨_, _, _, _, _, _, rfl, rfl⟩))
          have HA2 : Hid ((a || (rd1 op ff x f.name || decide (0 < rdF rest f.name))) = decide (0 < rdF (flatS l) f.name)) := by have hh := unhide HA1; rw [rd_head] at hh; exact hh
          have HB2 : Hid ((bb || (wr1 op ff f.name || decide (0 < wrF rest f.name))) = decide (0 < wrF (flatS l) f.name)) := by have hh := unhide HB1; rw [wr_head] at hh; exact hh
          generalize rd1 op ff x f.name = R1 at HE HA2
          generalize wr1 op ff f.name = R2 at HE HB2
          clear hkeep2 hkw h1 h2 h3 h4 h5 h6 h8 h9 j6 j8 hxs hh hwx hwr hjl HA1 HB1
          cases a <;> cases bb
          all_goals
            go_wp2_with fail
            refine region_kept (by kernel_rfl) (by kernel_rfl) ?_
            repeat (go_big_quiet_step ((go_at_call 26; exact unhide HE _)))
            refine wpQuiet_nil ?_
            rintro _ ⟨nq, rfl⟩
            have HK1 := hide nq.kept
            go_wp2_with fail
            go_roundw
            case rel =>
              refine ⟨rest, j + 1, _, _, rfl, rfl, by go_num, by have := unhide HJL; omega, ?_, ?_, unhide HWq, (unhide HK2).trans (unhide HK1), ?_⟩
              · exact (by rw [← unhide HA2]; rfl)
              · exact (by rw [← unhide HB2]; rfl)
              · rw [show goff + (j + 1) * 5 = goff + j * 5 + 5 by omega]
                exact unhide HR
            case measure => have := unhide HJL; simp [intOf]; omega
        | nil =>
          simp only [SL.len, Nat.add_zero] at hjl
          have j1 : ¬ (j : Int) < (n : Int) := by omega
          have HA1 : Hid (a = decide (0 < rdF (flatS l) f.name)) := by have h := unhide HA1; exact hide (by simpa [rdF] using h)
          have HB1 : Hid (bb = decide (0 < wrF (flatS l) f.name)) := by have h := unhide HB1; exact hide (by simpa [wrF] using h)
          have hk4 : Keeps (fun _ => False) w4 wr := (unhide HK).trans hkeep2
          have hswr := hk4.size
          have HKwr := hide hk4
          have HTwr := hide ((unhide HT).keepF hkeep2)
          have swr := unhide HSB _ ((unhide HKb).trans hk4)
          have twr := unhide HQ _ hk4
          clear hkeep2 hr hwf hk4 hjl p0
          cases a with
          | false =>
            cases bb with
            | false =>
              go_wp2_with fail
              go_roundw
              case rel =>
                refine ⟨k + 1, by go_num, by omega, ?_, unhide HKwr⟩
                rw [unhide HTK, unhide HP1, unhide HP2, if_neg (by rw [← unhide HA1]; simp), List.append_nil, if_neg (by rw [← unhide HB1]; simp), List.append_nil]
                exact unhide HTwr
              case measure => simp [intOf]; omega

            | true =>
              go_wp2_with (at_builtin; refine wpList_append_lies _ rfl _ _ _ rfl w4.heap.size 9 i0 _ 1 16 Tryz.underlying29 hi hz0 hz1 hz2 rfl (by omega) (.slice po _ pc) _ _ rfl (ownsRow_kept (unhide HTwr).2.1 ((Keeps.refl (fun _ => False) _).alloc _) (fun _ _ => id)) ⟨wr.heap.size, 0, none⟩ 1 1 [str f.name] rfl rfl (World.news_of_block (cs := #[str f.name]) (t := 9) (fr := (0, 0)) (heap_alloc_new wr _)) (by simp [Value.oneCell']) (by omega) (by unfold maxLen; omega) (by omega) (by simp; omega) (wr.heap.size + 1) (by simp) ?_; intro gw6 cw6 w6 hown hgrow hat _; have HTw6 := hide ((((unhide HTwr).symm).step hown hgrow hat).symm); have hk6 : Keeps (fun _ => False) w4 w6 := ((unhide HKwr).alloc _).grown hgrow (fun q e hq => by have := ((unhide HTwr).2.1.lt q e).1; omega); have hsw6 := hk6.size; have HKw6 := hide hk6; have sw6 := unhide HSB _ ((unhide HKb).trans hk6); have tw6 := unhide HQ _ hk6; clear hown hgrow hat hk6)
              go_roundw
              case rel =>
                refine ⟨k + 1, by go_num, by omega, ?_, unhide HKw6⟩
                rw [unhide HTK, unhide HP1, unhide HP2, if_neg (by rw [← unhide HA1]; simp), List.append_nil, if_pos (unhide HB1).symm]
                exact unhide HTw6
              case measure => simp [intOf]; omega

          | true =>
            cases bb with
            | false =>
              go_wp2_with (at_builtin; refine wpList_append_lies _ rfl _ _ _ rfl w4.heap.size 9 i0 _ 1 16 Tryz.underlying29 hi hz0 hz1 hz2 rfl (by omega) (.slice oo _ oc) _ _ rfl (ownsRow_kept (unhide HTwr).1 ((Keeps.refl (fun _ => False) _).alloc _) (fun _ _ => id)) ⟨wr.heap.size, 0, none⟩ 1 1 [str f.name] rfl rfl (World.news_of_block (cs := #[str f.name]) (t := 9) (fr := (0, 0)) (heap_alloc_new wr _)) (by simp [Value.oneCell']) (by omega) (by unfold maxLen; omega) (by omega) (by simp; omega) (wr.heap.size + 1) (by simp) ?_; intro gw6 cw6 w6 hown hgrow hat _; have HTw6 := hide ((unhide HTwr).step hown hgrow hat); have hk6 : Keeps (fun _ => False) w4 w6 := ((unhide HKwr).alloc _).grown hgrow (fun q e hq => by have := ((unhide HTwr).1.lt q e).1; omega); have hsw6 := hk6.size; have HKw6 := hide hk6; have sw6 := unhide HSB _ ((unhide HKb).trans hk6); have tw6 := unhide HQ _ hk6; clear hown hgrow hat hk6)
              go_roundw
              case rel =>
                refine ⟨k + 1, by go_num, by omega, ?_, unhide HKw6⟩
                rw [unhide HTK, unhide HP1, unhide HP2, if_pos (unhide HA1).symm, if_neg (by rw [← unhide HB1]; simp), List.append_nil]
                exact unhide HTw6
              case measure => simp [intOf]; omega

            | true =>
              have mk1 : True := trivial
              go_wp2_with (first
                | (clear mk1; at_builtin; refine wpList_append_lies _ rfl _ _ _ rfl w4.heap.size 9 i0 _ 1 16 Tryz.underlying29 hi hz0 hz1 hz2 rfl (by omega) (.slice oo _ oc) _ _ rfl (ownsRow_kept (unhide HTwr).1 ((Keeps.refl (fun _ => False) _).alloc _) (fun _ _ => id)) ⟨wr.heap.size, 0, none⟩ 1 1 [str f.name] rfl rfl (World.news_of_block (cs := #[str f.name]) (t := 9) (fr := (0, 0)) (heap_alloc_new wr _)) (by simp [Value.oneCell']) (by omega) (by unfold maxLen; omega) (by omega) (by simp; omega) (wr.heap.size + 1) (by simp) ?_; intro gw6 cw6 w6 hown hgrow hat _; have HTw6 := hide ((unhide HTwr).step hown hgrow hat); have hk6 : Keeps (fun _ => False) w4 w6 := ((unhide HKwr).alloc _).grown hgrow (fun q e hq => by have := ((unhide HTwr).1.lt q e).1; omega); have hsw6 := hk6.size; have HKw6 := hide hk6; have sw6 := unhide HSB _ ((unhide HKb).trans hk6); have tw6 := unhide HQ _ hk6; clear hown hgrow hat hk6; have mk2 : True := trivial)
                | (clear mk2; at_builtin; refine wpList_append_lies _ rfl _ _ _ rfl w4.heap.size 9 i0 _ 1 16 Tryz.underlying29 hi hz0 hz1 hz2 rfl (by omega) (.slice po _ pc) _ _ rfl (ownsRow_kept (unhide HTw6).2.1 ((Keeps.refl (fun _ => False) _).alloc _) (fun _ _ => id)) ⟨w6.heap.size, 0, none⟩ 1 1 [str f.name] rfl rfl (World.news_of_block (cs := #[str f.name]) (t := 9) (fr := (0, 0)) (heap_alloc_new w6 _)) (by simp [Value.oneCell']) (by omega) (by unfold maxLen; omega) (by omega) (by simp; omega) (w6.heap.size + 1) (by simp) ?_; intro gw7 cw7 w7 hown hgrow hat _; have HTw7 := hide ((((unhide HTw6).symm).step hown hgrow hat).symm); have hk6 : Keeps (fun _ => False) w4 w7 := ((unhide HKw6).alloc _).grown hgrow (fun q e hq => by have := ((unhide HTw6).2.1.lt q e).1; omega); have hsw7 := hk6.size; have HKw7 := hide hk6; have sw7 := unhide HSB _ ((unhide HKb).trans hk6); have tw7 := unhide HQ _ hk6; clear hown hgrow hat hk6))
              go_roundw
              case rel =>
                refine ⟨k + 1, by go_num, by omega, ?_, unhide HKw7⟩
                rw [unhide HTK, unhide HP1, unhide HP2, if_pos (unhide HA1).symm, if_pos (unhide HB1).symm]
                exact unhide HTw7
              case measure => simp [intOf]; omega
end Go.Proofs.YtoempeobaknkcaaGreatDoor
