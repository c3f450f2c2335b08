import Derived.Test.YtoempeobaknkcaaGreatDoorUe
import Derived.Test.YtoempeobaknkcaaGreatDoorJyai
import Derived.Test.YtoempeobaknkcaaGreatDoorJyaw
import Derived.Test.YtoempeobaknkcaaGreatDoorJyal
import Derived.Test.YtoempeobaknkcaaGreatDoorJyat
import Derived.Test.YtoempeobaknkcaaGreatDoorJyak
import Derived.Test.YtoempeobaknkcaaGreatDoorJybb
import Derived.Test.YtoempeobaknkcaaGreatDoorVl
import Derived.Test.YtoempeobaknkcaaGreatDoorJyav
namespace Go.Proofs.YtoempeobaknkcaaGreatDoor
open Go.RowKit Go.Maps

/-- Two lists of names of one's own, apart. -/
def TwoNm (w : World) (base : Nat) (o1 o2 : Value) (l1 l2 : List Txt) : Prop := NmAt w base o1 l1 ∧ NmAt w base o2 l2 ∧ ∀ q, o1.ownBlock = some q → o2.ownBlock ≠ some q
theorem TwoNm.symm {w : World} {base : Nat} {o1 o2 : Value} {l1 l2 : List Txt} (h : TwoNm w base o1 o2 l1 l2) : TwoNm w base o2 o1 l2 l1 :=
  ⟨h.2.1, h.1, fun q e e2 => h.2.2 q e2 e⟩
theorem TwoNm.keepF {w w' : World} {base : Nat} {o1 o2 : Value} {l1 l2 : List Txt} (h : TwoNm w base o1 o2 l1 l2) (hk : Keeps (fun _ => False) w w') : TwoNm w' base o1 o2 l1 l2 :=
  ⟨ownsRow_kept h.1 hk (fun _ _ => id), ownsRow_kept h.2.1 hk (fun _ _ => id), h.2.2⟩
theorem TwoNm.step {w w6 : World} {base g6 c6 : Nat} {o1 o2 : Value} {l1 l2 : List Txt} {nm : Txt} (h : TwoNm w base o1 o2 l1 l2) (hown : w6.ownsRow base 9 1 (.slice (some ⟨g6, 0, none⟩) (l1.length + 1) c6) (l1.length + 1) (nmC l1 ++ [str nm])) (hgr : (w.alloc (.cells #[str nm] 9)).grownBy w6 o1.ownBlock) (hat : o1.ownBlock = some g6 ∨ g6 = w.heap.size + 1) :
    TwoNm w6 base (.slice (some ⟨g6, 0, none⟩) (l1.length + 1) c6) o2 (l1 ++ [nm]) l2 := by
  obtain ⟨h1, h2, h3⟩ := h
  refine ⟨?_, ?_, fun q e e2 => ?_⟩
  · unfold NmAt
    rw [nmC_snoc, List.length_append]
    exact hown
  · have hk : Keeps (fun q => o1.ownBlock = some q) (w.alloc (.cells #[str nm] 9)) w6 := (Keeps.refl _ _).grown hgr (fun q e _ => e)
    exact ownsRow_kept (ownsRow_kept h2 ((Keeps.refl (fun _ => False) w).alloc _) (fun _ _ => id)) hk (fun q e e1 => h3 q e1 e)
  · have e' : g6 = q := by simpa [Value.ownBlock] using e
    subst e'
    rcases hat with hat | hat
    · exact h3 _ hat e2
    · have := (h2.lt _ e2).2
      omega
theorem rd_head (op : Int) (f : Txt) (x : EL) (t e r : SL) (s : Txt) : decide (0 < rdF (.cons op f x t e r) s) = (rd1 op f x s || decide (0 < rdF r s)) := by
  rw [Bool.eq_iff_iff]
  simp only [rd1, Bool.or_eq_true, decide_eq_true_eq]
  show 0 < cntE x s + (if (op = 2 ∨ op = 3 ∨ op = 4) ∧ f = s then 1 else 0) + rdF r s ↔ _
  by_cases h : (op = 2 ∨ op = 3 ∨ op = 4) ∧ f = s
  · rw [if_pos h]
    exact ⟨fun _ => Or.inl (Or.inr h), fun _ => by omega⟩
  · rw [if_neg h]
    refine ⟨fun h2 => ?_, fun h2 => ?_⟩
    · by_cases h3 : 0 < cntE x s
      · exact Or.inl (Or.inl h3)
      · exact Or.inr (by omega)
    · rcases h2 with (h2 | h2) | h2
      · omega
      · exact absurd h2 h
      · omega
theorem wr_head (op : Int) (f : Txt) (x : EL) (t e r : SL) (s : Txt) : decide (0 < wrF (.cons op f x t e r) s) = (wr1 op f s || decide (0 < wrF r s)) := by
  rw [Bool.eq_iff_iff]
  simp only [wr1, Bool.or_eq_true, decide_eq_true_eq]
  show 0 < (if (op = 1 ∨ op = 2 ∨ op = 3 ∨ op = 4 ∨ op = 5) ∧ f = s then 1 else 0) + wrF r s ↔ _
  by_cases h : (op = 1 ∨ op = 2 ∨ op = 3 ∨ op = 4 ∨ op = 5) ∧ f = s
  · rw [if_pos h]
    exact ⟨fun _ => Or.inl h, fun _ => by omega⟩
  · rw [if_neg h]
    refine ⟨fun h2 => Or.inr (by omega), fun h2 => ?_⟩
    rcases h2 with h2 | h2
    · exact absurd h2 h
    · omega

set_option maxRecDepth 100000 in
set_option maxHeartbeats 4000000 in
theorem rfields_bad (Z : Zone) (S : List FieldA) (l : SL) (hsz : l.size ≤ 4294967294) (sv pv : Value) (w : World) (up : Nat) (hf : FldsAt w sv S) (hp : SlS Z w up pv l) (hE : (checkP S l).1 ≠ 0) :
    Calls Tryz.prog 8 #[.agg #[sv], pv] w fun e w' => e = .returned (.tuple #[.slice none 0 0, .slice none 0 0, .int .i64 (checkP S l).1]) ∧ Keeps (fun _ => False) w w' := by
  obtain ⟨ao, cap, rfl, hc⟩ := hp.head
  obtain ⟨so, sc, rfl⟩ := RowAt.form hf
  obtain ⟨HB, hxb, hxc⟩ := boxedT w #[.slice so S.length sc] 24
  have c0 := hxc 0 (.slice so S.length sc) rfl
  have HCK := fun w' (hk : Keeps (fun _ => False) w w') => hide (rcheck9_v Z S l hsz (.slice so S.length sc) (.slice ao l.len cap) w' up (hf.keepF hk) (hp.keepF hk))
  obtain ⟨⟨E, at'⟩, hpv⟩ : ∃ p, p = checkP S l := ⟨_, rfl⟩
  rw [← hpv] at hE HCK ⊢
  have hE' : (E != 0) = true := by simpa using hE
  clear hf hp hxc hpv hE
  go_enter Tryz.func8, Tryz.ntmps8
  go_wp2_with (go_at_call 24; refine (unhide (HCK _ (unhide HB))).mono ?_; rintro e w1 ⟨rfl, hk1⟩; have HKa := hide ((unhide HB).trans hk1); clear hk1)
  refine bodyPost_ret (v := .tuple #[.slice none 0 0, .slice none 0 0, .int .i64 E]) (by simp [results, go_sem]) rfl ?_
  exact ⟨rfl, unhide HKa⟩

set_option maxRecDepth 100000 in
set_option maxHeartbeats 4000000 in
theorem rfields_fit (Z : Zone) (S : List FieldA) (l : SL) (hsz : l.size ≤ 4294967294) (sv pv : Value) (w : World) (up : Nat) (hf : FldsAt w sv S) (hp : SlS Z w up pv l) (hE : (checkP S l).1 = 0) :
    Calls Tryz.prog 8 #[.agg #[sv], pv] w fun e w' => ∃ rv wv, e = .returned (.tuple #[rv, wv, .int .i64 0]) ∧ NmAt w' w.heap.size rv (pick S (fun s => decide (0 < rdF (flatS l) s))) ∧ NmAt w' w.heap.size wv (pick S (fun s => decide (0 < wrF (flatS l) s))) ∧ Keeps (fun _ => False) w w' := by
  obtain ⟨hS, hC⟩ := checkP_zero hE
  have hwl := checkS_well hC
  have hnl : (flatS l).len ≤ 4294967294 := by rw [flatS_len]; exact Nat.le_trans (countS_le l) hsz
  obtain ⟨ao, cap, rfl, hc⟩ := hp.head
  obtain ⟨so, sc, rfl⟩ := RowAt.form hf
  obtain ⟨HB, hxb, hxc⟩ := boxedT w #[.slice so S.length sc] 24
  have c0 := hxc 0 (.slice so S.length sc) rfl
  have SB : ∀ w', Keeps (fun _ => False) (w.alloc (.cells #[.slice so S.length sc] 24)) w' → w'.cell? ⟨w.heap.size, 0, none⟩ = some (.slice so S.length sc) := fun w' hk => (hk.cell hxb id).trans c0
  have HSB := hide SB
  have HCK := fun w' (hk : Keeps (fun _ => False) w w') => hide (rcheck9_v Z S l hsz (.slice so S.length sc) (.slice ao l.len cap) w' up (hf.keepF hk) (hp.keepF hk))
  have HNU := fun w' (hk : Keeps (fun _ => False) w w') => hide (flat_v w'.heap.size (l.size + 1) l (by omega) hsz w' 0 (.slice ao l.len cap) (Nat.le_refl _) ((hp.keepF hk).arg (Nat.le_refl _) 0))
  obtain ⟨⟨E, at'⟩, hpv⟩ : ∃ p, p = checkP S l := ⟨_, rfl⟩
  rw [← hpv] at hE HCK
  subst hE
  have HF := hide hf
  have HW := hide (flat_well (N := 4294967294) l hsz hwl)
  clear hf hp hxc hpv SB hC hwl
  go_enter Tryz.func8, Tryz.ntmps8
  go_wp2_with (first
    | (go_at_call 24; refine (unhide (HCK _ (unhide HB))).mono ?_; rintro e w1 ⟨rfl, hk1⟩; have HKa := hide ((unhide HB).trans hk1); have HKb := hide hk1; clear hk1)
    | (go_at_call 25; refine (unhide (HNU _ (unhide HKa))).mono ?_; rintro e w4 ⟨fo, fc, n, xs, rfl, hn, hown, hss, hk1⟩; obtain ⟨g, goff, hg, hst⟩ := num_open hn (rowAt_own hown) hss; have HNL := hide hn; have HG := hide hg; have HST := hide hst; have HKa := hide ((unhide HKa).trans hk1); have HKb := hide ((unhide HKb).trans hk1); clear hn hown hss hg hst hk1))
  have hn2 : n ≤ 4294967294 := by rw [unhide HNL]; exact hnl
  clear hnl HCK HNU c0
  obtain ⟨i0, hi, hz0, hz1, hz2⟩ := info_parts Tryz.info9
  obtain ⟨i0, hi, hz0, hz1, hz2⟩ := info_parts Tryz.info9
  obtain ⟨i0, hi, hz0, hz1, hz2⟩ := info_parts Tryz.info9
  obtain ⟨i0, hi, hz0, hz1, hz2⟩ := info_parts Tryz.info9
  obtain ⟨i0, hi, hz0, hz1, hz2⟩ := info_parts Tryz.info9
  have hSB := hS
  unfold schemaB at hSB
  simp only [Bool.and_eq_true, decide_eq_true_eq] at hSB
  have hl8 := hSB.1.1.1.2
  have hw4 : w.heap.size ≤ w4.heap.size := (unhide HKa).size
  clear hSB hS
  go_loopw [7, 8, 12] (fun o1 o2 i wr => ∃ (k : Nat), i = .int .i64 k ∧ k ≤ S.length ∧ TwoNm wr w4.heap.size o1 o2 (pick (S.take k) (fun s => decide (0 < rdF (flatS l) s))) (pick (S.take k) (fun s => decide (0 < wrF (flatS l) s))) ∧ Keeps (fun _ => False) w4 wr) (fun _ _ i _ => S.length - (intOf i).toNat)
  case atStart => exact ⟨0, rfl, Nat.zero_le _, ⟨World.ownsRow_nil _ w4.heap.size 9 1, World.ownsRow_nil _ w4.heap.size 9 1, fun q e => by simp [Value.ownBlock] at e⟩, Keeps.refl _ _⟩
  case round =>
    rename World => wo
    obtain ⟨k, rfl, hk, htwo, hkeep⟩ := hrel
    obtain ⟨oo, oc, rfl⟩ := (rowAt_own htwo.1).form
    obtain ⟨po, pc, rfl⟩ := (rowAt_own htwo.2.1).form
    have HT := hide htwo
    have HK := hide hkeep
    have p0 := unhide HSB _ ((unhide HKb).trans hkeep)
    have ha8 : (pick (S.take k) (fun s => decide (0 < rdF (flatS l) s))).length ≤ 8 := by have := pick_le (S.take k) (fun s => decide (0 < rdF (flatS l) s)); simp at this; omega
    have hb8 : (pick (S.take k) (fun s => decide (0 < wrF (flatS l) s))).length ≤ 8 := by have := pick_le (S.take k) (fun s => decide (0 < wrF (flatS l) s)); simp at this; omega
    cases h : S[k]? with
    | none =>
      have h1 := get_ge h
      obtain rfl : k = S.length := by omega
      have i1 : ¬ (S.length : Int) < (S.length : Int) := by omega
      clear h h1 htwo hkeep hk ha8 hb8
      go_wp2_with fail
      rw [List.take_length] at HT
      refine bodyPost_ret (v := .tuple #[.slice oo _ oc, .slice po _ pc, .int .i64 0]) (by simp [results, go_sem]; exact ⟨rfl, rfl⟩) rfl ?_
      exact ⟨_, _, rfl, ownsRow_lower (unhide HT).1 hw4, ownsRow_lower (unhide HT).2.1 hw4, (unhide HKa).trans (unhide HK)⟩
    | some f =>
      have h1 := get_lt h
      obtain ⟨b, off, c1, e, hbl, hc⟩ := ((unhide HF).keepF (unhide HKa)).cells (by omega)
      simp at e
      obtain ⟨rfl, rfl⟩ := e
      have hq0 := (hc k f h).1
      have HQ : Hid (∀ w', Keeps (fun _ => False) w4 w' → w'.cell? ⟨b, off + k * 3, none⟩ = some (str f.name)) := fun w' hk' => (hk'.cell hbl id).trans hq0
      have i1 : (k : Int) < (S.length : Int) := by omega
      have ix0 : (0 : Int) ≤ (k : Int) := by omega
      have HTK := hide (take_snoc _ _ _ h)
      have HP1 := hide (pick_snoc (S.take k) f (fun s => decide (0 < rdF (flatS l) s)))
      have HP2 := hide (pick_snoc (S.take k) f (fun s => decide (0 < wrF (flatS l) s)))
      clear h hc hq0 htwo hkeep
      go_wp2_with fail
      go_loopw [13, 14, 15] (fun r1 r2 i wq => ∃ (rest : SL) (j : Nat) (a b : Bool), r1 = .bool a ∧ r2 = .bool b ∧ i = .int .i64 j ∧ j + rest.len = n ∧ Hid ((a || decide (0 < rdF rest f.name)) = decide (0 < rdF (flatS l) f.name)) ∧ Hid ((b || decide (0 < wrF rest f.name)) = decide (0 < wrF (flatS l) f.name)) ∧ wellF 4294967294 rest ∧ Keeps (fun _ => False) wo wq ∧ StIn (argZ w4.heap.size) w4 rest g (goff + j * 5)) (fun _ _ i _ => n - (intOf i).toNat)
      case atStart => exact ⟨flatS l, 0, false, false, rfl, rfl, rfl, by rw [Nat.zero_add]; exact (unhide HNL).symm, rfl, rfl, unhide HW, Keeps.refl _ _, by simpa using unhide HST⟩
      case round =>
        obtain ⟨rest, j, a, bb, rfl, rfl, rfl, hjl, HA1, HB1, hwf, hkeep2, hr⟩ := hrel
        have HK2 := hide hkeep2
        cases rest with
        | cons op ff x t el rest =>
          obtain ⟨h1, h2, h3, h4, ⟨xv, h5, hxs⟩, ⟨tao, tcap, h6, h7, h8⟩, ⟨eao, ecap, j6, j7, j8⟩, h9⟩ := hr
          obtain ⟨hh, hwx, hxz, hwr⟩ := hwf
          simp only [SL.len] at hjl
          obtain ⟨xao, xcap, rfl, hxl⟩ := hxs.head
          obtain rfl := (unhide HG) (by omega)
          have HR := hide h9
          have HWq := hide hwr
          have j1 : (j : Int) < (n : Int) := by omega
          have jx0 : (0 : Int) ≤ (j : Int) := by omega
          have HJL := hide hjl
          have hkw : Keeps (fun _ => False) w4 wr := (unhide HK).trans hkeep2
          have e0 : ∀ m : KW wr, m.wd.cell? ⟨w.heap.size, 0, none⟩ = some (.slice (some ⟨b, off, none⟩) S.length sc) := fun m => unhide HSB _ (((unhide HKb).trans hkw).trans m.kept)
          have e1 : ∀ m : KW wr, m.wd.cell? ⟨b, off + k * 3, none⟩ = some (str f.name) := fun m => unhide HQ _ (hkw.trans m.kept)
          have f0 : ∀ m : KW wr, m.wd.cell? ⟨g, goff + j * 5, none⟩ = some (.int .i64 op) := fun m => ((hkw.trans m.kept).cell h1 id).trans h3
          have f1 : ∀ m : KW wr, m.wd.cell? ⟨g, goff + j * 5 + 1, none⟩ = some (str ff) := fun m => ((hkw.trans m.kept).cell h1 id).trans h4
          have f2 : ∀ m : KW wr, m.wd.cell? ⟨g, goff + j * 5 + 2, none⟩ = some (.slice xao x.len xcap) := fun m => ((hkw.trans m.kept).cell h1 id).trans h5
          have f3 : ∀ m : KW wr, m.wd.cell? ⟨g, goff + j * 5 + 3, none⟩ = some (.slice tao t.len tcap) := fun m => ((hkw.trans m.kept).cell h1 id).trans h6
          have f4 : ∀ m : KW wr, m.wd.cell? ⟨g, goff + j * 5 + 4, none⟩ = some (.slice eao el.len ecap) := fun m => ((hkw.trans m.kept).cell h1 id).trans j6
          have HE := hide (fun (m : KW wr) => kw_of m (uses_v (argZ w4.heap.size) op ff x hxz f.name m.wd g _ (.slice tao t.len tcap) (.slice eao el.len ecap) (hxs.keepF (hkw.trans m.kept)) ⟨_, _, _, _, _, _, rfl, rfl⟩))
          have HA2 : Hid ((a || (rd1 op ff x f.name || decide (0 < rdF rest f.name))) = decide (0 < rdF (flatS l) f.name)) := by have hh := unhide HA1; rw [rd_head] at hh; exact hh
          have HB2 : Hid ((bb || (wr1 op ff f.name || decide (0 < wrF rest f.name))) = decide (0 < wrF (flatS l) f.name)) := by have hh := unhide HB1; rw [wr_head] at hh; exact hh
          generalize rd1 op ff x f.name = R1 at HE HA2
          generalize wr1 op ff f.name = R2 at HE HB2
          clear hkeep2 hkw h1 h2 h3 h4 h5 h6 h8 h9 j6 j8 hxs hh hwx hwr hjl HA1 HB1
          cases a <;> cases bb
          all_goals
            go_wp2_with fail
            refine region_kept (by kernel_rfl) (by kernel_rfl) ?_
            repeat (go_big_quiet_step ((go_at_call 26; exact unhide HE _)))
            refine wpQuiet_nil ?_
            rintro _ ⟨nq, rfl⟩
            have HK1 := hide nq.kept
            go_wp2_with fail
            go_roundw
            case rel =>
              refine ⟨rest, j + 1, _, _, rfl, rfl, by go_num, by have := unhide HJL; omega, ?_, ?_, unhide HWq, (unhide HK2).trans (unhide HK1), ?_⟩
              · exact (by rw [← unhide HA2]; rfl)
              · exact (by rw [← unhide HB2]; rfl)
              · rw [show goff + (j + 1) * 5 = goff + j * 5 + 5 by omega]
                exact unhide HR
            case measure => have := unhide HJL; simp [intOf]; omega
        | nil =>
          simp only [SL.len, Nat.add_zero] at hjl
          have j1 : ¬ (j : Int) < (n : Int) := by omega
          have HA1 : Hid (a = decide (0 < rdF (flatS l) f.name)) := by have h := unhide HA1; exact hide (by simpa [rdF] using h)
          have HB1 : Hid (bb = decide (0 < wrF (flatS l) f.name)) := by have h := unhide HB1; exact hide (by simpa [wrF] using h)
          have hk4 : Keeps (fun _ => False) w4 wr := (unhide HK).trans hkeep2
          have hswr := hk4.size
          have HKwr := hide hk4
          have HTwr := hide ((unhide HT).keepF hkeep2)
          have swr := unhide HSB _ ((unhide HKb).trans hk4)
          have twr := unhide HQ _ hk4
          clear hkeep2 hr hwf hk4 hjl p0
          cases a with
          | false =>
            cases bb with
            | false =>
              go_wp2_with fail
              go_roundw
              case rel =>
                refine ⟨k + 1, by go_num, by omega, ?_, unhide HKwr⟩
                rw [unhide HTK, unhide HP1, unhide HP2, if_neg (by rw [← unhide HA1]; simp), List.append_nil, if_neg (by rw [← unhide HB1]; simp), List.append_nil]
                exact unhide HTwr
              case measure => simp [intOf]; omega

            | true =>
              go_wp2_with (at_builtin; refine wpList_append_lies _ rfl _ _ _ rfl w4.heap.size 9 i0 _ 1 16 Tryz.underlying29 hi hz0 hz1 hz2 rfl (by omega) (.slice po _ pc) _ _ rfl (ownsRow_kept (unhide HTwr).2.1 ((Keeps.refl (fun _ => False) _).alloc _) (fun _ _ => id)) ⟨wr.heap.size, 0, none⟩ 1 1 [str f.name] rfl rfl (World.news_of_block (cs := #[str f.name]) (t := 9) (fr := (0, 0)) (heap_alloc_new wr _)) (by simp [Value.oneCell']) (by omega) (by unfold maxLen; omega) (by omega) (by simp; omega) (wr.heap.size + 1) (by simp) ?_; intro gw6 cw6 w6 hown hgrow hat _; have HTw6 := hide ((((unhide HTwr).symm).step hown hgrow hat).symm); have hk6 : Keeps (fun _ => False) w4 w6 := ((unhide HKwr).alloc _).grown hgrow (fun q e hq => by have := ((unhide HTwr).2.1.lt q e).1; omega); have hsw6 := hk6.size; have HKw6 := hide hk6; have sw6 := unhide HSB _ ((unhide HKb).trans hk6); have tw6 := unhide HQ _ hk6; clear hown hgrow hat hk6)
              go_roundw
              case rel =>
                refine ⟨k + 1, by go_num, by omega, ?_, unhide HKw6⟩
                rw [unhide HTK, unhide HP1, unhide HP2, if_neg (by rw [← unhide HA1]; simp), List.append_nil, if_pos (unhide HB1).symm]
                exact unhide HTw6
              case measure => simp [intOf]; omega

          | true =>
            cases bb with
            | false =>
              go_wp2_with (at_builtin; refine wpList_append_lies _ rfl _ _ _ rfl w4.heap.size 9 i0 _ 1 16 Tryz.underlying29 hi hz0 hz1 hz2 rfl (by omega) (.slice oo _ oc) _ _ rfl (ownsRow_kept (unhide HTwr).1 ((Keeps.refl (fun _ => False) _).alloc _) (fun _ _ => id)) ⟨wr.heap.size, 0, none⟩ 1 1 [str f.name] rfl rfl (World.news_of_block (cs := #[str f.name]) (t := 9) (fr := (0, 0)) (heap_alloc_new wr _)) (by simp [Value.oneCell']) (by omega) (by unfold maxLen; omega) (by omega) (by simp; omega) (wr.heap.size + 1) (by simp) ?_; intro gw6 cw6 w6 hown hgrow hat _; have HTw6 := hide ((unhide HTwr).step hown hgrow hat); have hk6 : Keeps (fun _ => False) w4 w6 := ((unhide HKwr).alloc _).grown hgrow (fun q e hq => by have := ((unhide HTwr).1.lt q e).1; omega); have hsw6 := hk6.size; have HKw6 := hide hk6; have sw6 := unhide HSB _ ((unhide HKb).trans hk6); have tw6 := unhide HQ _ hk6; clear hown hgrow hat hk6)
              go_roundw
              case rel =>
                refine ⟨k + 1, by go_num, by omega, ?_, unhide HKw6⟩
                rw [unhide HTK, unhide HP1, unhide HP2, if_pos (unhide HA1).symm, if_neg (by rw [← unhide HB1]; simp), List.append_nil]
                exact unhide HTw6
              case measure => simp [intOf]; omega

            | true =>
              have mk1 : True := trivial
              go_wp2_with (first
                | (clear mk1; at_builtin; refine wpList_append_lies _ rfl _ _ _ rfl w4.heap.size 9 i0 _ 1 16 Tryz.underlying29 hi hz0 hz1 hz2 rfl (by omega) (.slice oo _ oc) _ _ rfl (ownsRow_kept (unhide HTwr).1 ((Keeps.refl (fun _ => False) _).alloc _) (fun _ _ => id)) ⟨wr.heap.size, 0, none⟩ 1 1 [str f.name] rfl rfl (World.news_of_block (cs := #[str f.name]) (t := 9) (fr := (0, 0)) (heap_alloc_new wr _)) (by simp [Value.oneCell']) (by omega) (by unfold maxLen; omega) (by omega) (by simp; omega) (wr.heap.size + 1) (by simp) ?_; intro gw6 cw6 w6 hown hgrow hat _; have HTw6 := hide ((unhide HTwr).step hown hgrow hat); have hk6 : Keeps (fun _ => False) w4 w6 := ((unhide HKwr).alloc _).grown hgrow (fun q e hq => by have := ((unhide HTwr).1.lt q e).1; omega); have hsw6 := hk6.size; have HKw6 := hide hk6; have sw6 := unhide HSB _ ((unhide HKb).trans hk6); have tw6 := unhide HQ _ hk6; clear hown hgrow hat hk6; have mk2 : True := trivial)
                | (clear mk2; at_builtin; refine wpList_append_lies _ rfl _ _ _ rfl w4.heap.size 9 i0 _ 1 16 Tryz.underlying29 hi hz0 hz1 hz2 rfl (by omega) (.slice po _ pc) _ _ rfl (ownsRow_kept (unhide HTw6).2.1 ((Keeps.refl (fun _ => False) _).alloc _) (fun _ _ => id)) ⟨w6.heap.size, 0, none⟩ 1 1 [str f.name] rfl rfl (World.news_of_block (cs := #[str f.name]) (t := 9) (fr := (0, 0)) (heap_alloc_new w6 _)) (by simp [Value.oneCell']) (by omega) (by unfold maxLen; omega) (by omega) (by simp; omega) (w6.heap.size + 1) (by simp) ?_; intro gw7 cw7 w7 hown hgrow hat _; have HTw7 := hide ((((unhide HTw6).symm).step hown hgrow hat).symm); have hk6 : Keeps (fun _ => False) w4 w7 := ((unhide HKw6).alloc _).grown hgrow (fun q e hq => by have := ((unhide HTw6).2.1.lt q e).1; omega); have hsw7 := hk6.size; have HKw7 := hide hk6; have sw7 := unhide HSB _ ((unhide HKb).trans hk6); have tw7 := unhide HQ _ hk6; clear hown hgrow hat hk6))
              go_roundw
              case rel =>
                refine ⟨k + 1, by go_num, by omega, ?_, unhide HKw7⟩
                rw [unhide HTK, unhide HP1, unhide HP2, if_pos (unhide HA1).symm, if_pos (unhide HB1).symm]
                exact unhide HTw7
              case measure => simp [intOf]; omega
end Go.Proofs.YtoempeobaknkcaaGreatDoor
namespace Go.Proofs.YtoempeobaknkcaaGreatDoor
open Go.RowKit Go.Maps

/-- What Fields leaves. -/
def FdPost (S : List FieldA) (l : SL) (w : World) (e : Ending) (w' : World) : Prop :=
  ∃ rv wv, e = .returned (.tuple #[rv, wv, .int .i64 (fieldsP S l).2.2]) ∧ NmAt w' w.heap.size rv (fieldsP S l).1 ∧ NmAt w' w.heap.size wv (fieldsP S l).2.1 ∧ Keeps (fun _ => False) w w'
/-- The same, and that the two lists lie apart. -/
def FdPost2 (S : List FieldA) (l : SL) (w : World) (e : Ending) (w' : World) : Prop :=
  ∃ rv wv, e = .returned (.tuple #[rv, wv, .int .i64 (fieldsP S l).2.2]) ∧ NmAt w' w.heap.size rv (fieldsP S l).1 ∧ NmAt w' w.heap.size wv (fieldsP S l).2.1 ∧ (∀ q, rv.ownBlock = some q → wv.ownBlock ≠ some q) ∧ Keeps (fun _ => False) w w'
theorem FdPost2.one {S : List FieldA} {l : SL} {w w' : World} {e : Ending} : FdPost2 S l w e w' → FdPost S l w e w' := by
  rintro ⟨rv, wv, he, h1, h2, _, h3⟩
  exact ⟨rv, wv, he, h1, h2, h3⟩
theorem tfields2_v (Z : Zone) (S : List FieldA) (l : SL) (hsz : l.size ≤ 4294967294) (sv pv : Value) (w : World) (up : Nat) (hT : Types w) (hF : Forms w) (hf : FldsAt w sv S) (hp : SlS Z w up pv l) :
    Calls Tryz.prog 15 #[.agg #[sv], pv] w (FdPost2 S l w) := by
  by_cases hE : (checkP S l).1 = 0
  · refine (tfields_fit Z S l hsz sv pv w up hT hF hf hp hE).mono ?_
    rintro e w' ⟨rv, wv, he, h1, h2, h4, h3⟩
    unfold FdPost2 fieldsP
    rw [if_neg (by simpa using hE)]
    exact ⟨rv, wv, he, h1, h2, h4, h3⟩
  · refine (tfields_bad Z S l hsz sv pv w up hT hF hf hp hE).mono ?_
    rintro e w' ⟨he, h3⟩
    unfold FdPost2 fieldsP
    rw [if_pos hE]
    exact ⟨_, _, he, World.ownsRow_nil _ _ 9 1, World.ownsRow_nil _ _ 9 1, (fun q e => by cases e), h3⟩
theorem tfields_v (Z : Zone) (S : List FieldA) (l : SL) (hsz : l.size ≤ 4294967294) (sv pv : Value) (w : World) (up : Nat) (hT : Types w) (hF : Forms w) (hf : FldsAt w sv S) (hp : SlS Z w up pv l) :
    Calls Tryz.prog 15 #[.agg #[sv], pv] w (FdPost S l w) := (tfields2_v Z S l hsz sv pv w up hT hF hf hp).mono fun _ _ => FdPost2.one
theorem rfields_v (Z : Zone) (S : List FieldA) (l : SL) (hsz : l.size ≤ 4294967294) (sv pv : Value) (w : World) (up : Nat) (hf : FldsAt w sv S) (hp : SlS Z w up pv l) :
    Calls Tryz.prog 8 #[.agg #[sv], pv] w (FdPost S l w) := by
  by_cases hE : (checkP S l).1 = 0
  · refine (rfields_fit Z S l hsz sv pv w up hf hp hE).mono ?_
    rintro e w' ⟨rv, wv, he, h1, h2, h3⟩
    unfold FdPost fieldsP
    rw [if_neg (by simpa using hE)]
    exact ⟨rv, wv, he, h1, h2, h3⟩
  · refine (rfields_bad Z S l hsz sv pv w up hf hp hE).mono ?_
    rintro e w' ⟨he, h3⟩
    unfold FdPost fieldsP
    rw [if_pos hE]
    exact ⟨_, _, he, World.ownsRow_nil _ _ 9 1, World.ownsRow_nil _ _ 9 1, h3⟩

set_option maxRecDepth 100000 in
set_option maxHeartbeats 4000000 in
/-- The law's own call of Fields, on twins. -/
theorem lawFields_v (Z : Zone) (S : List FieldA) (hlS : S.length ≤ 4398046511104) (l : SL) (hsz : l.size ≤ 4294967294) (sv pv : Value) (w : World) (up : Nat) (hT : Types w) (hF : Forms w) (hf : FldsAt w sv S) (hp : SlS Z w up pv l) :
    Calls Tryz.prog 7 #[.agg #[sv], pv] w (FdPost2 S l w) := by
  obtain ⟨ao, cap, rfl, hc⟩ := hp.head
  obtain ⟨so, sc, rfl⟩ := RowAt.form hf
  obtain ⟨HB, hxb, hxc⟩ := boxedT w #[.slice so S.length sc] 24
  have c0 := hxc 0 (.slice so S.length sc) rfl
  have SB : ∀ w', Keeps (fun _ => False) (w.alloc (.cells #[.slice so S.length sc] 24)) w' → w'.cell? ⟨w.heap.size, 0, none⟩ = some (.slice so S.length sc) := fun w' hk => (hk.cell hxb id).trans c0
  have HSB := hide SB
  have HCP := hide (copySchema_big _ (.slice so S.length sc) S (hf.keepF (unhide HB)) hlS)
  have HCT := fun w' (hk : Keeps (fun _ => False) w w') => hide (copyStmts_v Z (l.size + 1) l (by omega) hsz w' up (.slice ao l.len cap) (hp.keepF hk))
  have HT := hide hT
  have HFM := hide hF
  have HF := hide hf
  have HP := hide hp
  have hw0 : w.heap.size ≤ w.heap.size := Nat.le_refl _
  clear hT hF hf hp SB hxc
  go_enter Tryz.func7, Tryz.ntmps7
  go_wp2_with (first
    | (go_at_call 22; refine (unhide HCP).mono ?_; rintro e w1 ⟨v', rfl, hown, hk1⟩; obtain ⟨vo, vc, rfl⟩ := (rowAt_own hown).form; have hka := hk1.alloc (.cells #[.slice vo S.length vc] 24); have HFC := hide (RowAt.keepF (rowAt_own hown) ((Keeps.refl _ w1).alloc (.cells #[.slice vo S.length vc] 24)) : RowAt _ _ S.length (fcs S)); have HB2 := hide (heap_alloc_new w1 (.cells #[.slice vo S.length vc] 24)); have y2 := cell_of_blk (unhide HB2) 0; simp at y2; have y1 := unhide HSB _ hka; have HKa := hide ((unhide HB).trans hka); have HKb := hide hka; clear hown hk1 hka)
    | (go_at_call 20; refine (unhide (HCT _ (unhide HKa))).mono ?_; rintro e w2 ⟨pv2, rfl, hs2, hk2⟩; obtain ⟨po, pc, rfl, hpc⟩ := hs2.head; have HPC := hide hs2; have HFC := hide (RowAt.keepF (unhide HFC) hk2); have HB2 := hide ((hk2.block _ (lt_of_block (unhide HB2)) id).trans (unhide HB2)); have y2 := cell_of_blk (unhide HB2) 0; simp at y2; have HKa := hide ((unhide HKa).trans hk2); have HKb := hide ((unhide HKb).trans hk2); have y1 := unhide HSB _ (unhide HKb); clear hs2 hk2)
    | (go_at_call 15; refine (tfields2_v _ S l hsz _ _ _ 0 ((unhide HT).keepF (unhide HKa)) ((unhide HFM).keepF (unhide HKa)) (unhide HFC) (unhide HPC)).mono ?_; rintro e w3 ⟨rv, wv, rfl, hrv, hwv, hrw, hk3⟩; have HRW := hide hrw; clear hrw; have HRV := hide (ownsRow_lower hrv (unhide HKa).size); have HWV := hide (ownsRow_lower hwv (unhide HKa).size); have HFC := hide (RowAt.keepF (unhide HFC) hk3); have HPC := hide ((unhide HPC).keepF hk3); have HB2 := hide ((hk3.block _ (lt_of_block (unhide HB2)) id).trans (unhide HB2)); have y2 := cell_of_blk (unhide HB2) 0; simp at y2; have HKa := hide ((unhide HKa).trans hk3); have HKb := hide ((unhide HKb).trans hk3); have y1 := unhide HSB _ (unhide HKb); clear hk3 hrv hwv)
    | (go_at_call 23; refine (eqSchema_any _ _ _ S S (unhide HFC) ((unhide HF).keepF (unhide HKa)) (by unfold maxLen; omega)).mono ?_; rintro e w4 ⟨rfl, hk4⟩; rw [decide_eq_true rfl]; have HRV := hide (ownsRow_kept (unhide HRV) hk4 (fun _ _ => id)); have HWV := hide (ownsRow_kept (unhide HWV) hk4 (fun _ _ => id)); have HPC := hide ((unhide HPC).keepF hk4); have HKa := hide ((unhide HKa).trans hk4); clear hk4)
    | (go_at_call 18; refine (eqStmts_same _ Z (l.size + 1) l (by omega) hsz _ 0 up _ _ (unhide HPC) ((unhide HP).keepF (unhide HKa))).mono ?_; rintro e w5 ⟨rfl, hk5⟩; have HRV := hide (ownsRow_kept (unhide HRV) hk5 (fun _ _ => id)); have HWV := hide (ownsRow_kept (unhide HWV) hk5 (fun _ _ => id)); have HKa := hide ((unhide HKa).trans hk5); clear hk5))
  refine bodyPost_ret (v := .tuple #[rv, wv, .int .i64 (fieldsP S l).2.2]) (by simp [results, go_sem]) rfl ?_
  exact ⟨rv, wv, rfl, unhide HRV, unhide HWV, unhide HRW, unhide HKa⟩
end Go.Proofs.YtoempeobaknkcaaGreatDoor
namespace Go.Proofs.YtoempeobaknkcaaGreatDoor
open Go.RowKit Go.Maps

theorem bf_typed {w : World} {B g k : Nat} {c : Array Value} {t : TypeId} (hc : w.heap[k]? = some (.cells c t (0, 0))) (hg : k ≠ g) (h1 : t ≠ 25) (h2 : t ≠ 51) (h3 : t ≠ 3) : ¬ BF w B g k := by
  rintro (e | ⟨_, x, u, hu, hx⟩)
  · exact hg e
  · rcases hu with rfl | rfl | rfl
    · exact typed_ne hc hx h1
    · exact typed_ne hc hx h2
    · exact typed_ne hc hx h3

set_option maxRecDepth 100000 in
set_option maxHeartbeats 8000000 in
theorem roomed_v (Z : Zone) (S : List FieldA) (l : SL) (hsz : l.size ≤ 4294967294) (sv pv : Value) (w : World) (up : Nat) (hT : Types w) (hF : Forms w) (hf : FldsAt w sv S) (hp : SlS Z w up pv l) (hZ : Plain Z w.heap.size) (hn : S.length + 64 ≤ 4398046511104) :
    Calls Tryz.prog 5 #[.agg #[sv], pv] w fun e w' => e = .returned (.bool true) ∧ Keeps (fun _ => False) w w' := by
  obtain ⟨so, sc, rfl⟩ := RowAt.form hf
  obtain ⟨po, pc, rfl, _⟩ := hp.head
  obtain ⟨HK0, hbs0, hbc⟩ := boxed w #[.slice so S.length sc] 24
  have s0 := hbc 0 (.slice so S.length sc) rfl
  have HSB := hide (heap_alloc_new w (.cells #[.slice so S.length sc] 24))
  have HC1 := hide (roomFields_v S _ _ (hf.keepF HK0) hn)
  have HKX := hide HK0
  have HT := hide hT
  have HF := hide hF
  have HFL := hide hf
  have HP := hide hp
  have HZ := hide hZ
  have HSZ := hide hsz
  have HNN := hide hn
  clear hbc hT hF hf hp hZ HK0 hn
  go_enter Tryz.func5, Tryz.ntmps5
  go_upto_region 1 with fail
  generalize w.alloc (.cells #[.slice so S.length sc] 24) = X0 at *
  go_upto_region 3 with (go_at_call 12; refine (unhide HC1).mono ?_; rintro e w1 ⟨g1, cap1, rfl, ho1, hk1⟩; have HO1 := hide ho1; have HK1 := hide hk1; clear ho1 hk1)
  obtain ⟨g, hgg⟩ : ∃ g, g = (w1.alloc (.cells #[.slice (some ⟨g1, 0, none⟩) S.length cap1] 24)).heap.size := ⟨_, rfl⟩
  have hg2 : g = w1.heap.size + 1 := by rw [hgg]; simp
  obtain ⟨X1, hX1⟩ : ∃ X, X = w1.alloc (.cells #[.slice (some ⟨g1, 0, none⟩) S.length cap1] 24) := ⟨_, rfl⟩
  obtain ⟨X2, hX2⟩ : ∃ X, X = X1.alloc (.cells #[.slice none 0 0, .slice none 0 0, .slice none 0 0, .slice none 0 0] 47) := ⟨_, rfl⟩
  have hk12 : Keeps (fun _ => False) w1 X2 := by rw [hX2, hX1]; exact ((Keeps.refl _ w1).alloc _).alloc _
  have hkw := (unhide HKX).trans ((unhide HK1).trans hk12)
  have hab : X2.heap[w1.heap.size]? = some (.cells #[.slice (some ⟨g1, 0, none⟩) S.length cap1] 24 (0, 0)) := by
    rw [hX2]
    refine (((Keeps.refl (fun _ => False) X1).alloc _).block _ (by rw [hX1]; simp) id).trans ?_
    rw [hX1]
    exact heap_alloc_new w1 _
  have hgb : X2.heap[g]? = some (.cells #[.slice none 0 0, .slice none 0 0, .slice none 0 0, .slice none 0 0] 47 (0, 0)) := by
    rw [hX2, hgg, ← hX1]
    exact heap_alloc_new X1 _
  have hsz1 := (unhide HKX).size
  have hsz2 := (unhide HK1).size
  have hR : RoomsAt X2 w.heap.size g [] [] (.slice none 0 0) (.slice none 0 0) (.slice none 0 0) (.slice none 0 0) :=
    ⟨by omega, hgb, World.ownsRow_nil _ _ _ _, World.ownsRow_nil _ _ _ _, World.ownsRow_nil _ _ _ _, World.ownsRow_nil _ _ _ _, (fun q e => by cases e), (fun p hp => by cases hp), (fun p hp => by cases hp)⟩
  have HC3 := hide (rStmts_v Z w.heap.size g (unhide HZ) (l.size + 1) l (by omega) (unhide HSZ) X2 up _ [] [] _ _ _ _ ((unhide HP).keepF hkw) hR (by have := unhide HSZ; simp; omega) (by have := unhide HSZ; simp; omega))
  have HSB2 := hide ((((unhide HK1).trans hk12).block _ hbs0 id).trans (unhide HSB))
  have HO2 := hide (ownsRow_kept (unhide HO1) hk12 (fun _ _ => id))
  have HAB := hide hab
  have HKW := hide hkw
  have HR := hide hR
  have hgs : w.heap.size ≤ g := by omega
  have hne1 : w1.heap.size ≠ g := by omega
  have hne2 : w.heap.size ≠ g := by omega
  rw [← hX1, ← hX2]
  subst hg2
  clear hX1 hX2 hk12 hkw hab hgb hR hgg s0 HC1 HSB HO1 HK1 HKX hbs0
  go_upto_region 4 with (go_at_call 13; refine (unhide HC3).mono ?_; rintro e w2 ⟨qv, LE2, LS2, vS2, vE2, vNS2, vNE2, rfl, hs2, hr2, _, _, _, _, hk2⟩; obtain ⟨qo, qc, rfl, hqc⟩ := hs2.head; have HS2 := hide hs2; have HR2 := hide hr2; have HKW2 := hide (narrowO (unhide HKW) hk2 (fun q e => e.lo hgs)); have sb := (hk2.block _ (lt_of_block (unhide HSB2)) (bf_typed (unhide HSB2) hne2 (by decide) (by decide) (by decide))).trans (unhide HSB2); have ab := (hk2.block _ (lt_of_block (unhide HAB)) (bf_typed (unhide HAB) hne1 (by decide) (by decide) (by decide))).trans (unhide HAB); have HSB3 := hide sb; have HAB3 := hide ab; have HO3 := hide (ownsRow_kept (unhide HO2) hk2 (fun q e f => by obtain ⟨_, c, hc⟩ := own_typed (unhide HO2) e; exact bf_typed hc (fun e2 => by subst e2; exact typed_ne hc (unhide HR).blk (by decide)) (by decide) (by decide) (by decide) f)); clear hs2 hr2 hk2 sb ab)
  have HFA := hide (fun (W : World) (hk : Keeps (fun _ => False) w2 W) => (show FldsAt W (.slice (some ⟨g1, 0, none⟩) S.length cap1) S from by
    have := rowAt_own (unhide HO3)
    rw [fcs_app] at this
    exact (FldsAt.keepF (RowAt.first this (by omega)) hk)))
  have a0 := (cell_of_blk (unhide HAB3) 0).trans (show _ = some (Value.slice (some ⟨g1, 0, none⟩) S.length cap1) from rfl)
  have HC4 := hide (tcheck_v _ S l (unhide HSZ) _ _ w2 0 ((unhide HT).keepF (unhide HKW2)) ((unhide HF).keepF (unhide HKW2)) (unhide HFA _ (Keeps.refl _ _)) (unhide HS2))
  clear HC3 HSB2 HAB HO2 HKW HR
  go_upto_region 5 with (go_at_call 14; refine (unhide HC4).mono ?_; rintro e w3 ⟨rfl, hk3⟩; have HK3 := hide hk3; have a3 := (hk3.cell (lt_of_block (unhide HAB3)) id).trans a0; have HC5 := hide (tfields_v _ S l (unhide HSZ) _ _ w3 0 ((unhide HT).keepF ((unhide HKW2).trans hk3)) ((unhide HF).keepF ((unhide HKW2).trans hk3)) (unhide HFA _ hk3) ((unhide HS2).keepF hk3)); clear hk3 a0)
  go_upto_region 6 with (go_at_call 15; refine (unhide HC5).mono ?_; rintro e w4 ⟨rv, wv, rfl, _, _, hk4⟩; have HK4 := hide ((unhide HK3).trans hk4); clear hk4)
  obtain ⟨ao, cap, b, off, e0, hcap, ha, hst⟩ := (unhide HS2).open
  simp only [Value.slice.injEq, true_and] at e0
  obtain ⟨rfl, rfl⟩ := e0
  have HA := hide ha
  have HST := hide hst
  have ab0 := lt_of_block (unhide HAB3)
  have a2 := (cell_of_blk (unhide HAB3) 0).trans (show _ = some (Value.slice (some ⟨g1, 0, none⟩) S.length cap1) from rfl)
  have hlen : l.len ≤ 4294967294 := by have := SL.len_le l; have := unhide HSZ; omega
  clear a3 HC4 HC5 HK3 ha hst
  go_wp2_with fail
  go_loopw [9] (fun i wr => ∃ (rest : SL) (j : Nat), i = .int .i64 (j : Int) ∧ j + rest.len = l.len ∧ rest.size ≤ l.size ∧ Hid (StIn (tyZ (fun k => X2.heap.size ≤ k)) w2 rest b (off + j * 5)) ∧ Hid (Keeps (fun _ => False) w2 wr)) (fun i _ => l.len - (intOf i).toNat)
  case atStart => exact ⟨l, 0, rfl, by omega, Nat.le_refl _, by simpa using HST, HK4⟩
  case round =>
    clear HK4
    obtain ⟨rest, j, rfl, hjl, hrs, HRS, HK⟩ := hrel
    cases rest with
    | nil =>
      simp only [SL.len, Nat.add_zero] at hjl
      subst hjl
      have i1 : ¬ (l.len : Int) < (l.len : Int) := by omega
      have hsb := lt_of_block (unhide HSB3)
      have s0 := ((unhide HK).cell hsb id).trans ((cell_of_blk (unhide HSB3) 0).trans (show _ = some (Value.slice so S.length sc) from rfl))
      have HFR := hide (fun (W : World) (hk : Keeps (fun _ => False) w2 W) => (show FldsAt W (.slice (some ⟨g1, 0, none⟩) (S.length + 64) cap1) (S ++ roomsF 64) from by
        have := RowAt.keepF (rowAt_own (unhide HO3)) hk
        have e : (S ++ roomsF 64).length = S.length + 64 := by rw [List.length_append, roomsF_len]
        rw [← e] at this ⊢
        exact this))
      have HC6 := hide (fieldsKept_v S _ _ wr (unhide HFR _ (unhide HK)) ((unhide HFL).keepF ((unhide HKW2).trans (unhide HK))) (unhide HNN))
      go_wp2_with (first
        | (go_at_call 17; refine (unhide HC6).mono ?_; rintro e w5 ⟨rfl, hk5⟩; have HK5 := hide ((unhide HK).trans hk5); have HC7 := hide (eqStmts_same _ Z (l.size + 1) l (by omega) (unhide HSZ) w5 0 up _ _ ((unhide HS2).keepF (unhide HK5)) ((unhide HP).keepF ((unhide HKW2).trans (unhide HK5)))); clear hk5)
        | (go_at_call 18; refine (unhide HC7).mono ?_; rintro e w6 ⟨rfl, hk6⟩; have HK6 := hide ((unhide HK5).trans hk6); have HC8 := hide (kept_v _ _ _ _ _ _ _ _ w6 ((unhide HR2).keepF (unhide HK6))); clear hk6)
        | (go_at_call 19; refine (unhide HC8).mono ?_; rintro e w7 ⟨rfl, hk7⟩; have HK7 := hide ((unhide HK6).trans hk7); clear hk7))
      go_ret
      exact ⟨rfl, (unhide HKW2).trans (unhide HK7)⟩
    | cons op f x t el rest =>
      obtain ⟨h1, h2, h3, h4, ⟨xv, h5, hxs⟩, _, _, h9⟩ := unhide HRS
      simp only [SL.len, SL.size] at hjl hrs
      obtain ⟨rfl, _⟩ := unhide HA (by omega)
      obtain ⟨xo, xc, bx, xoff, rfl, hxc, hxa, hxi⟩ := hxs.open
      have HXA := hide hxa
      have HXI := hide hxi
      have H9 := hide h9
      have i1 : (j : Int) < (l.len : Int) := by omega
      have i2 : (0 : Int) ≤ (j : Int) := by omega
      have hxl : x.len ≤ 4294967294 := by have := EL.len_le x; have := unhide HSZ; omega
      clear HRS h9 hxi hxa hxs h2 h3 h4
      go_wp2_with fail
      go_loopw [10] (fun i wq => ∃ (re : EL) (k : Nat), i = .int .i64 (k : Int) ∧ k + re.len = x.len ∧ re.size ≤ x.size ∧ Hid (ExIn (tyZ (fun k => X2.heap.size ≤ k)) w2 re bx (xoff + k * 4)) ∧ Hid (Keeps (fun _ => False) w2 wq)) (fun i _ => x.len - (intOf i).toNat)
      case atStart => exact ⟨x, 0, rfl, by omega, Nat.le_refl _, by simpa using HXI, HK⟩
      case round =>
        clear HK
        rename_i w0_
        obtain ⟨re, k, rfl, hkl, hks, HRE, HK⟩ := hrel
        have d5 := ((unhide HK).cell h1 id).trans h5
        cases re with
        | nil =>
          simp only [EL.len, Nat.add_zero] at hkl
          subst hkl
          have i3 : ¬ (x.len : Int) < (x.len : Int) := by omega
          go_wp2_with fail
          go_roundw
          case rel => exact ⟨rest, j + 1, by go_num, by omega, by omega, by rw [show off + (j + 1) * 5 = off + j * 5 + 5 by omega]; exact H9, HK⟩
          case measure => simp [intOf]; omega
        | cons op2 n2 s2 kids re =>
          obtain ⟨y1, y2, y3, y4, y5, ⟨ko, kc, y6, y7, y8⟩, y9⟩ := unhide HRE
          simp only [EL.len, EL.size] at hkl hks
          obtain ⟨rfl, _⟩ := unhide HXA (by omega)
          have HKI : Hid (SlE (tyZ (fun k => X2.heap.size ≤ k)) w2 bx (.slice ko kids.len kc) kids) := ⟨ko, kc, rfl, y7, y8⟩
          have H9X := hide y9
          have z0 := ((unhide HK).cell y1 id).trans y3
          have z1 := ((unhide HK).cell y1 id).trans y4
          have z2 := ((unhide HK).cell y1 id).trans y5
          have z3 := ((unhide HK).cell y1 id).trans y6
          have z4 := ((unhide HK).cell ab0 id).trans a2
          have i3 : (k : Int) < (x.len : Int) := by omega
          have i4 : (0 : Int) ≤ (k : Int) := by omega
          have hkd : kids.size + 1 ≤ 4294967294 := by have := unhide HSZ; omega
          have HC := hide (fun (W : World) (hk : Keeps (fun _ => False) w2 W) => type_v _ S op2 n2 s2 kids hkd (.slice (some ⟨g1, 0, none⟩) S.length cap1) _ W bx ((unhide HT).keepF ((unhide HKW2).trans hk)) ((unhide HF).keepF ((unhide HKW2).trans hk)) (unhide HFA _ hk) ((unhide HKI).keepF hk))
          clear HRE y1 y3 y4 y5 y6 y8 y9
          go_upto_region 12 with fail
          go_region_with (go_at_call 16; refine (unhide HC _ (unhide HK).drew).mono ?_; rintro e w9 ⟨rfl, hk9⟩; have HK9 := hide ((unhide HK).drew.trans hk9); clear hk9)
          all_goals (go_wp2_with fail; go_roundw; (case rel => exact ⟨re, k + 1, by go_num, by omega, by omega, by rw [show xoff + (k + 1) * 4 = xoff + k * 4 + 4 by omega]; exact H9X, HK9⟩); (case measure => simp [intOf]; omega))
end Go.Proofs.YtoempeobaknkcaaGreatDoor
namespace Go.Proofs.YtoempeobaknkcaaGreatDoor
open Go.RowKit Go.Maps

/-- What a copy of expressions leaves, told by its row: nothing below it lies in the row's own block. -/
def CPostR (l : EL) (w : World) (e : Ending) (w' : World) : Prop := ∃ v' xs A, e = .returned v' ∧ w'.ownsRow w.heap.size 57 4 v' l.len xs ∧ CsIn A w' l xs ∧ (∀ q, A q → w.heap.size ≤ q ∧ q < w'.heap.size ∧ v'.ownBlock ≠ some q) ∧ Keeps (fun _ => False) w w'

set_option maxRecDepth 100000 in
set_option maxHeartbeats 4000000 in
theorem copyExprsR_v (Z : Zone) (l : EL) (hlen' : l.size ≤ 4294967294) (w : World) (up : Nat) (v : Value) (hS : SlE Z w up v l) : Calls Tryz.prog 39 #[v] w (CPostR l w) := by
  have hlen : l.len ≤ 4294967294 := by have := EL.len_le l; omega
  obtain ⟨ao, cap, b, off, rfl, hcap, ha, hx⟩ := hS.open
  obtain ⟨i0, hi, hz0, hz1, hz2⟩ := info_parts Tryz.info57
  have HX := hide hx
  have HA := hide ha
  clear hS hx ha
  go_enter Tryz.func39, Tryz.ntmps39
  go_wp2_with fail
  go_loopw [3, 4] (fun o i wr => ∃ (pre rest : EL) (k : Nat) (xs : List Value) (A : Nat → Prop), i = .int .i64 k ∧ l = pre.app rest ∧ k = pre.len ∧ wr.ownsRow w.heap.size 57 4 o k xs ∧ CsIn A wr pre xs ∧ (∀ q, A q → w.heap.size ≤ q ∧ q < wr.heap.size ∧ o.ownBlock ≠ some q) ∧ Keeps (fun _ => False) w wr ∧ ExIn Z w rest b (off + k * 4)) (fun _ i _ => l.len - (intOf i).toNat)
  case atStart => exact ⟨.nil, l, 0, [], fun _ => False, rfl, rfl, rfl, World.ownsRow_nil w w.heap.size 57 4, rfl, fun q h => h.elim, Keeps.refl _ _, by simpa using unhide HX⟩
  case round =>
    obtain ⟨pre, rest, k, xs, A, rfl, happ, hkp, hown, hcs, hAq, hkeep, hr⟩ := hrel
    obtain ⟨oo, oc, rfl⟩ := (rowAt_own hown).form
    have hll := congrArg EL.len happ
    have hls := congrArg EL.size happ
    rw [EL.len_app] at hll
    rw [EL.size_app] at hls
    have HO := hide hown
    have HCS := hide hcs
    have HAQ := hide hAq
    have HK := hide hkeep
    have HAPP := hide happ
    cases rest with
    | nil =>
      rw [EL.app_nil] at happ
      subst happ
      simp only [EL.len, EL.size] at hll hls
      have i1 : ¬ (k : Int) < (l.len : Int) := by omega
      subst hkp
      clear hown hcs hAq hkeep hr hll hls HAPP
      go_wp2_with fail
      go_ret
      exact ⟨_, xs, A, rfl, unhide HO, unhide HCS, unhide HAQ, unhide HK⟩
    | cons op n s kids rest =>
      obtain ⟨h1, h2, h3, h4, h5, ⟨kao, kcap, h6, h7, h8⟩, h9⟩ := hr
      simp only [EL.len, EL.size] at hll hls
      have hkl : k + (rest.len + 1) = l.len := by omega
      have hks : pre.size + (kids.size + rest.size + 1) = l.size := by omega
      have HKP := hide hkp
      clear hll hls hkp
      obtain ⟨rfl, hp⟩ := (unhide HA) (by omega)
      have HKID : Hid (SlE Z w b (.slice kao kids.len kcap) kids) := ⟨kao, kcap, rfl, h7, h8⟩
      have HR := hide h9
      have i1 : (k : Int) < (l.len : Int) := by omega
      have ix0 : (0 : Int) ≤ (k : Int) := by omega
      have q0 := (hkeep.cell h1 id).trans h3
      have q1 := (hkeep.cell h1 id).trans h4
      have q2 := (hkeep.cell h1 id).trans h5
      have q3 := (hkeep.cell h1 id).trans h6
      have HC := hide (copyExpr_of op n s kids (.slice kao kids.len kcap) wr ⟨_, _, rfl⟩ (fun w' hk => copyExprs_v Z (kids.size + 1) kids (by omega) (by omega) w' b _ ((unhide HKID).keepF ((unhide HK).trans hk))))
      have HB0 : Hid (w.heap.size ≤ wr.heap.size) := hkeep.size
      clear hown hcs hAq hkeep h2 h3 h4 h5 h6 h8 h9 happ
      go_wp2_with (first
        | (go_at_call 40; refine (unhide HC).mono ?_; rintro e w1 ⟨kv, rfl, hs1, hk1⟩; obtain ⟨vo, vc, rfl, hvc⟩ := hs1.head; have HOX := hide (ownsRow_kept (unhide HO) (((hk1.alloc (.cells #[.int .i64 op, .int .i64 n, str s, .slice vo kids.len vc] 57)).alloc (.cells #[.int .i64 op, .int .i64 n, str s, .slice vo kids.len vc] 57))) (fun _ _ => id)); have HNB := hide (heap_alloc_new (w1.alloc (.cells #[.int .i64 op, .int .i64 n, str s, .slice vo kids.len vc] 57)) (.cells #[.int .i64 op, .int .i64 n, str s, .slice vo kids.len vc] 57)); rw [show (w1.alloc (.cells #[.int .i64 op, .int .i64 n, str s, .slice vo kids.len vc] 57)).heap.size = w1.heap.size + 1 by simp] at HNB; have HS1 := hide hs1; have HK1 := hide hk1; have hsz1 := hk1.size; clear hs1 hk1)
        | (at_builtin; refine wpList_append_lies _ rfl _ _ _ rfl w.heap.size 57 i0 _ 4 56 Tryz.underlying51 hi hz0 hz1 hz2 rfl (by omega) (.slice oo k oc) k xs rfl (unhide HOX) ⟨w1.heap.size + 1, 0, none⟩ 1 1 [.int .i64 op, .int .i64 n, str s, .slice vo kids.len vc] rfl rfl (World.news_of_block (cs := #[.int .i64 op, .int .i64 n, str s, .slice vo kids.len vc]) (t := 57) (fr := (0, 0)) (unhide HNB)) (by simp [Value.oneCell']) (by omega) (by unfold maxLen; omega) (by omega) (by have := unhide HB0; simp; omega) (w1.heap.size + 2) (by simp) ?_; intro g' cap6 w6 hown6 hgrow hat hlt6; have HO6 := hide hown6; have HGR := hide hgrow; have HAT := hide hat; clear hown6 hgrow hat))
      go_roundw
      case rel =>
        have hgr := unhide HGR
        have hk3 : Keeps (fun q => (Value.slice oo k oc).ownBlock = some q) w1 w6 := (((Keeps.refl _ w1).alloc _).alloc _).grown hgr (fun q e _ => e)
        have hk2 : Keeps (fun q => (Value.slice oo k oc).ownBlock = some q) wr w6 := (unhide HK1).any.trans hk3
        have hkw : Keeps (fun _ => False) w w6 := (unhide HK).narrow hk2 (fun q e => ((unhide HO).lt q e).1)
        have hol : ∀ q, (Value.slice oo k oc).ownBlock = some q → q < wr.heap.size := fun q e => ((unhide HO).lt q e).2
        have c1 := CsIn.mono (B := fun q => A q ∨ (wr.heap.size ≤ q ∧ q < w1.heap.size)) (fun _ _ h => Or.inl h) ((unhide HCS).keep hk2 (fun q _ h e => ((unhide HAQ) q h).2.2 e))
        have c2 : SlE (inZ (fun q => A q ∨ (wr.heap.size ≤ q ∧ q < w1.heap.size))) w6 0 (.slice vo kids.len vc) kids :=
          (((unhide HS1).inMono (up' := 0) (B := fun q => wr.heap.size ≤ q ∧ q < w1.heap.size) (fun q hq h => ⟨h, hq⟩)).inKeep hk3 (fun q _ h e => by have := hol q e; omega)).inMono (fun _ _ h => Or.inr h)
        have hs6 : w1.heap.size + 2 ≤ w6.heap.size := by have := hgr.size; simp at this; omega
        refine ⟨pre.app (.cons op n s kids .nil), rest, k + 1, _, _, by go_num, ?_, ?_, unhide HO6, c1.snoc c2, fun q hq => ?_, hkw, ?_⟩
        · rw [app_one]; exact unhide HAPP
        · rw [EL.len_app, unhide HKP]; rfl
        · have hb0 := unhide HB0
          rcases hq with hq | hq
          · obtain ⟨a1, a2, a3⟩ := (unhide HAQ) q hq
            refine ⟨a1, by omega, fun e => ?_⟩
            have e' : g' = q := by simpa [Value.ownBlock] using e
            rcases unhide HAT with h | h
            · exact a3 (by rw [h, e'])
            · omega
          · refine ⟨by omega, by omega, fun e => ?_⟩
            have e' : g' = q := by simpa [Value.ownBlock] using e
            rcases unhide HAT with h | h
            · have := hol _ h; omega
            · omega
        · rw [show off + (k + 1) * 4 = off + k * 4 + 4 by omega]
          exact unhide HR
      case measure => simp [intOf]; omega
end Go.Proofs.YtoempeobaknkcaaGreatDoor
namespace Go.Proofs.YtoempeobaknkcaaGreatDoor
open Go.RowKit Go.Maps

/-- What a copy of statements leaves, told by its row: nothing below it lies in the row's own block. -/
def CPostSR (l : SL) (w : World) (e : Ending) (w' : World) : Prop := ∃ v' xs A, e = .returned v' ∧ w'.ownsRow w.heap.size 53 5 v' l.len xs ∧ SsIn (inZ A) w' l xs ∧ (∀ q, A q → w.heap.size ≤ q ∧ q < w'.heap.size ∧ v'.ownBlock ≠ some q) ∧ Keeps (fun _ => False) w w'

set_option maxRecDepth 100000 in
set_option maxHeartbeats 8000000 in
theorem copyStmtsR_v (Z : Zone) (l : SL) (hlen' : l.size ≤ 4294967294) (w : World) (up : Nat) (v : Value) (hS : SlS Z w up v l) : Calls Tryz.prog 20 #[v] w (CPostSR l w) := by
  have hlen : l.len ≤ 4294967294 := by have := SL.len_le l; omega
  obtain ⟨ao, cap, b, off, rfl, hcap, ha, hx⟩ := hS.open
  obtain ⟨i0, hi, hz0, hz1, hz2⟩ := info_parts Tryz.info53
  have HX := hide hx
  have HA := hide ha
  clear hS hx ha
  go_enter Tryz.func20, Tryz.ntmps20
  go_wp2_with fail
  go_loopw [3, 4] (fun o i wr => ∃ (pre rest : SL) (k : Nat) (xs : List Value) (A : Nat → Prop), i = .int .i64 k ∧ l = pre.app rest ∧ k = pre.len ∧ wr.ownsRow w.heap.size 53 5 o k xs ∧ SsIn (inZ A) wr pre xs ∧ (∀ q, A q → w.heap.size ≤ q ∧ q < wr.heap.size ∧ o.ownBlock ≠ some q) ∧ Keeps (fun _ => False) w wr ∧ StIn Z w rest b (off + k * 5)) (fun _ i _ => l.len - (intOf i).toNat)
  case atStart => exact ⟨.nil, l, 0, [], fun _ => False, rfl, rfl, rfl, World.ownsRow_nil w w.heap.size 53 5, rfl, fun q h => h.elim, Keeps.refl _ _, by simpa using unhide HX⟩
  case round =>
    obtain ⟨pre, rest, k, xs, A, rfl, happ, hkp, hown, hcs, hAq, hkeep, hr⟩ := hrel
    obtain ⟨oo, oc, rfl⟩ := (rowAt_own hown).form
    have hll := congrArg SL.len happ
    have hls := congrArg SL.size happ
    rw [SL.len_app] at hll
    rw [SL.size_app] at hls
    have HO := hide hown
    have HCS := hide hcs
    have HAQ := hide hAq
    have HK := hide hkeep
    have HAPP := hide happ
    cases rest with
    | nil =>
      rw [SL.app_nil] at happ
      subst happ
      simp only [SL.len, SL.size] at hll hls
      have i1 : ¬ (k : Int) < (l.len : Int) := by omega
      subst hkp
      clear hown hcs hAq hkeep hr hll hls HAPP
      go_wp2_with fail
      go_ret
      exact ⟨_, xs, A, rfl, unhide HO, unhide HCS, unhide HAQ, unhide HK⟩
    | cons op f x t el rest =>
      obtain ⟨h1, h2, h3, h4, ⟨xv, h5, hxs⟩, ⟨tao, tcap, h6, h7, h8⟩, ⟨eao, ecap, j6, j7, j8⟩, h9⟩ := hr
      simp only [SL.len, SL.size] at hll hls
      have hkl : k + (rest.len + 1) = l.len := by omega
      obtain ⟨xao, xcap, rfl, hxl⟩ := hxs.head
      have hst : x.size ≤ 4294967294 ∧ t.size ≤ 4294967294 ∧ el.size ≤ 4294967294 := by omega
      have HKP := hide hkp
      have HST := hide hst
      clear hll hls hkp hst
      obtain ⟨rfl, hp⟩ := (unhide HA) (by omega)
      have HXS : Hid (SlE Z w b (.slice xao x.len xcap) x) := hxs
      have HTS : Hid (SlS Z w b (.slice tao t.len tcap) t) := ⟨tao, tcap, rfl, h7, h8⟩
      have HES : Hid (SlS Z w b (.slice eao el.len ecap) el) := ⟨eao, ecap, rfl, j7, j8⟩
      have HR := hide h9
      have i1 : (k : Int) < (l.len : Int) := by omega
      have ix0 : (0 : Int) ≤ (k : Int) := by omega
      have QX : ∀ W, Keeps (fun _ => False) w W → W.cell? ⟨b, off + k * 5, none⟩ = some (.int .i64 op) ∧ W.cell? ⟨b, off + k * 5 + 1, none⟩ = some (str f) ∧ W.cell? ⟨b, off + k * 5 + 2, none⟩ = some (.slice xao x.len xcap) ∧ W.cell? ⟨b, off + k * 5 + 3, none⟩ = some (.slice tao t.len tcap) ∧ W.cell? ⟨b, off + k * 5 + 4, none⟩ = some (.slice eao el.len ecap) := fun W hk =>
        ⟨(hk.cell h1 id).trans h3, (hk.cell h1 id).trans h4, (hk.cell h1 id).trans h5, (hk.cell h1 id).trans h6, (hk.cell h1 id).trans j6⟩
      have q0 := QX wr hkeep
      have hB0 : w.heap.size ≤ wr.heap.size := hkeep.size
      have HB0 := hide hB0
      obtain ⟨HBk, hkbb, hkc⟩ := boxedT wr #[.int .i64 op, str f, .slice xao x.len xcap, .slice tao t.len tcap, .slice eao el.len ecap] 53
      have HBX := hide (heap_alloc_new wr (.cells #[.int .i64 op, str f, .slice xao x.len xcap, .slice tao t.len tcap, .slice eao el.len ecap] 53))
      have HKw0 : Hid (Keeps (fun _ => False) w (wr.alloc (.cells #[.int .i64 op, str f, .slice xao x.len xcap, .slice tao t.len tcap, .slice eao el.len ecap] 53))) := hkeep.trans (unhide HBk)
      have qq := QX _ (unhide HKw0)
      have HQX := hide QX
      have HCX := hide (copyExprs_v Z (x.size + 1) x (by omega) (unhide HST).1 (wr.alloc (.cells #[.int .i64 op, str f, .slice xao x.len xcap, .slice tao t.len tcap, .slice eao el.len ecap] 53)) b _ ((unhide HXS).keepF (unhide HKw0)))
      have HCT := hide (fun (w' : World) (hk : Keeps (fun _ => False) w w') => And.intro (copyStmts_v Z (t.size + 1) t (by omega) (unhide HST).2.1 w' b _ ((unhide HTS).keepF hk)) (copyStmts_v Z (el.size + 1) el (by omega) (unhide HST).2.2 w' b _ ((unhide HES).keepF hk)))
      have mk1 : True := trivial
      clear hown hcs hAq hkeep h1 h2 h3 h4 h5 h6 h8 h9 j6 j8 happ hkc hxs QX
      go_wp2_with (first
        | (clear mk1; go_at_call 39; refine (unhide HCX).mono ?_; rintro e w1 ⟨xv1, rfl, hs1, hk1⟩; obtain ⟨xo1, xc1, rfl, _⟩ := hs1.head; have hb1 := (hk1.block _ hkbb id).trans (unhide HBX); have m2 := cell_of_blk hb1 2; simp at m2; have g2 := frozen_of_blk hb1 2; have hn1 : (w1.setCell ⟨wr.heap.size, 2, none⟩ (.slice xo1 x.len xc1)).heap[wr.heap.size]? = some (.cells #[.int .i64 op, str f, .slice xo1 x.len xc1, .slice tao t.len tcap, .slice eao el.len ecap] 53 (0, 0)) := (by simpa using heap_setCell_at (o := 2) hb1 (.slice xo1 x.len xc1)); have HN1 := hide hn1; have hset1 : Keeps (fun q => q = wr.heap.size) w1 (w1.setCell ⟨wr.heap.size, 2, none⟩ (.slice xo1 x.len xc1)) := keeps_set _ _ _ _; have HS1 := hide hset1; have HKw1 := hide ((unhide HKw0).narrow (hk1.any.trans hset1) (fun q e => by omega)); have q1 := unhide HQX _ (unhide HKw1); have HX1 := hide hs1; have HK1 := hide hk1; have hz1' := hk1.size; clear hs1 hk1 hb1 hn1 hset1; have mk2 : True := trivial)
        | (clear mk2; go_at_call 20; refine (unhide HCT _ (unhide HKw1)).1.mono ?_; rintro e w2 ⟨tv2, rfl, hs2, hk2⟩; obtain ⟨to2, tc2, rfl, _⟩ := hs2.head; have hb2 := (hk2.block _ (lt_of_block (unhide HN1)) id).trans (unhide HN1); have m3 := cell_of_blk hb2 3; simp at m3; have g3 := frozen_of_blk hb2 3; have hn2 : (w2.setCell ⟨wr.heap.size, 3, none⟩ (.slice to2 t.len tc2)).heap[wr.heap.size]? = some (.cells #[.int .i64 op, str f, .slice xo1 x.len xc1, .slice to2 t.len tc2, .slice eao el.len ecap] 53 (0, 0)) := (by simpa using heap_setCell_at (o := 3) hb2 (.slice to2 t.len tc2)); have HN2 := hide hn2; have hset2 : Keeps (fun q => q = wr.heap.size) w2 (w2.setCell ⟨wr.heap.size, 3, none⟩ (.slice to2 t.len tc2)) := keeps_set _ _ _ _; have HS2 := hide hset2; have HKw2 := hide ((unhide HKw1).narrow (hk2.any.trans hset2) (fun q e => by omega)); have q2 := unhide HQX _ (unhide HKw2); have HX2 := hide hs2; have HK2 := hide hk2; have hz2' := hk2.size; clear hs2 hk2 hb2 hn2 hset2; have mk3 : True := trivial)
        | (clear mk3; go_at_call 20; refine (unhide HCT _ (unhide HKw2)).2.mono ?_; rintro e w3 ⟨ev3, rfl, hs3, hk3⟩; obtain ⟨eo3, ec3, rfl, _⟩ := hs3.head; have hb3 := (hk3.block _ (lt_of_block (unhide HN2)) id).trans (unhide HN2); have m4 := cell_of_blk hb3 4; simp at m4; have g4 := frozen_of_blk hb3 4; have hn3 : (w3.setCell ⟨wr.heap.size, 4, none⟩ (.slice eo3 el.len ec3)).heap[wr.heap.size]? = some (.cells #[.int .i64 op, str f, .slice xo1 x.len xc1, .slice to2 t.len tc2, .slice eo3 el.len ec3] 53 (0, 0)) := (by simpa using heap_setCell_at (o := 4) hb3 (.slice eo3 el.len ec3)); have HN3 := hide hn3; have r0 := cell_of_blk hn3 0; have r1 := cell_of_blk hn3 1; have r2 := cell_of_blk hn3 2; have r3 := cell_of_blk hn3 3; have r4 := cell_of_blk hn3 4; simp at r0 r1 r2 r3 r4; have hset3 : Keeps (fun q => q = wr.heap.size) w3 (w3.setCell ⟨wr.heap.size, 4, none⟩ (.slice eo3 el.len ec3)) := keeps_set _ _ _ _; have HS3 := hide hset3; have HKw3 := hide ((unhide HKw2).narrow (hk3.any.trans hset3) (fun q e => by omega)); have HX3 := hide hs3; have HK3 := hide hk3; have hz3' := hk3.size; clear hs3 hk3 hb3 hn3 hset3; have hkr : Keeps (fun q => q = wr.heap.size) wr ((w3.setCell ⟨wr.heap.size, 4, none⟩ (.slice eo3 el.len ec3)).alloc (.cells #[.int .i64 op, str f, .slice xo1 x.len xc1, .slice to2 t.len tc2, .slice eo3 el.len ec3] 53)) := ((((((((Keeps.refl _ wr).alloc (.cells #[.int .i64 op, str f, .slice xao x.len xcap, .slice tao t.len tcap, .slice eao el.len ecap] 53)).trans (unhide HK1).any).trans (unhide HS1)).trans (unhide HK2).any).trans (unhide HS2)).trans (unhide HK3).any).trans (unhide HS3)).alloc _; have HOX := hide (ownsRow_kept (unhide HO) hkr (fun q e h => by have := ((unhide HO).lt q e).2; omega)); have HNB : Hid (((w3.setCell ⟨wr.heap.size, 4, none⟩ (.slice eo3 el.len ec3)).alloc (.cells #[.int .i64 op, str f, .slice xo1 x.len xc1, .slice to2 t.len tc2, .slice eo3 el.len ec3] 53)).heap[w3.heap.size]? = some (.cells #[.int .i64 op, str f, .slice xo1 x.len xc1, .slice to2 t.len tc2, .slice eo3 el.len ec3] 53 (0, 0))) := (by have h := heap_alloc_new (w3.setCell ⟨wr.heap.size, 4, none⟩ (.slice eo3 el.len ec3)) (.cells #[.int .i64 op, str f, .slice xo1 x.len xc1, .slice to2 t.len tc2, .slice eo3 el.len ec3] 53); simpa [Hid] using h); clear hkr; have mk4 : True := trivial)
        | (clear mk4; at_builtin; refine wpList_append_lies _ rfl _ _ _ rfl w.heap.size 53 i0 _ 5 96 Tryz.underlying25 hi hz0 hz1 hz2 rfl (by omega) (.slice oo k oc) k xs rfl (unhide HOX) ⟨w3.heap.size, 0, none⟩ 1 1 [.int .i64 op, str f, .slice xo1 x.len xc1, .slice to2 t.len tc2, .slice eo3 el.len ec3] rfl rfl (World.news_of_block (cs := #[.int .i64 op, str f, .slice xo1 x.len xc1, .slice to2 t.len tc2, .slice eo3 el.len ec3]) (t := 53) (fr := (0, 0)) (unhide HNB)) (by simp [Value.oneCell']) (by omega) (by unfold maxLen; omega) (by omega) (by have := unhide HB0; simp at hz1' hz2' hz3' ⊢; omega) (w3.heap.size + 1) (by simp) ?_; intro g6 c6 w6 hown6 hgrow hat hlt6; have HO6 := hide hown6; have HGR := hide hgrow; have HAT := hide hat; clear hown6 hgrow hat))
      go_roundw
      case rel =>
        have hgr := unhide HGR
        have hB0 := unhide HB0
        have hol : ∀ q, (Value.slice oo k oc).ownBlock = some q → w.heap.size ≤ q ∧ q < wr.heap.size := fun q e => (unhide HO).lt q e
        have hz : wr.heap.size + 1 ≤ w1.heap.size ∧ w1.heap.size ≤ w2.heap.size ∧ w2.heap.size ≤ w3.heap.size := by simp at hz1' hz2' hz3'; omega
        have k36 : Keeps (fun q => q = wr.heap.size ∨ (Value.slice oo k oc).ownBlock = some q) w3 w6 := (((unhide HS3).mono (fun q _ e => Or.inl e)).alloc _).grown hgr (fun q e _ => Or.inr e)
        have k26 : Keeps (fun q => q = wr.heap.size ∨ (Value.slice oo k oc).ownBlock = some q) w2 w6 := ((unhide HS2).mono (fun q _ e => Or.inl e)).trans ((unhide HK3).any.trans k36)
        have k16 : Keeps (fun q => q = wr.heap.size ∨ (Value.slice oo k oc).ownBlock = some q) w1 w6 := ((unhide HS1).mono (fun q _ e => Or.inl e)).trans ((unhide HK2).any.trans k26)
        have kr6 : Keeps (fun q => q = wr.heap.size ∨ (Value.slice oo k oc).ownBlock = some q) wr w6 := ((Keeps.refl _ wr).alloc _).trans ((unhide HK1).any.trans k16)
        have kw6 : Keeps (fun _ => False) w w6 := (unhide HK).narrow kr6 (fun q e => e.elim (fun h => by omega) (fun h => (hol q h).1))
        have far : ∀ q, wr.heap.size + 1 ≤ q → ¬ (q = wr.heap.size ∨ (Value.slice oo k oc).ownBlock = some q) := fun q hq e => e.elim (fun h => by omega) (fun h => by have := hol q h; omega)
        have s1 := SsIn.inMono (B := fun q => A q ∨ (wr.heap.size + 1 ≤ q ∧ q < w3.heap.size)) (fun _ _ h => Or.inl h) ((unhide HCS).inKeep kr6 (fun q _ h e => e.elim (fun h' => by have := (unhide HAQ) q h; omega) (fun h' => ((unhide HAQ) q h).2.2 h')))
        have sx : SlE (inZ (fun q => A q ∨ (wr.heap.size + 1 ≤ q ∧ q < w3.heap.size))) w6 0 (.slice xo1 x.len xc1) x :=
          (((unhide HX1).inMono (up' := 0) (B := fun q => wr.heap.size + 1 ≤ q ∧ q < w1.heap.size) (fun q hq h => ⟨by simpa using h, hq⟩)).inKeep k16 (fun q _ h => far q h.1)).inMono (fun _ _ h => Or.inr ⟨h.1, by have := h.2; omega⟩)
        have st : SlS (inZ (fun q => A q ∨ (wr.heap.size + 1 ≤ q ∧ q < w3.heap.size))) w6 0 (.slice to2 t.len tc2) t :=
          (((unhide HX2).inMono (up' := 0) (B := fun q => wr.heap.size + 1 ≤ q ∧ q < w2.heap.size) (fun q hq h => ⟨by simp at h; omega, hq⟩)).inKeep k26 (fun q _ h => far q h.1)).inMono (fun _ _ h => Or.inr ⟨h.1, by have := h.2; omega⟩)
        have se : SlS (inZ (fun q => A q ∨ (wr.heap.size + 1 ≤ q ∧ q < w3.heap.size))) w6 0 (.slice eo3 el.len ec3) el :=
          (((unhide HX3).inMono (up' := 0) (B := fun q => wr.heap.size + 1 ≤ q ∧ q < w3.heap.size) (fun q hq h => ⟨by simp at h; omega, hq⟩)).inKeep k36 (fun q _ h => far q h.1)).inMono (fun _ _ h => Or.inr h)
        have s2 : SsIn (inZ (fun q => A q ∨ (wr.heap.size + 1 ≤ q ∧ q < w3.heap.size))) w6 (.cons op f x t el .nil) [.int .i64 op, str f, .slice xo1 x.len xc1, .slice to2 t.len tc2, .slice eo3 el.len ec3] := ⟨_, _, _, [], rfl, sx, st, se, rfl⟩
        have hs6 : w3.heap.size + 1 ≤ w6.heap.size := by have := hgr.size; simp at this; omega
        refine ⟨pre.app (.cons op f x t el .nil), rest, k + 1, _, _, by go_num, ?_, ?_, unhide HO6, s1.app s2, fun q hq => ?_, kw6, ?_⟩
        · rw [app_oneS]; exact unhide HAPP
        · rw [SL.len_app, unhide HKP]; rfl
        · rcases hq with hq | hq
          · obtain ⟨a1, a2, a3⟩ := (unhide HAQ) q hq
            refine ⟨a1, by omega, fun e => ?_⟩
            have e' : g6 = q := by simpa [Value.ownBlock] using e
            rcases unhide HAT with h | h
            · exact a3 (by rw [h, e'])
            · omega
          · refine ⟨by omega, by omega, fun e => ?_⟩
            have e' : g6 = q := by simpa [Value.ownBlock] using e
            rcases unhide HAT with h | h
            · have := hol _ h; omega
            · omega
        · rw [show off + (k + 1) * 5 = off + k * 5 + 5 by omega]
          exact unhide HR
      case measure => simp [intOf]; omega
end Go.Proofs.YtoempeobaknkcaaGreatDoor
namespace Go.Proofs.YtoempeobaknkcaaGreatDoor
open Go.RowKit Go.Maps

set_option maxRecDepth 100000 in
set_option maxHeartbeats 2000000 in
theorem copyExprR_of (op n : Int) (s : Txt) (kids : EL) (v : Value) (w : World) (hv : ∃ ao cap, v = .slice ao kids.len cap) (hK : ∀ w', Keeps (fun _ => False) w w' → Calls Tryz.prog 39 #[v] w' (CPostR kids w')) :
    Calls Tryz.prog 40 #[exV op n s v] w fun e w' => ∃ v' xs A, e = .returned (exV op n s v') ∧ w'.ownsRow w.heap.size 57 4 v' kids.len xs ∧ CsIn A w' kids xs ∧ (∀ q, A q → w.heap.size ≤ q ∧ v'.ownBlock ≠ some q) ∧ Keeps (fun _ => False) w w' := by
  obtain ⟨ao, cap, rfl⟩ := hv
  have HK0 : Hid (Keeps (fun _ => False) w ((w.alloc (.cells #[.int .i64 op, .int .i64 n, str s, .slice ao kids.len cap] 57)).alloc (.cells #[.int .i64 0, .int .i64 0, .string ⟨#[]⟩, .slice none 0 0] 57))) := ((Keeps.refl _ w).alloc _).alloc _
  have e1 : (w.alloc (.cells #[.int .i64 op, .int .i64 n, str s, .slice ao kids.len cap] 57)).heap.size = w.heap.size + 1 := by simp
  have hb0 : ((w.alloc (.cells #[.int .i64 op, .int .i64 n, str s, .slice ao kids.len cap] 57)).alloc (.cells #[.int .i64 0, .int .i64 0, .string ⟨#[]⟩, .slice none 0 0] 57)).heap[w.heap.size]? = some (.cells #[.int .i64 op, .int .i64 n, str s, .slice ao kids.len cap] 57 (0, 0)) := (((Keeps.refl (fun _ => False) _).alloc _).block _ (by rw [e1]; omega) id).trans (heap_alloc_new w _)
  have hb1 : ((w.alloc (.cells #[.int .i64 op, .int .i64 n, str s, .slice ao kids.len cap] 57)).alloc (.cells #[.int .i64 0, .int .i64 0, .string ⟨#[]⟩, .slice none 0 0] 57)).heap[w.heap.size + 1]? = some (.cells #[.int .i64 0, .int .i64 0, .string ⟨#[]⟩, .slice none 0 0] 57 (0, 0)) := by
    have := heap_alloc_new (w.alloc (.cells #[.int .i64 op, .int .i64 n, str s, .slice ao kids.len cap] 57)) (.cells #[.int .i64 0, .int .i64 0, .string ⟨#[]⟩, .slice none 0 0] 57)
    rw [e1] at this
    exact this
  have SB : ∀ (F : Nat → Prop) (w' : World), Keeps F ((w.alloc (.cells #[.int .i64 op, .int .i64 n, str s, .slice ao kids.len cap] 57)).alloc (.cells #[.int .i64 0, .int .i64 0, .string ⟨#[]⟩, .slice none 0 0] 57)) w' → ¬ F w.heap.size → w'.cell? ⟨w.heap.size, 0, none⟩ = some (.int .i64 op) ∧ w'.cell? ⟨w.heap.size, 1, none⟩ = some (.int .i64 n) ∧ w'.cell? ⟨w.heap.size, 2, none⟩ = some (str s) ∧ w'.cell? ⟨w.heap.size, 3, none⟩ = some (.slice ao kids.len cap) := fun F w' hk hF => by
    have k0 := (hk.block _ (lt_of_block hb0) hF).trans hb0
    exact ⟨by rw [cell_of_blk k0]; rfl, by rw [cell_of_blk k0]; rfl, by rw [cell_of_blk k0]; rfl, by rw [cell_of_blk k0]; rfl⟩
  have d := SB (fun _ => False) _ (Keeps.refl _ _).drew id
  have HSB := hide SB
  have HB1 := hide hb1
  have HC := hide (hK _ (unhide HK0).drew)
  have hne : ¬ w.heap.size = w.heap.size + 1 := by omega
  clear hK SB hb0 hb1 e1
  go_enter Tryz.func40, Tryz.ntmps40
  go_wp2_with fail
  go_region_held3 (fun w' => w'.cell? ⟨w.heap.size, 0, none⟩ = some (.int .i64 op) ∧ w'.cell? ⟨w.heap.size, 1, none⟩ = some (.int .i64 n) ∧ w'.cell? ⟨w.heap.size, 2, none⟩ = some (str s) ∧ w'.cell? ⟨w.heap.size, 3, none⟩ = some (.slice ao kids.len cap)) (first | with_reducible exact d | with_reducible exact r0 | with_reducible exact t0)
    ((go_at_call 39; refine (unhide HC).mono ?_; rintro e w1 ⟨v', xs, A, rfl, hs', hcs', hA', hk1⟩; obtain ⟨vo, vc, rfl⟩ := (rowAt_own hs').form; have hkd := (Keeps.refl (fun _ => False) _).drew.trans hk1; have r0 := unhide HSB _ _ hkd id; have hz := (hkd.block _ (lt_of_block (unhide HB1)) id).trans (unhide HB1); have m0 := cell_of_blk hz 0; have m1 := cell_of_blk hz 1; have m2 := cell_of_blk hz 2; have m3 := cell_of_blk hz 3; simp at m0 m1 m2 m3; have g0 := frozen_of_blk hz 0; have g1 := frozen_of_blk hz 1; have g2 := frozen_of_blk hz 2; have g3 := frozen_of_blk hz 3; have hks : Keeps (fun q => q = w.heap.size + 1) w1 ((((w1.setCell ⟨w.heap.size + 1, 0, none⟩ (.int .i64 op)).setCell ⟨w.heap.size + 1, 1, none⟩ (.int .i64 n)).setCell ⟨w.heap.size + 1, 2, none⟩ (str s)).setCell ⟨w.heap.size + 1, 3, none⟩ (.slice vo kids.len vc)) := (((keeps_set _ _ _ _).trans (keeps_set _ _ _ _)).trans (keeps_set _ _ _ _)).trans (keeps_set _ _ _ _); have t0 := unhide HSB (fun q => q = w.heap.size + 1) _ (hkd.any.trans hks) hne; have hb4 := heap_setCell_at (o := 3) (heap_setCell_at (o := 2) (heap_setCell_at (o := 1) (heap_setCell_at (o := 0) hz (.int .i64 op)) (.int .i64 n)) (str s)) (.slice vo kids.len vc); have s0 := cell_of_blk hb4 0; have s1 := cell_of_blk hb4 1; have s2 := cell_of_blk hb4 2; have s3 := cell_of_blk hb4 3; simp at s0 s1 s2 s3; have HKS := hide hks; have HKD := hide ((unhide HK0).trans hkd); have HS' := hide hs'; have HCS := hide hcs'; have HAA := hide hA'; clear hkd hk1 hz hb4 hks hs'))
  all_goals go_wp2_with fail
  all_goals (refine bodyPost_ret (v := exV op n s (.slice vo kids.len vc)) (by simp [results, go_sem, s0, s1, s2, s3]) rfl ?_; exact ⟨_, xs, A, rfl, ownsRow_low (ownsRow_kept (unhide HS') (unhide HKS) (fun q e f => by have := own_geO (unhide HS') e; simp at this; omega)) (by simp; omega), (unhide HCS).keep (unhide HKS) (fun q _ h f => by have := (unhide HAA q h).1; simp at this; omega), fun q hq => ⟨by have := (unhide HAA q hq).1; simp at this; omega, (unhide HAA q hq).2.2⟩, (unhide HKD).narrow (unhide HKS) (fun q e => by omega)⟩)
end Go.Proofs.YtoempeobaknkcaaGreatDoor
namespace Go.Proofs.YtoempeobaknkcaaGreatDoor
open Go.RowKit Go.Maps

/-- So many numbers 3. -/
def trip : Nat → EL
  | 0 => .nil
  | j + 1 => .cons 1 3 [] .nil (trip j)
theorem trip_len : ∀ j, (trip j).len = j
  | 0 => rfl
  | j + 1 => by simp [trip, EL.len, trip_len j]
theorem trip_size : ∀ j, (trip j).size = j
  | 0 => rfl
  | j + 1 => by simp [trip, EL.size, trip_size j]
def threeC : List Value := [.int .i64 1, .int .i64 3, .string ⟨#[]⟩, .slice none 0 0]
def tripC : Nat → List Value
  | 0 => []
  | j + 1 => threeC ++ tripC j
theorem tripC_len : ∀ j, (tripC j).length = j * 4
  | 0 => rfl
  | j + 1 => by simp [tripC, threeC, tripC_len j]; omega
theorem tripC_snoc : ∀ j, tripC j ++ threeC = tripC (j + 1)
  | 0 => by simp [tripC]
  | j + 1 => by rw [show tripC (j + 1) = threeC ++ tripC j from rfl, List.append_assoc, tripC_snoc j]; rfl
theorem cs_trip {A : Nat → Prop} {w : World} {l : EL} {ys : List Value} (h : CsIn A w l ys) : ∀ j, CsIn A w ((trip j).app l) (tripC j ++ ys)
  | 0 => h
  | j + 1 => ⟨.slice none 0 0, tripC j ++ ys, rfl, ⟨none, 0, rfl, Nat.le_refl _, fun h => absurd rfl h⟩, cs_trip h j⟩
/-- One item of a row is written over. -/
theorem row_three {w : World} {B n c g j : Nat} {a b d e : Value} {ys : List Value} (h : w.ownsRow B 57 4 (.slice (some ⟨g, 0, none⟩) n c) n (tripC j ++ (a :: b :: d :: e :: ys))) :
    ((((w.setCell ⟨g, j * 4, none⟩ (.int .i64 1)).setCell ⟨g, j * 4 + 1, none⟩ (.int .i64 3)).setCell ⟨g, j * 4 + 2, none⟩ (.string ⟨#[]⟩)).setCell ⟨g, j * 4 + 3, none⟩ (.slice none 0 0)).ownsRow B 57 4 (.slice (some ⟨g, 0, none⟩) n c) n (tripC (j + 1) ++ ys) := by
  have q := ((((h.stored (j * 4) (.int .i64 1)).1.stored (j * 4 + 1) (.int .i64 3)).1.stored (j * 4 + 2) (.string ⟨#[]⟩)).1.stored (j * 4 + 3) (.slice none 0 0)).1
  have hl := tripC_len j
  rw [List.set_append_right _ _ (by omega), List.set_append_right _ _ (by omega), List.set_append_right _ _ (by omega), List.set_append_right _ _ (by omega), hl, Nat.sub_self, Nat.add_sub_cancel_left, Nat.add_sub_cancel_left, Nat.add_sub_cancel_left] at q
  rw [← tripC_snoc, List.append_assoc]
  exact q
/-- A row of expressions as a tree. -/
theorem row_slE {A : Nat → Prop} {w : World} {B : Nat} {v : Value} {l : EL} {xs : List Value} (h : w.ownsRow B 57 4 v l.len xs) (hc : CsIn A w l xs) (up : Nat) : SlE (inZ (fun _ => True)) w up v l := by
  have hrow := rowAt_own h
  obtain ⟨ao, cap, rfl⟩ := hrow.form
  refine ⟨ao, cap, rfl, hrow.room _ _ _ rfl, fun h0 => ?_⟩
  obtain ⟨g, goff, gc, e, hg, hgc⟩ := hrow.cells (by omega)
  simp at e
  obtain ⟨rfl, rfl⟩ := e
  exact ⟨g, goff, rfl, trivial, CsIn.exIn hg trivial (fun _ _ _ => trivial) hc hgc⟩
end Go.Proofs.YtoempeobaknkcaaGreatDoor
