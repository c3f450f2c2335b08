import Derived.Test.YtcicaifioghciaaGreatDoorYc
import Derived.Test.YtcicaifioghciaaGreatDoorXb
import Derived.Test.YtcicaifioghciaaGreatDoorJzai
namespace Go.Proofs.YtcicaifioghciaaGreatDoor
open Go.RowKit Go.Maps
/-- Texts in a slice. -/
def StrsAt (w : World) (v : Value) (l : List Txt) : Prop := RowAt w v l.length (l.map str)
theorem StrsAt.keepF {w w' : World} {v : Value} {l : List Txt} (h : StrsAt w v l) (hk : Keeps (fun _ => False) w w') : StrsAt w' v l := RowAt.keepF h hk
theorem StrsAt.cells {w : World} {v : Value} {l : List Txt} (h : StrsAt w v l) (h0 : 0 < l.length) :
    ∃ b off cap, v = .slice (some ⟨b, off, none⟩) l.length cap ∧ b < w.heap.size ∧ ∀ (i : Nat) (x : Txt), l[i]? = some x → w.cell? ⟨b, off + i, none⟩ = some (str x) := by
  obtain ⟨b, off, cap, e, hb, hc⟩ := RowAt.cells h h0
  exact ⟨b, off, cap, e, hb, fun i x hx => hc i _ (by simp [hx])⟩
set_option maxRecDepth 100000 in
set_option maxHeartbeats 2000000 in
theorem eqStrings_v (w : World) (va vb : Value) (la lb : List Txt) (ha : StrsAt w va la) (hb : StrsAt w vb lb) (hla : la.length ≤ maxLen) :
    Calls Tryz.prog 13 #[va, vb] w fun e w' => e = .returned (.bool (decide (la = lb))) ∧ Keeps (fun _ => False) w w' := by
  obtain ⟨ao, capa, rfl⟩ := RowAt.form ha
  obtain ⟨bo, capb, rfl⟩ := RowAt.form hb
  unfold maxLen at hla
  by_cases hlen : la.length = lb.length
  · have hne : ((la.length : Int) != (lb.length : Int)) = false := by simp [hlen]
    have HA := hide ha
    have HB := hide hb
    have HL := hide hlen
    clear ha hb hlen
    go_enter Tryz.func13, Tryz.ntmps13
    go_wp2_with fail
    go_loopw [5] (fun i wr => ∃ k : Nat, k ≤ la.length ∧ i = .int .i64 k ∧ Hid (la.take k = lb.take k) ∧ ∃ n, wr = w.drewN n) (fun i _ => la.length - (intOf i).toNat)
    case atStart => exact ⟨0, Nat.zero_le _, rfl, rfl, 0, rfl⟩
    case round =>
      obtain ⟨k, hk, rfl, HT, n, rfl⟩ := hrel
      by_cases hlt : k < la.length
      · have hltb : k < lb.length := by have := unhide HL; omega
        obtain ⟨b1, o1, c1, e1, _, hc1⟩ := (unhide HA).cells (by omega)
        obtain ⟨b2, o2, c2, e2, _, hc2⟩ := (unhide HB).cells (by omega)
        simp at e1 e2
        obtain ⟨rfl, rfl⟩ := e1
        obtain ⟨rfl, rfl⟩ := e2
        obtain ⟨x, hx⟩ : ∃ x, la[k]? = some x := ⟨_, List.getElem?_eq_getElem hlt⟩
        obtain ⟨y, hy⟩ : ∃ y, lb[k]? = some y := ⟨_, List.getElem?_eq_getElem hltb⟩
        have p0 := hc1 k x hx
        have q0 := hc2 k y hy
        have i1 : (k : Int) < (la.length : Int) := by omega
        have i2 : (k : Int) < (lb.length : Int) := by omega
        have i0 : (0 : Int) ≤ (k : Int) := by omega
        have HX := hide hx
        have HY := hide hy
        clear hc1 hc2 hx hy
        by_cases h1 : x = y
        · subst h1
          go_wp2_with fail
          go_quiet (fail)
          go_wp2_with fail
          go_roundw
          case rel => exact ⟨k + 1, by omega, by go_num, take_succ_eq (unhide HT) (unhide HX) (unhide HY), _, rfl⟩
          case measure => simp [intOf]; omega
        · have h3' : (!x == y) = true := by simpa using h1
          have HN := hide h1
          clear h1
          go_wp2_with fail
          go_quiet (fail)
          go_wp2_with fail
          go_ret
          exact ⟨ret_bool (by symm; rw [decide_eq_false_iff_not]; exact get_ne (unhide HX) (unhide HY) (unhide HN)), (keeps_drewN _ _).drewN _⟩
      · have HF := hide (take_end (unhide HL) (by omega) (unhide HT))
        have i1 : ¬ (k : Int) < (la.length : Int) := by omega
        go_wp2_with fail
        go_ret
        exact ⟨ret_bool (by symm; rw [decide_eq_true_iff]; exact unhide HF), keeps_drewN _ _⟩
  · have hne : ((la.length : Int) != (lb.length : Int)) = true := by rw [bne_iff_ne]; omega
    have HL := hide hlen
    clear hlen
    go_enter Tryz.func13, Tryz.ntmps13
    go_wp2_with fail
    go_ret
    exact ⟨ret_bool (by symm; rw [decide_eq_false_iff_not]; intro e; exact unhide HL (by rw [e])), Keeps.refl _ _⟩
theorem refA_none {S : List FieldA} {l : List ValA} {k : Nat} {e : Int} (h : lookA S l = (none, k, e)) : refA S l = (0, k, e) := by rw [← verify_ref]; unfold verifyA; rw [h]; rfl
theorem refA_some {S : List FieldA} {l : List ValA} {ps : List PlA} (h : lookA S l = (some ps, 0, 0)) : refA S l = (deepA ps, 0, 0) := by rw [← verify_ref]; unfold verifyA; rw [h]; rfl
theorem txts_get {ps : List PlA} {k : Nat} {p : PlA} (h : ps[k]? = some p) : (txts ps)[k]? = some (str (txtP p.r p.st)) := by simp [txts, h]
set_option maxRecDepth 100000 in
set_option maxHeartbeats 2000000 in
theorem refTypes_v (S : List FieldA) (so : Option Addr) (sc : Nat) (l : List ValA) (v : Value) (w : World) (hS : FldsAt w (.slice so S.length sc) S) (h : ValsAt w v l) (hI : InR l) :
    Calls Tryz.prog 7 #[.agg #[.slice so S.length sc], v] w fun e w' => ∃ vt, e = .returned (.tuple #[vt, .int .i64 (lookA S l).2.2]) ∧ Texted w' vt (lookA S l).1 ∧ (∀ ps, (lookA S l).1 = some ps → w'.ownsRow w.heap.size 9 1 vt ps.length (txts ps)) ∧ Keeps (fun _ => False) w w' := by
  obtain ⟨j9, hj9, hz90, hz91, hz92⟩ := info_parts Tryz.info9s
  obtain ⟨ao, cap, rfl⟩ := RowAt.form h
  obtain ⟨HB, hbb, hbc⟩ := boxed w #[.slice so S.length sc] 24
  have s0 := hbc 0 (.slice so S.length sc) rfl
  have HS := hide (hS.keepF (unhide HB))
  have HV := hide (h.keepF (unhide HB))
  generalize hWb : w.alloc (.cells #[.slice so S.length sc] 24) = Wb at *
  have HQ := hide (refVerify_v S so sc l _ Wb (unhide HS) (unhide HV) hI)
  clear hbc h hS hI
  rcases look_tells S l with ⟨k', e', hlk, he'⟩ | ⟨ps, hlk, hpa, hok, hpl, hl96, hSK, hF, hTG⟩
  · rw [hlk]
    rw [refA_none hlk] at HQ
    have be : (e' != 0) = true := by rw [bne_iff_ne]; exact he'
    simp only at HQ ⊢
    clear hlk he'
    go_enter Tryz.func7, Tryz.ntmps7
    go_wp2_with fail
    refine (unhide HQ).mono ?_
    rintro e w1 ⟨rfl, hk1⟩
    go_wp2_with fail
    go_ret2
    exact ⟨_, rfl, rfl, fun ps h => (by cases h), (unhide HB).trans hk1⟩
  · rw [hlk]
    rw [refA_some hlk] at HQ
    simp only at HQ ⊢
    have HST := hide (fun (W : World) (hW : Keeps (fun _ => False) Wb W) => stacks_v S so sc l _ W ((unhide HS).keepF hW) ((unhide HV).keepF hW) hl96 hSK hF)
    rw [hpa] at HST
    have hps : 0 < ps.length := by omega
    have hps2 : ps.length ≤ 97 := by omega
    generalize deepA ps = DP at *
    clear hlk hpa hok hSK hF hTG hpl
    go_enter Tryz.func7, Tryz.ntmps7
    go_wp2_with fail
    refine (unhide HQ).mono ?_
    rintro e w1 ⟨rfl, hk1⟩
    have HK1 := hide hk1
    have s1 := (hk1.cell (o := 0) hbb id).trans s0
    have HQ2 := hide ((unhide HST) w1 hk1)
    clear hk1 HQ HST
    rw [show ((0 : Nat) : Int) = 0 from rfl]
    go_wp2_with fail
    refine (unhide HQ2).mono ?_
    rintro e w2 ⟨vb, vs, bad, rfl, hst, hk2⟩
    obtain ⟨rfl, ho1, ho2⟩ := hst
    rw [List.length_map] at ho1 ho2
    obtain ⟨g1, c1, rfl, _, hg1⟩ := World.ownsRow.form ho1 hps
    obtain ⟨g2, c2, rfl, _, hg2⟩ := World.ownsRow.form ho2 hps
    have HO1 := hide ho1
    have HO2 := hide ho2
    have HK2 := hide (((unhide HB).trans (unhide HK1)).trans hk2)
    clear ho1 ho2 hk2 HQ2
    go_wp2_with fail
    go_loopw [12, 13] (fun o i wr => ∃ k : Nat, k ≤ ps.length ∧ i = .int .i64 k ∧ wr.ownsRow w2.heap.size 9 1 o k (txts (ps.take k)) ∧ Keeps (fun _ => False) w2 wr) (fun _ i _ => ps.length - (intOf i).toNat)
    case atStart => exact ⟨0, Nat.zero_le _, rfl, by simpa [txts] using World.ownsRow_nil w2 w2.heap.size 9 1, Keeps.refl _ _⟩
    case round =>
      obtain ⟨k, hk, rfl, ho, hkp⟩ := hrel
      have HO := hide ho
      have HK := hide hkp
      have i0' : (0 : Int) ≤ (k : Int) := by omega
      by_cases hlt : k < ps.length
      · obtain ⟨P, hP⟩ : ∃ P, ps[k]? = some P := ⟨_, List.getElem?_eq_getElem hlt⟩
        have hPP : (ps.map pairP)[k]? = some (pairP P) := by rw [List.getElem?_map, hP]; rfl
        have d1 := (hkp.cell (o := k) hg1 id).trans (((unhide HO1).cellAt k (by omega)).trans (rbs_get hPP))
        have d2 := (hkp.cell (o := k) hg2 id).trans (((unhide HO2).cellAt k (by omega)).trans (rss_get hPP))
        have i1 : (k : Int) < (ps.length : Int) := by omega
        have HTK : Hid (txts (ps.take (k + 1)) = txts (ps.take k) ++ [str (txtP P.r P.st)]) := by show _ = _; rw [take_snoc _ _ _ hP]; simp [txts]
        obtain ⟨Pr, Pst, Pu⟩ := P
        unfold pairP at d1 d2
        simp only at d1 d2 HTK
        clear hP hPP ho hkp
        cases Pr with
        | true =>
          obtain ⟨q1, hq1⟩ : ∃ q1, Pst.map letR = q1 := ⟨_, rfl⟩
          rw [show txtP true Pst = q1 by unfold txtP; rw [if_pos rfl, hq1]] at HTK
          rw [hq1] at d2
          clear hq1
          go_wp2_with (at_builtin; refine wpList_append_lies _ rfl _ _ _ rfl w2.heap.size 9 j9 _ 1 16 Tryz.underlying33 hj9 hz90 hz91 hz92 rfl (by omega) u12 k (txts (ps.take k)) rfl ((unhide HO).alloc _) ⟨wr.heap.size, 0, none⟩ 1 1 [str q1] rfl rfl (World.news_of_block (cs := #[str q1]) (t := 9) (fr := (0, 0)) (heap_alloc_new wr _)) (by simp [Value.oneCell']) (by omega) (by unfold maxLen; omega) (by omega) (by have := (unhide HK).size; simp; omega) (wr.heap.size + 1) (by simp) ?_; intro g3 c3 w3 hown3 hgrow3 hat3 hlt3)
          go_roundw
          case rel => exact ⟨k + 1, by omega, by go_num, by rw [unhide HTK]; exact hown3, ((unhide HK).alloc _).grown hgrow3 (fun q e hq => by have := ((unhide HO).lt q e).1; omega)⟩
          case measure => simp [intOf]; omega
        | false =>
          rw [show txtP false Pst = [45] by rfl] at HTK
          go_wp2_with (at_builtin; refine wpList_append_lies _ rfl _ _ _ rfl w2.heap.size 9 j9 _ 1 16 Tryz.underlying33 hj9 hz90 hz91 hz92 rfl (by omega) u12 k (txts (ps.take k)) rfl ((unhide HO).alloc _) ⟨wr.heap.size, 0, none⟩ 1 1 [str [45]] rfl rfl (World.news_of_block (cs := #[str [45]]) (t := 9) (fr := (0, 0)) (heap_alloc_new wr _)) (by simp [Value.oneCell']) (by omega) (by unfold maxLen; omega) (by omega) (by have := (unhide HK).size; simp; omega) (wr.heap.size + 1) (by simp) ?_; intro g3 c3 w3 hown3 hgrow3 hat3 hlt3)
          go_roundw
          case rel => exact ⟨k + 1, by omega, by go_num, by rw [unhide HTK]; exact hown3, ((unhide HK).alloc _).grown hgrow3 (fun q e hq => by have := ((unhide HO).lt q e).1; omega)⟩
          case measure => simp [intOf]; omega
      · obtain rfl : k = ps.length := by omega
        have i1 : ¬ (ps.length : Int) < (ps.length : Int) := by omega
        rw [List.take_length] at HO
        clear hlt ho hkp
        go_wp2_with fail
        go_ret2
        first | exact ⟨_, rfl, ownsRow_lower (unhide HO) (Nat.zero_le _), ownsRow_lower (unhide HO) (unhide HK2).size, (unhide HK2).trans (unhide HK)⟩ | exact ⟨_, rfl, ownsRow_lower (unhide HO) (Nat.zero_le _), fun ps' h => by obtain rfl := Option.some.inj h; exact ownsRow_lower (unhide HO) (unhide HK2).size, (unhide HK2).trans (unhide HK)⟩ | exact ⟨_, rfl, ownsRow_lower (unhide HO) (Nat.zero_le _), fun ps' h => by subst h; exact ownsRow_lower (unhide HO) (unhide HK2).size, (unhide HK2).trans (unhide HK)⟩

end Go.Proofs.YtcicaifioghciaaGreatDoor
