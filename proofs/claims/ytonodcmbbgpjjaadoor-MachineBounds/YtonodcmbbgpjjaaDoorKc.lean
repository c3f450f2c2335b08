import Derived.Test.YtonodcmbbgpjjaaDoorKa
import Derived.Test.YtonodcmbbgpjjaaDoorJw
import Derived.Test.YtonodcmbbgpjjaaDoorJc
import Derived.Test.YtonodcmbbgpjjaaDoorJh
namespace Go.Proofs.YtonodcmbbgpjjaaDoor
open Go.RowKit Go.Maps
theorem txts_get {ps : List PlA} {k : Nat} {p : PlA} (h : ps[k]? = some p) : (txts ps)[k]? = some (str (txtP p.r p.st)) := by simp [txts, h]
theorem step_at {D : List (Nat × List ValA)} {k : Nat} {z : Nat × List ValA} (h : D[k]? = some z) : (stepCs D)[k * 2]? = some (.int .i64 (z.1 : Int)) ∧ (stepCs D)[k * 2 + 1]? = some (str (typT z.2)) := by
  induction D generalizing k with
  | nil => simp at h
  | cons y r ih =>
    have e : stepCs (y :: r) = [.int .i64 (y.1 : Int), str (typT y.2)] ++ stepCs r := by simp [stepCs]
    rw [e]
    cases k with
    | zero => simp at h; subst h; exact ⟨rfl, rfl⟩
    | succ k =>
      simp only [List.getElem?_cons_succ] at h
      have := ih h
      rw [show (k + 1) * 2 = k * 2 + 2 by omega, show k * 2 + 2 + 1 = k * 2 + 1 + 2 by omega]
      exact this
theorem i64_keep {x : Int} (h1 : -9223372036854775808 ≤ x) (h2 : x ≤ 9223372036854775807) : IntKind.i64.wrap x = x := by
  show (if (true && decide (x % 2 ^ 64 ≥ 2 ^ (64 - 1))) = true then x % 2 ^ 64 - 2 ^ 64 else x % 2 ^ 64) = x
  rw [Bool.true_and]
  split
  · rename_i h
    have h' := of_decide_eq_true h
    omega
  · rename_i h
    have h' : ¬ (x % 2 ^ 64 ≥ 2 ^ (64 - 1)) := fun q => h (decide_eq_true q)
    omega
/-- Steps in a slice. -/
def StepsAt (w : World) (v : Value) (D : List (Nat × List ValA)) : Prop := RowAt w v D.length (stepCs D)
theorem StepsAt.cells {w : World} {v : Value} {D : List (Nat × List ValA)} (h : StepsAt w v D) (h0 : 0 < D.length) :
    ∃ b off cap, v = .slice (some ⟨b, off, none⟩) D.length cap ∧ b < w.heap.size ∧ ∀ i z, D[i]? = some z → w.cell? ⟨b, off + i * 2, none⟩ = some (.int .i64 (z.1 : Int)) ∧ w.cell? ⟨b, off + i * 2 + 1, none⟩ = some (str (typT z.2)) := by
  obtain ⟨b, off, cap, e, hb, hc⟩ := RowAt.cells h h0
  refine ⟨b, off, cap, e, hb, fun i z hz => ?_⟩
  obtain ⟨h1, h2⟩ := step_at hz
  exact ⟨hc _ _ h1, by have := hc _ _ h2; rw [← Nat.add_assoc] at this; exact this⟩
set_option maxRecDepth 100000 in
set_option maxHeartbeats 4000000 in
theorem ways_v (w : World) (v u : Value) (D : List (Nat × List ValA)) (ps : List PlA) (h : StepsAt w v D) (hu : RowAt w u ps.length (txts ps)) (hok : okSteps (ps.map pairP) (ps.length - 1) (-1) D) (hps : ps.length ≤ 97) (hD : D.length ≤ 96) (h1 : 1 ≤ ps.length) (hz : ∀ z r, D = z :: r → z.1 = 0) :
    Calls Tryd.prog 13 #[v, u] w fun e w' => e = .returned (.bool true) ∧ Keeps (fun _ => False) w w' := by
  obtain ⟨vo, vc, rfl⟩ := RowAt.form h
  obtain ⟨uo, uc, rfl⟩ := RowAt.form hu
  have HV := hide h
  have HU := hide hu
  have HZ := hide hz
  have HOK := hide hok
  clear h hu hz hok
  go_enter Tryd.func13, Tryd.ntmps13
  go_wp2_with fail
  go_loopw [5, 6] (fun la i wr => ∃ (k : Nat) (a : Int), k ≤ D.length ∧ -1 ≤ a ∧ a ≤ 100 ∧ i = .int .i64 k ∧ la = .int .i64 a ∧ Hid (okSteps (ps.map pairP) (ps.length - 1) a (D.drop k)) ∧ Keeps (fun _ => False) w wr) (fun _ i _ => D.length - (intOf i).toNat)
  case atStart => exact ⟨0, -1, Nat.zero_le _, by omega, by omega, rfl, rfl, unhide HOK, Keeps.refl _ _⟩
  case round =>
    obtain ⟨k, a, hk, ha1, ha2, rfl, rfl, HS, hkp⟩ := hrel
    by_cases hlt : k < D.length
    · obtain ⟨z, hz⟩ : ∃ z, D[k]? = some z := ⟨_, List.getElem?_eq_getElem hlt⟩
      obtain ⟨b, off, cc, ee, hbl, hc⟩ := StepsAt.cells (unhide HV) (by omega)
      simp at ee
      obtain ⟨rfl, rfl⟩ := ee
      have c0 := (hkp.cell hbl id).trans (hc k z hz).1
      have c1 := (hkp.cell hbl id).trans (hc k z hz).2
      have hds : D.drop k = z :: D.drop (k + 1) := by
        obtain ⟨h2, h3⟩ := List.getElem?_eq_some_iff.1 hz
        rw [List.drop_eq_getElem_cons h2, h3]
      have hs := unhide HS
      rw [hds] at hs
      obtain ⟨o1, o2, o3, o4, o5⟩ := hs
      have HS5 := hide o5
      have hzl : z.1 < ps.length := by omega
      obtain ⟨p, hp⟩ : ∃ p, ps[z.1]? = some p := ⟨_, List.getElem?_eq_getElem hzl⟩
      have hpp : p.r = true ∧ p.st = z.2.map ValA.kind := by
        rw [List.getElem?_map, hp] at o3
        simp only [Option.map_some, Option.some.injEq, pairP, Prod.mk.injEq] at o3
        exact o3
      have htx : str (txtP p.r p.st) = str (typT z.2) := by rw [hpp.1, hpp.2]; rfl
      obtain ⟨ub, uoff, ucc, ue, hubl, huc⟩ := RowAt.cells (unhide HU) (by omega)
      simp at ue
      obtain ⟨rfl, rfl⟩ := ue
      have d0 : wr.cell? ⟨ub, uoff + z.1, none⟩ = some (str (typT z.2)) := by
        rw [← htx]
        exact (hkp.cell hubl id).trans (huc z.1 _ (txts_get hp))
      have HKP := hide hkp
      generalize typT z.2 = TT at *
      generalize hZ : z.1 = Z at *
      have i0 : (0 : Int) ≤ (k : Int) := by omega
      have i1 : (k : Int) < (D.length : Int) := by omega
      have i2 : (0 : Int) ≤ (Z : Int) := by omega
      have i3 : (Z : Int) < (ps.length : Int) := by omega
      have i4 : decide ((Z : Int) ≤ a) = false := decide_eq_false (by omega)
      have i5 : decide ((ps.length : Int) - 1 ≤ (Z : Int)) = false := decide_eq_false (by omega)
      have i6 : decide (IntKind.i64.wrap ((ps.length : Int) - 1) ≤ (Z : Int)) = false := by rw [i64_keep (by omega) (by omega)]; exact i5
      clear hc huc hkp o1 o2 o3 o4 o5 hds hz HS hpp htx hp hZ
      go_wp2_with fail
      go_quiet (fail)
      have KD := keeps_drewN wr nq
      have b0 := (KD.cell (World.block_lt_of_cell? wr ⟨b, off + k * 2, none⟩ c0) id).trans c0
      go_wp2_with fail
      go_roundw
      case rel => exact ⟨k + 1, (Z : Int), by omega, by omega, by omega, by go_num, rfl, unhide HS5, (unhide HKP).trans KD⟩
      case measure => simp [intOf]; omega
    · obtain rfl : k = D.length := by omega
      have i1 : ¬ (D.length : Int) < (D.length : Int) := by omega
      have HKP := hide hkp
      cases hD0 : D with
      | nil =>
        subst hD0
        clear HS hlt HZ HV
        go_wp2_with fail
        go_ret
        exact ⟨rfl, unhide HKP⟩
      | cons z r =>
        have hz0 := (unhide HZ) z r hD0
        have hlen : 0 < D.length := by rw [hD0]; simp
        obtain ⟨b, off, cc, ee, hbl, hc⟩ := StepsAt.cells (unhide HV) hlen
        simp at ee
        obtain ⟨rfl, rfl⟩ := ee
        have c0 := (hkp.cell hbl id).trans (hc 0 z (by rw [hD0]; rfl)).1
        rw [hz0] at c0
        simp only [Nat.zero_mul, Nat.add_zero] at c0
        have i2 : (0 : Int) < (D.length : Int) := by omega
        have i3 : ((D.length : Int) == 0) = false := beq_eq_false_iff_ne.2 (by omega)
        generalize D.length = N at *
        clear HS hc hkp hD0 hz0 HZ HV
        go_wp2_with fail
        go_ret
        exact ⟨rfl, unhide HKP⟩
end Go.Proofs.YtonodcmbbgpjjaaDoor
namespace Go.Proofs.YtonodcmbbgpjjaaDoor
open Go.RowKit Go.Maps
set_option maxRecDepth 100000 in
theorem eqValue_any (x y : ValA) (w : World) : Calls Tryd.prog 50 #[x.v, y.v] w fun e w' => e = .returned (.bool (decide (x = y))) ∧ Keeps (fun _ => False) w w' := by
  obtain ⟨k1, n1, s1⟩ := x
  obtain ⟨k2, n2, s2⟩ := y
  unfold ValA.v
  go_enter Tryd.func50, Tryd.ntmps50
  go_wp2
  all_goals (go_ret; refine ⟨ret_bool ?_, ((Keeps.refl _ _).alloc _).alloc _⟩; apply Bool.eq_iff_iff.2; simp_all; try omega)
set_option maxRecDepth 100000 in
set_option maxHeartbeats 1000000 in
theorem eqVals_any (w : World) (va vb : Value) (la lb : List ValA) (ha : ValsAt w va la) (hb : ValsAt w vb lb) (hla : la.length ≤ maxLen) :
    Calls Tryd.prog 32 #[va, vb] w fun e w' => e = .returned (.bool (decide (la = lb))) ∧ Keeps (fun _ => False) w w' := by
  obtain ⟨ao, capa, rfl⟩ := RowAt.form ha
  obtain ⟨bo, capb, rfl⟩ := RowAt.form hb
  unfold maxLen at hla
  by_cases hlen : la.length = lb.length
  · have hne : ((la.length : Int) != (lb.length : Int)) = false := by simp [hlen]
    have HA := hide ha
    have HB := hide hb
    have HL := hide hlen
    clear ha hb hlen
    go_enter Tryd.func32, Tryd.ntmps32
    go_wp2
    go_loopw [5] (fun i wr => ∃ k : Nat, k ≤ la.length ∧ i = .int .i64 k ∧ Hid (la.take k = lb.take k) ∧ Keeps (fun _ => False) w wr) (fun i _ => la.length - (intOf i).toNat)
    case atStart => exact ⟨0, Nat.zero_le _, rfl, rfl, Keeps.refl _ _⟩
    case round =>
      obtain ⟨k, hk, rfl, HT, hkp⟩ := hrel
      have HK := hide hkp
      by_cases hlt : k < la.length
      · have hltb : k < lb.length := by have := unhide HL; omega
        obtain ⟨b, off, c1, e1, hbl, hc⟩ := (unhide HA).cells (by omega)
        obtain ⟨b', off', c2, e2, hbl', hc'⟩ := (unhide HB).cells (by omega)
        simp at e1 e2
        obtain ⟨rfl, rfl⟩ := e1
        obtain ⟨rfl, rfl⟩ := e2
        obtain ⟨x, hx⟩ : ∃ x, la[k]? = some x := ⟨_, List.getElem?_eq_getElem hlt⟩
        obtain ⟨y, hy⟩ : ∃ y, lb[k]? = some y := ⟨_, List.getElem?_eq_getElem hltb⟩
        have c0 := (hkp.cell hbl id).trans (hc k x hx).1
        have c1 := (hkp.cell hbl id).trans (hc k x hx).2.1
        have c2 := (hkp.cell hbl id).trans (hc k x hx).2.2
        have d0 := (hkp.cell hbl' id).trans (hc' k y hy).1
        have d1 := (hkp.cell hbl' id).trans (hc' k y hy).2.1
        have d2 := (hkp.cell hbl' id).trans (hc' k y hy).2.2
        have i1 : (k : Int) < (la.length : Int) := by omega
        have i2 : (k : Int) < (lb.length : Int) := by omega
        have i0 : (0 : Int) ≤ (k : Int) := by omega
        have HX := hide hx
        have HY := hide hy
        clear hc hc' hx hy hkp
        have HQ := hide (eqValue_any x y wr.drew)
        have z1 : b < wr.drew.heap.size := Nat.lt_of_lt_of_le hbl (unhide HK).size
        have z2 : b' < wr.drew.heap.size := Nat.lt_of_lt_of_le hbl' (unhide HK).size
        unfold ValA.v at HQ
        go_wp2_with fail
        go_region_held3 (fun w' => w'.cell? ⟨b, off + k * 3, none⟩ = some (.int .i64 x.kind) ∧ w'.cell? ⟨b, off + k * 3 + 1, none⟩ = some (.int .i64 x.n) ∧ w'.cell? ⟨b, off + k * 3 + 2, none⟩ = some (str x.s) ∧ w'.cell? ⟨b', off' + k * 3, none⟩ = some (.int .i64 y.kind) ∧ w'.cell? ⟨b', off' + k * 3 + 1, none⟩ = some (.int .i64 y.n) ∧ w'.cell? ⟨b', off' + k * 3 + 2, none⟩ = some (str y.s))
          (go_keep)
          (first
            | (go_at_call 50
               refine (unhide HQ).mono ?_
               rintro e w4 ⟨rfl, hk4⟩
               have q1 := (hk4.cell z1 id).trans c0
               have q2 := (hk4.cell z1 id).trans c1
               have q3 := (hk4.cell z1 id).trans c2
               have q4 := (hk4.cell z2 id).trans d0
               have q5 := (hk4.cell z2 id).trans d1
               have q6 := (hk4.cell z2 id).trans d2
               have K4 := hide (((unhide HK).drewN 1).trans hk4)
               clear hk4))
        by_cases hxy : x = y
        · rw [decide_eq_true hxy]
          have HT2 : Hid (la.take (k + 1) = lb.take (k + 1)) := take_succ_eq (unhide HT) (unhide HX) (by rw [hxy]; exact unhide HY)
          clear hxy
          go_wp2_with fail
          go_roundw
          case rel => exact ⟨k + 1, by omega, by go_num, HT2, unhide K4⟩
          case measure => simp [intOf]; omega
        · rw [decide_eq_false hxy]
          have HN := hide hxy
          clear hxy
          go_wp2_with fail
          go_ret
          exact ⟨ret_bool (by symm; rw [decide_eq_false_iff_not]; exact get_ne (unhide HX) (unhide HY) (unhide HN)), unhide K4⟩
      · have HF := hide (take_end (unhide HL) (by omega) (unhide HT))
        clear hkp
        go_wp2
        go_ret
        exact ⟨ret_bool (by symm; rw [decide_eq_true_iff]; exact unhide HF), unhide HK⟩
  · have hne : ((la.length : Int) != (lb.length : Int)) = true := by rw [bne_iff_ne]; omega
    have HL := hide hlen
    clear hlen
    go_enter Tryd.func32, Tryd.ntmps32
    go_wp2
    go_ret
    exact ⟨ret_bool (by symm; rw [decide_eq_false_iff_not]; intro e; exact unhide HL (by rw [e])), Keeps.refl _ _⟩
set_option maxRecDepth 100000 in
set_option maxHeartbeats 1000000 in
theorem eqRow_v (w : World) (ha hb : Bool) (va vb : Value) (la lb : List ValA) (h1 : ValsAt w va la) (h2 : ValsAt w vb lb) (hla : la.length ≤ maxLen) :
    Calls Tryd.prog 16 #[.agg #[.bool ha, va], .agg #[.bool hb, vb]] w fun e w' => e = .returned (.bool (decide (ha = hb) && decide (la = lb))) ∧ Keeps (fun _ => False) w w' := by
  obtain ⟨ao, ac, rfl⟩ := RowAt.form h1
  obtain ⟨bo, bc, rfl⟩ := RowAt.form h2
  have HK := hide ((kAlloc w (.cells #[.bool ha, .slice ao la.length ac] 28)).alloc (.cells #[.bool hb, .slice bo lb.length bc] 28))
  have HQ := hide (eqVals_any _ _ _ la lb (h1.keepF (unhide HK)) (h2.keepF (unhide HK)) hla)
  generalize decide (la = lb) = R at *
  clear h1 h2
  cases ha <;> cases hb
  all_goals
    go_enter Tryd.func16, Tryd.ntmps16
    go_wp2_with (go_at_call 32; refine (unhide HQ).mono ?_; rintro e w1 ⟨rfl, hk1⟩)
    go_ret
    first | exact ⟨rfl, (unhide HK).trans hk1⟩ | exact ⟨rfl, unhide HK⟩
set_option maxRecDepth 100000 in
set_option maxHeartbeats 1000000 in
theorem copyCode_v (w : World) (v : Value) (l : List ValA) (hR : ValsAt w v l) (hl : l.length ≤ 4398046511104) :
    Calls Tryd.prog 19 #[v] w fun e w' => ∃ v', e = .returned v' ∧ w'.ownsRow w.heap.size 59 3 v' l.length (vcs l) ∧ Keeps (fun _ => False) w w' := by
  obtain ⟨i0, hi, hz0, hz1, hz2⟩ := info_parts Tryd.info59
  obtain ⟨ao, cap, rfl⟩ := RowAt.form hR
  have HR := hide hR
  have HL := hide hl
  have hl' : l.length ≤ 9223372036854775807 := by omega
  clear hR hl
  go_enter Tryd.func19, Tryd.ntmps19
  go_wp2
  go_loopw [3, 4] (fun o i wr => ∃ k : Nat, k ≤ l.length ∧ i = .int .i64 k ∧ wr.ownsRow w.heap.size 59 3 o k (vcs (l.take k)) ∧ Keeps (fun _ => False) w wr) (fun _ i _ => l.length - (intOf i).toNat)
  case atStart => exact ⟨0, Nat.zero_le _, rfl, by simpa [vcs] using World.ownsRow_nil w w.heap.size 59 3, Keeps.refl _ _⟩
  case round =>
    obtain ⟨k, hk, rfl, hown, hkeep⟩ := hrel
    have HO := hide hown
    have HK := hide hkeep
    clear hown hkeep
    by_cases hlt : k < l.length
    · obtain ⟨b, off, c, e1, hblt, hc⟩ := (unhide HR).cells (by omega)
      simp at e1
      obtain ⟨rfl, rfl⟩ := e1
      obtain ⟨x, hx⟩ : ∃ x, l[k]? = some x := ⟨_, List.getElem?_eq_getElem hlt⟩
      have p0 := ((unhide HK).cell hblt id).trans (hc k x hx).1
      have p1 := ((unhide HK).cell hblt id).trans (hc k x hx).2.1
      have p2 := ((unhide HK).cell hblt id).trans (hc k x hx).2.2
      have HX := hide hx
      have i1 : (k : Int) < (l.length : Int) := by omega
      have i0' : (0 : Int) ≤ (k : Int) := by omega
      clear hc hx
      go_wp2_with (at_builtin; refine wpList_append_lies _ rfl _ _ _ rfl w.heap.size 59 i0 _ 3 32 Tryd.underlying25 hi hz0 hz1 hz2 rfl (by omega) u3 k (vcs (l.take k)) rfl ((unhide HO).alloc _) ⟨wr.heap.size, 0, none⟩ 1 1 x.cs rfl rfl (World.news_of_block (cs := #[.int .i64 x.kind, .int .i64 x.n, str x.s]) (t := 59) (fr := (0, 0)) (heap_alloc_new wr _)) (by simp [Value.oneCell', ValA.cs]) (by omega) (by unfold maxLen; omega) (by have := unhide HL; omega) (by have := (unhide HK).size; simp; omega) (wr.heap.size + 1) (by simp) ?_; intro g cap w1 hown1 hgrow hat hlt1)
      go_roundw
      case rel =>
        refine ⟨k + 1, by omega, by go_num, ?_, ((unhide HK).alloc _).grown hgrow (fun q e hq => by have := ((unhide HO).lt q e).1; omega)⟩
        rw [take_snoc _ _ _ (unhide HX)]
        simpa [vcs] using hown1
      case measure => simp [intOf]; omega
    · go_wp2
      go_ret
      obtain rfl : k = l.length := by omega
      refine ⟨_, rfl, ?_, unhide HK⟩
      have := unhide HO
      rwa [List.take_length] at this
set_option maxRecDepth 100000 in
set_option maxHeartbeats 1000000 in
theorem behind20_v (w : World) (va vb : Value) (a l : List ValA) (hA : ValsAt w va a) (hR : ValsAt w vb l) (hl : a.length + l.length ≤ 4398046511104) :
    Calls Tryd.prog 20 #[va, vb] w fun e w' => ∃ v', e = .returned v' ∧ w'.ownsRow w.heap.size 59 3 v' (a.length + l.length) (vcs (a ++ l)) ∧ Keeps (fun _ => False) w w' := by
  obtain ⟨i0, hi, hz0, hz1, hz2⟩ := info_parts Tryd.info59
  obtain ⟨ao, cap, rfl⟩ := RowAt.form hR
  have HQ := hide (copyCode_v w va a hA (by omega))
  have HR := hide hR
  have HL := hide hl
  have hl' : l.length ≤ 9223372036854775807 := by omega
  clear hR hl hA
  go_enter Tryd.func20, Tryd.ntmps20
  go_wp2_with fail
  refine (unhide HQ).mono ?_
  rintro e w0 ⟨v0, rfl, how0, hk0⟩
  obtain ⟨co, cc, rfl⟩ := RowAt.form (rowAt_own how0)
  have HO0 := hide how0
  have HK0 := hide hk0
  clear how0 hk0 HQ
  go_wp2_with fail
  go_loopw [5, 6] (fun o i wr => ∃ k : Nat, k ≤ l.length ∧ i = .int .i64 k ∧ wr.ownsRow w.heap.size 59 3 o (a.length + k) (vcs (a ++ l.take k)) ∧ Keeps (fun _ => False) w wr) (fun _ i _ => l.length - (intOf i).toNat)
  case atStart => exact ⟨0, Nat.zero_le _, rfl, by simpa [vcs] using unhide HO0, unhide HK0⟩
  case round =>
    obtain ⟨k, hk, rfl, hown, hkeep⟩ := hrel
    have HO := hide hown
    have HK := hide hkeep
    clear hown hkeep
    by_cases hlt : k < l.length
    · obtain ⟨b, off, c, e1, hblt, hc⟩ := (unhide HR).cells (by omega)
      simp at e1
      obtain ⟨rfl, rfl⟩ := e1
      obtain ⟨x, hx⟩ : ∃ x, l[k]? = some x := ⟨_, List.getElem?_eq_getElem hlt⟩
      have p0 := ((unhide HK).cell hblt id).trans (hc k x hx).1
      have p1 := ((unhide HK).cell hblt id).trans (hc k x hx).2.1
      have p2 := ((unhide HK).cell hblt id).trans (hc k x hx).2.2
      have HX := hide hx
      have i1 : (k : Int) < (l.length : Int) := by omega
      have i0' : (0 : Int) ≤ (k : Int) := by omega
      clear hc hx
      go_wp2_with (at_builtin; refine wpList_append_lies _ rfl _ _ _ rfl w.heap.size 59 i0 _ 3 32 Tryd.underlying25 hi hz0 hz1 hz2 rfl (by omega) u5 (a.length + k) (vcs (a ++ l.take k)) rfl ((unhide HO).alloc _) ⟨wr.heap.size, 0, none⟩ 1 1 x.cs rfl rfl (World.news_of_block (cs := #[.int .i64 x.kind, .int .i64 x.n, str x.s]) (t := 59) (fr := (0, 0)) (heap_alloc_new wr _)) (by simp [Value.oneCell', ValA.cs]) (by omega) (by have := unhide HL; unfold maxLen; omega) (by have := unhide HL; omega) (by have := (unhide HK).size; simp; omega) (wr.heap.size + 1) (by simp) ?_; intro g cap w1 hown1 hgrow hat hlt1)
      go_roundw
      case rel =>
        refine ⟨k + 1, by omega, by go_num, ?_, ((unhide HK).alloc _).grown hgrow (fun q e hq => by have := ((unhide HO).lt q e).1; omega)⟩
        rw [take_snoc _ _ _ (unhide HX)]
        simpa [vcs, Nat.add_assoc] using hown1
      case measure => simp [intOf]; omega
    · go_wp2
      go_ret
      obtain rfl : k = l.length := by omega
      refine ⟨_, rfl, ?_, unhide HK⟩
      have := unhide HO
      rwa [List.take_length] at this
end Go.Proofs.YtonodcmbbgpjjaaDoor
