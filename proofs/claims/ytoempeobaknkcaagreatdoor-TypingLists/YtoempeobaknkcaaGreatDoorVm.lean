import Derived.Test.YtoempeobaknkcaaGreatDoorJzas
import Derived.Test.YtoempeobaknkcaaGreatDoorUg
namespace Go.Proofs.YtoempeobaknkcaaGreatDoor
open Go.RowKit Go.Maps

theorem bf_typed {w : World} {B g k : Nat} {c : Array Value} {t : TypeId} (hc : w.heap[k]? = some (.cells c t (0, 0))) (hg : k ≠ g) (h1 : t ≠ 25) (h2 : t ≠ 51) (h3 : t ≠ 3) : ¬ BF w B g k := by
  rintro (e | ⟨_, x, u, hu, hx⟩)
  · exact hg e
  · rcases hu with rfl | rfl | rfl
    · exact typed_ne hc hx h1
    · exact typed_ne hc hx h2
    · exact typed_ne hc hx h3

set_option maxRecDepth 100000 in
set_option maxHeartbeats 8000000 in
theorem roomed_v (Z : Zone) (S : List FieldA) (l : SL) (hsz : l.size ≤ 4294967294) (sv pv : Value) (w : World) (up : Nat) (hT : Types w) (hF : Forms w) (hf : FldsAt w sv S) (hp : SlS Z w up pv l) (hZ : Plain Z w.heap.size) (hn : S.length + 64 ≤ 4398046511104) :
    Calls Tryz.prog 5 #[.agg #[sv], pv] w fun e w' => e = .returned (.bool true) ∧ Keeps (fun _ => False) w w' := by
  obtain ⟨so, sc, rfl⟩ := RowAt.form hf
  obtain ⟨po, pc, rfl, _⟩ := hp.head
  obtain ⟨HK0, hbs0, hbc⟩ := boxed w #[.slice so S.length sc] 24
  have s0 := hbc 0 (.slice so S.length sc) rfl
  have HSB := hide (heap_alloc_new w (.cells #[.slice so S.length sc] 24))
  have HC1 := hide (roomFields_v S _ _ (hf.keepF HK0) hn)
  have HKX := hide HK0
  have HT := hide hT
  have HF := hide hF
  have HFL := hide hf
  have HP := hide hp
  have HZ := hide hZ
  have HSZ := hide hsz
  have HNN := hide hn
  clear hbc hT hF hf hp hZ HK0 hn
  go_enter Tryz.func5, Tryz.ntmps5
  go_upto_region 1 with fail
  generalize w.alloc (.cells #[.slice so S.length sc] 24) = X0 at *
  go_upto_region 3 with (go_at_call 12; refine (unhide HC1).mono ?_; rintro e w1 ⟨g1, cap1, rfl, ho1, hk1⟩; have HO1 := hide ho1; have HK1 := hide hk1; clear ho1 hk1)
  obtain ⟨g, hgg⟩ : ∃ g, g = (w1.alloc (.cells #[.slice (some ⟨g1, 0, none⟩) S.length cap1] 24)).heap.size := ⟨_, rfl⟩
  have hg2 : g = w1.heap.size + 1 := by rw [hgg]; simp
  obtain ⟨X1, hX1⟩ : ∃ X, X = w1.alloc (.cells #[.slice (some ⟨g1, 0, none⟩) S.length cap1] 24) := ⟨_, rfl⟩
  obtain ⟨X2, hX2⟩ : ∃ X, X = X1.alloc (.cells #[.slice none 0 0, .slice none 0 0, .slice none 0 0, .slice none 0 0] 47) := ⟨_, rfl⟩
  have hk12 : Keeps (fun _ => False) w1 X2 := by rw [hX2, hX1]; exact ((Keeps.refl _ w1).alloc _).alloc _
  have hkw := (unhide HKX).trans ((unhide HK1).trans hk12)
  have hab : X2.heap[w1.heap.size]? = some (.cells #[.slice (some ⟨g1, 0, none⟩) S.length cap1] 24 (0, 0)) := by
    rw [hX2]
    refine (((Keeps.refl (fun _ => False) X1).alloc _).block _ (by rw [hX1]; simp) id).trans ?_
    rw [hX1]
    exact heap_alloc_new w1 _
  have hgb : X2.heap[g]? = some (.cells #[.slice none 0 0, .slice none 0 0, .slice none 0 0, .slice none 0 0] 47 (0, 0)) := by
    rw [hX2, hgg, ← hX1]
    exact heap_alloc_new X1 _
  have hsz1 := (unhide HKX).size
  have hsz2 := (unhide HK1).size
  have hR : RoomsAt X2 w.heap.size g [] [] (.slice none 0 0) (.slice none 0 0) (.slice none 0 0) (.slice none 0 0) :=
    ⟨by omega, hgb, World.ownsRow_nil _ _ _ _, World.ownsRow_nil _ _ _ _, World.ownsRow_nil _ _ _ _, World.ownsRow_nil _ _ _ _, (fun q e => by cases e), (fun p hp => by cases hp), (fun p hp => by cases hp)⟩
  have HC3 := hide (rStmts_v Z w.heap.size g (unhide HZ) (l.size + 1) l (by omega) (unhide HSZ) X2 up _ [] [] _ _ _ _ ((unhide HP).keepF hkw) hR (by have := unhide HSZ; simp; omega) (by have := unhide HSZ; simp; omega))
  have HSB2 := hide ((((unhide HK1).trans hk12).block _ hbs0 id).trans (unhide HSB))
  have HO2 := hide (ownsRow_kept (unhide HO1) hk12 (fun _ _ => id))
  have HAB := hide hab
  have HKW := hide hkw
  have HR := hide hR
  have hgs : w.heap.size ≤ g := by omega
  have hne1 : w1.heap.size ≠ g := by omega
  have hne2 : w.heap.size ≠ g := by omega
  rw [← hX1, ← hX2]
  subst hg2
  clear hX1 hX2 hk12 hkw hab hgb hR hgg s0 HC1 HSB HO1 HK1 HKX hbs0
  go_upto_region 4 with (go_at_call 13; refine (unhide HC3).mono ?_; rintro e w2 ⟨qv, LE2, LS2, vS2, vE2, vNS2, vNE2, rfl, hs2, hr2, _, _, _, _, hk2⟩; obtain ⟨qo, qc, rfl, hqc⟩ := hs2.head; have HS2 := hide hs2; have HR2 := hide hr2; have HKW2 := hide (narrowO (unhide HKW) hk2 (fun q e => e.lo hgs)); have sb := (hk2.block _ (lt_of_block (unhide HSB2)) (bf_typed (unhide HSB2) hne2 (by decide) (by decide) (by decide))).trans (unhide HSB2); have ab := (hk2.block _ (lt_of_block (unhide HAB)) (bf_typed (unhide HAB) hne1 (by decide) (by decide) (by decide))).trans (unhide HAB); have HSB3 := hide sb; have HAB3 := hide ab; have HO3 := hide (ownsRow_kept (unhide HO2) hk2 (fun q e f => by obtain ⟨_, c, hc⟩ := own_typed (unhide HO2) e; exact bf_typed hc (fun e2 => by subst e2; exact typed_ne hc (unhide HR).blk (by decide)) (by decide) (by decide) (by decide) f)); clear hs2 hr2 hk2 sb ab)
  have HFA := hide (fun (W : World) (hk : Keeps (fun _ => False) w2 W) => (show FldsAt W (.slice (some ⟨g1, 0, none⟩) S.length cap1) S from by
    have := rowAt_own (unhide HO3)
    rw [fcs_app] at this
    exact (FldsAt.keepF (RowAt.first this (by omega)) hk)))
  have a0 := (cell_of_blk (unhide HAB3) 0).trans (show _ = some (Value.slice (some ⟨g1, 0, none⟩) S.length cap1) from rfl)
  have HC4 := hide (tcheck_v _ S l (unhide HSZ) _ _ w2 0 ((unhide HT).keepF (unhide HKW2)) ((unhide HF).keepF (unhide HKW2)) (unhide HFA _ (Keeps.refl _ _)) (unhide HS2))
  clear HC3 HSB2 HAB HO2 HKW HR
  go_upto_region 5 with (go_at_call 14; refine (unhide HC4).mono ?_; rintro e w3 ⟨rfl, hk3⟩; have HK3 := hide hk3; have a3 := (hk3.cell (lt_of_block (unhide HAB3)) id).trans a0; have HC5 := hide (tfields_v _ S l (unhide HSZ) _ _ w3 0 ((unhide HT).keepF ((unhide HKW2).trans hk3)) ((unhide HF).keepF ((unhide HKW2).trans hk3)) (unhide HFA _ hk3) ((unhide HS2).keepF hk3)); clear hk3 a0)
  go_upto_region 6 with (go_at_call 15; refine (unhide HC5).mono ?_; rintro e w4 ⟨rv, wv, rfl, _, _, hk4⟩; have HK4 := hide ((unhide HK3).trans hk4); clear hk4)
  obtain ⟨ao, cap, b, off, e0, hcap, ha, hst⟩ := (unhide HS2).open
  simp only [Value.slice.injEq, true_and] at e0
  obtain ⟨rfl, rfl⟩ := e0
  have HA := hide ha
  have HST := hide hst
  have ab0 := lt_of_block (unhide HAB3)
  have a2 := (cell_of_blk (unhide HAB3) 0).trans (show _ = some (Value.slice (some ⟨g1, 0, none⟩) S.length cap1) from rfl)
  have hlen : l.len ≤ 4294967294 := by have := SL.len_le l; have := unhide HSZ; omega
  clear a3 HC4 HC5 HK3 ha hst
  go_wp2_with fail
  go_loopw [9] (fun i wr => ∃ (rest : SL) (j : Nat), i = .int .i64 (j : Int) ∧ j + rest.len = l.len ∧ rest.size ≤ l.size ∧ Hid (StIn (tyZ (fun k => X2.heap.size ≤ k)) w2 rest b (off + j * 5)) ∧ Hid (Keeps (fun _ => False) w2 wr)) (fun i _ => l.len - (intOf i).toNat)
  case atStart => exact ⟨l, 0, rfl, by omega, Nat.le_refl _, by simpa using HST, HK4⟩
  case round =>
    clear HK4
    obtain ⟨rest, j, rfl, hjl, hrs, HRS, HK⟩ := hrel
    cases rest with
    | nil =>
      simp only [SL.len, Nat.add_zero] at hjl
      subst hjl
      have i1 : ¬ (l.len : Int) < (l.len : Int) := by omega
      have hsb := lt_of_block (unhide HSB3)
      have s0 := ((unhide HK).cell hsb id).trans ((cell_of_blk (unhide HSB3) 0).trans (show _ = some (Value.slice so S.length sc) from rfl))
      have HFR := hide (fun (W : World) (hk : Keeps (fun _ => False) w2 W) => (show FldsAt W (.slice (some ⟨g1, 0, none⟩) (S.length + 64) cap1) (S ++ roomsF 64) from by
        have := RowAt.keepF (rowAt_own (unhide HO3)) hk
        have e : (S ++ roomsF 64).length = S.length + 64 := by rw [List.length_append, roomsF_len]
        rw [← e] at this ⊢
        exact this))
      have HC6 := hide (fieldsKept_v S _ _ wr (unhide HFR _ (unhide HK)) ((unhide HFL).keepF ((unhide HKW2).trans (unhide HK))) (unhide HNN))
      go_wp2_with (first
        | (go_at_call 17; refine (unhide HC6).mono ?_; rintro e w5 ⟨rfl, hk5⟩; have HK5 := hide ((unhide HK).trans hk5); have HC7 := hide (eqStmts_same _ Z (l.size + 1) l (by omega) (unhide HSZ) w5 0 up _ _ ((unhide HS2).keepF (unhide HK5)) ((unhide HP).keepF ((unhide HKW2).trans (unhide HK5)))); clear hk5)
        | (go_at_call 18; refine (unhide HC7).mono ?_; rintro e w6 ⟨rfl, hk6⟩; have HK6 := hide ((unhide HK5).trans hk6); have HC8 := hide (kept_v _ _ _ _ _ _ _ _ w6 ((unhide HR2).keepF (unhide HK6))); clear hk6)
        | (go_at_call 19; refine (unhide HC8).mono ?_; rintro e w7 ⟨rfl, hk7⟩; have HK7 := hide ((unhide HK6).trans hk7); clear hk7))
      go_ret
      exact ⟨rfl, (unhide HKW2).trans (unhide HK7)⟩
    | cons op f x t el rest =>
      obtain ⟨h1, h2, h3, h4, ⟨xv, h5, hxs⟩, _, _, h9⟩ := unhide HRS
      simp only [SL.len, SL.size] at hjl hrs
      obtain ⟨rfl, _⟩ := unhide HA (by omega)
      obtain ⟨xo, xc, bx, xoff, rfl, hxc, hxa, hxi⟩ := hxs.open
      have HXA := hide hxa
      have HXI := hide hxi
      have H9 := hide h9
      have i1 : (j : Int) < (l.len : Int) := by omega
      have i2 : (0 : Int) ≤ (j : Int) := by omega
      have hxl : x.len ≤ 4294967294 := by have := EL.len_le x; have := unhide HSZ; omega
      clear HRS h9 hxi hxa hxs h2 h3 h4
      go_wp2_with fail
      go_loopw [10] (fun i wq => ∃ (re : EL) (k : Nat), i = .int .i64 (k : Int) ∧ k + re.len = x.len ∧ re.size ≤ x.size ∧ Hid (ExIn (tyZ (fun k => X2.heap.size ≤ k)) w2 re bx (xoff + k * 4)) ∧ Hid (Keeps (fun _ => False) w2 wq)) (fun i _ => x.len - (intOf i).toNat)
      case atStart => exact ⟨x, 0, rfl, by omega, Nat.le_refl _, by simpa using HXI, HK⟩
      case round =>
        clear HK
        rename_i w0_
        obtain ⟨re, k, rfl, hkl, hks, HRE, HK⟩ := hrel
        have d5 := ((unhide HK).cell h1 id).trans h5
        cases re with
        | nil =>
          simp only [EL.len, Nat.add_zero] at hkl
          subst hkl
          have i3 : ¬ (x.len : Int) < (x.len : Int) := by omega
          go_wp2_with fail
          go_roundw
          case rel => exact ⟨rest, j + 1, by go_num, by omega, by omega, by rw [show off + (j + 1) * 5 = off + j * 5 + 5 by omega]; exact H9, HK⟩
          case measure => simp [intOf]; omega
        | cons op2 n2 s2 kids re =>
          obtain ⟨y1, y2, y3, y4, y5, ⟨ko, kc, y6, y7, y8⟩, y9⟩ := unhide HRE
          simp only [EL.len, EL.size] at hkl hks
          obtain ⟨rfl, _⟩ := unhide HXA (by omega)
          have HKI : Hid (SlE (tyZ (fun k => X2.heap.size ≤ k)) w2 bx (.slice ko kids.len kc) kids) := ⟨ko, kc, rfl, y7, y8⟩
          have H9X := hide y9
          have z0 := ((unhide HK).cell y1 id).trans y3
          have z1 := ((unhide HK).cell y1 id).trans y4
          have z2 := ((unhide HK).cell y1 id).trans y5
          have z3 := ((unhide HK).cell y1 id).trans y6
          have z4 := ((unhide HK).cell ab0 id).trans a2
          have i3 : (k : Int) < (x.len : Int) := by omega
          have i4 : (0 : Int) ≤ (k : Int) := by omega
          have hkd : kids.size + 1 ≤ 4294967294 := by have := unhide HSZ; omega
          have HC := hide (fun (W : World) (hk : Keeps (fun _ => False) w2 W) => type_v _ S op2 n2 s2 kids hkd (.slice (some ⟨g1, 0, none⟩) S.length cap1) _ W bx ((unhide HT).keepF ((unhide HKW2).trans hk)) ((unhide HF).keepF ((unhide HKW2).trans hk)) (unhide HFA _ hk) ((unhide HKI).keepF hk))
          clear HRE y1 y3 y4 y5 y6 y8 y9
          go_upto_region 12 with fail
          go_region_with (go_at_call 16; refine (unhide HC _ (unhide HK).drew).mono ?_; rintro e w9 ⟨rfl, hk9⟩; have HK9 := hide ((unhide HK).drew.trans hk9); clear hk9)
          all_goals (go_wp2_with fail; go_roundw; (case rel => exact ⟨re, k + 1, by go_num, by omega, by omega, by rw [show xoff + (k + 1) * 4 = xoff + k * 4 + 4 by omega]; exact H9X, HK9⟩); (case measure => simp [intOf]; omega))
end Go.Proofs.YtoempeobaknkcaaGreatDoor
