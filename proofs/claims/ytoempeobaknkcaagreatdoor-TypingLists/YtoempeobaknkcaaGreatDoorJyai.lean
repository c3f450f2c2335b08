import Derived.Test.YtoempeobaknkcaaGreatDoorTo
import Derived.Test.YtoempeobaknkcaaGreatDoorJyax
namespace Go.Proofs.YtoempeobaknkcaaGreatDoor
open Go.RowKit Go.Maps

set_option maxRecDepth 100000 in
set_option maxHeartbeats 8000000 in
theorem ownB (Z : Zone) (S : List FieldA) (hS : schemaB S = true) (so : Option Addr) (sc : Nat) (f : Txt) (o n : Int) (s : Txt) (kids : EL) (xv : Value) (up : Nat) (tz eo : Option Addr) (tn tc en ec : Nat) (w : World) (hf : FldsAt w (.slice so S.length sc) S)
    (hx : SlE Z w up xv (.cons o n s kids .nil)) (hro : rootB o n s kids.len = true) (hw : wellE kids = true) (T : Int) (O : Bool) (E : Int) (hE : zeroK (kindP S o s kids) = (⟨T, O⟩, E)) (r : Int) (hr : OwnB T O E r) :
    Calls Tryz.prog 43 #[.agg #[.slice so S.length sc], stV 8 f xv (.slice tz tn tc) (.slice eo en ec)] w fun e w' => e = .returned (.int .i64 r) ∧ Keeps (fun _ => False) w w' := by
  have hl8 := schema_8 hS
  obtain ⟨xo, xc, b, off, rfl, hcap, ha, hin⟩ := hx.open
  obtain ⟨rfl, _⟩ := ha (by simp [EL.len])
  obtain ⟨h1, h2, h3, h4, h5, ⟨kao, kcap, h6, h7, h8⟩, _⟩ := hin
  have hkid : SlE Z w b (.slice kao kids.len kcap) kids := ⟨kao, kcap, rfl, h7, h8⟩
  have hlen : (EL.cons o n s kids .nil).len = 1 := rfl
  rw [hlen] at hcap ⊢
  obtain ⟨HX, hxb, hxc⟩ := boxedT w #[.slice so S.length sc] 24
  obtain ⟨HY, hyb, hyc⟩ := boxedT (w.alloc (.cells #[.slice so S.length sc] 24)) #[.int .i64 8, str f, .slice (some ⟨b, off, none⟩) 1 xc, .slice tz tn tc, .slice eo en ec] 53
  rw [World.size_alloc] at hyc hyb
  have HK0 := hide ((unhide HX).trans (unhide HY))
  have SB : ∀ w', Keeps (fun _ => False) ((w.alloc (.cells #[.slice so S.length sc] 24)).alloc (.cells #[.int .i64 8, str f, .slice (some ⟨b, off, none⟩) 1 xc, .slice tz tn tc, .slice eo en ec] 53)) w' → w'.cell? ⟨w.heap.size, 0, none⟩ = some (.slice so S.length sc) ∧ w'.cell? ⟨w.heap.size + 1, 0, none⟩ = some (.int .i64 8) ∧ w'.cell? ⟨w.heap.size + 1, 1, none⟩ = some (str f) ∧ w'.cell? ⟨w.heap.size + 1, 2, none⟩ = some (.slice (some ⟨b, off, none⟩) 1 xc) ∧ w'.cell? ⟨b, off, none⟩ = some (.int .i64 o) ∧ w'.cell? ⟨b, off + 1, none⟩ = some (.int .i64 n) ∧ w'.cell? ⟨b, off + 2, none⟩ = some (str s) ∧ w'.cell? ⟨b, off + 3, none⟩ = some (.slice kao kids.len kcap) := fun w' hk =>
    ⟨(((unhide HY).trans hk).cell hxb id).trans (hxc 0 _ rfl), (hk.cell hyb id).trans (hyc 0 _ rfl), (hk.cell hyb id).trans (hyc 1 _ rfl), (hk.cell hyb id).trans (hyc 2 _ rfl), (((unhide HK0).trans hk).cell h1 id).trans h3, (((unhide HK0).trans hk).cell h1 id).trans h4, (((unhide HK0).trans hk).cell h1 id).trans h5, (((unhide HK0).trans hk).cell h1 id).trans h6⟩
  have y := SB _ (Keeps.refl _ _)
  have HSB := hide SB
  have HFI := hide (refField_v S (.slice so S.length sc) f _ (hf.keepF (unhide HK0)) hl8)
  have HGO := fun w' (hk : Keeps (fun _ => False) w w') => hide (refKind_v Z S hS so sc (kids.size + 1) kids (by omega) o n s w' b (.slice kao kids.len kcap) (hkid.keepF hk) (hf.keepF hk) hro hw)
  rw [hE] at HGO
  have HR := hide hr
  clear hr
  clear hE
  clear hx hkid hf hxc hyc SB hro hw ha h2 h3 h4 h5 h6 h8 HX HY
  go_enter Tryz.func43, Tryz.ntmps43
  go_wp2_with (go_at_call 64; refine (unhide HFI).mono ?_; rintro e w1 ⟨⟨ix, rfl, _⟩, hk1⟩; have HKb := hide hk1; have y1 := unhide HSB _ hk1; have HK1 := hide ((unhide HK0).trans hk1); clear hk1)
  go_region_held3 (fun w' => w'.cell? ⟨w.heap.size, 0, none⟩ = some (.slice so S.length sc) ∧ w'.cell? ⟨w.heap.size + 1, 0, none⟩ = some (.int .i64 8) ∧ w'.cell? ⟨w.heap.size + 1, 1, none⟩ = some (str f) ∧ w'.cell? ⟨w.heap.size + 1, 2, none⟩ = some (.slice (some ⟨b, off, none⟩) 1 xc) ∧ w'.cell? ⟨b, off, none⟩ = some (.int .i64 o) ∧ w'.cell? ⟨b, off + 1, none⟩ = some (.int .i64 n) ∧ w'.cell? ⟨b, off + 2, none⟩ = some (str s) ∧ w'.cell? ⟨b, off + 3, none⟩ = some (.slice kao kids.len kcap))
    (first | with_reducible exact unhide HSB _ (unhide HKe) | with_reducible exact unhide HSB _ (unhide HKd) | with_reducible exact unhide HSB _ ((unhide HKd).alloc _) | with_reducible exact unhide HSB _ (unhide HKb).drew | with_reducible exact unhide HSB _ ((unhide HKb).alloc _).drew)
    ((go_at_call 65; first
      | ((with_reducible refine (unhide (HGO w1.drew (unhide HK1).drew)).mono ?_); rintro e w2 ⟨rfl, hk2⟩; have hkd := (Keeps.refl (fun _ => False) w1).drew.trans hk2; have HKd := hide ((unhide HKb).trans hkd); obtain ⟨HZ, hzb, hzc⟩ := boxedT w2 #[.int .i64 T, .bool O, .int .i64 E] 111; have c0 := hzc 0 (.int .i64 T) rfl; have c1 := hzc 1 (.bool O) rfl; have c2 := hzc 2 (.int .i64 E) rfl; have HKe := hide ((unhide HKd).trans (unhide HZ)); have yy := unhide HSB _ (unhide HKe); have HKF := hide (((unhide HK1).trans hkd).trans (unhide HZ)); clear hk2 hkd hzc)
      | ((with_reducible refine (unhide (HGO (w1.alloc (.cells #[.int .i64 0, .bool false, .int .i64 0] 111)).drew ((unhide HK1).alloc _).drew)).mono ?_); rintro e w2 ⟨rfl, hk2⟩; have hz := zero3_at hk2; have hkd := ((Keeps.refl (fun _ => False) w1).alloc (.cells #[.int .i64 0, .bool false, .int .i64 0] 111)).drew.trans hk2; have HKd := hide ((unhide HKb).trans hkd); have m0 : World.cell? _ _ = some (Value.int .i64 0) := cell_of_blk hz 0; have m1 : World.cell? _ _ = some (Value.bool false) := cell_of_blk hz 1; have m2 : World.cell? _ _ = some (Value.int .i64 0) := cell_of_blk hz 2; have f0 := frozen_of_blk hz 0; have f1 := frozen_of_blk hz 1; have f2 := frozen_of_blk hz 2; have hst := set3 hz rfl (.int .i64 T) (.bool O) (.int .i64 E); have hbs := (unhide HKb).size; have HKe : Hid (Keeps (fun _ => False) ((w.alloc (.cells #[.slice so S.length sc] 24)).alloc (.cells #[.int .i64 8, str f, .slice (some ⟨b, off, none⟩) 1 xc, .slice tz tn tc, .slice eo en ec] 53)) (((w2.setCell ⟨w1.heap.size, 0, none⟩ (.int .i64 T)).setCell ⟨w1.heap.size, 1, none⟩ (.bool O)).setCell ⟨w1.heap.size, 2, none⟩ (.int .i64 E))) := (unhide HKd).narrow hst.2 (fun q e => by omega); have yy := unhide HSB _ (unhide HKe); have c0 := hst.1.1; have c1 := hst.1.2.1; have c2 := hst.1.2.2; have HKF : Hid (Keeps (fun _ => False) w (((w2.setCell ⟨w1.heap.size, 0, none⟩ (.int .i64 T)).setCell ⟨w1.heap.size, 1, none⟩ (.bool O)).setCell ⟨w1.heap.size, 2, none⟩ (.int .i64 E))) := (unhide HK0).trans (unhide HKe); clear hk2 hkd hz hst hbs)))
  all_goals rcases unhide HR with ⟨q, rfl⟩ | ⟨rfl, q, rfl⟩ | ⟨rfl, rfl, rfl, rfl⟩ | ⟨rfl, rfl, rfl, rfl⟩
  all_goals clear HR
  all_goals (try have q2 := bne_of q)
  all_goals (try clear q)
  all_goals go_wp2_with fail
  all_goals (go_ret; exact ⟨rfl, unhide HKF⟩)
end Go.Proofs.YtoempeobaknkcaaGreatDoor
namespace Go.Proofs.YtoempeobaknkcaaGreatDoor
open Go.RowKit Go.Maps

theorem chg_val {E : Int} {K : KA} {d : FieldA} (hE : E = 0) : orL [0, E, ofI ⟨d.type, d.opt⟩ [1], plainI K [1]] = if d.type ≠ 1 then 91 else if K.t ≠ 1 then 91 else if K.o then 92 else 0 := by
  subst hE
  obtain ⟨nm, DT, DO⟩ := d
  obtain ⟨T, O⟩ := K
  by_cases h1 : DT = 1
  · subst h1
    by_cases h2 : T = 1
    · subst h2
      cases O <;> rfl
    · simp [orL, ofI, plainI, orI, h2]
  · simp [orL, ofI, h1]
theorem set_val {E : Int} {K : KA} {d : FieldA} (hE : E = 0) : orL [0, E, ofI K [d.type], if K.o = true ∧ d.opt = false then 92 else 0] = if K.t ≠ d.type then 91 else if K.o = true ∧ d.opt = false then 92 else 0 := by
  subst hE
  obtain ⟨nm, DT, DO⟩ := d
  obtain ⟨T, O⟩ := K
  by_cases h1 : T = DT
  · subst h1
    cases O <;> cases DO <;> simp [orL, ofI]
  · simp [orL, ofI, h1]
theorem if_val {E : Int} {K : KA} (hE : E = 0) : orL [E, plainI K [2]] = if K.t ≠ 2 then 91 else if K.o then 92 else 0 := by
  subst hE
  obtain ⟨T, O⟩ := K
  by_cases h1 : T = 2
  · subst h1
    cases O <;> rfl
  · simp [orL, plainI, orI, ofI, h1]
/-- The reference's own check of a statement. -/
theorem refOwn_v (Z : Zone) (S : List FieldA) (hS : schemaB S = true) (so : Option Addr) (sc : Nat) (op : Int) (f : Txt) (x : EL) (t e : SL) (xv tv ev : Value) (up : Nat) (w : World) (hf : FldsAt w (.slice so S.length sc) S)
    (hx : SlE Z w up xv x) (hv : ∃ tz tn tc eo en ec, tv = .slice tz tn tc ∧ ev = .slice eo en ec) (hh : headS op f x.len t.len e.len = true) (hw : wellE x = true) :
    Calls Tryz.prog 43 #[.agg #[.slice so S.length sc], stV op f xv tv ev] w fun e w' => e = .returned (.int .i64 (ownP S op f x)) ∧ Keeps (fun _ => False) w w' := by
  obtain ⟨tz, tn, tc, eo, en, ec, rfl, rfl⟩ := hv
  rcases head_open hh with ⟨h1, _, hl⟩ | ⟨rfl, _, rfl⟩ | ⟨h1, rfl⟩ | ⟨rfl, hl⟩
  · obtain ⟨o, n, s, kids, rfl⟩ := EL.one_of hl
    simp only [wellE, Bool.and_eq_true] at hw
    have hhk : headK S (.cons o n s kids .nil) = kindP S o s kids := rfl
    obtain ⟨xo, xc, rfl, _⟩ := hx.head
    cases hfo : fieldOf S f with
    | none =>
      have hn : namedK S f = (⟨0, false⟩, 90) := by unfold namedK; rw [hfo]
      have ho : ownP S op f (.cons o n s kids .nil) = 90 := by
        unfold ownP
        rcases h1 with rfl | rfl | rfl | rfl
        · rw [if_pos rfl, hn]; rfl
        all_goals rw [if_neg (by decide), if_pos (by decide), hn]; rfl
      rw [ho]
      exact ownX op h1 S hS so sc f xo tz eo _ xc tn tc en ec w hf hfo
    | some d =>
      have hn : namedK S f = (⟨d.type, d.opt⟩, 0) := by unfold namedK; rw [hfo]
      obtain ⟨kf, hkf⟩ := field_at hfo
      by_cases hE : (kindP S o s kids).2 = 0
      · have hk : kindP S o s kids = (⟨(kindP S o s kids).1.t, (kindP S o s kids).1.o⟩, 0) := by rw [← hE]
        have hgo := fun r (hr : OwnA op (kindP S o s kids).1.t (kindP S o s kids).1.o 0 d.type d.opt r) => ownA op h1 Z S hS so sc f o n s kids _ up tz eo tn tc en ec w hf hx hw.1 hw.2.1 kf d.name d.type d.opt hkf hfo _ _ _ (zeroK_ok hk) r hr
        rcases h1 with rfl | h1
        · have ho : ownP S 1 f (.cons o n s kids .nil) = if (kindP S o s kids).1.t ≠ d.type then 91 else if (kindP S o s kids).1.o = true ∧ d.opt = false then 92 else 0 := by
            unfold ownP
            rw [if_pos rfl, hn, hhk]
            exact set_val hE
          rw [ho]
          refine hgo _ ?_
          unfold OwnA
          by_cases hT : (kindP S o s kids).1.t = d.type
          · cases hO : (kindP S o s kids).1.o <;> cases hD : d.opt <;> simp [hT]
          · simp [hT]
        · have ho : ownP S op f (.cons o n s kids .nil) = if d.type ≠ 1 then 91 else if (kindP S o s kids).1.t ≠ 1 then 91 else if (kindP S o s kids).1.o then 92 else 0 := by
            unfold ownP
            rw [if_neg (by omega), if_pos h1, hn, hhk]
            exact chg_val hE
          rw [ho]
          refine hgo _ ?_
          unfold OwnA
          have hn1 : ¬ op = 1 := by omega
          by_cases hD : d.type = 1
          · by_cases hT : (kindP S o s kids).1.t = 1
            · cases hO : (kindP S o s kids).1.o <;> simp [hT, hD, hn1]
            · simp [hT, hD, hn1]
          · simp [hD, hn1]
      · have ho : ownP S op f (.cons o n s kids .nil) = (kindP S o s kids).2 := by
          unfold ownP
          rcases h1 with rfl | h1
          · rw [if_pos rfl, hn, hhk, orL_skip, orL_head hE]
          · rw [if_neg (by omega), if_pos h1, hn, hhk, orL_skip, orL_head hE]
        rw [ho]
        exact ownA op h1 Z S hS so sc f o n s kids _ up tz eo tn tc en ec w hf hx hw.1 hw.2.1 kf d.name d.type d.opt hkf hfo _ _ _ (zeroK_err rfl hE) _ (Or.inl ⟨hE, rfl⟩)
  · obtain ⟨xo, xc, rfl, _⟩ := hx.head
    have ho : ownP S 5 f .nil = orL [(namedK S f).2, optI (namedK S f).1] := rfl
    rw [ho]
    cases hfo : fieldOf S f with
    | none =>
      rw [show namedK S f = (⟨0, false⟩, 90) from by unfold namedK; rw [hfo]]
      exact own5x S hS so sc f xo tz eo _ xc tn tc en ec w hf hfo
    | some d =>
      obtain ⟨kf, hkf⟩ := field_at hfo
      rw [show namedK S f = (⟨d.type, d.opt⟩, 0) from by unfold namedK; rw [hfo]]
      cases hD : d.opt with
      | true => exact own5true S hS so sc f xo tz eo _ xc tn tc en ec w hf kf d.name d.type d.opt hD hkf hfo
      | false => exact own5false S hS so sc f xo tz eo _ xc tn tc en ec w hf kf d.name d.type d.opt hD hkf hfo
  · obtain ⟨xo, xc, rfl, _⟩ := hx.head
    rcases h1 with rfl | rfl
    · exact own6 S hS so sc f xo tz eo _ xc tn tc en ec w hf
    · exact own7 S hS so sc f xo tz eo _ xc tn tc en ec w hf
  · obtain ⟨o, n, s, kids, rfl⟩ := EL.one_of hl
    simp only [wellE, Bool.and_eq_true] at hw
    have ho : ownP S 8 f (.cons o n s kids .nil) = orL [(kindP S o s kids).2, plainI (kindP S o s kids).1 [2]] := rfl
    rw [ho]
    by_cases hE : (kindP S o s kids).2 = 0
    · have hk : kindP S o s kids = (⟨(kindP S o s kids).1.t, (kindP S o s kids).1.o⟩, 0) := by rw [← hE]
      rw [if_val hE]
      refine ownB Z S hS so sc f o n s kids xv up tz eo tn tc en ec w hf hx hw.1 hw.2.1 _ _ _ (zeroK_ok hk) _ ?_
      unfold OwnB
      by_cases hT : (kindP S o s kids).1.t = 2
      · cases hO : (kindP S o s kids).1.o <;> simp [hT]
      · simp [hT]
    · rw [orL_head hE]
      exact ownB Z S hS so sc f o n s kids xv up tz eo tn tc en ec w hf hx hw.1 hw.2.1 _ _ _ (zeroK_err rfl hE) _ (Or.inl ⟨hE, rfl⟩)
end Go.Proofs.YtoempeobaknkcaaGreatDoor
namespace Go.Proofs.YtoempeobaknkcaaGreatDoor
open Go.RowKit Go.Maps

set_option maxRecDepth 100000 in
set_option maxHeartbeats 4000000 in
theorem rcheck_bad (Z : Zone) (S : List FieldA) (l : SL) (hsz : l.size ≤ 4294967294) (sv pv : Value) (w : World) (up : Nat) (hf : FldsAt w sv S) (hp : SlS Z w up pv l) (E : Int) (hE : E ≠ 0)
    (h : schemaB S = false ∧ E = 60 ∨ schemaB S = true ∧ checkS l = E) :
    Calls Tryz.prog 24 #[.agg #[sv], pv] w fun e w' => e = .returned (chkV (E, 0)) ∧ Keeps (fun _ => False) w w' := by
  obtain ⟨ao, cap, rfl, hc⟩ := hp.head
  obtain ⟨so, sc, rfl⟩ := RowAt.form hf
  obtain ⟨HB, hxb, hxc⟩ := boxedT w #[.slice so S.length sc] 24
  have c0 := hxc 0 (.slice so S.length sc) rfl
  have HCS := hide (checkSchema_any S (.slice so S.length sc) _ (hf.keepF (unhide HB)))
  have HCE := fun w' (hk : Keeps (fun _ => False) w w') => hide (rCheck_v Z l hsz w' up (.slice ao l.len cap) (hp.keepF hk))
  clear hf hp hxc
  rcases h with ⟨h1, rfl⟩ | ⟨h1, h2⟩
  · rw [errS_bad h1] at HCS
    clear h1 HCE
    go_enter Tryz.func24, Tryz.ntmps24
    go_wp2_with (go_at_call 41; refine (unhide HCS).mono ?_; rintro e w1 ⟨rfl, hk1⟩; have HKa := hide ((unhide HB).trans hk1); clear hk1)
    refine bodyPost_ret (v := .tuple #[.int .i64 60, .int .i64 0]) (by simp [results, go_sem]) rfl ?_
    exact ⟨rfl, unhide HKa⟩
  · rw [errS_good h1] at HCS
    rw [h2] at HCE
    have n0 : (E != 0) = true := by simpa using hE
    clear h1 h2 hE
    go_enter Tryz.func24, Tryz.ntmps24
    go_wp2_with (first
      | (go_at_call 41; refine (unhide HCS).mono ?_; rintro e w1 ⟨rfl, hk1⟩; have HKa := hide ((unhide HB).trans hk1); clear hk1)
      | (go_at_call 42; refine (unhide (HCE _ (unhide HKa))).mono ?_; rintro e w2 ⟨rfl, hk1⟩; have HKa := hide ((unhide HKa).trans hk1); clear hk1))
    refine bodyPost_ret (v := .tuple #[.int .i64 E, .int .i64 0]) (by simp [results, go_sem]) rfl ?_
    exact ⟨rfl, unhide HKa⟩

set_option maxRecDepth 100000 in
set_option maxHeartbeats 8000000 in
theorem rcheck_fit (Z : Zone) (S : List FieldA) (l : SL) (hsz : l.size ≤ 4294967294) (sv pv : Value) (w : World) (up : Nat) (hf : FldsAt w sv S) (hp : SlS Z w up pv l) (hS : schemaB S = true) (hC : checkS l = 0) :
    Calls Tryz.prog 24 #[.agg #[sv], pv] w fun e w' => e = .returned (chkV (firstBad S (flatS l) 0)) ∧ Keeps (fun _ => False) w w' := by
  have hwl := checkS_well hC
  have hnl : (flatS l).len ≤ 4294967294 := by rw [flatS_len]; exact Nat.le_trans (countS_le l) hsz
  obtain ⟨ao, cap, rfl, hc⟩ := hp.head
  obtain ⟨so, sc, rfl⟩ := RowAt.form hf
  obtain ⟨HB, hxb, hxc⟩ := boxedT w #[.slice so S.length sc] 24
  have c0 := hxc 0 (.slice so S.length sc) rfl
  have SB : ∀ w', Keeps (fun _ => False) (w.alloc (.cells #[.slice so S.length sc] 24)) w' → w'.cell? ⟨w.heap.size, 0, none⟩ = some (.slice so S.length sc) := fun w' hk => (hk.cell hxb id).trans c0
  have HSB := hide SB
  have HCS := hide (checkSchema_any S (.slice so S.length sc) _ (hf.keepF (unhide HB)))
  have HCE := fun w' (hk : Keeps (fun _ => False) w w') => hide (rCheck_v Z l hsz w' up (.slice ao l.len cap) (hp.keepF hk))
  have HNU := fun w' (hk : Keeps (fun _ => False) w w') => hide (flat_v w'.heap.size (l.size + 1) l (by omega) hsz w' 0 (.slice ao l.len cap) (Nat.le_refl _) ((hp.keepF hk).arg (Nat.le_refl _) 0))
  have HF := hide hf
  have HSG := hide hS
  rw [errS_good hS] at HCS
  rw [hC] at HCE
  have HW := hide (flat_well (N := 4294967294) l hsz hwl)
  clear hf hp hxc SB hS hC hwl
  go_enter Tryz.func24, Tryz.ntmps24
  go_wp2_with (first
    | (go_at_call 41; refine (unhide HCS).mono ?_; rintro e w1 ⟨rfl, hk1⟩; have HKa := hide ((unhide HB).trans hk1); have HKb := hide hk1; clear hk1)
    | (go_at_call 42; refine (unhide (HCE _ (unhide HKa))).mono ?_; rintro e w2 ⟨rfl, hk1⟩; have HKa := hide ((unhide HKa).trans hk1); have HKb := hide ((unhide HKb).trans hk1); clear hk1)
    | (go_at_call 25; refine (unhide (HNU _ (unhide HKa))).mono ?_; rintro e w4 ⟨fo, fc, n, xs, rfl, hn, hown, hss, hk1⟩; obtain ⟨g, goff, hg, hst⟩ := num_open hn (rowAt_own hown) hss; have HNL := hide hn; have HG := hide hg; have HST := hide hst; have HKa := hide ((unhide HKa).trans hk1); have HKb := hide ((unhide HKb).trans hk1); clear hn hown hss hg hst hk1))
  have hn2 : n ≤ 4294967294 := by rw [unhide HNL]; exact hnl
  clear hnl HCS HCE HNU c0
  go_loopw [8] (fun i wr => ∃ (rest : SL) (k : Nat), i = .int .i64 k ∧ k + rest.len = n ∧ Hid (firstBad S rest k = firstBad S (flatS l) 0) ∧ wellF 4294967294 rest ∧ Keeps (fun _ => False) w4 wr ∧ StIn (argZ w4.heap.size) w4 rest g (goff + k * 5)) (fun i _ => n - (intOf i).toNat)
  case atStart => exact ⟨flatS l, 0, rfl, by rw [Nat.zero_add]; exact (unhide HNL).symm, rfl, unhide HW, Keeps.refl _ _, by simpa using unhide HST⟩
  case round =>
    obtain ⟨rest, k, rfl, hkl, HS, hwf, hkeep, hr⟩ := hrel
    have HK := hide hkeep
    cases rest with
    | nil =>
      simp only [SL.len, Nat.add_zero] at hkl
      have i1 : ¬ (k : Int) < (n : Int) := by omega
      clear hr hkeep hwf hkl
      go_wp2_with fail
      refine bodyPost_ret (v := .tuple #[.int .i64 0, .int .i64 0]) (by simp [results, go_sem]) rfl ?_
      exact ⟨by rw [← unhide HS]; rfl, (unhide HKa).trans (unhide HK)⟩
    | cons op f x t el rest =>
      obtain ⟨h1, h2, h3, h4, ⟨xv, h5, hxs⟩, ⟨tao, tcap, h6, h7, h8⟩, ⟨eao, ecap, j6, j7, j8⟩, h9⟩ := hr
      obtain ⟨hh, hwx, hxz, hwr⟩ := hwf
      simp only [SL.len] at hkl
      obtain ⟨xao, xcap, rfl, hxl⟩ := hxs.head
      obtain rfl := (unhide HG) (by omega)
      have HR := hide h9
      have HWR := hide hwr
      have i1 : (k : Int) < (n : Int) := by omega
      have ix0 : (0 : Int) ≤ (k : Int) := by omega
      have HKL := hide hkl
      have e0 : ∀ m : KW wr, m.wd.cell? ⟨w.heap.size, 0, none⟩ = some (.slice so S.length sc) := fun m => unhide HSB _ (((unhide HKb).trans hkeep).trans m.kept)
      have f0 : ∀ m : KW wr, m.wd.cell? ⟨g, goff + k * 5, none⟩ = some (.int .i64 op) := fun m => ((hkeep.trans m.kept).cell h1 id).trans h3
      have f1 : ∀ m : KW wr, m.wd.cell? ⟨g, goff + k * 5 + 1, none⟩ = some (str f) := fun m => ((hkeep.trans m.kept).cell h1 id).trans h4
      have f2 : ∀ m : KW wr, m.wd.cell? ⟨g, goff + k * 5 + 2, none⟩ = some (.slice xao x.len xcap) := fun m => ((hkeep.trans m.kept).cell h1 id).trans h5
      have f3 : ∀ m : KW wr, m.wd.cell? ⟨g, goff + k * 5 + 3, none⟩ = some (.slice tao t.len tcap) := fun m => ((hkeep.trans m.kept).cell h1 id).trans h6
      have f4 : ∀ m : KW wr, m.wd.cell? ⟨g, goff + k * 5 + 4, none⟩ = some (.slice eao el.len ecap) := fun m => ((hkeep.trans m.kept).cell h1 id).trans j6
      have HE := hide (fun (m : KW wr) => kw_of m (refOwn_v (argZ w4.heap.size) S (unhide HSG) so sc op f x t el _ (.slice tao t.len tcap) (.slice eao el.len ecap) g m.wd ((unhide HF).keepF (((unhide HKa).trans hkeep).trans m.kept)) (hxs.keepF (hkeep.trans m.kept)) ⟨_, _, _, _, _, _, rfl, rfl⟩ hh hwx))
      have hst : firstBad S (.cons op f x t el rest) k = if ownP S op f x ≠ 0 then (ownP S op f x, k) else firstBad S rest (k + 1) := rfl
      rw [hst] at HS
      obtain ⟨R, hR⟩ : ∃ R, R = ownP S op f x := ⟨_, rfl⟩
      rw [← hR] at HE HS
      clear hkeep h1 h2 h3 h4 h5 h6 h8 h9 j6 j8 hxs hst hR hh hwx hwr hkl
      by_cases hR0 : R = 0
      · subst hR0
        rw [if_neg (by simp)] at HS
        go_wp2_with fail
        refine region_kept (by kernel_rfl) (by kernel_rfl) ?_
        repeat (go_big_quiet_step ((go_at_call 43; exact unhide HE _)))
        refine wpQuiet_nil ?_
        rintro _ ⟨nq, rfl⟩
        have HK1 := hide nq.kept
        go_wp2_with fail
        go_roundw
        case rel =>
          refine ⟨rest, k + 1, by go_num, by have := unhide HKL; omega, unhide HS, unhide HWR, (unhide HK).trans (unhide HK1), ?_⟩
          rw [show goff + (k + 1) * 5 = goff + k * 5 + 5 by omega]
          exact unhide HR
        case measure => have := unhide HKL; simp [intOf]; omega
      · have n0 : (R != 0) = true := by simpa using hR0
        rw [if_pos hR0] at HS
        clear hR0
        go_wp2_with fail
        refine region_kept (by kernel_rfl) (by kernel_rfl) ?_
        repeat (go_big_quiet_step ((go_at_call 43; exact unhide HE _)))
        refine wpQuiet_nil ?_
        rintro _ ⟨nq, rfl⟩
        have HK1 := hide nq.kept
        go_wp2_with fail
        refine bodyPost_ret (v := .tuple #[.int .i64 R, .int .i64 (k : Int)]) (by simp [results, go_sem]) rfl ?_
        exact ⟨by rw [← unhide HS], ((unhide HKa).trans (unhide HK)).trans (unhide HK1)⟩
theorem rcheck9_v (Z : Zone) (S : List FieldA) (l : SL) (hsz : l.size ≤ 4294967294) (sv pv : Value) (w : World) (up : Nat) (hf : FldsAt w sv S) (hp : SlS Z w up pv l) :
    Calls Tryz.prog 24 #[.agg #[sv], pv] w fun e w' => e = .returned (chkV (checkP S l)) ∧ Keeps (fun _ => False) w w' := by
  unfold checkP
  cases hS : schemaB S with
  | false =>
    rw [errS_bad hS, if_pos (by decide)]
    exact rcheck_bad Z S l hsz sv pv w up hf hp 60 (by decide) (Or.inl ⟨hS, rfl⟩)
  | true =>
    rw [errS_good hS, if_neg (by simp)]
    by_cases hE : checkS l = 0
    · rw [if_neg (by simpa using hE)]
      exact rcheck_fit Z S l hsz sv pv w up hf hp hS hE
    · rw [if_pos hE]
      exact rcheck_bad Z S l hsz sv pv w up hf hp _ hE (Or.inr ⟨hS, rfl⟩)

end Go.Proofs.YtoempeobaknkcaaGreatDoor
