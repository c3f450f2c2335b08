import Derived.Test.YtjhppnecadnekaaDoorJs
import Derived.Test.YtjhppnecadnekaaDoorJA
import Derived.Test.YtjhppnecadnekaaDoorJl
namespace Go.Proofs.YtjhppnecadnekaaDoor
open Go.RowKit Go.Maps

theorem refField_no (S : List FieldA) (sv : Value) (nm : Txt) (w : World) (h : FldsAt w sv S) (hl : S.length ≤ 8) (hno : fieldOf S nm = none) :
    Calls Tryd.prog 53 #[.agg #[sv], str nm] w fun e w' => e = .returned (.int .i64 (-1)) ∧ Keeps (fun _ => False) w w' :=
  (refField_v S sv nm w h hl).mono fun e w' ⟨⟨i, he, hi⟩, hk⟩ => ⟨(by
    rcases hi with ⟨_, rfl⟩ | ⟨k, f, _, hs, _⟩
    · exact he
    · rw [hno] at hs
      exact absurd hs (by simp)), hk⟩
theorem refField_at (S : List FieldA) (hS : schemaB S = true) (sv : Value) (nm : Txt) (w : World) (h : FldsAt w sv S) (hl : S.length ≤ 8) (kf : Nat) (d : FieldA) (hkf : S[kf]? = some d) (hd : fieldOf S nm = some d) :
    Calls Tryd.prog 53 #[.agg #[sv], str nm] w fun e w' => e = .returned (.int .i64 (kf : Int)) ∧ Keeps (fun _ => False) w w' :=
  (refField_v S sv nm w h hl).mono fun e w' ⟨⟨i, he, hi⟩, hk⟩ => ⟨(by
    rcases hi with ⟨hno, _⟩ | ⟨k, f, h1, h2, rfl⟩
    · rw [hno] at hd; cases hd
    · have e1 := idx_some hS h1 h2
      have e2 := idx_some hS hkf hd
      rw [e1] at e2
      cases e2
      exact he), hk⟩
theorem zeroK_err {p : KA × Int} {E : Int} (h : p.2 = E) (h0 : E ≠ 0) : zeroK p = (⟨0, false⟩, E) := by
  unfold zeroK
  rw [if_pos (by rw [h]; exact h0), h]
theorem zeroK_ok {p : KA × Int} {T : Int} {O : Bool} (h : p = (⟨T, O⟩, 0)) : zeroK p = (⟨T, O⟩, 0) := by
  unfold zeroK
  rw [h]
  rfl

set_option maxRecDepth 100000 in
set_option maxHeartbeats 8000000 in
theorem own8e (Z : Zone) (S : List FieldA) (hS : schemaB S = true) (so : Option Addr) (sc : Nat) (f : Txt) (o n : Int) (s : Txt) (kids : EL) (xv : Value) (up : Nat) (to eo : Option Addr) (tn tc en ec : Nat) (w : World) (hf : FldsAt w (.slice so S.length sc) S)
    (hx : SlE Z w up xv (.cons o n s kids .nil)) (hro : rootB o n s kids.len = true) (hw : wellE kids = true) (E : Int) (hE : (kindP S o s kids).2 = E) (hE0 : E ≠ 0) :
    Calls Tryd.prog 35 #[.agg #[.slice so S.length sc], stV 8 f xv (.slice to tn tc) (.slice eo en ec)] w fun e w' => e = .returned (.int .i64 E) ∧ Keeps (fun _ => False) w w' := by
  have hl8 := schema_8 hS
  obtain ⟨xo, xc, b, off, rfl, hcap, ha, hin⟩ := hx.open
  obtain ⟨rfl, _⟩ := ha (by simp [EL.len])
  obtain ⟨h1, h2, h3, h4, h5, ⟨kao, kcap, h6, h7, h8⟩, _⟩ := hin
  have hkid : SlE Z w b (.slice kao kids.len kcap) kids := ⟨kao, kcap, rfl, h7, h8⟩
  have hlen : (EL.cons o n s kids .nil).len = 1 := rfl
  rw [hlen] at hcap ⊢
  obtain ⟨HX, hxb, hxc⟩ := boxedT w #[.slice so S.length sc] 24
  obtain ⟨HY, hyb, hyc⟩ := boxedT (w.alloc (.cells #[.slice so S.length sc] 24)) #[.int .i64 8, str f, .slice (some ⟨b, off, none⟩) 1 xc, .slice to tn tc, .slice eo en ec] 64
  rw [World.size_alloc] at hyc hyb
  have HK0 := hide ((unhide HX).trans (unhide HY))
  have SB : ∀ w', Keeps (fun _ => False) ((w.alloc (.cells #[.slice so S.length sc] 24)).alloc (.cells #[.int .i64 8, str f, .slice (some ⟨b, off, none⟩) 1 xc, .slice to tn tc, .slice eo en ec] 64)) w' → w'.cell? ⟨w.heap.size, 0, none⟩ = some (.slice so S.length sc) ∧ w'.cell? ⟨w.heap.size + 1, 0, none⟩ = some (.int .i64 8) ∧ w'.cell? ⟨w.heap.size + 1, 1, none⟩ = some (str f) ∧ w'.cell? ⟨w.heap.size + 1, 2, none⟩ = some (.slice (some ⟨b, off, none⟩) 1 xc) ∧ w'.cell? ⟨b, off, none⟩ = some (.int .i64 o) ∧ w'.cell? ⟨b, off + 1, none⟩ = some (.int .i64 n) ∧ w'.cell? ⟨b, off + 2, none⟩ = some (str s) ∧ w'.cell? ⟨b, off + 3, none⟩ = some (.slice kao kids.len kcap) := fun w' hk =>
    ⟨(((unhide HY).trans hk).cell hxb id).trans (hxc 0 _ rfl), (hk.cell hyb id).trans (hyc 0 _ rfl), (hk.cell hyb id).trans (hyc 1 _ rfl), (hk.cell hyb id).trans (hyc 2 _ rfl), (((unhide HK0).trans hk).cell h1 id).trans h3, (((unhide HK0).trans hk).cell h1 id).trans h4, (((unhide HK0).trans hk).cell h1 id).trans h5, (((unhide HK0).trans hk).cell h1 id).trans h6⟩
  have y := SB _ (Keeps.refl _ _)
  have HSB := hide SB
  have HFI := hide (refField_v S (.slice so S.length sc) f _ (hf.keepF (unhide HK0)) hl8)
  have HGO := fun w' (hk : Keeps (fun _ => False) w w') => hide (refKind_v Z S hS so sc (kids.size + 1) kids (by omega) o n s w' b (.slice kao kids.len kcap) (hkid.keepF hk) (hf.keepF hk) hro hw)
  rw [zeroK_err hE hE0] at HGO
  have n0 : (E != 0) = true := by simpa using hE0
  clear hE hE0
  clear hx hkid hf hxc hyc SB hro hw ha h2 h3 h4 h5 h6 h8 HX HY
  go_enter Tryd.func35, Tryd.ntmps35
  go_wp2_with (go_at_call 53; refine (unhide HFI).mono ?_; rintro e w1 ⟨⟨ix, rfl, _⟩, hk1⟩; have HKb := hide hk1; have y1 := unhide HSB _ hk1; have HK1 := hide ((unhide HK0).trans hk1); clear hk1)
  go_region_held3 (fun w' => w'.cell? ⟨w.heap.size, 0, none⟩ = some (.slice so S.length sc) ∧ w'.cell? ⟨w.heap.size + 1, 0, none⟩ = some (.int .i64 8) ∧ w'.cell? ⟨w.heap.size + 1, 1, none⟩ = some (str f) ∧ w'.cell? ⟨w.heap.size + 1, 2, none⟩ = some (.slice (some ⟨b, off, none⟩) 1 xc) ∧ w'.cell? ⟨b, off, none⟩ = some (.int .i64 o) ∧ w'.cell? ⟨b, off + 1, none⟩ = some (.int .i64 n) ∧ w'.cell? ⟨b, off + 2, none⟩ = some (str s) ∧ w'.cell? ⟨b, off + 3, none⟩ = some (.slice kao kids.len kcap))
    (first | with_reducible exact unhide HSB _ (unhide HKe) | with_reducible exact unhide HSB _ (unhide HKd) | with_reducible exact unhide HSB _ ((unhide HKd).alloc _) | with_reducible exact unhide HSB _ (unhide HKb).drew | with_reducible exact unhide HSB _ ((unhide HKb).alloc _).drew)
    ((go_at_call 54; first
      | ((with_reducible refine (unhide (HGO w1.drew (unhide HK1).drew)).mono ?_); rintro e w2 ⟨rfl, hk2⟩; have hkd := (Keeps.refl (fun _ => False) w1).drew.trans hk2; have HKd := hide ((unhide HKb).trans hkd); obtain ⟨HZ, hzb, hzc⟩ := boxedT w2 #[.int .i64 0, .bool false, .int .i64 E] 83; have c0 := hzc 0 (.int .i64 0) rfl; have c1 := hzc 1 (.bool false) rfl; have c2 := hzc 2 (.int .i64 E) rfl; have HKe := hide ((unhide HKd).trans (unhide HZ)); have yy := unhide HSB _ (unhide HKe); have HKF := hide (((unhide HK1).trans hkd).trans (unhide HZ)); clear hk2 hkd hzc)
      | ((with_reducible refine (unhide (HGO (w1.alloc (.cells #[.int .i64 0, .bool false, .int .i64 0] 83)).drew ((unhide HK1).alloc _).drew)).mono ?_); rintro e w2 ⟨rfl, hk2⟩; have hz := zero3_at hk2; have hkd := ((Keeps.refl (fun _ => False) w1).alloc (.cells #[.int .i64 0, .bool false, .int .i64 0] 83)).drew.trans hk2; have HKd := hide ((unhide HKb).trans hkd); have m0 : World.cell? _ _ = some (Value.int .i64 0) := cell_of_blk hz 0; have m1 : World.cell? _ _ = some (Value.bool false) := cell_of_blk hz 1; have m2 : World.cell? _ _ = some (Value.int .i64 0) := cell_of_blk hz 2; have f0 := frozen_of_blk hz 0; have f1 := frozen_of_blk hz 1; have f2 := frozen_of_blk hz 2; have hst := set3 hz rfl (.int .i64 0) (.bool false) (.int .i64 E); have hbs := (unhide HKb).size; have HKe : Hid (Keeps (fun _ => False) ((w.alloc (.cells #[.slice so S.length sc] 24)).alloc (.cells #[.int .i64 8, str f, .slice (some ⟨b, off, none⟩) 1 xc, .slice to tn tc, .slice eo en ec] 64)) (((w2.setCell ⟨w1.heap.size, 0, none⟩ (.int .i64 0)).setCell ⟨w1.heap.size, 1, none⟩ (.bool false)).setCell ⟨w1.heap.size, 2, none⟩ (.int .i64 E))) := (unhide HKd).narrow hst.2 (fun q e => by omega); have yy := unhide HSB _ (unhide HKe); have c0 := hst.1.1; have c1 := hst.1.2.1; have c2 := hst.1.2.2; have HKF : Hid (Keeps (fun _ => False) w (((w2.setCell ⟨w1.heap.size, 0, none⟩ (.int .i64 0)).setCell ⟨w1.heap.size, 1, none⟩ (.bool false)).setCell ⟨w1.heap.size, 2, none⟩ (.int .i64 E))) := (unhide HK0).trans (unhide HKe); clear hk2 hkd hz hst hbs)))
  all_goals go_wp2_with fail
  all_goals (go_ret; exact ⟨rfl, unhide HKF⟩)

set_option maxRecDepth 100000 in
set_option maxHeartbeats 8000000 in
theorem own8t (Z : Zone) (S : List FieldA) (hS : schemaB S = true) (so : Option Addr) (sc : Nat) (f : Txt) (o n : Int) (s : Txt) (kids : EL) (xv : Value) (up : Nat) (to eo : Option Addr) (tn tc en ec : Nat) (w : World) (hf : FldsAt w (.slice so S.length sc) S)
    (hx : SlE Z w up xv (.cons o n s kids .nil)) (hro : rootB o n s kids.len = true) (hw : wellE kids = true) (T : Int) (O : Bool) (hE : kindP S o s kids = (⟨T, O⟩, 0)) (hT : T ≠ 2) :
    Calls Tryd.prog 35 #[.agg #[.slice so S.length sc], stV 8 f xv (.slice to tn tc) (.slice eo en ec)] w fun e w' => e = .returned (.int .i64 91) ∧ Keeps (fun _ => False) w w' := by
  have hl8 := schema_8 hS
  obtain ⟨xo, xc, b, off, rfl, hcap, ha, hin⟩ := hx.open
  obtain ⟨rfl, _⟩ := ha (by simp [EL.len])
  obtain ⟨h1, h2, h3, h4, h5, ⟨kao, kcap, h6, h7, h8⟩, _⟩ := hin
  have hkid : SlE Z w b (.slice kao kids.len kcap) kids := ⟨kao, kcap, rfl, h7, h8⟩
  have hlen : (EL.cons o n s kids .nil).len = 1 := rfl
  rw [hlen] at hcap ⊢
  obtain ⟨HX, hxb, hxc⟩ := boxedT w #[.slice so S.length sc] 24
  obtain ⟨HY, hyb, hyc⟩ := boxedT (w.alloc (.cells #[.slice so S.length sc] 24)) #[.int .i64 8, str f, .slice (some ⟨b, off, none⟩) 1 xc, .slice to tn tc, .slice eo en ec] 64
  rw [World.size_alloc] at hyc hyb
  have HK0 := hide ((unhide HX).trans (unhide HY))
  have SB : ∀ w', Keeps (fun _ => False) ((w.alloc (.cells #[.slice so S.length sc] 24)).alloc (.cells #[.int .i64 8, str f, .slice (some ⟨b, off, none⟩) 1 xc, .slice to tn tc, .slice eo en ec] 64)) w' → w'.cell? ⟨w.heap.size, 0, none⟩ = some (.slice so S.length sc) ∧ w'.cell? ⟨w.heap.size + 1, 0, none⟩ = some (.int .i64 8) ∧ w'.cell? ⟨w.heap.size + 1, 1, none⟩ = some (str f) ∧ w'.cell? ⟨w.heap.size + 1, 2, none⟩ = some (.slice (some ⟨b, off, none⟩) 1 xc) ∧ w'.cell? ⟨b, off, none⟩ = some (.int .i64 o) ∧ w'.cell? ⟨b, off + 1, none⟩ = some (.int .i64 n) ∧ w'.cell? ⟨b, off + 2, none⟩ = some (str s) ∧ w'.cell? ⟨b, off + 3, none⟩ = some (.slice kao kids.len kcap) := fun w' hk =>
    ⟨(((unhide HY).trans hk).cell hxb id).trans (hxc 0 _ rfl), (hk.cell hyb id).trans (hyc 0 _ rfl), (hk.cell hyb id).trans (hyc 1 _ rfl), (hk.cell hyb id).trans (hyc 2 _ rfl), (((unhide HK0).trans hk).cell h1 id).trans h3, (((unhide HK0).trans hk).cell h1 id).trans h4, (((unhide HK0).trans hk).cell h1 id).trans h5, (((unhide HK0).trans hk).cell h1 id).trans h6⟩
  have y := SB _ (Keeps.refl _ _)
  have HSB := hide SB
  have HFI := hide (refField_v S (.slice so S.length sc) f _ (hf.keepF (unhide HK0)) hl8)
  have HGO := fun w' (hk : Keeps (fun _ => False) w w') => hide (refKind_v Z S hS so sc (kids.size + 1) kids (by omega) o n s w' b (.slice kao kids.len kcap) (hkid.keepF hk) (hf.keepF hk) hro hw)
  rw [zeroK_ok hE] at HGO
  have n1 : (T != 2) = true := by simpa using hT
  clear hT
  clear hE
  clear hx hkid hf hxc hyc SB hro hw ha h2 h3 h4 h5 h6 h8 HX HY
  go_enter Tryd.func35, Tryd.ntmps35
  go_wp2_with (go_at_call 53; refine (unhide HFI).mono ?_; rintro e w1 ⟨⟨ix, rfl, _⟩, hk1⟩; have HKb := hide hk1; have y1 := unhide HSB _ hk1; have HK1 := hide ((unhide HK0).trans hk1); clear hk1)
  go_region_held3 (fun w' => w'.cell? ⟨w.heap.size, 0, none⟩ = some (.slice so S.length sc) ∧ w'.cell? ⟨w.heap.size + 1, 0, none⟩ = some (.int .i64 8) ∧ w'.cell? ⟨w.heap.size + 1, 1, none⟩ = some (str f) ∧ w'.cell? ⟨w.heap.size + 1, 2, none⟩ = some (.slice (some ⟨b, off, none⟩) 1 xc) ∧ w'.cell? ⟨b, off, none⟩ = some (.int .i64 o) ∧ w'.cell? ⟨b, off + 1, none⟩ = some (.int .i64 n) ∧ w'.cell? ⟨b, off + 2, none⟩ = some (str s) ∧ w'.cell? ⟨b, off + 3, none⟩ = some (.slice kao kids.len kcap))
    (first | with_reducible exact unhide HSB _ (unhide HKe) | with_reducible exact unhide HSB _ (unhide HKd) | with_reducible exact unhide HSB _ ((unhide HKd).alloc _) | with_reducible exact unhide HSB _ (unhide HKb).drew | with_reducible exact unhide HSB _ ((unhide HKb).alloc _).drew)
    ((go_at_call 54; first
      | ((with_reducible refine (unhide (HGO w1.drew (unhide HK1).drew)).mono ?_); rintro e w2 ⟨rfl, hk2⟩; have hkd := (Keeps.refl (fun _ => False) w1).drew.trans hk2; have HKd := hide ((unhide HKb).trans hkd); obtain ⟨HZ, hzb, hzc⟩ := boxedT w2 #[.int .i64 T, .bool O, .int .i64 0] 83; have c0 := hzc 0 (.int .i64 T) rfl; have c1 := hzc 1 (.bool O) rfl; have c2 := hzc 2 (.int .i64 0) rfl; have HKe := hide ((unhide HKd).trans (unhide HZ)); have yy := unhide HSB _ (unhide HKe); have HKF := hide (((unhide HK1).trans hkd).trans (unhide HZ)); clear hk2 hkd hzc)
      | ((with_reducible refine (unhide (HGO (w1.alloc (.cells #[.int .i64 0, .bool false, .int .i64 0] 83)).drew ((unhide HK1).alloc _).drew)).mono ?_); rintro e w2 ⟨rfl, hk2⟩; have hz := zero3_at hk2; have hkd := ((Keeps.refl (fun _ => False) w1).alloc (.cells #[.int .i64 0, .bool false, .int .i64 0] 83)).drew.trans hk2; have HKd := hide ((unhide HKb).trans hkd); have m0 : World.cell? _ _ = some (Value.int .i64 0) := cell_of_blk hz 0; have m1 : World.cell? _ _ = some (Value.bool false) := cell_of_blk hz 1; have m2 : World.cell? _ _ = some (Value.int .i64 0) := cell_of_blk hz 2; have f0 := frozen_of_blk hz 0; have f1 := frozen_of_blk hz 1; have f2 := frozen_of_blk hz 2; have hst := set3 hz rfl (.int .i64 T) (.bool O) (.int .i64 0); have hbs := (unhide HKb).size; have HKe : Hid (Keeps (fun _ => False) ((w.alloc (.cells #[.slice so S.length sc] 24)).alloc (.cells #[.int .i64 8, str f, .slice (some ⟨b, off, none⟩) 1 xc, .slice to tn tc, .slice eo en ec] 64)) (((w2.setCell ⟨w1.heap.size, 0, none⟩ (.int .i64 T)).setCell ⟨w1.heap.size, 1, none⟩ (.bool O)).setCell ⟨w1.heap.size, 2, none⟩ (.int .i64 0))) := (unhide HKd).narrow hst.2 (fun q e => by omega); have yy := unhide HSB _ (unhide HKe); have c0 := hst.1.1; have c1 := hst.1.2.1; have c2 := hst.1.2.2; have HKF : Hid (Keeps (fun _ => False) w (((w2.setCell ⟨w1.heap.size, 0, none⟩ (.int .i64 T)).setCell ⟨w1.heap.size, 1, none⟩ (.bool O)).setCell ⟨w1.heap.size, 2, none⟩ (.int .i64 0))) := (unhide HK0).trans (unhide HKe); clear hk2 hkd hz hst hbs)))
  all_goals go_wp2_with fail
  all_goals (go_ret; exact ⟨rfl, unhide HKF⟩)

set_option maxRecDepth 100000 in
set_option maxHeartbeats 8000000 in
theorem own8o (Z : Zone) (S : List FieldA) (hS : schemaB S = true) (so : Option Addr) (sc : Nat) (f : Txt) (o n : Int) (s : Txt) (kids : EL) (xv : Value) (up : Nat) (to eo : Option Addr) (tn tc en ec : Nat) (w : World) (hf : FldsAt w (.slice so S.length sc) S)
    (hx : SlE Z w up xv (.cons o n s kids .nil)) (hro : rootB o n s kids.len = true) (hw : wellE kids = true) (hE : kindP S o s kids = (⟨2, true⟩, 0)) :
    Calls Tryd.prog 35 #[.agg #[.slice so S.length sc], stV 8 f xv (.slice to tn tc) (.slice eo en ec)] w fun e w' => e = .returned (.int .i64 92) ∧ Keeps (fun _ => False) w w' := by
  have hl8 := schema_8 hS
  obtain ⟨xo, xc, b, off, rfl, hcap, ha, hin⟩ := hx.open
  obtain ⟨rfl, _⟩ := ha (by simp [EL.len])
  obtain ⟨h1, h2, h3, h4, h5, ⟨kao, kcap, h6, h7, h8⟩, _⟩ := hin
  have hkid : SlE Z w b (.slice kao kids.len kcap) kids := ⟨kao, kcap, rfl, h7, h8⟩
  have hlen : (EL.cons o n s kids .nil).len = 1 := rfl
  rw [hlen] at hcap ⊢
  obtain ⟨HX, hxb, hxc⟩ := boxedT w #[.slice so S.length sc] 24
  obtain ⟨HY, hyb, hyc⟩ := boxedT (w.alloc (.cells #[.slice so S.length sc] 24)) #[.int .i64 8, str f, .slice (some ⟨b, off, none⟩) 1 xc, .slice to tn tc, .slice eo en ec] 64
  rw [World.size_alloc] at hyc hyb
  have HK0 := hide ((unhide HX).trans (unhide HY))
  have SB : ∀ w', Keeps (fun _ => False) ((w.alloc (.cells #[.slice so S.length sc] 24)).alloc (.cells #[.int .i64 8, str f, .slice (some ⟨b, off, none⟩) 1 xc, .slice to tn tc, .slice eo en ec] 64)) w' → w'.cell? ⟨w.heap.size, 0, none⟩ = some (.slice so S.length sc) ∧ w'.cell? ⟨w.heap.size + 1, 0, none⟩ = some (.int .i64 8) ∧ w'.cell? ⟨w.heap.size + 1, 1, none⟩ = some (str f) ∧ w'.cell? ⟨w.heap.size + 1, 2, none⟩ = some (.slice (some ⟨b, off, none⟩) 1 xc) ∧ w'.cell? ⟨b, off, none⟩ = some (.int .i64 o) ∧ w'.cell? ⟨b, off + 1, none⟩ = some (.int .i64 n) ∧ w'.cell? ⟨b, off + 2, none⟩ = some (str s) ∧ w'.cell? ⟨b, off + 3, none⟩ = some (.slice kao kids.len kcap) := fun w' hk =>
    ⟨(((unhide HY).trans hk).cell hxb id).trans (hxc 0 _ rfl), (hk.cell hyb id).trans (hyc 0 _ rfl), (hk.cell hyb id).trans (hyc 1 _ rfl), (hk.cell hyb id).trans (hyc 2 _ rfl), (((unhide HK0).trans hk).cell h1 id).trans h3, (((unhide HK0).trans hk).cell h1 id).trans h4, (((unhide HK0).trans hk).cell h1 id).trans h5, (((unhide HK0).trans hk).cell h1 id).trans h6⟩
  have y := SB _ (Keeps.refl _ _)
  have HSB := hide SB
  have HFI := hide (refField_v S (.slice so S.length sc) f _ (hf.keepF (unhide HK0)) hl8)
  have HGO := fun w' (hk : Keeps (fun _ => False) w w') => hide (refKind_v Z S hS so sc (kids.size + 1) kids (by omega) o n s w' b (.slice kao kids.len kcap) (hkid.keepF hk) (hf.keepF hk) hro hw)
  rw [zeroK_ok hE] at HGO
  clear hE
  clear hx hkid hf hxc hyc SB hro hw ha h2 h3 h4 h5 h6 h8 HX HY
  go_enter Tryd.func35, Tryd.ntmps35
  go_wp2_with (go_at_call 53; refine (unhide HFI).mono ?_; rintro e w1 ⟨⟨ix, rfl, _⟩, hk1⟩; have HKb := hide hk1; have y1 := unhide HSB _ hk1; have HK1 := hide ((unhide HK0).trans hk1); clear hk1)
  go_region_held3 (fun w' => w'.cell? ⟨w.heap.size, 0, none⟩ = some (.slice so S.length sc) ∧ w'.cell? ⟨w.heap.size + 1, 0, none⟩ = some (.int .i64 8) ∧ w'.cell? ⟨w.heap.size + 1, 1, none⟩ = some (str f) ∧ w'.cell? ⟨w.heap.size + 1, 2, none⟩ = some (.slice (some ⟨b, off, none⟩) 1 xc) ∧ w'.cell? ⟨b, off, none⟩ = some (.int .i64 o) ∧ w'.cell? ⟨b, off + 1, none⟩ = some (.int .i64 n) ∧ w'.cell? ⟨b, off + 2, none⟩ = some (str s) ∧ w'.cell? ⟨b, off + 3, none⟩ = some (.slice kao kids.len kcap))
    (first | with_reducible exact unhide HSB _ (unhide HKe) | with_reducible exact unhide HSB _ (unhide HKd) | with_reducible exact unhide HSB _ ((unhide HKd).alloc _) | with_reducible exact unhide HSB _ (unhide HKb).drew | with_reducible exact unhide HSB _ ((unhide HKb).alloc _).drew)
    ((go_at_call 54; first
      | ((with_reducible refine (unhide (HGO w1.drew (unhide HK1).drew)).mono ?_); rintro e w2 ⟨rfl, hk2⟩; have hkd := (Keeps.refl (fun _ => False) w1).drew.trans hk2; have HKd := hide ((unhide HKb).trans hkd); obtain ⟨HZ, hzb, hzc⟩ := boxedT w2 #[.int .i64 2, .bool true, .int .i64 0] 83; have c0 := hzc 0 (.int .i64 2) rfl; have c1 := hzc 1 (.bool true) rfl; have c2 := hzc 2 (.int .i64 0) rfl; have HKe := hide ((unhide HKd).trans (unhide HZ)); have yy := unhide HSB _ (unhide HKe); have HKF := hide (((unhide HK1).trans hkd).trans (unhide HZ)); clear hk2 hkd hzc)
      | ((with_reducible refine (unhide (HGO (w1.alloc (.cells #[.int .i64 0, .bool false, .int .i64 0] 83)).drew ((unhide HK1).alloc _).drew)).mono ?_); rintro e w2 ⟨rfl, hk2⟩; have hz := zero3_at hk2; have hkd := ((Keeps.refl (fun _ => False) w1).alloc (.cells #[.int .i64 0, .bool false, .int .i64 0] 83)).drew.trans hk2; have HKd := hide ((unhide HKb).trans hkd); have m0 : World.cell? _ _ = some (Value.int .i64 0) := cell_of_blk hz 0; have m1 : World.cell? _ _ = some (Value.bool false) := cell_of_blk hz 1; have m2 : World.cell? _ _ = some (Value.int .i64 0) := cell_of_blk hz 2; have f0 := frozen_of_blk hz 0; have f1 := frozen_of_blk hz 1; have f2 := frozen_of_blk hz 2; have hst := set3 hz rfl (.int .i64 2) (.bool true) (.int .i64 0); have hbs := (unhide HKb).size; have HKe : Hid (Keeps (fun _ => False) ((w.alloc (.cells #[.slice so S.length sc] 24)).alloc (.cells #[.int .i64 8, str f, .slice (some ⟨b, off, none⟩) 1 xc, .slice to tn tc, .slice eo en ec] 64)) (((w2.setCell ⟨w1.heap.size, 0, none⟩ (.int .i64 2)).setCell ⟨w1.heap.size, 1, none⟩ (.bool true)).setCell ⟨w1.heap.size, 2, none⟩ (.int .i64 0))) := (unhide HKd).narrow hst.2 (fun q e => by omega); have yy := unhide HSB _ (unhide HKe); have c0 := hst.1.1; have c1 := hst.1.2.1; have c2 := hst.1.2.2; have HKF : Hid (Keeps (fun _ => False) w (((w2.setCell ⟨w1.heap.size, 0, none⟩ (.int .i64 2)).setCell ⟨w1.heap.size, 1, none⟩ (.bool true)).setCell ⟨w1.heap.size, 2, none⟩ (.int .i64 0))) := (unhide HK0).trans (unhide HKe); clear hk2 hkd hz hst hbs)))
  all_goals go_wp2_with fail
  all_goals (go_ret; exact ⟨rfl, unhide HKF⟩)

set_option maxRecDepth 100000 in
set_option maxHeartbeats 8000000 in
theorem own8z (Z : Zone) (S : List FieldA) (hS : schemaB S = true) (so : Option Addr) (sc : Nat) (f : Txt) (o n : Int) (s : Txt) (kids : EL) (xv : Value) (up : Nat) (to eo : Option Addr) (tn tc en ec : Nat) (w : World) (hf : FldsAt w (.slice so S.length sc) S)
    (hx : SlE Z w up xv (.cons o n s kids .nil)) (hro : rootB o n s kids.len = true) (hw : wellE kids = true) (hE : kindP S o s kids = (⟨2, false⟩, 0)) :
    Calls Tryd.prog 35 #[.agg #[.slice so S.length sc], stV 8 f xv (.slice to tn tc) (.slice eo en ec)] w fun e w' => e = .returned (.int .i64 0) ∧ Keeps (fun _ => False) w w' := by
  have hl8 := schema_8 hS
  obtain ⟨xo, xc, b, off, rfl, hcap, ha, hin⟩ := hx.open
  obtain ⟨rfl, _⟩ := ha (by simp [EL.len])
  obtain ⟨h1, h2, h3, h4, h5, ⟨kao, kcap, h6, h7, h8⟩, _⟩ := hin
  have hkid : SlE Z w b (.slice kao kids.len kcap) kids := ⟨kao, kcap, rfl, h7, h8⟩
  have hlen : (EL.cons o n s kids .nil).len = 1 := rfl
  rw [hlen] at hcap ⊢
  obtain ⟨HX, hxb, hxc⟩ := boxedT w #[.slice so S.length sc] 24
  obtain ⟨HY, hyb, hyc⟩ := boxedT (w.alloc (.cells #[.slice so S.length sc] 24)) #[.int .i64 8, str f, .slice (some ⟨b, off, none⟩) 1 xc, .slice to tn tc, .slice eo en ec] 64
  rw [World.size_alloc] at hyc hyb
  have HK0 := hide ((unhide HX).trans (unhide HY))
  have SB : ∀ w', Keeps (fun _ => False) ((w.alloc (.cells #[.slice so S.length sc] 24)).alloc (.cells #[.int .i64 8, str f, .slice (some ⟨b, off, none⟩) 1 xc, .slice to tn tc, .slice eo en ec] 64)) w' → w'.cell? ⟨w.heap.size, 0, none⟩ = some (.slice so S.length sc) ∧ w'.cell? ⟨w.heap.size + 1, 0, none⟩ = some (.int .i64 8) ∧ w'.cell? ⟨w.heap.size + 1, 1, none⟩ = some (str f) ∧ w'.cell? ⟨w.heap.size + 1, 2, none⟩ = some (.slice (some ⟨b, off, none⟩) 1 xc) ∧ w'.cell? ⟨b, off, none⟩ = some (.int .i64 o) ∧ w'.cell? ⟨b, off + 1, none⟩ = some (.int .i64 n) ∧ w'.cell? ⟨b, off + 2, none⟩ = some (str s) ∧ w'.cell? ⟨b, off + 3, none⟩ = some (.slice kao kids.len kcap) := fun w' hk =>
    ⟨(((unhide HY).trans hk).cell hxb id).trans (hxc 0 _ rfl), (hk.cell hyb id).trans (hyc 0 _ rfl), (hk.cell hyb id).trans (hyc 1 _ rfl), (hk.cell hyb id).trans (hyc 2 _ rfl), (((unhide HK0).trans hk).cell h1 id).trans h3, (((unhide HK0).trans hk).cell h1 id).trans h4, (((unhide HK0).trans hk).cell h1 id).trans h5, (((unhide HK0).trans hk).cell h1 id).trans h6⟩
  have y := SB _ (Keeps.refl _ _)
  have HSB := hide SB
  have HFI := hide (refField_v S (.slice so S.length sc) f _ (hf.keepF (unhide HK0)) hl8)
  have HGO := fun w' (hk : Keeps (fun _ => False) w w') => hide (refKind_v Z S hS so sc (kids.size + 1) kids (by omega) o n s w' b (.slice kao kids.len kcap) (hkid.keepF hk) (hf.keepF hk) hro hw)
  rw [zeroK_ok hE] at HGO
  clear hE
  clear hx hkid hf hxc hyc SB hro hw ha h2 h3 h4 h5 h6 h8 HX HY
  go_enter Tryd.func35, Tryd.ntmps35
  go_wp2_with (go_at_call 53; refine (unhide HFI).mono ?_; rintro e w1 ⟨⟨ix, rfl, _⟩, hk1⟩; have HKb := hide hk1; have y1 := unhide HSB _ hk1; have HK1 := hide ((unhide HK0).trans hk1); clear hk1)
  go_region_held3 (fun w' => w'.cell? ⟨w.heap.size, 0, none⟩ = some (.slice so S.length sc) ∧ w'.cell? ⟨w.heap.size + 1, 0, none⟩ = some (.int .i64 8) ∧ w'.cell? ⟨w.heap.size + 1, 1, none⟩ = some (str f) ∧ w'.cell? ⟨w.heap.size + 1, 2, none⟩ = some (.slice (some ⟨b, off, none⟩) 1 xc) ∧ w'.cell? ⟨b, off, none⟩ = some (.int .i64 o) ∧ w'.cell? ⟨b, off + 1, none⟩ = some (.int .i64 n) ∧ w'.cell? ⟨b, off + 2, none⟩ = some (str s) ∧ w'.cell? ⟨b, off + 3, none⟩ = some (.slice kao kids.len kcap))
    (first | with_reducible exact unhide HSB _ (unhide HKe) | with_reducible exact unhide HSB _ (unhide HKd) | with_reducible exact unhide HSB _ ((unhide HKd).alloc _) | with_reducible exact unhide HSB _ (unhide HKb).drew | with_reducible exact unhide HSB _ ((unhide HKb).alloc _).drew)
    ((go_at_call 54; first
      | ((with_reducible refine (unhide (HGO w1.drew (unhide HK1).drew)).mono ?_); rintro e w2 ⟨rfl, hk2⟩; have hkd := (Keeps.refl (fun _ => False) w1).drew.trans hk2; have HKd := hide ((unhide HKb).trans hkd); obtain ⟨HZ, hzb, hzc⟩ := boxedT w2 #[.int .i64 2, .bool false, .int .i64 0] 83; have c0 := hzc 0 (.int .i64 2) rfl; have c1 := hzc 1 (.bool false) rfl; have c2 := hzc 2 (.int .i64 0) rfl; have HKe := hide ((unhide HKd).trans (unhide HZ)); have yy := unhide HSB _ (unhide HKe); have HKF := hide (((unhide HK1).trans hkd).trans (unhide HZ)); clear hk2 hkd hzc)
      | ((with_reducible refine (unhide (HGO (w1.alloc (.cells #[.int .i64 0, .bool false, .int .i64 0] 83)).drew ((unhide HK1).alloc _).drew)).mono ?_); rintro e w2 ⟨rfl, hk2⟩; have hz := zero3_at hk2; have hkd := ((Keeps.refl (fun _ => False) w1).alloc (.cells #[.int .i64 0, .bool false, .int .i64 0] 83)).drew.trans hk2; have HKd := hide ((unhide HKb).trans hkd); have m0 : World.cell? _ _ = some (Value.int .i64 0) := cell_of_blk hz 0; have m1 : World.cell? _ _ = some (Value.bool false) := cell_of_blk hz 1; have m2 : World.cell? _ _ = some (Value.int .i64 0) := cell_of_blk hz 2; have f0 := frozen_of_blk hz 0; have f1 := frozen_of_blk hz 1; have f2 := frozen_of_blk hz 2; have hst := set3 hz rfl (.int .i64 2) (.bool false) (.int .i64 0); have hbs := (unhide HKb).size; have HKe : Hid (Keeps (fun _ => False) ((w.alloc (.cells #[.slice so S.length sc] 24)).alloc (.cells #[.int .i64 8, str f, .slice (some ⟨b, off, none⟩) 1 xc, .slice to tn tc, .slice eo en ec] 64)) (((w2.setCell ⟨w1.heap.size, 0, none⟩ (.int .i64 2)).setCell ⟨w1.heap.size, 1, none⟩ (.bool false)).setCell ⟨w1.heap.size, 2, none⟩ (.int .i64 0))) := (unhide HKd).narrow hst.2 (fun q e => by omega); have yy := unhide HSB _ (unhide HKe); have c0 := hst.1.1; have c1 := hst.1.2.1; have c2 := hst.1.2.2; have HKF : Hid (Keeps (fun _ => False) w (((w2.setCell ⟨w1.heap.size, 0, none⟩ (.int .i64 2)).setCell ⟨w1.heap.size, 1, none⟩ (.bool false)).setCell ⟨w1.heap.size, 2, none⟩ (.int .i64 0))) := (unhide HK0).trans (unhide HKe); clear hk2 hkd hz hst hbs)))
  all_goals go_wp2_with fail
  all_goals (go_ret; exact ⟨rfl, unhide HKF⟩)
end Go.Proofs.YtjhppnecadnekaaDoor
namespace Go.Proofs.YtjhppnecadnekaaDoor
open Go.RowKit Go.Maps

set_option maxRecDepth 100000 in
set_option maxHeartbeats 4000000 in
theorem own1x (S : List FieldA) (hS : schemaB S = true) (so : Option Addr) (sc : Nat) (f : Txt) (xo to eo : Option Addr) (xn xc tn tc en ec : Nat) (w : World) (hf : FldsAt w (.slice so S.length sc) S) (hno : fieldOf S f = none) :
    Calls Tryd.prog 35 #[.agg #[.slice so S.length sc], stV 1 f (.slice xo xn xc) (.slice to tn tc) (.slice eo en ec)] w fun e w' => e = .returned (.int .i64 90) ∧ Keeps (fun _ => False) w w' := by
  have hl8 := schema_8 hS
  obtain ⟨HX, hxb, hxc⟩ := boxedT w #[.slice so S.length sc] 24
  obtain ⟨HY, hyb, hyc⟩ := boxedT (w.alloc (.cells #[.slice so S.length sc] 24)) #[.int .i64 1, str f, .slice xo xn xc, .slice to tn tc, .slice eo en ec] 64
  rw [World.size_alloc] at hyc hyb
  have HK0 := hide ((unhide HX).trans (unhide HY))
  have SB : ∀ w', Keeps (fun _ => False) ((w.alloc (.cells #[.slice so S.length sc] 24)).alloc (.cells #[.int .i64 1, str f, .slice xo xn xc, .slice to tn tc, .slice eo en ec] 64)) w' → w'.cell? ⟨w.heap.size, 0, none⟩ = some (.slice so S.length sc) ∧ w'.cell? ⟨w.heap.size + 1, 0, none⟩ = some (.int .i64 1) ∧ w'.cell? ⟨w.heap.size + 1, 1, none⟩ = some (str f) := fun w' hk =>
    ⟨(((unhide HY).trans hk).cell hxb id).trans (hxc 0 _ rfl), (hk.cell hyb id).trans (hyc 0 _ rfl), (hk.cell hyb id).trans (hyc 1 _ rfl)⟩
  have y := SB _ (Keeps.refl _ _)
  have HSB := hide SB
  have HFI := hide (refField_no S (.slice so S.length sc) f _ (hf.keepF (unhide HK0)) hl8 hno)
  clear hf hxc hyc SB HX HY hno
  go_enter Tryd.func35, Tryd.ntmps35
  go_wp2_with (go_at_call 53; refine (unhide HFI).mono ?_; rintro e w1 ⟨rfl, hk1⟩; have y1 := unhide HSB _ hk1; have HK0 := hide ((unhide HK0).trans hk1); clear hk1)
  go_ret
  exact ⟨rfl, unhide HK0⟩

set_option maxRecDepth 100000 in
set_option maxHeartbeats 4000000 in
theorem own2x (S : List FieldA) (hS : schemaB S = true) (so : Option Addr) (sc : Nat) (f : Txt) (xo to eo : Option Addr) (xn xc tn tc en ec : Nat) (w : World) (hf : FldsAt w (.slice so S.length sc) S) (hno : fieldOf S f = none) :
    Calls Tryd.prog 35 #[.agg #[.slice so S.length sc], stV 2 f (.slice xo xn xc) (.slice to tn tc) (.slice eo en ec)] w fun e w' => e = .returned (.int .i64 90) ∧ Keeps (fun _ => False) w w' := by
  have hl8 := schema_8 hS
  obtain ⟨HX, hxb, hxc⟩ := boxedT w #[.slice so S.length sc] 24
  obtain ⟨HY, hyb, hyc⟩ := boxedT (w.alloc (.cells #[.slice so S.length sc] 24)) #[.int .i64 2, str f, .slice xo xn xc, .slice to tn tc, .slice eo en ec] 64
  rw [World.size_alloc] at hyc hyb
  have HK0 := hide ((unhide HX).trans (unhide HY))
  have SB : ∀ w', Keeps (fun _ => False) ((w.alloc (.cells #[.slice so S.length sc] 24)).alloc (.cells #[.int .i64 2, str f, .slice xo xn xc, .slice to tn tc, .slice eo en ec] 64)) w' → w'.cell? ⟨w.heap.size, 0, none⟩ = some (.slice so S.length sc) ∧ w'.cell? ⟨w.heap.size + 1, 0, none⟩ = some (.int .i64 2) ∧ w'.cell? ⟨w.heap.size + 1, 1, none⟩ = some (str f) := fun w' hk =>
    ⟨(((unhide HY).trans hk).cell hxb id).trans (hxc 0 _ rfl), (hk.cell hyb id).trans (hyc 0 _ rfl), (hk.cell hyb id).trans (hyc 1 _ rfl)⟩
  have y := SB _ (Keeps.refl _ _)
  have HSB := hide SB
  have HFI := hide (refField_no S (.slice so S.length sc) f _ (hf.keepF (unhide HK0)) hl8 hno)
  clear hf hxc hyc SB HX HY hno
  go_enter Tryd.func35, Tryd.ntmps35
  go_wp2_with (go_at_call 53; refine (unhide HFI).mono ?_; rintro e w1 ⟨rfl, hk1⟩; have y1 := unhide HSB _ hk1; have HK0 := hide ((unhide HK0).trans hk1); clear hk1)
  go_ret
  exact ⟨rfl, unhide HK0⟩

set_option maxRecDepth 100000 in
set_option maxHeartbeats 4000000 in
theorem own3x (S : List FieldA) (hS : schemaB S = true) (so : Option Addr) (sc : Nat) (f : Txt) (xo to eo : Option Addr) (xn xc tn tc en ec : Nat) (w : World) (hf : FldsAt w (.slice so S.length sc) S) (hno : fieldOf S f = none) :
    Calls Tryd.prog 35 #[.agg #[.slice so S.length sc], stV 3 f (.slice xo xn xc) (.slice to tn tc) (.slice eo en ec)] w fun e w' => e = .returned (.int .i64 90) ∧ Keeps (fun _ => False) w w' := by
  have hl8 := schema_8 hS
  obtain ⟨HX, hxb, hxc⟩ := boxedT w #[.slice so S.length sc] 24
  obtain ⟨HY, hyb, hyc⟩ := boxedT (w.alloc (.cells #[.slice so S.length sc] 24)) #[.int .i64 3, str f, .slice xo xn xc, .slice to tn tc, .slice eo en ec] 64
  rw [World.size_alloc] at hyc hyb
  have HK0 := hide ((unhide HX).trans (unhide HY))
  have SB : ∀ w', Keeps (fun _ => False) ((w.alloc (.cells #[.slice so S.length sc] 24)).alloc (.cells #[.int .i64 3, str f, .slice xo xn xc, .slice to tn tc, .slice eo en ec] 64)) w' → w'.cell? ⟨w.heap.size, 0, none⟩ = some (.slice so S.length sc) ∧ w'.cell? ⟨w.heap.size + 1, 0, none⟩ = some (.int .i64 3) ∧ w'.cell? ⟨w.heap.size + 1, 1, none⟩ = some (str f) := fun w' hk =>
    ⟨(((unhide HY).trans hk).cell hxb id).trans (hxc 0 _ rfl), (hk.cell hyb id).trans (hyc 0 _ rfl), (hk.cell hyb id).trans (hyc 1 _ rfl)⟩
  have y := SB _ (Keeps.refl _ _)
  have HSB := hide SB
  have HFI := hide (refField_no S (.slice so S.length sc) f _ (hf.keepF (unhide HK0)) hl8 hno)
  clear hf hxc hyc SB HX HY hno
  go_enter Tryd.func35, Tryd.ntmps35
  go_wp2_with (go_at_call 53; refine (unhide HFI).mono ?_; rintro e w1 ⟨rfl, hk1⟩; have y1 := unhide HSB _ hk1; have HK0 := hide ((unhide HK0).trans hk1); clear hk1)
  go_ret
  exact ⟨rfl, unhide HK0⟩

set_option maxRecDepth 100000 in
set_option maxHeartbeats 4000000 in
theorem own4x (S : List FieldA) (hS : schemaB S = true) (so : Option Addr) (sc : Nat) (f : Txt) (xo to eo : Option Addr) (xn xc tn tc en ec : Nat) (w : World) (hf : FldsAt w (.slice so S.length sc) S) (hno : fieldOf S f = none) :
    Calls Tryd.prog 35 #[.agg #[.slice so S.length sc], stV 4 f (.slice xo xn xc) (.slice to tn tc) (.slice eo en ec)] w fun e w' => e = .returned (.int .i64 90) ∧ Keeps (fun _ => False) w w' := by
  have hl8 := schema_8 hS
  obtain ⟨HX, hxb, hxc⟩ := boxedT w #[.slice so S.length sc] 24
  obtain ⟨HY, hyb, hyc⟩ := boxedT (w.alloc (.cells #[.slice so S.length sc] 24)) #[.int .i64 4, str f, .slice xo xn xc, .slice to tn tc, .slice eo en ec] 64
  rw [World.size_alloc] at hyc hyb
  have HK0 := hide ((unhide HX).trans (unhide HY))
  have SB : ∀ w', Keeps (fun _ => False) ((w.alloc (.cells #[.slice so S.length sc] 24)).alloc (.cells #[.int .i64 4, str f, .slice xo xn xc, .slice to tn tc, .slice eo en ec] 64)) w' → w'.cell? ⟨w.heap.size, 0, none⟩ = some (.slice so S.length sc) ∧ w'.cell? ⟨w.heap.size + 1, 0, none⟩ = some (.int .i64 4) ∧ w'.cell? ⟨w.heap.size + 1, 1, none⟩ = some (str f) := fun w' hk =>
    ⟨(((unhide HY).trans hk).cell hxb id).trans (hxc 0 _ rfl), (hk.cell hyb id).trans (hyc 0 _ rfl), (hk.cell hyb id).trans (hyc 1 _ rfl)⟩
  have y := SB _ (Keeps.refl _ _)
  have HSB := hide SB
  have HFI := hide (refField_no S (.slice so S.length sc) f _ (hf.keepF (unhide HK0)) hl8 hno)
  clear hf hxc hyc SB HX HY hno
  go_enter Tryd.func35, Tryd.ntmps35
  go_wp2_with (go_at_call 53; refine (unhide HFI).mono ?_; rintro e w1 ⟨rfl, hk1⟩; have y1 := unhide HSB _ hk1; have HK0 := hide ((unhide HK0).trans hk1); clear hk1)
  go_ret
  exact ⟨rfl, unhide HK0⟩

set_option maxRecDepth 100000 in
set_option maxHeartbeats 4000000 in
theorem own5x (S : List FieldA) (hS : schemaB S = true) (so : Option Addr) (sc : Nat) (f : Txt) (xo to eo : Option Addr) (xn xc tn tc en ec : Nat) (w : World) (hf : FldsAt w (.slice so S.length sc) S) (hno : fieldOf S f = none) :
    Calls Tryd.prog 35 #[.agg #[.slice so S.length sc], stV 5 f (.slice xo xn xc) (.slice to tn tc) (.slice eo en ec)] w fun e w' => e = .returned (.int .i64 90) ∧ Keeps (fun _ => False) w w' := by
  have hl8 := schema_8 hS
  obtain ⟨HX, hxb, hxc⟩ := boxedT w #[.slice so S.length sc] 24
  obtain ⟨HY, hyb, hyc⟩ := boxedT (w.alloc (.cells #[.slice so S.length sc] 24)) #[.int .i64 5, str f, .slice xo xn xc, .slice to tn tc, .slice eo en ec] 64
  rw [World.size_alloc] at hyc hyb
  have HK0 := hide ((unhide HX).trans (unhide HY))
  have SB : ∀ w', Keeps (fun _ => False) ((w.alloc (.cells #[.slice so S.length sc] 24)).alloc (.cells #[.int .i64 5, str f, .slice xo xn xc, .slice to tn tc, .slice eo en ec] 64)) w' → w'.cell? ⟨w.heap.size, 0, none⟩ = some (.slice so S.length sc) ∧ w'.cell? ⟨w.heap.size + 1, 0, none⟩ = some (.int .i64 5) ∧ w'.cell? ⟨w.heap.size + 1, 1, none⟩ = some (str f) := fun w' hk =>
    ⟨(((unhide HY).trans hk).cell hxb id).trans (hxc 0 _ rfl), (hk.cell hyb id).trans (hyc 0 _ rfl), (hk.cell hyb id).trans (hyc 1 _ rfl)⟩
  have y := SB _ (Keeps.refl _ _)
  have HSB := hide SB
  have HFI := hide (refField_no S (.slice so S.length sc) f _ (hf.keepF (unhide HK0)) hl8 hno)
  clear hf hxc hyc SB HX HY hno
  go_enter Tryd.func35, Tryd.ntmps35
  go_wp2_with (go_at_call 53; refine (unhide HFI).mono ?_; rintro e w1 ⟨rfl, hk1⟩; have y1 := unhide HSB _ hk1; have HK0 := hide ((unhide HK0).trans hk1); clear hk1)
  go_ret
  exact ⟨rfl, unhide HK0⟩

set_option maxRecDepth 100000 in
set_option maxHeartbeats 4000000 in
theorem own5true (S : List FieldA) (hS : schemaB S = true) (so : Option Addr) (sc : Nat) (f : Txt) (xo to eo : Option Addr) (xn xc tn tc en ec : Nat) (w : World) (hf : FldsAt w (.slice so S.length sc) S) (kf : Nat) (nm : Txt) (DT : Int) (DO : Bool) (hDO : DO = true) (hkf : S[kf]? = some ⟨nm, DT, DO⟩) (hsome : fieldOf S f = some ⟨nm, DT, DO⟩) :
    Calls Tryd.prog 35 #[.agg #[.slice so S.length sc], stV 5 f (.slice xo xn xc) (.slice to tn tc) (.slice eo en ec)] w fun e w' => e = .returned (.int .i64 0) ∧ Keeps (fun _ => False) w w' := by
  have hl8 := schema_8 hS
  subst hDO
  have hkl := get_lt hkf
  obtain ⟨fb, foff, fc, fe, hfb, hfc⟩ := FldsAt.cells hf (by omega)
  simp only [Value.slice.injEq] at fe
  obtain ⟨rfl, _, rfl⟩ := fe
  have g1 : ¬ (kf : Int) < 0 := by omega
  have g1' : decide ((kf : Int) < 0) = false := decide_eq_false g1
  have i1 : (kf : Int) < (S.length : Int) := by omega
  have i0 : (0 : Int) ≤ (kf : Int) := by omega
  obtain ⟨HX, hxb, hxc⟩ := boxedT w #[.slice (some ⟨fb, foff, none⟩) S.length sc] 24
  obtain ⟨HY, hyb, hyc⟩ := boxedT (w.alloc (.cells #[.slice (some ⟨fb, foff, none⟩) S.length sc] 24)) #[.int .i64 5, str f, .slice xo xn xc, .slice to tn tc, .slice eo en ec] 64
  rw [World.size_alloc] at hyc hyb
  have HK0 := hide ((unhide HX).trans (unhide HY))
  have SB : ∀ w', Keeps (fun _ => False) ((w.alloc (.cells #[.slice (some ⟨fb, foff, none⟩) S.length sc] 24)).alloc (.cells #[.int .i64 5, str f, .slice xo xn xc, .slice to tn tc, .slice eo en ec] 64)) w' → w'.cell? ⟨w.heap.size, 0, none⟩ = some (.slice (some ⟨fb, foff, none⟩) S.length sc) ∧ w'.cell? ⟨w.heap.size + 1, 0, none⟩ = some (.int .i64 5) ∧ w'.cell? ⟨w.heap.size + 1, 1, none⟩ = some (str f) ∧ w'.cell? ⟨fb, foff + kf * 3, none⟩ = some (str nm) ∧ w'.cell? ⟨fb, foff + kf * 3 + 1, none⟩ = some (.int .i64 DT) ∧ w'.cell? ⟨fb, foff + kf * 3 + 2, none⟩ = some (.bool true) := fun w' hk =>
    ⟨(((unhide HY).trans hk).cell hxb id).trans (hxc 0 _ rfl), (hk.cell hyb id).trans (hyc 0 _ rfl), (hk.cell hyb id).trans (hyc 1 _ rfl), (((unhide HK0).trans hk).cell hfb id).trans (hfc kf _ hkf).1, (((unhide HK0).trans hk).cell hfb id).trans (hfc kf _ hkf).2.1, (((unhide HK0).trans hk).cell hfb id).trans (hfc kf _ hkf).2.2⟩
  have y := SB _ (Keeps.refl _ _)
  have HSB := hide SB
  have HFI := hide (refField_at S hS (.slice (some ⟨fb, foff, none⟩) S.length sc) f _ (hf.keepF (unhide HK0)) hl8 kf _ hkf hsome)
  clear hf hxc hyc SB HX HY hfc hkf hsome
  go_enter Tryd.func35, Tryd.ntmps35
  go_wp2_with (go_at_call 53; refine (unhide HFI).mono ?_; rintro e w1 ⟨rfl, hk1⟩; have y1 := unhide HSB _ hk1; have HK0 := hide ((unhide HK0).trans hk1); clear hk1)
  go_ret
  exact ⟨rfl, unhide HK0⟩

set_option maxRecDepth 100000 in
set_option maxHeartbeats 4000000 in
theorem own5false (S : List FieldA) (hS : schemaB S = true) (so : Option Addr) (sc : Nat) (f : Txt) (xo to eo : Option Addr) (xn xc tn tc en ec : Nat) (w : World) (hf : FldsAt w (.slice so S.length sc) S) (kf : Nat) (nm : Txt) (DT : Int) (DO : Bool) (hDO : DO = false) (hkf : S[kf]? = some ⟨nm, DT, DO⟩) (hsome : fieldOf S f = some ⟨nm, DT, DO⟩) :
    Calls Tryd.prog 35 #[.agg #[.slice so S.length sc], stV 5 f (.slice xo xn xc) (.slice to tn tc) (.slice eo en ec)] w fun e w' => e = .returned (.int .i64 92) ∧ Keeps (fun _ => False) w w' := by
  have hl8 := schema_8 hS
  subst hDO
  have hkl := get_lt hkf
  obtain ⟨fb, foff, fc, fe, hfb, hfc⟩ := FldsAt.cells hf (by omega)
  simp only [Value.slice.injEq] at fe
  obtain ⟨rfl, _, rfl⟩ := fe
  have g1 : ¬ (kf : Int) < 0 := by omega
  have g1' : decide ((kf : Int) < 0) = false := decide_eq_false g1
  have i1 : (kf : Int) < (S.length : Int) := by omega
  have i0 : (0 : Int) ≤ (kf : Int) := by omega
  obtain ⟨HX, hxb, hxc⟩ := boxedT w #[.slice (some ⟨fb, foff, none⟩) S.length sc] 24
  obtain ⟨HY, hyb, hyc⟩ := boxedT (w.alloc (.cells #[.slice (some ⟨fb, foff, none⟩) S.length sc] 24)) #[.int .i64 5, str f, .slice xo xn xc, .slice to tn tc, .slice eo en ec] 64
  rw [World.size_alloc] at hyc hyb
  have HK0 := hide ((unhide HX).trans (unhide HY))
  have SB : ∀ w', Keeps (fun _ => False) ((w.alloc (.cells #[.slice (some ⟨fb, foff, none⟩) S.length sc] 24)).alloc (.cells #[.int .i64 5, str f, .slice xo xn xc, .slice to tn tc, .slice eo en ec] 64)) w' → w'.cell? ⟨w.heap.size, 0, none⟩ = some (.slice (some ⟨fb, foff, none⟩) S.length sc) ∧ w'.cell? ⟨w.heap.size + 1, 0, none⟩ = some (.int .i64 5) ∧ w'.cell? ⟨w.heap.size + 1, 1, none⟩ = some (str f) ∧ w'.cell? ⟨fb, foff + kf * 3, none⟩ = some (str nm) ∧ w'.cell? ⟨fb, foff + kf * 3 + 1, none⟩ = some (.int .i64 DT) ∧ w'.cell? ⟨fb, foff + kf * 3 + 2, none⟩ = some (.bool false) := fun w' hk =>
    ⟨(((unhide HY).trans hk).cell hxb id).trans (hxc 0 _ rfl), (hk.cell hyb id).trans (hyc 0 _ rfl), (hk.cell hyb id).trans (hyc 1 _ rfl), (((unhide HK0).trans hk).cell hfb id).trans (hfc kf _ hkf).1, (((unhide HK0).trans hk).cell hfb id).trans (hfc kf _ hkf).2.1, (((unhide HK0).trans hk).cell hfb id).trans (hfc kf _ hkf).2.2⟩
  have y := SB _ (Keeps.refl _ _)
  have HSB := hide SB
  have HFI := hide (refField_at S hS (.slice (some ⟨fb, foff, none⟩) S.length sc) f _ (hf.keepF (unhide HK0)) hl8 kf _ hkf hsome)
  clear hf hxc hyc SB HX HY hfc hkf hsome
  go_enter Tryd.func35, Tryd.ntmps35
  go_wp2_with (go_at_call 53; refine (unhide HFI).mono ?_; rintro e w1 ⟨rfl, hk1⟩; have y1 := unhide HSB _ hk1; have HK0 := hide ((unhide HK0).trans hk1); clear hk1)
  go_ret
  exact ⟨rfl, unhide HK0⟩

set_option maxRecDepth 100000 in
set_option maxHeartbeats 4000000 in
theorem own6 (S : List FieldA) (hS : schemaB S = true) (so : Option Addr) (sc : Nat) (f : Txt) (xo to eo : Option Addr) (xn xc tn tc en ec : Nat) (w : World) (_hf : FldsAt w (.slice so S.length sc) S) :
    Calls Tryd.prog 35 #[.agg #[.slice so S.length sc], stV 6 f (.slice xo xn xc) (.slice to tn tc) (.slice eo en ec)] w fun e w' => e = .returned (.int .i64 0) ∧ Keeps (fun _ => False) w w' := by
  have hl8 := schema_8 hS
  obtain ⟨HX, hxb, hxc⟩ := boxedT w #[.slice so S.length sc] 24
  obtain ⟨HY, hyb, hyc⟩ := boxedT (w.alloc (.cells #[.slice so S.length sc] 24)) #[.int .i64 6, str f, .slice xo xn xc, .slice to tn tc, .slice eo en ec] 64
  rw [World.size_alloc] at hyc hyb
  have HK0 := hide ((unhide HX).trans (unhide HY))
  have SB : ∀ w', Keeps (fun _ => False) ((w.alloc (.cells #[.slice so S.length sc] 24)).alloc (.cells #[.int .i64 6, str f, .slice xo xn xc, .slice to tn tc, .slice eo en ec] 64)) w' → w'.cell? ⟨w.heap.size, 0, none⟩ = some (.slice so S.length sc) ∧ w'.cell? ⟨w.heap.size + 1, 0, none⟩ = some (.int .i64 6) ∧ w'.cell? ⟨w.heap.size + 1, 1, none⟩ = some (str f) := fun w' hk =>
    ⟨(((unhide HY).trans hk).cell hxb id).trans (hxc 0 _ rfl), (hk.cell hyb id).trans (hyc 0 _ rfl), (hk.cell hyb id).trans (hyc 1 _ rfl)⟩
  have y := SB _ (Keeps.refl _ _)
  have HSB := hide SB
  clear hxc hyc SB HX HY
  go_enter Tryd.func35, Tryd.ntmps35
  go_wp2_with fail
  go_ret
  exact ⟨rfl, unhide HK0⟩

set_option maxRecDepth 100000 in
set_option maxHeartbeats 4000000 in
theorem own7 (S : List FieldA) (hS : schemaB S = true) (so : Option Addr) (sc : Nat) (f : Txt) (xo to eo : Option Addr) (xn xc tn tc en ec : Nat) (w : World) (_hf : FldsAt w (.slice so S.length sc) S) :
    Calls Tryd.prog 35 #[.agg #[.slice so S.length sc], stV 7 f (.slice xo xn xc) (.slice to tn tc) (.slice eo en ec)] w fun e w' => e = .returned (.int .i64 0) ∧ Keeps (fun _ => False) w w' := by
  have hl8 := schema_8 hS
  obtain ⟨HX, hxb, hxc⟩ := boxedT w #[.slice so S.length sc] 24
  obtain ⟨HY, hyb, hyc⟩ := boxedT (w.alloc (.cells #[.slice so S.length sc] 24)) #[.int .i64 7, str f, .slice xo xn xc, .slice to tn tc, .slice eo en ec] 64
  rw [World.size_alloc] at hyc hyb
  have HK0 := hide ((unhide HX).trans (unhide HY))
  have SB : ∀ w', Keeps (fun _ => False) ((w.alloc (.cells #[.slice so S.length sc] 24)).alloc (.cells #[.int .i64 7, str f, .slice xo xn xc, .slice to tn tc, .slice eo en ec] 64)) w' → w'.cell? ⟨w.heap.size, 0, none⟩ = some (.slice so S.length sc) ∧ w'.cell? ⟨w.heap.size + 1, 0, none⟩ = some (.int .i64 7) ∧ w'.cell? ⟨w.heap.size + 1, 1, none⟩ = some (str f) := fun w' hk =>
    ⟨(((unhide HY).trans hk).cell hxb id).trans (hxc 0 _ rfl), (hk.cell hyb id).trans (hyc 0 _ rfl), (hk.cell hyb id).trans (hyc 1 _ rfl)⟩
  have y := SB _ (Keeps.refl _ _)
  have HSB := hide SB
  clear hxc hyc SB HX HY
  go_enter Tryd.func35, Tryd.ntmps35
  go_wp2_with fail
  go_ret
  exact ⟨rfl, unhide HK0⟩
end Go.Proofs.YtjhppnecadnekaaDoor
namespace Go.Proofs.YtjhppnecadnekaaDoor
open Go.RowKit Go.Maps

set_option maxRecDepth 100000 in
set_option maxHeartbeats 8000000 in
theorem own1e (Z : Zone) (S : List FieldA) (hS : schemaB S = true) (so : Option Addr) (sc : Nat) (f : Txt) (o n : Int) (s : Txt) (kids : EL) (xv : Value) (up : Nat) (to eo : Option Addr) (tn tc en ec : Nat) (w : World) (hf : FldsAt w (.slice so S.length sc) S)
    (hx : SlE Z w up xv (.cons o n s kids .nil)) (hro : rootB o n s kids.len = true) (hw : wellE kids = true) (kf : Nat) (nm : Txt) (DT : Int) (DO : Bool) (hkf : S[kf]? = some ⟨nm, DT, DO⟩) (hsome : fieldOf S f = some ⟨nm, DT, DO⟩) (E : Int) (hE : (kindP S o s kids).2 = E) (hE0 : E ≠ 0) :
    Calls Tryd.prog 35 #[.agg #[.slice so S.length sc], stV 1 f xv (.slice to tn tc) (.slice eo en ec)] w fun e w' => e = .returned (.int .i64 E) ∧ Keeps (fun _ => False) w w' := by
  have hl8 := schema_8 hS
  obtain ⟨xo, xc, b, off, rfl, hcap, ha, hin⟩ := hx.open
  obtain ⟨rfl, _⟩ := ha (by simp [EL.len])
  obtain ⟨h1, h2, h3, h4, h5, ⟨kao, kcap, h6, h7, h8⟩, _⟩ := hin
  have hkid : SlE Z w b (.slice kao kids.len kcap) kids := ⟨kao, kcap, rfl, h7, h8⟩
  have hlen : (EL.cons o n s kids .nil).len = 1 := rfl
  rw [hlen] at hcap ⊢
  have hkl := get_lt hkf
  obtain ⟨fb, foff, fc, fe, hfb, hfc⟩ := FldsAt.cells hf (by omega)
  simp only [Value.slice.injEq] at fe
  obtain ⟨rfl, _, rfl⟩ := fe
  have g1 : ¬ (kf : Int) < 0 := by omega
  have g1' : decide ((kf : Int) < 0) = false := decide_eq_false g1
  have i1 : (kf : Int) < (S.length : Int) := by omega
  have i0 : (0 : Int) ≤ (kf : Int) := by omega
  obtain ⟨HX, hxb, hxc⟩ := boxedT w #[.slice (some ⟨fb, foff, none⟩) S.length sc] 24
  obtain ⟨HY, hyb, hyc⟩ := boxedT (w.alloc (.cells #[.slice (some ⟨fb, foff, none⟩) S.length sc] 24)) #[.int .i64 1, str f, .slice (some ⟨b, off, none⟩) 1 xc, .slice to tn tc, .slice eo en ec] 64
  rw [World.size_alloc] at hyc hyb
  have HK0 := hide ((unhide HX).trans (unhide HY))
  have SB : ∀ w', Keeps (fun _ => False) ((w.alloc (.cells #[.slice (some ⟨fb, foff, none⟩) S.length sc] 24)).alloc (.cells #[.int .i64 1, str f, .slice (some ⟨b, off, none⟩) 1 xc, .slice to tn tc, .slice eo en ec] 64)) w' → w'.cell? ⟨w.heap.size, 0, none⟩ = some (.slice (some ⟨fb, foff, none⟩) S.length sc) ∧ w'.cell? ⟨w.heap.size + 1, 0, none⟩ = some (.int .i64 1) ∧ w'.cell? ⟨w.heap.size + 1, 1, none⟩ = some (str f) ∧ w'.cell? ⟨w.heap.size + 1, 2, none⟩ = some (.slice (some ⟨b, off, none⟩) 1 xc) ∧ w'.cell? ⟨b, off, none⟩ = some (.int .i64 o) ∧ w'.cell? ⟨b, off + 1, none⟩ = some (.int .i64 n) ∧ w'.cell? ⟨b, off + 2, none⟩ = some (str s) ∧ w'.cell? ⟨b, off + 3, none⟩ = some (.slice kao kids.len kcap) ∧ w'.cell? ⟨fb, foff + kf * 3, none⟩ = some (str nm) ∧ w'.cell? ⟨fb, foff + kf * 3 + 1, none⟩ = some (.int .i64 DT) ∧ w'.cell? ⟨fb, foff + kf * 3 + 2, none⟩ = some (.bool DO) := fun w' hk =>
    ⟨(((unhide HY).trans hk).cell hxb id).trans (hxc 0 _ rfl), (hk.cell hyb id).trans (hyc 0 _ rfl), (hk.cell hyb id).trans (hyc 1 _ rfl), (hk.cell hyb id).trans (hyc 2 _ rfl), (((unhide HK0).trans hk).cell h1 id).trans h3, (((unhide HK0).trans hk).cell h1 id).trans h4, (((unhide HK0).trans hk).cell h1 id).trans h5, (((unhide HK0).trans hk).cell h1 id).trans h6, (((unhide HK0).trans hk).cell hfb id).trans (hfc kf _ hkf).1, (((unhide HK0).trans hk).cell hfb id).trans (hfc kf _ hkf).2.1, (((unhide HK0).trans hk).cell hfb id).trans (hfc kf _ hkf).2.2⟩
  have y := SB _ (Keeps.refl _ _)
  have HSB := hide SB
  have HFI := hide (refField_at S hS (.slice (some ⟨fb, foff, none⟩) S.length sc) f _ (hf.keepF (unhide HK0)) hl8 kf _ hkf hsome)
  have HGO := fun w' (hk : Keeps (fun _ => False) w w') => hide (refKind_v Z S hS (some ⟨fb, foff, none⟩) sc (kids.size + 1) kids (by omega) o n s w' b (.slice kao kids.len kcap) (hkid.keepF hk) (hf.keepF hk) hro hw)
  rw [zeroK_err hE hE0] at HGO
  have n0 : (E != 0) = true := by simpa using hE0
  clear hE hE0
  clear hx hkid hf hxc hyc SB hro hw ha h2 h3 h4 h5 h6 h8 HX HY hfc hkf hsome
  go_enter Tryd.func35, Tryd.ntmps35
  go_wp2_with (go_at_call 53; refine (unhide HFI).mono ?_; rintro e w1 ⟨rfl, hk1⟩; have HKb := hide hk1; have y1 := unhide HSB _ hk1; have HK1 := hide ((unhide HK0).trans hk1); clear hk1)
  go_region_held3 (fun w' => w'.cell? ⟨w.heap.size, 0, none⟩ = some (.slice (some ⟨fb, foff, none⟩) S.length sc) ∧ w'.cell? ⟨w.heap.size + 1, 0, none⟩ = some (.int .i64 1) ∧ w'.cell? ⟨w.heap.size + 1, 1, none⟩ = some (str f) ∧ w'.cell? ⟨w.heap.size + 1, 2, none⟩ = some (.slice (some ⟨b, off, none⟩) 1 xc) ∧ w'.cell? ⟨b, off, none⟩ = some (.int .i64 o) ∧ w'.cell? ⟨b, off + 1, none⟩ = some (.int .i64 n) ∧ w'.cell? ⟨b, off + 2, none⟩ = some (str s) ∧ w'.cell? ⟨b, off + 3, none⟩ = some (.slice kao kids.len kcap) ∧ w'.cell? ⟨fb, foff + kf * 3, none⟩ = some (str nm) ∧ w'.cell? ⟨fb, foff + kf * 3 + 1, none⟩ = some (.int .i64 DT) ∧ w'.cell? ⟨fb, foff + kf * 3 + 2, none⟩ = some (.bool DO))
    (first | with_reducible exact unhide HSB _ (unhide HKe) | with_reducible exact unhide HSB _ (unhide HKd) | with_reducible exact unhide HSB _ ((unhide HKd).alloc _) | with_reducible exact unhide HSB _ (unhide HKb).drew | with_reducible exact unhide HSB _ ((unhide HKb).alloc _).drew)
    ((go_at_call 54; first
      | ((with_reducible refine (unhide (HGO w1.drew (unhide HK1).drew)).mono ?_); rintro e w2 ⟨rfl, hk2⟩; have hkd := (Keeps.refl (fun _ => False) w1).drew.trans hk2; have HKd := hide ((unhide HKb).trans hkd); obtain ⟨HZ, hzb, hzc⟩ := boxedT w2 #[.int .i64 0, .bool false, .int .i64 E] 83; have c0 := hzc 0 (.int .i64 0) rfl; have c1 := hzc 1 (.bool false) rfl; have c2 := hzc 2 (.int .i64 E) rfl; have HKe := hide ((unhide HKd).trans (unhide HZ)); have yy := unhide HSB _ (unhide HKe); have HKF := hide (((unhide HK1).trans hkd).trans (unhide HZ)); clear hk2 hkd hzc)
      | ((with_reducible refine (unhide (HGO (w1.alloc (.cells #[.int .i64 0, .bool false, .int .i64 0] 83)).drew ((unhide HK1).alloc _).drew)).mono ?_); rintro e w2 ⟨rfl, hk2⟩; have hz := zero3_at hk2; have hkd := ((Keeps.refl (fun _ => False) w1).alloc (.cells #[.int .i64 0, .bool false, .int .i64 0] 83)).drew.trans hk2; have HKd := hide ((unhide HKb).trans hkd); have m0 : World.cell? _ _ = some (Value.int .i64 0) := cell_of_blk hz 0; have m1 : World.cell? _ _ = some (Value.bool false) := cell_of_blk hz 1; have m2 : World.cell? _ _ = some (Value.int .i64 0) := cell_of_blk hz 2; have f0 := frozen_of_blk hz 0; have f1 := frozen_of_blk hz 1; have f2 := frozen_of_blk hz 2; have hst := set3 hz rfl (.int .i64 0) (.bool false) (.int .i64 E); have hbs := (unhide HKb).size; have HKe : Hid (Keeps (fun _ => False) ((w.alloc (.cells #[.slice (some ⟨fb, foff, none⟩) S.length sc] 24)).alloc (.cells #[.int .i64 1, str f, .slice (some ⟨b, off, none⟩) 1 xc, .slice to tn tc, .slice eo en ec] 64)) (((w2.setCell ⟨w1.heap.size, 0, none⟩ (.int .i64 0)).setCell ⟨w1.heap.size, 1, none⟩ (.bool false)).setCell ⟨w1.heap.size, 2, none⟩ (.int .i64 E))) := (unhide HKd).narrow hst.2 (fun q e => by omega); have yy := unhide HSB _ (unhide HKe); have c0 := hst.1.1; have c1 := hst.1.2.1; have c2 := hst.1.2.2; have HKF : Hid (Keeps (fun _ => False) w (((w2.setCell ⟨w1.heap.size, 0, none⟩ (.int .i64 0)).setCell ⟨w1.heap.size, 1, none⟩ (.bool false)).setCell ⟨w1.heap.size, 2, none⟩ (.int .i64 E))) := (unhide HK0).trans (unhide HKe); clear hk2 hkd hz hst hbs)))
  all_goals go_wp2_with fail
  all_goals (go_ret; exact ⟨rfl, unhide HKF⟩)

set_option maxRecDepth 100000 in
set_option maxHeartbeats 8000000 in
theorem own1t (Z : Zone) (S : List FieldA) (hS : schemaB S = true) (so : Option Addr) (sc : Nat) (f : Txt) (o n : Int) (s : Txt) (kids : EL) (xv : Value) (up : Nat) (to eo : Option Addr) (tn tc en ec : Nat) (w : World) (hf : FldsAt w (.slice so S.length sc) S)
    (hx : SlE Z w up xv (.cons o n s kids .nil)) (hro : rootB o n s kids.len = true) (hw : wellE kids = true) (kf : Nat) (nm : Txt) (DT : Int) (DO : Bool) (hkf : S[kf]? = some ⟨nm, DT, DO⟩) (hsome : fieldOf S f = some ⟨nm, DT, DO⟩) (T : Int) (O : Bool) (hE : kindP S o s kids = (⟨T, O⟩, 0)) (hT : T ≠ DT) :
    Calls Tryd.prog 35 #[.agg #[.slice so S.length sc], stV 1 f xv (.slice to tn tc) (.slice eo en ec)] w fun e w' => e = .returned (.int .i64 91) ∧ Keeps (fun _ => False) w w' := by
  have hl8 := schema_8 hS
  obtain ⟨xo, xc, b, off, rfl, hcap, ha, hin⟩ := hx.open
  obtain ⟨rfl, _⟩ := ha (by simp [EL.len])
  obtain ⟨h1, h2, h3, h4, h5, ⟨kao, kcap, h6, h7, h8⟩, _⟩ := hin
  have hkid : SlE Z w b (.slice kao kids.len kcap) kids := ⟨kao, kcap, rfl, h7, h8⟩
  have hlen : (EL.cons o n s kids .nil).len = 1 := rfl
  rw [hlen] at hcap ⊢
  have hkl := get_lt hkf
  obtain ⟨fb, foff, fc, fe, hfb, hfc⟩ := FldsAt.cells hf (by omega)
  simp only [Value.slice.injEq] at fe
  obtain ⟨rfl, _, rfl⟩ := fe
  have g1 : ¬ (kf : Int) < 0 := by omega
  have g1' : decide ((kf : Int) < 0) = false := decide_eq_false g1
  have i1 : (kf : Int) < (S.length : Int) := by omega
  have i0 : (0 : Int) ≤ (kf : Int) := by omega
  obtain ⟨HX, hxb, hxc⟩ := boxedT w #[.slice (some ⟨fb, foff, none⟩) S.length sc] 24
  obtain ⟨HY, hyb, hyc⟩ := boxedT (w.alloc (.cells #[.slice (some ⟨fb, foff, none⟩) S.length sc] 24)) #[.int .i64 1, str f, .slice (some ⟨b, off, none⟩) 1 xc, .slice to tn tc, .slice eo en ec] 64
  rw [World.size_alloc] at hyc hyb
  have HK0 := hide ((unhide HX).trans (unhide HY))
  have SB : ∀ w', Keeps (fun _ => False) ((w.alloc (.cells #[.slice (some ⟨fb, foff, none⟩) S.length sc] 24)).alloc (.cells #[.int .i64 1, str f, .slice (some ⟨b, off, none⟩) 1 xc, .slice to tn tc, .slice eo en ec] 64)) w' → w'.cell? ⟨w.heap.size, 0, none⟩ = some (.slice (some ⟨fb, foff, none⟩) S.length sc) ∧ w'.cell? ⟨w.heap.size + 1, 0, none⟩ = some (.int .i64 1) ∧ w'.cell? ⟨w.heap.size + 1, 1, none⟩ = some (str f) ∧ w'.cell? ⟨w.heap.size + 1, 2, none⟩ = some (.slice (some ⟨b, off, none⟩) 1 xc) ∧ w'.cell? ⟨b, off, none⟩ = some (.int .i64 o) ∧ w'.cell? ⟨b, off + 1, none⟩ = some (.int .i64 n) ∧ w'.cell? ⟨b, off + 2, none⟩ = some (str s) ∧ w'.cell? ⟨b, off + 3, none⟩ = some (.slice kao kids.len kcap) ∧ w'.cell? ⟨fb, foff + kf * 3, none⟩ = some (str nm) ∧ w'.cell? ⟨fb, foff + kf * 3 + 1, none⟩ = some (.int .i64 DT) ∧ w'.cell? ⟨fb, foff + kf * 3 + 2, none⟩ = some (.bool DO) := fun w' hk =>
    ⟨(((unhide HY).trans hk).cell hxb id).trans (hxc 0 _ rfl), (hk.cell hyb id).trans (hyc 0 _ rfl), (hk.cell hyb id).trans (hyc 1 _ rfl), (hk.cell hyb id).trans (hyc 2 _ rfl), (((unhide HK0).trans hk).cell h1 id).trans h3, (((unhide HK0).trans hk).cell h1 id).trans h4, (((unhide HK0).trans hk).cell h1 id).trans h5, (((unhide HK0).trans hk).cell h1 id).trans h6, (((unhide HK0).trans hk).cell hfb id).trans (hfc kf _ hkf).1, (((unhide HK0).trans hk).cell hfb id).trans (hfc kf _ hkf).2.1, (((unhide HK0).trans hk).cell hfb id).trans (hfc kf _ hkf).2.2⟩
  have y := SB _ (Keeps.refl _ _)
  have HSB := hide SB
  have HFI := hide (refField_at S hS (.slice (some ⟨fb, foff, none⟩) S.length sc) f _ (hf.keepF (unhide HK0)) hl8 kf _ hkf hsome)
  have HGO := fun w' (hk : Keeps (fun _ => False) w w') => hide (refKind_v Z S hS (some ⟨fb, foff, none⟩) sc (kids.size + 1) kids (by omega) o n s w' b (.slice kao kids.len kcap) (hkid.keepF hk) (hf.keepF hk) hro hw)
  rw [zeroK_ok hE] at HGO
  have n1 : (T != DT) = true := by simpa using hT
  clear hT
  clear hE
  clear hx hkid hf hxc hyc SB hro hw ha h2 h3 h4 h5 h6 h8 HX HY hfc hkf hsome
  go_enter Tryd.func35, Tryd.ntmps35
  go_wp2_with (go_at_call 53; refine (unhide HFI).mono ?_; rintro e w1 ⟨rfl, hk1⟩; have HKb := hide hk1; have y1 := unhide HSB _ hk1; have HK1 := hide ((unhide HK0).trans hk1); clear hk1)
  go_region_held3 (fun w' => w'.cell? ⟨w.heap.size, 0, none⟩ = some (.slice (some ⟨fb, foff, none⟩) S.length sc) ∧ w'.cell? ⟨w.heap.size + 1, 0, none⟩ = some (.int .i64 1) ∧ w'.cell? ⟨w.heap.size + 1, 1, none⟩ = some (str f) ∧ w'.cell? ⟨w.heap.size + 1, 2, none⟩ = some (.slice (some ⟨b, off, none⟩) 1 xc) ∧ w'.cell? ⟨b, off, none⟩ = some (.int .i64 o) ∧ w'.cell? ⟨b, off + 1, none⟩ = some (.int .i64 n) ∧ w'.cell? ⟨b, off + 2, none⟩ = some (str s) ∧ w'.cell? ⟨b, off + 3, none⟩ = some (.slice kao kids.len kcap) ∧ w'.cell? ⟨fb, foff + kf * 3, none⟩ = some (str nm) ∧ w'.cell? ⟨fb, foff + kf * 3 + 1, none⟩ = some (.int .i64 DT) ∧ w'.cell? ⟨fb, foff + kf * 3 + 2, none⟩ = some (.bool DO))
    (first | with_reducible exact unhide HSB _ (unhide HKe) | with_reducible exact unhide HSB _ (unhide HKd) | with_reducible exact unhide HSB _ ((unhide HKd).alloc _) | with_reducible exact unhide HSB _ (unhide HKb).drew | with_reducible exact unhide HSB _ ((unhide HKb).alloc _).drew)
    ((go_at_call 54; first
      | ((with_reducible refine (unhide (HGO w1.drew (unhide HK1).drew)).mono ?_); rintro e w2 ⟨rfl, hk2⟩; have hkd := (Keeps.refl (fun _ => False) w1).drew.trans hk2; have HKd := hide ((unhide HKb).trans hkd); obtain ⟨HZ, hzb, hzc⟩ := boxedT w2 #[.int .i64 T, .bool O, .int .i64 0] 83; have c0 := hzc 0 (.int .i64 T) rfl; have c1 := hzc 1 (.bool O) rfl; have c2 := hzc 2 (.int .i64 0) rfl; have HKe := hide ((unhide HKd).trans (unhide HZ)); have yy := unhide HSB _ (unhide HKe); have HKF := hide (((unhide HK1).trans hkd).trans (unhide HZ)); clear hk2 hkd hzc)
      | ((with_reducible refine (unhide (HGO (w1.alloc (.cells #[.int .i64 0, .bool false, .int .i64 0] 83)).drew ((unhide HK1).alloc _).drew)).mono ?_); rintro e w2 ⟨rfl, hk2⟩; have hz := zero3_at hk2; have hkd := ((Keeps.refl (fun _ => False) w1).alloc (.cells #[.int .i64 0, .bool false, .int .i64 0] 83)).drew.trans hk2; have HKd := hide ((unhide HKb).trans hkd); have m0 : World.cell? _ _ = some (Value.int .i64 0) := cell_of_blk hz 0; have m1 : World.cell? _ _ = some (Value.bool false) := cell_of_blk hz 1; have m2 : World.cell? _ _ = some (Value.int .i64 0) := cell_of_blk hz 2; have f0 := frozen_of_blk hz 0; have f1 := frozen_of_blk hz 1; have f2 := frozen_of_blk hz 2; have hst := set3 hz rfl (.int .i64 T) (.bool O) (.int .i64 0); have hbs := (unhide HKb).size; have HKe : Hid (Keeps (fun _ => False) ((w.alloc (.cells #[.slice (some ⟨fb, foff, none⟩) S.length sc] 24)).alloc (.cells #[.int .i64 1, str f, .slice (some ⟨b, off, none⟩) 1 xc, .slice to tn tc, .slice eo en ec] 64)) (((w2.setCell ⟨w1.heap.size, 0, none⟩ (.int .i64 T)).setCell ⟨w1.heap.size, 1, none⟩ (.bool O)).setCell ⟨w1.heap.size, 2, none⟩ (.int .i64 0))) := (unhide HKd).narrow hst.2 (fun q e => by omega); have yy := unhide HSB _ (unhide HKe); have c0 := hst.1.1; have c1 := hst.1.2.1; have c2 := hst.1.2.2; have HKF : Hid (Keeps (fun _ => False) w (((w2.setCell ⟨w1.heap.size, 0, none⟩ (.int .i64 T)).setCell ⟨w1.heap.size, 1, none⟩ (.bool O)).setCell ⟨w1.heap.size, 2, none⟩ (.int .i64 0))) := (unhide HK0).trans (unhide HKe); clear hk2 hkd hz hst hbs)))
  all_goals go_wp2_with fail
  all_goals (go_ret; exact ⟨rfl, unhide HKF⟩)

set_option maxRecDepth 100000 in
set_option maxHeartbeats 8000000 in
theorem own1p (Z : Zone) (S : List FieldA) (hS : schemaB S = true) (so : Option Addr) (sc : Nat) (f : Txt) (o n : Int) (s : Txt) (kids : EL) (xv : Value) (up : Nat) (to eo : Option Addr) (tn tc en ec : Nat) (w : World) (hf : FldsAt w (.slice so S.length sc) S)
    (hx : SlE Z w up xv (.cons o n s kids .nil)) (hro : rootB o n s kids.len = true) (hw : wellE kids = true) (kf : Nat) (nm : Txt) (DT : Int) (DO : Bool) (hkf : S[kf]? = some ⟨nm, DT, DO⟩) (hsome : fieldOf S f = some ⟨nm, DT, DO⟩) (hE : kindP S o s kids = (⟨DT, false⟩, 0)) :
    Calls Tryd.prog 35 #[.agg #[.slice so S.length sc], stV 1 f xv (.slice to tn tc) (.slice eo en ec)] w fun e w' => e = .returned (.int .i64 0) ∧ Keeps (fun _ => False) w w' := by
  have hl8 := schema_8 hS
  obtain ⟨xo, xc, b, off, rfl, hcap, ha, hin⟩ := hx.open
  obtain ⟨rfl, _⟩ := ha (by simp [EL.len])
  obtain ⟨h1, h2, h3, h4, h5, ⟨kao, kcap, h6, h7, h8⟩, _⟩ := hin
  have hkid : SlE Z w b (.slice kao kids.len kcap) kids := ⟨kao, kcap, rfl, h7, h8⟩
  have hlen : (EL.cons o n s kids .nil).len = 1 := rfl
  rw [hlen] at hcap ⊢
  have hkl := get_lt hkf
  obtain ⟨fb, foff, fc, fe, hfb, hfc⟩ := FldsAt.cells hf (by omega)
  simp only [Value.slice.injEq] at fe
  obtain ⟨rfl, _, rfl⟩ := fe
  have g1 : ¬ (kf : Int) < 0 := by omega
  have g1' : decide ((kf : Int) < 0) = false := decide_eq_false g1
  have i1 : (kf : Int) < (S.length : Int) := by omega
  have i0 : (0 : Int) ≤ (kf : Int) := by omega
  obtain ⟨HX, hxb, hxc⟩ := boxedT w #[.slice (some ⟨fb, foff, none⟩) S.length sc] 24
  obtain ⟨HY, hyb, hyc⟩ := boxedT (w.alloc (.cells #[.slice (some ⟨fb, foff, none⟩) S.length sc] 24)) #[.int .i64 1, str f, .slice (some ⟨b, off, none⟩) 1 xc, .slice to tn tc, .slice eo en ec] 64
  rw [World.size_alloc] at hyc hyb
  have HK0 := hide ((unhide HX).trans (unhide HY))
  have SB : ∀ w', Keeps (fun _ => False) ((w.alloc (.cells #[.slice (some ⟨fb, foff, none⟩) S.length sc] 24)).alloc (.cells #[.int .i64 1, str f, .slice (some ⟨b, off, none⟩) 1 xc, .slice to tn tc, .slice eo en ec] 64)) w' → w'.cell? ⟨w.heap.size, 0, none⟩ = some (.slice (some ⟨fb, foff, none⟩) S.length sc) ∧ w'.cell? ⟨w.heap.size + 1, 0, none⟩ = some (.int .i64 1) ∧ w'.cell? ⟨w.heap.size + 1, 1, none⟩ = some (str f) ∧ w'.cell? ⟨w.heap.size + 1, 2, none⟩ = some (.slice (some ⟨b, off, none⟩) 1 xc) ∧ w'.cell? ⟨b, off, none⟩ = some (.int .i64 o) ∧ w'.cell? ⟨b, off + 1, none⟩ = some (.int .i64 n) ∧ w'.cell? ⟨b, off + 2, none⟩ = some (str s) ∧ w'.cell? ⟨b, off + 3, none⟩ = some (.slice kao kids.len kcap) ∧ w'.cell? ⟨fb, foff + kf * 3, none⟩ = some (str nm) ∧ w'.cell? ⟨fb, foff + kf * 3 + 1, none⟩ = some (.int .i64 DT) ∧ w'.cell? ⟨fb, foff + kf * 3 + 2, none⟩ = some (.bool DO) := fun w' hk =>
    ⟨(((unhide HY).trans hk).cell hxb id).trans (hxc 0 _ rfl), (hk.cell hyb id).trans (hyc 0 _ rfl), (hk.cell hyb id).trans (hyc 1 _ rfl), (hk.cell hyb id).trans (hyc 2 _ rfl), (((unhide HK0).trans hk).cell h1 id).trans h3, (((unhide HK0).trans hk).cell h1 id).trans h4, (((unhide HK0).trans hk).cell h1 id).trans h5, (((unhide HK0).trans hk).cell h1 id).trans h6, (((unhide HK0).trans hk).cell hfb id).trans (hfc kf _ hkf).1, (((unhide HK0).trans hk).cell hfb id).trans (hfc kf _ hkf).2.1, (((unhide HK0).trans hk).cell hfb id).trans (hfc kf _ hkf).2.2⟩
  have y := SB _ (Keeps.refl _ _)
  have HSB := hide SB
  have HFI := hide (refField_at S hS (.slice (some ⟨fb, foff, none⟩) S.length sc) f _ (hf.keepF (unhide HK0)) hl8 kf _ hkf hsome)
  have HGO := fun w' (hk : Keeps (fun _ => False) w w') => hide (refKind_v Z S hS (some ⟨fb, foff, none⟩) sc (kids.size + 1) kids (by omega) o n s w' b (.slice kao kids.len kcap) (hkid.keepF hk) (hf.keepF hk) hro hw)
  rw [zeroK_ok hE] at HGO
  clear hE
  clear hx hkid hf hxc hyc SB hro hw ha h2 h3 h4 h5 h6 h8 HX HY hfc hkf hsome
  go_enter Tryd.func35, Tryd.ntmps35
  go_wp2_with (go_at_call 53; refine (unhide HFI).mono ?_; rintro e w1 ⟨rfl, hk1⟩; have HKb := hide hk1; have y1 := unhide HSB _ hk1; have HK1 := hide ((unhide HK0).trans hk1); clear hk1)
  go_region_held3 (fun w' => w'.cell? ⟨w.heap.size, 0, none⟩ = some (.slice (some ⟨fb, foff, none⟩) S.length sc) ∧ w'.cell? ⟨w.heap.size + 1, 0, none⟩ = some (.int .i64 1) ∧ w'.cell? ⟨w.heap.size + 1, 1, none⟩ = some (str f) ∧ w'.cell? ⟨w.heap.size + 1, 2, none⟩ = some (.slice (some ⟨b, off, none⟩) 1 xc) ∧ w'.cell? ⟨b, off, none⟩ = some (.int .i64 o) ∧ w'.cell? ⟨b, off + 1, none⟩ = some (.int .i64 n) ∧ w'.cell? ⟨b, off + 2, none⟩ = some (str s) ∧ w'.cell? ⟨b, off + 3, none⟩ = some (.slice kao kids.len kcap) ∧ w'.cell? ⟨fb, foff + kf * 3, none⟩ = some (str nm) ∧ w'.cell? ⟨fb, foff + kf * 3 + 1, none⟩ = some (.int .i64 DT) ∧ w'.cell? ⟨fb, foff + kf * 3 + 2, none⟩ = some (.bool DO))
    (first | with_reducible exact unhide HSB _ (unhide HKe) | with_reducible exact unhide HSB _ (unhide HKd) | with_reducible exact unhide HSB _ ((unhide HKd).alloc _) | with_reducible exact unhide HSB _ (unhide HKb).drew | with_reducible exact unhide HSB _ ((unhide HKb).alloc _).drew)
    ((go_at_call 54; first
      | ((with_reducible refine (unhide (HGO w1.drew (unhide HK1).drew)).mono ?_); rintro e w2 ⟨rfl, hk2⟩; have hkd := (Keeps.refl (fun _ => False) w1).drew.trans hk2; have HKd := hide ((unhide HKb).trans hkd); obtain ⟨HZ, hzb, hzc⟩ := boxedT w2 #[.int .i64 DT, .bool false, .int .i64 0] 83; have c0 := hzc 0 (.int .i64 DT) rfl; have c1 := hzc 1 (.bool false) rfl; have c2 := hzc 2 (.int .i64 0) rfl; have HKe := hide ((unhide HKd).trans (unhide HZ)); have yy := unhide HSB _ (unhide HKe); have HKF := hide (((unhide HK1).trans hkd).trans (unhide HZ)); clear hk2 hkd hzc)
      | ((with_reducible refine (unhide (HGO (w1.alloc (.cells #[.int .i64 0, .bool false, .int .i64 0] 83)).drew ((unhide HK1).alloc _).drew)).mono ?_); rintro e w2 ⟨rfl, hk2⟩; have hz := zero3_at hk2; have hkd := ((Keeps.refl (fun _ => False) w1).alloc (.cells #[.int .i64 0, .bool false, .int .i64 0] 83)).drew.trans hk2; have HKd := hide ((unhide HKb).trans hkd); have m0 : World.cell? _ _ = some (Value.int .i64 0) := cell_of_blk hz 0; have m1 : World.cell? _ _ = some (Value.bool false) := cell_of_blk hz 1; have m2 : World.cell? _ _ = some (Value.int .i64 0) := cell_of_blk hz 2; have f0 := frozen_of_blk hz 0; have f1 := frozen_of_blk hz 1; have f2 := frozen_of_blk hz 2; have hst := set3 hz rfl (.int .i64 DT) (.bool false) (.int .i64 0); have hbs := (unhide HKb).size; have HKe : Hid (Keeps (fun _ => False) ((w.alloc (.cells #[.slice (some ⟨fb, foff, none⟩) S.length sc] 24)).alloc (.cells #[.int .i64 1, str f, .slice (some ⟨b, off, none⟩) 1 xc, .slice to tn tc, .slice eo en ec] 64)) (((w2.setCell ⟨w1.heap.size, 0, none⟩ (.int .i64 DT)).setCell ⟨w1.heap.size, 1, none⟩ (.bool false)).setCell ⟨w1.heap.size, 2, none⟩ (.int .i64 0))) := (unhide HKd).narrow hst.2 (fun q e => by omega); have yy := unhide HSB _ (unhide HKe); have c0 := hst.1.1; have c1 := hst.1.2.1; have c2 := hst.1.2.2; have HKF : Hid (Keeps (fun _ => False) w (((w2.setCell ⟨w1.heap.size, 0, none⟩ (.int .i64 DT)).setCell ⟨w1.heap.size, 1, none⟩ (.bool false)).setCell ⟨w1.heap.size, 2, none⟩ (.int .i64 0))) := (unhide HK0).trans (unhide HKe); clear hk2 hkd hz hst hbs)))
  all_goals go_wp2_with fail
  all_goals (go_ret; exact ⟨rfl, unhide HKF⟩)

set_option maxRecDepth 100000 in
set_option maxHeartbeats 8000000 in
theorem own1o (Z : Zone) (S : List FieldA) (hS : schemaB S = true) (so : Option Addr) (sc : Nat) (f : Txt) (o n : Int) (s : Txt) (kids : EL) (xv : Value) (up : Nat) (to eo : Option Addr) (tn tc en ec : Nat) (w : World) (hf : FldsAt w (.slice so S.length sc) S)
    (hx : SlE Z w up xv (.cons o n s kids .nil)) (hro : rootB o n s kids.len = true) (hw : wellE kids = true) (kf : Nat) (nm : Txt) (DT : Int) (hkf : S[kf]? = some ⟨nm, DT, true⟩) (hsome : fieldOf S f = some ⟨nm, DT, true⟩) (hE : kindP S o s kids = (⟨DT, true⟩, 0)) :
    Calls Tryd.prog 35 #[.agg #[.slice so S.length sc], stV 1 f xv (.slice to tn tc) (.slice eo en ec)] w fun e w' => e = .returned (.int .i64 0) ∧ Keeps (fun _ => False) w w' := by
  have hl8 := schema_8 hS
  obtain ⟨xo, xc, b, off, rfl, hcap, ha, hin⟩ := hx.open
  obtain ⟨rfl, _⟩ := ha (by simp [EL.len])
  obtain ⟨h1, h2, h3, h4, h5, ⟨kao, kcap, h6, h7, h8⟩, _⟩ := hin
  have hkid : SlE Z w b (.slice kao kids.len kcap) kids := ⟨kao, kcap, rfl, h7, h8⟩
  have hlen : (EL.cons o n s kids .nil).len = 1 := rfl
  rw [hlen] at hcap ⊢
  have hkl := get_lt hkf
  obtain ⟨fb, foff, fc, fe, hfb, hfc⟩ := FldsAt.cells hf (by omega)
  simp only [Value.slice.injEq] at fe
  obtain ⟨rfl, _, rfl⟩ := fe
  have g1 : ¬ (kf : Int) < 0 := by omega
  have g1' : decide ((kf : Int) < 0) = false := decide_eq_false g1
  have i1 : (kf : Int) < (S.length : Int) := by omega
  have i0 : (0 : Int) ≤ (kf : Int) := by omega
  obtain ⟨HX, hxb, hxc⟩ := boxedT w #[.slice (some ⟨fb, foff, none⟩) S.length sc] 24
  obtain ⟨HY, hyb, hyc⟩ := boxedT (w.alloc (.cells #[.slice (some ⟨fb, foff, none⟩) S.length sc] 24)) #[.int .i64 1, str f, .slice (some ⟨b, off, none⟩) 1 xc, .slice to tn tc, .slice eo en ec] 64
  rw [World.size_alloc] at hyc hyb
  have HK0 := hide ((unhide HX).trans (unhide HY))
  have SB : ∀ w', Keeps (fun _ => False) ((w.alloc (.cells #[.slice (some ⟨fb, foff, none⟩) S.length sc] 24)).alloc (.cells #[.int .i64 1, str f, .slice (some ⟨b, off, none⟩) 1 xc, .slice to tn tc, .slice eo en ec] 64)) w' → w'.cell? ⟨w.heap.size, 0, none⟩ = some (.slice (some ⟨fb, foff, none⟩) S.length sc) ∧ w'.cell? ⟨w.heap.size + 1, 0, none⟩ = some (.int .i64 1) ∧ w'.cell? ⟨w.heap.size + 1, 1, none⟩ = some (str f) ∧ w'.cell? ⟨w.heap.size + 1, 2, none⟩ = some (.slice (some ⟨b, off, none⟩) 1 xc) ∧ w'.cell? ⟨b, off, none⟩ = some (.int .i64 o) ∧ w'.cell? ⟨b, off + 1, none⟩ = some (.int .i64 n) ∧ w'.cell? ⟨b, off + 2, none⟩ = some (str s) ∧ w'.cell? ⟨b, off + 3, none⟩ = some (.slice kao kids.len kcap) ∧ w'.cell? ⟨fb, foff + kf * 3, none⟩ = some (str nm) ∧ w'.cell? ⟨fb, foff + kf * 3 + 1, none⟩ = some (.int .i64 DT) ∧ w'.cell? ⟨fb, foff + kf * 3 + 2, none⟩ = some (.bool true) := fun w' hk =>
    ⟨(((unhide HY).trans hk).cell hxb id).trans (hxc 0 _ rfl), (hk.cell hyb id).trans (hyc 0 _ rfl), (hk.cell hyb id).trans (hyc 1 _ rfl), (hk.cell hyb id).trans (hyc 2 _ rfl), (((unhide HK0).trans hk).cell h1 id).trans h3, (((unhide HK0).trans hk).cell h1 id).trans h4, (((unhide HK0).trans hk).cell h1 id).trans h5, (((unhide HK0).trans hk).cell h1 id).trans h6, (((unhide HK0).trans hk).cell hfb id).trans (hfc kf _ hkf).1, (((unhide HK0).trans hk).cell hfb id).trans (hfc kf _ hkf).2.1, (((unhide HK0).trans hk).cell hfb id).trans (hfc kf _ hkf).2.2⟩
  have y := SB _ (Keeps.refl _ _)
  have HSB := hide SB
  have HFI := hide (refField_at S hS (.slice (some ⟨fb, foff, none⟩) S.length sc) f _ (hf.keepF (unhide HK0)) hl8 kf _ hkf hsome)
  have HGO := fun w' (hk : Keeps (fun _ => False) w w') => hide (refKind_v Z S hS (some ⟨fb, foff, none⟩) sc (kids.size + 1) kids (by omega) o n s w' b (.slice kao kids.len kcap) (hkid.keepF hk) (hf.keepF hk) hro hw)
  rw [zeroK_ok hE] at HGO
  clear hE
  clear hx hkid hf hxc hyc SB hro hw ha h2 h3 h4 h5 h6 h8 HX HY hfc hkf hsome
  go_enter Tryd.func35, Tryd.ntmps35
  go_wp2_with (go_at_call 53; refine (unhide HFI).mono ?_; rintro e w1 ⟨rfl, hk1⟩; have HKb := hide hk1; have y1 := unhide HSB _ hk1; have HK1 := hide ((unhide HK0).trans hk1); clear hk1)
  go_region_held3 (fun w' => w'.cell? ⟨w.heap.size, 0, none⟩ = some (.slice (some ⟨fb, foff, none⟩) S.length sc) ∧ w'.cell? ⟨w.heap.size + 1, 0, none⟩ = some (.int .i64 1) ∧ w'.cell? ⟨w.heap.size + 1, 1, none⟩ = some (str f) ∧ w'.cell? ⟨w.heap.size + 1, 2, none⟩ = some (.slice (some ⟨b, off, none⟩) 1 xc) ∧ w'.cell? ⟨b, off, none⟩ = some (.int .i64 o) ∧ w'.cell? ⟨b, off + 1, none⟩ = some (.int .i64 n) ∧ w'.cell? ⟨b, off + 2, none⟩ = some (str s) ∧ w'.cell? ⟨b, off + 3, none⟩ = some (.slice kao kids.len kcap) ∧ w'.cell? ⟨fb, foff + kf * 3, none⟩ = some (str nm) ∧ w'.cell? ⟨fb, foff + kf * 3 + 1, none⟩ = some (.int .i64 DT) ∧ w'.cell? ⟨fb, foff + kf * 3 + 2, none⟩ = some (.bool true))
    (first | with_reducible exact unhide HSB _ (unhide HKe) | with_reducible exact unhide HSB _ (unhide HKd) | with_reducible exact unhide HSB _ ((unhide HKd).alloc _) | with_reducible exact unhide HSB _ (unhide HKb).drew | with_reducible exact unhide HSB _ ((unhide HKb).alloc _).drew)
    ((go_at_call 54; first
      | ((with_reducible refine (unhide (HGO w1.drew (unhide HK1).drew)).mono ?_); rintro e w2 ⟨rfl, hk2⟩; have hkd := (Keeps.refl (fun _ => False) w1).drew.trans hk2; have HKd := hide ((unhide HKb).trans hkd); obtain ⟨HZ, hzb, hzc⟩ := boxedT w2 #[.int .i64 DT, .bool true, .int .i64 0] 83; have c0 := hzc 0 (.int .i64 DT) rfl; have c1 := hzc 1 (.bool true) rfl; have c2 := hzc 2 (.int .i64 0) rfl; have HKe := hide ((unhide HKd).trans (unhide HZ)); have yy := unhide HSB _ (unhide HKe); have HKF := hide (((unhide HK1).trans hkd).trans (unhide HZ)); clear hk2 hkd hzc)
      | ((with_reducible refine (unhide (HGO (w1.alloc (.cells #[.int .i64 0, .bool false, .int .i64 0] 83)).drew ((unhide HK1).alloc _).drew)).mono ?_); rintro e w2 ⟨rfl, hk2⟩; have hz := zero3_at hk2; have hkd := ((Keeps.refl (fun _ => False) w1).alloc (.cells #[.int .i64 0, .bool false, .int .i64 0] 83)).drew.trans hk2; have HKd := hide ((unhide HKb).trans hkd); have m0 : World.cell? _ _ = some (Value.int .i64 0) := cell_of_blk hz 0; have m1 : World.cell? _ _ = some (Value.bool false) := cell_of_blk hz 1; have m2 : World.cell? _ _ = some (Value.int .i64 0) := cell_of_blk hz 2; have f0 := frozen_of_blk hz 0; have f1 := frozen_of_blk hz 1; have f2 := frozen_of_blk hz 2; have hst := set3 hz rfl (.int .i64 DT) (.bool true) (.int .i64 0); have hbs := (unhide HKb).size; have HKe : Hid (Keeps (fun _ => False) ((w.alloc (.cells #[.slice (some ⟨fb, foff, none⟩) S.length sc] 24)).alloc (.cells #[.int .i64 1, str f, .slice (some ⟨b, off, none⟩) 1 xc, .slice to tn tc, .slice eo en ec] 64)) (((w2.setCell ⟨w1.heap.size, 0, none⟩ (.int .i64 DT)).setCell ⟨w1.heap.size, 1, none⟩ (.bool true)).setCell ⟨w1.heap.size, 2, none⟩ (.int .i64 0))) := (unhide HKd).narrow hst.2 (fun q e => by omega); have yy := unhide HSB _ (unhide HKe); have c0 := hst.1.1; have c1 := hst.1.2.1; have c2 := hst.1.2.2; have HKF : Hid (Keeps (fun _ => False) w (((w2.setCell ⟨w1.heap.size, 0, none⟩ (.int .i64 DT)).setCell ⟨w1.heap.size, 1, none⟩ (.bool true)).setCell ⟨w1.heap.size, 2, none⟩ (.int .i64 0))) := (unhide HK0).trans (unhide HKe); clear hk2 hkd hz hst hbs)))
  all_goals go_wp2_with fail
  all_goals (go_ret; exact ⟨rfl, unhide HKF⟩)

set_option maxRecDepth 100000 in
set_option maxHeartbeats 8000000 in
theorem own1n (Z : Zone) (S : List FieldA) (hS : schemaB S = true) (so : Option Addr) (sc : Nat) (f : Txt) (o n : Int) (s : Txt) (kids : EL) (xv : Value) (up : Nat) (to eo : Option Addr) (tn tc en ec : Nat) (w : World) (hf : FldsAt w (.slice so S.length sc) S)
    (hx : SlE Z w up xv (.cons o n s kids .nil)) (hro : rootB o n s kids.len = true) (hw : wellE kids = true) (kf : Nat) (nm : Txt) (DT : Int) (hkf : S[kf]? = some ⟨nm, DT, false⟩) (hsome : fieldOf S f = some ⟨nm, DT, false⟩) (hE : kindP S o s kids = (⟨DT, true⟩, 0)) :
    Calls Tryd.prog 35 #[.agg #[.slice so S.length sc], stV 1 f xv (.slice to tn tc) (.slice eo en ec)] w fun e w' => e = .returned (.int .i64 92) ∧ Keeps (fun _ => False) w w' := by
  have hl8 := schema_8 hS
  obtain ⟨xo, xc, b, off, rfl, hcap, ha, hin⟩ := hx.open
  obtain ⟨rfl, _⟩ := ha (by simp [EL.len])
  obtain ⟨h1, h2, h3, h4, h5, ⟨kao, kcap, h6, h7, h8⟩, _⟩ := hin
  have hkid : SlE Z w b (.slice kao kids.len kcap) kids := ⟨kao, kcap, rfl, h7, h8⟩
  have hlen : (EL.cons o n s kids .nil).len = 1 := rfl
  rw [hlen] at hcap ⊢
  have hkl := get_lt hkf
  obtain ⟨fb, foff, fc, fe, hfb, hfc⟩ := FldsAt.cells hf (by omega)
  simp only [Value.slice.injEq] at fe
  obtain ⟨rfl, _, rfl⟩ := fe
  have g1 : ¬ (kf : Int) < 0 := by omega
  have g1' : decide ((kf : Int) < 0) = false := decide_eq_false g1
  have i1 : (kf : Int) < (S.length : Int) := by omega
  have i0 : (0 : Int) ≤ (kf : Int) := by omega
  obtain ⟨HX, hxb, hxc⟩ := boxedT w #[.slice (some ⟨fb, foff, none⟩) S.length sc] 24
  obtain ⟨HY, hyb, hyc⟩ := boxedT (w.alloc (.cells #[.slice (some ⟨fb, foff, none⟩) S.length sc] 24)) #[.int .i64 1, str f, .slice (some ⟨b, off, none⟩) 1 xc, .slice to tn tc, .slice eo en ec] 64
  rw [World.size_alloc] at hyc hyb
  have HK0 := hide ((unhide HX).trans (unhide HY))
  have SB : ∀ w', Keeps (fun _ => False) ((w.alloc (.cells #[.slice (some ⟨fb, foff, none⟩) S.length sc] 24)).alloc (.cells #[.int .i64 1, str f, .slice (some ⟨b, off, none⟩) 1 xc, .slice to tn tc, .slice eo en ec] 64)) w' → w'.cell? ⟨w.heap.size, 0, none⟩ = some (.slice (some ⟨fb, foff, none⟩) S.length sc) ∧ w'.cell? ⟨w.heap.size + 1, 0, none⟩ = some (.int .i64 1) ∧ w'.cell? ⟨w.heap.size + 1, 1, none⟩ = some (str f) ∧ w'.cell? ⟨w.heap.size + 1, 2, none⟩ = some (.slice (some ⟨b, off, none⟩) 1 xc) ∧ w'.cell? ⟨b, off, none⟩ = some (.int .i64 o) ∧ w'.cell? ⟨b, off + 1, none⟩ = some (.int .i64 n) ∧ w'.cell? ⟨b, off + 2, none⟩ = some (str s) ∧ w'.cell? ⟨b, off + 3, none⟩ = some (.slice kao kids.len kcap) ∧ w'.cell? ⟨fb, foff + kf * 3, none⟩ = some (str nm) ∧ w'.cell? ⟨fb, foff + kf * 3 + 1, none⟩ = some (.int .i64 DT) ∧ w'.cell? ⟨fb, foff + kf * 3 + 2, none⟩ = some (.bool false) := fun w' hk =>
    ⟨(((unhide HY).trans hk).cell hxb id).trans (hxc 0 _ rfl), (hk.cell hyb id).trans (hyc 0 _ rfl), (hk.cell hyb id).trans (hyc 1 _ rfl), (hk.cell hyb id).trans (hyc 2 _ rfl), (((unhide HK0).trans hk).cell h1 id).trans h3, (((unhide HK0).trans hk).cell h1 id).trans h4, (((unhide HK0).trans hk).cell h1 id).trans h5, (((unhide HK0).trans hk).cell h1 id).trans h6, (((unhide HK0).trans hk).cell hfb id).trans (hfc kf _ hkf).1, (((unhide HK0).trans hk).cell hfb id).trans (hfc kf _ hkf).2.1, (((unhide HK0).trans hk).cell hfb id).trans (hfc kf _ hkf).2.2⟩
  have y := SB _ (Keeps.refl _ _)
  have HSB := hide SB
  have HFI := hide (refField_at S hS (.slice (some ⟨fb, foff, none⟩) S.length sc) f _ (hf.keepF (unhide HK0)) hl8 kf _ hkf hsome)
  have HGO := fun w' (hk : Keeps (fun _ => False) w w') => hide (refKind_v Z S hS (some ⟨fb, foff, none⟩) sc (kids.size + 1) kids (by omega) o n s w' b (.slice kao kids.len kcap) (hkid.keepF hk) (hf.keepF hk) hro hw)
  rw [zeroK_ok hE] at HGO
  clear hE
  clear hx hkid hf hxc hyc SB hro hw ha h2 h3 h4 h5 h6 h8 HX HY hfc hkf hsome
  go_enter Tryd.func35, Tryd.ntmps35
  go_wp2_with (go_at_call 53; refine (unhide HFI).mono ?_; rintro e w1 ⟨rfl, hk1⟩; have HKb := hide hk1; have y1 := unhide HSB _ hk1; have HK1 := hide ((unhide HK0).trans hk1); clear hk1)
  go_region_held3 (fun w' => w'.cell? ⟨w.heap.size, 0, none⟩ = some (.slice (some ⟨fb, foff, none⟩) S.length sc) ∧ w'.cell? ⟨w.heap.size + 1, 0, none⟩ = some (.int .i64 1) ∧ w'.cell? ⟨w.heap.size + 1, 1, none⟩ = some (str f) ∧ w'.cell? ⟨w.heap.size + 1, 2, none⟩ = some (.slice (some ⟨b, off, none⟩) 1 xc) ∧ w'.cell? ⟨b, off, none⟩ = some (.int .i64 o) ∧ w'.cell? ⟨b, off + 1, none⟩ = some (.int .i64 n) ∧ w'.cell? ⟨b, off + 2, none⟩ = some (str s) ∧ w'.cell? ⟨b, off + 3, none⟩ = some (.slice kao kids.len kcap) ∧ w'.cell? ⟨fb, foff + kf * 3, none⟩ = some (str nm) ∧ w'.cell? ⟨fb, foff + kf * 3 + 1, none⟩ = some (.int .i64 DT) ∧ w'.cell? ⟨fb, foff + kf * 3 + 2, none⟩ = some (.bool false))
    (first | with_reducible exact unhide HSB _ (unhide HKe) | with_reducible exact unhide HSB _ (unhide HKd) | with_reducible exact unhide HSB _ ((unhide HKd).alloc _) | with_reducible exact unhide HSB _ (unhide HKb).drew | with_reducible exact unhide HSB _ ((unhide HKb).alloc _).drew)
    ((go_at_call 54; first
      | ((with_reducible refine (unhide (HGO w1.drew (unhide HK1).drew)).mono ?_); rintro e w2 ⟨rfl, hk2⟩; have hkd := (Keeps.refl (fun _ => False) w1).drew.trans hk2; have HKd := hide ((unhide HKb).trans hkd); obtain ⟨HZ, hzb, hzc⟩ := boxedT w2 #[.int .i64 DT, .bool true, .int .i64 0] 83; have c0 := hzc 0 (.int .i64 DT) rfl; have c1 := hzc 1 (.bool true) rfl; have c2 := hzc 2 (.int .i64 0) rfl; have HKe := hide ((unhide HKd).trans (unhide HZ)); have yy := unhide HSB _ (unhide HKe); have HKF := hide (((unhide HK1).trans hkd).trans (unhide HZ)); clear hk2 hkd hzc)
      | ((with_reducible refine (unhide (HGO (w1.alloc (.cells #[.int .i64 0, .bool false, .int .i64 0] 83)).drew ((unhide HK1).alloc _).drew)).mono ?_); rintro e w2 ⟨rfl, hk2⟩; have hz := zero3_at hk2; have hkd := ((Keeps.refl (fun _ => False) w1).alloc (.cells #[.int .i64 0, .bool false, .int .i64 0] 83)).drew.trans hk2; have HKd := hide ((unhide HKb).trans hkd); have m0 : World.cell? _ _ = some (Value.int .i64 0) := cell_of_blk hz 0; have m1 : World.cell? _ _ = some (Value.bool false) := cell_of_blk hz 1; have m2 : World.cell? _ _ = some (Value.int .i64 0) := cell_of_blk hz 2; have f0 := frozen_of_blk hz 0; have f1 := frozen_of_blk hz 1; have f2 := frozen_of_blk hz 2; have hst := set3 hz rfl (.int .i64 DT) (.bool true) (.int .i64 0); have hbs := (unhide HKb).size; have HKe : Hid (Keeps (fun _ => False) ((w.alloc (.cells #[.slice (some ⟨fb, foff, none⟩) S.length sc] 24)).alloc (.cells #[.int .i64 1, str f, .slice (some ⟨b, off, none⟩) 1 xc, .slice to tn tc, .slice eo en ec] 64)) (((w2.setCell ⟨w1.heap.size, 0, none⟩ (.int .i64 DT)).setCell ⟨w1.heap.size, 1, none⟩ (.bool true)).setCell ⟨w1.heap.size, 2, none⟩ (.int .i64 0))) := (unhide HKd).narrow hst.2 (fun q e => by omega); have yy := unhide HSB _ (unhide HKe); have c0 := hst.1.1; have c1 := hst.1.2.1; have c2 := hst.1.2.2; have HKF : Hid (Keeps (fun _ => False) w (((w2.setCell ⟨w1.heap.size, 0, none⟩ (.int .i64 DT)).setCell ⟨w1.heap.size, 1, none⟩ (.bool true)).setCell ⟨w1.heap.size, 2, none⟩ (.int .i64 0))) := (unhide HK0).trans (unhide HKe); clear hk2 hkd hz hst hbs)))
  all_goals go_wp2_with fail
  all_goals (go_ret; exact ⟨rfl, unhide HKF⟩)
end Go.Proofs.YtjhppnecadnekaaDoor
namespace Go.Proofs.YtjhppnecadnekaaDoor
open Go.RowKit Go.Maps

set_option maxRecDepth 100000 in
set_option maxHeartbeats 8000000 in
theorem own2e (Z : Zone) (S : List FieldA) (hS : schemaB S = true) (so : Option Addr) (sc : Nat) (f : Txt) (o n : Int) (s : Txt) (kids : EL) (xv : Value) (up : Nat) (to eo : Option Addr) (tn tc en ec : Nat) (w : World) (hf : FldsAt w (.slice so S.length sc) S)
    (hx : SlE Z w up xv (.cons o n s kids .nil)) (hro : rootB o n s kids.len = true) (hw : wellE kids = true) (kf : Nat) (nm : Txt) (DT : Int) (DO : Bool) (hkf : S[kf]? = some ⟨nm, DT, DO⟩) (hsome : fieldOf S f = some ⟨nm, DT, DO⟩) (E : Int) (hE : (kindP S o s kids).2 = E) (hE0 : E ≠ 0) :
    Calls Tryd.prog 35 #[.agg #[.slice so S.length sc], stV 2 f xv (.slice to tn tc) (.slice eo en ec)] w fun e w' => e = .returned (.int .i64 E) ∧ Keeps (fun _ => False) w w' := by
  have hl8 := schema_8 hS
  obtain ⟨xo, xc, b, off, rfl, hcap, ha, hin⟩ := hx.open
  obtain ⟨rfl, _⟩ := ha (by simp [EL.len])
  obtain ⟨h1, h2, h3, h4, h5, ⟨kao, kcap, h6, h7, h8⟩, _⟩ := hin
  have hkid : SlE Z w b (.slice kao kids.len kcap) kids := ⟨kao, kcap, rfl, h7, h8⟩
  have hlen : (EL.cons o n s kids .nil).len = 1 := rfl
  rw [hlen] at hcap ⊢
  have hkl := get_lt hkf
  obtain ⟨fb, foff, fc, fe, hfb, hfc⟩ := FldsAt.cells hf (by omega)
  simp only [Value.slice.injEq] at fe
  obtain ⟨rfl, _, rfl⟩ := fe
  have g1 : ¬ (kf : Int) < 0 := by omega
  have g1' : decide ((kf : Int) < 0) = false := decide_eq_false g1
  have i1 : (kf : Int) < (S.length : Int) := by omega
  have i0 : (0 : Int) ≤ (kf : Int) := by omega
  obtain ⟨HX, hxb, hxc⟩ := boxedT w #[.slice (some ⟨fb, foff, none⟩) S.length sc] 24
  obtain ⟨HY, hyb, hyc⟩ := boxedT (w.alloc (.cells #[.slice (some ⟨fb, foff, none⟩) S.length sc] 24)) #[.int .i64 2, str f, .slice (some ⟨b, off, none⟩) 1 xc, .slice to tn tc, .slice eo en ec] 64
  rw [World.size_alloc] at hyc hyb
  have HK0 := hide ((unhide HX).trans (unhide HY))
  have SB : ∀ w', Keeps (fun _ => False) ((w.alloc (.cells #[.slice (some ⟨fb, foff, none⟩) S.length sc] 24)).alloc (.cells #[.int .i64 2, str f, .slice (some ⟨b, off, none⟩) 1 xc, .slice to tn tc, .slice eo en ec] 64)) w' → w'.cell? ⟨w.heap.size, 0, none⟩ = some (.slice (some ⟨fb, foff, none⟩) S.length sc) ∧ w'.cell? ⟨w.heap.size + 1, 0, none⟩ = some (.int .i64 2) ∧ w'.cell? ⟨w.heap.size + 1, 1, none⟩ = some (str f) ∧ w'.cell? ⟨w.heap.size + 1, 2, none⟩ = some (.slice (some ⟨b, off, none⟩) 1 xc) ∧ w'.cell? ⟨b, off, none⟩ = some (.int .i64 o) ∧ w'.cell? ⟨b, off + 1, none⟩ = some (.int .i64 n) ∧ w'.cell? ⟨b, off + 2, none⟩ = some (str s) ∧ w'.cell? ⟨b, off + 3, none⟩ = some (.slice kao kids.len kcap) ∧ w'.cell? ⟨fb, foff + kf * 3, none⟩ = some (str nm) ∧ w'.cell? ⟨fb, foff + kf * 3 + 1, none⟩ = some (.int .i64 DT) ∧ w'.cell? ⟨fb, foff + kf * 3 + 2, none⟩ = some (.bool DO) := fun w' hk =>
    ⟨(((unhide HY).trans hk).cell hxb id).trans (hxc 0 _ rfl), (hk.cell hyb id).trans (hyc 0 _ rfl), (hk.cell hyb id).trans (hyc 1 _ rfl), (hk.cell hyb id).trans (hyc 2 _ rfl), (((unhide HK0).trans hk).cell h1 id).trans h3, (((unhide HK0).trans hk).cell h1 id).trans h4, (((unhide HK0).trans hk).cell h1 id).trans h5, (((unhide HK0).trans hk).cell h1 id).trans h6, (((unhide HK0).trans hk).cell hfb id).trans (hfc kf _ hkf).1, (((unhide HK0).trans hk).cell hfb id).trans (hfc kf _ hkf).2.1, (((unhide HK0).trans hk).cell hfb id).trans (hfc kf _ hkf).2.2⟩
  have y := SB _ (Keeps.refl _ _)
  have HSB := hide SB
  have HFI := hide (refField_at S hS (.slice (some ⟨fb, foff, none⟩) S.length sc) f _ (hf.keepF (unhide HK0)) hl8 kf _ hkf hsome)
  have HGO := fun w' (hk : Keeps (fun _ => False) w w') => hide (refKind_v Z S hS (some ⟨fb, foff, none⟩) sc (kids.size + 1) kids (by omega) o n s w' b (.slice kao kids.len kcap) (hkid.keepF hk) (hf.keepF hk) hro hw)
  rw [zeroK_err hE hE0] at HGO
  have n0 : (E != 0) = true := by simpa using hE0
  clear hE hE0
  clear hx hkid hf hxc hyc SB hro hw ha h2 h3 h4 h5 h6 h8 HX HY hfc hkf hsome
  go_enter Tryd.func35, Tryd.ntmps35
  go_wp2_with (go_at_call 53; refine (unhide HFI).mono ?_; rintro e w1 ⟨rfl, hk1⟩; have HKb := hide hk1; have y1 := unhide HSB _ hk1; have HK1 := hide ((unhide HK0).trans hk1); clear hk1)
  go_region_held3 (fun w' => w'.cell? ⟨w.heap.size, 0, none⟩ = some (.slice (some ⟨fb, foff, none⟩) S.length sc) ∧ w'.cell? ⟨w.heap.size + 1, 0, none⟩ = some (.int .i64 2) ∧ w'.cell? ⟨w.heap.size + 1, 1, none⟩ = some (str f) ∧ w'.cell? ⟨w.heap.size + 1, 2, none⟩ = some (.slice (some ⟨b, off, none⟩) 1 xc) ∧ w'.cell? ⟨b, off, none⟩ = some (.int .i64 o) ∧ w'.cell? ⟨b, off + 1, none⟩ = some (.int .i64 n) ∧ w'.cell? ⟨b, off + 2, none⟩ = some (str s) ∧ w'.cell? ⟨b, off + 3, none⟩ = some (.slice kao kids.len kcap) ∧ w'.cell? ⟨fb, foff + kf * 3, none⟩ = some (str nm) ∧ w'.cell? ⟨fb, foff + kf * 3 + 1, none⟩ = some (.int .i64 DT) ∧ w'.cell? ⟨fb, foff + kf * 3 + 2, none⟩ = some (.bool DO))
    (first | with_reducible exact unhide HSB _ (unhide HKe) | with_reducible exact unhide HSB _ (unhide HKd) | with_reducible exact unhide HSB _ ((unhide HKd).alloc _) | with_reducible exact unhide HSB _ (unhide HKb).drew | with_reducible exact unhide HSB _ ((unhide HKb).alloc _).drew)
    ((go_at_call 54; first
      | ((with_reducible refine (unhide (HGO w1.drew (unhide HK1).drew)).mono ?_); rintro e w2 ⟨rfl, hk2⟩; have hkd := (Keeps.refl (fun _ => False) w1).drew.trans hk2; have HKd := hide ((unhide HKb).trans hkd); obtain ⟨HZ, hzb, hzc⟩ := boxedT w2 #[.int .i64 0, .bool false, .int .i64 E] 83; have c0 := hzc 0 (.int .i64 0) rfl; have c1 := hzc 1 (.bool false) rfl; have c2 := hzc 2 (.int .i64 E) rfl; have HKe := hide ((unhide HKd).trans (unhide HZ)); have yy := unhide HSB _ (unhide HKe); have HKF := hide (((unhide HK1).trans hkd).trans (unhide HZ)); clear hk2 hkd hzc)
      | ((with_reducible refine (unhide (HGO (w1.alloc (.cells #[.int .i64 0, .bool false, .int .i64 0] 83)).drew ((unhide HK1).alloc _).drew)).mono ?_); rintro e w2 ⟨rfl, hk2⟩; have hz := zero3_at hk2; have hkd := ((Keeps.refl (fun _ => False) w1).alloc (.cells #[.int .i64 0, .bool false, .int .i64 0] 83)).drew.trans hk2; have HKd := hide ((unhide HKb).trans hkd); have m0 : World.cell? _ _ = some (Value.int .i64 0) := cell_of_blk hz 0; have m1 : World.cell? _ _ = some (Value.bool false) := cell_of_blk hz 1; have m2 : World.cell? _ _ = some (Value.int .i64 0) := cell_of_blk hz 2; have f0 := frozen_of_blk hz 0; have f1 := frozen_of_blk hz 1; have f2 := frozen_of_blk hz 2; have hst := set3 hz rfl (.int .i64 0) (.bool false) (.int .i64 E); have hbs := (unhide HKb).size; have HKe : Hid (Keeps (fun _ => False) ((w.alloc (.cells #[.slice (some ⟨fb, foff, none⟩) S.length sc] 24)).alloc (.cells #[.int .i64 2, str f, .slice (some ⟨b, off, none⟩) 1 xc, .slice to tn tc, .slice eo en ec] 64)) (((w2.setCell ⟨w1.heap.size, 0, none⟩ (.int .i64 0)).setCell ⟨w1.heap.size, 1, none⟩ (.bool false)).setCell ⟨w1.heap.size, 2, none⟩ (.int .i64 E))) := (unhide HKd).narrow hst.2 (fun q e => by omega); have yy := unhide HSB _ (unhide HKe); have c0 := hst.1.1; have c1 := hst.1.2.1; have c2 := hst.1.2.2; have HKF : Hid (Keeps (fun _ => False) w (((w2.setCell ⟨w1.heap.size, 0, none⟩ (.int .i64 0)).setCell ⟨w1.heap.size, 1, none⟩ (.bool false)).setCell ⟨w1.heap.size, 2, none⟩ (.int .i64 E))) := (unhide HK0).trans (unhide HKe); clear hk2 hkd hz hst hbs)))
  all_goals go_wp2_with fail
  all_goals (go_ret; exact ⟨rfl, unhide HKF⟩)

set_option maxRecDepth 100000 in
set_option maxHeartbeats 8000000 in
theorem own2f (Z : Zone) (S : List FieldA) (hS : schemaB S = true) (so : Option Addr) (sc : Nat) (f : Txt) (o n : Int) (s : Txt) (kids : EL) (xv : Value) (up : Nat) (to eo : Option Addr) (tn tc en ec : Nat) (w : World) (hf : FldsAt w (.slice so S.length sc) S)
    (hx : SlE Z w up xv (.cons o n s kids .nil)) (hro : rootB o n s kids.len = true) (hw : wellE kids = true) (kf : Nat) (nm : Txt) (DT : Int) (DO : Bool) (hkf : S[kf]? = some ⟨nm, DT, DO⟩) (hsome : fieldOf S f = some ⟨nm, DT, DO⟩) (T : Int) (O : Bool) (hE : kindP S o s kids = (⟨T, O⟩, 0)) (hT : DT ≠ 1) :
    Calls Tryd.prog 35 #[.agg #[.slice so S.length sc], stV 2 f xv (.slice to tn tc) (.slice eo en ec)] w fun e w' => e = .returned (.int .i64 91) ∧ Keeps (fun _ => False) w w' := by
  have hl8 := schema_8 hS
  obtain ⟨xo, xc, b, off, rfl, hcap, ha, hin⟩ := hx.open
  obtain ⟨rfl, _⟩ := ha (by simp [EL.len])
  obtain ⟨h1, h2, h3, h4, h5, ⟨kao, kcap, h6, h7, h8⟩, _⟩ := hin
  have hkid : SlE Z w b (.slice kao kids.len kcap) kids := ⟨kao, kcap, rfl, h7, h8⟩
  have hlen : (EL.cons o n s kids .nil).len = 1 := rfl
  rw [hlen] at hcap ⊢
  have hkl := get_lt hkf
  obtain ⟨fb, foff, fc, fe, hfb, hfc⟩ := FldsAt.cells hf (by omega)
  simp only [Value.slice.injEq] at fe
  obtain ⟨rfl, _, rfl⟩ := fe
  have g1 : ¬ (kf : Int) < 0 := by omega
  have g1' : decide ((kf : Int) < 0) = false := decide_eq_false g1
  have i1 : (kf : Int) < (S.length : Int) := by omega
  have i0 : (0 : Int) ≤ (kf : Int) := by omega
  obtain ⟨HX, hxb, hxc⟩ := boxedT w #[.slice (some ⟨fb, foff, none⟩) S.length sc] 24
  obtain ⟨HY, hyb, hyc⟩ := boxedT (w.alloc (.cells #[.slice (some ⟨fb, foff, none⟩) S.length sc] 24)) #[.int .i64 2, str f, .slice (some ⟨b, off, none⟩) 1 xc, .slice to tn tc, .slice eo en ec] 64
  rw [World.size_alloc] at hyc hyb
  have HK0 := hide ((unhide HX).trans (unhide HY))
  have SB : ∀ w', Keeps (fun _ => False) ((w.alloc (.cells #[.slice (some ⟨fb, foff, none⟩) S.length sc] 24)).alloc (.cells #[.int .i64 2, str f, .slice (some ⟨b, off, none⟩) 1 xc, .slice to tn tc, .slice eo en ec] 64)) w' → w'.cell? ⟨w.heap.size, 0, none⟩ = some (.slice (some ⟨fb, foff, none⟩) S.length sc) ∧ w'.cell? ⟨w.heap.size + 1, 0, none⟩ = some (.int .i64 2) ∧ w'.cell? ⟨w.heap.size + 1, 1, none⟩ = some (str f) ∧ w'.cell? ⟨w.heap.size + 1, 2, none⟩ = some (.slice (some ⟨b, off, none⟩) 1 xc) ∧ w'.cell? ⟨b, off, none⟩ = some (.int .i64 o) ∧ w'.cell? ⟨b, off + 1, none⟩ = some (.int .i64 n) ∧ w'.cell? ⟨b, off + 2, none⟩ = some (str s) ∧ w'.cell? ⟨b, off + 3, none⟩ = some (.slice kao kids.len kcap) ∧ w'.cell? ⟨fb, foff + kf * 3, none⟩ = some (str nm) ∧ w'.cell? ⟨fb, foff + kf * 3 + 1, none⟩ = some (.int .i64 DT) ∧ w'.cell? ⟨fb, foff + kf * 3 + 2, none⟩ = some (.bool DO) := fun w' hk =>
    ⟨(((unhide HY).trans hk).cell hxb id).trans (hxc 0 _ rfl), (hk.cell hyb id).trans (hyc 0 _ rfl), (hk.cell hyb id).trans (hyc 1 _ rfl), (hk.cell hyb id).trans (hyc 2 _ rfl), (((unhide HK0).trans hk).cell h1 id).trans h3, (((unhide HK0).trans hk).cell h1 id).trans h4, (((unhide HK0).trans hk).cell h1 id).trans h5, (((unhide HK0).trans hk).cell h1 id).trans h6, (((unhide HK0).trans hk).cell hfb id).trans (hfc kf _ hkf).1, (((unhide HK0).trans hk).cell hfb id).trans (hfc kf _ hkf).2.1, (((unhide HK0).trans hk).cell hfb id).trans (hfc kf _ hkf).2.2⟩
  have y := SB _ (Keeps.refl _ _)
  have HSB := hide SB
  have HFI := hide (refField_at S hS (.slice (some ⟨fb, foff, none⟩) S.length sc) f _ (hf.keepF (unhide HK0)) hl8 kf _ hkf hsome)
  have HGO := fun w' (hk : Keeps (fun _ => False) w w') => hide (refKind_v Z S hS (some ⟨fb, foff, none⟩) sc (kids.size + 1) kids (by omega) o n s w' b (.slice kao kids.len kcap) (hkid.keepF hk) (hf.keepF hk) hro hw)
  rw [zeroK_ok hE] at HGO
  have n1 : (DT != 1) = true := by simpa using hT
  clear hT
  clear hE
  clear hx hkid hf hxc hyc SB hro hw ha h2 h3 h4 h5 h6 h8 HX HY hfc hkf hsome
  go_enter Tryd.func35, Tryd.ntmps35
  go_wp2_with (go_at_call 53; refine (unhide HFI).mono ?_; rintro e w1 ⟨rfl, hk1⟩; have HKb := hide hk1; have y1 := unhide HSB _ hk1; have HK1 := hide ((unhide HK0).trans hk1); clear hk1)
  go_region_held3 (fun w' => w'.cell? ⟨w.heap.size, 0, none⟩ = some (.slice (some ⟨fb, foff, none⟩) S.length sc) ∧ w'.cell? ⟨w.heap.size + 1, 0, none⟩ = some (.int .i64 2) ∧ w'.cell? ⟨w.heap.size + 1, 1, none⟩ = some (str f) ∧ w'.cell? ⟨w.heap.size + 1, 2, none⟩ = some (.slice (some ⟨b, off, none⟩) 1 xc) ∧ w'.cell? ⟨b, off, none⟩ = some (.int .i64 o) ∧ w'.cell? ⟨b, off + 1, none⟩ = some (.int .i64 n) ∧ w'.cell? ⟨b, off + 2, none⟩ = some (str s) ∧ w'.cell? ⟨b, off + 3, none⟩ = some (.slice kao kids.len kcap) ∧ w'.cell? ⟨fb, foff + kf * 3, none⟩ = some (str nm) ∧ w'.cell? ⟨fb, foff + kf * 3 + 1, none⟩ = some (.int .i64 DT) ∧ w'.cell? ⟨fb, foff + kf * 3 + 2, none⟩ = some (.bool DO))
    (first | with_reducible exact unhide HSB _ (unhide HKe) | with_reducible exact unhide HSB _ (unhide HKd) | with_reducible exact unhide HSB _ ((unhide HKd).alloc _) | with_reducible exact unhide HSB _ (unhide HKb).drew | with_reducible exact unhide HSB _ ((unhide HKb).alloc _).drew)
    ((go_at_call 54; first
      | ((with_reducible refine (unhide (HGO w1.drew (unhide HK1).drew)).mono ?_); rintro e w2 ⟨rfl, hk2⟩; have hkd := (Keeps.refl (fun _ => False) w1).drew.trans hk2; have HKd := hide ((unhide HKb).trans hkd); obtain ⟨HZ, hzb, hzc⟩ := boxedT w2 #[.int .i64 T, .bool O, .int .i64 0] 83; have c0 := hzc 0 (.int .i64 T) rfl; have c1 := hzc 1 (.bool O) rfl; have c2 := hzc 2 (.int .i64 0) rfl; have HKe := hide ((unhide HKd).trans (unhide HZ)); have yy := unhide HSB _ (unhide HKe); have HKF := hide (((unhide HK1).trans hkd).trans (unhide HZ)); clear hk2 hkd hzc)
      | ((with_reducible refine (unhide (HGO (w1.alloc (.cells #[.int .i64 0, .bool false, .int .i64 0] 83)).drew ((unhide HK1).alloc _).drew)).mono ?_); rintro e w2 ⟨rfl, hk2⟩; have hz := zero3_at hk2; have hkd := ((Keeps.refl (fun _ => False) w1).alloc (.cells #[.int .i64 0, .bool false, .int .i64 0] 83)).drew.trans hk2; have HKd := hide ((unhide HKb).trans hkd); have m0 : World.cell? _ _ = some (Value.int .i64 0) := cell_of_blk hz 0; have m1 : World.cell? _ _ = some (Value.bool false) := cell_of_blk hz 1; have m2 : World.cell? _ _ = some (Value.int .i64 0) := cell_of_blk hz 2; have f0 := frozen_of_blk hz 0; have f1 := frozen_of_blk hz 1; have f2 := frozen_of_blk hz 2; have hst := set3 hz rfl (.int .i64 T) (.bool O) (.int .i64 0); have hbs := (unhide HKb).size; have HKe : Hid (Keeps (fun _ => False) ((w.alloc (.cells #[.slice (some ⟨fb, foff, none⟩) S.length sc] 24)).alloc (.cells #[.int .i64 2, str f, .slice (some ⟨b, off, none⟩) 1 xc, .slice to tn tc, .slice eo en ec] 64)) (((w2.setCell ⟨w1.heap.size, 0, none⟩ (.int .i64 T)).setCell ⟨w1.heap.size, 1, none⟩ (.bool O)).setCell ⟨w1.heap.size, 2, none⟩ (.int .i64 0))) := (unhide HKd).narrow hst.2 (fun q e => by omega); have yy := unhide HSB _ (unhide HKe); have c0 := hst.1.1; have c1 := hst.1.2.1; have c2 := hst.1.2.2; have HKF : Hid (Keeps (fun _ => False) w (((w2.setCell ⟨w1.heap.size, 0, none⟩ (.int .i64 T)).setCell ⟨w1.heap.size, 1, none⟩ (.bool O)).setCell ⟨w1.heap.size, 2, none⟩ (.int .i64 0))) := (unhide HK0).trans (unhide HKe); clear hk2 hkd hz hst hbs)))
  all_goals go_wp2_with fail
  all_goals (go_ret; exact ⟨rfl, unhide HKF⟩)

set_option maxRecDepth 100000 in
set_option maxHeartbeats 8000000 in
theorem own2t (Z : Zone) (S : List FieldA) (hS : schemaB S = true) (so : Option Addr) (sc : Nat) (f : Txt) (o n : Int) (s : Txt) (kids : EL) (xv : Value) (up : Nat) (to eo : Option Addr) (tn tc en ec : Nat) (w : World) (hf : FldsAt w (.slice so S.length sc) S)
    (hx : SlE Z w up xv (.cons o n s kids .nil)) (hro : rootB o n s kids.len = true) (hw : wellE kids = true) (kf : Nat) (nm : Txt) (DO : Bool) (hkf : S[kf]? = some ⟨nm, 1, DO⟩) (hsome : fieldOf S f = some ⟨nm, 1, DO⟩) (T : Int) (O : Bool) (hE : kindP S o s kids = (⟨T, O⟩, 0)) (hT : T ≠ 1) :
    Calls Tryd.prog 35 #[.agg #[.slice so S.length sc], stV 2 f xv (.slice to tn tc) (.slice eo en ec)] w fun e w' => e = .returned (.int .i64 91) ∧ Keeps (fun _ => False) w w' := by
  have hl8 := schema_8 hS
  obtain ⟨xo, xc, b, off, rfl, hcap, ha, hin⟩ := hx.open
  obtain ⟨rfl, _⟩ := ha (by simp [EL.len])
  obtain ⟨h1, h2, h3, h4, h5, ⟨kao, kcap, h6, h7, h8⟩, _⟩ := hin
  have hkid : SlE Z w b (.slice kao kids.len kcap) kids := ⟨kao, kcap, rfl, h7, h8⟩
  have hlen : (EL.cons o n s kids .nil).len = 1 := rfl
  rw [hlen] at hcap ⊢
  have hkl := get_lt hkf
  obtain ⟨fb, foff, fc, fe, hfb, hfc⟩ := FldsAt.cells hf (by omega)
  simp only [Value.slice.injEq] at fe
  obtain ⟨rfl, _, rfl⟩ := fe
  have g1 : ¬ (kf : Int) < 0 := by omega
  have g1' : decide ((kf : Int) < 0) = false := decide_eq_false g1
  have i1 : (kf : Int) < (S.length : Int) := by omega
  have i0 : (0 : Int) ≤ (kf : Int) := by omega
  obtain ⟨HX, hxb, hxc⟩ := boxedT w #[.slice (some ⟨fb, foff, none⟩) S.length sc] 24
  obtain ⟨HY, hyb, hyc⟩ := boxedT (w.alloc (.cells #[.slice (some ⟨fb, foff, none⟩) S.length sc] 24)) #[.int .i64 2, str f, .slice (some ⟨b, off, none⟩) 1 xc, .slice to tn tc, .slice eo en ec] 64
  rw [World.size_alloc] at hyc hyb
  have HK0 := hide ((unhide HX).trans (unhide HY))
  have SB : ∀ w', Keeps (fun _ => False) ((w.alloc (.cells #[.slice (some ⟨fb, foff, none⟩) S.length sc] 24)).alloc (.cells #[.int .i64 2, str f, .slice (some ⟨b, off, none⟩) 1 xc, .slice to tn tc, .slice eo en ec] 64)) w' → w'.cell? ⟨w.heap.size, 0, none⟩ = some (.slice (some ⟨fb, foff, none⟩) S.length sc) ∧ w'.cell? ⟨w.heap.size + 1, 0, none⟩ = some (.int .i64 2) ∧ w'.cell? ⟨w.heap.size + 1, 1, none⟩ = some (str f) ∧ w'.cell? ⟨w.heap.size + 1, 2, none⟩ = some (.slice (some ⟨b, off, none⟩) 1 xc) ∧ w'.cell? ⟨b, off, none⟩ = some (.int .i64 o) ∧ w'.cell? ⟨b, off + 1, none⟩ = some (.int .i64 n) ∧ w'.cell? ⟨b, off + 2, none⟩ = some (str s) ∧ w'.cell? ⟨b, off + 3, none⟩ = some (.slice kao kids.len kcap) ∧ w'.cell? ⟨fb, foff + kf * 3, none⟩ = some (str nm) ∧ w'.cell? ⟨fb, foff + kf * 3 + 1, none⟩ = some (.int .i64 1) ∧ w'.cell? ⟨fb, foff + kf * 3 + 2, none⟩ = some (.bool DO) := fun w' hk =>
    ⟨(((unhide HY).trans hk).cell hxb id).trans (hxc 0 _ rfl), (hk.cell hyb id).trans (hyc 0 _ rfl), (hk.cell hyb id).trans (hyc 1 _ rfl), (hk.cell hyb id).trans (hyc 2 _ rfl), (((unhide HK0).trans hk).cell h1 id).trans h3, (((unhide HK0).trans hk).cell h1 id).trans h4, (((unhide HK0).trans hk).cell h1 id).trans h5, (((unhide HK0).trans hk).cell h1 id).trans h6, (((unhide HK0).trans hk).cell hfb id).trans (hfc kf _ hkf).1, (((unhide HK0).trans hk).cell hfb id).trans (hfc kf _ hkf).2.1, (((unhide HK0).trans hk).cell hfb id).trans (hfc kf _ hkf).2.2⟩
  have y := SB _ (Keeps.refl _ _)
  have HSB := hide SB
  have HFI := hide (refField_at S hS (.slice (some ⟨fb, foff, none⟩) S.length sc) f _ (hf.keepF (unhide HK0)) hl8 kf _ hkf hsome)
  have HGO := fun w' (hk : Keeps (fun _ => False) w w') => hide (refKind_v Z S hS (some ⟨fb, foff, none⟩) sc (kids.size + 1) kids (by omega) o n s w' b (.slice kao kids.len kcap) (hkid.keepF hk) (hf.keepF hk) hro hw)
  rw [zeroK_ok hE] at HGO
  have n1 : (T != 1) = true := by simpa using hT
  clear hT
  clear hE
  clear hx hkid hf hxc hyc SB hro hw ha h2 h3 h4 h5 h6 h8 HX HY hfc hkf hsome
  go_enter Tryd.func35, Tryd.ntmps35
  go_wp2_with (go_at_call 53; refine (unhide HFI).mono ?_; rintro e w1 ⟨rfl, hk1⟩; have HKb := hide hk1; have y1 := unhide HSB _ hk1; have HK1 := hide ((unhide HK0).trans hk1); clear hk1)
  go_region_held3 (fun w' => w'.cell? ⟨w.heap.size, 0, none⟩ = some (.slice (some ⟨fb, foff, none⟩) S.length sc) ∧ w'.cell? ⟨w.heap.size + 1, 0, none⟩ = some (.int .i64 2) ∧ w'.cell? ⟨w.heap.size + 1, 1, none⟩ = some (str f) ∧ w'.cell? ⟨w.heap.size + 1, 2, none⟩ = some (.slice (some ⟨b, off, none⟩) 1 xc) ∧ w'.cell? ⟨b, off, none⟩ = some (.int .i64 o) ∧ w'.cell? ⟨b, off + 1, none⟩ = some (.int .i64 n) ∧ w'.cell? ⟨b, off + 2, none⟩ = some (str s) ∧ w'.cell? ⟨b, off + 3, none⟩ = some (.slice kao kids.len kcap) ∧ w'.cell? ⟨fb, foff + kf * 3, none⟩ = some (str nm) ∧ w'.cell? ⟨fb, foff + kf * 3 + 1, none⟩ = some (.int .i64 1) ∧ w'.cell? ⟨fb, foff + kf * 3 + 2, none⟩ = some (.bool DO))
    (first | with_reducible exact unhide HSB _ (unhide HKe) | with_reducible exact unhide HSB _ (unhide HKd) | with_reducible exact unhide HSB _ ((unhide HKd).alloc _) | with_reducible exact unhide HSB _ (unhide HKb).drew | with_reducible exact unhide HSB _ ((unhide HKb).alloc _).drew)
    ((go_at_call 54; first
      | ((with_reducible refine (unhide (HGO w1.drew (unhide HK1).drew)).mono ?_); rintro e w2 ⟨rfl, hk2⟩; have hkd := (Keeps.refl (fun _ => False) w1).drew.trans hk2; have HKd := hide ((unhide HKb).trans hkd); obtain ⟨HZ, hzb, hzc⟩ := boxedT w2 #[.int .i64 T, .bool O, .int .i64 0] 83; have c0 := hzc 0 (.int .i64 T) rfl; have c1 := hzc 1 (.bool O) rfl; have c2 := hzc 2 (.int .i64 0) rfl; have HKe := hide ((unhide HKd).trans (unhide HZ)); have yy := unhide HSB _ (unhide HKe); have HKF := hide (((unhide HK1).trans hkd).trans (unhide HZ)); clear hk2 hkd hzc)
      | ((with_reducible refine (unhide (HGO (w1.alloc (.cells #[.int .i64 0, .bool false, .int .i64 0] 83)).drew ((unhide HK1).alloc _).drew)).mono ?_); rintro e w2 ⟨rfl, hk2⟩; have hz := zero3_at hk2; have hkd := ((Keeps.refl (fun _ => False) w1).alloc (.cells #[.int .i64 0, .bool false, .int .i64 0] 83)).drew.trans hk2; have HKd := hide ((unhide HKb).trans hkd); have m0 : World.cell? _ _ = some (Value.int .i64 0) := cell_of_blk hz 0; have m1 : World.cell? _ _ = some (Value.bool false) := cell_of_blk hz 1; have m2 : World.cell? _ _ = some (Value.int .i64 0) := cell_of_blk hz 2; have f0 := frozen_of_blk hz 0; have f1 := frozen_of_blk hz 1; have f2 := frozen_of_blk hz 2; have hst := set3 hz rfl (.int .i64 T) (.bool O) (.int .i64 0); have hbs := (unhide HKb).size; have HKe : Hid (Keeps (fun _ => False) ((w.alloc (.cells #[.slice (some ⟨fb, foff, none⟩) S.length sc] 24)).alloc (.cells #[.int .i64 2, str f, .slice (some ⟨b, off, none⟩) 1 xc, .slice to tn tc, .slice eo en ec] 64)) (((w2.setCell ⟨w1.heap.size, 0, none⟩ (.int .i64 T)).setCell ⟨w1.heap.size, 1, none⟩ (.bool O)).setCell ⟨w1.heap.size, 2, none⟩ (.int .i64 0))) := (unhide HKd).narrow hst.2 (fun q e => by omega); have yy := unhide HSB _ (unhide HKe); have c0 := hst.1.1; have c1 := hst.1.2.1; have c2 := hst.1.2.2; have HKF : Hid (Keeps (fun _ => False) w (((w2.setCell ⟨w1.heap.size, 0, none⟩ (.int .i64 T)).setCell ⟨w1.heap.size, 1, none⟩ (.bool O)).setCell ⟨w1.heap.size, 2, none⟩ (.int .i64 0))) := (unhide HK0).trans (unhide HKe); clear hk2 hkd hz hst hbs)))
  all_goals go_wp2_with fail
  all_goals (go_ret; exact ⟨rfl, unhide HKF⟩)

set_option maxRecDepth 100000 in
set_option maxHeartbeats 8000000 in
theorem own2o (Z : Zone) (S : List FieldA) (hS : schemaB S = true) (so : Option Addr) (sc : Nat) (f : Txt) (o n : Int) (s : Txt) (kids : EL) (xv : Value) (up : Nat) (to eo : Option Addr) (tn tc en ec : Nat) (w : World) (hf : FldsAt w (.slice so S.length sc) S)
    (hx : SlE Z w up xv (.cons o n s kids .nil)) (hro : rootB o n s kids.len = true) (hw : wellE kids = true) (kf : Nat) (nm : Txt) (DO : Bool) (hkf : S[kf]? = some ⟨nm, 1, DO⟩) (hsome : fieldOf S f = some ⟨nm, 1, DO⟩) (hE : kindP S o s kids = (⟨1, true⟩, 0)) :
    Calls Tryd.prog 35 #[.agg #[.slice so S.length sc], stV 2 f xv (.slice to tn tc) (.slice eo en ec)] w fun e w' => e = .returned (.int .i64 92) ∧ Keeps (fun _ => False) w w' := by
  have hl8 := schema_8 hS
  obtain ⟨xo, xc, b, off, rfl, hcap, ha, hin⟩ := hx.open
  obtain ⟨rfl, _⟩ := ha (by simp [EL.len])
  obtain ⟨h1, h2, h3, h4, h5, ⟨kao, kcap, h6, h7, h8⟩, _⟩ := hin
  have hkid : SlE Z w b (.slice kao kids.len kcap) kids := ⟨kao, kcap, rfl, h7, h8⟩
  have hlen : (EL.cons o n s kids .nil).len = 1 := rfl
  rw [hlen] at hcap ⊢
  have hkl := get_lt hkf
  obtain ⟨fb, foff, fc, fe, hfb, hfc⟩ := FldsAt.cells hf (by omega)
  simp only [Value.slice.injEq] at fe
  obtain ⟨rfl, _, rfl⟩ := fe
  have g1 : ¬ (kf : Int) < 0 := by omega
  have g1' : decide ((kf : Int) < 0) = false := decide_eq_false g1
  have i1 : (kf : Int) < (S.length : Int) := by omega
  have i0 : (0 : Int) ≤ (kf : Int) := by omega
  obtain ⟨HX, hxb, hxc⟩ := boxedT w #[.slice (some ⟨fb, foff, none⟩) S.length sc] 24
  obtain ⟨HY, hyb, hyc⟩ := boxedT (w.alloc (.cells #[.slice (some ⟨fb, foff, none⟩) S.length sc] 24)) #[.int .i64 2, str f, .slice (some ⟨b, off, none⟩) 1 xc, .slice to tn tc, .slice eo en ec] 64
  rw [World.size_alloc] at hyc hyb
  have HK0 := hide ((unhide HX).trans (unhide HY))
  have SB : ∀ w', Keeps (fun _ => False) ((w.alloc (.cells #[.slice (some ⟨fb, foff, none⟩) S.length sc] 24)).alloc (.cells #[.int .i64 2, str f, .slice (some ⟨b, off, none⟩) 1 xc, .slice to tn tc, .slice eo en ec] 64)) w' → w'.cell? ⟨w.heap.size, 0, none⟩ = some (.slice (some ⟨fb, foff, none⟩) S.length sc) ∧ w'.cell? ⟨w.heap.size + 1, 0, none⟩ = some (.int .i64 2) ∧ w'.cell? ⟨w.heap.size + 1, 1, none⟩ = some (str f) ∧ w'.cell? ⟨w.heap.size + 1, 2, none⟩ = some (.slice (some ⟨b, off, none⟩) 1 xc) ∧ w'.cell? ⟨b, off, none⟩ = some (.int .i64 o) ∧ w'.cell? ⟨b, off + 1, none⟩ = some (.int .i64 n) ∧ w'.cell? ⟨b, off + 2, none⟩ = some (str s) ∧ w'.cell? ⟨b, off + 3, none⟩ = some (.slice kao kids.len kcap) ∧ w'.cell? ⟨fb, foff + kf * 3, none⟩ = some (str nm) ∧ w'.cell? ⟨fb, foff + kf * 3 + 1, none⟩ = some (.int .i64 1) ∧ w'.cell? ⟨fb, foff + kf * 3 + 2, none⟩ = some (.bool DO) := fun w' hk =>
    ⟨(((unhide HY).trans hk).cell hxb id).trans (hxc 0 _ rfl), (hk.cell hyb id).trans (hyc 0 _ rfl), (hk.cell hyb id).trans (hyc 1 _ rfl), (hk.cell hyb id).trans (hyc 2 _ rfl), (((unhide HK0).trans hk).cell h1 id).trans h3, (((unhide HK0).trans hk).cell h1 id).trans h4, (((unhide HK0).trans hk).cell h1 id).trans h5, (((unhide HK0).trans hk).cell h1 id).trans h6, (((unhide HK0).trans hk).cell hfb id).trans (hfc kf _ hkf).1, (((unhide HK0).trans hk).cell hfb id).trans (hfc kf _ hkf).2.1, (((unhide HK0).trans hk).cell hfb id).trans (hfc kf _ hkf).2.2⟩
  have y := SB _ (Keeps.refl _ _)
  have HSB := hide SB
  have HFI := hide (refField_at S hS (.slice (some ⟨fb, foff, none⟩) S.length sc) f _ (hf.keepF (unhide HK0)) hl8 kf _ hkf hsome)
  have HGO := fun w' (hk : Keeps (fun _ => False) w w') => hide (refKind_v Z S hS (some ⟨fb, foff, none⟩) sc (kids.size + 1) kids (by omega) o n s w' b (.slice kao kids.len kcap) (hkid.keepF hk) (hf.keepF hk) hro hw)
  rw [zeroK_ok hE] at HGO
  clear hE
  clear hx hkid hf hxc hyc SB hro hw ha h2 h3 h4 h5 h6 h8 HX HY hfc hkf hsome
  go_enter Tryd.func35, Tryd.ntmps35
  go_wp2_with (go_at_call 53; refine (unhide HFI).mono ?_; rintro e w1 ⟨rfl, hk1⟩; have HKb := hide hk1; have y1 := unhide HSB _ hk1; have HK1 := hide ((unhide HK0).trans hk1); clear hk1)
  go_region_held3 (fun w' => w'.cell? ⟨w.heap.size, 0, none⟩ = some (.slice (some ⟨fb, foff, none⟩) S.length sc) ∧ w'.cell? ⟨w.heap.size + 1, 0, none⟩ = some (.int .i64 2) ∧ w'.cell? ⟨w.heap.size + 1, 1, none⟩ = some (str f) ∧ w'.cell? ⟨w.heap.size + 1, 2, none⟩ = some (.slice (some ⟨b, off, none⟩) 1 xc) ∧ w'.cell? ⟨b, off, none⟩ = some (.int .i64 o) ∧ w'.cell? ⟨b, off + 1, none⟩ = some (.int .i64 n) ∧ w'.cell? ⟨b, off + 2, none⟩ = some (str s) ∧ w'.cell? ⟨b, off + 3, none⟩ = some (.slice kao kids.len kcap) ∧ w'.cell? ⟨fb, foff + kf * 3, none⟩ = some (str nm) ∧ w'.cell? ⟨fb, foff + kf * 3 + 1, none⟩ = some (.int .i64 1) ∧ w'.cell? ⟨fb, foff + kf * 3 + 2, none⟩ = some (.bool DO))
    (first | with_reducible exact unhide HSB _ (unhide HKe) | with_reducible exact unhide HSB _ (unhide HKd) | with_reducible exact unhide HSB _ ((unhide HKd).alloc _) | with_reducible exact unhide HSB _ (unhide HKb).drew | with_reducible exact unhide HSB _ ((unhide HKb).alloc _).drew)
    ((go_at_call 54; first
      | ((with_reducible refine (unhide (HGO w1.drew (unhide HK1).drew)).mono ?_); rintro e w2 ⟨rfl, hk2⟩; have hkd := (Keeps.refl (fun _ => False) w1).drew.trans hk2; have HKd := hide ((unhide HKb).trans hkd); obtain ⟨HZ, hzb, hzc⟩ := boxedT w2 #[.int .i64 1, .bool true, .int .i64 0] 83; have c0 := hzc 0 (.int .i64 1) rfl; have c1 := hzc 1 (.bool true) rfl; have c2 := hzc 2 (.int .i64 0) rfl; have HKe := hide ((unhide HKd).trans (unhide HZ)); have yy := unhide HSB _ (unhide HKe); have HKF := hide (((unhide HK1).trans hkd).trans (unhide HZ)); clear hk2 hkd hzc)
      | ((with_reducible refine (unhide (HGO (w1.alloc (.cells #[.int .i64 0, .bool false, .int .i64 0] 83)).drew ((unhide HK1).alloc _).drew)).mono ?_); rintro e w2 ⟨rfl, hk2⟩; have hz := zero3_at hk2; have hkd := ((Keeps.refl (fun _ => False) w1).alloc (.cells #[.int .i64 0, .bool false, .int .i64 0] 83)).drew.trans hk2; have HKd := hide ((unhide HKb).trans hkd); have m0 : World.cell? _ _ = some (Value.int .i64 0) := cell_of_blk hz 0; have m1 : World.cell? _ _ = some (Value.bool false) := cell_of_blk hz 1; have m2 : World.cell? _ _ = some (Value.int .i64 0) := cell_of_blk hz 2; have f0 := frozen_of_blk hz 0; have f1 := frozen_of_blk hz 1; have f2 := frozen_of_blk hz 2; have hst := set3 hz rfl (.int .i64 1) (.bool true) (.int .i64 0); have hbs := (unhide HKb).size; have HKe : Hid (Keeps (fun _ => False) ((w.alloc (.cells #[.slice (some ⟨fb, foff, none⟩) S.length sc] 24)).alloc (.cells #[.int .i64 2, str f, .slice (some ⟨b, off, none⟩) 1 xc, .slice to tn tc, .slice eo en ec] 64)) (((w2.setCell ⟨w1.heap.size, 0, none⟩ (.int .i64 1)).setCell ⟨w1.heap.size, 1, none⟩ (.bool true)).setCell ⟨w1.heap.size, 2, none⟩ (.int .i64 0))) := (unhide HKd).narrow hst.2 (fun q e => by omega); have yy := unhide HSB _ (unhide HKe); have c0 := hst.1.1; have c1 := hst.1.2.1; have c2 := hst.1.2.2; have HKF : Hid (Keeps (fun _ => False) w (((w2.setCell ⟨w1.heap.size, 0, none⟩ (.int .i64 1)).setCell ⟨w1.heap.size, 1, none⟩ (.bool true)).setCell ⟨w1.heap.size, 2, none⟩ (.int .i64 0))) := (unhide HK0).trans (unhide HKe); clear hk2 hkd hz hst hbs)))
  all_goals go_wp2_with fail
  all_goals (go_ret; exact ⟨rfl, unhide HKF⟩)

set_option maxRecDepth 100000 in
set_option maxHeartbeats 8000000 in
theorem own2z (Z : Zone) (S : List FieldA) (hS : schemaB S = true) (so : Option Addr) (sc : Nat) (f : Txt) (o n : Int) (s : Txt) (kids : EL) (xv : Value) (up : Nat) (to eo : Option Addr) (tn tc en ec : Nat) (w : World) (hf : FldsAt w (.slice so S.length sc) S)
    (hx : SlE Z w up xv (.cons o n s kids .nil)) (hro : rootB o n s kids.len = true) (hw : wellE kids = true) (kf : Nat) (nm : Txt) (DO : Bool) (hkf : S[kf]? = some ⟨nm, 1, DO⟩) (hsome : fieldOf S f = some ⟨nm, 1, DO⟩) (hE : kindP S o s kids = (⟨1, false⟩, 0)) :
    Calls Tryd.prog 35 #[.agg #[.slice so S.length sc], stV 2 f xv (.slice to tn tc) (.slice eo en ec)] w fun e w' => e = .returned (.int .i64 0) ∧ Keeps (fun _ => False) w w' := by
  have hl8 := schema_8 hS
  obtain ⟨xo, xc, b, off, rfl, hcap, ha, hin⟩ := hx.open
  obtain ⟨rfl, _⟩ := ha (by simp [EL.len])
  obtain ⟨h1, h2, h3, h4, h5, ⟨kao, kcap, h6, h7, h8⟩, _⟩ := hin
  have hkid : SlE Z w b (.slice kao kids.len kcap) kids := ⟨kao, kcap, rfl, h7, h8⟩
  have hlen : (EL.cons o n s kids .nil).len = 1 := rfl
  rw [hlen] at hcap ⊢
  have hkl := get_lt hkf
  obtain ⟨fb, foff, fc, fe, hfb, hfc⟩ := FldsAt.cells hf (by omega)
  simp only [Value.slice.injEq] at fe
  obtain ⟨rfl, _, rfl⟩ := fe
  have g1 : ¬ (kf : Int) < 0 := by omega
  have g1' : decide ((kf : Int) < 0) = false := decide_eq_false g1
  have i1 : (kf : Int) < (S.length : Int) := by omega
  have i0 : (0 : Int) ≤ (kf : Int) := by omega
  obtain ⟨HX, hxb, hxc⟩ := boxedT w #[.slice (some ⟨fb, foff, none⟩) S.length sc] 24
  obtain ⟨HY, hyb, hyc⟩ := boxedT (w.alloc (.cells #[.slice (some ⟨fb, foff, none⟩) S.length sc] 24)) #[.int .i64 2, str f, .slice (some ⟨b, off, none⟩) 1 xc, .slice to tn tc, .slice eo en ec] 64
  rw [World.size_alloc] at hyc hyb
  have HK0 := hide ((unhide HX).trans (unhide HY))
  have SB : ∀ w', Keeps (fun _ => False) ((w.alloc (.cells #[.slice (some ⟨fb, foff, none⟩) S.length sc] 24)).alloc (.cells #[.int .i64 2, str f, .slice (some ⟨b, off, none⟩) 1 xc, .slice to tn tc, .slice eo en ec] 64)) w' → w'.cell? ⟨w.heap.size, 0, none⟩ = some (.slice (some ⟨fb, foff, none⟩) S.length sc) ∧ w'.cell? ⟨w.heap.size + 1, 0, none⟩ = some (.int .i64 2) ∧ w'.cell? ⟨w.heap.size + 1, 1, none⟩ = some (str f) ∧ w'.cell? ⟨w.heap.size + 1, 2, none⟩ = some (.slice (some ⟨b, off, none⟩) 1 xc) ∧ w'.cell? ⟨b, off, none⟩ = some (.int .i64 o) ∧ w'.cell? ⟨b, off + 1, none⟩ = some (.int .i64 n) ∧ w'.cell? ⟨b, off + 2, none⟩ = some (str s) ∧ w'.cell? ⟨b, off + 3, none⟩ = some (.slice kao kids.len kcap) ∧ w'.cell? ⟨fb, foff + kf * 3, none⟩ = some (str nm) ∧ w'.cell? ⟨fb, foff + kf * 3 + 1, none⟩ = some (.int .i64 1) ∧ w'.cell? ⟨fb, foff + kf * 3 + 2, none⟩ = some (.bool DO) := fun w' hk =>
    ⟨(((unhide HY).trans hk).cell hxb id).trans (hxc 0 _ rfl), (hk.cell hyb id).trans (hyc 0 _ rfl), (hk.cell hyb id).trans (hyc 1 _ rfl), (hk.cell hyb id).trans (hyc 2 _ rfl), (((unhide HK0).trans hk).cell h1 id).trans h3, (((unhide HK0).trans hk).cell h1 id).trans h4, (((unhide HK0).trans hk).cell h1 id).trans h5, (((unhide HK0).trans hk).cell h1 id).trans h6, (((unhide HK0).trans hk).cell hfb id).trans (hfc kf _ hkf).1, (((unhide HK0).trans hk).cell hfb id).trans (hfc kf _ hkf).2.1, (((unhide HK0).trans hk).cell hfb id).trans (hfc kf _ hkf).2.2⟩
  have y := SB _ (Keeps.refl _ _)
  have HSB := hide SB
  have HFI := hide (refField_at S hS (.slice (some ⟨fb, foff, none⟩) S.length sc) f _ (hf.keepF (unhide HK0)) hl8 kf _ hkf hsome)
  have HGO := fun w' (hk : Keeps (fun _ => False) w w') => hide (refKind_v Z S hS (some ⟨fb, foff, none⟩) sc (kids.size + 1) kids (by omega) o n s w' b (.slice kao kids.len kcap) (hkid.keepF hk) (hf.keepF hk) hro hw)
  rw [zeroK_ok hE] at HGO
  clear hE
  clear hx hkid hf hxc hyc SB hro hw ha h2 h3 h4 h5 h6 h8 HX HY hfc hkf hsome
  go_enter Tryd.func35, Tryd.ntmps35
  go_wp2_with (go_at_call 53; refine (unhide HFI).mono ?_; rintro e w1 ⟨rfl, hk1⟩; have HKb := hide hk1; have y1 := unhide HSB _ hk1; have HK1 := hide ((unhide HK0).trans hk1); clear hk1)
  go_region_held3 (fun w' => w'.cell? ⟨w.heap.size, 0, none⟩ = some (.slice (some ⟨fb, foff, none⟩) S.length sc) ∧ w'.cell? ⟨w.heap.size + 1, 0, none⟩ = some (.int .i64 2) ∧ w'.cell? ⟨w.heap.size + 1, 1, none⟩ = some (str f) ∧ w'.cell? ⟨w.heap.size + 1, 2, none⟩ = some (.slice (some ⟨b, off, none⟩) 1 xc) ∧ w'.cell? ⟨b, off, none⟩ = some (.int .i64 o) ∧ w'.cell? ⟨b, off + 1, none⟩ = some (.int .i64 n) ∧ w'.cell? ⟨b, off + 2, none⟩ = some (str s) ∧ w'.cell? ⟨b, off + 3, none⟩ = some (.slice kao kids.len kcap) ∧ w'.cell? ⟨fb, foff + kf * 3, none⟩ = some (str nm) ∧ w'.cell? ⟨fb, foff + kf * 3 + 1, none⟩ = some (.int .i64 1) ∧ w'.cell? ⟨fb, foff + kf * 3 + 2, none⟩ = some (.bool DO))
    (first | with_reducible exact unhide HSB _ (unhide HKe) | with_reducible exact unhide HSB _ (unhide HKd) | with_reducible exact unhide HSB _ ((unhide HKd).alloc _) | with_reducible exact unhide HSB _ (unhide HKb).drew | with_reducible exact unhide HSB _ ((unhide HKb).alloc _).drew)
    ((go_at_call 54; first
      | ((with_reducible refine (unhide (HGO w1.drew (unhide HK1).drew)).mono ?_); rintro e w2 ⟨rfl, hk2⟩; have hkd := (Keeps.refl (fun _ => False) w1).drew.trans hk2; have HKd := hide ((unhide HKb).trans hkd); obtain ⟨HZ, hzb, hzc⟩ := boxedT w2 #[.int .i64 1, .bool false, .int .i64 0] 83; have c0 := hzc 0 (.int .i64 1) rfl; have c1 := hzc 1 (.bool false) rfl; have c2 := hzc 2 (.int .i64 0) rfl; have HKe := hide ((unhide HKd).trans (unhide HZ)); have yy := unhide HSB _ (unhide HKe); have HKF := hide (((unhide HK1).trans hkd).trans (unhide HZ)); clear hk2 hkd hzc)
      | ((with_reducible refine (unhide (HGO (w1.alloc (.cells #[.int .i64 0, .bool false, .int .i64 0] 83)).drew ((unhide HK1).alloc _).drew)).mono ?_); rintro e w2 ⟨rfl, hk2⟩; have hz := zero3_at hk2; have hkd := ((Keeps.refl (fun _ => False) w1).alloc (.cells #[.int .i64 0, .bool false, .int .i64 0] 83)).drew.trans hk2; have HKd := hide ((unhide HKb).trans hkd); have m0 : World.cell? _ _ = some (Value.int .i64 0) := cell_of_blk hz 0; have m1 : World.cell? _ _ = some (Value.bool false) := cell_of_blk hz 1; have m2 : World.cell? _ _ = some (Value.int .i64 0) := cell_of_blk hz 2; have f0 := frozen_of_blk hz 0; have f1 := frozen_of_blk hz 1; have f2 := frozen_of_blk hz 2; have hst := set3 hz rfl (.int .i64 1) (.bool false) (.int .i64 0); have hbs := (unhide HKb).size; have HKe : Hid (Keeps (fun _ => False) ((w.alloc (.cells #[.slice (some ⟨fb, foff, none⟩) S.length sc] 24)).alloc (.cells #[.int .i64 2, str f, .slice (some ⟨b, off, none⟩) 1 xc, .slice to tn tc, .slice eo en ec] 64)) (((w2.setCell ⟨w1.heap.size, 0, none⟩ (.int .i64 1)).setCell ⟨w1.heap.size, 1, none⟩ (.bool false)).setCell ⟨w1.heap.size, 2, none⟩ (.int .i64 0))) := (unhide HKd).narrow hst.2 (fun q e => by omega); have yy := unhide HSB _ (unhide HKe); have c0 := hst.1.1; have c1 := hst.1.2.1; have c2 := hst.1.2.2; have HKF : Hid (Keeps (fun _ => False) w (((w2.setCell ⟨w1.heap.size, 0, none⟩ (.int .i64 1)).setCell ⟨w1.heap.size, 1, none⟩ (.bool false)).setCell ⟨w1.heap.size, 2, none⟩ (.int .i64 0))) := (unhide HK0).trans (unhide HKe); clear hk2 hkd hz hst hbs)))
  all_goals go_wp2_with fail
  all_goals (go_ret; exact ⟨rfl, unhide HKF⟩)
end Go.Proofs.YtjhppnecadnekaaDoor
namespace Go.Proofs.YtjhppnecadnekaaDoor
open Go.RowKit Go.Maps

set_option maxRecDepth 100000 in
set_option maxHeartbeats 8000000 in
theorem own3e (Z : Zone) (S : List FieldA) (hS : schemaB S = true) (so : Option Addr) (sc : Nat) (f : Txt) (o n : Int) (s : Txt) (kids : EL) (xv : Value) (up : Nat) (to eo : Option Addr) (tn tc en ec : Nat) (w : World) (hf : FldsAt w (.slice so S.length sc) S)
    (hx : SlE Z w up xv (.cons o n s kids .nil)) (hro : rootB o n s kids.len = true) (hw : wellE kids = true) (kf : Nat) (nm : Txt) (DT : Int) (DO : Bool) (hkf : S[kf]? = some ⟨nm, DT, DO⟩) (hsome : fieldOf S f = some ⟨nm, DT, DO⟩) (E : Int) (hE : (kindP S o s kids).2 = E) (hE0 : E ≠ 0) :
    Calls Tryd.prog 35 #[.agg #[.slice so S.length sc], stV 3 f xv (.slice to tn tc) (.slice eo en ec)] w fun e w' => e = .returned (.int .i64 E) ∧ Keeps (fun _ => False) w w' := by
  have hl8 := schema_8 hS
  obtain ⟨xo, xc, b, off, rfl, hcap, ha, hin⟩ := hx.open
  obtain ⟨rfl, _⟩ := ha (by simp [EL.len])
  obtain ⟨h1, h2, h3, h4, h5, ⟨kao, kcap, h6, h7, h8⟩, _⟩ := hin
  have hkid : SlE Z w b (.slice kao kids.len kcap) kids := ⟨kao, kcap, rfl, h7, h8⟩
  have hlen : (EL.cons o n s kids .nil).len = 1 := rfl
  rw [hlen] at hcap ⊢
  have hkl := get_lt hkf
  obtain ⟨fb, foff, fc, fe, hfb, hfc⟩ := FldsAt.cells hf (by omega)
  simp only [Value.slice.injEq] at fe
  obtain ⟨rfl, _, rfl⟩ := fe
  have g1 : ¬ (kf : Int) < 0 := by omega
  have g1' : decide ((kf : Int) < 0) = false := decide_eq_false g1
  have i1 : (kf : Int) < (S.length : Int) := by omega
  have i0 : (0 : Int) ≤ (kf : Int) := by omega
  obtain ⟨HX, hxb, hxc⟩ := boxedT w #[.slice (some ⟨fb, foff, none⟩) S.length sc] 24
  obtain ⟨HY, hyb, hyc⟩ := boxedT (w.alloc (.cells #[.slice (some ⟨fb, foff, none⟩) S.length sc] 24)) #[.int .i64 3, str f, .slice (some ⟨b, off, none⟩) 1 xc, .slice to tn tc, .slice eo en ec] 64
  rw [World.size_alloc] at hyc hyb
  have HK0 := hide ((unhide HX).trans (unhide HY))
  have SB : ∀ w', Keeps (fun _ => False) ((w.alloc (.cells #[.slice (some ⟨fb, foff, none⟩) S.length sc] 24)).alloc (.cells #[.int .i64 3, str f, .slice (some ⟨b, off, none⟩) 1 xc, .slice to tn tc, .slice eo en ec] 64)) w' → w'.cell? ⟨w.heap.size, 0, none⟩ = some (.slice (some ⟨fb, foff, none⟩) S.length sc) ∧ w'.cell? ⟨w.heap.size + 1, 0, none⟩ = some (.int .i64 3) ∧ w'.cell? ⟨w.heap.size + 1, 1, none⟩ = some (str f) ∧ w'.cell? ⟨w.heap.size + 1, 2, none⟩ = some (.slice (some ⟨b, off, none⟩) 1 xc) ∧ w'.cell? ⟨b, off, none⟩ = some (.int .i64 o) ∧ w'.cell? ⟨b, off + 1, none⟩ = some (.int .i64 n) ∧ w'.cell? ⟨b, off + 2, none⟩ = some (str s) ∧ w'.cell? ⟨b, off + 3, none⟩ = some (.slice kao kids.len kcap) ∧ w'.cell? ⟨fb, foff + kf * 3, none⟩ = some (str nm) ∧ w'.cell? ⟨fb, foff + kf * 3 + 1, none⟩ = some (.int .i64 DT) ∧ w'.cell? ⟨fb, foff + kf * 3 + 2, none⟩ = some (.bool DO) := fun w' hk =>
    ⟨(((unhide HY).trans hk).cell hxb id).trans (hxc 0 _ rfl), (hk.cell hyb id).trans (hyc 0 _ rfl), (hk.cell hyb id).trans (hyc 1 _ rfl), (hk.cell hyb id).trans (hyc 2 _ rfl), (((unhide HK0).trans hk).cell h1 id).trans h3, (((unhide HK0).trans hk).cell h1 id).trans h4, (((unhide HK0).trans hk).cell h1 id).trans h5, (((unhide HK0).trans hk).cell h1 id).trans h6, (((unhide HK0).trans hk).cell hfb id).trans (hfc kf _ hkf).1, (((unhide HK0).trans hk).cell hfb id).trans (hfc kf _ hkf).2.1, (((unhide HK0).trans hk).cell hfb id).trans (hfc kf _ hkf).2.2⟩
  have y := SB _ (Keeps.refl _ _)
  have HSB := hide SB
  have HFI := hide (refField_at S hS (.slice (some ⟨fb, foff, none⟩) S.length sc) f _ (hf.keepF (unhide HK0)) hl8 kf _ hkf hsome)
  have HGO := fun w' (hk : Keeps (fun _ => False) w w') => hide (refKind_v Z S hS (some ⟨fb, foff, none⟩) sc (kids.size + 1) kids (by omega) o n s w' b (.slice kao kids.len kcap) (hkid.keepF hk) (hf.keepF hk) hro hw)
  rw [zeroK_err hE hE0] at HGO
  have n0 : (E != 0) = true := by simpa using hE0
  clear hE hE0
  clear hx hkid hf hxc hyc SB hro hw ha h2 h3 h4 h5 h6 h8 HX HY hfc hkf hsome
  go_enter Tryd.func35, Tryd.ntmps35
  go_wp2_with (go_at_call 53; refine (unhide HFI).mono ?_; rintro e w1 ⟨rfl, hk1⟩; have HKb := hide hk1; have y1 := unhide HSB _ hk1; have HK1 := hide ((unhide HK0).trans hk1); clear hk1)
  go_region_held3 (fun w' => w'.cell? ⟨w.heap.size, 0, none⟩ = some (.slice (some ⟨fb, foff, none⟩) S.length sc) ∧ w'.cell? ⟨w.heap.size + 1, 0, none⟩ = some (.int .i64 3) ∧ w'.cell? ⟨w.heap.size + 1, 1, none⟩ = some (str f) ∧ w'.cell? ⟨w.heap.size + 1, 2, none⟩ = some (.slice (some ⟨b, off, none⟩) 1 xc) ∧ w'.cell? ⟨b, off, none⟩ = some (.int .i64 o) ∧ w'.cell? ⟨b, off + 1, none⟩ = some (.int .i64 n) ∧ w'.cell? ⟨b, off + 2, none⟩ = some (str s) ∧ w'.cell? ⟨b, off + 3, none⟩ = some (.slice kao kids.len kcap) ∧ w'.cell? ⟨fb, foff + kf * 3, none⟩ = some (str nm) ∧ w'.cell? ⟨fb, foff + kf * 3 + 1, none⟩ = some (.int .i64 DT) ∧ w'.cell? ⟨fb, foff + kf * 3 + 2, none⟩ = some (.bool DO))
    (first | with_reducible exact unhide HSB _ (unhide HKe) | with_reducible exact unhide HSB _ (unhide HKd) | with_reducible exact unhide HSB _ ((unhide HKd).alloc _) | with_reducible exact unhide HSB _ (unhide HKb).drew | with_reducible exact unhide HSB _ ((unhide HKb).alloc _).drew)
    ((go_at_call 54; first
      | ((with_reducible refine (unhide (HGO w1.drew (unhide HK1).drew)).mono ?_); rintro e w2 ⟨rfl, hk2⟩; have hkd := (Keeps.refl (fun _ => False) w1).drew.trans hk2; have HKd := hide ((unhide HKb).trans hkd); obtain ⟨HZ, hzb, hzc⟩ := boxedT w2 #[.int .i64 0, .bool false, .int .i64 E] 83; have c0 := hzc 0 (.int .i64 0) rfl; have c1 := hzc 1 (.bool false) rfl; have c2 := hzc 2 (.int .i64 E) rfl; have HKe := hide ((unhide HKd).trans (unhide HZ)); have yy := unhide HSB _ (unhide HKe); have HKF := hide (((unhide HK1).trans hkd).trans (unhide HZ)); clear hk2 hkd hzc)
      | ((with_reducible refine (unhide (HGO (w1.alloc (.cells #[.int .i64 0, .bool false, .int .i64 0] 83)).drew ((unhide HK1).alloc _).drew)).mono ?_); rintro e w2 ⟨rfl, hk2⟩; have hz := zero3_at hk2; have hkd := ((Keeps.refl (fun _ => False) w1).alloc (.cells #[.int .i64 0, .bool false, .int .i64 0] 83)).drew.trans hk2; have HKd := hide ((unhide HKb).trans hkd); have m0 : World.cell? _ _ = some (Value.int .i64 0) := cell_of_blk hz 0; have m1 : World.cell? _ _ = some (Value.bool false) := cell_of_blk hz 1; have m2 : World.cell? _ _ = some (Value.int .i64 0) := cell_of_blk hz 2; have f0 := frozen_of_blk hz 0; have f1 := frozen_of_blk hz 1; have f2 := frozen_of_blk hz 2; have hst := set3 hz rfl (.int .i64 0) (.bool false) (.int .i64 E); have hbs := (unhide HKb).size; have HKe : Hid (Keeps (fun _ => False) ((w.alloc (.cells #[.slice (some ⟨fb, foff, none⟩) S.length sc] 24)).alloc (.cells #[.int .i64 3, str f, .slice (some ⟨b, off, none⟩) 1 xc, .slice to tn tc, .slice eo en ec] 64)) (((w2.setCell ⟨w1.heap.size, 0, none⟩ (.int .i64 0)).setCell ⟨w1.heap.size, 1, none⟩ (.bool false)).setCell ⟨w1.heap.size, 2, none⟩ (.int .i64 E))) := (unhide HKd).narrow hst.2 (fun q e => by omega); have yy := unhide HSB _ (unhide HKe); have c0 := hst.1.1; have c1 := hst.1.2.1; have c2 := hst.1.2.2; have HKF : Hid (Keeps (fun _ => False) w (((w2.setCell ⟨w1.heap.size, 0, none⟩ (.int .i64 0)).setCell ⟨w1.heap.size, 1, none⟩ (.bool false)).setCell ⟨w1.heap.size, 2, none⟩ (.int .i64 E))) := (unhide HK0).trans (unhide HKe); clear hk2 hkd hz hst hbs)))
  all_goals go_wp2_with fail
  all_goals (go_ret; exact ⟨rfl, unhide HKF⟩)

set_option maxRecDepth 100000 in
set_option maxHeartbeats 8000000 in
theorem own3f (Z : Zone) (S : List FieldA) (hS : schemaB S = true) (so : Option Addr) (sc : Nat) (f : Txt) (o n : Int) (s : Txt) (kids : EL) (xv : Value) (up : Nat) (to eo : Option Addr) (tn tc en ec : Nat) (w : World) (hf : FldsAt w (.slice so S.length sc) S)
    (hx : SlE Z w up xv (.cons o n s kids .nil)) (hro : rootB o n s kids.len = true) (hw : wellE kids = true) (kf : Nat) (nm : Txt) (DT : Int) (DO : Bool) (hkf : S[kf]? = some ⟨nm, DT, DO⟩) (hsome : fieldOf S f = some ⟨nm, DT, DO⟩) (T : Int) (O : Bool) (hE : kindP S o s kids = (⟨T, O⟩, 0)) (hT : DT ≠ 1) :
    Calls Tryd.prog 35 #[.agg #[.slice so S.length sc], stV 3 f xv (.slice to tn tc) (.slice eo en ec)] w fun e w' => e = .returned (.int .i64 91) ∧ Keeps (fun _ => False) w w' := by
  have hl8 := schema_8 hS
  obtain ⟨xo, xc, b, off, rfl, hcap, ha, hin⟩ := hx.open
  obtain ⟨rfl, _⟩ := ha (by simp [EL.len])
  obtain ⟨h1, h2, h3, h4, h5, ⟨kao, kcap, h6, h7, h8⟩, _⟩ := hin
  have hkid : SlE Z w b (.slice kao kids.len kcap) kids := ⟨kao, kcap, rfl, h7, h8⟩
  have hlen : (EL.cons o n s kids .nil).len = 1 := rfl
  rw [hlen] at hcap ⊢
  have hkl := get_lt hkf
  obtain ⟨fb, foff, fc, fe, hfb, hfc⟩ := FldsAt.cells hf (by omega)
  simp only [Value.slice.injEq] at fe
  obtain ⟨rfl, _, rfl⟩ := fe
  have g1 : ¬ (kf : Int) < 0 := by omega
  have g1' : decide ((kf : Int) < 0) = false := decide_eq_false g1
  have i1 : (kf : Int) < (S.length : Int) := by omega
  have i0 : (0 : Int) ≤ (kf : Int) := by omega
  obtain ⟨HX, hxb, hxc⟩ := boxedT w #[.slice (some ⟨fb, foff, none⟩) S.length sc] 24
  obtain ⟨HY, hyb, hyc⟩ := boxedT (w.alloc (.cells #[.slice (some ⟨fb, foff, none⟩) S.length sc] 24)) #[.int .i64 3, str f, .slice (some ⟨b, off, none⟩) 1 xc, .slice to tn tc, .slice eo en ec] 64
  rw [World.size_alloc] at hyc hyb
  have HK0 := hide ((unhide HX).trans (unhide HY))
  have SB : ∀ w', Keeps (fun _ => False) ((w.alloc (.cells #[.slice (some ⟨fb, foff, none⟩) S.length sc] 24)).alloc (.cells #[.int .i64 3, str f, .slice (some ⟨b, off, none⟩) 1 xc, .slice to tn tc, .slice eo en ec] 64)) w' → w'.cell? ⟨w.heap.size, 0, none⟩ = some (.slice (some ⟨fb, foff, none⟩) S.length sc) ∧ w'.cell? ⟨w.heap.size + 1, 0, none⟩ = some (.int .i64 3) ∧ w'.cell? ⟨w.heap.size + 1, 1, none⟩ = some (str f) ∧ w'.cell? ⟨w.heap.size + 1, 2, none⟩ = some (.slice (some ⟨b, off, none⟩) 1 xc) ∧ w'.cell? ⟨b, off, none⟩ = some (.int .i64 o) ∧ w'.cell? ⟨b, off + 1, none⟩ = some (.int .i64 n) ∧ w'.cell? ⟨b, off + 2, none⟩ = some (str s) ∧ w'.cell? ⟨b, off + 3, none⟩ = some (.slice kao kids.len kcap) ∧ w'.cell? ⟨fb, foff + kf * 3, none⟩ = some (str nm) ∧ w'.cell? ⟨fb, foff + kf * 3 + 1, none⟩ = some (.int .i64 DT) ∧ w'.cell? ⟨fb, foff + kf * 3 + 2, none⟩ = some (.bool DO) := fun w' hk =>
    ⟨(((unhide HY).trans hk).cell hxb id).trans (hxc 0 _ rfl), (hk.cell hyb id).trans (hyc 0 _ rfl), (hk.cell hyb id).trans (hyc 1 _ rfl), (hk.cell hyb id).trans (hyc 2 _ rfl), (((unhide HK0).trans hk).cell h1 id).trans h3, (((unhide HK0).trans hk).cell h1 id).trans h4, (((unhide HK0).trans hk).cell h1 id).trans h5, (((unhide HK0).trans hk).cell h1 id).trans h6, (((unhide HK0).trans hk).cell hfb id).trans (hfc kf _ hkf).1, (((unhide HK0).trans hk).cell hfb id).trans (hfc kf _ hkf).2.1, (((unhide HK0).trans hk).cell hfb id).trans (hfc kf _ hkf).2.2⟩
  have y := SB _ (Keeps.refl _ _)
  have HSB := hide SB
  have HFI := hide (refField_at S hS (.slice (some ⟨fb, foff, none⟩) S.length sc) f _ (hf.keepF (unhide HK0)) hl8 kf _ hkf hsome)
  have HGO := fun w' (hk : Keeps (fun _ => False) w w') => hide (refKind_v Z S hS (some ⟨fb, foff, none⟩) sc (kids.size + 1) kids (by omega) o n s w' b (.slice kao kids.len kcap) (hkid.keepF hk) (hf.keepF hk) hro hw)
  rw [zeroK_ok hE] at HGO
  have n1 : (DT != 1) = true := by simpa using hT
  clear hT
  clear hE
  clear hx hkid hf hxc hyc SB hro hw ha h2 h3 h4 h5 h6 h8 HX HY hfc hkf hsome
  go_enter Tryd.func35, Tryd.ntmps35
  go_wp2_with (go_at_call 53; refine (unhide HFI).mono ?_; rintro e w1 ⟨rfl, hk1⟩; have HKb := hide hk1; have y1 := unhide HSB _ hk1; have HK1 := hide ((unhide HK0).trans hk1); clear hk1)
  go_region_held3 (fun w' => w'.cell? ⟨w.heap.size, 0, none⟩ = some (.slice (some ⟨fb, foff, none⟩) S.length sc) ∧ w'.cell? ⟨w.heap.size + 1, 0, none⟩ = some (.int .i64 3) ∧ w'.cell? ⟨w.heap.size + 1, 1, none⟩ = some (str f) ∧ w'.cell? ⟨w.heap.size + 1, 2, none⟩ = some (.slice (some ⟨b, off, none⟩) 1 xc) ∧ w'.cell? ⟨b, off, none⟩ = some (.int .i64 o) ∧ w'.cell? ⟨b, off + 1, none⟩ = some (.int .i64 n) ∧ w'.cell? ⟨b, off + 2, none⟩ = some (str s) ∧ w'.cell? ⟨b, off + 3, none⟩ = some (.slice kao kids.len kcap) ∧ w'.cell? ⟨fb, foff + kf * 3, none⟩ = some (str nm) ∧ w'.cell? ⟨fb, foff + kf * 3 + 1, none⟩ = some (.int .i64 DT) ∧ w'.cell? ⟨fb, foff + kf * 3 + 2, none⟩ = some (.bool DO))
    (first | with_reducible exact unhide HSB _ (unhide HKe) | with_reducible exact unhide HSB _ (unhide HKd) | with_reducible exact unhide HSB _ ((unhide HKd).alloc _) | with_reducible exact unhide HSB _ (unhide HKb).drew | with_reducible exact unhide HSB _ ((unhide HKb).alloc _).drew)
    ((go_at_call 54; first
      | ((with_reducible refine (unhide (HGO w1.drew (unhide HK1).drew)).mono ?_); rintro e w2 ⟨rfl, hk2⟩; have hkd := (Keeps.refl (fun _ => False) w1).drew.trans hk2; have HKd := hide ((unhide HKb).trans hkd); obtain ⟨HZ, hzb, hzc⟩ := boxedT w2 #[.int .i64 T, .bool O, .int .i64 0] 83; have c0 := hzc 0 (.int .i64 T) rfl; have c1 := hzc 1 (.bool O) rfl; have c2 := hzc 2 (.int .i64 0) rfl; have HKe := hide ((unhide HKd).trans (unhide HZ)); have yy := unhide HSB _ (unhide HKe); have HKF := hide (((unhide HK1).trans hkd).trans (unhide HZ)); clear hk2 hkd hzc)
      | ((with_reducible refine (unhide (HGO (w1.alloc (.cells #[.int .i64 0, .bool false, .int .i64 0] 83)).drew ((unhide HK1).alloc _).drew)).mono ?_); rintro e w2 ⟨rfl, hk2⟩; have hz := zero3_at hk2; have hkd := ((Keeps.refl (fun _ => False) w1).alloc (.cells #[.int .i64 0, .bool false, .int .i64 0] 83)).drew.trans hk2; have HKd := hide ((unhide HKb).trans hkd); have m0 : World.cell? _ _ = some (Value.int .i64 0) := cell_of_blk hz 0; have m1 : World.cell? _ _ = some (Value.bool false) := cell_of_blk hz 1; have m2 : World.cell? _ _ = some (Value.int .i64 0) := cell_of_blk hz 2; have f0 := frozen_of_blk hz 0; have f1 := frozen_of_blk hz 1; have f2 := frozen_of_blk hz 2; have hst := set3 hz rfl (.int .i64 T) (.bool O) (.int .i64 0); have hbs := (unhide HKb).size; have HKe : Hid (Keeps (fun _ => False) ((w.alloc (.cells #[.slice (some ⟨fb, foff, none⟩) S.length sc] 24)).alloc (.cells #[.int .i64 3, str f, .slice (some ⟨b, off, none⟩) 1 xc, .slice to tn tc, .slice eo en ec] 64)) (((w2.setCell ⟨w1.heap.size, 0, none⟩ (.int .i64 T)).setCell ⟨w1.heap.size, 1, none⟩ (.bool O)).setCell ⟨w1.heap.size, 2, none⟩ (.int .i64 0))) := (unhide HKd).narrow hst.2 (fun q e => by omega); have yy := unhide HSB _ (unhide HKe); have c0 := hst.1.1; have c1 := hst.1.2.1; have c2 := hst.1.2.2; have HKF : Hid (Keeps (fun _ => False) w (((w2.setCell ⟨w1.heap.size, 0, none⟩ (.int .i64 T)).setCell ⟨w1.heap.size, 1, none⟩ (.bool O)).setCell ⟨w1.heap.size, 2, none⟩ (.int .i64 0))) := (unhide HK0).trans (unhide HKe); clear hk2 hkd hz hst hbs)))
  all_goals go_wp2_with fail
  all_goals (go_ret; exact ⟨rfl, unhide HKF⟩)

set_option maxRecDepth 100000 in
set_option maxHeartbeats 8000000 in
theorem own3t (Z : Zone) (S : List FieldA) (hS : schemaB S = true) (so : Option Addr) (sc : Nat) (f : Txt) (o n : Int) (s : Txt) (kids : EL) (xv : Value) (up : Nat) (to eo : Option Addr) (tn tc en ec : Nat) (w : World) (hf : FldsAt w (.slice so S.length sc) S)
    (hx : SlE Z w up xv (.cons o n s kids .nil)) (hro : rootB o n s kids.len = true) (hw : wellE kids = true) (kf : Nat) (nm : Txt) (DO : Bool) (hkf : S[kf]? = some ⟨nm, 1, DO⟩) (hsome : fieldOf S f = some ⟨nm, 1, DO⟩) (T : Int) (O : Bool) (hE : kindP S o s kids = (⟨T, O⟩, 0)) (hT : T ≠ 1) :
    Calls Tryd.prog 35 #[.agg #[.slice so S.length sc], stV 3 f xv (.slice to tn tc) (.slice eo en ec)] w fun e w' => e = .returned (.int .i64 91) ∧ Keeps (fun _ => False) w w' := by
  have hl8 := schema_8 hS
  obtain ⟨xo, xc, b, off, rfl, hcap, ha, hin⟩ := hx.open
  obtain ⟨rfl, _⟩ := ha (by simp [EL.len])
  obtain ⟨h1, h2, h3, h4, h5, ⟨kao, kcap, h6, h7, h8⟩, _⟩ := hin
  have hkid : SlE Z w b (.slice kao kids.len kcap) kids := ⟨kao, kcap, rfl, h7, h8⟩
  have hlen : (EL.cons o n s kids .nil).len = 1 := rfl
  rw [hlen] at hcap ⊢
  have hkl := get_lt hkf
  obtain ⟨fb, foff, fc, fe, hfb, hfc⟩ := FldsAt.cells hf (by omega)
  simp only [Value.slice.injEq] at fe
  obtain ⟨rfl, _, rfl⟩ := fe
  have g1 : ¬ (kf : Int) < 0 := by omega
  have g1' : decide ((kf : Int) < 0) = false := decide_eq_false g1
  have i1 : (kf : Int) < (S.length : Int) := by omega
  have i0 : (0 : Int) ≤ (kf : Int) := by omega
  obtain ⟨HX, hxb, hxc⟩ := boxedT w #[.slice (some ⟨fb, foff, none⟩) S.length sc] 24
  obtain ⟨HY, hyb, hyc⟩ := boxedT (w.alloc (.cells #[.slice (some ⟨fb, foff, none⟩) S.length sc] 24)) #[.int .i64 3, str f, .slice (some ⟨b, off, none⟩) 1 xc, .slice to tn tc, .slice eo en ec] 64
  rw [World.size_alloc] at hyc hyb
  have HK0 := hide ((unhide HX).trans (unhide HY))
  have SB : ∀ w', Keeps (fun _ => False) ((w.alloc (.cells #[.slice (some ⟨fb, foff, none⟩) S.length sc] 24)).alloc (.cells #[.int .i64 3, str f, .slice (some ⟨b, off, none⟩) 1 xc, .slice to tn tc, .slice eo en ec] 64)) w' → w'.cell? ⟨w.heap.size, 0, none⟩ = some (.slice (some ⟨fb, foff, none⟩) S.length sc) ∧ w'.cell? ⟨w.heap.size + 1, 0, none⟩ = some (.int .i64 3) ∧ w'.cell? ⟨w.heap.size + 1, 1, none⟩ = some (str f) ∧ w'.cell? ⟨w.heap.size + 1, 2, none⟩ = some (.slice (some ⟨b, off, none⟩) 1 xc) ∧ w'.cell? ⟨b, off, none⟩ = some (.int .i64 o) ∧ w'.cell? ⟨b, off + 1, none⟩ = some (.int .i64 n) ∧ w'.cell? ⟨b, off + 2, none⟩ = some (str s) ∧ w'.cell? ⟨b, off + 3, none⟩ = some (.slice kao kids.len kcap) ∧ w'.cell? ⟨fb, foff + kf * 3, none⟩ = some (str nm) ∧ w'.cell? ⟨fb, foff + kf * 3 + 1, none⟩ = some (.int .i64 1) ∧ w'.cell? ⟨fb, foff + kf * 3 + 2, none⟩ = some (.bool DO) := fun w' hk =>
    ⟨(((unhide HY).trans hk).cell hxb id).trans (hxc 0 _ rfl), (hk.cell hyb id).trans (hyc 0 _ rfl), (hk.cell hyb id).trans (hyc 1 _ rfl), (hk.cell hyb id).trans (hyc 2 _ rfl), (((unhide HK0).trans hk).cell h1 id).trans h3, (((unhide HK0).trans hk).cell h1 id).trans h4, (((unhide HK0).trans hk).cell h1 id).trans h5, (((unhide HK0).trans hk).cell h1 id).trans h6, (((unhide HK0).trans hk).cell hfb id).trans (hfc kf _ hkf).1, (((unhide HK0).trans hk).cell hfb id).trans (hfc kf _ hkf).2.1, (((unhide HK0).trans hk).cell hfb id).trans (hfc kf _ hkf).2.2⟩
  have y := SB _ (Keeps.refl _ _)
  have HSB := hide SB
  have HFI := hide (refField_at S hS (.slice (some ⟨fb, foff, none⟩) S.length sc) f _ (hf.keepF (unhide HK0)) hl8 kf _ hkf hsome)
  have HGO := fun w' (hk : Keeps (fun _ => False) w w') => hide (refKind_v Z S hS (some ⟨fb, foff, none⟩) sc (kids.size + 1) kids (by omega) o n s w' b (.slice kao kids.len kcap) (hkid.keepF hk) (hf.keepF hk) hro hw)
  rw [zeroK_ok hE] at HGO
  have n1 : (T != 1) = true := by simpa using hT
  clear hT
  clear hE
  clear hx hkid hf hxc hyc SB hro hw ha h2 h3 h4 h5 h6 h8 HX HY hfc hkf hsome
  go_enter Tryd.func35, Tryd.ntmps35
  go_wp2_with (go_at_call 53; refine (unhide HFI).mono ?_; rintro e w1 ⟨rfl, hk1⟩; have HKb := hide hk1; have y1 := unhide HSB _ hk1; have HK1 := hide ((unhide HK0).trans hk1); clear hk1)
  go_region_held3 (fun w' => w'.cell? ⟨w.heap.size, 0, none⟩ = some (.slice (some ⟨fb, foff, none⟩) S.length sc) ∧ w'.cell? ⟨w.heap.size + 1, 0, none⟩ = some (.int .i64 3) ∧ w'.cell? ⟨w.heap.size + 1, 1, none⟩ = some (str f) ∧ w'.cell? ⟨w.heap.size + 1, 2, none⟩ = some (.slice (some ⟨b, off, none⟩) 1 xc) ∧ w'.cell? ⟨b, off, none⟩ = some (.int .i64 o) ∧ w'.cell? ⟨b, off + 1, none⟩ = some (.int .i64 n) ∧ w'.cell? ⟨b, off + 2, none⟩ = some (str s) ∧ w'.cell? ⟨b, off + 3, none⟩ = some (.slice kao kids.len kcap) ∧ w'.cell? ⟨fb, foff + kf * 3, none⟩ = some (str nm) ∧ w'.cell? ⟨fb, foff + kf * 3 + 1, none⟩ = some (.int .i64 1) ∧ w'.cell? ⟨fb, foff + kf * 3 + 2, none⟩ = some (.bool DO))
    (first | with_reducible exact unhide HSB _ (unhide HKe) | with_reducible exact unhide HSB _ (unhide HKd) | with_reducible exact unhide HSB _ ((unhide HKd).alloc _) | with_reducible exact unhide HSB _ (unhide HKb).drew | with_reducible exact unhide HSB _ ((unhide HKb).alloc _).drew)
    ((go_at_call 54; first
      | ((with_reducible refine (unhide (HGO w1.drew (unhide HK1).drew)).mono ?_); rintro e w2 ⟨rfl, hk2⟩; have hkd := (Keeps.refl (fun _ => False) w1).drew.trans hk2; have HKd := hide ((unhide HKb).trans hkd); obtain ⟨HZ, hzb, hzc⟩ := boxedT w2 #[.int .i64 T, .bool O, .int .i64 0] 83; have c0 := hzc 0 (.int .i64 T) rfl; have c1 := hzc 1 (.bool O) rfl; have c2 := hzc 2 (.int .i64 0) rfl; have HKe := hide ((unhide HKd).trans (unhide HZ)); have yy := unhide HSB _ (unhide HKe); have HKF := hide (((unhide HK1).trans hkd).trans (unhide HZ)); clear hk2 hkd hzc)
      | ((with_reducible refine (unhide (HGO (w1.alloc (.cells #[.int .i64 0, .bool false, .int .i64 0] 83)).drew ((unhide HK1).alloc _).drew)).mono ?_); rintro e w2 ⟨rfl, hk2⟩; have hz := zero3_at hk2; have hkd := ((Keeps.refl (fun _ => False) w1).alloc (.cells #[.int .i64 0, .bool false, .int .i64 0] 83)).drew.trans hk2; have HKd := hide ((unhide HKb).trans hkd); have m0 : World.cell? _ _ = some (Value.int .i64 0) := cell_of_blk hz 0; have m1 : World.cell? _ _ = some (Value.bool false) := cell_of_blk hz 1; have m2 : World.cell? _ _ = some (Value.int .i64 0) := cell_of_blk hz 2; have f0 := frozen_of_blk hz 0; have f1 := frozen_of_blk hz 1; have f2 := frozen_of_blk hz 2; have hst := set3 hz rfl (.int .i64 T) (.bool O) (.int .i64 0); have hbs := (unhide HKb).size; have HKe : Hid (Keeps (fun _ => False) ((w.alloc (.cells #[.slice (some ⟨fb, foff, none⟩) S.length sc] 24)).alloc (.cells #[.int .i64 3, str f, .slice (some ⟨b, off, none⟩) 1 xc, .slice to tn tc, .slice eo en ec] 64)) (((w2.setCell ⟨w1.heap.size, 0, none⟩ (.int .i64 T)).setCell ⟨w1.heap.size, 1, none⟩ (.bool O)).setCell ⟨w1.heap.size, 2, none⟩ (.int .i64 0))) := (unhide HKd).narrow hst.2 (fun q e => by omega); have yy := unhide HSB _ (unhide HKe); have c0 := hst.1.1; have c1 := hst.1.2.1; have c2 := hst.1.2.2; have HKF : Hid (Keeps (fun _ => False) w (((w2.setCell ⟨w1.heap.size, 0, none⟩ (.int .i64 T)).setCell ⟨w1.heap.size, 1, none⟩ (.bool O)).setCell ⟨w1.heap.size, 2, none⟩ (.int .i64 0))) := (unhide HK0).trans (unhide HKe); clear hk2 hkd hz hst hbs)))
  all_goals go_wp2_with fail
  all_goals (go_ret; exact ⟨rfl, unhide HKF⟩)

set_option maxRecDepth 100000 in
set_option maxHeartbeats 8000000 in
theorem own3o (Z : Zone) (S : List FieldA) (hS : schemaB S = true) (so : Option Addr) (sc : Nat) (f : Txt) (o n : Int) (s : Txt) (kids : EL) (xv : Value) (up : Nat) (to eo : Option Addr) (tn tc en ec : Nat) (w : World) (hf : FldsAt w (.slice so S.length sc) S)
    (hx : SlE Z w up xv (.cons o n s kids .nil)) (hro : rootB o n s kids.len = true) (hw : wellE kids = true) (kf : Nat) (nm : Txt) (DO : Bool) (hkf : S[kf]? = some ⟨nm, 1, DO⟩) (hsome : fieldOf S f = some ⟨nm, 1, DO⟩) (hE : kindP S o s kids = (⟨1, true⟩, 0)) :
    Calls Tryd.prog 35 #[.agg #[.slice so S.length sc], stV 3 f xv (.slice to tn tc) (.slice eo en ec)] w fun e w' => e = .returned (.int .i64 92) ∧ Keeps (fun _ => False) w w' := by
  have hl8 := schema_8 hS
  obtain ⟨xo, xc, b, off, rfl, hcap, ha, hin⟩ := hx.open
  obtain ⟨rfl, _⟩ := ha (by simp [EL.len])
  obtain ⟨h1, h2, h3, h4, h5, ⟨kao, kcap, h6, h7, h8⟩, _⟩ := hin
  have hkid : SlE Z w b (.slice kao kids.len kcap) kids := ⟨kao, kcap, rfl, h7, h8⟩
  have hlen : (EL.cons o n s kids .nil).len = 1 := rfl
  rw [hlen] at hcap ⊢
  have hkl := get_lt hkf
  obtain ⟨fb, foff, fc, fe, hfb, hfc⟩ := FldsAt.cells hf (by omega)
  simp only [Value.slice.injEq] at fe
  obtain ⟨rfl, _, rfl⟩ := fe
  have g1 : ¬ (kf : Int) < 0 := by omega
  have g1' : decide ((kf : Int) < 0) = false := decide_eq_false g1
  have i1 : (kf : Int) < (S.length : Int) := by omega
  have i0 : (0 : Int) ≤ (kf : Int) := by omega
  obtain ⟨HX, hxb, hxc⟩ := boxedT w #[.slice (some ⟨fb, foff, none⟩) S.length sc] 24
  obtain ⟨HY, hyb, hyc⟩ := boxedT (w.alloc (.cells #[.slice (some ⟨fb, foff, none⟩) S.length sc] 24)) #[.int .i64 3, str f, .slice (some ⟨b, off, none⟩) 1 xc, .slice to tn tc, .slice eo en ec] 64
  rw [World.size_alloc] at hyc hyb
  have HK0 := hide ((unhide HX).trans (unhide HY))
  have SB : ∀ w', Keeps (fun _ => False) ((w.alloc (.cells #[.slice (some ⟨fb, foff, none⟩) S.length sc] 24)).alloc (.cells #[.int .i64 3, str f, .slice (some ⟨b, off, none⟩) 1 xc, .slice to tn tc, .slice eo en ec] 64)) w' → w'.cell? ⟨w.heap.size, 0, none⟩ = some (.slice (some ⟨fb, foff, none⟩) S.length sc) ∧ w'.cell? ⟨w.heap.size + 1, 0, none⟩ = some (.int .i64 3) ∧ w'.cell? ⟨w.heap.size + 1, 1, none⟩ = some (str f) ∧ w'.cell? ⟨w.heap.size + 1, 2, none⟩ = some (.slice (some ⟨b, off, none⟩) 1 xc) ∧ w'.cell? ⟨b, off, none⟩ = some (.int .i64 o) ∧ w'.cell? ⟨b, off + 1, none⟩ = some (.int .i64 n) ∧ w'.cell? ⟨b, off + 2, none⟩ = some (str s) ∧ w'.cell? ⟨b, off + 3, none⟩ = some (.slice kao kids.len kcap) ∧ w'.cell? ⟨fb, foff + kf * 3, none⟩ = some (str nm) ∧ w'.cell? ⟨fb, foff + kf * 3 + 1, none⟩ = some (.int .i64 1) ∧ w'.cell? ⟨fb, foff + kf * 3 + 2, none⟩ = some (.bool DO) := fun w' hk =>
    ⟨(((unhide HY).trans hk).cell hxb id).trans (hxc 0 _ rfl), (hk.cell hyb id).trans (hyc 0 _ rfl), (hk.cell hyb id).trans (hyc 1 _ rfl), (hk.cell hyb id).trans (hyc 2 _ rfl), (((unhide HK0).trans hk).cell h1 id).trans h3, (((unhide HK0).trans hk).cell h1 id).trans h4, (((unhide HK0).trans hk).cell h1 id).trans h5, (((unhide HK0).trans hk).cell h1 id).trans h6, (((unhide HK0).trans hk).cell hfb id).trans (hfc kf _ hkf).1, (((unhide HK0).trans hk).cell hfb id).trans (hfc kf _ hkf).2.1, (((unhide HK0).trans hk).cell hfb id).trans (hfc kf _ hkf).2.2⟩
  have y := SB _ (Keeps.refl _ _)
  have HSB := hide SB
  have HFI := hide (refField_at S hS (.slice (some ⟨fb, foff, none⟩) S.length sc) f _ (hf.keepF (unhide HK0)) hl8 kf _ hkf hsome)
  have HGO := fun w' (hk : Keeps (fun _ => False) w w') => hide (refKind_v Z S hS (some ⟨fb, foff, none⟩) sc (kids.size + 1) kids (by omega) o n s w' b (.slice kao kids.len kcap) (hkid.keepF hk) (hf.keepF hk) hro hw)
  rw [zeroK_ok hE] at HGO
  clear hE
  clear hx hkid hf hxc hyc SB hro hw ha h2 h3 h4 h5 h6 h8 HX HY hfc hkf hsome
  go_enter Tryd.func35, Tryd.ntmps35
  go_wp2_with (go_at_call 53; refine (unhide HFI).mono ?_; rintro e w1 ⟨rfl, hk1⟩; have HKb := hide hk1; have y1 := unhide HSB _ hk1; have HK1 := hide ((unhide HK0).trans hk1); clear hk1)
  go_region_held3 (fun w' => w'.cell? ⟨w.heap.size, 0, none⟩ = some (.slice (some ⟨fb, foff, none⟩) S.length sc) ∧ w'.cell? ⟨w.heap.size + 1, 0, none⟩ = some (.int .i64 3) ∧ w'.cell? ⟨w.heap.size + 1, 1, none⟩ = some (str f) ∧ w'.cell? ⟨w.heap.size + 1, 2, none⟩ = some (.slice (some ⟨b, off, none⟩) 1 xc) ∧ w'.cell? ⟨b, off, none⟩ = some (.int .i64 o) ∧ w'.cell? ⟨b, off + 1, none⟩ = some (.int .i64 n) ∧ w'.cell? ⟨b, off + 2, none⟩ = some (str s) ∧ w'.cell? ⟨b, off + 3, none⟩ = some (.slice kao kids.len kcap) ∧ w'.cell? ⟨fb, foff + kf * 3, none⟩ = some (str nm) ∧ w'.cell? ⟨fb, foff + kf * 3 + 1, none⟩ = some (.int .i64 1) ∧ w'.cell? ⟨fb, foff + kf * 3 + 2, none⟩ = some (.bool DO))
    (first | with_reducible exact unhide HSB _ (unhide HKe) | with_reducible exact unhide HSB _ (unhide HKd) | with_reducible exact unhide HSB _ ((unhide HKd).alloc _) | with_reducible exact unhide HSB _ (unhide HKb).drew | with_reducible exact unhide HSB _ ((unhide HKb).alloc _).drew)
    ((go_at_call 54; first
      | ((with_reducible refine (unhide (HGO w1.drew (unhide HK1).drew)).mono ?_); rintro e w2 ⟨rfl, hk2⟩; have hkd := (Keeps.refl (fun _ => False) w1).drew.trans hk2; have HKd := hide ((unhide HKb).trans hkd); obtain ⟨HZ, hzb, hzc⟩ := boxedT w2 #[.int .i64 1, .bool true, .int .i64 0] 83; have c0 := hzc 0 (.int .i64 1) rfl; have c1 := hzc 1 (.bool true) rfl; have c2 := hzc 2 (.int .i64 0) rfl; have HKe := hide ((unhide HKd).trans (unhide HZ)); have yy := unhide HSB _ (unhide HKe); have HKF := hide (((unhide HK1).trans hkd).trans (unhide HZ)); clear hk2 hkd hzc)
      | ((with_reducible refine (unhide (HGO (w1.alloc (.cells #[.int .i64 0, .bool false, .int .i64 0] 83)).drew ((unhide HK1).alloc _).drew)).mono ?_); rintro e w2 ⟨rfl, hk2⟩; have hz := zero3_at hk2; have hkd := ((Keeps.refl (fun _ => False) w1).alloc (.cells #[.int .i64 0, .bool false, .int .i64 0] 83)).drew.trans hk2; have HKd := hide ((unhide HKb).trans hkd); have m0 : World.cell? _ _ = some (Value.int .i64 0) := cell_of_blk hz 0; have m1 : World.cell? _ _ = some (Value.bool false) := cell_of_blk hz 1; have m2 : World.cell? _ _ = some (Value.int .i64 0) := cell_of_blk hz 2; have f0 := frozen_of_blk hz 0; have f1 := frozen_of_blk hz 1; have f2 := frozen_of_blk hz 2; have hst := set3 hz rfl (.int .i64 1) (.bool true) (.int .i64 0); have hbs := (unhide HKb).size; have HKe : Hid (Keeps (fun _ => False) ((w.alloc (.cells #[.slice (some ⟨fb, foff, none⟩) S.length sc] 24)).alloc (.cells #[.int .i64 3, str f, .slice (some ⟨b, off, none⟩) 1 xc, .slice to tn tc, .slice eo en ec] 64)) (((w2.setCell ⟨w1.heap.size, 0, none⟩ (.int .i64 1)).setCell ⟨w1.heap.size, 1, none⟩ (.bool true)).setCell ⟨w1.heap.size, 2, none⟩ (.int .i64 0))) := (unhide HKd).narrow hst.2 (fun q e => by omega); have yy := unhide HSB _ (unhide HKe); have c0 := hst.1.1; have c1 := hst.1.2.1; have c2 := hst.1.2.2; have HKF : Hid (Keeps (fun _ => False) w (((w2.setCell ⟨w1.heap.size, 0, none⟩ (.int .i64 1)).setCell ⟨w1.heap.size, 1, none⟩ (.bool true)).setCell ⟨w1.heap.size, 2, none⟩ (.int .i64 0))) := (unhide HK0).trans (unhide HKe); clear hk2 hkd hz hst hbs)))
  all_goals go_wp2_with fail
  all_goals (go_ret; exact ⟨rfl, unhide HKF⟩)

set_option maxRecDepth 100000 in
set_option maxHeartbeats 8000000 in
theorem own3z (Z : Zone) (S : List FieldA) (hS : schemaB S = true) (so : Option Addr) (sc : Nat) (f : Txt) (o n : Int) (s : Txt) (kids : EL) (xv : Value) (up : Nat) (to eo : Option Addr) (tn tc en ec : Nat) (w : World) (hf : FldsAt w (.slice so S.length sc) S)
    (hx : SlE Z w up xv (.cons o n s kids .nil)) (hro : rootB o n s kids.len = true) (hw : wellE kids = true) (kf : Nat) (nm : Txt) (DO : Bool) (hkf : S[kf]? = some ⟨nm, 1, DO⟩) (hsome : fieldOf S f = some ⟨nm, 1, DO⟩) (hE : kindP S o s kids = (⟨1, false⟩, 0)) :
    Calls Tryd.prog 35 #[.agg #[.slice so S.length sc], stV 3 f xv (.slice to tn tc) (.slice eo en ec)] w fun e w' => e = .returned (.int .i64 0) ∧ Keeps (fun _ => False) w w' := by
  have hl8 := schema_8 hS
  obtain ⟨xo, xc, b, off, rfl, hcap, ha, hin⟩ := hx.open
  obtain ⟨rfl, _⟩ := ha (by simp [EL.len])
  obtain ⟨h1, h2, h3, h4, h5, ⟨kao, kcap, h6, h7, h8⟩, _⟩ := hin
  have hkid : SlE Z w b (.slice kao kids.len kcap) kids := ⟨kao, kcap, rfl, h7, h8⟩
  have hlen : (EL.cons o n s kids .nil).len = 1 := rfl
  rw [hlen] at hcap ⊢
  have hkl := get_lt hkf
  obtain ⟨fb, foff, fc, fe, hfb, hfc⟩ := FldsAt.cells hf (by omega)
  simp only [Value.slice.injEq] at fe
  obtain ⟨rfl, _, rfl⟩ := fe
  have g1 : ¬ (kf : Int) < 0 := by omega
  have g1' : decide ((kf : Int) < 0) = false := decide_eq_false g1
  have i1 : (kf : Int) < (S.length : Int) := by omega
  have i0 : (0 : Int) ≤ (kf : Int) := by omega
  obtain ⟨HX, hxb, hxc⟩ := boxedT w #[.slice (some ⟨fb, foff, none⟩) S.length sc] 24
  obtain ⟨HY, hyb, hyc⟩ := boxedT (w.alloc (.cells #[.slice (some ⟨fb, foff, none⟩) S.length sc] 24)) #[.int .i64 3, str f, .slice (some ⟨b, off, none⟩) 1 xc, .slice to tn tc, .slice eo en ec] 64
  rw [World.size_alloc] at hyc hyb
  have HK0 := hide ((unhide HX).trans (unhide HY))
  have SB : ∀ w', Keeps (fun _ => False) ((w.alloc (.cells #[.slice (some ⟨fb, foff, none⟩) S.length sc] 24)).alloc (.cells #[.int .i64 3, str f, .slice (some ⟨b, off, none⟩) 1 xc, .slice to tn tc, .slice eo en ec] 64)) w' → w'.cell? ⟨w.heap.size, 0, none⟩ = some (.slice (some ⟨fb, foff, none⟩) S.length sc) ∧ w'.cell? ⟨w.heap.size + 1, 0, none⟩ = some (.int .i64 3) ∧ w'.cell? ⟨w.heap.size + 1, 1, none⟩ = some (str f) ∧ w'.cell? ⟨w.heap.size + 1, 2, none⟩ = some (.slice (some ⟨b, off, none⟩) 1 xc) ∧ w'.cell? ⟨b, off, none⟩ = some (.int .i64 o) ∧ w'.cell? ⟨b, off + 1, none⟩ = some (.int .i64 n) ∧ w'.cell? ⟨b, off + 2, none⟩ = some (str s) ∧ w'.cell? ⟨b, off + 3, none⟩ = some (.slice kao kids.len kcap) ∧ w'.cell? ⟨fb, foff + kf * 3, none⟩ = some (str nm) ∧ w'.cell? ⟨fb, foff + kf * 3 + 1, none⟩ = some (.int .i64 1) ∧ w'.cell? ⟨fb, foff + kf * 3 + 2, none⟩ = some (.bool DO) := fun w' hk =>
    ⟨(((unhide HY).trans hk).cell hxb id).trans (hxc 0 _ rfl), (hk.cell hyb id).trans (hyc 0 _ rfl), (hk.cell hyb id).trans (hyc 1 _ rfl), (hk.cell hyb id).trans (hyc 2 _ rfl), (((unhide HK0).trans hk).cell h1 id).trans h3, (((unhide HK0).trans hk).cell h1 id).trans h4, (((unhide HK0).trans hk).cell h1 id).trans h5, (((unhide HK0).trans hk).cell h1 id).trans h6, (((unhide HK0).trans hk).cell hfb id).trans (hfc kf _ hkf).1, (((unhide HK0).trans hk).cell hfb id).trans (hfc kf _ hkf).2.1, (((unhide HK0).trans hk).cell hfb id).trans (hfc kf _ hkf).2.2⟩
  have y := SB _ (Keeps.refl _ _)
  have HSB := hide SB
  have HFI := hide (refField_at S hS (.slice (some ⟨fb, foff, none⟩) S.length sc) f _ (hf.keepF (unhide HK0)) hl8 kf _ hkf hsome)
  have HGO := fun w' (hk : Keeps (fun _ => False) w w') => hide (refKind_v Z S hS (some ⟨fb, foff, none⟩) sc (kids.size + 1) kids (by omega) o n s w' b (.slice kao kids.len kcap) (hkid.keepF hk) (hf.keepF hk) hro hw)
  rw [zeroK_ok hE] at HGO
  clear hE
  clear hx hkid hf hxc hyc SB hro hw ha h2 h3 h4 h5 h6 h8 HX HY hfc hkf hsome
  go_enter Tryd.func35, Tryd.ntmps35
  go_wp2_with (go_at_call 53; refine (unhide HFI).mono ?_; rintro e w1 ⟨rfl, hk1⟩; have HKb := hide hk1; have y1 := unhide HSB _ hk1; have HK1 := hide ((unhide HK0).trans hk1); clear hk1)
  go_region_held3 (fun w' => w'.cell? ⟨w.heap.size, 0, none⟩ = some (.slice (some ⟨fb, foff, none⟩) S.length sc) ∧ w'.cell? ⟨w.heap.size + 1, 0, none⟩ = some (.int .i64 3) ∧ w'.cell? ⟨w.heap.size + 1, 1, none⟩ = some (str f) ∧ w'.cell? ⟨w.heap.size + 1, 2, none⟩ = some (.slice (some ⟨b, off, none⟩) 1 xc) ∧ w'.cell? ⟨b, off, none⟩ = some (.int .i64 o) ∧ w'.cell? ⟨b, off + 1, none⟩ = some (.int .i64 n) ∧ w'.cell? ⟨b, off + 2, none⟩ = some (str s) ∧ w'.cell? ⟨b, off + 3, none⟩ = some (.slice kao kids.len kcap) ∧ w'.cell? ⟨fb, foff + kf * 3, none⟩ = some (str nm) ∧ w'.cell? ⟨fb, foff + kf * 3 + 1, none⟩ = some (.int .i64 1) ∧ w'.cell? ⟨fb, foff + kf * 3 + 2, none⟩ = some (.bool DO))
    (first | with_reducible exact unhide HSB _ (unhide HKe) | with_reducible exact unhide HSB _ (unhide HKd) | with_reducible exact unhide HSB _ ((unhide HKd).alloc _) | with_reducible exact unhide HSB _ (unhide HKb).drew | with_reducible exact unhide HSB _ ((unhide HKb).alloc _).drew)
    ((go_at_call 54; first
      | ((with_reducible refine (unhide (HGO w1.drew (unhide HK1).drew)).mono ?_); rintro e w2 ⟨rfl, hk2⟩; have hkd := (Keeps.refl (fun _ => False) w1).drew.trans hk2; have HKd := hide ((unhide HKb).trans hkd); obtain ⟨HZ, hzb, hzc⟩ := boxedT w2 #[.int .i64 1, .bool false, .int .i64 0] 83; have c0 := hzc 0 (.int .i64 1) rfl; have c1 := hzc 1 (.bool false) rfl; have c2 := hzc 2 (.int .i64 0) rfl; have HKe := hide ((unhide HKd).trans (unhide HZ)); have yy := unhide HSB _ (unhide HKe); have HKF := hide (((unhide HK1).trans hkd).trans (unhide HZ)); clear hk2 hkd hzc)
      | ((with_reducible refine (unhide (HGO (w1.alloc (.cells #[.int .i64 0, .bool false, .int .i64 0] 83)).drew ((unhide HK1).alloc _).drew)).mono ?_); rintro e w2 ⟨rfl, hk2⟩; have hz := zero3_at hk2; have hkd := ((Keeps.refl (fun _ => False) w1).alloc (.cells #[.int .i64 0, .bool false, .int .i64 0] 83)).drew.trans hk2; have HKd := hide ((unhide HKb).trans hkd); have m0 : World.cell? _ _ = some (Value.int .i64 0) := cell_of_blk hz 0; have m1 : World.cell? _ _ = some (Value.bool false) := cell_of_blk hz 1; have m2 : World.cell? _ _ = some (Value.int .i64 0) := cell_of_blk hz 2; have f0 := frozen_of_blk hz 0; have f1 := frozen_of_blk hz 1; have f2 := frozen_of_blk hz 2; have hst := set3 hz rfl (.int .i64 1) (.bool false) (.int .i64 0); have hbs := (unhide HKb).size; have HKe : Hid (Keeps (fun _ => False) ((w.alloc (.cells #[.slice (some ⟨fb, foff, none⟩) S.length sc] 24)).alloc (.cells #[.int .i64 3, str f, .slice (some ⟨b, off, none⟩) 1 xc, .slice to tn tc, .slice eo en ec] 64)) (((w2.setCell ⟨w1.heap.size, 0, none⟩ (.int .i64 1)).setCell ⟨w1.heap.size, 1, none⟩ (.bool false)).setCell ⟨w1.heap.size, 2, none⟩ (.int .i64 0))) := (unhide HKd).narrow hst.2 (fun q e => by omega); have yy := unhide HSB _ (unhide HKe); have c0 := hst.1.1; have c1 := hst.1.2.1; have c2 := hst.1.2.2; have HKF : Hid (Keeps (fun _ => False) w (((w2.setCell ⟨w1.heap.size, 0, none⟩ (.int .i64 1)).setCell ⟨w1.heap.size, 1, none⟩ (.bool false)).setCell ⟨w1.heap.size, 2, none⟩ (.int .i64 0))) := (unhide HK0).trans (unhide HKe); clear hk2 hkd hz hst hbs)))
  all_goals go_wp2_with fail
  all_goals (go_ret; exact ⟨rfl, unhide HKF⟩)
end Go.Proofs.YtjhppnecadnekaaDoor
namespace Go.Proofs.YtjhppnecadnekaaDoor
open Go.RowKit Go.Maps

set_option maxRecDepth 100000 in
set_option maxHeartbeats 8000000 in
theorem own4e (Z : Zone) (S : List FieldA) (hS : schemaB S = true) (so : Option Addr) (sc : Nat) (f : Txt) (o n : Int) (s : Txt) (kids : EL) (xv : Value) (up : Nat) (to eo : Option Addr) (tn tc en ec : Nat) (w : World) (hf : FldsAt w (.slice so S.length sc) S)
    (hx : SlE Z w up xv (.cons o n s kids .nil)) (hro : rootB o n s kids.len = true) (hw : wellE kids = true) (kf : Nat) (nm : Txt) (DT : Int) (DO : Bool) (hkf : S[kf]? = some ⟨nm, DT, DO⟩) (hsome : fieldOf S f = some ⟨nm, DT, DO⟩) (E : Int) (hE : (kindP S o s kids).2 = E) (hE0 : E ≠ 0) :
    Calls Tryd.prog 35 #[.agg #[.slice so S.length sc], stV 4 f xv (.slice to tn tc) (.slice eo en ec)] w fun e w' => e = .returned (.int .i64 E) ∧ Keeps (fun _ => False) w w' := by
  have hl8 := schema_8 hS
  obtain ⟨xo, xc, b, off, rfl, hcap, ha, hin⟩ := hx.open
  obtain ⟨rfl, _⟩ := ha (by simp [EL.len])
  obtain ⟨h1, h2, h3, h4, h5, ⟨kao, kcap, h6, h7, h8⟩, _⟩ := hin
  have hkid : SlE Z w b (.slice kao kids.len kcap) kids := ⟨kao, kcap, rfl, h7, h8⟩
  have hlen : (EL.cons o n s kids .nil).len = 1 := rfl
  rw [hlen] at hcap ⊢
  have hkl := get_lt hkf
  obtain ⟨fb, foff, fc, fe, hfb, hfc⟩ := FldsAt.cells hf (by omega)
  simp only [Value.slice.injEq] at fe
  obtain ⟨rfl, _, rfl⟩ := fe
  have g1 : ¬ (kf : Int) < 0 := by omega
  have g1' : decide ((kf : Int) < 0) = false := decide_eq_false g1
  have i1 : (kf : Int) < (S.length : Int) := by omega
  have i0 : (0 : Int) ≤ (kf : Int) := by omega
  obtain ⟨HX, hxb, hxc⟩ := boxedT w #[.slice (some ⟨fb, foff, none⟩) S.length sc] 24
  obtain ⟨HY, hyb, hyc⟩ := boxedT (w.alloc (.cells #[.slice (some ⟨fb, foff, none⟩) S.length sc] 24)) #[.int .i64 4, str f, .slice (some ⟨b, off, none⟩) 1 xc, .slice to tn tc, .slice eo en ec] 64
  rw [World.size_alloc] at hyc hyb
  have HK0 := hide ((unhide HX).trans (unhide HY))
  have SB : ∀ w', Keeps (fun _ => False) ((w.alloc (.cells #[.slice (some ⟨fb, foff, none⟩) S.length sc] 24)).alloc (.cells #[.int .i64 4, str f, .slice (some ⟨b, off, none⟩) 1 xc, .slice to tn tc, .slice eo en ec] 64)) w' → w'.cell? ⟨w.heap.size, 0, none⟩ = some (.slice (some ⟨fb, foff, none⟩) S.length sc) ∧ w'.cell? ⟨w.heap.size + 1, 0, none⟩ = some (.int .i64 4) ∧ w'.cell? ⟨w.heap.size + 1, 1, none⟩ = some (str f) ∧ w'.cell? ⟨w.heap.size + 1, 2, none⟩ = some (.slice (some ⟨b, off, none⟩) 1 xc) ∧ w'.cell? ⟨b, off, none⟩ = some (.int .i64 o) ∧ w'.cell? ⟨b, off + 1, none⟩ = some (.int .i64 n) ∧ w'.cell? ⟨b, off + 2, none⟩ = some (str s) ∧ w'.cell? ⟨b, off + 3, none⟩ = some (.slice kao kids.len kcap) ∧ w'.cell? ⟨fb, foff + kf * 3, none⟩ = some (str nm) ∧ w'.cell? ⟨fb, foff + kf * 3 + 1, none⟩ = some (.int .i64 DT) ∧ w'.cell? ⟨fb, foff + kf * 3 + 2, none⟩ = some (.bool DO) := fun w' hk =>
    ⟨(((unhide HY).trans hk).cell hxb id).trans (hxc 0 _ rfl), (hk.cell hyb id).trans (hyc 0 _ rfl), (hk.cell hyb id).trans (hyc 1 _ rfl), (hk.cell hyb id).trans (hyc 2 _ rfl), (((unhide HK0).trans hk).cell h1 id).trans h3, (((unhide HK0).trans hk).cell h1 id).trans h4, (((unhide HK0).trans hk).cell h1 id).trans h5, (((unhide HK0).trans hk).cell h1 id).trans h6, (((unhide HK0).trans hk).cell hfb id).trans (hfc kf _ hkf).1, (((unhide HK0).trans hk).cell hfb id).trans (hfc kf _ hkf).2.1, (((unhide HK0).trans hk).cell hfb id).trans (hfc kf _ hkf).2.2⟩
  have y := SB _ (Keeps.refl _ _)
  have HSB := hide SB
  have HFI := hide (refField_at S hS (.slice (some ⟨fb, foff, none⟩) S.length sc) f _ (hf.keepF (unhide HK0)) hl8 kf _ hkf hsome)
  have HGO := fun w' (hk : Keeps (fun _ => False) w w') => hide (refKind_v Z S hS (some ⟨fb, foff, none⟩) sc (kids.size + 1) kids (by omega) o n s w' b (.slice kao kids.len kcap) (hkid.keepF hk) (hf.keepF hk) hro hw)
  rw [zeroK_err hE hE0] at HGO
  have n0 : (E != 0) = true := by simpa using hE0
  clear hE hE0
  clear hx hkid hf hxc hyc SB hro hw ha h2 h3 h4 h5 h6 h8 HX HY hfc hkf hsome
  go_enter Tryd.func35, Tryd.ntmps35
  go_wp2_with (go_at_call 53; refine (unhide HFI).mono ?_; rintro e w1 ⟨rfl, hk1⟩; have HKb := hide hk1; have y1 := unhide HSB _ hk1; have HK1 := hide ((unhide HK0).trans hk1); clear hk1)
  go_region_held3 (fun w' => w'.cell? ⟨w.heap.size, 0, none⟩ = some (.slice (some ⟨fb, foff, none⟩) S.length sc) ∧ w'.cell? ⟨w.heap.size + 1, 0, none⟩ = some (.int .i64 4) ∧ w'.cell? ⟨w.heap.size + 1, 1, none⟩ = some (str f) ∧ w'.cell? ⟨w.heap.size + 1, 2, none⟩ = some (.slice (some ⟨b, off, none⟩) 1 xc) ∧ w'.cell? ⟨b, off, none⟩ = some (.int .i64 o) ∧ w'.cell? ⟨b, off + 1, none⟩ = some (.int .i64 n) ∧ w'.cell? ⟨b, off + 2, none⟩ = some (str s) ∧ w'.cell? ⟨b, off + 3, none⟩ = some (.slice kao kids.len kcap) ∧ w'.cell? ⟨fb, foff + kf * 3, none⟩ = some (str nm) ∧ w'.cell? ⟨fb, foff + kf * 3 + 1, none⟩ = some (.int .i64 DT) ∧ w'.cell? ⟨fb, foff + kf * 3 + 2, none⟩ = some (.bool DO))
    (first | with_reducible exact unhide HSB _ (unhide HKe) | with_reducible exact unhide HSB _ (unhide HKd) | with_reducible exact unhide HSB _ ((unhide HKd).alloc _) | with_reducible exact unhide HSB _ (unhide HKb).drew | with_reducible exact unhide HSB _ ((unhide HKb).alloc _).drew)
    ((go_at_call 54; first
      | ((with_reducible refine (unhide (HGO w1.drew (unhide HK1).drew)).mono ?_); rintro e w2 ⟨rfl, hk2⟩; have hkd := (Keeps.refl (fun _ => False) w1).drew.trans hk2; have HKd := hide ((unhide HKb).trans hkd); obtain ⟨HZ, hzb, hzc⟩ := boxedT w2 #[.int .i64 0, .bool false, .int .i64 E] 83; have c0 := hzc 0 (.int .i64 0) rfl; have c1 := hzc 1 (.bool false) rfl; have c2 := hzc 2 (.int .i64 E) rfl; have HKe := hide ((unhide HKd).trans (unhide HZ)); have yy := unhide HSB _ (unhide HKe); have HKF := hide (((unhide HK1).trans hkd).trans (unhide HZ)); clear hk2 hkd hzc)
      | ((with_reducible refine (unhide (HGO (w1.alloc (.cells #[.int .i64 0, .bool false, .int .i64 0] 83)).drew ((unhide HK1).alloc _).drew)).mono ?_); rintro e w2 ⟨rfl, hk2⟩; have hz := zero3_at hk2; have hkd := ((Keeps.refl (fun _ => False) w1).alloc (.cells #[.int .i64 0, .bool false, .int .i64 0] 83)).drew.trans hk2; have HKd := hide ((unhide HKb).trans hkd); have m0 : World.cell? _ _ = some (Value.int .i64 0) := cell_of_blk hz 0; have m1 : World.cell? _ _ = some (Value.bool false) := cell_of_blk hz 1; have m2 : World.cell? _ _ = some (Value.int .i64 0) := cell_of_blk hz 2; have f0 := frozen_of_blk hz 0; have f1 := frozen_of_blk hz 1; have f2 := frozen_of_blk hz 2; have hst := set3 hz rfl (.int .i64 0) (.bool false) (.int .i64 E); have hbs := (unhide HKb).size; have HKe : Hid (Keeps (fun _ => False) ((w.alloc (.cells #[.slice (some ⟨fb, foff, none⟩) S.length sc] 24)).alloc (.cells #[.int .i64 4, str f, .slice (some ⟨b, off, none⟩) 1 xc, .slice to tn tc, .slice eo en ec] 64)) (((w2.setCell ⟨w1.heap.size, 0, none⟩ (.int .i64 0)).setCell ⟨w1.heap.size, 1, none⟩ (.bool false)).setCell ⟨w1.heap.size, 2, none⟩ (.int .i64 E))) := (unhide HKd).narrow hst.2 (fun q e => by omega); have yy := unhide HSB _ (unhide HKe); have c0 := hst.1.1; have c1 := hst.1.2.1; have c2 := hst.1.2.2; have HKF : Hid (Keeps (fun _ => False) w (((w2.setCell ⟨w1.heap.size, 0, none⟩ (.int .i64 0)).setCell ⟨w1.heap.size, 1, none⟩ (.bool false)).setCell ⟨w1.heap.size, 2, none⟩ (.int .i64 E))) := (unhide HK0).trans (unhide HKe); clear hk2 hkd hz hst hbs)))
  all_goals go_wp2_with fail
  all_goals (go_ret; exact ⟨rfl, unhide HKF⟩)

set_option maxRecDepth 100000 in
set_option maxHeartbeats 8000000 in
theorem own4f (Z : Zone) (S : List FieldA) (hS : schemaB S = true) (so : Option Addr) (sc : Nat) (f : Txt) (o n : Int) (s : Txt) (kids : EL) (xv : Value) (up : Nat) (to eo : Option Addr) (tn tc en ec : Nat) (w : World) (hf : FldsAt w (.slice so S.length sc) S)
    (hx : SlE Z w up xv (.cons o n s kids .nil)) (hro : rootB o n s kids.len = true) (hw : wellE kids = true) (kf : Nat) (nm : Txt) (DT : Int) (DO : Bool) (hkf : S[kf]? = some ⟨nm, DT, DO⟩) (hsome : fieldOf S f = some ⟨nm, DT, DO⟩) (T : Int) (O : Bool) (hE : kindP S o s kids = (⟨T, O⟩, 0)) (hT : DT ≠ 1) :
    Calls Tryd.prog 35 #[.agg #[.slice so S.length sc], stV 4 f xv (.slice to tn tc) (.slice eo en ec)] w fun e w' => e = .returned (.int .i64 91) ∧ Keeps (fun _ => False) w w' := by
  have hl8 := schema_8 hS
  obtain ⟨xo, xc, b, off, rfl, hcap, ha, hin⟩ := hx.open
  obtain ⟨rfl, _⟩ := ha (by simp [EL.len])
  obtain ⟨h1, h2, h3, h4, h5, ⟨kao, kcap, h6, h7, h8⟩, _⟩ := hin
  have hkid : SlE Z w b (.slice kao kids.len kcap) kids := ⟨kao, kcap, rfl, h7, h8⟩
  have hlen : (EL.cons o n s kids .nil).len = 1 := rfl
  rw [hlen] at hcap ⊢
  have hkl := get_lt hkf
  obtain ⟨fb, foff, fc, fe, hfb, hfc⟩ := FldsAt.cells hf (by omega)
  simp only [Value.slice.injEq] at fe
  obtain ⟨rfl, _, rfl⟩ := fe
  have g1 : ¬ (kf : Int) < 0 := by omega
  have g1' : decide ((kf : Int) < 0) = false := decide_eq_false g1
  have i1 : (kf : Int) < (S.length : Int) := by omega
  have i0 : (0 : Int) ≤ (kf : Int) := by omega
  obtain ⟨HX, hxb, hxc⟩ := boxedT w #[.slice (some ⟨fb, foff, none⟩) S.length sc] 24
  obtain ⟨HY, hyb, hyc⟩ := boxedT (w.alloc (.cells #[.slice (some ⟨fb, foff, none⟩) S.length sc] 24)) #[.int .i64 4, str f, .slice (some ⟨b, off, none⟩) 1 xc, .slice to tn tc, .slice eo en ec] 64
  rw [World.size_alloc] at hyc hyb
  have HK0 := hide ((unhide HX).trans (unhide HY))
  have SB : ∀ w', Keeps (fun _ => False) ((w.alloc (.cells #[.slice (some ⟨fb, foff, none⟩) S.length sc] 24)).alloc (.cells #[.int .i64 4, str f, .slice (some ⟨b, off, none⟩) 1 xc, .slice to tn tc, .slice eo en ec] 64)) w' → w'.cell? ⟨w.heap.size, 0, none⟩ = some (.slice (some ⟨fb, foff, none⟩) S.length sc) ∧ w'.cell? ⟨w.heap.size + 1, 0, none⟩ = some (.int .i64 4) ∧ w'.cell? ⟨w.heap.size + 1, 1, none⟩ = some (str f) ∧ w'.cell? ⟨w.heap.size + 1, 2, none⟩ = some (.slice (some ⟨b, off, none⟩) 1 xc) ∧ w'.cell? ⟨b, off, none⟩ = some (.int .i64 o) ∧ w'.cell? ⟨b, off + 1, none⟩ = some (.int .i64 n) ∧ w'.cell? ⟨b, off + 2, none⟩ = some (str s) ∧ w'.cell? ⟨b, off + 3, none⟩ = some (.slice kao kids.len kcap) ∧ w'.cell? ⟨fb, foff + kf * 3, none⟩ = some (str nm) ∧ w'.cell? ⟨fb, foff + kf * 3 + 1, none⟩ = some (.int .i64 DT) ∧ w'.cell? ⟨fb, foff + kf * 3 + 2, none⟩ = some (.bool DO) := fun w' hk =>
    ⟨(((unhide HY).trans hk).cell hxb id).trans (hxc 0 _ rfl), (hk.cell hyb id).trans (hyc 0 _ rfl), (hk.cell hyb id).trans (hyc 1 _ rfl), (hk.cell hyb id).trans (hyc 2 _ rfl), (((unhide HK0).trans hk).cell h1 id).trans h3, (((unhide HK0).trans hk).cell h1 id).trans h4, (((unhide HK0).trans hk).cell h1 id).trans h5, (((unhide HK0).trans hk).cell h1 id).trans h6, (((unhide HK0).trans hk).cell hfb id).trans (hfc kf _ hkf).1, (((unhide HK0).trans hk).cell hfb id).trans (hfc kf _ hkf).2.1, (((unhide HK0).trans hk).cell hfb id).trans (hfc kf _ hkf).2.2⟩
  have y := SB _ (Keeps.refl _ _)
  have HSB := hide SB
  have HFI := hide (refField_at S hS (.slice (some ⟨fb, foff, none⟩) S.length sc) f _ (hf.keepF (unhide HK0)) hl8 kf _ hkf hsome)
  have HGO := fun w' (hk : Keeps (fun _ => False) w w') => hide (refKind_v Z S hS (some ⟨fb, foff, none⟩) sc (kids.size + 1) kids (by omega) o n s w' b (.slice kao kids.len kcap) (hkid.keepF hk) (hf.keepF hk) hro hw)
  rw [zeroK_ok hE] at HGO
  have n1 : (DT != 1) = true := by simpa using hT
  clear hT
  clear hE
  clear hx hkid hf hxc hyc SB hro hw ha h2 h3 h4 h5 h6 h8 HX HY hfc hkf hsome
  go_enter Tryd.func35, Tryd.ntmps35
  go_wp2_with (go_at_call 53; refine (unhide HFI).mono ?_; rintro e w1 ⟨rfl, hk1⟩; have HKb := hide hk1; have y1 := unhide HSB _ hk1; have HK1 := hide ((unhide HK0).trans hk1); clear hk1)
  go_region_held3 (fun w' => w'.cell? ⟨w.heap.size, 0, none⟩ = some (.slice (some ⟨fb, foff, none⟩) S.length sc) ∧ w'.cell? ⟨w.heap.size + 1, 0, none⟩ = some (.int .i64 4) ∧ w'.cell? ⟨w.heap.size + 1, 1, none⟩ = some (str f) ∧ w'.cell? ⟨w.heap.size + 1, 2, none⟩ = some (.slice (some ⟨b, off, none⟩) 1 xc) ∧ w'.cell? ⟨b, off, none⟩ = some (.int .i64 o) ∧ w'.cell? ⟨b, off + 1, none⟩ = some (.int .i64 n) ∧ w'.cell? ⟨b, off + 2, none⟩ = some (str s) ∧ w'.cell? ⟨b, off + 3, none⟩ = some (.slice kao kids.len kcap) ∧ w'.cell? ⟨fb, foff + kf * 3, none⟩ = some (str nm) ∧ w'.cell? ⟨fb, foff + kf * 3 + 1, none⟩ = some (.int .i64 DT) ∧ w'.cell? ⟨fb, foff + kf * 3 + 2, none⟩ = some (.bool DO))
    (first | with_reducible exact unhide HSB _ (unhide HKe) | with_reducible exact unhide HSB _ (unhide HKd) | with_reducible exact unhide HSB _ ((unhide HKd).alloc _) | with_reducible exact unhide HSB _ (unhide HKb).drew | with_reducible exact unhide HSB _ ((unhide HKb).alloc _).drew)
    ((go_at_call 54; first
      | ((with_reducible refine (unhide (HGO w1.drew (unhide HK1).drew)).mono ?_); rintro e w2 ⟨rfl, hk2⟩; have hkd := (Keeps.refl (fun _ => False) w1).drew.trans hk2; have HKd := hide ((unhide HKb).trans hkd); obtain ⟨HZ, hzb, hzc⟩ := boxedT w2 #[.int .i64 T, .bool O, .int .i64 0] 83; have c0 := hzc 0 (.int .i64 T) rfl; have c1 := hzc 1 (.bool O) rfl; have c2 := hzc 2 (.int .i64 0) rfl; have HKe := hide ((unhide HKd).trans (unhide HZ)); have yy := unhide HSB _ (unhide HKe); have HKF := hide (((unhide HK1).trans hkd).trans (unhide HZ)); clear hk2 hkd hzc)
      | ((with_reducible refine (unhide (HGO (w1.alloc (.cells #[.int .i64 0, .bool false, .int .i64 0] 83)).drew ((unhide HK1).alloc _).drew)).mono ?_); rintro e w2 ⟨rfl, hk2⟩; have hz := zero3_at hk2; have hkd := ((Keeps.refl (fun _ => False) w1).alloc (.cells #[.int .i64 0, .bool false, .int .i64 0] 83)).drew.trans hk2; have HKd := hide ((unhide HKb).trans hkd); have m0 : World.cell? _ _ = some (Value.int .i64 0) := cell_of_blk hz 0; have m1 : World.cell? _ _ = some (Value.bool false) := cell_of_blk hz 1; have m2 : World.cell? _ _ = some (Value.int .i64 0) := cell_of_blk hz 2; have f0 := frozen_of_blk hz 0; have f1 := frozen_of_blk hz 1; have f2 := frozen_of_blk hz 2; have hst := set3 hz rfl (.int .i64 T) (.bool O) (.int .i64 0); have hbs := (unhide HKb).size; have HKe : Hid (Keeps (fun _ => False) ((w.alloc (.cells #[.slice (some ⟨fb, foff, none⟩) S.length sc] 24)).alloc (.cells #[.int .i64 4, str f, .slice (some ⟨b, off, none⟩) 1 xc, .slice to tn tc, .slice eo en ec] 64)) (((w2.setCell ⟨w1.heap.size, 0, none⟩ (.int .i64 T)).setCell ⟨w1.heap.size, 1, none⟩ (.bool O)).setCell ⟨w1.heap.size, 2, none⟩ (.int .i64 0))) := (unhide HKd).narrow hst.2 (fun q e => by omega); have yy := unhide HSB _ (unhide HKe); have c0 := hst.1.1; have c1 := hst.1.2.1; have c2 := hst.1.2.2; have HKF : Hid (Keeps (fun _ => False) w (((w2.setCell ⟨w1.heap.size, 0, none⟩ (.int .i64 T)).setCell ⟨w1.heap.size, 1, none⟩ (.bool O)).setCell ⟨w1.heap.size, 2, none⟩ (.int .i64 0))) := (unhide HK0).trans (unhide HKe); clear hk2 hkd hz hst hbs)))
  all_goals go_wp2_with fail
  all_goals (go_ret; exact ⟨rfl, unhide HKF⟩)

set_option maxRecDepth 100000 in
set_option maxHeartbeats 8000000 in
theorem own4t (Z : Zone) (S : List FieldA) (hS : schemaB S = true) (so : Option Addr) (sc : Nat) (f : Txt) (o n : Int) (s : Txt) (kids : EL) (xv : Value) (up : Nat) (to eo : Option Addr) (tn tc en ec : Nat) (w : World) (hf : FldsAt w (.slice so S.length sc) S)
    (hx : SlE Z w up xv (.cons o n s kids .nil)) (hro : rootB o n s kids.len = true) (hw : wellE kids = true) (kf : Nat) (nm : Txt) (DO : Bool) (hkf : S[kf]? = some ⟨nm, 1, DO⟩) (hsome : fieldOf S f = some ⟨nm, 1, DO⟩) (T : Int) (O : Bool) (hE : kindP S o s kids = (⟨T, O⟩, 0)) (hT : T ≠ 1) :
    Calls Tryd.prog 35 #[.agg #[.slice so S.length sc], stV 4 f xv (.slice to tn tc) (.slice eo en ec)] w fun e w' => e = .returned (.int .i64 91) ∧ Keeps (fun _ => False) w w' := by
  have hl8 := schema_8 hS
  obtain ⟨xo, xc, b, off, rfl, hcap, ha, hin⟩ := hx.open
  obtain ⟨rfl, _⟩ := ha (by simp [EL.len])
  obtain ⟨h1, h2, h3, h4, h5, ⟨kao, kcap, h6, h7, h8⟩, _⟩ := hin
  have hkid : SlE Z w b (.slice kao kids.len kcap) kids := ⟨kao, kcap, rfl, h7, h8⟩
  have hlen : (EL.cons o n s kids .nil).len = 1 := rfl
  rw [hlen] at hcap ⊢
  have hkl := get_lt hkf
  obtain ⟨fb, foff, fc, fe, hfb, hfc⟩ := FldsAt.cells hf (by omega)
  simp only [Value.slice.injEq] at fe
  obtain ⟨rfl, _, rfl⟩ := fe
  have g1 : ¬ (kf : Int) < 0 := by omega
  have g1' : decide ((kf : Int) < 0) = false := decide_eq_false g1
  have i1 : (kf : Int) < (S.length : Int) := by omega
  have i0 : (0 : Int) ≤ (kf : Int) := by omega
  obtain ⟨HX, hxb, hxc⟩ := boxedT w #[.slice (some ⟨fb, foff, none⟩) S.length sc] 24
  obtain ⟨HY, hyb, hyc⟩ := boxedT (w.alloc (.cells #[.slice (some ⟨fb, foff, none⟩) S.length sc] 24)) #[.int .i64 4, str f, .slice (some ⟨b, off, none⟩) 1 xc, .slice to tn tc, .slice eo en ec] 64
  rw [World.size_alloc] at hyc hyb
  have HK0 := hide ((unhide HX).trans (unhide HY))
  have SB : ∀ w', Keeps (fun _ => False) ((w.alloc (.cells #[.slice (some ⟨fb, foff, none⟩) S.length sc] 24)).alloc (.cells #[.int .i64 4, str f, .slice (some ⟨b, off, none⟩) 1 xc, .slice to tn tc, .slice eo en ec] 64)) w' → w'.cell? ⟨w.heap.size, 0, none⟩ = some (.slice (some ⟨fb, foff, none⟩) S.length sc) ∧ w'.cell? ⟨w.heap.size + 1, 0, none⟩ = some (.int .i64 4) ∧ w'.cell? ⟨w.heap.size + 1, 1, none⟩ = some (str f) ∧ w'.cell? ⟨w.heap.size + 1, 2, none⟩ = some (.slice (some ⟨b, off, none⟩) 1 xc) ∧ w'.cell? ⟨b, off, none⟩ = some (.int .i64 o) ∧ w'.cell? ⟨b, off + 1, none⟩ = some (.int .i64 n) ∧ w'.cell? ⟨b, off + 2, none⟩ = some (str s) ∧ w'.cell? ⟨b, off + 3, none⟩ = some (.slice kao kids.len kcap) ∧ w'.cell? ⟨fb, foff + kf * 3, none⟩ = some (str nm) ∧ w'.cell? ⟨fb, foff + kf * 3 + 1, none⟩ = some (.int .i64 1) ∧ w'.cell? ⟨fb, foff + kf * 3 + 2, none⟩ = some (.bool DO) := fun w' hk =>
    ⟨(((unhide HY).trans hk).cell hxb id).trans (hxc 0 _ rfl), (hk.cell hyb id).trans (hyc 0 _ rfl), (hk.cell hyb id).trans (hyc 1 _ rfl), (hk.cell hyb id).trans (hyc 2 _ rfl), (((unhide HK0).trans hk).cell h1 id).trans h3, (((unhide HK0).trans hk).cell h1 id).trans h4, (((unhide HK0).trans hk).cell h1 id).trans h5, (((unhide HK0).trans hk).cell h1 id).trans h6, (((unhide HK0).trans hk).cell hfb id).trans (hfc kf _ hkf).1, (((unhide HK0).trans hk).cell hfb id).trans (hfc kf _ hkf).2.1, (((unhide HK0).trans hk).cell hfb id).trans (hfc kf _ hkf).2.2⟩
  have y := SB _ (Keeps.refl _ _)
  have HSB := hide SB
  have HFI := hide (refField_at S hS (.slice (some ⟨fb, foff, none⟩) S.length sc) f _ (hf.keepF (unhide HK0)) hl8 kf _ hkf hsome)
  have HGO := fun w' (hk : Keeps (fun _ => False) w w') => hide (refKind_v Z S hS (some ⟨fb, foff, none⟩) sc (kids.size + 1) kids (by omega) o n s w' b (.slice kao kids.len kcap) (hkid.keepF hk) (hf.keepF hk) hro hw)
  rw [zeroK_ok hE] at HGO
  have n1 : (T != 1) = true := by simpa using hT
  clear hT
  clear hE
  clear hx hkid hf hxc hyc SB hro hw ha h2 h3 h4 h5 h6 h8 HX HY hfc hkf hsome
  go_enter Tryd.func35, Tryd.ntmps35
  go_wp2_with (go_at_call 53; refine (unhide HFI).mono ?_; rintro e w1 ⟨rfl, hk1⟩; have HKb := hide hk1; have y1 := unhide HSB _ hk1; have HK1 := hide ((unhide HK0).trans hk1); clear hk1)
  go_region_held3 (fun w' => w'.cell? ⟨w.heap.size, 0, none⟩ = some (.slice (some ⟨fb, foff, none⟩) S.length sc) ∧ w'.cell? ⟨w.heap.size + 1, 0, none⟩ = some (.int .i64 4) ∧ w'.cell? ⟨w.heap.size + 1, 1, none⟩ = some (str f) ∧ w'.cell? ⟨w.heap.size + 1, 2, none⟩ = some (.slice (some ⟨b, off, none⟩) 1 xc) ∧ w'.cell? ⟨b, off, none⟩ = some (.int .i64 o) ∧ w'.cell? ⟨b, off + 1, none⟩ = some (.int .i64 n) ∧ w'.cell? ⟨b, off + 2, none⟩ = some (str s) ∧ w'.cell? ⟨b, off + 3, none⟩ = some (.slice kao kids.len kcap) ∧ w'.cell? ⟨fb, foff + kf * 3, none⟩ = some (str nm) ∧ w'.cell? ⟨fb, foff + kf * 3 + 1, none⟩ = some (.int .i64 1) ∧ w'.cell? ⟨fb, foff + kf * 3 + 2, none⟩ = some (.bool DO))
    (first | with_reducible exact unhide HSB _ (unhide HKe) | with_reducible exact unhide HSB _ (unhide HKd) | with_reducible exact unhide HSB _ ((unhide HKd).alloc _) | with_reducible exact unhide HSB _ (unhide HKb).drew | with_reducible exact unhide HSB _ ((unhide HKb).alloc _).drew)
    ((go_at_call 54; first
      | ((with_reducible refine (unhide (HGO w1.drew (unhide HK1).drew)).mono ?_); rintro e w2 ⟨rfl, hk2⟩; have hkd := (Keeps.refl (fun _ => False) w1).drew.trans hk2; have HKd := hide ((unhide HKb).trans hkd); obtain ⟨HZ, hzb, hzc⟩ := boxedT w2 #[.int .i64 T, .bool O, .int .i64 0] 83; have c0 := hzc 0 (.int .i64 T) rfl; have c1 := hzc 1 (.bool O) rfl; have c2 := hzc 2 (.int .i64 0) rfl; have HKe := hide ((unhide HKd).trans (unhide HZ)); have yy := unhide HSB _ (unhide HKe); have HKF := hide (((unhide HK1).trans hkd).trans (unhide HZ)); clear hk2 hkd hzc)
      | ((with_reducible refine (unhide (HGO (w1.alloc (.cells #[.int .i64 0, .bool false, .int .i64 0] 83)).drew ((unhide HK1).alloc _).drew)).mono ?_); rintro e w2 ⟨rfl, hk2⟩; have hz := zero3_at hk2; have hkd := ((Keeps.refl (fun _ => False) w1).alloc (.cells #[.int .i64 0, .bool false, .int .i64 0] 83)).drew.trans hk2; have HKd := hide ((unhide HKb).trans hkd); have m0 : World.cell? _ _ = some (Value.int .i64 0) := cell_of_blk hz 0; have m1 : World.cell? _ _ = some (Value.bool false) := cell_of_blk hz 1; have m2 : World.cell? _ _ = some (Value.int .i64 0) := cell_of_blk hz 2; have f0 := frozen_of_blk hz 0; have f1 := frozen_of_blk hz 1; have f2 := frozen_of_blk hz 2; have hst := set3 hz rfl (.int .i64 T) (.bool O) (.int .i64 0); have hbs := (unhide HKb).size; have HKe : Hid (Keeps (fun _ => False) ((w.alloc (.cells #[.slice (some ⟨fb, foff, none⟩) S.length sc] 24)).alloc (.cells #[.int .i64 4, str f, .slice (some ⟨b, off, none⟩) 1 xc, .slice to tn tc, .slice eo en ec] 64)) (((w2.setCell ⟨w1.heap.size, 0, none⟩ (.int .i64 T)).setCell ⟨w1.heap.size, 1, none⟩ (.bool O)).setCell ⟨w1.heap.size, 2, none⟩ (.int .i64 0))) := (unhide HKd).narrow hst.2 (fun q e => by omega); have yy := unhide HSB _ (unhide HKe); have c0 := hst.1.1; have c1 := hst.1.2.1; have c2 := hst.1.2.2; have HKF : Hid (Keeps (fun _ => False) w (((w2.setCell ⟨w1.heap.size, 0, none⟩ (.int .i64 T)).setCell ⟨w1.heap.size, 1, none⟩ (.bool O)).setCell ⟨w1.heap.size, 2, none⟩ (.int .i64 0))) := (unhide HK0).trans (unhide HKe); clear hk2 hkd hz hst hbs)))
  all_goals go_wp2_with fail
  all_goals (go_ret; exact ⟨rfl, unhide HKF⟩)

set_option maxRecDepth 100000 in
set_option maxHeartbeats 8000000 in
theorem own4o (Z : Zone) (S : List FieldA) (hS : schemaB S = true) (so : Option Addr) (sc : Nat) (f : Txt) (o n : Int) (s : Txt) (kids : EL) (xv : Value) (up : Nat) (to eo : Option Addr) (tn tc en ec : Nat) (w : World) (hf : FldsAt w (.slice so S.length sc) S)
    (hx : SlE Z w up xv (.cons o n s kids .nil)) (hro : rootB o n s kids.len = true) (hw : wellE kids = true) (kf : Nat) (nm : Txt) (DO : Bool) (hkf : S[kf]? = some ⟨nm, 1, DO⟩) (hsome : fieldOf S f = some ⟨nm, 1, DO⟩) (hE : kindP S o s kids = (⟨1, true⟩, 0)) :
    Calls Tryd.prog 35 #[.agg #[.slice so S.length sc], stV 4 f xv (.slice to tn tc) (.slice eo en ec)] w fun e w' => e = .returned (.int .i64 92) ∧ Keeps (fun _ => False) w w' := by
  have hl8 := schema_8 hS
  obtain ⟨xo, xc, b, off, rfl, hcap, ha, hin⟩ := hx.open
  obtain ⟨rfl, _⟩ := ha (by simp [EL.len])
  obtain ⟨h1, h2, h3, h4, h5, ⟨kao, kcap, h6, h7, h8⟩, _⟩ := hin
  have hkid : SlE Z w b (.slice kao kids.len kcap) kids := ⟨kao, kcap, rfl, h7, h8⟩
  have hlen : (EL.cons o n s kids .nil).len = 1 := rfl
  rw [hlen] at hcap ⊢
  have hkl := get_lt hkf
  obtain ⟨fb, foff, fc, fe, hfb, hfc⟩ := FldsAt.cells hf (by omega)
  simp only [Value.slice.injEq] at fe
  obtain ⟨rfl, _, rfl⟩ := fe
  have g1 : ¬ (kf : Int) < 0 := by omega
  have g1' : decide ((kf : Int) < 0) = false := decide_eq_false g1
  have i1 : (kf : Int) < (S.length : Int) := by omega
  have i0 : (0 : Int) ≤ (kf : Int) := by omega
  obtain ⟨HX, hxb, hxc⟩ := boxedT w #[.slice (some ⟨fb, foff, none⟩) S.length sc] 24
  obtain ⟨HY, hyb, hyc⟩ := boxedT (w.alloc (.cells #[.slice (some ⟨fb, foff, none⟩) S.length sc] 24)) #[.int .i64 4, str f, .slice (some ⟨b, off, none⟩) 1 xc, .slice to tn tc, .slice eo en ec] 64
  rw [World.size_alloc] at hyc hyb
  have HK0 := hide ((unhide HX).trans (unhide HY))
  have SB : ∀ w', Keeps (fun _ => False) ((w.alloc (.cells #[.slice (some ⟨fb, foff, none⟩) S.length sc] 24)).alloc (.cells #[.int .i64 4, str f, .slice (some ⟨b, off, none⟩) 1 xc, .slice to tn tc, .slice eo en ec] 64)) w' → w'.cell? ⟨w.heap.size, 0, none⟩ = some (.slice (some ⟨fb, foff, none⟩) S.length sc) ∧ w'.cell? ⟨w.heap.size + 1, 0, none⟩ = some (.int .i64 4) ∧ w'.cell? ⟨w.heap.size + 1, 1, none⟩ = some (str f) ∧ w'.cell? ⟨w.heap.size + 1, 2, none⟩ = some (.slice (some ⟨b, off, none⟩) 1 xc) ∧ w'.cell? ⟨b, off, none⟩ = some (.int .i64 o) ∧ w'.cell? ⟨b, off + 1, none⟩ = some (.int .i64 n) ∧ w'.cell? ⟨b, off + 2, none⟩ = some (str s) ∧ w'.cell? ⟨b, off + 3, none⟩ = some (.slice kao kids.len kcap) ∧ w'.cell? ⟨fb, foff + kf * 3, none⟩ = some (str nm) ∧ w'.cell? ⟨fb, foff + kf * 3 + 1, none⟩ = some (.int .i64 1) ∧ w'.cell? ⟨fb, foff + kf * 3 + 2, none⟩ = some (.bool DO) := fun w' hk =>
    ⟨(((unhide HY).trans hk).cell hxb id).trans (hxc 0 _ rfl), (hk.cell hyb id).trans (hyc 0 _ rfl), (hk.cell hyb id).trans (hyc 1 _ rfl), (hk.cell hyb id).trans (hyc 2 _ rfl), (((unhide HK0).trans hk).cell h1 id).trans h3, (((unhide HK0).trans hk).cell h1 id).trans h4, (((unhide HK0).trans hk).cell h1 id).trans h5, (((unhide HK0).trans hk).cell h1 id).trans h6, (((unhide HK0).trans hk).cell hfb id).trans (hfc kf _ hkf).1, (((unhide HK0).trans hk).cell hfb id).trans (hfc kf _ hkf).2.1, (((unhide HK0).trans hk).cell hfb id).trans (hfc kf _ hkf).2.2⟩
  have y := SB _ (Keeps.refl _ _)
  have HSB := hide SB
  have HFI := hide (refField_at S hS (.slice (some ⟨fb, foff, none⟩) S.length sc) f _ (hf.keepF (unhide HK0)) hl8 kf _ hkf hsome)
  have HGO := fun w' (hk : Keeps (fun _ => False) w w') => hide (refKind_v Z S hS (some ⟨fb, foff, none⟩) sc (kids.size + 1) kids (by omega) o n s w' b (.slice kao kids.len kcap) (hkid.keepF hk) (hf.keepF hk) hro hw)
  rw [zeroK_ok hE] at HGO
  clear hE
  clear hx hkid hf hxc hyc SB hro hw ha h2 h3 h4 h5 h6 h8 HX HY hfc hkf hsome
  go_enter Tryd.func35, Tryd.ntmps35
  go_wp2_with (go_at_call 53; refine (unhide HFI).mono ?_; rintro e w1 ⟨rfl, hk1⟩; have HKb := hide hk1; have y1 := unhide HSB _ hk1; have HK1 := hide ((unhide HK0).trans hk1); clear hk1)
  go_region_held3 (fun w' => w'.cell? ⟨w.heap.size, 0, none⟩ = some (.slice (some ⟨fb, foff, none⟩) S.length sc) ∧ w'.cell? ⟨w.heap.size + 1, 0, none⟩ = some (.int .i64 4) ∧ w'.cell? ⟨w.heap.size + 1, 1, none⟩ = some (str f) ∧ w'.cell? ⟨w.heap.size + 1, 2, none⟩ = some (.slice (some ⟨b, off, none⟩) 1 xc) ∧ w'.cell? ⟨b, off, none⟩ = some (.int .i64 o) ∧ w'.cell? ⟨b, off + 1, none⟩ = some (.int .i64 n) ∧ w'.cell? ⟨b, off + 2, none⟩ = some (str s) ∧ w'.cell? ⟨b, off + 3, none⟩ = some (.slice kao kids.len kcap) ∧ w'.cell? ⟨fb, foff + kf * 3, none⟩ = some (str nm) ∧ w'.cell? ⟨fb, foff + kf * 3 + 1, none⟩ = some (.int .i64 1) ∧ w'.cell? ⟨fb, foff + kf * 3 + 2, none⟩ = some (.bool DO))
    (first | with_reducible exact unhide HSB _ (unhide HKe) | with_reducible exact unhide HSB _ (unhide HKd) | with_reducible exact unhide HSB _ ((unhide HKd).alloc _) | with_reducible exact unhide HSB _ (unhide HKb).drew | with_reducible exact unhide HSB _ ((unhide HKb).alloc _).drew)
    ((go_at_call 54; first
      | ((with_reducible refine (unhide (HGO w1.drew (unhide HK1).drew)).mono ?_); rintro e w2 ⟨rfl, hk2⟩; have hkd := (Keeps.refl (fun _ => False) w1).drew.trans hk2; have HKd := hide ((unhide HKb).trans hkd); obtain ⟨HZ, hzb, hzc⟩ := boxedT w2 #[.int .i64 1, .bool true, .int .i64 0] 83; have c0 := hzc 0 (.int .i64 1) rfl; have c1 := hzc 1 (.bool true) rfl; have c2 := hzc 2 (.int .i64 0) rfl; have HKe := hide ((unhide HKd).trans (unhide HZ)); have yy := unhide HSB _ (unhide HKe); have HKF := hide (((unhide HK1).trans hkd).trans (unhide HZ)); clear hk2 hkd hzc)
      | ((with_reducible refine (unhide (HGO (w1.alloc (.cells #[.int .i64 0, .bool false, .int .i64 0] 83)).drew ((unhide HK1).alloc _).drew)).mono ?_); rintro e w2 ⟨rfl, hk2⟩; have hz := zero3_at hk2; have hkd := ((Keeps.refl (fun _ => False) w1).alloc (.cells #[.int .i64 0, .bool false, .int .i64 0] 83)).drew.trans hk2; have HKd := hide ((unhide HKb).trans hkd); have m0 : World.cell? _ _ = some (Value.int .i64 0) := cell_of_blk hz 0; have m1 : World.cell? _ _ = some (Value.bool false) := cell_of_blk hz 1; have m2 : World.cell? _ _ = some (Value.int .i64 0) := cell_of_blk hz 2; have f0 := frozen_of_blk hz 0; have f1 := frozen_of_blk hz 1; have f2 := frozen_of_blk hz 2; have hst := set3 hz rfl (.int .i64 1) (.bool true) (.int .i64 0); have hbs := (unhide HKb).size; have HKe : Hid (Keeps (fun _ => False) ((w.alloc (.cells #[.slice (some ⟨fb, foff, none⟩) S.length sc] 24)).alloc (.cells #[.int .i64 4, str f, .slice (some ⟨b, off, none⟩) 1 xc, .slice to tn tc, .slice eo en ec] 64)) (((w2.setCell ⟨w1.heap.size, 0, none⟩ (.int .i64 1)).setCell ⟨w1.heap.size, 1, none⟩ (.bool true)).setCell ⟨w1.heap.size, 2, none⟩ (.int .i64 0))) := (unhide HKd).narrow hst.2 (fun q e => by omega); have yy := unhide HSB _ (unhide HKe); have c0 := hst.1.1; have c1 := hst.1.2.1; have c2 := hst.1.2.2; have HKF : Hid (Keeps (fun _ => False) w (((w2.setCell ⟨w1.heap.size, 0, none⟩ (.int .i64 1)).setCell ⟨w1.heap.size, 1, none⟩ (.bool true)).setCell ⟨w1.heap.size, 2, none⟩ (.int .i64 0))) := (unhide HK0).trans (unhide HKe); clear hk2 hkd hz hst hbs)))
  all_goals go_wp2_with fail
  all_goals (go_ret; exact ⟨rfl, unhide HKF⟩)

set_option maxRecDepth 100000 in
set_option maxHeartbeats 8000000 in
theorem own4z (Z : Zone) (S : List FieldA) (hS : schemaB S = true) (so : Option Addr) (sc : Nat) (f : Txt) (o n : Int) (s : Txt) (kids : EL) (xv : Value) (up : Nat) (to eo : Option Addr) (tn tc en ec : Nat) (w : World) (hf : FldsAt w (.slice so S.length sc) S)
    (hx : SlE Z w up xv (.cons o n s kids .nil)) (hro : rootB o n s kids.len = true) (hw : wellE kids = true) (kf : Nat) (nm : Txt) (DO : Bool) (hkf : S[kf]? = some ⟨nm, 1, DO⟩) (hsome : fieldOf S f = some ⟨nm, 1, DO⟩) (hE : kindP S o s kids = (⟨1, false⟩, 0)) :
    Calls Tryd.prog 35 #[.agg #[.slice so S.length sc], stV 4 f xv (.slice to tn tc) (.slice eo en ec)] w fun e w' => e = .returned (.int .i64 0) ∧ Keeps (fun _ => False) w w' := by
  have hl8 := schema_8 hS
  obtain ⟨xo, xc, b, off, rfl, hcap, ha, hin⟩ := hx.open
  obtain ⟨rfl, _⟩ := ha (by simp [EL.len])
  obtain ⟨h1, h2, h3, h4, h5, ⟨kao, kcap, h6, h7, h8⟩, _⟩ := hin
  have hkid : SlE Z w b (.slice kao kids.len kcap) kids := ⟨kao, kcap, rfl, h7, h8⟩
  have hlen : (EL.cons o n s kids .nil).len = 1 := rfl
  rw [hlen] at hcap ⊢
  have hkl := get_lt hkf
  obtain ⟨fb, foff, fc, fe, hfb, hfc⟩ := FldsAt.cells hf (by omega)
  simp only [Value.slice.injEq] at fe
  obtain ⟨rfl, _, rfl⟩ := fe
  have g1 : ¬ (kf : Int) < 0 := by omega
  have g1' : decide ((kf : Int) < 0) = false := decide_eq_false g1
  have i1 : (kf : Int) < (S.length : Int) := by omega
  have i0 : (0 : Int) ≤ (kf : Int) := by omega
  obtain ⟨HX, hxb, hxc⟩ := boxedT w #[.slice (some ⟨fb, foff, none⟩) S.length sc] 24
  obtain ⟨HY, hyb, hyc⟩ := boxedT (w.alloc (.cells #[.slice (some ⟨fb, foff, none⟩) S.length sc] 24)) #[.int .i64 4, str f, .slice (some ⟨b, off, none⟩) 1 xc, .slice to tn tc, .slice eo en ec] 64
  rw [World.size_alloc] at hyc hyb
  have HK0 := hide ((unhide HX).trans (unhide HY))
  have SB : ∀ w', Keeps (fun _ => False) ((w.alloc (.cells #[.slice (some ⟨fb, foff, none⟩) S.length sc] 24)).alloc (.cells #[.int .i64 4, str f, .slice (some ⟨b, off, none⟩) 1 xc, .slice to tn tc, .slice eo en ec] 64)) w' → w'.cell? ⟨w.heap.size, 0, none⟩ = some (.slice (some ⟨fb, foff, none⟩) S.length sc) ∧ w'.cell? ⟨w.heap.size + 1, 0, none⟩ = some (.int .i64 4) ∧ w'.cell? ⟨w.heap.size + 1, 1, none⟩ = some (str f) ∧ w'.cell? ⟨w.heap.size + 1, 2, none⟩ = some (.slice (some ⟨b, off, none⟩) 1 xc) ∧ w'.cell? ⟨b, off, none⟩ = some (.int .i64 o) ∧ w'.cell? ⟨b, off + 1, none⟩ = some (.int .i64 n) ∧ w'.cell? ⟨b, off + 2, none⟩ = some (str s) ∧ w'.cell? ⟨b, off + 3, none⟩ = some (.slice kao kids.len kcap) ∧ w'.cell? ⟨fb, foff + kf * 3, none⟩ = some (str nm) ∧ w'.cell? ⟨fb, foff + kf * 3 + 1, none⟩ = some (.int .i64 1) ∧ w'.cell? ⟨fb, foff + kf * 3 + 2, none⟩ = some (.bool DO) := fun w' hk =>
    ⟨(((unhide HY).trans hk).cell hxb id).trans (hxc 0 _ rfl), (hk.cell hyb id).trans (hyc 0 _ rfl), (hk.cell hyb id).trans (hyc 1 _ rfl), (hk.cell hyb id).trans (hyc 2 _ rfl), (((unhide HK0).trans hk).cell h1 id).trans h3, (((unhide HK0).trans hk).cell h1 id).trans h4, (((unhide HK0).trans hk).cell h1 id).trans h5, (((unhide HK0).trans hk).cell h1 id).trans h6, (((unhide HK0).trans hk).cell hfb id).trans (hfc kf _ hkf).1, (((unhide HK0).trans hk).cell hfb id).trans (hfc kf _ hkf).2.1, (((unhide HK0).trans hk).cell hfb id).trans (hfc kf _ hkf).2.2⟩
  have y := SB _ (Keeps.refl _ _)
  have HSB := hide SB
  have HFI := hide (refField_at S hS (.slice (some ⟨fb, foff, none⟩) S.length sc) f _ (hf.keepF (unhide HK0)) hl8 kf _ hkf hsome)
  have HGO := fun w' (hk : Keeps (fun _ => False) w w') => hide (refKind_v Z S hS (some ⟨fb, foff, none⟩) sc (kids.size + 1) kids (by omega) o n s w' b (.slice kao kids.len kcap) (hkid.keepF hk) (hf.keepF hk) hro hw)
  rw [zeroK_ok hE] at HGO
  clear hE
  clear hx hkid hf hxc hyc SB hro hw ha h2 h3 h4 h5 h6 h8 HX HY hfc hkf hsome
  go_enter Tryd.func35, Tryd.ntmps35
  go_wp2_with (go_at_call 53; refine (unhide HFI).mono ?_; rintro e w1 ⟨rfl, hk1⟩; have HKb := hide hk1; have y1 := unhide HSB _ hk1; have HK1 := hide ((unhide HK0).trans hk1); clear hk1)
  go_region_held3 (fun w' => w'.cell? ⟨w.heap.size, 0, none⟩ = some (.slice (some ⟨fb, foff, none⟩) S.length sc) ∧ w'.cell? ⟨w.heap.size + 1, 0, none⟩ = some (.int .i64 4) ∧ w'.cell? ⟨w.heap.size + 1, 1, none⟩ = some (str f) ∧ w'.cell? ⟨w.heap.size + 1, 2, none⟩ = some (.slice (some ⟨b, off, none⟩) 1 xc) ∧ w'.cell? ⟨b, off, none⟩ = some (.int .i64 o) ∧ w'.cell? ⟨b, off + 1, none⟩ = some (.int .i64 n) ∧ w'.cell? ⟨b, off + 2, none⟩ = some (str s) ∧ w'.cell? ⟨b, off + 3, none⟩ = some (.slice kao kids.len kcap) ∧ w'.cell? ⟨fb, foff + kf * 3, none⟩ = some (str nm) ∧ w'.cell? ⟨fb, foff + kf * 3 + 1, none⟩ = some (.int .i64 1) ∧ w'.cell? ⟨fb, foff + kf * 3 + 2, none⟩ = some (.bool DO))
    (first | with_reducible exact unhide HSB _ (unhide HKe) | with_reducible exact unhide HSB _ (unhide HKd) | with_reducible exact unhide HSB _ ((unhide HKd).alloc _) | with_reducible exact unhide HSB _ (unhide HKb).drew | with_reducible exact unhide HSB _ ((unhide HKb).alloc _).drew)
    ((go_at_call 54; first
      | ((with_reducible refine (unhide (HGO w1.drew (unhide HK1).drew)).mono ?_); rintro e w2 ⟨rfl, hk2⟩; have hkd := (Keeps.refl (fun _ => False) w1).drew.trans hk2; have HKd := hide ((unhide HKb).trans hkd); obtain ⟨HZ, hzb, hzc⟩ := boxedT w2 #[.int .i64 1, .bool false, .int .i64 0] 83; have c0 := hzc 0 (.int .i64 1) rfl; have c1 := hzc 1 (.bool false) rfl; have c2 := hzc 2 (.int .i64 0) rfl; have HKe := hide ((unhide HKd).trans (unhide HZ)); have yy := unhide HSB _ (unhide HKe); have HKF := hide (((unhide HK1).trans hkd).trans (unhide HZ)); clear hk2 hkd hzc)
      | ((with_reducible refine (unhide (HGO (w1.alloc (.cells #[.int .i64 0, .bool false, .int .i64 0] 83)).drew ((unhide HK1).alloc _).drew)).mono ?_); rintro e w2 ⟨rfl, hk2⟩; have hz := zero3_at hk2; have hkd := ((Keeps.refl (fun _ => False) w1).alloc (.cells #[.int .i64 0, .bool false, .int .i64 0] 83)).drew.trans hk2; have HKd := hide ((unhide HKb).trans hkd); have m0 : World.cell? _ _ = some (Value.int .i64 0) := cell_of_blk hz 0; have m1 : World.cell? _ _ = some (Value.bool false) := cell_of_blk hz 1; have m2 : World.cell? _ _ = some (Value.int .i64 0) := cell_of_blk hz 2; have f0 := frozen_of_blk hz 0; have f1 := frozen_of_blk hz 1; have f2 := frozen_of_blk hz 2; have hst := set3 hz rfl (.int .i64 1) (.bool false) (.int .i64 0); have hbs := (unhide HKb).size; have HKe : Hid (Keeps (fun _ => False) ((w.alloc (.cells #[.slice (some ⟨fb, foff, none⟩) S.length sc] 24)).alloc (.cells #[.int .i64 4, str f, .slice (some ⟨b, off, none⟩) 1 xc, .slice to tn tc, .slice eo en ec] 64)) (((w2.setCell ⟨w1.heap.size, 0, none⟩ (.int .i64 1)).setCell ⟨w1.heap.size, 1, none⟩ (.bool false)).setCell ⟨w1.heap.size, 2, none⟩ (.int .i64 0))) := (unhide HKd).narrow hst.2 (fun q e => by omega); have yy := unhide HSB _ (unhide HKe); have c0 := hst.1.1; have c1 := hst.1.2.1; have c2 := hst.1.2.2; have HKF : Hid (Keeps (fun _ => False) w (((w2.setCell ⟨w1.heap.size, 0, none⟩ (.int .i64 1)).setCell ⟨w1.heap.size, 1, none⟩ (.bool false)).setCell ⟨w1.heap.size, 2, none⟩ (.int .i64 0))) := (unhide HK0).trans (unhide HKe); clear hk2 hkd hz hst hbs)))
  all_goals go_wp2_with fail
  all_goals (go_ret; exact ⟨rfl, unhide HKF⟩)
end Go.Proofs.YtjhppnecadnekaaDoor
