import Derived.Test.YtoempeobaknkcaaGreatDoorJyas
namespace Go.Proofs.YtoempeobaknkcaaGreatDoor
open Go.RowKit Go.Maps

theorem opD {op : Int} (h : op = 1 ∨ op = 2 ∨ op = 3 ∨ op = 4) : ¬ op = 5 ∧ ¬ op = 6 ∧ ¬ op = 7 ∧ ¬ op = 8 ∧ (op == 5) = false ∧ (op == 6) = false ∧ (op == 7) = false ∧ (op == 8) = false ∧ (op != 8) = true := by
  rcases h with rfl | rfl | rfl | rfl <;> decide
theorem bne_of {a b : Int} (h : a ≠ b) : (a != b) = true := by simpa using h
theorem beq_of {a b : Int} (h : ¬ a = b) : (a == b) = false := by simpa using h
/-- What a set or a change of a field answers, by the kinds. -/
def OwnA (op T : Int) (O : Bool) (E DT : Int) (DO : Bool) (r : Int) : Prop :=
  (E ≠ 0 ∧ r = E) ∨ (E = 0 ∧ op = 1 ∧ T ≠ DT ∧ r = 91) ∨ (E = 0 ∧ op = 1 ∧ T = DT ∧ O = true ∧ DO = false ∧ r = 92) ∨ (E = 0 ∧ op = 1 ∧ T = DT ∧ O = false ∧ r = 0) ∨ (E = 0 ∧ op = 1 ∧ T = DT ∧ O = true ∧ DO = true ∧ r = 0) ∨
  (E = 0 ∧ ¬ op = 1 ∧ DT ≠ 1 ∧ r = 91) ∨ (E = 0 ∧ ¬ op = 1 ∧ DT = 1 ∧ T ≠ 1 ∧ r = 91) ∨ (E = 0 ∧ ¬ op = 1 ∧ DT = 1 ∧ T = 1 ∧ O = true ∧ r = 92) ∨ (E = 0 ∧ ¬ op = 1 ∧ DT = 1 ∧ T = 1 ∧ O = false ∧ r = 0)
def OwnB (T : Int) (O : Bool) (E r : Int) : Prop := (E ≠ 0 ∧ r = E) ∨ (E = 0 ∧ T ≠ 2 ∧ r = 91) ∨ (E = 0 ∧ T = 2 ∧ O = true ∧ r = 92) ∨ (E = 0 ∧ T = 2 ∧ O = false ∧ r = 0)
set_option maxRecDepth 100000 in
set_option maxHeartbeats 8000000 in
theorem ownA (op : Int) (hop : op = 1 ∨ op = 2 ∨ op = 3 ∨ op = 4) (Z : Zone) (S : List FieldA) (hS : schemaB S = true) (so : Option Addr) (sc : Nat) (f : Txt) (o n : Int) (s : Txt) (kids : EL) (xv : Value) (up : Nat) (tz eo : Option Addr) (tn tc en ec : Nat) (w : World) (hf : FldsAt w (.slice so S.length sc) S)
    (hx : SlE Z w up xv (.cons o n s kids .nil)) (hro : rootB o n s kids.len = true) (hw : wellE kids = true) (kf : Nat) (nm : Txt) (DT : Int) (DO : Bool) (hkf : S[kf]? = some ⟨nm, DT, DO⟩) (hsome : fieldOf S f = some ⟨nm, DT, DO⟩) (T : Int) (O : Bool) (E : Int) (hE : zeroK (kindP S o s kids) = (⟨T, O⟩, E)) (r : Int) (hr : OwnA op T O E DT DO r) :
    Calls Tryz.prog 43 #[.agg #[.slice so S.length sc], stV op f xv (.slice tz tn tc) (.slice eo en ec)] w fun e w' => e = .returned (.int .i64 r) ∧ Keeps (fun _ => False) w w' := by
  have hl8 := schema_8 hS
  obtain ⟨xo, xc, b, off, rfl, hcap, ha, hin⟩ := hx.open
  obtain ⟨rfl, _⟩ := ha (by simp [EL.len])
  obtain ⟨h1, h2, h3, h4, h5, ⟨kao, kcap, h6, h7, h8⟩, _⟩ := hin
  have hkid : SlE Z w b (.slice kao kids.len kcap) kids := ⟨kao, kcap, rfl, h7, h8⟩
  have hlen : (EL.cons o n s kids .nil).len = 1 := rfl
  rw [hlen] at hcap ⊢
  have hkl := get_lt hkf
  obtain ⟨fb, foff, fc, fe, hfb, hfc⟩ := FldsAt.cells hf (by omega)
  simp only [Value.slice.injEq] at fe
  obtain ⟨rfl, _, rfl⟩ := fe
  have g1 : ¬ (kf : Int) < 0 := by omega
  have g1' : decide ((kf : Int) < 0) = false := decide_eq_false g1
  have i1 : (kf : Int) < (S.length : Int) := by omega
  have i0 : (0 : Int) ≤ (kf : Int) := by omega
  obtain ⟨HX, hxb, hxc⟩ := boxedT w #[.slice (some ⟨fb, foff, none⟩) S.length sc] 24
  obtain ⟨HY, hyb, hyc⟩ := boxedT (w.alloc (.cells #[.slice (some ⟨fb, foff, none⟩) S.length sc] 24)) #[.int .i64 op, str f, .slice (some ⟨b, off, none⟩) 1 xc, .slice tz tn tc, .slice eo en ec] 53
  rw [World.size_alloc] at hyc hyb
  have HK0 := hide ((unhide HX).trans (unhide HY))
  have SB : ∀ w', Keeps (fun _ => False) ((w.alloc (.cells #[.slice (some ⟨fb, foff, none⟩) S.length sc] 24)).alloc (.cells #[.int .i64 op, str f, .slice (some ⟨b, off, none⟩) 1 xc, .slice tz tn tc, .slice eo en ec] 53)) w' → w'.cell? ⟨w.heap.size, 0, none⟩ = some (.slice (some ⟨fb, foff, none⟩) S.length sc) ∧ w'.cell? ⟨w.heap.size + 1, 0, none⟩ = some (.int .i64 op) ∧ w'.cell? ⟨w.heap.size + 1, 1, none⟩ = some (str f) ∧ w'.cell? ⟨w.heap.size + 1, 2, none⟩ = some (.slice (some ⟨b, off, none⟩) 1 xc) ∧ w'.cell? ⟨b, off, none⟩ = some (.int .i64 o) ∧ w'.cell? ⟨b, off + 1, none⟩ = some (.int .i64 n) ∧ w'.cell? ⟨b, off + 2, none⟩ = some (str s) ∧ w'.cell? ⟨b, off + 3, none⟩ = some (.slice kao kids.len kcap) ∧ w'.cell? ⟨fb, foff + kf * 3, none⟩ = some (str nm) ∧ w'.cell? ⟨fb, foff + kf * 3 + 1, none⟩ = some (.int .i64 DT) ∧ w'.cell? ⟨fb, foff + kf * 3 + 2, none⟩ = some (.bool DO) := fun w' hk =>
    ⟨(((unhide HY).trans hk).cell hxb id).trans (hxc 0 _ rfl), (hk.cell hyb id).trans (hyc 0 _ rfl), (hk.cell hyb id).trans (hyc 1 _ rfl), (hk.cell hyb id).trans (hyc 2 _ rfl), (((unhide HK0).trans hk).cell h1 id).trans h3, (((unhide HK0).trans hk).cell h1 id).trans h4, (((unhide HK0).trans hk).cell h1 id).trans h5, (((unhide HK0).trans hk).cell h1 id).trans h6, (((unhide HK0).trans hk).cell hfb id).trans (hfc kf _ hkf).1, (((unhide HK0).trans hk).cell hfb id).trans (hfc kf _ hkf).2.1, (((unhide HK0).trans hk).cell hfb id).trans (hfc kf _ hkf).2.2⟩
  have y := SB _ (Keeps.refl _ _)
  have HSB := hide SB
  have HFI := hide (refField_at S hS (.slice (some ⟨fb, foff, none⟩) S.length sc) f _ (hf.keepF (unhide HK0)) hl8 kf _ hkf hsome)
  have HGO := fun w' (hk : Keeps (fun _ => False) w w') => hide (refKind_v Z S hS (some ⟨fb, foff, none⟩) sc (kids.size + 1) kids (by omega) o n s w' b (.slice kao kids.len kcap) (hkid.keepF hk) (hf.keepF hk) hro hw)
  rw [hE] at HGO
  obtain ⟨n5, n6, n7, n8, b5, b6, b7, b8, c8⟩ := opD hop
  have HR := hide hr
  clear hr hop
  clear hE
  clear hx hkid hf hxc hyc SB hro hw ha h2 h3 h4 h5 h6 h8 HX HY hfc hkf hsome
  go_enter Tryz.func43, Tryz.ntmps43
  go_wp2_with (go_at_call 64; refine (unhide HFI).mono ?_; rintro e w1 ⟨rfl, hk1⟩; have HKb := hide hk1; have y1 := unhide HSB _ hk1; have HK1 := hide ((unhide HK0).trans hk1); clear hk1)
  go_region_held3 (fun w' => w'.cell? ⟨w.heap.size, 0, none⟩ = some (.slice (some ⟨fb, foff, none⟩) S.length sc) ∧ w'.cell? ⟨w.heap.size + 1, 0, none⟩ = some (.int .i64 op) ∧ w'.cell? ⟨w.heap.size + 1, 1, none⟩ = some (str f) ∧ w'.cell? ⟨w.heap.size + 1, 2, none⟩ = some (.slice (some ⟨b, off, none⟩) 1 xc) ∧ w'.cell? ⟨b, off, none⟩ = some (.int .i64 o) ∧ w'.cell? ⟨b, off + 1, none⟩ = some (.int .i64 n) ∧ w'.cell? ⟨b, off + 2, none⟩ = some (str s) ∧ w'.cell? ⟨b, off + 3, none⟩ = some (.slice kao kids.len kcap) ∧ w'.cell? ⟨fb, foff + kf * 3, none⟩ = some (str nm) ∧ w'.cell? ⟨fb, foff + kf * 3 + 1, none⟩ = some (.int .i64 DT) ∧ w'.cell? ⟨fb, foff + kf * 3 + 2, none⟩ = some (.bool DO))
    (first | with_reducible exact unhide HSB _ (unhide HKe) | with_reducible exact unhide HSB _ (unhide HKd) | with_reducible exact unhide HSB _ ((unhide HKd).alloc _) | with_reducible exact unhide HSB _ (unhide HKb).drew | with_reducible exact unhide HSB _ ((unhide HKb).alloc _).drew)
    ((go_at_call 65; first
      | ((with_reducible refine (unhide (HGO w1.drew (unhide HK1).drew)).mono ?_); rintro e w2 ⟨rfl, hk2⟩; have hkd := (Keeps.refl (fun _ => False) w1).drew.trans hk2; have HKd := hide ((unhide HKb).trans hkd); obtain ⟨HZ, hzb, hzc⟩ := boxedT w2 #[.int .i64 T, .bool O, .int .i64 E] 111; have c0 := hzc 0 (.int .i64 T) rfl; have c1 := hzc 1 (.bool O) rfl; have c2 := hzc 2 (.int .i64 E) rfl; have HKe := hide ((unhide HKd).trans (unhide HZ)); have yy := unhide HSB _ (unhide HKe); have HKF := hide (((unhide HK1).trans hkd).trans (unhide HZ)); clear hk2 hkd hzc)
      | ((with_reducible refine (unhide (HGO (w1.alloc (.cells #[.int .i64 0, .bool false, .int .i64 0] 111)).drew ((unhide HK1).alloc _).drew)).mono ?_); rintro e w2 ⟨rfl, hk2⟩; have hz := zero3_at hk2; have hkd := ((Keeps.refl (fun _ => False) w1).alloc (.cells #[.int .i64 0, .bool false, .int .i64 0] 111)).drew.trans hk2; have HKd := hide ((unhide HKb).trans hkd); have m0 : World.cell? _ _ = some (Value.int .i64 0) := cell_of_blk hz 0; have m1 : World.cell? _ _ = some (Value.bool false) := cell_of_blk hz 1; have m2 : World.cell? _ _ = some (Value.int .i64 0) := cell_of_blk hz 2; have f0 := frozen_of_blk hz 0; have f1 := frozen_of_blk hz 1; have f2 := frozen_of_blk hz 2; have hst := set3 hz rfl (.int .i64 T) (.bool O) (.int .i64 E); have hbs := (unhide HKb).size; have HKe : Hid (Keeps (fun _ => False) ((w.alloc (.cells #[.slice (some ⟨fb, foff, none⟩) S.length sc] 24)).alloc (.cells #[.int .i64 op, str f, .slice (some ⟨b, off, none⟩) 1 xc, .slice tz tn tc, .slice eo en ec] 53)) (((w2.setCell ⟨w1.heap.size, 0, none⟩ (.int .i64 T)).setCell ⟨w1.heap.size, 1, none⟩ (.bool O)).setCell ⟨w1.heap.size, 2, none⟩ (.int .i64 E))) := (unhide HKd).narrow hst.2 (fun q e => by omega); have yy := unhide HSB _ (unhide HKe); have c0 := hst.1.1; have c1 := hst.1.2.1; have c2 := hst.1.2.2; have HKF : Hid (Keeps (fun _ => False) w (((w2.setCell ⟨w1.heap.size, 0, none⟩ (.int .i64 T)).setCell ⟨w1.heap.size, 1, none⟩ (.bool O)).setCell ⟨w1.heap.size, 2, none⟩ (.int .i64 E))) := (unhide HK0).trans (unhide HKe); clear hk2 hkd hz hst hbs)))
  all_goals rcases unhide HR with ⟨q, rfl⟩ | ⟨rfl, rfl, q, rfl⟩ | ⟨rfl, rfl, rfl, rfl, rfl, rfl⟩ | ⟨rfl, rfl, rfl, rfl, rfl⟩ | ⟨rfl, rfl, rfl, rfl, rfl, rfl⟩ | ⟨rfl, n1, q, rfl⟩ | ⟨rfl, n1, rfl, q, rfl⟩ | ⟨rfl, n1, rfl, rfl, rfl, rfl⟩ | ⟨rfl, n1, rfl, rfl, rfl, rfl⟩
  all_goals clear HR
  all_goals (try have q2 := bne_of q)
  all_goals (try have b1 := beq_of n1)
  all_goals (try clear q)
  all_goals go_wp2_with fail
  all_goals (go_ret; exact ⟨rfl, unhide HKF⟩)
set_option maxRecDepth 100000 in
set_option maxHeartbeats 4000000 in
theorem ownX (op : Int) (hop : op = 1 ∨ op = 2 ∨ op = 3 ∨ op = 4) (S : List FieldA) (hS : schemaB S = true) (so : Option Addr) (sc : Nat) (f : Txt) (xo tz eo : Option Addr) (xn xc tn tc en ec : Nat) (w : World) (hf : FldsAt w (.slice so S.length sc) S) (hno : fieldOf S f = none) :
    Calls Tryz.prog 43 #[.agg #[.slice so S.length sc], stV op f (.slice xo xn xc) (.slice tz tn tc) (.slice eo en ec)] w fun e w' => e = .returned (.int .i64 90) ∧ Keeps (fun _ => False) w w' := by
  have hl8 := schema_8 hS
  obtain ⟨n5, n6, n7, n8, b5, b6, b7, b8, c8⟩ := opD hop
  clear hop
  obtain ⟨HX, hxb, hxc⟩ := boxedT w #[.slice so S.length sc] 24
  obtain ⟨HY, hyb, hyc⟩ := boxedT (w.alloc (.cells #[.slice so S.length sc] 24)) #[.int .i64 op, str f, .slice xo xn xc, .slice tz tn tc, .slice eo en ec] 53
  rw [World.size_alloc] at hyc hyb
  have HK0 := hide ((unhide HX).trans (unhide HY))
  have SB : ∀ w', Keeps (fun _ => False) ((w.alloc (.cells #[.slice so S.length sc] 24)).alloc (.cells #[.int .i64 op, str f, .slice xo xn xc, .slice tz tn tc, .slice eo en ec] 53)) w' → w'.cell? ⟨w.heap.size, 0, none⟩ = some (.slice so S.length sc) ∧ w'.cell? ⟨w.heap.size + 1, 0, none⟩ = some (.int .i64 op) ∧ w'.cell? ⟨w.heap.size + 1, 1, none⟩ = some (str f) := fun w' hk =>
    ⟨(((unhide HY).trans hk).cell hxb id).trans (hxc 0 _ rfl), (hk.cell hyb id).trans (hyc 0 _ rfl), (hk.cell hyb id).trans (hyc 1 _ rfl)⟩
  have y := SB _ (Keeps.refl _ _)
  have HSB := hide SB
  have HFI := hide (refField_no S (.slice so S.length sc) f _ (hf.keepF (unhide HK0)) hl8 hno)
  clear hf hxc hyc SB HX HY hno
  go_enter Tryz.func43, Tryz.ntmps43
  go_wp2_with (go_at_call 64; refine (unhide HFI).mono ?_; rintro e w1 ⟨rfl, hk1⟩; have y1 := unhide HSB _ hk1; have HK0 := hide ((unhide HK0).trans hk1); clear hk1)
  go_ret
  exact ⟨rfl, unhide HK0⟩
end Go.Proofs.YtoempeobaknkcaaGreatDoor
