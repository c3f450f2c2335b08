import Derived.Test.YtjhppnecadnekaaDoorRo
import Derived.Test.YtjhppnecadnekaaDoorJq
namespace Go.Proofs.YtjhppnecadnekaaDoor
open Go.RowKit Go.Maps

/-- The kind of a statement's first expression on a row; 0, if there is none. -/
def headG (S : List FieldA) (rk : List Int) : EL → Option Int
  | .nil => some 0
  | .cons o _ s kids _ => nodeG S rk o s kids
/-- Does a statement by itself go wrong on a row? (Of what its operation asks of its field.) -/
def fieldW (S : List FieldA) (op : Int) (f : Txt) (k : Int) : Bool := match fieldOf S f with
  | none => true
  | some d => if op = 5 then !d.opt else if op = 1 then k != d.type && (k != 0 || !d.opt) else d.type != 1 || k != 1
def wrongK (S : List FieldA) (op : Int) (f : Txt) : Option Int → Bool
  | none => true
  | some k => if op = 6 ∨ op = 7 then false else if op = 8 then k != 2 else fieldW S op f k
def wrongG (S : List FieldA) (rk : List Int) (op : Int) (f : Txt) (x : EL) : Bool := wrongK S op f (headG S rk x)
theorem wrongK_f {S : List FieldA} {op : Int} {f : Txt} {k : Int} (h : op = 1 ∨ op = 2 ∨ op = 3 ∨ op = 4 ∨ op = 5) : wrongK S op f (some k) = fieldW S op f k := by
  unfold wrongK
  simp only
  rw [if_neg (by omega), if_neg (by omega)]

set_option maxRecDepth 100000 in
set_option maxHeartbeats 8000000 in
theorem wrong8 (Z : Zone) (S : List FieldA) (hS : schemaB S = true) (so : Option Addr) (sc : Nat) (R : List ValA) (ro : Option Addr) (rc : Nat) (hR : R.length = S.length ∨ R.length = 0) (f : Txt) (o n : Int) (s : Txt) (kids : EL) (xv : Value) (up : Nat) (to eo : Option Addr) (tn tc en ec : Nat) (w : World) (hf : FldsAt w (.slice so S.length sc) S) (hr : ValsAt w (.slice ro R.length rc) R)
    (hx : SlE Z w up xv (.cons o n s kids .nil)) (hro : rootB o n s kids.len = true) (hw : wellE kids = true) :
    Calls Tryd.prog 33 #[.agg #[.slice so S.length sc], .slice ro R.length rc, stV 8 f xv (.slice to tn tc) (.slice eo en ec)] w fun e w' => e = .returned (.bool (wrongG S (R.map ValA.kind) 8 f (.cons o n s kids .nil))) ∧ Keeps (fun _ => False) w w' := by
  have hl8 := schema_8 hS
  obtain ⟨xo, xc, b, off, rfl, hcap, ha, hin⟩ := hx.open
  obtain ⟨rfl, _⟩ := ha (by simp [EL.len])
  obtain ⟨h1, h2, h3, h4, h5, ⟨kao, kcap, h6, h7, h8⟩, _⟩ := hin
  have hkid : SlE Z w b (.slice kao kids.len kcap) kids := ⟨kao, kcap, rfl, h7, h8⟩
  have hlen : (EL.cons o n s kids .nil).len = 1 := rfl
  rw [hlen] at hcap ⊢
  obtain ⟨HX, hxb, hxc⟩ := boxedT w #[.slice so S.length sc] 24
  obtain ⟨HY, hyb, hyc⟩ := boxedT (w.alloc (.cells #[.slice so S.length sc] 24)) #[.int .i64 8, str f, .slice (some ⟨b, off, none⟩) 1 xc, .slice to tn tc, .slice eo en ec] 64
  rw [World.size_alloc] at hyc hyb
  have HK0 := hide ((unhide HX).trans (unhide HY))
  have SB : ∀ w', Keeps (fun _ => False) ((w.alloc (.cells #[.slice so S.length sc] 24)).alloc (.cells #[.int .i64 8, str f, .slice (some ⟨b, off, none⟩) 1 xc, .slice to tn tc, .slice eo en ec] 64)) w' → w'.cell? ⟨w.heap.size, 0, none⟩ = some (.slice so S.length sc) ∧ w'.cell? ⟨w.heap.size + 1, 0, none⟩ = some (.int .i64 8) ∧ w'.cell? ⟨w.heap.size + 1, 1, none⟩ = some (str f) ∧ w'.cell? ⟨w.heap.size + 1, 2, none⟩ = some (.slice (some ⟨b, off, none⟩) 1 xc) ∧ w'.cell? ⟨b, off, none⟩ = some (.int .i64 o) ∧ w'.cell? ⟨b, off + 1, none⟩ = some (.int .i64 n) ∧ w'.cell? ⟨b, off + 2, none⟩ = some (str s) ∧ w'.cell? ⟨b, off + 3, none⟩ = some (.slice kao kids.len kcap) := fun w' hk =>
    ⟨(((unhide HY).trans hk).cell hxb id).trans (hxc 0 _ rfl), (hk.cell hyb id).trans (hyc 0 _ rfl), (hk.cell hyb id).trans (hyc 1 _ rfl), (hk.cell hyb id).trans (hyc 2 _ rfl), (((unhide HK0).trans hk).cell h1 id).trans h3, (((unhide HK0).trans hk).cell h1 id).trans h4, (((unhide HK0).trans hk).cell h1 id).trans h5, (((unhide HK0).trans hk).cell h1 id).trans h6⟩
  have y := SB _ (Keeps.refl _ _)
  have HSB := hide SB
  have HFI := hide (find_v S (.slice so S.length sc) f _ (hf.keepF (unhide HK0)) hl8)
  have HGO := fun w' (hk : Keeps (fun _ => False) w w') => hide (goes_v Z S hS so sc R ro rc hR (kids.size + 1) kids (by omega) o n s w' b (.slice kao kids.len kcap) (hkid.keepF hk) (hf.keepF hk) (hr.keepF hk) hro hw)
  rw [show wrongG S (R.map ValA.kind) 8 f (.cons o n s kids .nil) = wrongK S 8 f (nodeG S (R.map ValA.kind) o s kids) from rfl]
  obtain ⟨G, hG⟩ : ∃ g, g = nodeG S (R.map ValA.kind) o s kids := ⟨_, rfl⟩
  rw [← hG] at HGO ⊢
  have HF := hide hf
  clear hx hkid hr hf hxc hyc SB hro hw ha h2 h3 h4 h5 h6 h8 hG HX HY hR
  go_enter Tryd.func33, Tryd.ntmps33
  go_wp2_with (go_at_call 51; refine (unhide HFI).mono ?_; rintro e w1 ⟨⟨ix, rfl, hix⟩, hk1⟩; have HIX := hide hix; have HKb := hide hk1; have y1 := unhide HSB _ hk1; have HK1 := hide ((unhide HK0).trans hk1); clear hk1 hix)
  go_region_held3 (fun w' => w'.cell? ⟨w.heap.size, 0, none⟩ = some (.slice so S.length sc) ∧ w'.cell? ⟨w.heap.size + 1, 0, none⟩ = some (.int .i64 8) ∧ w'.cell? ⟨w.heap.size + 1, 1, none⟩ = some (str f) ∧ w'.cell? ⟨w.heap.size + 1, 2, none⟩ = some (.slice (some ⟨b, off, none⟩) 1 xc) ∧ w'.cell? ⟨b, off, none⟩ = some (.int .i64 o) ∧ w'.cell? ⟨b, off + 1, none⟩ = some (.int .i64 n) ∧ w'.cell? ⟨b, off + 2, none⟩ = some (str s) ∧ w'.cell? ⟨b, off + 3, none⟩ = some (.slice kao kids.len kcap))
    (first | with_reducible exact unhide HSB _ (unhide HKb).drew | with_reducible exact unhide HSB _ (unhide HKc))
    ((go_at_call 52; refine (unhide (HGO w1.drew (unhide HK1).drew)).mono ?_; rintro e w2 ⟨⟨T, ok, rfl, hok⟩, hk2⟩; have HOK := hide hok; have hkd := (Keeps.refl (fun _ => False) w1).drew.trans hk2; have HKc := hide ((unhide HKb).trans hkd); have HK2 := hide ((unhide HK1).trans hkd); have y2 := unhide HSB _ (unhide HKc); clear hk2 hkd hok))
  cases G with
  | none =>
    obtain rfl : ok = false := unhide HOK
    go_wp2_with fail
    go_ret
    exact ⟨rfl, unhide HK2⟩
  | some G =>
    obtain ⟨rfl, rfl⟩ : ok = true ∧ T = G := unhide HOK
    go_wp2_with fail
    go_ret
    exact ⟨rfl, unhide HK2⟩

set_option maxRecDepth 100000 in
set_option maxHeartbeats 8000000 in
theorem wrong1 (Z : Zone) (S : List FieldA) (hS : schemaB S = true) (so : Option Addr) (sc : Nat) (R : List ValA) (ro : Option Addr) (rc : Nat) (hR : R.length = S.length ∨ R.length = 0) (f : Txt) (o n : Int) (s : Txt) (kids : EL) (xv : Value) (up : Nat) (to eo : Option Addr) (tn tc en ec : Nat) (w : World) (hf : FldsAt w (.slice so S.length sc) S) (hr : ValsAt w (.slice ro R.length rc) R)
    (hx : SlE Z w up xv (.cons o n s kids .nil)) (hro : rootB o n s kids.len = true) (hw : wellE kids = true) :
    Calls Tryd.prog 33 #[.agg #[.slice so S.length sc], .slice ro R.length rc, stV 1 f xv (.slice to tn tc) (.slice eo en ec)] w fun e w' => e = .returned (.bool (wrongG S (R.map ValA.kind) 1 f (.cons o n s kids .nil))) ∧ Keeps (fun _ => False) w w' := by
  have hl8 := schema_8 hS
  obtain ⟨xo, xc, b, off, rfl, hcap, ha, hin⟩ := hx.open
  obtain ⟨rfl, _⟩ := ha (by simp [EL.len])
  obtain ⟨h1, h2, h3, h4, h5, ⟨kao, kcap, h6, h7, h8⟩, _⟩ := hin
  have hkid : SlE Z w b (.slice kao kids.len kcap) kids := ⟨kao, kcap, rfl, h7, h8⟩
  have hlen : (EL.cons o n s kids .nil).len = 1 := rfl
  rw [hlen] at hcap ⊢
  obtain ⟨HX, hxb, hxc⟩ := boxedT w #[.slice so S.length sc] 24
  obtain ⟨HY, hyb, hyc⟩ := boxedT (w.alloc (.cells #[.slice so S.length sc] 24)) #[.int .i64 1, str f, .slice (some ⟨b, off, none⟩) 1 xc, .slice to tn tc, .slice eo en ec] 64
  rw [World.size_alloc] at hyc hyb
  have HK0 := hide ((unhide HX).trans (unhide HY))
  have SB : ∀ w', Keeps (fun _ => False) ((w.alloc (.cells #[.slice so S.length sc] 24)).alloc (.cells #[.int .i64 1, str f, .slice (some ⟨b, off, none⟩) 1 xc, .slice to tn tc, .slice eo en ec] 64)) w' → w'.cell? ⟨w.heap.size, 0, none⟩ = some (.slice so S.length sc) ∧ w'.cell? ⟨w.heap.size + 1, 0, none⟩ = some (.int .i64 1) ∧ w'.cell? ⟨w.heap.size + 1, 1, none⟩ = some (str f) ∧ w'.cell? ⟨w.heap.size + 1, 2, none⟩ = some (.slice (some ⟨b, off, none⟩) 1 xc) ∧ w'.cell? ⟨b, off, none⟩ = some (.int .i64 o) ∧ w'.cell? ⟨b, off + 1, none⟩ = some (.int .i64 n) ∧ w'.cell? ⟨b, off + 2, none⟩ = some (str s) ∧ w'.cell? ⟨b, off + 3, none⟩ = some (.slice kao kids.len kcap) := fun w' hk =>
    ⟨(((unhide HY).trans hk).cell hxb id).trans (hxc 0 _ rfl), (hk.cell hyb id).trans (hyc 0 _ rfl), (hk.cell hyb id).trans (hyc 1 _ rfl), (hk.cell hyb id).trans (hyc 2 _ rfl), (((unhide HK0).trans hk).cell h1 id).trans h3, (((unhide HK0).trans hk).cell h1 id).trans h4, (((unhide HK0).trans hk).cell h1 id).trans h5, (((unhide HK0).trans hk).cell h1 id).trans h6⟩
  have y := SB _ (Keeps.refl _ _)
  have HSB := hide SB
  have HFI := hide (find_v S (.slice so S.length sc) f _ (hf.keepF (unhide HK0)) hl8)
  have HGO := fun w' (hk : Keeps (fun _ => False) w w') => hide (goes_v Z S hS so sc R ro rc hR (kids.size + 1) kids (by omega) o n s w' b (.slice kao kids.len kcap) (hkid.keepF hk) (hf.keepF hk) (hr.keepF hk) hro hw)
  rw [show wrongG S (R.map ValA.kind) 1 f (.cons o n s kids .nil) = wrongK S 1 f (nodeG S (R.map ValA.kind) o s kids) from rfl]
  obtain ⟨G, hG⟩ : ∃ g, g = nodeG S (R.map ValA.kind) o s kids := ⟨_, rfl⟩
  rw [← hG] at HGO ⊢
  have HF := hide hf
  clear hx hkid hr hf hxc hyc SB hro hw ha h2 h3 h4 h5 h6 h8 hG HX HY hR
  go_enter Tryd.func33, Tryd.ntmps33
  go_wp2_with (go_at_call 51; refine (unhide HFI).mono ?_; rintro e w1 ⟨⟨ix, rfl, hix⟩, hk1⟩; have HIX := hide hix; have HKb := hide hk1; have y1 := unhide HSB _ hk1; have HK1 := hide ((unhide HK0).trans hk1); clear hk1 hix)
  go_region_held3 (fun w' => w'.cell? ⟨w.heap.size, 0, none⟩ = some (.slice so S.length sc) ∧ w'.cell? ⟨w.heap.size + 1, 0, none⟩ = some (.int .i64 1) ∧ w'.cell? ⟨w.heap.size + 1, 1, none⟩ = some (str f) ∧ w'.cell? ⟨w.heap.size + 1, 2, none⟩ = some (.slice (some ⟨b, off, none⟩) 1 xc) ∧ w'.cell? ⟨b, off, none⟩ = some (.int .i64 o) ∧ w'.cell? ⟨b, off + 1, none⟩ = some (.int .i64 n) ∧ w'.cell? ⟨b, off + 2, none⟩ = some (str s) ∧ w'.cell? ⟨b, off + 3, none⟩ = some (.slice kao kids.len kcap))
    (first | with_reducible exact unhide HSB _ (unhide HKb).drew | with_reducible exact unhide HSB _ (unhide HKc))
    ((go_at_call 52; refine (unhide (HGO w1.drew (unhide HK1).drew)).mono ?_; rintro e w2 ⟨⟨T, ok, rfl, hok⟩, hk2⟩; have HOK := hide hok; have hkd := (Keeps.refl (fun _ => False) w1).drew.trans hk2; have HKc := hide ((unhide HKb).trans hkd); have HK2 := hide ((unhide HK1).trans hkd); have y2 := unhide HSB _ (unhide HKc); clear hk2 hkd hok))
  cases G with
  | none =>
    obtain rfl : ok = false := unhide HOK
    go_wp2_with fail
    go_ret
    exact ⟨rfl, unhide HK2⟩
  | some G =>
    obtain ⟨rfl, rfl⟩ : ok = true ∧ T = G := unhide HOK
    rcases unhide HIX with ⟨hno, rfl⟩ | ⟨kf, d, hkf, hsome, rfl⟩
    · have HW : Hid (wrongK S 1 f (some T) = true) := by show _ = _; rw [wrongK_f (by omega)]; unfold fieldW; rw [hno]
      clear hno
      go_wp2_with fail
      go_ret
      exact ⟨ret_bool (unhide HW).symm, unhide HK2⟩
    · have hkl := get_lt hkf
      obtain ⟨fb, foff, fc, fe, hfb, hfc⟩ := ((unhide HF).keepF (unhide HK2)).cells (by omega)
      simp only [Value.slice.injEq] at fe
      obtain ⟨rfl, _, rfl⟩ := fe
      obtain ⟨p0, p1, p2⟩ := hfc kf d hkf
      have HW : Hid (wrongK S 1 f (some T) = (T != d.type && (T != 0 || !d.opt))) := by
        show _ = _
        rw [wrongK_f (by omega)]
        unfold fieldW
        rw [hsome]
        rfl
      have g1 : ¬ (kf : Int) < 0 := by omega
      have i1 : (kf : Int) < (S.length : Int) := by omega
      have i0 : (0 : Int) ≤ (kf : Int) := by omega
      obtain ⟨nm, DT, DO⟩ := d
      dsimp only at p0 p1 p2 HW
      obtain ⟨HZ, hzb, hzc⟩ := boxedT w2 #[str nm, .int .i64 DT, .bool DO] 45
      have z1 := hzc 1 (.int .i64 DT) rfl
      have z2 := hzc 2 (.bool DO) rfl
      have y3 := unhide HSB _ ((unhide HKc).trans (unhide HZ))
      clear hfc hkf hsome hzc
      cases n1 : (T != DT) with
      | false =>
        rw [n1] at HW
        go_wp2_with fail
        go_ret
        exact ⟨ret_bool (unhide HW).symm, (unhide HK2).trans (unhide HZ)⟩
      | true =>
        rw [n1] at HW
        cases n2 : (T != 0) with
        | true =>
          rw [n2] at HW
          go_wp2_with fail
          go_ret
          exact ⟨ret_bool (unhide HW).symm, (unhide HK2).trans (unhide HZ)⟩
        | false =>
          rw [n2] at HW
          cases DO with
          | true =>
            go_wp2_with fail
            go_ret
            exact ⟨ret_bool (unhide HW).symm, (unhide HK2).trans (unhide HZ)⟩
          | false =>
            go_wp2_with fail
            go_ret
            exact ⟨ret_bool (unhide HW).symm, (unhide HK2).trans (unhide HZ)⟩

set_option maxRecDepth 100000 in
set_option maxHeartbeats 8000000 in
theorem wrong2 (Z : Zone) (S : List FieldA) (hS : schemaB S = true) (so : Option Addr) (sc : Nat) (R : List ValA) (ro : Option Addr) (rc : Nat) (hR : R.length = S.length ∨ R.length = 0) (f : Txt) (o n : Int) (s : Txt) (kids : EL) (xv : Value) (up : Nat) (to eo : Option Addr) (tn tc en ec : Nat) (w : World) (hf : FldsAt w (.slice so S.length sc) S) (hr : ValsAt w (.slice ro R.length rc) R)
    (hx : SlE Z w up xv (.cons o n s kids .nil)) (hro : rootB o n s kids.len = true) (hw : wellE kids = true) :
    Calls Tryd.prog 33 #[.agg #[.slice so S.length sc], .slice ro R.length rc, stV 2 f xv (.slice to tn tc) (.slice eo en ec)] w fun e w' => e = .returned (.bool (wrongG S (R.map ValA.kind) 2 f (.cons o n s kids .nil))) ∧ Keeps (fun _ => False) w w' := by
  have hl8 := schema_8 hS
  obtain ⟨xo, xc, b, off, rfl, hcap, ha, hin⟩ := hx.open
  obtain ⟨rfl, _⟩ := ha (by simp [EL.len])
  obtain ⟨h1, h2, h3, h4, h5, ⟨kao, kcap, h6, h7, h8⟩, _⟩ := hin
  have hkid : SlE Z w b (.slice kao kids.len kcap) kids := ⟨kao, kcap, rfl, h7, h8⟩
  have hlen : (EL.cons o n s kids .nil).len = 1 := rfl
  rw [hlen] at hcap ⊢
  obtain ⟨HX, hxb, hxc⟩ := boxedT w #[.slice so S.length sc] 24
  obtain ⟨HY, hyb, hyc⟩ := boxedT (w.alloc (.cells #[.slice so S.length sc] 24)) #[.int .i64 2, str f, .slice (some ⟨b, off, none⟩) 1 xc, .slice to tn tc, .slice eo en ec] 64
  rw [World.size_alloc] at hyc hyb
  have HK0 := hide ((unhide HX).trans (unhide HY))
  have SB : ∀ w', Keeps (fun _ => False) ((w.alloc (.cells #[.slice so S.length sc] 24)).alloc (.cells #[.int .i64 2, str f, .slice (some ⟨b, off, none⟩) 1 xc, .slice to tn tc, .slice eo en ec] 64)) w' → w'.cell? ⟨w.heap.size, 0, none⟩ = some (.slice so S.length sc) ∧ w'.cell? ⟨w.heap.size + 1, 0, none⟩ = some (.int .i64 2) ∧ w'.cell? ⟨w.heap.size + 1, 1, none⟩ = some (str f) ∧ w'.cell? ⟨w.heap.size + 1, 2, none⟩ = some (.slice (some ⟨b, off, none⟩) 1 xc) ∧ w'.cell? ⟨b, off, none⟩ = some (.int .i64 o) ∧ w'.cell? ⟨b, off + 1, none⟩ = some (.int .i64 n) ∧ w'.cell? ⟨b, off + 2, none⟩ = some (str s) ∧ w'.cell? ⟨b, off + 3, none⟩ = some (.slice kao kids.len kcap) := fun w' hk =>
    ⟨(((unhide HY).trans hk).cell hxb id).trans (hxc 0 _ rfl), (hk.cell hyb id).trans (hyc 0 _ rfl), (hk.cell hyb id).trans (hyc 1 _ rfl), (hk.cell hyb id).trans (hyc 2 _ rfl), (((unhide HK0).trans hk).cell h1 id).trans h3, (((unhide HK0).trans hk).cell h1 id).trans h4, (((unhide HK0).trans hk).cell h1 id).trans h5, (((unhide HK0).trans hk).cell h1 id).trans h6⟩
  have y := SB _ (Keeps.refl _ _)
  have HSB := hide SB
  have HFI := hide (find_v S (.slice so S.length sc) f _ (hf.keepF (unhide HK0)) hl8)
  have HGO := fun w' (hk : Keeps (fun _ => False) w w') => hide (goes_v Z S hS so sc R ro rc hR (kids.size + 1) kids (by omega) o n s w' b (.slice kao kids.len kcap) (hkid.keepF hk) (hf.keepF hk) (hr.keepF hk) hro hw)
  rw [show wrongG S (R.map ValA.kind) 2 f (.cons o n s kids .nil) = wrongK S 2 f (nodeG S (R.map ValA.kind) o s kids) from rfl]
  obtain ⟨G, hG⟩ : ∃ g, g = nodeG S (R.map ValA.kind) o s kids := ⟨_, rfl⟩
  rw [← hG] at HGO ⊢
  have HF := hide hf
  clear hx hkid hr hf hxc hyc SB hro hw ha h2 h3 h4 h5 h6 h8 hG HX HY hR
  go_enter Tryd.func33, Tryd.ntmps33
  go_wp2_with (go_at_call 51; refine (unhide HFI).mono ?_; rintro e w1 ⟨⟨ix, rfl, hix⟩, hk1⟩; have HIX := hide hix; have HKb := hide hk1; have y1 := unhide HSB _ hk1; have HK1 := hide ((unhide HK0).trans hk1); clear hk1 hix)
  go_region_held3 (fun w' => w'.cell? ⟨w.heap.size, 0, none⟩ = some (.slice so S.length sc) ∧ w'.cell? ⟨w.heap.size + 1, 0, none⟩ = some (.int .i64 2) ∧ w'.cell? ⟨w.heap.size + 1, 1, none⟩ = some (str f) ∧ w'.cell? ⟨w.heap.size + 1, 2, none⟩ = some (.slice (some ⟨b, off, none⟩) 1 xc) ∧ w'.cell? ⟨b, off, none⟩ = some (.int .i64 o) ∧ w'.cell? ⟨b, off + 1, none⟩ = some (.int .i64 n) ∧ w'.cell? ⟨b, off + 2, none⟩ = some (str s) ∧ w'.cell? ⟨b, off + 3, none⟩ = some (.slice kao kids.len kcap))
    (first | with_reducible exact unhide HSB _ (unhide HKb).drew | with_reducible exact unhide HSB _ (unhide HKc))
    ((go_at_call 52; refine (unhide (HGO w1.drew (unhide HK1).drew)).mono ?_; rintro e w2 ⟨⟨T, ok, rfl, hok⟩, hk2⟩; have HOK := hide hok; have hkd := (Keeps.refl (fun _ => False) w1).drew.trans hk2; have HKc := hide ((unhide HKb).trans hkd); have HK2 := hide ((unhide HK1).trans hkd); have y2 := unhide HSB _ (unhide HKc); clear hk2 hkd hok))
  cases G with
  | none =>
    obtain rfl : ok = false := unhide HOK
    go_wp2_with fail
    go_ret
    exact ⟨rfl, unhide HK2⟩
  | some G =>
    obtain ⟨rfl, rfl⟩ : ok = true ∧ T = G := unhide HOK
    rcases unhide HIX with ⟨hno, rfl⟩ | ⟨kf, d, hkf, hsome, rfl⟩
    · have HW : Hid (wrongK S 2 f (some T) = true) := by show _ = _; rw [wrongK_f (by omega)]; unfold fieldW; rw [hno]
      clear hno
      go_wp2_with fail
      go_ret
      exact ⟨ret_bool (unhide HW).symm, unhide HK2⟩
    · have hkl := get_lt hkf
      obtain ⟨fb, foff, fc, fe, hfb, hfc⟩ := ((unhide HF).keepF (unhide HK2)).cells (by omega)
      simp only [Value.slice.injEq] at fe
      obtain ⟨rfl, _, rfl⟩ := fe
      obtain ⟨p0, p1, p2⟩ := hfc kf d hkf
      have HW : Hid (wrongK S 2 f (some T) = (d.type != 1 || T != 1)) := by
        show _ = _
        rw [wrongK_f (by omega)]
        unfold fieldW
        rw [hsome]
        rfl
      have g1 : ¬ (kf : Int) < 0 := by omega
      have i1 : (kf : Int) < (S.length : Int) := by omega
      have i0 : (0 : Int) ≤ (kf : Int) := by omega
      obtain ⟨nm, DT, DO⟩ := d
      dsimp only at p0 p1 p2 HW
      obtain ⟨HZ, hzb, hzc⟩ := boxedT w2 #[str nm, .int .i64 DT, .bool DO] 45
      have z1 := hzc 1 (.int .i64 DT) rfl
      have z2 := hzc 2 (.bool DO) rfl
      have y3 := unhide HSB _ ((unhide HKc).trans (unhide HZ))
      clear hfc hkf hsome hzc
      cases n1 : (DT != 1) with
      | true =>
        rw [n1] at HW
        go_wp2_with fail
        go_ret
        exact ⟨ret_bool (unhide HW).symm, (unhide HK2).trans (unhide HZ)⟩
      | false =>
        rw [n1] at HW
        go_wp2_with fail
        go_ret
        exact ⟨ret_bool (unhide HW).symm, (unhide HK2).trans (unhide HZ)⟩

set_option maxRecDepth 100000 in
set_option maxHeartbeats 8000000 in
theorem wrong3 (Z : Zone) (S : List FieldA) (hS : schemaB S = true) (so : Option Addr) (sc : Nat) (R : List ValA) (ro : Option Addr) (rc : Nat) (hR : R.length = S.length ∨ R.length = 0) (f : Txt) (o n : Int) (s : Txt) (kids : EL) (xv : Value) (up : Nat) (to eo : Option Addr) (tn tc en ec : Nat) (w : World) (hf : FldsAt w (.slice so S.length sc) S) (hr : ValsAt w (.slice ro R.length rc) R)
    (hx : SlE Z w up xv (.cons o n s kids .nil)) (hro : rootB o n s kids.len = true) (hw : wellE kids = true) :
    Calls Tryd.prog 33 #[.agg #[.slice so S.length sc], .slice ro R.length rc, stV 3 f xv (.slice to tn tc) (.slice eo en ec)] w fun e w' => e = .returned (.bool (wrongG S (R.map ValA.kind) 3 f (.cons o n s kids .nil))) ∧ Keeps (fun _ => False) w w' := by
  have hl8 := schema_8 hS
  obtain ⟨xo, xc, b, off, rfl, hcap, ha, hin⟩ := hx.open
  obtain ⟨rfl, _⟩ := ha (by simp [EL.len])
  obtain ⟨h1, h2, h3, h4, h5, ⟨kao, kcap, h6, h7, h8⟩, _⟩ := hin
  have hkid : SlE Z w b (.slice kao kids.len kcap) kids := ⟨kao, kcap, rfl, h7, h8⟩
  have hlen : (EL.cons o n s kids .nil).len = 1 := rfl
  rw [hlen] at hcap ⊢
  obtain ⟨HX, hxb, hxc⟩ := boxedT w #[.slice so S.length sc] 24
  obtain ⟨HY, hyb, hyc⟩ := boxedT (w.alloc (.cells #[.slice so S.length sc] 24)) #[.int .i64 3, str f, .slice (some ⟨b, off, none⟩) 1 xc, .slice to tn tc, .slice eo en ec] 64
  rw [World.size_alloc] at hyc hyb
  have HK0 := hide ((unhide HX).trans (unhide HY))
  have SB : ∀ w', Keeps (fun _ => False) ((w.alloc (.cells #[.slice so S.length sc] 24)).alloc (.cells #[.int .i64 3, str f, .slice (some ⟨b, off, none⟩) 1 xc, .slice to tn tc, .slice eo en ec] 64)) w' → w'.cell? ⟨w.heap.size, 0, none⟩ = some (.slice so S.length sc) ∧ w'.cell? ⟨w.heap.size + 1, 0, none⟩ = some (.int .i64 3) ∧ w'.cell? ⟨w.heap.size + 1, 1, none⟩ = some (str f) ∧ w'.cell? ⟨w.heap.size + 1, 2, none⟩ = some (.slice (some ⟨b, off, none⟩) 1 xc) ∧ w'.cell? ⟨b, off, none⟩ = some (.int .i64 o) ∧ w'.cell? ⟨b, off + 1, none⟩ = some (.int .i64 n) ∧ w'.cell? ⟨b, off + 2, none⟩ = some (str s) ∧ w'.cell? ⟨b, off + 3, none⟩ = some (.slice kao kids.len kcap) := fun w' hk =>
    ⟨(((unhide HY).trans hk).cell hxb id).trans (hxc 0 _ rfl), (hk.cell hyb id).trans (hyc 0 _ rfl), (hk.cell hyb id).trans (hyc 1 _ rfl), (hk.cell hyb id).trans (hyc 2 _ rfl), (((unhide HK0).trans hk).cell h1 id).trans h3, (((unhide HK0).trans hk).cell h1 id).trans h4, (((unhide HK0).trans hk).cell h1 id).trans h5, (((unhide HK0).trans hk).cell h1 id).trans h6⟩
  have y := SB _ (Keeps.refl _ _)
  have HSB := hide SB
  have HFI := hide (find_v S (.slice so S.length sc) f _ (hf.keepF (unhide HK0)) hl8)
  have HGO := fun w' (hk : Keeps (fun _ => False) w w') => hide (goes_v Z S hS so sc R ro rc hR (kids.size + 1) kids (by omega) o n s w' b (.slice kao kids.len kcap) (hkid.keepF hk) (hf.keepF hk) (hr.keepF hk) hro hw)
  rw [show wrongG S (R.map ValA.kind) 3 f (.cons o n s kids .nil) = wrongK S 3 f (nodeG S (R.map ValA.kind) o s kids) from rfl]
  obtain ⟨G, hG⟩ : ∃ g, g = nodeG S (R.map ValA.kind) o s kids := ⟨_, rfl⟩
  rw [← hG] at HGO ⊢
  have HF := hide hf
  clear hx hkid hr hf hxc hyc SB hro hw ha h2 h3 h4 h5 h6 h8 hG HX HY hR
  go_enter Tryd.func33, Tryd.ntmps33
  go_wp2_with (go_at_call 51; refine (unhide HFI).mono ?_; rintro e w1 ⟨⟨ix, rfl, hix⟩, hk1⟩; have HIX := hide hix; have HKb := hide hk1; have y1 := unhide HSB _ hk1; have HK1 := hide ((unhide HK0).trans hk1); clear hk1 hix)
  go_region_held3 (fun w' => w'.cell? ⟨w.heap.size, 0, none⟩ = some (.slice so S.length sc) ∧ w'.cell? ⟨w.heap.size + 1, 0, none⟩ = some (.int .i64 3) ∧ w'.cell? ⟨w.heap.size + 1, 1, none⟩ = some (str f) ∧ w'.cell? ⟨w.heap.size + 1, 2, none⟩ = some (.slice (some ⟨b, off, none⟩) 1 xc) ∧ w'.cell? ⟨b, off, none⟩ = some (.int .i64 o) ∧ w'.cell? ⟨b, off + 1, none⟩ = some (.int .i64 n) ∧ w'.cell? ⟨b, off + 2, none⟩ = some (str s) ∧ w'.cell? ⟨b, off + 3, none⟩ = some (.slice kao kids.len kcap))
    (first | with_reducible exact unhide HSB _ (unhide HKb).drew | with_reducible exact unhide HSB _ (unhide HKc))
    ((go_at_call 52; refine (unhide (HGO w1.drew (unhide HK1).drew)).mono ?_; rintro e w2 ⟨⟨T, ok, rfl, hok⟩, hk2⟩; have HOK := hide hok; have hkd := (Keeps.refl (fun _ => False) w1).drew.trans hk2; have HKc := hide ((unhide HKb).trans hkd); have HK2 := hide ((unhide HK1).trans hkd); have y2 := unhide HSB _ (unhide HKc); clear hk2 hkd hok))
  cases G with
  | none =>
    obtain rfl : ok = false := unhide HOK
    go_wp2_with fail
    go_ret
    exact ⟨rfl, unhide HK2⟩
  | some G =>
    obtain ⟨rfl, rfl⟩ : ok = true ∧ T = G := unhide HOK
    rcases unhide HIX with ⟨hno, rfl⟩ | ⟨kf, d, hkf, hsome, rfl⟩
    · have HW : Hid (wrongK S 3 f (some T) = true) := by show _ = _; rw [wrongK_f (by omega)]; unfold fieldW; rw [hno]
      clear hno
      go_wp2_with fail
      go_ret
      exact ⟨ret_bool (unhide HW).symm, unhide HK2⟩
    · have hkl := get_lt hkf
      obtain ⟨fb, foff, fc, fe, hfb, hfc⟩ := ((unhide HF).keepF (unhide HK2)).cells (by omega)
      simp only [Value.slice.injEq] at fe
      obtain ⟨rfl, _, rfl⟩ := fe
      obtain ⟨p0, p1, p2⟩ := hfc kf d hkf
      have HW : Hid (wrongK S 3 f (some T) = (d.type != 1 || T != 1)) := by
        show _ = _
        rw [wrongK_f (by omega)]
        unfold fieldW
        rw [hsome]
        rfl
      have g1 : ¬ (kf : Int) < 0 := by omega
      have i1 : (kf : Int) < (S.length : Int) := by omega
      have i0 : (0 : Int) ≤ (kf : Int) := by omega
      obtain ⟨nm, DT, DO⟩ := d
      dsimp only at p0 p1 p2 HW
      obtain ⟨HZ, hzb, hzc⟩ := boxedT w2 #[str nm, .int .i64 DT, .bool DO] 45
      have z1 := hzc 1 (.int .i64 DT) rfl
      have z2 := hzc 2 (.bool DO) rfl
      have y3 := unhide HSB _ ((unhide HKc).trans (unhide HZ))
      clear hfc hkf hsome hzc
      cases n1 : (DT != 1) with
      | true =>
        rw [n1] at HW
        go_wp2_with fail
        go_ret
        exact ⟨ret_bool (unhide HW).symm, (unhide HK2).trans (unhide HZ)⟩
      | false =>
        rw [n1] at HW
        go_wp2_with fail
        go_ret
        exact ⟨ret_bool (unhide HW).symm, (unhide HK2).trans (unhide HZ)⟩

set_option maxRecDepth 100000 in
set_option maxHeartbeats 8000000 in
theorem wrong4 (Z : Zone) (S : List FieldA) (hS : schemaB S = true) (so : Option Addr) (sc : Nat) (R : List ValA) (ro : Option Addr) (rc : Nat) (hR : R.length = S.length ∨ R.length = 0) (f : Txt) (o n : Int) (s : Txt) (kids : EL) (xv : Value) (up : Nat) (to eo : Option Addr) (tn tc en ec : Nat) (w : World) (hf : FldsAt w (.slice so S.length sc) S) (hr : ValsAt w (.slice ro R.length rc) R)
    (hx : SlE Z w up xv (.cons o n s kids .nil)) (hro : rootB o n s kids.len = true) (hw : wellE kids = true) :
    Calls Tryd.prog 33 #[.agg #[.slice so S.length sc], .slice ro R.length rc, stV 4 f xv (.slice to tn tc) (.slice eo en ec)] w fun e w' => e = .returned (.bool (wrongG S (R.map ValA.kind) 4 f (.cons o n s kids .nil))) ∧ Keeps (fun _ => False) w w' := by
  have hl8 := schema_8 hS
  obtain ⟨xo, xc, b, off, rfl, hcap, ha, hin⟩ := hx.open
  obtain ⟨rfl, _⟩ := ha (by simp [EL.len])
  obtain ⟨h1, h2, h3, h4, h5, ⟨kao, kcap, h6, h7, h8⟩, _⟩ := hin
  have hkid : SlE Z w b (.slice kao kids.len kcap) kids := ⟨kao, kcap, rfl, h7, h8⟩
  have hlen : (EL.cons o n s kids .nil).len = 1 := rfl
  rw [hlen] at hcap ⊢
  obtain ⟨HX, hxb, hxc⟩ := boxedT w #[.slice so S.length sc] 24
  obtain ⟨HY, hyb, hyc⟩ := boxedT (w.alloc (.cells #[.slice so S.length sc] 24)) #[.int .i64 4, str f, .slice (some ⟨b, off, none⟩) 1 xc, .slice to tn tc, .slice eo en ec] 64
  rw [World.size_alloc] at hyc hyb
  have HK0 := hide ((unhide HX).trans (unhide HY))
  have SB : ∀ w', Keeps (fun _ => False) ((w.alloc (.cells #[.slice so S.length sc] 24)).alloc (.cells #[.int .i64 4, str f, .slice (some ⟨b, off, none⟩) 1 xc, .slice to tn tc, .slice eo en ec] 64)) w' → w'.cell? ⟨w.heap.size, 0, none⟩ = some (.slice so S.length sc) ∧ w'.cell? ⟨w.heap.size + 1, 0, none⟩ = some (.int .i64 4) ∧ w'.cell? ⟨w.heap.size + 1, 1, none⟩ = some (str f) ∧ w'.cell? ⟨w.heap.size + 1, 2, none⟩ = some (.slice (some ⟨b, off, none⟩) 1 xc) ∧ w'.cell? ⟨b, off, none⟩ = some (.int .i64 o) ∧ w'.cell? ⟨b, off + 1, none⟩ = some (.int .i64 n) ∧ w'.cell? ⟨b, off + 2, none⟩ = some (str s) ∧ w'.cell? ⟨b, off + 3, none⟩ = some (.slice kao kids.len kcap) := fun w' hk =>
    ⟨(((unhide HY).trans hk).cell hxb id).trans (hxc 0 _ rfl), (hk.cell hyb id).trans (hyc 0 _ rfl), (hk.cell hyb id).trans (hyc 1 _ rfl), (hk.cell hyb id).trans (hyc 2 _ rfl), (((unhide HK0).trans hk).cell h1 id).trans h3, (((unhide HK0).trans hk).cell h1 id).trans h4, (((unhide HK0).trans hk).cell h1 id).trans h5, (((unhide HK0).trans hk).cell h1 id).trans h6⟩
  have y := SB _ (Keeps.refl _ _)
  have HSB := hide SB
  have HFI := hide (find_v S (.slice so S.length sc) f _ (hf.keepF (unhide HK0)) hl8)
  have HGO := fun w' (hk : Keeps (fun _ => False) w w') => hide (goes_v Z S hS so sc R ro rc hR (kids.size + 1) kids (by omega) o n s w' b (.slice kao kids.len kcap) (hkid.keepF hk) (hf.keepF hk) (hr.keepF hk) hro hw)
  rw [show wrongG S (R.map ValA.kind) 4 f (.cons o n s kids .nil) = wrongK S 4 f (nodeG S (R.map ValA.kind) o s kids) from rfl]
  obtain ⟨G, hG⟩ : ∃ g, g = nodeG S (R.map ValA.kind) o s kids := ⟨_, rfl⟩
  rw [← hG] at HGO ⊢
  have HF := hide hf
  clear hx hkid hr hf hxc hyc SB hro hw ha h2 h3 h4 h5 h6 h8 hG HX HY hR
  go_enter Tryd.func33, Tryd.ntmps33
  go_wp2_with (go_at_call 51; refine (unhide HFI).mono ?_; rintro e w1 ⟨⟨ix, rfl, hix⟩, hk1⟩; have HIX := hide hix; have HKb := hide hk1; have y1 := unhide HSB _ hk1; have HK1 := hide ((unhide HK0).trans hk1); clear hk1 hix)
  go_region_held3 (fun w' => w'.cell? ⟨w.heap.size, 0, none⟩ = some (.slice so S.length sc) ∧ w'.cell? ⟨w.heap.size + 1, 0, none⟩ = some (.int .i64 4) ∧ w'.cell? ⟨w.heap.size + 1, 1, none⟩ = some (str f) ∧ w'.cell? ⟨w.heap.size + 1, 2, none⟩ = some (.slice (some ⟨b, off, none⟩) 1 xc) ∧ w'.cell? ⟨b, off, none⟩ = some (.int .i64 o) ∧ w'.cell? ⟨b, off + 1, none⟩ = some (.int .i64 n) ∧ w'.cell? ⟨b, off + 2, none⟩ = some (str s) ∧ w'.cell? ⟨b, off + 3, none⟩ = some (.slice kao kids.len kcap))
    (first | with_reducible exact unhide HSB _ (unhide HKb).drew | with_reducible exact unhide HSB _ (unhide HKc))
    ((go_at_call 52; refine (unhide (HGO w1.drew (unhide HK1).drew)).mono ?_; rintro e w2 ⟨⟨T, ok, rfl, hok⟩, hk2⟩; have HOK := hide hok; have hkd := (Keeps.refl (fun _ => False) w1).drew.trans hk2; have HKc := hide ((unhide HKb).trans hkd); have HK2 := hide ((unhide HK1).trans hkd); have y2 := unhide HSB _ (unhide HKc); clear hk2 hkd hok))
  cases G with
  | none =>
    obtain rfl : ok = false := unhide HOK
    go_wp2_with fail
    go_ret
    exact ⟨rfl, unhide HK2⟩
  | some G =>
    obtain ⟨rfl, rfl⟩ : ok = true ∧ T = G := unhide HOK
    rcases unhide HIX with ⟨hno, rfl⟩ | ⟨kf, d, hkf, hsome, rfl⟩
    · have HW : Hid (wrongK S 4 f (some T) = true) := by show _ = _; rw [wrongK_f (by omega)]; unfold fieldW; rw [hno]
      clear hno
      go_wp2_with fail
      go_ret
      exact ⟨ret_bool (unhide HW).symm, unhide HK2⟩
    · have hkl := get_lt hkf
      obtain ⟨fb, foff, fc, fe, hfb, hfc⟩ := ((unhide HF).keepF (unhide HK2)).cells (by omega)
      simp only [Value.slice.injEq] at fe
      obtain ⟨rfl, _, rfl⟩ := fe
      obtain ⟨p0, p1, p2⟩ := hfc kf d hkf
      have HW : Hid (wrongK S 4 f (some T) = (d.type != 1 || T != 1)) := by
        show _ = _
        rw [wrongK_f (by omega)]
        unfold fieldW
        rw [hsome]
        rfl
      have g1 : ¬ (kf : Int) < 0 := by omega
      have i1 : (kf : Int) < (S.length : Int) := by omega
      have i0 : (0 : Int) ≤ (kf : Int) := by omega
      obtain ⟨nm, DT, DO⟩ := d
      dsimp only at p0 p1 p2 HW
      obtain ⟨HZ, hzb, hzc⟩ := boxedT w2 #[str nm, .int .i64 DT, .bool DO] 45
      have z1 := hzc 1 (.int .i64 DT) rfl
      have z2 := hzc 2 (.bool DO) rfl
      have y3 := unhide HSB _ ((unhide HKc).trans (unhide HZ))
      clear hfc hkf hsome hzc
      cases n1 : (DT != 1) with
      | true =>
        rw [n1] at HW
        go_wp2_with fail
        go_ret
        exact ⟨ret_bool (unhide HW).symm, (unhide HK2).trans (unhide HZ)⟩
      | false =>
        rw [n1] at HW
        go_wp2_with fail
        go_ret
        exact ⟨ret_bool (unhide HW).symm, (unhide HK2).trans (unhide HZ)⟩

set_option maxRecDepth 100000 in
set_option maxHeartbeats 4000000 in
theorem wrong6 (S : List FieldA) (hS : schemaB S = true) (so : Option Addr) (sc : Nat) (R : List ValA) (ro : Option Addr) (rc : Nat) (f : Txt) (xo to eo : Option Addr) (xc tn tc en ec : Nat) (w : World) (hf : FldsAt w (.slice so S.length sc) S) :
    Calls Tryd.prog 33 #[.agg #[.slice so S.length sc], .slice ro R.length rc, stV 6 f (.slice xo 0 xc) (.slice to tn tc) (.slice eo en ec)] w fun e w' => e = .returned (.bool (wrongG S (R.map ValA.kind) 6 f .nil)) ∧ Keeps (fun _ => False) w w' := by
  have hl8 := schema_8 hS
  obtain ⟨HX, hxb, hxc⟩ := boxedT w #[.slice so S.length sc] 24
  obtain ⟨HY, hyb, hyc⟩ := boxedT (w.alloc (.cells #[.slice so S.length sc] 24)) #[.int .i64 6, str f, .slice xo 0 xc, .slice to tn tc, .slice eo en ec] 64
  rw [World.size_alloc] at hyc hyb
  have HK0 := hide ((unhide HX).trans (unhide HY))
  have SB : ∀ w', Keeps (fun _ => False) ((w.alloc (.cells #[.slice so S.length sc] 24)).alloc (.cells #[.int .i64 6, str f, .slice xo 0 xc, .slice to tn tc, .slice eo en ec] 64)) w' → w'.cell? ⟨w.heap.size, 0, none⟩ = some (.slice so S.length sc) ∧ w'.cell? ⟨w.heap.size + 1, 0, none⟩ = some (.int .i64 6) ∧ w'.cell? ⟨w.heap.size + 1, 1, none⟩ = some (str f) ∧ w'.cell? ⟨w.heap.size + 1, 2, none⟩ = some (.slice xo 0 xc) := fun w' hk =>
    ⟨(((unhide HY).trans hk).cell hxb id).trans (hxc 0 _ rfl), (hk.cell hyb id).trans (hyc 0 _ rfl), (hk.cell hyb id).trans (hyc 1 _ rfl), (hk.cell hyb id).trans (hyc 2 _ rfl)⟩
  have y := SB _ (Keeps.refl _ _)
  have HSB := hide SB
  have HFI := hide (find_v S (.slice so S.length sc) f _ (hf.keepF (unhide HK0)) hl8)
  rw [show wrongG S (R.map ValA.kind) 6 f .nil = wrongK S 6 f (some 0) from rfl]
  have HF := hide hf
  clear hf hxc hyc SB HX HY
  go_enter Tryd.func33, Tryd.ntmps33
  go_wp2_with (go_at_call 51; refine (unhide HFI).mono ?_; rintro e w2 ⟨⟨ix, rfl, hix⟩, hk1⟩; have HIX := hide hix; have HKc := hide hk1; have y1 := unhide HSB _ hk1; have HK2 := hide ((unhide HK0).trans hk1); clear hk1 hix)
  go_ret
  exact ⟨rfl, unhide HK2⟩

set_option maxRecDepth 100000 in
set_option maxHeartbeats 4000000 in
theorem wrong7 (S : List FieldA) (hS : schemaB S = true) (so : Option Addr) (sc : Nat) (R : List ValA) (ro : Option Addr) (rc : Nat) (f : Txt) (xo to eo : Option Addr) (xc tn tc en ec : Nat) (w : World) (hf : FldsAt w (.slice so S.length sc) S) :
    Calls Tryd.prog 33 #[.agg #[.slice so S.length sc], .slice ro R.length rc, stV 7 f (.slice xo 0 xc) (.slice to tn tc) (.slice eo en ec)] w fun e w' => e = .returned (.bool (wrongG S (R.map ValA.kind) 7 f .nil)) ∧ Keeps (fun _ => False) w w' := by
  have hl8 := schema_8 hS
  obtain ⟨HX, hxb, hxc⟩ := boxedT w #[.slice so S.length sc] 24
  obtain ⟨HY, hyb, hyc⟩ := boxedT (w.alloc (.cells #[.slice so S.length sc] 24)) #[.int .i64 7, str f, .slice xo 0 xc, .slice to tn tc, .slice eo en ec] 64
  rw [World.size_alloc] at hyc hyb
  have HK0 := hide ((unhide HX).trans (unhide HY))
  have SB : ∀ w', Keeps (fun _ => False) ((w.alloc (.cells #[.slice so S.length sc] 24)).alloc (.cells #[.int .i64 7, str f, .slice xo 0 xc, .slice to tn tc, .slice eo en ec] 64)) w' → w'.cell? ⟨w.heap.size, 0, none⟩ = some (.slice so S.length sc) ∧ w'.cell? ⟨w.heap.size + 1, 0, none⟩ = some (.int .i64 7) ∧ w'.cell? ⟨w.heap.size + 1, 1, none⟩ = some (str f) ∧ w'.cell? ⟨w.heap.size + 1, 2, none⟩ = some (.slice xo 0 xc) := fun w' hk =>
    ⟨(((unhide HY).trans hk).cell hxb id).trans (hxc 0 _ rfl), (hk.cell hyb id).trans (hyc 0 _ rfl), (hk.cell hyb id).trans (hyc 1 _ rfl), (hk.cell hyb id).trans (hyc 2 _ rfl)⟩
  have y := SB _ (Keeps.refl _ _)
  have HSB := hide SB
  have HFI := hide (find_v S (.slice so S.length sc) f _ (hf.keepF (unhide HK0)) hl8)
  rw [show wrongG S (R.map ValA.kind) 7 f .nil = wrongK S 7 f (some 0) from rfl]
  have HF := hide hf
  clear hf hxc hyc SB HX HY
  go_enter Tryd.func33, Tryd.ntmps33
  go_wp2_with (go_at_call 51; refine (unhide HFI).mono ?_; rintro e w2 ⟨⟨ix, rfl, hix⟩, hk1⟩; have HIX := hide hix; have HKc := hide hk1; have y1 := unhide HSB _ hk1; have HK2 := hide ((unhide HK0).trans hk1); clear hk1 hix)
  go_ret
  exact ⟨rfl, unhide HK2⟩
end Go.Proofs.YtjhppnecadnekaaDoor
namespace Go.Proofs.YtjhppnecadnekaaDoor
open Go.RowKit Go.Maps

theorem find_no (S : List FieldA) (sv : Value) (nm : Txt) (w : World) (h : FldsAt w sv S) (hl : S.length ≤ 8) (hno : fieldOf S nm = none) :
    Calls Tryd.prog 51 #[.agg #[sv], str nm] w fun e w' => e = .returned (.int .i64 (-1)) ∧ Keeps (fun _ => False) w w' :=
  (find_v S sv nm w h hl).mono fun e w' ⟨⟨i, he, hi⟩, hk⟩ => ⟨(by
    rcases hi with ⟨_, rfl⟩ | ⟨k, f, _, hs, _⟩
    · exact he
    · rw [hno] at hs
      exact absurd hs (by simp)), hk⟩
theorem find_at (S : List FieldA) (hS : schemaB S = true) (sv : Value) (nm : Txt) (w : World) (h : FldsAt w sv S) (hl : S.length ≤ 8) (kf : Nat) (d : FieldA) (hkf : S[kf]? = some d) (hd : fieldOf S nm = some d) :
    Calls Tryd.prog 51 #[.agg #[sv], str nm] w fun e w' => e = .returned (.int .i64 (kf : Int)) ∧ Keeps (fun _ => False) w w' :=
  (find_v S sv nm w h hl).mono fun e w' ⟨⟨i, he, hi⟩, hk⟩ => ⟨(by
    rcases hi with ⟨hno, _⟩ | ⟨k, f, h1, h2, rfl⟩
    · rw [hno] at hd; cases hd
    · have e1 := idx_some hS h1 h2
      have e2 := idx_some hS hkf hd
      rw [e1] at e2
      cases e2
      exact he), hk⟩
theorem field_at {S : List FieldA} {nm : Txt} {d : FieldA} (h : fieldOf S nm = some d) : ∃ k : Nat, S[k]? = some d := by
  unfold fieldOf at h
  exact List.mem_iff_getElem?.1 (List.mem_of_find?_eq_some h)

set_option maxRecDepth 100000 in
set_option maxHeartbeats 4000000 in
theorem wrong5n (S : List FieldA) (hS : schemaB S = true) (so : Option Addr) (sc : Nat) (R : List ValA) (ro : Option Addr) (rc : Nat) (f : Txt) (xo to eo : Option Addr) (xc tn tc en ec : Nat) (w : World) (hf : FldsAt w (.slice so S.length sc) S) (hno : fieldOf S f = none) :
    Calls Tryd.prog 33 #[.agg #[.slice so S.length sc], .slice ro R.length rc, stV 5 f (.slice xo 0 xc) (.slice to tn tc) (.slice eo en ec)] w fun e w' => e = .returned (.bool true) ∧ Keeps (fun _ => False) w w' := by
  have hl8 := schema_8 hS
  obtain ⟨HX, hxb, hxc⟩ := boxedT w #[.slice so S.length sc] 24
  obtain ⟨HY, hyb, hyc⟩ := boxedT (w.alloc (.cells #[.slice so S.length sc] 24)) #[.int .i64 5, str f, .slice xo 0 xc, .slice to tn tc, .slice eo en ec] 64
  rw [World.size_alloc] at hyc hyb
  have HK0 := hide ((unhide HX).trans (unhide HY))
  have SB : ∀ w', Keeps (fun _ => False) ((w.alloc (.cells #[.slice so S.length sc] 24)).alloc (.cells #[.int .i64 5, str f, .slice xo 0 xc, .slice to tn tc, .slice eo en ec] 64)) w' → w'.cell? ⟨w.heap.size, 0, none⟩ = some (.slice so S.length sc) ∧ w'.cell? ⟨w.heap.size + 1, 0, none⟩ = some (.int .i64 5) ∧ w'.cell? ⟨w.heap.size + 1, 1, none⟩ = some (str f) ∧ w'.cell? ⟨w.heap.size + 1, 2, none⟩ = some (.slice xo 0 xc) := fun w' hk =>
    ⟨(((unhide HY).trans hk).cell hxb id).trans (hxc 0 _ rfl), (hk.cell hyb id).trans (hyc 0 _ rfl), (hk.cell hyb id).trans (hyc 1 _ rfl), (hk.cell hyb id).trans (hyc 2 _ rfl)⟩
  have y := SB _ (Keeps.refl _ _)
  have HSB := hide SB
  have HFI := hide (find_no S (.slice so S.length sc) f _ (hf.keepF (unhide HK0)) hl8 hno)
  have HF := hide hf
  clear hf hxc hyc SB HX HY hno
  go_enter Tryd.func33, Tryd.ntmps33
  go_wp2_with (go_at_call 51; refine (unhide HFI).mono ?_; rintro e w2 ⟨rfl, hk1⟩; have HKc := hide hk1; have y1 := unhide HSB _ hk1; have HK2 := hide ((unhide HK0).trans hk1); clear hk1)
  go_ret
  exact ⟨rfl, unhide HK2⟩

set_option maxRecDepth 100000 in
set_option maxHeartbeats 4000000 in
theorem wrong5s (S : List FieldA) (hS : schemaB S = true) (so : Option Addr) (sc : Nat) (R : List ValA) (ro : Option Addr) (rc : Nat) (f : Txt) (xo to eo : Option Addr) (xc tn tc en ec : Nat) (w : World) (hf : FldsAt w (.slice so S.length sc) S) (kf : Nat) (nm : Txt) (DT : Int) (DO : Bool) (hkf : S[kf]? = some ⟨nm, DT, DO⟩) (hsome : fieldOf S f = some ⟨nm, DT, DO⟩) :
    Calls Tryd.prog 33 #[.agg #[.slice so S.length sc], .slice ro R.length rc, stV 5 f (.slice xo 0 xc) (.slice to tn tc) (.slice eo en ec)] w fun e w' => e = .returned (.bool (!DO)) ∧ Keeps (fun _ => False) w w' := by
  have hl8 := schema_8 hS
  obtain ⟨HX, hxb, hxc⟩ := boxedT w #[.slice so S.length sc] 24
  obtain ⟨HY, hyb, hyc⟩ := boxedT (w.alloc (.cells #[.slice so S.length sc] 24)) #[.int .i64 5, str f, .slice xo 0 xc, .slice to tn tc, .slice eo en ec] 64
  rw [World.size_alloc] at hyc hyb
  have HK0 := hide ((unhide HX).trans (unhide HY))
  have SB : ∀ w', Keeps (fun _ => False) ((w.alloc (.cells #[.slice so S.length sc] 24)).alloc (.cells #[.int .i64 5, str f, .slice xo 0 xc, .slice to tn tc, .slice eo en ec] 64)) w' → w'.cell? ⟨w.heap.size, 0, none⟩ = some (.slice so S.length sc) ∧ w'.cell? ⟨w.heap.size + 1, 0, none⟩ = some (.int .i64 5) ∧ w'.cell? ⟨w.heap.size + 1, 1, none⟩ = some (str f) ∧ w'.cell? ⟨w.heap.size + 1, 2, none⟩ = some (.slice xo 0 xc) := fun w' hk =>
    ⟨(((unhide HY).trans hk).cell hxb id).trans (hxc 0 _ rfl), (hk.cell hyb id).trans (hyc 0 _ rfl), (hk.cell hyb id).trans (hyc 1 _ rfl), (hk.cell hyb id).trans (hyc 2 _ rfl)⟩
  have y := SB _ (Keeps.refl _ _)
  have HSB := hide SB
  have HFI := hide (find_at S hS (.slice so S.length sc) f _ (hf.keepF (unhide HK0)) hl8 kf _ hkf hsome)
  have HF := hide hf
  have hkl := get_lt hkf
  obtain ⟨fb, foff, fc, fe, hfb, hfc⟩ := FldsAt.cells hf (by omega)
  simp only [Value.slice.injEq] at fe
  obtain ⟨rfl, _, rfl⟩ := fe
  have HPX : Hid (∀ w', Keeps (fun _ => False) w w' → w'.cell? ⟨fb, foff + kf * 3, none⟩ = some (str nm) ∧ w'.cell? ⟨fb, foff + kf * 3 + 1, none⟩ = some (.int .i64 DT) ∧ w'.cell? ⟨fb, foff + kf * 3 + 2, none⟩ = some (.bool DO)) := fun w' hk =>
    ⟨(hk.cell hfb id).trans (hfc kf _ hkf).1, (hk.cell hfb id).trans (hfc kf _ hkf).2.1, (hk.cell hfb id).trans (hfc kf _ hkf).2.2⟩
  have g1 : ¬ (kf : Int) < 0 := by omega
  have i1 : (kf : Int) < (S.length : Int) := by omega
  have i0 : (0 : Int) ≤ (kf : Int) := by omega
  clear hf hxc hyc SB HX HY hfc hkf hsome
  go_enter Tryd.func33, Tryd.ntmps33
  go_wp2_with (go_at_call 51; refine (unhide HFI).mono ?_; rintro e w2 ⟨rfl, hk1⟩; have HKc := hide hk1; have y1 := unhide HSB _ hk1; have HK2 := hide ((unhide HK0).trans hk1); obtain ⟨HZ, hzb, hzc⟩ := boxedT w2 #[str nm, .int .i64 DT, .bool DO] 45; have z1 := hzc 1 (.int .i64 DT) rfl; have z2 := hzc 2 (.bool DO) rfl; have y3 := unhide HSB _ ((unhide HKc).trans (unhide HZ)); have p := unhide HPX _ (unhide HK2); clear hzc; clear hk1)
  go_ret
  exact ⟨rfl, (unhide HK2).trans (unhide HZ)⟩

theorem wrong_v (Z : Zone) (S : List FieldA) (hS : schemaB S = true) (so : Option Addr) (sc : Nat) (R : List ValA) (ro : Option Addr) (rc : Nat) (hR : R.length = S.length ∨ R.length = 0) (op : Int) (f : Txt) (x : EL) (t e : SL) (xv tv ev : Value) (up : Nat) (w : World) (hf : FldsAt w (.slice so S.length sc) S) (hr : ValsAt w (.slice ro R.length rc) R)
    (hx : SlE Z w up xv x) (hv : ∃ to tn tc eo en ec, tv = .slice to tn tc ∧ ev = .slice eo en ec) (hh : headS op f x.len t.len e.len = true) (hw : wellE x = true) :
    Calls Tryd.prog 33 #[.agg #[.slice so S.length sc], .slice ro R.length rc, stV op f xv tv ev] w fun e w' => e = .returned (.bool (wrongG S (R.map ValA.kind) op f x)) ∧ Keeps (fun _ => False) w w' := by
  obtain ⟨to, tn, tc, eo, en, ec, rfl, rfl⟩ := hv
  rcases head_open hh with ⟨h1, _, hl⟩ | ⟨rfl, _, rfl⟩ | ⟨h1, rfl⟩ | ⟨rfl, hl⟩
  · obtain ⟨o, n, s, kids, rfl⟩ := EL.one_of hl
    simp only [wellE, Bool.and_eq_true] at hw
    rcases h1 with rfl | rfl | rfl | rfl
    · exact wrong1 Z S hS so sc R ro rc hR f o n s kids xv up to eo tn tc en ec w hf hr hx hw.1 hw.2.1
    · exact wrong2 Z S hS so sc R ro rc hR f o n s kids xv up to eo tn tc en ec w hf hr hx hw.1 hw.2.1
    · exact wrong3 Z S hS so sc R ro rc hR f o n s kids xv up to eo tn tc en ec w hf hr hx hw.1 hw.2.1
    · exact wrong4 Z S hS so sc R ro rc hR f o n s kids xv up to eo tn tc en ec w hf hr hx hw.1 hw.2.1
  · obtain ⟨xo, xc, rfl, _⟩ := hx.head
    cases hfo : fieldOf S f with
    | none =>
      rw [show wrongG S (R.map ValA.kind) 5 f .nil = true from by show wrongK S 5 f (some 0) = true; rw [wrongK_f (by omega)]; unfold fieldW; rw [hfo]]
      exact wrong5n S hS so sc R ro rc f xo to eo xc tn tc en ec w hf hfo
    | some d =>
      obtain ⟨kf, hkf⟩ := field_at hfo
      rw [show wrongG S (R.map ValA.kind) 5 f .nil = !d.opt from by show wrongK S 5 f (some 0) = !d.opt; rw [wrongK_f (by omega)]; unfold fieldW; rw [hfo]; rfl]
      exact wrong5s S hS so sc R ro rc f xo to eo xc tn tc en ec w hf kf d.name d.type d.opt hkf hfo
  · obtain ⟨xo, xc, rfl, _⟩ := hx.head
    rcases h1 with rfl | rfl
    · exact wrong6 S hS so sc R ro rc f xo to eo xc tn tc en ec w hf
    · exact wrong7 S hS so sc R ro rc f xo to eo xc tn tc en ec w hf
  · obtain ⟨o, n, s, kids, rfl⟩ := EL.one_of hl
    simp only [wellE, Bool.and_eq_true] at hw
    exact wrong8 Z S hS so sc R ro rc hR f o n s kids xv up to eo tn tc en ec w hf hr hx hw.1 hw.2.1
end Go.Proofs.YtjhppnecadnekaaDoor
