import Derived.Test.YtiinohibmcefkaaGreatDoorJax
namespace Go.Proofs.YtiinohibmcefkaaGreatDoor
open Go.RowKit Go.Maps

set_option maxRecDepth 100000 in
set_option maxHeartbeats 2000000 in
theorem stmt1_v (S : List FieldA) (hS : 0 < S.length) (_hS8 : S.length ≤ 8) (f : Txt) (_hf : f.length ≤ 1000) (xo to eo : Option Addr) (xn xc tn tc en ec : Nat) (W : World) (G : Nat → Prop) (m mb nn tab : Nat) (zv : Value) (hM : MkAt S G W m mb nn tab zv) (hG : ∀ q, G q → q < W.heap.size) (o n : Int) (s : Txt) (kids : EL) (b off : Nat) (kao : Option Addr) (kcap : Nat) (hxo : xo = some ⟨b, off, none⟩) (hxn : xn = 1) (_hxc : 1 ≤ xc) (hbl : b < W.heap.size) (e0 : W.cell? ⟨b, off, none⟩ = some (.int .i64 o)) (e1 : W.cell? ⟨b, off + 1, none⟩ = some (.int .i64 n)) (e2 : W.cell? ⟨b, off + 2, none⟩ = some (str s)) (e3 : W.cell? ⟨b, off + 3, none⟩ = some (.slice kao kids.len kcap))
    (hE : ∀ W', Keeps (fun _ => False) W W' → MkAt S G W' m mb nn tab zv → Calls Tryz.prog 43 #[.pointer (some ⟨m, 0, none⟩), exV o n s (.slice kao kids.len kcap)] W' (Made S G W' (nodeV S o n s kids))) :
    Calls Tryz.prog 105 #[.pointer (some ⟨m, 0, none⟩), stV 1 f (.slice xo xn xc) (.slice to tn tc) (.slice eo en ec)] W (MadeA S G W (fun r => setV r (placeP S f) (nodeV S o n s kids r.1 r.2))) := by
  obtain ⟨HB, hb, hbc⟩ := boxedT W #[.int .i64 1, str f, .slice xo xn xc, .slice to tn tc, .slice eo en ec] 39
  have b0 := hbc 0 (.int .i64 1) rfl
  have b1 := hbc 1 (str f) rfl
  have b2 := hbc 2 (.slice xo xn xc) rfl
  have b3 := hbc 3 (.slice to tn tc) rfl
  have b4 := hbc 4 (.slice eo en ec) rfl
  have HM := hide (hM.keepF hS (unhide HB))
  have HG : ∀ W', Keeps (fun _ => False) W W' → Hid (∀ q, G q → q < W'.heap.size) := fun W' hk q hq => Nat.lt_of_lt_of_le (hG q hq) hk.size
  generalize hX : W.alloc (.cells #[.int .i64 1, str f, .slice xo xn xc, .slice to tn tc, .slice eo en ec] 39) = X at *
  subst hxo hxn
  have x0 := ((unhide HB).cell hbl id).trans e0
  have x1 := ((unhide HB).cell hbl id).trans e1
  have x2 := ((unhide HB).cell hbl id).trans e2
  have x3 := ((unhide HB).cell hbl id).trans e3
  have HE := hide (hE X (unhide HB) (unhide HM))
  clear hbc hM hG hE e0 e1 e2 e3
  go_enter Tryz.func105, Tryz.ntmps105
  go_wp2_with fail
  refine (unhide HE).mono ?_
  rintro e w1 ⟨fv, rfl, hfw, hk1⟩
  have HFW := hide hfw
  have HK1 := hide hk1
  have y0 := (hk1.cell (o := 0) hb id).trans b0
  have y1 := (hk1.cell (o := 1) hb id).trans b1
  have y3 := (hk1.cell (o := 3) hb id).trans b3
  have y4 := (hk1.cell (o := 4) hb id).trans b4
  have lb := Nat.lt_of_lt_of_le hb hk1.size
  obtain ⟨kf, capf, rfl, _⟩ := hfw
  clear hk1 b0 b1 b2 b3 b4 x0 x1 x2 x3
  go_wp2_with fail
  refine (write_v S G w1 m mb nn tab zv ((unhide HM).keepF hS (unhide HK1)) hS _hS8 (unhide (HG _ ((unhide HB).trans (unhide HK1)))) f _hf _ _ (unhide HFW)).mono ?_
  rintro e w2 ⟨av, rfl, haw, hk2⟩
  have HAW := hide haw
  have HK2 := hide ((unhide HK1).trans hk2)
  obtain ⟨ka, bna, capa, rfl, _⟩ := haw
  clear hk2
  go_wp2_with fail
  go_ret
  exact ⟨_, rfl, unhide HAW, (unhide HB).trans (unhide HK2)⟩
end Go.Proofs.YtiinohibmcefkaaGreatDoor
namespace Go.Proofs.YtiinohibmcefkaaGreatDoor
open Go.RowKit Go.Maps

set_option maxRecDepth 100000 in
set_option maxHeartbeats 2000000 in
theorem stmt2_v (S : List FieldA) (hS : 0 < S.length) (_hS8 : S.length ≤ 8) (f : Txt) (_hf : f.length ≤ 1000) (xo to eo : Option Addr) (xn xc tn tc en ec : Nat) (W : World) (G : Nat → Prop) (m mb nn tab : Nat) (zv : Value) (hM : MkAt S G W m mb nn tab zv) (hG : ∀ q, G q → q < W.heap.size) (o n : Int) (s : Txt) (kids : EL) (b off : Nat) (kao : Option Addr) (kcap : Nat) (hxo : xo = some ⟨b, off, none⟩) (hxn : xn = 1) (_hxc : 1 ≤ xc) (hbl : b < W.heap.size) (e0 : W.cell? ⟨b, off, none⟩ = some (.int .i64 o)) (e1 : W.cell? ⟨b, off + 1, none⟩ = some (.int .i64 n)) (e2 : W.cell? ⟨b, off + 2, none⟩ = some (str s)) (e3 : W.cell? ⟨b, off + 3, none⟩ = some (.slice kao kids.len kcap))
    (hE : ∀ W', Keeps (fun _ => False) W W' → MkAt S G W' m mb nn tab zv → Calls Tryz.prog 43 #[.pointer (some ⟨m, 0, none⟩), exV o n s (.slice kao kids.len kcap)] W' (Made S G W' (nodeV S o n s kids))) :
    Calls Tryz.prog 105 #[.pointer (some ⟨m, 0, none⟩), stV 2 f (.slice xo xn xc) (.slice to tn tc) (.slice eo en ec)] W (MadeA S G W (fun r => setV r (placeP S f) (joinV 2 (fieldV S r.1 r.2 f) (nodeV S o n s kids r.1 r.2)))) := by
  obtain ⟨HB, hb, hbc⟩ := boxedT W #[.int .i64 2, str f, .slice xo xn xc, .slice to tn tc, .slice eo en ec] 39
  have b0 := hbc 0 (.int .i64 2) rfl
  have b1 := hbc 1 (str f) rfl
  have b2 := hbc 2 (.slice xo xn xc) rfl
  have b3 := hbc 3 (.slice to tn tc) rfl
  have b4 := hbc 4 (.slice eo en ec) rfl
  have HM := hide (hM.keepF hS (unhide HB))
  have HG : ∀ W', Keeps (fun _ => False) W W' → Hid (∀ q, G q → q < W'.heap.size) := fun W' hk q hq => Nat.lt_of_lt_of_le (hG q hq) hk.size
  generalize hX : W.alloc (.cells #[.int .i64 2, str f, .slice xo xn xc, .slice to tn tc, .slice eo en ec] 39) = X at *
  subst hxo hxn
  have x0 := ((unhide HB).cell hbl id).trans e0
  have x1 := ((unhide HB).cell hbl id).trans e1
  have x2 := ((unhide HB).cell hbl id).trans e2
  have x3 := ((unhide HB).cell hbl id).trans e3
  have HE := hide (hE X (unhide HB) (unhide HM))
  clear hbc hM hG hE e0 e1 e2 e3
  go_enter Tryz.func105, Tryz.ntmps105
  go_wp2_with fail
  refine (unhide HE).mono ?_
  rintro e w1 ⟨fv, rfl, hfw, hk1⟩
  have HFW := hide hfw
  have HK1 := hide hk1
  have y0 := (hk1.cell (o := 0) hb id).trans b0
  have y1 := (hk1.cell (o := 1) hb id).trans b1
  have y3 := (hk1.cell (o := 3) hb id).trans b3
  have y4 := (hk1.cell (o := 4) hb id).trans b4
  have lb := Nat.lt_of_lt_of_le hb hk1.size
  obtain ⟨kf, capf, rfl, _⟩ := hfw
  clear hk1 b0 b1 b2 b3 b4 x0 x1 x2 x3
  have SB : ∀ w' : World, Keeps (fun _ => False) w1 w' → w'.cell? ⟨W.heap.size, 1, none⟩ = some (str f) := fun w' hq => (hq.cell lb id).trans y1
  have HSB := hide SB
  have HC1 := hide (field_v S G w1.drew m mb nn tab zv ((unhide HM).keepF hS (unhide HK1).drew) hS _hS8 (unhide (HG _ ((unhide HB).trans (unhide HK1).drew))) f _hf)
  have HC2 : ∀ W' gv, Keeps (fun _ => False) w1 W' → Wth S G W' gv (fun h vals => fieldV S h vals f) → Hid (Calls Tryz.prog 169 #[gv, .func (.func kf) #[] capf, .func (.func 121) #[] #[]] W' (Made S G W' (fun h vals => if (fieldV S h vals f).kind = 0 then nodeV S o n s kids h vals else (fun a b => numV (wrap64 (a.n + b.n))) (fieldV S h vals f) (nodeV S o n s kids h vals)))) := fun W' gv hq hw => joined_v S G W' (unhide (HG _ ((unhide HB).trans ((unhide HK1).trans hq)))) gv _ _ _ _ _ hw ((unhide HFW).keepF hq) f90_v
  have HC3 : ∀ W' gv, Keeps (fun _ => False) w1 W' → Wth S G W' gv (fun h vals => if (fieldV S h vals f).kind = 0 then nodeV S o n s kids h vals else (fun a b => numV (wrap64 (a.n + b.n))) (fieldV S h vals f) (nodeV S o n s kids h vals)) → Hid (Calls Tryz.prog 168 #[.pointer (some ⟨m, 0, none⟩), str f, gv] W' (MadeA S G W' (fun r => setV r (placeP S f) (joinV 2 (fieldV S r.1 r.2 f) (nodeV S o n s kids r.1 r.2))))) := fun W' gv hq hw => (write_v S G W' m mb nn tab zv ((unhide HM).keepF hS ((unhide HK1).trans hq)) hS _hS8 (unhide (HG _ ((unhide HB).trans ((unhide HK1).trans hq)))) f _hf gv _ hw).mono (fun _ _ hh => hh.from (Keeps.refl _ _) (fun r => by simp [joinV]))
  clear SB
  go_wp2_with fail
  go_region_held3 (fun w' => w'.cell? ⟨W.heap.size, 1, none⟩ = some (str f))
    (first | with_reducible exact y1 | with_reducible exact r0 | with_reducible exact r1 | with_reducible exact r2 | with_reducible exact unhide HSB _ (Keeps.refl _ _).drew)
    (first
      | (go_at_call 80; refine (unhide HC1).mono ?_; rintro e w2 ⟨gv, rfl, hgw, hk2⟩; have HGW := hide hgw; have HK2 := hide ((Keeps.refl (fun _ => False) w1).drew.trans hk2); have r0 := unhide HSB _ (unhide HK2); obtain ⟨kg, capg, rfl, _⟩ := hgw; clear hk2)
      | (go_at_call 169; refine (unhide (HC2 w2 _ (unhide HK2) (unhide HGW))).mono ?_; rintro e w3 ⟨jv, rfl, hjw, hk3⟩; have HJW := hide hjw; have HK3 := hide ((unhide HK2).trans hk3); have r1 := unhide HSB _ (unhide HK3); obtain ⟨kj, capj, rfl, _⟩ := hjw; clear hk3)
      | (go_at_call 168; refine (unhide (HC3 w3 _ (unhide HK3) (unhide HJW))).mono ?_; rintro e w4 ⟨av, rfl, haw, hk4⟩; have HAW := hide haw; have HK4 := hide ((unhide HK3).trans hk4); have r2 := unhide HSB _ (unhide HK4); obtain ⟨ka, bna, capa, rfl, _⟩ := haw; clear hk4))
  go_wp2_with fail
  go_ret
  exact ⟨_, rfl, unhide HAW, (unhide HB).trans ((unhide HK1).trans (unhide HK4))⟩
set_option maxRecDepth 100000 in
set_option maxHeartbeats 2000000 in
theorem stmt3_v (S : List FieldA) (hS : 0 < S.length) (_hS8 : S.length ≤ 8) (f : Txt) (_hf : f.length ≤ 1000) (xo to eo : Option Addr) (xn xc tn tc en ec : Nat) (W : World) (G : Nat → Prop) (m mb nn tab : Nat) (zv : Value) (hM : MkAt S G W m mb nn tab zv) (hG : ∀ q, G q → q < W.heap.size) (o n : Int) (s : Txt) (kids : EL) (b off : Nat) (kao : Option Addr) (kcap : Nat) (hxo : xo = some ⟨b, off, none⟩) (hxn : xn = 1) (_hxc : 1 ≤ xc) (hbl : b < W.heap.size) (e0 : W.cell? ⟨b, off, none⟩ = some (.int .i64 o)) (e1 : W.cell? ⟨b, off + 1, none⟩ = some (.int .i64 n)) (e2 : W.cell? ⟨b, off + 2, none⟩ = some (str s)) (e3 : W.cell? ⟨b, off + 3, none⟩ = some (.slice kao kids.len kcap))
    (hE : ∀ W', Keeps (fun _ => False) W W' → MkAt S G W' m mb nn tab zv → Calls Tryz.prog 43 #[.pointer (some ⟨m, 0, none⟩), exV o n s (.slice kao kids.len kcap)] W' (Made S G W' (nodeV S o n s kids))) :
    Calls Tryz.prog 105 #[.pointer (some ⟨m, 0, none⟩), stV 3 f (.slice xo xn xc) (.slice to tn tc) (.slice eo en ec)] W (MadeA S G W (fun r => setV r (placeP S f) (joinV 3 (fieldV S r.1 r.2 f) (nodeV S o n s kids r.1 r.2)))) := by
  obtain ⟨HB, hb, hbc⟩ := boxedT W #[.int .i64 3, str f, .slice xo xn xc, .slice to tn tc, .slice eo en ec] 39
  have b0 := hbc 0 (.int .i64 3) rfl
  have b1 := hbc 1 (str f) rfl
  have b2 := hbc 2 (.slice xo xn xc) rfl
  have b3 := hbc 3 (.slice to tn tc) rfl
  have b4 := hbc 4 (.slice eo en ec) rfl
  have HM := hide (hM.keepF hS (unhide HB))
  have HG : ∀ W', Keeps (fun _ => False) W W' → Hid (∀ q, G q → q < W'.heap.size) := fun W' hk q hq => Nat.lt_of_lt_of_le (hG q hq) hk.size
  generalize hX : W.alloc (.cells #[.int .i64 3, str f, .slice xo xn xc, .slice to tn tc, .slice eo en ec] 39) = X at *
  subst hxo hxn
  have x0 := ((unhide HB).cell hbl id).trans e0
  have x1 := ((unhide HB).cell hbl id).trans e1
  have x2 := ((unhide HB).cell hbl id).trans e2
  have x3 := ((unhide HB).cell hbl id).trans e3
  have HE := hide (hE X (unhide HB) (unhide HM))
  clear hbc hM hG hE e0 e1 e2 e3
  go_enter Tryz.func105, Tryz.ntmps105
  go_wp2_with fail
  refine (unhide HE).mono ?_
  rintro e w1 ⟨fv, rfl, hfw, hk1⟩
  have HFW := hide hfw
  have HK1 := hide hk1
  have y0 := (hk1.cell (o := 0) hb id).trans b0
  have y1 := (hk1.cell (o := 1) hb id).trans b1
  have y3 := (hk1.cell (o := 3) hb id).trans b3
  have y4 := (hk1.cell (o := 4) hb id).trans b4
  have lb := Nat.lt_of_lt_of_le hb hk1.size
  obtain ⟨kf, capf, rfl, _⟩ := hfw
  clear hk1 b0 b1 b2 b3 b4 x0 x1 x2 x3
  have SB : ∀ w' : World, Keeps (fun _ => False) w1 w' → w'.cell? ⟨W.heap.size, 1, none⟩ = some (str f) := fun w' hq => (hq.cell lb id).trans y1
  have HSB := hide SB
  have HC1 := hide (field_v S G w1.drew m mb nn tab zv ((unhide HM).keepF hS (unhide HK1).drew) hS _hS8 (unhide (HG _ ((unhide HB).trans (unhide HK1).drew))) f _hf)
  have HC2 : ∀ W' gv, Keeps (fun _ => False) w1 W' → Wth S G W' gv (fun h vals => fieldV S h vals f) → Hid (Calls Tryz.prog 169 #[gv, .func (.func kf) #[] capf, .func (.func 135) #[] #[]] W' (Made S G W' (fun h vals => if (fieldV S h vals f).kind = 0 then nodeV S o n s kids h vals else (fun a b => numV (min a.n b.n)) (fieldV S h vals f) (nodeV S o n s kids h vals)))) := fun W' gv hq hw => joined_v S G W' (unhide (HG _ ((unhide HB).trans ((unhide HK1).trans hq)))) gv _ _ _ _ _ hw ((unhide HFW).keepF hq) f104_v
  have HC3 : ∀ W' gv, Keeps (fun _ => False) w1 W' → Wth S G W' gv (fun h vals => if (fieldV S h vals f).kind = 0 then nodeV S o n s kids h vals else (fun a b => numV (min a.n b.n)) (fieldV S h vals f) (nodeV S o n s kids h vals)) → Hid (Calls Tryz.prog 168 #[.pointer (some ⟨m, 0, none⟩), str f, gv] W' (MadeA S G W' (fun r => setV r (placeP S f) (joinV 3 (fieldV S r.1 r.2 f) (nodeV S o n s kids r.1 r.2))))) := fun W' gv hq hw => (write_v S G W' m mb nn tab zv ((unhide HM).keepF hS ((unhide HK1).trans hq)) hS _hS8 (unhide (HG _ ((unhide HB).trans ((unhide HK1).trans hq)))) f _hf gv _ hw).mono (fun _ _ hh => hh.from (Keeps.refl _ _) (fun r => by simp [joinV]))
  clear SB
  go_wp2_with fail
  go_region_held3 (fun w' => w'.cell? ⟨W.heap.size, 1, none⟩ = some (str f))
    (first | with_reducible exact y1 | with_reducible exact r0 | with_reducible exact r1 | with_reducible exact r2 | with_reducible exact unhide HSB _ (Keeps.refl _ _).drew)
    (first
      | (go_at_call 80; refine (unhide HC1).mono ?_; rintro e w2 ⟨gv, rfl, hgw, hk2⟩; have HGW := hide hgw; have HK2 := hide ((Keeps.refl (fun _ => False) w1).drew.trans hk2); have r0 := unhide HSB _ (unhide HK2); obtain ⟨kg, capg, rfl, _⟩ := hgw; clear hk2)
      | (go_at_call 169; refine (unhide (HC2 w2 _ (unhide HK2) (unhide HGW))).mono ?_; rintro e w3 ⟨jv, rfl, hjw, hk3⟩; have HJW := hide hjw; have HK3 := hide ((unhide HK2).trans hk3); have r1 := unhide HSB _ (unhide HK3); obtain ⟨kj, capj, rfl, _⟩ := hjw; clear hk3)
      | (go_at_call 168; refine (unhide (HC3 w3 _ (unhide HK3) (unhide HJW))).mono ?_; rintro e w4 ⟨av, rfl, haw, hk4⟩; have HAW := hide haw; have HK4 := hide ((unhide HK3).trans hk4); have r2 := unhide HSB _ (unhide HK4); obtain ⟨ka, bna, capa, rfl, _⟩ := haw; clear hk4))
  go_wp2_with fail
  go_ret
  exact ⟨_, rfl, unhide HAW, (unhide HB).trans ((unhide HK1).trans (unhide HK4))⟩
set_option maxRecDepth 100000 in
set_option maxHeartbeats 2000000 in
theorem stmt4_v (S : List FieldA) (hS : 0 < S.length) (_hS8 : S.length ≤ 8) (f : Txt) (_hf : f.length ≤ 1000) (xo to eo : Option Addr) (xn xc tn tc en ec : Nat) (W : World) (G : Nat → Prop) (m mb nn tab : Nat) (zv : Value) (hM : MkAt S G W m mb nn tab zv) (hG : ∀ q, G q → q < W.heap.size) (o n : Int) (s : Txt) (kids : EL) (b off : Nat) (kao : Option Addr) (kcap : Nat) (hxo : xo = some ⟨b, off, none⟩) (hxn : xn = 1) (_hxc : 1 ≤ xc) (hbl : b < W.heap.size) (e0 : W.cell? ⟨b, off, none⟩ = some (.int .i64 o)) (e1 : W.cell? ⟨b, off + 1, none⟩ = some (.int .i64 n)) (e2 : W.cell? ⟨b, off + 2, none⟩ = some (str s)) (e3 : W.cell? ⟨b, off + 3, none⟩ = some (.slice kao kids.len kcap))
    (hE : ∀ W', Keeps (fun _ => False) W W' → MkAt S G W' m mb nn tab zv → Calls Tryz.prog 43 #[.pointer (some ⟨m, 0, none⟩), exV o n s (.slice kao kids.len kcap)] W' (Made S G W' (nodeV S o n s kids))) :
    Calls Tryz.prog 105 #[.pointer (some ⟨m, 0, none⟩), stV 4 f (.slice xo xn xc) (.slice to tn tc) (.slice eo en ec)] W (MadeA S G W (fun r => setV r (placeP S f) (joinV 4 (fieldV S r.1 r.2 f) (nodeV S o n s kids r.1 r.2)))) := by
  obtain ⟨HB, hb, hbc⟩ := boxedT W #[.int .i64 4, str f, .slice xo xn xc, .slice to tn tc, .slice eo en ec] 39
  have b0 := hbc 0 (.int .i64 4) rfl
  have b1 := hbc 1 (str f) rfl
  have b2 := hbc 2 (.slice xo xn xc) rfl
  have b3 := hbc 3 (.slice to tn tc) rfl
  have b4 := hbc 4 (.slice eo en ec) rfl
  have HM := hide (hM.keepF hS (unhide HB))
  have HG : ∀ W', Keeps (fun _ => False) W W' → Hid (∀ q, G q → q < W'.heap.size) := fun W' hk q hq => Nat.lt_of_lt_of_le (hG q hq) hk.size
  generalize hX : W.alloc (.cells #[.int .i64 4, str f, .slice xo xn xc, .slice to tn tc, .slice eo en ec] 39) = X at *
  subst hxo hxn
  have x0 := ((unhide HB).cell hbl id).trans e0
  have x1 := ((unhide HB).cell hbl id).trans e1
  have x2 := ((unhide HB).cell hbl id).trans e2
  have x3 := ((unhide HB).cell hbl id).trans e3
  have HE := hide (hE X (unhide HB) (unhide HM))
  clear hbc hM hG hE e0 e1 e2 e3
  go_enter Tryz.func105, Tryz.ntmps105
  go_wp2_with fail
  refine (unhide HE).mono ?_
  rintro e w1 ⟨fv, rfl, hfw, hk1⟩
  have HFW := hide hfw
  have HK1 := hide hk1
  have y0 := (hk1.cell (o := 0) hb id).trans b0
  have y1 := (hk1.cell (o := 1) hb id).trans b1
  have y3 := (hk1.cell (o := 3) hb id).trans b3
  have y4 := (hk1.cell (o := 4) hb id).trans b4
  have lb := Nat.lt_of_lt_of_le hb hk1.size
  obtain ⟨kf, capf, rfl, _⟩ := hfw
  clear hk1 b0 b1 b2 b3 b4 x0 x1 x2 x3
  have SB : ∀ w' : World, Keeps (fun _ => False) w1 w' → w'.cell? ⟨W.heap.size, 1, none⟩ = some (str f) := fun w' hq => (hq.cell lb id).trans y1
  have HSB := hide SB
  have HC1 := hide (field_v S G w1.drew m mb nn tab zv ((unhide HM).keepF hS (unhide HK1).drew) hS _hS8 (unhide (HG _ ((unhide HB).trans (unhide HK1).drew))) f _hf)
  have HC2 : ∀ W' gv, Keeps (fun _ => False) w1 W' → Wth S G W' gv (fun h vals => fieldV S h vals f) → Hid (Calls Tryz.prog 169 #[gv, .func (.func kf) #[] capf, .func (.func 136) #[] #[]] W' (Made S G W' (fun h vals => if (fieldV S h vals f).kind = 0 then nodeV S o n s kids h vals else (fun a b => numV (max a.n b.n)) (fieldV S h vals f) (nodeV S o n s kids h vals)))) := fun W' gv hq hw => joined_v S G W' (unhide (HG _ ((unhide HB).trans ((unhide HK1).trans hq)))) gv _ _ _ _ _ hw ((unhide HFW).keepF hq) f105_v
  have HC3 : ∀ W' gv, Keeps (fun _ => False) w1 W' → Wth S G W' gv (fun h vals => if (fieldV S h vals f).kind = 0 then nodeV S o n s kids h vals else (fun a b => numV (max a.n b.n)) (fieldV S h vals f) (nodeV S o n s kids h vals)) → Hid (Calls Tryz.prog 168 #[.pointer (some ⟨m, 0, none⟩), str f, gv] W' (MadeA S G W' (fun r => setV r (placeP S f) (joinV 4 (fieldV S r.1 r.2 f) (nodeV S o n s kids r.1 r.2))))) := fun W' gv hq hw => (write_v S G W' m mb nn tab zv ((unhide HM).keepF hS ((unhide HK1).trans hq)) hS _hS8 (unhide (HG _ ((unhide HB).trans ((unhide HK1).trans hq)))) f _hf gv _ hw).mono (fun _ _ hh => hh.from (Keeps.refl _ _) (fun r => by simp [joinV]))
  clear SB
  go_wp2_with fail
  go_region_held3 (fun w' => w'.cell? ⟨W.heap.size, 1, none⟩ = some (str f))
    (first | with_reducible exact y1 | with_reducible exact r0 | with_reducible exact r1 | with_reducible exact r2 | with_reducible exact unhide HSB _ (Keeps.refl _ _).drew)
    (first
      | (go_at_call 80; refine (unhide HC1).mono ?_; rintro e w2 ⟨gv, rfl, hgw, hk2⟩; have HGW := hide hgw; have HK2 := hide ((Keeps.refl (fun _ => False) w1).drew.trans hk2); have r0 := unhide HSB _ (unhide HK2); obtain ⟨kg, capg, rfl, _⟩ := hgw; clear hk2)
      | (go_at_call 169; refine (unhide (HC2 w2 _ (unhide HK2) (unhide HGW))).mono ?_; rintro e w3 ⟨jv, rfl, hjw, hk3⟩; have HJW := hide hjw; have HK3 := hide ((unhide HK2).trans hk3); have r1 := unhide HSB _ (unhide HK3); obtain ⟨kj, capj, rfl, _⟩ := hjw; clear hk3)
      | (go_at_call 168; refine (unhide (HC3 w3 _ (unhide HK3) (unhide HJW))).mono ?_; rintro e w4 ⟨av, rfl, haw, hk4⟩; have HAW := hide haw; have HK4 := hide ((unhide HK3).trans hk4); have r2 := unhide HSB _ (unhide HK4); obtain ⟨ka, bna, capa, rfl, _⟩ := haw; clear hk4))
  go_wp2_with fail
  go_ret
  exact ⟨_, rfl, unhide HAW, (unhide HB).trans ((unhide HK1).trans (unhide HK4))⟩
end Go.Proofs.YtiinohibmcefkaaGreatDoor
namespace Go.Proofs.YtiinohibmcefkaaGreatDoor
open Go.RowKit Go.Maps

set_option maxRecDepth 100000 in
set_option maxHeartbeats 2000000 in
theorem stmt8_v (S : List FieldA) (hS : 0 < S.length) (_hS8 : S.length ≤ 8) (f : Txt) (_hf : f.length ≤ 1000) (xo to eo : Option Addr) (xn xc tn tc en ec : Nat) (W : World) (G : Nat → Prop) (m mb nn tab : Nat) (zv : Value) (hM : MkAt S G W m mb nn tab zv) (hG : ∀ q, G q → q < W.heap.size) (o n : Int) (s : Txt) (kids : EL) (b off : Nat) (kao : Option Addr) (kcap : Nat) (hxo : xo = some ⟨b, off, none⟩) (hxn : xn = 1) (_hxc : 1 ≤ xc) (hbl : b < W.heap.size) (e0 : W.cell? ⟨b, off, none⟩ = some (.int .i64 o)) (e1 : W.cell? ⟨b, off + 1, none⟩ = some (.int .i64 n)) (e2 : W.cell? ⟨b, off + 2, none⟩ = some (str s)) (e3 : W.cell? ⟨b, off + 3, none⟩ = some (.slice kao kids.len kcap))
    (hE : ∀ W', Keeps (fun _ => False) W W' → MkAt S G W' m mb nn tab zv → Calls Tryz.prog 43 #[.pointer (some ⟨m, 0, none⟩), exV o n s (.slice kao kids.len kcap)] W' (Made S G W' (nodeV S o n s kids))) (g1 g2 : Bool × List ValA → Bool × List ValA)
    (hP1 : ∀ W', Keeps (fun _ => False) W W' → MkAt S G W' m mb nn tab zv → Calls Tryz.prog 66 #[.pointer (some ⟨m, 0, none⟩), .slice to tn tc] W' (MadeA S G W' g1))
    (hP2 : ∀ W', Keeps (fun _ => False) W W' → MkAt S G W' m mb nn tab zv → Calls Tryz.prog 66 #[.pointer (some ⟨m, 0, none⟩), .slice eo en ec] W' (MadeA S G W' g2)) :
    Calls Tryz.prog 105 #[.pointer (some ⟨m, 0, none⟩), stV 8 f (.slice xo xn xc) (.slice to tn tc) (.slice eo en ec)] W (MadeA S G W (fun r => if (nodeV S o n s kids r.1 r.2).n = 1 then g1 r else g2 r)) := by
  obtain ⟨HB, hb, hbc⟩ := boxedT W #[.int .i64 8, str f, .slice xo xn xc, .slice to tn tc, .slice eo en ec] 39
  have b0 := hbc 0 (.int .i64 8) rfl
  have b1 := hbc 1 (str f) rfl
  have b2 := hbc 2 (.slice xo xn xc) rfl
  have b3 := hbc 3 (.slice to tn tc) rfl
  have b4 := hbc 4 (.slice eo en ec) rfl
  have HM := hide (hM.keepF hS (unhide HB))
  have HG : ∀ W', Keeps (fun _ => False) W W' → Hid (∀ q, G q → q < W'.heap.size) := fun W' hk q hq => Nat.lt_of_lt_of_le (hG q hq) hk.size
  generalize hX : W.alloc (.cells #[.int .i64 8, str f, .slice xo xn xc, .slice to tn tc, .slice eo en ec] 39) = X at *
  subst hxo hxn
  have x0 := ((unhide HB).cell hbl id).trans e0
  have x1 := ((unhide HB).cell hbl id).trans e1
  have x2 := ((unhide HB).cell hbl id).trans e2
  have x3 := ((unhide HB).cell hbl id).trans e3
  have HE := hide (hE X (unhide HB) (unhide HM))
  have HP1 : ∀ W', Keeps (fun _ => False) X W' → Hid (Calls Tryz.prog 66 #[.pointer (some ⟨m, 0, none⟩), .slice to tn tc] W' (MadeA S G W' g1)) := fun W' hq => hP1 W' ((unhide HB).trans hq) ((unhide HM).keepF hS hq)
  have HP2 : ∀ W', Keeps (fun _ => False) X W' → Hid (Calls Tryz.prog 66 #[.pointer (some ⟨m, 0, none⟩), .slice eo en ec] W' (MadeA S G W' g2)) := fun W' hq => hP2 W' ((unhide HB).trans hq) ((unhide HM).keepF hS hq)
  clear hbc hM hG hE e0 e1 e2 e3 hP1 hP2
  go_enter Tryz.func105, Tryz.ntmps105
  go_wp2_with fail
  refine (unhide HE).mono ?_
  rintro e w1 ⟨fv, rfl, hfw, hk1⟩
  have HFW := hide hfw
  have HK1 := hide hk1
  have y0 := (hk1.cell (o := 0) hb id).trans b0
  have y1 := (hk1.cell (o := 1) hb id).trans b1
  have y3 := (hk1.cell (o := 3) hb id).trans b3
  have y4 := (hk1.cell (o := 4) hb id).trans b4
  have lb := Nat.lt_of_lt_of_le hb hk1.size
  obtain ⟨kf, capf, rfl, _⟩ := hfw
  clear hk1 b0 b1 b2 b3 b4 x0 x1 x2 x3
  have SB : ∀ w' : World, Keeps (fun _ => False) w1 w' → w'.cell? ⟨W.heap.size, 3, none⟩ = some (.slice to tn tc) ∧ w'.cell? ⟨W.heap.size, 4, none⟩ = some (.slice eo en ec) := fun w' hq => ⟨(hq.cell lb id).trans y3, (hq.cell lb id).trans y4⟩
  have HSB := hide SB
  have s0 := SB w1 (Keeps.refl _ _)
  have HC1 := unhide (HP1 w1.drew (unhide HK1).drew)
  have HC1 := hide HC1
  have HC3 : ∀ W' tv ov, Keeps (fun _ => False) w1 W' → ActF S G W' tv g1 → ActF S G W' ov g2 → Hid (Calls Tryz.prog 170 #[.func (.func kf) #[] capf, tv, ov] W' (MadeA S G W' (fun r => if (nodeV S o n s kids r.1 r.2).n = 1 then g1 r else g2 r))) := fun W' tv ov hq h1 h2 => choose_v S G W' (unhide (HG _ ((unhide HB).trans ((unhide HK1).trans hq)))) _ tv ov _ g1 g2 ((unhide HFW).keepF hq) h1 h2
  clear SB
  go_wp2_with fail
  go_region_held3 (fun w' => w'.cell? ⟨W.heap.size, 3, none⟩ = some (.slice to tn tc) ∧ w'.cell? ⟨W.heap.size, 4, none⟩ = some (.slice eo en ec))
    (first | with_reducible exact s0 | with_reducible exact r0 | with_reducible exact r1 | with_reducible exact r2 | with_reducible exact unhide HSB _ (Keeps.refl _ _).drew)
    (first
      | (go_at_call 66; (with_reducible refine (unhide HC1).mono ?_); rintro e w2 ⟨tv, rfl, htw, hk2⟩; have HTW := hide htw; have HK2 := hide ((Keeps.refl (fun _ => False) w1).drew.trans hk2); have r0 := unhide HSB _ (unhide HK2); obtain ⟨kt, bnt, capt, rfl, _⟩ := htw; have mk1 : True := trivial; clear hk2)
      | (clear mk1; go_at_call 66; (with_reducible refine (unhide (HP2 w2 ((unhide HK1).trans (unhide HK2)))).mono ?_); rintro e w3 ⟨ov, rfl, how, hk3⟩; have HOW := hide how; have HTW3 := hide ((unhide HTW).keepF hk3); have HK3 := hide ((unhide HK2).trans hk3); have r1 := unhide HSB _ (unhide HK3); obtain ⟨ko, bno, capo, rfl, _⟩ := how; have mk2 : True := trivial; clear hk3)
      | (clear mk2; go_at_call 170; refine (unhide (HC3 w3 _ _ (unhide HK3) (unhide HTW3) (unhide HOW))).mono ?_; rintro e w4 ⟨av, rfl, haw, hk4⟩; have HAW := hide haw; have HK4 := hide ((unhide HK3).trans hk4); have r2 := unhide HSB _ (unhide HK4); obtain ⟨ka, bna, capa, rfl, _⟩ := haw; clear hk4))
  go_wp2_with fail
  go_ret
  exact ⟨_, rfl, unhide HAW, (unhide HB).trans ((unhide HK1).trans (unhide HK4))⟩
end Go.Proofs.YtiinohibmcefkaaGreatDoor
