import Derived.Test.YtiinohibmcefkaaGreatDoorZzbb
namespace Go.Proofs.YtiinohibmcefkaaGreatDoor
open Go.RowKit Go.Maps

set_option maxRecDepth 100000 in
set_option maxHeartbeats 2000000 in
theorem stmt2_v (S : List FieldA) (hS : 0 < S.length) (_hS8 : S.length ≤ 8) (f : Txt) (_hf : f.length ≤ 1000) (xo to eo : Option Addr) (xn xc tn tc en ec : Nat) (W : World) (G : Nat → Prop) (m mb nn tab : Nat) (zv : Value) (hM : MkAt S G W m mb nn tab zv) (hG : ∀ q, G q → q < W.heap.size) (o n : Int) (s : Txt) (kids : EL) (b off : Nat) (kao : Option Addr) (kcap : Nat) (hxo : xo = some ⟨b, off, none⟩) (hxn : xn = 1) (_hxc : 1 ≤ xc) (hbl : b < W.heap.size) (e0 : W.cell? ⟨b, off, none⟩ = some (.int .i64 o)) (e1 : W.cell? ⟨b, off + 1, none⟩ = some (.int .i64 n)) (e2 : W.cell? ⟨b, off + 2, none⟩ = some (str s)) (e3 : W.cell? ⟨b, off + 3, none⟩ = some (.slice kao kids.len kcap))
    (hE : ∀ W', Keeps (fun _ => False) W W' → MkAt S G W' m mb nn tab zv → Calls Tryz.prog 43 #[.pointer (some ⟨m, 0, none⟩), exV o n s (.slice kao kids.len kcap)] W' (Made S G W' (nodeV S o n s kids))) :
    Calls Tryz.prog 105 #[.pointer (some ⟨m, 0, none⟩), stV 2 f (.slice xo xn xc) (.slice to tn tc) (.slice eo en ec)] W (MadeA S G W (fun r => setV r (placeP S f) (joinV 2 (fieldV S r.1 r.2 f) (nodeV S o n s kids r.1 r.2)))) := by
  obtain ⟨HB, hb, hbc⟩ := boxedT W #[.int .i64 2, str f, .slice xo xn xc, .slice to tn tc, .slice eo en ec] 39
  have b0 := hbc 0 (.int .i64 2) rfl
  have b1 := hbc 1 (str f) rfl
  have b2 := hbc 2 (.slice xo xn xc) rfl
  have b3 := hbc 3 (.slice to tn tc) rfl
  have b4 := hbc 4 (.slice eo en ec) rfl
  have HM := hide (hM.keepF hS (unhide HB))
  have HG : ∀ W', Keeps (fun _ => False) W W' → Hid (∀ q, G q → q < W'.heap.size) := fun W' hk q hq => Nat.lt_of_lt_of_le (hG q hq) hk.size
  generalize hX : W.alloc (.cells #[.int .i64 2, str f, .slice xo xn xc, .slice to tn tc, .slice eo en ec] 39) = X at *
  subst hxo hxn
  have x0 := ((unhide HB).cell hbl id).trans e0
  have x1 := ((unhide HB).cell hbl id).trans e1
  have x2 := ((unhide HB).cell hbl id).trans e2
  have x3 := ((unhide HB).cell hbl id).trans e3
  have HE := hide (hE X (unhide HB) (unhide HM))
  clear hbc hM hG hE e0 e1 e2 e3
  go_enter Tryz.func105, Tryz.ntmps105
  go_wp2_with fail
  refine (unhide HE).mono ?_
  rintro e w1 ⟨fv, rfl, hfw, hk1⟩
  have HFW := hide hfw
  have HK1 := hide hk1
  have y0 := (hk1.cell (o := 0) hb id).trans b0
  have y1 := (hk1.cell (o := 1) hb id).trans b1
  have y3 := (hk1.cell (o := 3) hb id).trans b3
  have y4 := (hk1.cell (o := 4) hb id).trans b4
  have lb := Nat.lt_of_lt_of_le hb hk1.size
  obtain ⟨kf, capf, rfl, _⟩ := hfw
  clear hk1 b0 b1 b2 b3 b4 x0 x1 x2 x3
  have SB : ∀ w' : World, Keeps (fun _ => False) w1 w' → w'.cell? ⟨W.heap.size, 1, none⟩ = some (str f) := fun w' hq => (hq.cell lb id).trans y1
  have HSB := hide SB
  have HC1 := hide (field_v S G w1.drew m mb nn tab zv ((unhide HM).keepF hS (unhide HK1).drew) hS _hS8 (unhide (HG _ ((unhide HB).trans (unhide HK1).drew))) f _hf)
  have HC2 : ∀ W' gv, Keeps (fun _ => False) w1 W' → Wth S G W' gv (fun h vals => fieldV S h vals f) → Hid (Calls Tryz.prog 169 #[gv, .func (.func kf) #[] capf, .func (.func 121) #[] #[]] W' (Made S G W' (fun h vals => if (fieldV S h vals f).kind = 0 then nodeV S o n s kids h vals else (fun a b => numV (wrap64 (a.n + b.n))) (fieldV S h vals f) (nodeV S o n s kids h vals)))) := fun W' gv hq hw => joined_v S G W' (unhide (HG _ ((unhide HB).trans ((unhide HK1).trans hq)))) gv _ _ _ _ _ hw ((unhide HFW).keepF hq) f90_v
  have HC3 : ∀ W' gv, Keeps (fun _ => False) w1 W' → Wth S G W' gv (fun h vals => if (fieldV S h vals f).kind = 0 then nodeV S o n s kids h vals else (fun a b => numV (wrap64 (a.n + b.n))) (fieldV S h vals f) (nodeV S o n s kids h vals)) → Hid (Calls Tryz.prog 168 #[.pointer (some ⟨m, 0, none⟩), str f, gv] W' (MadeA S G W' (fun r => setV r (placeP S f) (joinV 2 (fieldV S r.1 r.2 f) (nodeV S o n s kids r.1 r.2))))) := fun W' gv hq hw => (write_v S G W' m mb nn tab zv ((unhide HM).keepF hS ((unhide HK1).trans hq)) hS _hS8 (unhide (HG _ ((unhide HB).trans ((unhide HK1).trans hq)))) f _hf gv _ hw).mono (fun _ _ hh => hh.from (Keeps.refl _ _) (fun r => by simp [joinV]))
  clear SB
  go_wp2_with fail
  go_region_held3 (fun w' => w'.cell? ⟨W.heap.size, 1, none⟩ = some (str f))
    (first | with_reducible exact y1 | with_reducible exact r0 | with_reducible exact r1 | with_reducible exact r2 | with_reducible exact unhide HSB _ (Keeps.refl _ _).drew)
    (first
      | (go_at_call 80; refine (unhide HC1).mono ?_; rintro e w2 ⟨gv, rfl, hgw, hk2⟩; have HGW := hide hgw; have HK2 := hide ((Keeps.refl (fun _ => False) w1).drew.trans hk2); have r0 := unhide HSB _ (unhide HK2); obtain ⟨kg, capg, rfl, _⟩ := hgw; clear hk2)
      | (go_at_call 169; refine (unhide (HC2 w2 _ (unhide HK2) (unhide HGW))).mono ?_; rintro e w3 ⟨jv, rfl, hjw, hk3⟩; have HJW := hide hjw; have HK3 := hide ((unhide HK2).trans hk3); have r1 := unhide HSB _ (unhide HK3); obtain ⟨kj, capj, rfl, _⟩ := hjw; clear hk3)
      | (go_at_call 168; refine (unhide (HC3 w3 _ (unhide HK3) (unhide HJW))).mono ?_; rintro e w4 ⟨av, rfl, haw, hk4⟩; have HAW := hide haw; have HK4 := hide ((unhide HK3).trans hk4); have r2 := unhide HSB _ (unhide HK4); obtain ⟨ka, bna, capa, rfl, _⟩ := haw; clear hk4))
  go_wp2_with fail
  go_ret
  exact ⟨_, rfl, unhide HAW, (unhide HB).trans ((unhide HK1).trans (unhide HK4))⟩
set_option maxRecDepth 100000 in
set_option maxHeartbeats 2000000 in
theorem stmt3_v (S : List FieldA) (hS : 0 < S.length) (_hS8 : S.length ≤ 8) (f : Txt) (_hf : f.length ≤ 1000) (xo to eo : Option Addr) (xn xc tn tc en ec : Nat) (W : World) (G : Nat → Prop) (m mb nn tab : Nat) (zv : Value) (hM : MkAt S G W m mb nn tab zv) (hG : ∀ q, G q → q < W.heap.size) (o n : Int) (s : Txt) (kids : EL) (b off : Nat) (kao : Option Addr) (kcap : Nat) (hxo : xo = some ⟨b, off, none⟩) (hxn : xn = 1) (_hxc : 1 ≤ xc) (hbl : b < W.heap.size) (e0 : W.cell? ⟨b, off, none⟩ = some (.int .i64 o)) (e1 : W.cell? ⟨b, off + 1, none⟩ = some (.int .i64 n)) (e2 : W.cell? ⟨b, off + 2, none⟩ = some (str s)) (e3 : W.cell? ⟨b, off + 3, none⟩ = some (.slice kao kids.len kcap))
    (hE : ∀ W', Keeps (fun _ => False) W W' → MkAt S G W' m mb nn tab zv → Calls Tryz.prog 43 #[.pointer (some ⟨m, 0, none⟩), exV o n s (.slice kao kids.len kcap)] W' (Made S G W' (nodeV S o n s kids))) :
    Calls Tryz.prog 105 #[.pointer (some ⟨m, 0, none⟩), stV 3 f (.slice xo xn xc) (.slice to tn tc) (.slice eo en ec)] W (MadeA S G W (fun r => setV r (placeP S f) (joinV 3 (fieldV S r.1 r.2 f) (nodeV S o n s kids r.1 r.2)))) := by
  obtain ⟨HB, hb, hbc⟩ := boxedT W #[.int .i64 3, str f, .slice xo xn xc, .slice to tn tc, .slice eo en ec] 39
  have b0 := hbc 0 (.int .i64 3) rfl
  have b1 := hbc 1 (str f) rfl
  have b2 := hbc 2 (.slice xo xn xc) rfl
  have b3 := hbc 3 (.slice to tn tc) rfl
  have b4 := hbc 4 (.slice eo en ec) rfl
  have HM := hide (hM.keepF hS (unhide HB))
  have HG : ∀ W', Keeps (fun _ => False) W W' → Hid (∀ q, G q → q < W'.heap.size) := fun W' hk q hq => Nat.lt_of_lt_of_le (hG q hq) hk.size
  generalize hX : W.alloc (.cells #[.int .i64 3, str f, .slice xo xn xc, .slice to tn tc, .slice eo en ec] 39) = X at *
  subst hxo hxn
  have x0 := ((unhide HB).cell hbl id).trans e0
  have x1 := ((unhide HB).cell hbl id).trans e1
  have x2 := ((unhide HB).cell hbl id).trans e2
  have x3 := ((unhide HB).cell hbl id).trans e3
  have HE := hide (hE X (unhide HB) (unhide HM))
  clear hbc hM hG hE e0 e1 e2 e3
  go_enter Tryz.func105, Tryz.ntmps105
  go_wp2_with fail
  refine (unhide HE).mono ?_
  rintro e w1 ⟨fv, rfl, hfw, hk1⟩
  have HFW := hide hfw
  have HK1 := hide hk1
  have y0 := (hk1.cell (o := 0) hb id).trans b0
  have y1 := (hk1.cell (o := 1) hb id).trans b1
  have y3 := (hk1.cell (o := 3) hb id).trans b3
  have y4 := (hk1.cell (o := 4) hb id).trans b4
  have lb := Nat.lt_of_lt_of_le hb hk1.size
  obtain ⟨kf, capf, rfl, _⟩ := hfw
  clear hk1 b0 b1 b2 b3 b4 x0 x1 x2 x3
  have SB : ∀ w' : World, Keeps (fun _ => False) w1 w' → w'.cell? ⟨W.heap.size, 1, none⟩ = some (str f) := fun w' hq => (hq.cell lb id).trans y1
  have HSB := hide SB
  have HC1 := hide (field_v S G w1.drew m mb nn tab zv ((unhide HM).keepF hS (unhide HK1).drew) hS _hS8 (unhide (HG _ ((unhide HB).trans (unhide HK1).drew))) f _hf)
  have HC2 : ∀ W' gv, Keeps (fun _ => False) w1 W' → Wth S G W' gv (fun h vals => fieldV S h vals f) → Hid (Calls Tryz.prog 169 #[gv, .func (.func kf) #[] capf, .func (.func 135) #[] #[]] W' (Made S G W' (fun h vals => if (fieldV S h vals f).kind = 0 then nodeV S o n s kids h vals else (fun a b => numV (min a.n b.n)) (fieldV S h vals f) (nodeV S o n s kids h vals)))) := fun W' gv hq hw => joined_v S G W' (unhide (HG _ ((unhide HB).trans ((unhide HK1).trans hq)))) gv _ _ _ _ _ hw ((unhide HFW).keepF hq) f104_v
  have HC3 : ∀ W' gv, Keeps (fun _ => False) w1 W' → Wth S G W' gv (fun h vals => if (fieldV S h vals f).kind = 0 then nodeV S o n s kids h vals else (fun a b => numV (min a.n b.n)) (fieldV S h vals f) (nodeV S o n s kids h vals)) → Hid (Calls Tryz.prog 168 #[.pointer (some ⟨m, 0, none⟩), str f, gv] W' (MadeA S G W' (fun r => setV r (placeP S f) (joinV 3 (fieldV S r.1 r.2 f) (nodeV S o n s kids r.1 r.2))))) := fun W' gv hq hw => (write_v S G W' m mb nn tab zv ((unhide HM).keepF hS ((unhide HK1).trans hq)) hS _hS8 (unhide (HG _ ((unhide HB).trans ((unhide HK1).trans hq)))) f _hf gv _ hw).mono (fun _ _ hh => hh.from (Keeps.refl _ _) (fun r => by simp [joinV]))
  clear SB
  go_wp2_with fail
  go_region_held3 (fun w' => w'.cell? ⟨W.heap.size, 1, none⟩ = some (str f))
    (first | with_reducible exact y1 | with_reducible exact r0 | with_reducible exact r1 | with_reducible exact r2 | with_reducible exact unhide HSB _ (Keeps.refl _ _).drew)
    (first
      | (go_at_call 80; refine (unhide HC1).mono ?_; rintro e w2 ⟨gv, rfl, hgw, hk2⟩; have HGW := hide hgw; have HK2 := hide ((Keeps.refl (fun _ => False) w1).drew.trans hk2); have r0 := unhide HSB _ (unhide HK2); obtain ⟨kg, capg, rfl, _⟩ := hgw; clear hk2)
      | (go_at_call 169; refine (unhide (HC2 w2 _ (unhide HK2) (unhide HGW))).mono ?_; rintro e w3 ⟨jv, rfl, hjw, hk3⟩; have HJW := hide hjw; have HK3 := hide ((unhide HK2).trans hk3); have r1 := unhide HSB _ (unhide HK3); obtain ⟨kj, capj, rfl, _⟩ := hjw; clear hk3)
      | (go_at_call 168; refine (unhide (HC3 w3 _ (unhide HK3) (unhide HJW))).mono ?_; rintro e w4 ⟨av, rfl, haw, hk4⟩; have HAW := hide haw; have HK4 := hide ((unhide HK3).trans hk4); have r2 := unhide HSB _ (unhide HK4); obtain ⟨ka, bna, capa, rfl, _⟩ := haw; clear hk4))
  go_wp2_with fail
  go_ret
  exact ⟨_, rfl, unhide HAW, (unhide HB).trans ((unhide HK1).trans (unhide HK4))⟩
set_option maxRecDepth 100000 in
set_option maxHeartbeats 2000000 in
theorem stmt4_v (S : List FieldA) (hS : 0 < S.length) (_hS8 : S.length ≤ 8) (f : Txt) (_hf : f.length ≤ 1000) (xo to eo : Option Addr) (xn xc tn tc en ec : Nat) (W : World) (G : Nat → Prop) (m mb nn tab : Nat) (zv : Value) (hM : MkAt S G W m mb nn tab zv) (hG : ∀ q, G q → q < W.heap.size) (o n : Int) (s : Txt) (kids : EL) (b off : Nat) (kao : Option Addr) (kcap : Nat) (hxo : xo = some ⟨b, off, none⟩) (hxn : xn = 1) (_hxc : 1 ≤ xc) (hbl : b < W.heap.size) (e0 : W.cell? ⟨b, off, none⟩ = some (.int .i64 o)) (e1 : W.cell? ⟨b, off + 1, none⟩ = some (.int .i64 n)) (e2 : W.cell? ⟨b, off + 2, none⟩ = some (str s)) (e3 : W.cell? ⟨b, off + 3, none⟩ = some (.slice kao kids.len kcap))
    (hE : ∀ W', Keeps (fun _ => False) W W' → MkAt S G W' m mb nn tab zv → Calls Tryz.prog 43 #[.pointer (some ⟨m, 0, none⟩), exV o n s (.slice kao kids.len kcap)] W' (Made S G W' (nodeV S o n s kids))) :
    Calls Tryz.prog 105 #[.pointer (some ⟨m, 0, none⟩), stV 4 f (.slice xo xn xc) (.slice to tn tc) (.slice eo en ec)] W (MadeA S G W (fun r => setV r (placeP S f) (joinV 4 (fieldV S r.1 r.2 f) (nodeV S o n s kids r.1 r.2)))) := by
  obtain ⟨HB, hb, hbc⟩ := boxedT W #[.int .i64 4, str f, .slice xo xn xc, .slice to tn tc, .slice eo en ec] 39
  have b0 := hbc 0 (.int .i64 4) rfl
  have b1 := hbc 1 (str f) rfl
  have b2 := hbc 2 (.slice xo xn xc) rfl
  have b3 := hbc 3 (.slice to tn tc) rfl
  have b4 := hbc 4 (.slice eo en ec) rfl
  have HM := hide (hM.keepF hS (unhide HB))
  have HG : ∀ W', Keeps (fun _ => False) W W' → Hid (∀ q, G q → q < W'.heap.size) := fun W' hk q hq => Nat.lt_of_lt_of_le (hG q hq) hk.size
  generalize hX : W.alloc (.cells #[.int .i64 4, str f, .slice xo xn xc, .slice to tn tc, .slice eo en ec] 39) = X at *
  subst hxo hxn
  have x0 := ((unhide HB).cell hbl id).trans e0
  have x1 := ((unhide HB).cell hbl id).trans e1
  have x2 := ((unhide HB).cell hbl id).trans e2
  have x3 := ((unhide HB).cell hbl id).trans e3
  have HE := hide (hE X (unhide HB) (unhide HM))
  clear hbc hM hG hE e0 e1 e2 e3
  go_enter Tryz.func105, Tryz.ntmps105
  go_wp2_with fail
  refine (unhide HE).mono ?_
  rintro e w1 ⟨fv, rfl, hfw, hk1⟩
  have HFW := hide hfw
  have HK1 := hide hk1
  have y0 := (hk1.cell (o := 0) hb id).trans b0
  have y1 := (hk1.cell (o := 1) hb id).trans b1
  have y3 := (hk1.cell (o := 3) hb id).trans b3
  have y4 := (hk1.cell (o := 4) hb id).trans b4
  have lb := Nat.lt_of_lt_of_le hb hk1.size
  obtain ⟨kf, capf, rfl, _⟩ := hfw
  clear hk1 b0 b1 b2 b3 b4 x0 x1 x2 x3
  have SB : ∀ w' : World, Keeps (fun _ => False) w1 w' → w'.cell? ⟨W.heap.size, 1, none⟩ = some (str f) := fun w' hq => (hq.cell lb id).trans y1
  have HSB := hide SB
  have HC1 := hide (field_v S G w1.drew m mb nn tab zv ((unhide HM).keepF hS (unhide HK1).drew) hS _hS8 (unhide (HG _ ((unhide HB).trans (unhide HK1).drew))) f _hf)
  have HC2 : ∀ W' gv, Keeps (fun _ => False) w1 W' → Wth S G W' gv (fun h vals => fieldV S h vals f) → Hid (Calls Tryz.prog 169 #[gv, .func (.func kf) #[] capf, .func (.func 136) #[] #[]] W' (Made S G W' (fun h vals => if (fieldV S h vals f).kind = 0 then nodeV S o n s kids h vals else (fun a b => numV (max a.n b.n)) (fieldV S h vals f) (nodeV S o n s kids h vals)))) := fun W' gv hq hw => joined_v S G W' (unhide (HG _ ((unhide HB).trans ((unhide HK1).trans hq)))) gv _ _ _ _ _ hw ((unhide HFW).keepF hq) f105_v
  have HC3 : ∀ W' gv, Keeps (fun _ => False) w1 W' → Wth S G W' gv (fun h vals => if (fieldV S h vals f).kind = 0 then nodeV S o n s kids h vals else (fun a b => numV (max a.n b.n)) (fieldV S h vals f) (nodeV S o n s kids h vals)) → Hid (Calls Tryz.prog 168 #[.pointer (some ⟨m, 0, none⟩), str f, gv] W' (MadeA S G W' (fun r => setV r (placeP S f) (joinV 4 (fieldV S r.1 r.2 f) (nodeV S o n s kids r.1 r.2))))) := fun W' gv hq hw => (write_v S G W' m mb nn tab zv ((unhide HM).keepF hS ((unhide HK1).trans hq)) hS _hS8 (unhide (HG _ ((unhide HB).trans ((unhide HK1).trans hq)))) f _hf gv _ hw).mono (fun _ _ hh => hh.from (Keeps.refl _ _) (fun r => by simp [joinV]))
  clear SB
  go_wp2_with fail
  go_region_held3 (fun w' => w'.cell? ⟨W.heap.size, 1, none⟩ = some (str f))
    (first | with_reducible exact y1 | with_reducible exact r0 | with_reducible exact r1 | with_reducible exact r2 | with_reducible exact unhide HSB _ (Keeps.refl _ _).drew)
    (first
      | (go_at_call 80; refine (unhide HC1).mono ?_; rintro e w2 ⟨gv, rfl, hgw, hk2⟩; have HGW := hide hgw; have HK2 := hide ((Keeps.refl (fun _ => False) w1).drew.trans hk2); have r0 := unhide HSB _ (unhide HK2); obtain ⟨kg, capg, rfl, _⟩ := hgw; clear hk2)
      | (go_at_call 169; refine (unhide (HC2 w2 _ (unhide HK2) (unhide HGW))).mono ?_; rintro e w3 ⟨jv, rfl, hjw, hk3⟩; have HJW := hide hjw; have HK3 := hide ((unhide HK2).trans hk3); have r1 := unhide HSB _ (unhide HK3); obtain ⟨kj, capj, rfl, _⟩ := hjw; clear hk3)
      | (go_at_call 168; refine (unhide (HC3 w3 _ (unhide HK3) (unhide HJW))).mono ?_; rintro e w4 ⟨av, rfl, haw, hk4⟩; have HAW := hide haw; have HK4 := hide ((unhide HK3).trans hk4); have r2 := unhide HSB _ (unhide HK4); obtain ⟨ka, bna, capa, rfl, _⟩ := haw; clear hk4))
  go_wp2_with fail
  go_ret
  exact ⟨_, rfl, unhide HAW, (unhide HB).trans ((unhide HK1).trans (unhide HK4))⟩
end Go.Proofs.YtiinohibmcefkaaGreatDoor
namespace Go.Proofs.YtiinohibmcefkaaGreatDoor
open Go.RowKit Go.Maps

set_option maxRecDepth 100000 in
set_option maxHeartbeats 2000000 in
theorem stmt8_v (S : List FieldA) (hS : 0 < S.length) (_hS8 : S.length ≤ 8) (f : Txt) (_hf : f.length ≤ 1000) (xo to eo : Option Addr) (xn xc tn tc en ec : Nat) (W : World) (G : Nat → Prop) (m mb nn tab : Nat) (zv : Value) (hM : MkAt S G W m mb nn tab zv) (hG : ∀ q, G q → q < W.heap.size) (o n : Int) (s : Txt) (kids : EL) (b off : Nat) (kao : Option Addr) (kcap : Nat) (hxo : xo = some ⟨b, off, none⟩) (hxn : xn = 1) (_hxc : 1 ≤ xc) (hbl : b < W.heap.size) (e0 : W.cell? ⟨b, off, none⟩ = some (.int .i64 o)) (e1 : W.cell? ⟨b, off + 1, none⟩ = some (.int .i64 n)) (e2 : W.cell? ⟨b, off + 2, none⟩ = some (str s)) (e3 : W.cell? ⟨b, off + 3, none⟩ = some (.slice kao kids.len kcap))
    (hE : ∀ W', Keeps (fun _ => False) W W' → MkAt S G W' m mb nn tab zv → Calls Tryz.prog 43 #[.pointer (some ⟨m, 0, none⟩), exV o n s (.slice kao kids.len kcap)] W' (Made S G W' (nodeV S o n s kids))) (g1 g2 : Bool × List ValA → Bool × List ValA)
    (hP1 : ∀ W', Keeps (fun _ => False) W W' → MkAt S G W' m mb nn tab zv → Calls Tryz.prog 66 #[.pointer (some ⟨m, 0, none⟩), .slice to tn tc] W' (MadeA S G W' g1))
    (hP2 : ∀ W', Keeps (fun _ => False) W W' → MkAt S G W' m mb nn tab zv → Calls Tryz.prog 66 #[.pointer (some ⟨m, 0, none⟩), .slice eo en ec] W' (MadeA S G W' g2)) :
    Calls Tryz.prog 105 #[.pointer (some ⟨m, 0, none⟩), stV 8 f (.slice xo xn xc) (.slice to tn tc) (.slice eo en ec)] W (MadeA S G W (fun r => if (nodeV S o n s kids r.1 r.2).n = 1 then g1 r else g2 r)) := by
  obtain ⟨HB, hb, hbc⟩ := boxedT W #[.int .i64 8, str f, .slice xo xn xc, .slice to tn tc, .slice eo en ec] 39
  have b0 := hbc 0 (.int .i64 8) rfl
  have b1 := hbc 1 (str f) rfl
  have b2 := hbc 2 (.slice xo xn xc) rfl
  have b3 := hbc 3 (.slice to tn tc) rfl
  have b4 := hbc 4 (.slice eo en ec) rfl
  have HM := hide (hM.keepF hS (unhide HB))
  have HG : ∀ W', Keeps (fun _ => False) W W' → Hid (∀ q, G q → q < W'.heap.size) := fun W' hk q hq => Nat.lt_of_lt_of_le (hG q hq) hk.size
  generalize hX : W.alloc (.cells #[.int .i64 8, str f, .slice xo xn xc, .slice to tn tc, .slice eo en ec] 39) = X at *
  subst hxo hxn
  have x0 := ((unhide HB).cell hbl id).trans e0
  have x1 := ((unhide HB).cell hbl id).trans e1
  have x2 := ((unhide HB).cell hbl id).trans e2
  have x3 := ((unhide HB).cell hbl id).trans e3
  have HE := hide (hE X (unhide HB) (unhide HM))
  have HP1 : ∀ W', Keeps (fun _ => False) X W' → Hid (Calls Tryz.prog 66 #[.pointer (some ⟨m, 0, none⟩), .slice to tn tc] W' (MadeA S G W' g1)) := fun W' hq => hP1 W' ((unhide HB).trans hq) ((unhide HM).keepF hS hq)
  have HP2 : ∀ W', Keeps (fun _ => False) X W' → Hid (Calls Tryz.prog 66 #[.pointer (some ⟨m, 0, none⟩), .slice eo en ec] W' (MadeA S G W' g2)) := fun W' hq => hP2 W' ((unhide HB).trans hq) ((unhide HM).keepF hS hq)
  clear hbc hM hG hE e0 e1 e2 e3 hP1 hP2
  go_enter Tryz.func105, Tryz.ntmps105
  go_wp2_with fail
  refine (unhide HE).mono ?_
  rintro e w1 ⟨fv, rfl, hfw, hk1⟩
  have HFW := hide hfw
  have HK1 := hide hk1
  have y0 := (hk1.cell (o := 0) hb id).trans b0
  have y1 := (hk1.cell (o := 1) hb id).trans b1
  have y3 := (hk1.cell (o := 3) hb id).trans b3
  have y4 := (hk1.cell (o := 4) hb id).trans b4
  have lb := Nat.lt_of_lt_of_le hb hk1.size
  obtain ⟨kf, capf, rfl, _⟩ := hfw
  clear hk1 b0 b1 b2 b3 b4 x0 x1 x2 x3
  have SB : ∀ w' : World, Keeps (fun _ => False) w1 w' → w'.cell? ⟨W.heap.size, 3, none⟩ = some (.slice to tn tc) ∧ w'.cell? ⟨W.heap.size, 4, none⟩ = some (.slice eo en ec) := fun w' hq => ⟨(hq.cell lb id).trans y3, (hq.cell lb id).trans y4⟩
  have HSB := hide SB
  have s0 := SB w1 (Keeps.refl _ _)
  have HC1 := unhide (HP1 w1.drew (unhide HK1).drew)
  have HC1 := hide HC1
  have HC3 : ∀ W' tv ov, Keeps (fun _ => False) w1 W' → ActF S G W' tv g1 → ActF S G W' ov g2 → Hid (Calls Tryz.prog 170 #[.func (.func kf) #[] capf, tv, ov] W' (MadeA S G W' (fun r => if (nodeV S o n s kids r.1 r.2).n = 1 then g1 r else g2 r))) := fun W' tv ov hq h1 h2 => choose_v S G W' (unhide (HG _ ((unhide HB).trans ((unhide HK1).trans hq)))) _ tv ov _ g1 g2 ((unhide HFW).keepF hq) h1 h2
  clear SB
  go_wp2_with fail
  go_region_held3 (fun w' => w'.cell? ⟨W.heap.size, 3, none⟩ = some (.slice to tn tc) ∧ w'.cell? ⟨W.heap.size, 4, none⟩ = some (.slice eo en ec))
    (first | with_reducible exact s0 | with_reducible exact r0 | with_reducible exact r1 | with_reducible exact r2 | with_reducible exact unhide HSB _ (Keeps.refl _ _).drew)
    (first
      | (go_at_call 66; (with_reducible refine (unhide HC1).mono ?_); rintro e w2 ⟨tv, rfl, htw, hk2⟩; have HTW := hide htw; have HK2 := hide ((Keeps.refl (fun _ => False) w1).drew.trans hk2); have r0 := unhide HSB _ (unhide HK2); obtain ⟨kt, bnt, capt, rfl, _⟩ := htw; have mk1 : True := trivial; clear hk2)
      | (clear mk1; go_at_call 66; (with_reducible refine (unhide (HP2 w2 ((unhide HK1).trans (unhide HK2)))).mono ?_); rintro e w3 ⟨ov, rfl, how, hk3⟩; have HOW := hide how; have HTW3 := hide ((unhide HTW).keepF hk3); have HK3 := hide ((unhide HK2).trans hk3); have r1 := unhide HSB _ (unhide HK3); obtain ⟨ko, bno, capo, rfl, _⟩ := how; have mk2 : True := trivial; clear hk3)
      | (clear mk2; go_at_call 170; refine (unhide (HC3 w3 _ _ (unhide HK3) (unhide HTW3) (unhide HOW))).mono ?_; rintro e w4 ⟨av, rfl, haw, hk4⟩; have HAW := hide haw; have HK4 := hide ((unhide HK3).trans hk4); have r2 := unhide HSB _ (unhide HK4); obtain ⟨ka, bna, capa, rfl, _⟩ := haw; clear hk4))
  go_wp2_with fail
  go_ret
  exact ⟨_, rfl, unhide HAW, (unhide HB).trans ((unhide HK1).trans (unhide HK4))⟩
end Go.Proofs.YtiinohibmcefkaaGreatDoor
namespace Go.Proofs.YtiinohibmcefkaaGreatDoor
open Go.RowKit Go.Maps

theorem headV_one (S : List FieldA) (r : Bool × List ValA) (o n : Int) (s : Txt) (kids : EL) : headV S r (.cons o n s kids .nil) = nodeV S o n s kids r.1 r.2 := by
  unfold headV kV
  rw [valsP_cons]
  rfl
theorem head_empty {op : Int} {f : Txt} {x t e : Nat} (h : headS op f x t e = true) (h1 : op = 6 ∨ op = 7 ∨ op = 8) : f.length ≤ 1000 := by
  rcases h1 with rfl | rfl | rfl
  all_goals
    simp [headS] at h
    simp [h.1]
theorem stmtM_v (Z : Zone) (S : List FieldA) (hS : 0 < S.length) (hS8 : S.length ≤ 8) (op : Int) (f : Txt) (ex : EL) (th el : SL) (W : World) (G : Nat → Prop) (m mb nn tab : Nat) (zv : Value) (up : Nat) (xv : Value) (to eo : Option Addr) (tc ec : Nat) (hM : MkAt S G W m mb nn tab zv) (hG : ∀ q, G q → q < W.heap.size) (hx : SlE Z W up xv ex) (hh : headS op f ex.len th.len el.len = true) (hw : wellE ex = true)
    (hP1 : ∀ W', Keeps (fun _ => False) W W' → MkAt S G W' m mb nn tab zv → Calls Tryz.prog 66 #[.pointer (some ⟨m, 0, none⟩), .slice to th.len tc] W' (MadeA S G W' (runS S th)))
    (hP2 : ∀ W', Keeps (fun _ => False) W W' → MkAt S G W' m mb nn tab zv → Calls Tryz.prog 66 #[.pointer (some ⟨m, 0, none⟩), .slice eo el.len ec] W' (MadeA S G W' (runS S el))) :
    Calls Tryz.prog 105 #[.pointer (some ⟨m, 0, none⟩), stV op f xv (.slice to th.len tc) (.slice eo el.len ec)] W (MadeA S G W (stmtS S op f ex th el)) := by
  have hGk : ∀ W', Keeps (fun _ => False) W W' → ∀ q, G q → q < W'.heap.size := fun W' hk q hq => Nat.lt_of_lt_of_le (hG q hq) hk.size
  have one : ex.len = 1 → ∃ o n s kids b off kao kcap cap, ex = .cons o n s kids .nil ∧ xv = .slice (some ⟨b, off, none⟩) 1 cap ∧ 1 ≤ cap ∧ b < W.heap.size ∧ W.cell? ⟨b, off, none⟩ = some (.int .i64 o) ∧ W.cell? ⟨b, off + 1, none⟩ = some (.int .i64 n) ∧ W.cell? ⟨b, off + 2, none⟩ = some (str s) ∧ W.cell? ⟨b, off + 3, none⟩ = some (.slice kao kids.len kcap) ∧
      ∀ W', Keeps (fun _ => False) W W' → MkAt S G W' m mb nn tab zv → Calls Tryz.prog 43 #[.pointer (some ⟨m, 0, none⟩), exV o n s (.slice kao kids.len kcap)] W' (Made S G W' (nodeV S o n s kids)) := fun hl => by
    obtain ⟨o, n, s, kids, rfl⟩ := EL.one_of hl
    obtain ⟨ao, cap, rfl, hc, hr⟩ := hx
    obtain ⟨b, off, rfl, _, h1, _, h3, h4, h5, ⟨kao, kcap, h6, h7, h8⟩, _⟩ := hr (by simp [EL.len])
    simp only [wellE, Bool.and_eq_true] at hw
    refine ⟨o, n, s, kids, b, off, kao, kcap, cap, rfl, rfl, by simpa [EL.len] using hc, h1, h3, h4, h5, h6, fun W' hk hM' => ?_⟩
    exact exprM_v Z S hS hS8 (kids.size + 1) kids (by omega) o n s W' G m mb nn tab zv b _ hM' (hGk W' hk) ((show SlE Z W b (.slice kao kids.len kcap) kids from ⟨kao, kcap, rfl, h7, h8⟩).keepF hk) hw.1 hw.2.1
  obtain ⟨xo, xc, rfl, _⟩ := hx.head
  rcases head_open hh with ⟨h1, hf, hl⟩ | ⟨rfl, hf, rfl⟩ | ⟨h1, rfl⟩ | ⟨rfl, hl⟩
  · obtain ⟨o, n, s, kids, b, off, kao, kcap, cap, rfl, e, hc, hb, e0, e1, e2, e3, hE⟩ := one hl
    rw [e]
    rcases h1 with rfl | rfl | rfl | rfl
    · exact (stmt1_v S hS hS8 f (by omega) _ to eo 1 cap _ tc _ ec W G m mb nn tab zv hM hG o n s kids b off kao kcap rfl rfl hc hb e0 e1 e2 e3 hE).mono (fun _ _ h => h.from (Keeps.refl _ _) (fun r => by simp [stmtS, headV_one]))
    · exact (stmt2_v S hS hS8 f (by omega) _ to eo 1 cap _ tc _ ec W G m mb nn tab zv hM hG o n s kids b off kao kcap rfl rfl hc hb e0 e1 e2 e3 hE).mono (fun _ _ h => h.from (Keeps.refl _ _) (fun r => by simp [stmtS, headV_one]))
    · exact (stmt3_v S hS hS8 f (by omega) _ to eo 1 cap _ tc _ ec W G m mb nn tab zv hM hG o n s kids b off kao kcap rfl rfl hc hb e0 e1 e2 e3 hE).mono (fun _ _ h => h.from (Keeps.refl _ _) (fun r => by simp [stmtS, headV_one]))
    · exact (stmt4_v S hS hS8 f (by omega) _ to eo 1 cap _ tc _ ec W G m mb nn tab zv hM hG o n s kids b off kao kcap rfl rfl hc hb e0 e1 e2 e3 hE).mono (fun _ _ h => h.from (Keeps.refl _ _) (fun r => by simp [stmtS, headV_one]))
  · exact (stmt5_v S hS hS8 f (by omega) xo to eo _ xc _ tc _ ec W G m mb nn tab zv hM hG).mono (fun _ _ h => h.from (Keeps.refl _ _) (fun r => by simp [stmtS]))
  · have hf : f.length ≤ 1000 := head_empty hh (by rcases h1 with h | h; exact Or.inl h; exact Or.inr (Or.inl h))
    rcases h1 with rfl | rfl
    · exact (stmt6_v S hS hS8 f hf xo to eo _ xc _ tc _ ec W G m mb nn tab zv hM hG).mono (fun _ _ h => h.from (Keeps.refl _ _) (fun r => by simp [stmtS]))
    · exact (stmt7_v S hS hS8 f hf xo to eo _ xc _ tc _ ec W G m mb nn tab zv hM hG).mono (fun _ _ h => h.from (Keeps.refl _ _) (fun r => by simp [stmtS]))
  · obtain ⟨o, n, s, kids, b, off, kao, kcap, cap, rfl, e, hc, hb, e0, e1, e2, e3, hE⟩ := one hl
    have hf : f.length ≤ 1000 := head_empty hh (Or.inr (Or.inr rfl))
    rw [e]
    exact (stmt8_v S hS hS8 f hf _ to eo 1 cap _ tc _ ec W G m mb nn tab zv hM hG o n s kids b off kao kcap rfl rfl hc hb e0 e1 e2 e3 hE _ _ hP1 hP2).mono (fun _ _ h => h.from (Keeps.refl _ _) (fun r => by simp [stmtS, headV_one]))
end Go.Proofs.YtiinohibmcefkaaGreatDoor
namespace Go.Proofs.YtiinohibmcefkaaGreatDoor
open Go.RowKit Go.Maps

theorem Tryz.info107 : (Tryz.prog.info? 107).map (fun i => (i.zero, i.size, i.bytes)) = some (some .nilFunc, 1, 8) := by kernel_rfl
/-- A list of acts, made new. -/
theorem run_mkA (n : Nat) (hn : n ≤ 1000) (w : World) : ∃ c : Array Value, c.size = n ∧ (Instr.makeSlice 147 (.int .i64 (n : Int)) (.int .i64 (n : Int))).run Tryz.prog w = .ok (.slice (some ⟨w.heap.size, 0, none⟩) n n) (w.alloc (.cells c 107)) := by
  obtain ⟨i0, hi, hz0, hz1, hz2⟩ := info_parts Tryz.info107
  have q := run_make (P := Tryz.prog) w 147 107 i0 _ Tryz.underlying147 hi hz0 .i64 .i64 (n : Int) (n : Int) (by omega) (by omega) (by rw [hz2]; omega) (by omega)
  rw [hz1] at q
  have e : ((n : Int)).toNat = n := by omega
  rw [e] at q
  exact ⟨_, by rw [size_madeCells]; omega, q⟩
/-- The acts so far. -/
structure Acts (S : List FieldA) (G : Nat → Prop) (kb n : Nat) (gs : List (Bool × List ValA → Bool × List ValA)) (w : World) : Prop where
  blk : ∃ c, w.heap[kb]? = some (.cells c 107 (0, 0)) ∧ c.size = n ∧ ∀ (i : Nat) g, gs[i]? = some g → ∃ av, c[i]? = some av ∧ ActF S G w av g
theorem Acts.lt {S : List FieldA} {G : Nat → Prop} {kb n : Nat} {gs : List (Bool × List ValA → Bool × List ValA)} {w : World} (h : Acts S G kb n gs w) : kb < w.heap.size := by
  obtain ⟨c, hb, _⟩ := h.blk
  exact lt_of_block hb
theorem Acts.keepF {S : List FieldA} {G : Nat → Prop} {kb n : Nat} {gs : List (Bool × List ValA → Bool × List ValA)} {w w' : World} (h : Acts S G kb n gs w) (hk : Keeps (fun _ => False) w w') : Acts S G kb n gs w' := by
  obtain ⟨c, hb, hc, hf⟩ := h.blk
  refine ⟨c, (hk.block _ (lt_of_block hb) id).trans hb, hc, fun i f hi => ?_⟩
  obtain ⟨fv, h1, h2⟩ := hf i f hi
  exact ⟨fv, h1, h2.keepF hk⟩
theorem Acts.old {S : List FieldA} {G : Nat → Prop} {kb n : Nat} {gs : List (Bool × List ValA → Bool × List ValA)} {w : World} (h : Acts S G kb n gs w) {k : Nat} (hk : k < n) : (∃ v, w.cell? ⟨kb, k, none⟩ = some v) ∧ w.frozen? ⟨kb, k, none⟩ = false := by
  obtain ⟨c, hb, hc, _⟩ := h.blk
  exact ⟨⟨_, (cell_of_blk hb k).trans (Array.getElem?_eq_getElem (by omega))⟩, frozen_of_blk hb k⟩
theorem Acts.step {S : List FieldA} {G : Nat → Prop} {kb n : Nat} {gs : List (Bool × List ValA → Bool × List ValA)} {w : World} (h : Acts S G kb n gs w) (hG : G kb) {k : Nat} (hk : k < n) (hl : gs.length = k) {av : Value} {g : Bool × List ValA → Bool × List ValA} (hf : ActF S G w av g) : Acts S G kb n (gs ++ [g]) (w.setCell ⟨kb, k, none⟩ av) := by
  obtain ⟨c, hb, hc, hd⟩ := h.blk
  have hks : Keeps G w (w.setCell ⟨kb, k, none⟩ av) := (keeps_set w kb k av).mono (fun q _ e => by rw [e]; exact hG)
  refine ⟨_, heap_setCell_at hb av, by simp [hc], fun i g' hi => ?_⟩
  rw [List.getElem?_append] at hi
  split at hi
  · rename_i hlt
    obtain ⟨v, h1, h2⟩ := hd i g' hi
    exact ⟨v, by rw [Array.getElem?_setIfInBounds_ne (by omega)]; exact h1, h2.keepG hks⟩
  · rename_i hlt
    have hik : i = k := by
      have := (List.getElem?_eq_some_iff.1 hi).1
      simp at this
      omega
    subst hik
    rw [hl] at hi
    simp at hi
    subst hi
    exact ⟨av, by rw [Array.getElem?_setIfInBounds_self_of_lt (by omega)], hf.keepG hks⟩
theorem Acts.all {S : List FieldA} {G G' : Nat → Prop} {kb n : Nat} {gs : List (Bool × List ValA → Bool × List ValA)} {w : World} (h : Acts S G kb n gs w) (hl : gs.length = n) (hG : ∀ q, G' q → G q) : ActsAt S G' w kb n gs := by
  obtain ⟨c, hb, hc, hd⟩ := h.blk
  refine ⟨hl, lt_of_block hb, fun i f hi => ?_⟩
  obtain ⟨fv, h1, h2⟩ := hd i f hi
  exact ⟨fv, (cell_of_blk hb i).trans h1, h2.mono hG⟩
theorem SL.len_count : ∀ l : SL, l.len ≤ countS l
  | .nil => Nat.le_refl _
  | .cons _ _ _ t e r => by have := SL.len_count r; simp only [SL.len, countS]; omega
set_option maxRecDepth 100000 in
set_option maxHeartbeats 8000000 in
theorem program_v (Z : Zone) (S : List FieldA) (hS : 0 < S.length) (hS8 : S.length ≤ 8) (N : Nat) : ∀ (l : SL), l.size < N → countS l ≤ 1000 → wellS l = true → ∀ (W : World) (G : Nat → Prop) (m mb nn tab : Nat) (zv : Value) (up : Nat) (v : Value), MkAt S G W m mb nn tab zv → (∀ q, G q → q < W.heap.size) → SlS Z W up v l →
    Calls Tryz.prog 66 #[.pointer (some ⟨m, 0, none⟩), v] W (MadeA S G W (runS S l)) := by
  induction N with
  | zero => intro l h; omega
  | succ N ih =>
    intro l hsz hcn hwell W G m mb nn tab zv up v hM hG hSl
    have hlen := SL.len_count l
    obtain ⟨ao, cap, b, off, rfl, hcap, ha, hx⟩ := hSl.open
    obtain ⟨c0, hc0, hrun⟩ := run_mkA l.len (by omega) W
    have hKX : Keeps (fun _ => False) W (W.alloc (.cells c0 107)) := (Keeps.refl _ _).alloc _
    have hbX := heap_alloc_new W (.cells c0 107)
    have hsX : (W.alloc (.cells c0 107)).heap.size = W.heap.size + 1 := by simp
    generalize hX : W.alloc (.cells c0 107) = X at *
    obtain ⟨HB, hyb, hyc⟩ := boxedT X #[.slice (some ⟨W.heap.size, 0, none⟩) l.len l.len] 147
    have y0 := hyc 0 (.slice (some ⟨W.heap.size, 0, none⟩) l.len l.len) rfl
    generalize hY : X.alloc (.cells #[.slice (some ⟨W.heap.size, 0, none⟩) l.len l.len] 147) = Y at *
    have hKY := unhide HB
    have hmk : ∀ q, (G q ∨ q = W.heap.size) → q < W.heap.size → G q := fun q h hq => h.elim id (fun e => by omega)
    have hMY : MkAt S (fun q => G q ∨ q = W.heap.size) Y m mb nn tab zv := hM.shift hS (hKX.trans hKY).any hmk
    have HK0 : Hid (Acts S (fun q => G q ∨ q = W.heap.size) W.heap.size l.len [] Y) := (show Acts S (fun q => G q ∨ q = W.heap.size) W.heap.size l.len [] X from ⟨c0, hbX, hc0, fun i f hi => by simp at hi⟩).keepF hKY
    have HWY := hide (hKX.trans hKY)
    have IH := hide ih
    have HX := hide hx
    have HA := hide ha
    have HMY := hide hMY
    have HW := hide hwell
    have HG := hide hG
    have hl1 : l.len ≤ 1000 := by omega
    have hyl : X.heap.size < Y.heap.size := hyb
    have hXW : W.heap.size < X.heap.size := by omega
    have hmf : ∀ (fn : Fn) (first cap : Array Value) (w : World), (Instr.makeFunc fn first cap).run Tryz.prog w = .ok (.func fn first cap) w := fun _ _ _ _ => rfl
    clear hSl ih hx ha hM hMY hwell hG hyc hKY hc0 hmk hbX hKX hlen hsX
    go_enter Tryz.func66, Tryz.ntmps66
    go_wp2_with fail
    go_loopw [13] (fun i wr => ∃ (rest : SL) (k : Nat) (gs : List (Bool × List ValA → Bool × List ValA)), i = .int .i64 k ∧ k + rest.len = l.len ∧ rest.size ≤ l.size ∧ countS rest ≤ countS l ∧ gs.length = k ∧ wellS rest = true ∧ Hid (∀ r, runS S l r = runS S rest (foldG gs r)) ∧ Hid (Acts S (fun q => G q ∨ q = W.heap.size) W.heap.size l.len gs wr) ∧ Keeps (fun q => q = W.heap.size) Y wr ∧ Hid (StIn Z W rest b (off + k * 5))) (fun i _ => l.len - (intOf i).toNat)
    case atStart =>
      exact ⟨l, 0, [], rfl, by omega, Nat.le_refl _, Nat.le_refl _, rfl, unhide HW, fun r => rfl, HK0, Keeps.refl _ _, by show StIn _ _ _ _ _; simpa using unhide HX⟩
    case round =>
      obtain ⟨rest, k, gs, rfl, hkl, hrs, hcr, hfl, hwe, HEQ, HKD, hkp, HEX⟩ := hrel
      have HK := hide hkp
      have z0 := (hkp.cell (o := 0) hyb (by omega)).trans y0
      clear HK0 hrun
      cases rest with
      | cons op' f' ex th el rest =>
        obtain ⟨h1, h2, h3, h4, ⟨xv, h5, h5'⟩, ⟨tao, tcap, h6, h7, h8⟩, ⟨eao, ecap, k6, k7, k8⟩, h9⟩ := unhide HEX
        simp only [SL.len, SL.size, countS, wellS, Bool.and_eq_true] at hkl hrs hcr hwe
        obtain ⟨rfl, hp⟩ := (unhide HA) (by omega)
        have hKw : Keeps (fun q => q = W.heap.size) W wr := (unhide HWY).any.trans (unhide HK)
        have hK0 : Keeps (fun _ => False) W wr := (unhide HWY).narrow (unhide HK) (fun q e => by omega)
        have HR9 := hide h9
        have HWR := hide hwe.2.2.2.2
        have i1 : (k : Int) < (l.len : Int) := by omega
        have i0 : (0 : Int) ≤ (k : Int) := by omega
        obtain ⟨xo, xc, rfl, _⟩ := h5'.head
        have q0 := (hK0.cell h1 id).trans h3
        have q1 := (hK0.cell h1 id).trans h4
        have q2 := (hK0.cell h1 id).trans h5
        have q3 := (hK0.cell h1 id).trans h6
        have q4 := (hK0.cell h1 id).trans k6
        obtain ⟨HBk, hkbb, hkc⟩ := boxedT wr #[.int .i64 op', str f', .slice xo ex.len xc, .slice tao th.len tcap, .slice eao el.len ecap] 39
        have a0 := hkc 0 (.int .i64 op') rfl
        have a1 := hkc 1 (str f') rfl
        have a2 := hkc 2 (.slice xo ex.len xc) rfl
        have a3 := hkc 3 (.slice tao th.len tcap) rfl
        have a4 := hkc 4 (.slice eao el.len ecap) rfl
        have lXr : X.heap.size < wr.heap.size := World.block_lt_of_cell? wr ⟨X.heap.size, 0, none⟩ z0
        have a5 := ((unhide HBk).cell (o := 0) lXr id).trans z0
        have lX : X.heap.size < (wr.alloc (.cells #[.int .i64 op', str f', .slice xo ex.len xc, .slice tao th.len tcap, .slice eao el.len ecap] 39)).heap.size := Nat.lt_of_lt_of_le lXr (unhide HBk).size
        generalize hV : wr.alloc (.cells #[.int .i64 op', str f', .slice xo ex.len xc, .slice tao th.len tcap, .slice eao el.len ecap] 39) = V at *
        have HV : Hid (Keeps (fun q => q = W.heap.size) Y V) := (unhide HK).trans (unhide HBk).any
        have hMV : MkAt S (fun q => G q ∨ q = W.heap.size) V.drew m mb nn tab zv := (unhide HMY).shift hS (((unhide HV).mono (fun q _ e => Or.inr e)).drew) (fun q h _ => h)
        have hKV : Keeps (fun _ => False) W V.drew := (hK0.trans (unhide HBk)).drew
        have hGV : ∀ W', Keeps (fun _ => False) V.drew W' → ∀ q, (G q ∨ q = W.heap.size) → q < W'.heap.size := fun W' hk q h => by
          have e1 := hKw.size
          have e2 := (unhide HBk).size
          have e3 := hk.size
          have e4 := (unhide HKD).lt
          have e5 : V.drew.heap.size = V.heap.size := rfl
          rcases h with h | h
          · have := unhide HG q h
            omega
          · omega
        have HC := hide (stmtM_v Z S hS hS8 op' f' ex th el V.drew (fun q => G q ∨ q = W.heap.size) m mb nn tab zv b (.slice xo ex.len xc) tao eao tcap ecap hMV (hGV _ (Keeps.refl _ _)) (h5'.keepF hKV) hwe.1 hwe.2.1
          (fun W' hk hM' => unhide IH th (by omega) (by omega) hwe.2.2.1 W' _ m mb nn tab zv b _ hM' (hGV W' hk) ((show SlS Z W b (.slice tao th.len tcap) th from ⟨tao, tcap, rfl, h7, h8⟩).keepF (hKV.trans hk)))
          (fun W' hk hM' => unhide IH el (by omega) (by omega) hwe.2.2.2.1 W' _ m mb nn tab zv b _ hM' (hGV W' hk) ((show SlS Z W b (.slice eao el.len ecap) el from ⟨eao, ecap, rfl, k7, k8⟩).keepF (hKV.trans hk))))
        have HKk := hide ((unhide HKD).keepF (unhide HBk))
        have SB : ∀ w' : World, Keeps (fun q => q = W.heap.size) V w' → w'.cell? ⟨X.heap.size, 0, none⟩ = some (.slice (some ⟨W.heap.size, 0, none⟩) l.len l.len) ∧ w'.cell? ⟨wr.heap.size, 0, none⟩ = some (.int .i64 op') ∧ w'.cell? ⟨wr.heap.size, 1, none⟩ = some (str f') ∧ w'.cell? ⟨wr.heap.size, 2, none⟩ = some (.slice xo ex.len xc) ∧ w'.cell? ⟨wr.heap.size, 3, none⟩ = some (.slice tao th.len tcap) ∧ w'.cell? ⟨wr.heap.size, 4, none⟩ = some (.slice eao el.len ecap) := fun w' hq => by
          have e1 := hKw.size
          have e4 := (unhide HKD).lt
          exact ⟨(hq.cell lX (by omega)).trans a5, (hq.cell hkbb (by omega)).trans a0, (hq.cell hkbb (by omega)).trans a1, (hq.cell hkbb (by omega)).trans a2, (hq.cell hkbb (by omega)).trans a3, (hq.cell hkbb (by omega)).trans a4⟩
        have HSB := hide SB
        have s0 := SB V (Keeps.refl _ _)
        clear h2 h3 h4 h5 h6 h8 k6 k7 k8 h9 hwe hkc hkp hMV hKw hK0 hKV hGV SB h5' a0 a1 a2 a3 a4 a5
        go_wp2_with fail
        go_region_held3 (fun w' => w'.cell? ⟨X.heap.size, 0, none⟩ = some (.slice (some ⟨W.heap.size, 0, none⟩) l.len l.len) ∧ w'.cell? ⟨wr.heap.size, 0, none⟩ = some (.int .i64 op') ∧ w'.cell? ⟨wr.heap.size, 1, none⟩ = some (str f') ∧ w'.cell? ⟨wr.heap.size, 2, none⟩ = some (.slice xo ex.len xc) ∧ w'.cell? ⟨wr.heap.size, 3, none⟩ = some (.slice tao th.len tcap) ∧ w'.cell? ⟨wr.heap.size, 4, none⟩ = some (.slice eao el.len ecap))
          (first | with_reducible exact s0 | with_reducible exact r0 | with_reducible exact r1 | with_reducible exact unhide HSB _ (Keeps.refl _ _).drew)
          (first | (go_at_call 105; (with_reducible refine (unhide HC).mono ?_); rintro e w1 ⟨av, rfl, haw, hk1⟩; have HK1 := hide ((Keeps.refl (fun _ => False) V).drew.trans hk1); have r0 := unhide HSB _ (unhide HK1).any; have hA1 := (unhide HKk).keepF (unhide HK1); obtain ⟨⟨old, d0⟩, g0⟩ := hA1.old (show k < l.len by omega); have HA2 := hide (hA1.step (Or.inr rfl) (by omega) hfl haw); have r1 := unhide HSB _ ((unhide HK1).any.trans (keeps_set w1 W.heap.size k av)); obtain ⟨ka, bna, capa, rfl, _⟩ := haw; clear hA1 hk1))
        go_wp2_with fail
        go_roundw
        case rel =>
          refine ⟨rest, k + 1, gs ++ [stmtS S op' f' ex th el], by go_num, by omega, by omega, by omega, by simp [hfl], unhide HWR, ?_, HA2, ((unhide HV).trans (unhide HK1).any).trans (keeps_set _ _ _ _), ?_⟩
          · intro r
            rw [unhide HEQ r, runS_cons]
            simp [foldG]
          · show StIn _ _ _ _ _
            rw [show off + (k + 1) * 5 = off + k * 5 + 5 by omega]
            exact unhide HR9
        case measure => simp [intOf]; omega
      | nil =>
        simp only [SL.len, SL.size] at hkl hrs
        have i1 : ¬ (k : Int) < (l.len : Int) := by omega
        have hfl2 : gs.length = l.len := by omega
        have hKW : Keeps (fun _ => False) W wr := (unhide HWY).narrow hkp (fun q e => by omega)
        have HF := hide (program1_v S G wr X.heap.size W.heap.size l.len gs hl1 ((unhide HKD).all hfl2 (fun q h => Or.inl h)) z0 (World.block_lt_of_cell? wr ⟨X.heap.size, 0, none⟩ z0) (fun h => by have := unhide HG _ h; omega) (fun h => by have := unhide HG _ h; omega))
        have HKW := hide hKW
        clear hkp hKW
        go_wp2_with fail
        go_ret
        exact ⟨_, rfl, (unhide HF).congr (fun r => by rw [unhide HEQ r]; rfl), unhide HKW⟩
end Go.Proofs.YtiinohibmcefkaaGreatDoor
