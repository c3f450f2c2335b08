import Derived.Test.YtijfnlfgehcpaaaGreatDoorJay
import Derived.Test.YtijfnlfgehcpaaaGreatDoorJar
namespace Go.Proofs.YtijfnlfgehcpaaaGreatDoor
open Go.RowKit Go.Maps

theorem boxes3t (W : World) (x y z : Value) (t1 t2 t3 : TypeId) : Keeps (fun _ => False) W (((W.alloc (.cells #[x] t1)).alloc (.cells #[y] t2)).alloc (.cells #[z] t3)) ∧ (((W.alloc (.cells #[x] t1)).alloc (.cells #[y] t2)).alloc (.cells #[z] t3)).heap.size = W.heap.size + 3 ∧ (((W.alloc (.cells #[x] t1)).alloc (.cells #[y] t2)).alloc (.cells #[z] t3)).cell? ⟨W.heap.size, 0, none⟩ = some x ∧ (((W.alloc (.cells #[x] t1)).alloc (.cells #[y] t2)).alloc (.cells #[z] t3)).cell? ⟨W.heap.size + 1, 0, none⟩ = some y ∧ (((W.alloc (.cells #[x] t1)).alloc (.cells #[y] t2)).alloc (.cells #[z] t3)).cell? ⟨W.heap.size + 1 + 1, 0, none⟩ = some z := by
  have k2 : Keeps (fun _ => False) W ((W.alloc (.cells #[x] t1)).alloc (.cells #[y] t2)) := ((Keeps.refl _ _).alloc _).alloc _
  have s2 : ((W.alloc (.cells #[x] t1)).alloc (.cells #[y] t2)).heap.size = W.heap.size + 2 := by simp
  have a : ((W.alloc (.cells #[x] t1)).alloc (.cells #[y] t2)).cell? ⟨W.heap.size, 0, none⟩ = some x := by simp
  have b : ((W.alloc (.cells #[x] t1)).alloc (.cells #[y] t2)).cell? ⟨W.heap.size + 1, 0, none⟩ = some y := by simp
  have h := boxed ((W.alloc (.cells #[x] t1)).alloc (.cells #[y] t2)) #[z] t3
  have hk := unhide h.1
  refine ⟨k2.trans hk, by simp, (hk.cell (by omega) id).trans a, (hk.cell (by omega) id).trans b, ?_⟩
  have := h.2.2 0 z rfl
  rwa [s2] at this
/-- What a maker of acts answers. -/
def MadeA (S : List FieldA) (G : Nat → Prop) (W : World) (g : Bool × List ValA → Bool × List ValA) (e : Ending) (W' : World) : Prop := ∃ av, e = .returned av ∧ ActF S G W' av g ∧ Keeps (fun _ => False) W W'
theorem MadeA.from {S : List FieldA} {G : Nat → Prop} {W W1 : World} {f g : Bool × List ValA → Bool × List ValA} {e : Ending} {W' : World} (h : MadeA S G W1 f e W') (hk : Keeps (fun _ => False) W W1) (hg : ∀ r, f r = g r) : MadeA S G W g e W' := by
  obtain ⟨fv, he, hw, h1⟩ := h
  exact ⟨fv, he, hw.congr hg, hk.trans h1⟩
set_option maxRecDepth 100000 in
theorem joined_v (S : List FieldA) (G : Nat → Prop) (W : World) (hG : ∀ q, G q → q < W.heap.size) (fv gv tv : Value) (f f2 : Bool → List ValA → ValA) (g : ValA → ValA → ValA) (hA : Wth S G W fv f) (hB : Wth S G W gv f2) (hT : TwoF tv g) :
    Calls Tryz.prog 117 #[fv, gv, tv] W (Made S G W (fun h vals => if (f h vals).kind = 0 then f2 h vals else g (f h vals) (f2 h vals))) := by
  obtain ⟨K, Zs, b0, b1, b2⟩ := boxes3t W fv gv tv 82 82 162
  have HW := hide (joined1_v S G _ fv tv gv g f f2 W.heap.size (W.heap.size + 1 + 1) (W.heap.size + 1) hT (hA.keepF K) (hB.keepF K) b0 b2 b1 (by rw [Zs]; omega) (by rw [Zs]; omega) (by rw [Zs]; omega) (fun h => by have := hG _ h; omega) (fun h => by have := hG _ h; omega) (fun h => by have := hG _ h; omega))
  have HK := hide K
  clear K Zs b0 b1 b2
  obtain ⟨k, cap, rfl, _⟩ := hA
  obtain ⟨k2, cap2, rfl, _⟩ := hB
  obtain ⟨kt, rfl, _⟩ := hT
  go_enter Tryz.func117, Tryz.ntmps117
  go_wp2_with fail
  go_ret
  exact ⟨_, rfl, unhide HW, unhide HK⟩
set_option maxRecDepth 100000 in
theorem choose_v (S : List FieldA) (G : Nat → Prop) (W : World) (hG : ∀ q, G q → q < W.heap.size) (fv tv ov : Value) (f : Bool → List ValA → ValA) (g1 g2 : Bool × List ValA → Bool × List ValA) (hA : Wth S G W fv f) (h1 : ActF S G W tv g1) (h2 : ActF S G W ov g2) :
    Calls Tryz.prog 118 #[fv, tv, ov] W (MadeA S G W (fun r => if (f r.1 r.2).n = 1 then g1 r else g2 r)) := by
  obtain ⟨K, Zs, b0, b1, b2⟩ := boxes3t W fv tv ov 82 95 95
  have HW := hide (choose1_v S G _ fv tv ov f g1 g2 W.heap.size (W.heap.size + 1) (W.heap.size + 1 + 1) (hA.keepF K) (h1.keepF K) (h2.keepF K) b0 b1 b2 (by rw [Zs]; omega) (by rw [Zs]; omega) (by rw [Zs]; omega) (fun h => by have := hG _ h; omega) (fun h => by have := hG _ h; omega) (fun h => by have := hG _ h; omega))
  have HK := hide K
  clear K Zs b0 b1 b2
  obtain ⟨k, cap, rfl, _⟩ := hA
  obtain ⟨k1, bn1, cap1, rfl, _⟩ := h1
  obtain ⟨k2, bn2, cap2, rfl, _⟩ := h2
  go_enter Tryz.func118, Tryz.ntmps118
  go_wp2_with fail
  go_ret
  exact ⟨_, rfl, unhide HW, unhide HK⟩
set_option maxRecDepth 100000 in
theorem write_v (S : List FieldA) (G : Nat → Prop) (W : World) (m mb n tab : Nat) (zv : Value) (hM : MkAt S G W m mb n tab zv) (hS : 0 < S.length) (hS8 : S.length ≤ 8) (hG : ∀ q, G q → q < W.heap.size) (nm : Txt) (hn : nm.length ≤ 1000) (fv : Value) (f : Bool → List ValA → ValA) (hA : Wth S G W fv f) :
    Calls Tryz.prog 116 #[.pointer (some ⟨m, 0, none⟩), str nm, fv] W (MadeA S G W (fun r => setV r (placeP S nm) (f r.1 r.2))) := by
  obtain ⟨HB, hb, hbc⟩ := boxed W #[fv] 82
  generalize hX : W.alloc (.cells #[fv] 82) = X at *
  obtain ⟨HB2, hb2, hbc2⟩ := boxed X #[.int .i64 (placeP S nm)] 3
  have b0 := hbc 0 fv rfl
  have hM2 := hM.keepF hS (unhide HB)
  have h1 := hM2.c0
  have h2 := hM2.map.look hn
  have K2 := (unhide HB).trans (unhide HB2)
  have h0 := write1_v S G _ hS fv f W.heap.size X.heap.size (placeP S nm) (placeP_lt nm hS) hS8 (hA.keepF K2) (((unhide HB2).cell hb id).trans b0) (hbc2 0 _ rfl) (Nat.lt_of_lt_of_le hb (unhide HB2).size) hb2 (fun h => by have := hG _ h; omega) (fun h => by have := hG _ h; have := (unhide HB).size; omega)
  have HW := hide h0
  have HK := hide K2
  clear hbc hbc2 h0 hM hM2 K2 HB HB2 b0
  obtain ⟨k, cap, rfl, _⟩ := hA
  generalize placeP S nm = p at *
  go_enter Tryz.func116, Tryz.ntmps116
  go_wp2_with fail
  go_ret
  exact ⟨_, rfl, unhide HW, unhide HK⟩
end Go.Proofs.YtijfnlfgehcpaaaGreatDoor
namespace Go.Proofs.YtijfnlfgehcpaaaGreatDoor
open Go.RowKit Go.Maps

set_option maxRecDepth 100000 in
set_option maxHeartbeats 2000000 in
theorem stmt6_v (S : List FieldA) (hS : 0 < S.length) (_hS8 : S.length ≤ 8) (f : Txt) (_hf : f.length ≤ 1000) (xo to eo : Option Addr) (xn xc tn tc en ec : Nat) (W : World) (G : Nat → Prop) (m mb nn tab : Nat) (zv : Value) (hM : MkAt S G W m mb nn tab zv) (hG : ∀ q, G q → q < W.heap.size) :
    Calls Tryz.prog 66 #[.pointer (some ⟨m, 0, none⟩), stV 6 f (.slice xo xn xc) (.slice to tn tc) (.slice eo en ec)] W (MadeA S G W (fun r => if r.1 then r else (true, zeros S))) := by
  obtain ⟨HB, hb, hbc⟩ := boxedT W #[.int .i64 6, str f, .slice xo xn xc, .slice to tn tc, .slice eo en ec] 71
  have b0 := hbc 0 (.int .i64 6) rfl
  have b1 := hbc 1 (str f) rfl
  have b2 := hbc 2 (.slice xo xn xc) rfl
  have b3 := hbc 3 (.slice to tn tc) rfl
  have b4 := hbc 4 (.slice eo en ec) rfl
  have HM := hide (hM.keepF hS (unhide HB))
  have HG : ∀ W', Keeps (fun _ => False) W W' → Hid (∀ q, G q → q < W'.heap.size) := fun W' hk q hq => Nat.lt_of_lt_of_le (hG q hq) hk.size
  generalize hX : W.alloc (.cells #[.int .i64 6, str f, .slice xo xn xc, .slice to tn tc, .slice eo en ec] 71) = X at *
  have HW := hide (create_v S G X m mb nn tab zv (unhide HM) hS _hS8)
  have hmf : ∀ (fn : Fn) (first cap : Array Value) (w : World), (Instr.makeFunc fn first cap).run Tryz.prog w = .ok (.func fn first cap) w := fun _ _ _ _ => rfl
  clear hbc hM hG
  go_enter Tryz.func66, Tryz.ntmps66
  go_wp2_with fail
  go_ret
  exact ⟨_, rfl, unhide HW, unhide HB⟩
set_option maxRecDepth 100000 in
set_option maxHeartbeats 2000000 in
theorem stmt7_v (S : List FieldA) (hS : 0 < S.length) (_hS8 : S.length ≤ 8) (f : Txt) (_hf : f.length ≤ 1000) (xo to eo : Option Addr) (xn xc tn tc en ec : Nat) (W : World) (G : Nat → Prop) (m mb nn tab : Nat) (zv : Value) (hM : MkAt S G W m mb nn tab zv) (hG : ∀ q, G q → q < W.heap.size) :
    Calls Tryz.prog 66 #[.pointer (some ⟨m, 0, none⟩), stV 7 f (.slice xo xn xc) (.slice to tn tc) (.slice eo en ec)] W (MadeA S G W (fun _ => (false, []))) := by
  obtain ⟨HB, hb, hbc⟩ := boxedT W #[.int .i64 7, str f, .slice xo xn xc, .slice to tn tc, .slice eo en ec] 71
  have b0 := hbc 0 (.int .i64 7) rfl
  have b1 := hbc 1 (str f) rfl
  have b2 := hbc 2 (.slice xo xn xc) rfl
  have b3 := hbc 3 (.slice to tn tc) rfl
  have b4 := hbc 4 (.slice eo en ec) rfl
  have HM := hide (hM.keepF hS (unhide HB))
  have HG : ∀ W', Keeps (fun _ => False) W W' → Hid (∀ q, G q → q < W'.heap.size) := fun W' hk q hq => Nat.lt_of_lt_of_le (hG q hq) hk.size
  generalize hX : W.alloc (.cells #[.int .i64 7, str f, .slice xo xn xc, .slice to tn tc, .slice eo en ec] 71) = X at *
  clear hbc hM hG
  go_enter Tryz.func66, Tryz.ntmps66
  go_wp2_with fail
  go_ret
  exact ⟨_, rfl, remove_v S G X, unhide HB⟩
set_option maxRecDepth 100000 in
set_option maxHeartbeats 2000000 in
theorem stmt5_v (S : List FieldA) (hS : 0 < S.length) (_hS8 : S.length ≤ 8) (f : Txt) (_hf : f.length ≤ 1000) (xo to eo : Option Addr) (xn xc tn tc en ec : Nat) (W : World) (G : Nat → Prop) (m mb nn tab : Nat) (zv : Value) (hM : MkAt S G W m mb nn tab zv) (hG : ∀ q, G q → q < W.heap.size) :
    Calls Tryz.prog 66 #[.pointer (some ⟨m, 0, none⟩), stV 5 f (.slice xo xn xc) (.slice to tn tc) (.slice eo en ec)] W (MadeA S G W (fun r => setV r (placeP S f) zV)) := by
  obtain ⟨HB, hb, hbc⟩ := boxedT W #[.int .i64 5, str f, .slice xo xn xc, .slice to tn tc, .slice eo en ec] 71
  have b0 := hbc 0 (.int .i64 5) rfl
  have b1 := hbc 1 (str f) rfl
  have b2 := hbc 2 (.slice xo xn xc) rfl
  have b3 := hbc 3 (.slice to tn tc) rfl
  have b4 := hbc 4 (.slice eo en ec) rfl
  have HM := hide (hM.keepF hS (unhide HB))
  have HG : ∀ W', Keeps (fun _ => False) W W' → Hid (∀ q, G q → q < W'.heap.size) := fun W' hk q hq => Nat.lt_of_lt_of_le (hG q hq) hk.size
  generalize hX : W.alloc (.cells #[.int .i64 5, str f, .slice xo xn xc, .slice to tn tc, .slice eo en ec] 71) = X at *
  have SB : ∀ w' : World, Keeps (fun _ => False) X w' → w'.cell? ⟨W.heap.size, 1, none⟩ = some (str f) := fun w' hq => (hq.cell hb id).trans b1
  have HSB := hide SB
  have HC1 := hide (always_w S G X.drew (unhide (HG _ (unhide HB).drew)) 0 0 [] (by simp))
  have HC2 : ∀ W' fv, Keeps (fun _ => False) X W' → Wth S G W' fv (fun _ _ => ⟨0, 0, []⟩) → Hid (Calls Tryz.prog 116 #[.pointer (some ⟨m, 0, none⟩), str f, fv] W' (MadeA S G W' (fun r => setV r (placeP S f) zV))) := fun W' fv hq hw => write_v S G W' m mb nn tab zv ((unhide HM).keepF hS hq) hS _hS8 (unhide (HG _ ((unhide HB).trans hq))) f _hf fv _ hw
  clear hbc hM hG SB
  go_enter Tryz.func66, Tryz.ntmps66
  go_wp2_with fail
  go_region_held3 (fun w' => w'.cell? ⟨W.heap.size, 1, none⟩ = some (str f))
    (first | with_reducible exact b1 | with_reducible exact r0 | with_reducible exact r1 | with_reducible exact unhide HSB _ (Keeps.refl _ _).drew)
    (first
      | (go_at_call 55; refine (unhide HC1).mono ?_; rintro e w1 ⟨fv, rfl, hfw, hk1⟩; have HFW := hide hfw; have HK1 := hide ((Keeps.refl (fun _ => False) X).drew.trans hk1); have r0 := unhide HSB _ (unhide HK1); obtain ⟨kf, capf, rfl, _⟩ := hfw; clear hk1)
      | (go_at_call 116; refine (unhide (HC2 w1 _ (unhide HK1) (unhide HFW))).mono ?_; rintro e w2 ⟨av, rfl, haw, hk2⟩; have HAW := hide haw; have HK2 := hide ((unhide HK1).trans hk2); have r1 := unhide HSB _ (unhide HK2); obtain ⟨ka, bna, capa, rfl, _⟩ := haw; clear hk2))
  go_wp2_with fail
  go_ret
  exact ⟨_, rfl, unhide HAW, (unhide HB).trans (unhide HK2)⟩
end Go.Proofs.YtijfnlfgehcpaaaGreatDoor
namespace Go.Proofs.YtijfnlfgehcpaaaGreatDoor
open Go.RowKit Go.Maps

set_option maxRecDepth 100000 in
set_option maxHeartbeats 2000000 in
theorem stmt1_v (S : List FieldA) (hS : 0 < S.length) (_hS8 : S.length ≤ 8) (f : Txt) (_hf : f.length ≤ 1000) (xo to eo : Option Addr) (xn xc tn tc en ec : Nat) (W : World) (G : Nat → Prop) (m mb nn tab : Nat) (zv : Value) (hM : MkAt S G W m mb nn tab zv) (hG : ∀ q, G q → q < W.heap.size) (o n : Int) (s : Txt) (kids : EL) (b off : Nat) (kao : Option Addr) (kcap : Nat) (hxo : xo = some ⟨b, off, none⟩) (hxn : xn = 1) (_hxc : 1 ≤ xc) (hbl : b < W.heap.size) (e0 : W.cell? ⟨b, off, none⟩ = some (.int .i64 o)) (e1 : W.cell? ⟨b, off + 1, none⟩ = some (.int .i64 n)) (e2 : W.cell? ⟨b, off + 2, none⟩ = some (str s)) (e3 : W.cell? ⟨b, off + 3, none⟩ = some (.slice kao kids.len kcap))
    (hE : ∀ W', Keeps (fun _ => False) W W' → MkAt S G W' m mb nn tab zv → Calls Tryz.prog 35 #[.pointer (some ⟨m, 0, none⟩), exV o n s (.slice kao kids.len kcap)] W' (Made S G W' (nodeV S o n s kids))) :
    Calls Tryz.prog 66 #[.pointer (some ⟨m, 0, none⟩), stV 1 f (.slice xo xn xc) (.slice to tn tc) (.slice eo en ec)] W (MadeA S G W (fun r => setV r (placeP S f) (nodeV S o n s kids r.1 r.2))) := by
  obtain ⟨HB, hb, hbc⟩ := boxedT W #[.int .i64 1, str f, .slice xo xn xc, .slice to tn tc, .slice eo en ec] 71
  have b0 := hbc 0 (.int .i64 1) rfl
  have b1 := hbc 1 (str f) rfl
  have b2 := hbc 2 (.slice xo xn xc) rfl
  have b3 := hbc 3 (.slice to tn tc) rfl
  have b4 := hbc 4 (.slice eo en ec) rfl
  have HM := hide (hM.keepF hS (unhide HB))
  have HG : ∀ W', Keeps (fun _ => False) W W' → Hid (∀ q, G q → q < W'.heap.size) := fun W' hk q hq => Nat.lt_of_lt_of_le (hG q hq) hk.size
  generalize hX : W.alloc (.cells #[.int .i64 1, str f, .slice xo xn xc, .slice to tn tc, .slice eo en ec] 71) = X at *
  subst hxo hxn
  have x0 := ((unhide HB).cell hbl id).trans e0
  have x1 := ((unhide HB).cell hbl id).trans e1
  have x2 := ((unhide HB).cell hbl id).trans e2
  have x3 := ((unhide HB).cell hbl id).trans e3
  have HE := hide (hE X (unhide HB) (unhide HM))
  clear hbc hM hG hE e0 e1 e2 e3
  go_enter Tryz.func66, Tryz.ntmps66
  go_wp2_with fail
  refine (unhide HE).mono ?_
  rintro e w1 ⟨fv, rfl, hfw, hk1⟩
  have HFW := hide hfw
  have HK1 := hide hk1
  have y0 := (hk1.cell (o := 0) hb id).trans b0
  have y1 := (hk1.cell (o := 1) hb id).trans b1
  have y3 := (hk1.cell (o := 3) hb id).trans b3
  have y4 := (hk1.cell (o := 4) hb id).trans b4
  have lb := Nat.lt_of_lt_of_le hb hk1.size
  obtain ⟨kf, capf, rfl, _⟩ := hfw
  clear hk1 b0 b1 b2 b3 b4 x0 x1 x2 x3
  go_wp2_with fail
  refine (write_v S G w1 m mb nn tab zv ((unhide HM).keepF hS (unhide HK1)) hS _hS8 (unhide (HG _ ((unhide HB).trans (unhide HK1)))) f _hf _ _ (unhide HFW)).mono ?_
  rintro e w2 ⟨av, rfl, haw, hk2⟩
  have HAW := hide haw
  have HK2 := hide ((unhide HK1).trans hk2)
  obtain ⟨ka, bna, capa, rfl, _⟩ := haw
  clear hk2
  go_wp2_with fail
  go_ret
  exact ⟨_, rfl, unhide HAW, (unhide HB).trans (unhide HK2)⟩
end Go.Proofs.YtijfnlfgehcpaaaGreatDoor
