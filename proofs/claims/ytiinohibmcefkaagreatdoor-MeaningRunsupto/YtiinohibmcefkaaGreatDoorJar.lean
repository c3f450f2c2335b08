import Derived.Test.YtiinohibmcefkaaGreatDoorJzak
import Derived.Test.YtiinohibmcefkaaGreatDoorJzal
import Derived.Test.YtiinohibmcefkaaGreatDoorJzaa
import Derived.Maps.OwnSet
import Derived.Test.YtiinohibmcefkaaGreatDoorJal
import Derived.Laws.EntriesVeiled
namespace Go.Proofs.YtiinohibmcefkaaGreatDoor
open Go.RowKit Go.Maps
def Cnt (w : World) (mb n : Nat) (c : Txt → Nat) : Prop :=
 ∃ D : DataW Unit, w.ownsMap Tryz.prog 9 (plainElem Tryz.prog 3) mb n D ∧ (∀ s, D.atKey (.string s) (.lit (.int .i64 0)) = .lit (.int .i64 (c s))) ∧ ∀ s, c s ≤ n
theorem zero3 (w : World) : (zeroValue 3).run Tryz.prog w = .ok (.int .i64 0) w := by kernel_rfl
theorem Cnt.congr {w : World} {mb n : Nat} {c c' : Txt → Nat} (h : Cnt w mb n c) (e : ∀ s, c s = c' s) : Cnt w mb n c' := by
 have : c = c' := funext e
 rw [← this]
 exact h
theorem Cnt.keep {w w' : World} {mb n : Nat} {c : Txt → Nat} (h : Cnt w mb n c) {F : Nat → Prop} (hk : Keeps F w w') (hF : ¬ F mb) : Cnt w' mb n c := by
 obtain ⟨D, ⟨es, clock, hb, r⟩, h2⟩ := h
 exact ⟨D, ⟨es, clock, (hk.block _ (lt_of_block hb) hF).trans hb, r⟩, h2⟩
theorem Cnt.lt {w : World} {mb n : Nat} {c : Txt → Nat} (h : Cnt w mb n c) : mb < w.heap.size := by
 obtain ⟨D, h1, _⟩ := h
 exact h1.lt
theorem Cnt.made (w : World) : Cnt (w.alloc (.map #[] 0)) w.heap.size 0 (fun _ => 0) :=
 ⟨.map [], World.ownsMap_made w Tryz.prog 9 _, fun _ => rfl, fun _ => Nat.le_refl _⟩
theorem Cnt.look {w : World} {mb n : Nat} {c : Txt → Nat} (h : Cnt w mb n c) {nm : Txt} (hl : nm.length ≤ 1000) :
  (Instr.lookup 94 (.map (some mb)) (str nm) false).run Tryz.prog w = .ok (.int .i64 (c nm)) w := by
 obtain ⟨D, h1, h2, _⟩ := h
 obtain ⟨x, hrun, hat, _⟩ := h1.lookup_int strKeyed Tryz.underlying94 Tryz.underlying3 (zero3 w) (keyStr hl)
 rw [h2 nm] at hat
 simp at hat
 rw [hrun, hat]
end Go.Proofs.YtiinohibmcefkaaGreatDoor
namespace Go.Proofs.YtiinohibmcefkaaGreatDoor
open Go.RowKit Go.Maps
set_option maxRecDepth 100000
set_option maxHeartbeats 1000000
def WsAt (S : List FieldA) (G : Nat → Prop) (W : World) (kv : Value) (fs : List (Bool → List ValA → ValA)) : Prop :=
 ∃ b, kv = .slice (some ⟨b, 0, none⟩) fs.length fs.length ∧ b < W.heap.size ∧ ∀ (i : Nat) f, fs[i]? = some f → ∃ fv, W.cell? ⟨b, i, none⟩ = some fv ∧ Wth S G W fv f
def OpF (S : List FieldA) (F : Nat → Prop) (w : World) (ov : Value) (n : Nat) (g : List ValA → ValA) : Prop :=
 ∃ k cap, ov = .func (.func k) #[] cap ∧ Enters Tryz.prog k ∧ ∀ (W : World) (G : Nat → Prop) (kv : Value) (fs : List (Bool → List ValA → ValA)), Keeps F w W → (∀ q, G q → q < w.heap.size → F q) → (∀ q, G q → q < W.heap.size) → fs.length = n → WsAt S G W kv fs →
  Calls Tryz.prog k (#[kv] ++ cap) W fun e W' => ∃ fv, e = .returned fv ∧ Wth S G W' fv (fun h vals => g (fs.map fun f => f h vals)) ∧ Keeps (fun _ => False) W W'
theorem OpF.shift {S : List FieldA} {F F' : Nat → Prop} {w w' : World} {ov : Value} {n : Nat} {g : List ValA → ValA} (h : OpF S F w ov n g) (hk : Keeps F w w') (hF : ∀ q, F' q → q < w.heap.size → F q) : OpF S F' w' ov n g := by
 obtain ⟨k, cap, e, h1, h2⟩ := h
 exact ⟨k, cap, e, h1, fun W G kv fs hW hG => h2 W G kv fs (hk.then hW (fun i hi hf => hF i hf hi)) (fun q hq hl => hF q (hG q hq (Nat.lt_of_lt_of_le hl hk.size)) hl)⟩
structure MkAt (S : List FieldA) (F : Nat → Prop) (w : World) (m mb n tab : Nat) (zv : Value) : Prop where
 lt : m < w.heap.size
 nF : ¬ F m
 c0 : w.cell? ⟨m, 0, none⟩ = some (.map (some mb))
 c1 : w.cell? ⟨m, 1, none⟩ = some zv
 c2 : w.cell? ⟨m, 2, none⟩ = some (.slice (some ⟨tab, 0, none⟩) 26 26)
 map : Cnt w mb n (placeP S)
 mF : ¬ F mb
 zero : ValsAt w zv (zeros S)
 zF : ∀ k, zv.ownBlock = some k → ¬ F k
 tl : tab < w.heap.size
 tF : ¬ F tab
 ops : ∀ i : Nat, 7 ≤ i → i ≤ 25 → ∃ ov, w.cell? ⟨tab, i, none⟩ = some ov ∧ OpF S F w ov (kidsB i).toNat (opV i)
theorem own_lt {w : World} {v : Value} {n k : Nat} {l : List Value} (h : RowAt w v n l) (hn : 0 < n) (e : v.ownBlock = some k) : k < w.heap.size := by
 obtain ⟨b, off, cap, rfl, hb, _⟩ := h.cells hn
 simp [Value.ownBlock] at e
 omega
theorem MkAt.shift {S : List FieldA} {F F' : Nat → Prop} {w w' : World} {m mb n tab : Nat} {zv : Value} (h : MkAt S F w m mb n tab zv) (hS : 0 < S.length) (hk : Keeps F w w') (hF : ∀ q, F' q → q < w.heap.size → F q) : MkAt S F' w' m mb n tab zv := by
 have hml := h.map.lt
 have hz : ∀ k, zv.ownBlock = some k → k < w.heap.size := fun k e => own_lt h.zero (by rw [zeros_length]; exact hS) e
 refine ⟨Nat.lt_of_lt_of_le h.lt hk.size, fun e => h.nF (hF _ e h.lt), (hk.cell h.lt h.nF).trans h.c0, (hk.cell h.lt h.nF).trans h.c1, (hk.cell h.lt h.nF).trans h.c2, h.map.keep hk h.mF, fun e => h.mF (hF _ e hml), RowAt.kept h.zero hk h.zF, fun k e f => h.zF k e (hF k f (hz k e)), Nat.lt_of_lt_of_le h.tl hk.size, fun e => h.tF (hF _ e h.tl), fun i h1 h2 => ?_⟩
 obtain ⟨ov, ho, hf⟩ := h.ops i h1 h2
 exact ⟨ov, (hk.cell h.tl h.tF).trans ho, hf.shift hk hF⟩
theorem MkAt.keepF {S : List FieldA} {F : Nat → Prop} {w w' : World} {m mb n tab : Nat} {zv : Value} (h : MkAt S F w m mb n tab zv) (hS : 0 < S.length) (hk : Keeps (fun _ => False) w w') : MkAt S F w' m mb n tab zv := h.shift hS hk.any (fun _ h _ => h)
theorem vals_at {l : List ValA} {i : Nat} (h : i < l.length) : l[i]? = some ((l[i]?).getD zV) := by
 rw [List.getElem?_eq_getElem h]
 rfl
theorem field1_v (S : List FieldA) (F : Nat → Prop) (w : World) (m mb n tab : Nat) (zv : Value) (hM : MkAt S F w m mb n tab zv) (hS : 0 < S.length) (hS8 : S.length ≤ 8) (nm : Txt) (pb qb : Nat) (hp : w.cell? ⟨pb, 0, none⟩ = some (.pointer (some ⟨m, 0, none⟩))) (hq : w.cell? ⟨qb, 0, none⟩ = some (.int .i64 (placeP S nm))) (lp : pb < w.heap.size) (lq : qb < w.heap.size) (np : ¬ F pb) (nq : ¬ F qb) :
  Wth S F w (.func (.func 141) #[] #[.pointer (some ⟨pb, 0, none⟩), .pointer (some ⟨qb, 0, none⟩)]) (fun h vals => fieldV S h vals nm) := by
 refine ⟨141, _, rfl, enters_of Tryz.func141 (by kernel_rfl) rfl, fun h vals hr => fieldV_short hr nm, fun W h u vals hk hv hr => ?_⟩
 have hlt := placeP_lt nm hS
 show Calls _ _ _ _ (fun e W' => e = .returned (fieldV S h vals nm).v ∧ _)
 cases h with
 | true =>
  have hlen := hr.1 rfl
  obtain ⟨b, off, uc, rfl, hbl, hc⟩ := hv.cells (by omega)
  obtain ⟨X, hX, P⟩ := pro_of W true (some ⟨b, off, none⟩) vals.length uc
  have hg : vals[placeP S nm]? = some (fieldV S true vals nm) := vals_at (by omega)
  obtain ⟨x0, x1, x2⟩ := hc _ _ hg
  have y0 := (P.kept.cell hbl id).trans x0
  have y1 := (P.kept.cell hbl id).trans x1
  have y2 := (P.kept.cell hbl id).trans x2
  have c0 := P.old hk lq nq hq (Keeps.refl _ _)
  have c1 := (P.cells (Keeps.refl _ _)).1
  have c2 := (P.cells (Keeps.refl _ _)).2
  have HP := hide P
  have HKA := hide (Keeps.refl (fun _ => False) X)
  generalize fieldV S true vals nm = B at *
  obtain ⟨Bk, Bn, Bx⟩ := B
  simp only [ValA.v] at y0 y1 y2 ⊢
  have hz := (uh HP).out (uh HKA)
  have m0 := cB hz 0
  have m1 := cB hz 1
  have m2 := cB hz 2
  simp at m0 m1 m2
  have g0 := fB hz 0
  have g1 := fB hz 1
  have g2 := fB hz 2
  obtain ⟨o0, o1, o2⟩ := set3v hz (.int .i64 Bk) (.int .i64 Bn) (str Bx)
  clear hz
  have i1 : (placeP S nm : Int) < (vals.length : Int) := by omega
  have i0 : (0 : Int) ≤ (placeP S nm : Int) := by omega
  generalize placeP S nm = p at *
  generalize vals.length = L at *
  clear hM hc hg x0 x1 x2 hq hp hv P hr hlt hlen hbl
  go_enter Tryz.func141, Tryz.ntmps141
  go_wp2_with fail
  refine bodyPost_ret (v := .agg #[.int .i64 Bk, .int .i64 Bn, str Bx]) (by simp [results, go_sem, o0, o1, o2]) rfl ?_
  exact ⟨rfl, (uh HP).done (uh HKA) _ _ _⟩
 | false =>
  have hz0 := hM.zero
  obtain ⟨b, off, zc, rfl, hbl, hc⟩ := hz0.cells (by rw [zeros_length]; exact hS)
  obtain ⟨uo, uc, rfl⟩ := RowAt.form hv
  obtain ⟨X, hX, P⟩ := pro_of W false uo vals.length uc
  have hg : (zeros S)[placeP S nm]? = some (fieldV S false vals nm) := vals_at (by rw [zeros_length]; exact hlt)
  obtain ⟨x0, x1, x2⟩ := hc _ _ hg
  have nb : ¬ F b := hM.zF b rfl
  have y0 := P.old hk hbl nb x0 (Keeps.refl _ _)
  have y1 := P.old hk hbl nb x1 (Keeps.refl _ _)
  have y2 := P.old hk hbl nb x2 (Keeps.refl _ _)
  have c0 := P.old hk lq nq hq (Keeps.refl _ _)
  have c3 := P.old hk lp np hp (Keeps.refl _ _)
  have c4 := P.old hk hM.lt hM.nF hM.c1 (Keeps.refl _ _)
  have c1 := (P.cells (Keeps.refl _ _)).1
  have c2 := (P.cells (Keeps.refl _ _)).2
  have HP := hide P
  have HKA := hide (Keeps.refl (fun _ => False) X)
  generalize fieldV S false vals nm = B at *
  obtain ⟨Bk, Bn, Bx⟩ := B
  simp only [ValA.v] at y0 y1 y2 ⊢
  have hz := (uh HP).out (uh HKA)
  have m0 := cB hz 0
  have m1 := cB hz 1
  have m2 := cB hz 2
  simp at m0 m1 m2
  have g0 := fB hz 0
  have g1 := fB hz 1
  have g2 := fB hz 2
  obtain ⟨o0, o1, o2⟩ := set3v hz (.int .i64 Bk) (.int .i64 Bn) (str Bx)
  clear hz
  have i1 : (placeP S nm : Int) < ((zeros S).length : Int) := by rw [zeros_length]; omega
  have i0 : (0 : Int) ≤ (placeP S nm : Int) := by omega
  generalize placeP S nm = p at *
  generalize (zeros S).length = L at *
  clear hM hc hg x0 x1 x2 hq hp hv P hr hlt hbl hz0
  go_enter Tryz.func141, Tryz.ntmps141
  go_wp2_with fail
  go_region
  go_wp2_with fail
  refine bodyPost_ret (v := .agg #[.int .i64 Bk, .int .i64 Bn, str Bx]) (by simp [results, go_sem, o0, o1, o2]) rfl ?_
  exact ⟨rfl, (uh HP).done (uh HKA).drew _ _ _⟩
end Go.Proofs.YtiinohibmcefkaaGreatDoor
namespace Go.Proofs.YtiinohibmcefkaaGreatDoor
open Go.RowKit Go.Maps
set_option maxRecDepth 100000
def Made (S : List FieldA) (G : Nat → Prop) (W : World) (f : Bool → List ValA → ValA) (e : Ending) (W' : World) : Prop := ∃ fv, e = .returned fv ∧ Wth S G W' fv f ∧ Keeps (fun _ => False) W W'
theorem always_v (S : List FieldA) (G : Nat → Prop) (W : World) (hG : ∀ q, G q → q < W.heap.size) (v : ValA) (hs : v.s.length ≤ 20) :
  Calls Tryz.prog 76 #[v.v] W (Made S G W (fun _ _ => v)) := by
 obtain ⟨vk, vn, vx⟩ := v
 obtain ⟨HB, hb, hbc⟩ := boxed W #[.int .i64 vk, .int .i64 vn, str vx] 41
 have h0 := always1_v S G _ ⟨vk, vn, vx⟩ W.heap.size (hbc 0 _ rfl) (hbc 1 _ rfl) (hbc 2 _ rfl) hb (fun h => by have := hG _ h; omega) hs
 have HW := hide h0
 simp only [ValA.v]
 clear hbc h0 hs
 go_enter Tryz.func76, Tryz.ntmps76
 go_wp2_with fail
 go_ret
 exact ⟨_, rfl, uh HW, uh HB⟩
theorem field_v (S : List FieldA) (G : Nat → Prop) (W : World) (m mb n tab : Nat) (zv : Value) (hM : MkAt S G W m mb n tab zv) (hS : 0 < S.length) (hS8 : S.length ≤ 8) (hG : ∀ q, G q → q < W.heap.size) (nm : Txt) (hn : nm.length ≤ 1000) :
  Calls Tryz.prog 80 #[.pointer (some ⟨m, 0, none⟩), str nm] W (Made S G W (fun h vals => fieldV S h vals nm)) := by
 obtain ⟨HB, hb, hbc⟩ := boxed W #[.pointer (some ⟨m, 0, none⟩)] 89
 generalize hX : W.alloc (.cells #[.pointer (some ⟨m, 0, none⟩)] 89) = X at *
 obtain ⟨HB2, hb2, hbc2⟩ := boxed X #[.int .i64 (placeP S nm)] 3
 have b0 := hbc 0 (.pointer (some ⟨m, 0, none⟩)) rfl
 have hM2 := hM.keepF hS (uh HB)
 have h1 := hM2.c0
 have h2 := hM2.map.look hn
 have K2 := (uh HB).trans (uh HB2)
 have h0 := field1_v S G _ m mb n tab zv (hM.keepF hS K2) hS hS8 nm W.heap.size X.heap.size (((uh HB2).cell hb id).trans b0) (hbc2 0 _ rfl) (Nat.lt_of_lt_of_le hb (uh HB2).size) hb2 (fun h => by have := hG _ h; omega) (fun h => by have := hG _ h; have := (uh HB).size; omega)
 have HW := hide h0
 have HK := hide K2
 clear hbc hbc2 h0 hM hM2 K2 HB HB2
 generalize placeP S nm = p at *
 go_enter Tryz.func80, Tryz.ntmps80
 go_wp2_with fail
 go_ret
 exact ⟨_, rfl, uh HW, uh HK⟩
theorem hasM_v (S : List FieldA) (G : Nat → Prop) (W : World) (m mb n tab : Nat) (zv : Value) (hM : MkAt S G W m mb n tab zv) (hS : 0 < S.length) (hS8 : S.length ≤ 8) (hG : ∀ q, G q → q < W.heap.size) (nm : Txt) (hn : nm.length ≤ 1000) :
  Calls Tryz.prog 81 #[.pointer (some ⟨m, 0, none⟩), str nm] W (Made S G W (fun h vals => truV (!decide ((fieldV S h vals nm).kind = 0)))) := by
 have HC := hide (field_v S G W m mb n tab zv hM hS hS8 hG nm hn)
 clear hM
 go_enter Tryz.func81, Tryz.ntmps81
 go_wp2_with fail
 refine (uh HC).mono ?_
 rintro e w1 ⟨fv, rfl, hw, hk1⟩
 obtain ⟨HB, hb, hbc⟩ := boxed w1 #[fv] 88
 have h0 := has1_v S G _ fv _ w1.heap.size (hw.keepF (uh HB)) (hbc 0 _ rfl) hb (fun h => by have := hG _ h; have := hk1.size; omega)
 have HW := hide h0
 have HK := hide (hk1.trans (uh HB))
 clear hbc h0 hk1
 obtain ⟨k, cap, rfl, _⟩ := hw
 go_wp2_with fail
 go_ret
 exact ⟨_, rfl, uh HW, uh HK⟩
end Go.Proofs.YtiinohibmcefkaaGreatDoor
namespace Go.Proofs.YtiinohibmcefkaaGreatDoor
open Go.RowKit Go.Maps
set_option maxRecDepth 100000
set_option maxHeartbeats 1000000
theorem one11_v (S : List FieldA) (F : Nat → Prop) (w : World) (tv fv : Value) (g : ValA → ValA) (f : Bool → List ValA → ValA) (tb ab : Nat) (hT : OneF tv g) (hA : Wth S F w fv f) (ht : w.cell? ⟨tb, 0, none⟩ = some tv) (ha : w.cell? ⟨ab, 0, none⟩ = some fv) (lt : tb < w.heap.size) (la : ab < w.heap.size) (nt : ¬ F tb) (na : ¬ F ab) :
  Wth S F w (.func (.func 188) #[] #[.pointer (some ⟨tb, 0, none⟩), .pointer (some ⟨ab, 0, none⟩)]) (fun h vals => g (f h vals)) := by
 obtain ⟨kt, rfl, et, hg, hT⟩ := hT
 obtain ⟨k, cap, rfl, ek, hl, hA⟩ := hA
 refine ⟨188, _, rfl, enters_of Tryz.func188 (by kernel_rfl) rfl, fun h vals hr => hg _ (hl h vals hr), fun W h u vals hk hv hr => ?_⟩
 obtain ⟨uo, uc, rfl⟩ := RowAt.form hv
 obtain ⟨X, hX, P⟩ := pro_of W h uo vals.length uc
 have SB : ∀ w' : World, Keeps (fun q => q = W.heap.size + 1) X w' → w'.cell? ⟨tb, 0, none⟩ = some (.func (.func kt) #[] #[]) ∧ w'.cell? ⟨ab, 0, none⟩ = some (.func (.func k) #[] cap) ∧ w'.cell? ⟨W.heap.size, 0, none⟩ = some (.bool h) ∧ w'.cell? ⟨W.heap.size, 1, none⟩ = some (.slice uo vals.length uc) := fun w' hq =>
  ⟨P.old hk lt nt ht hq, P.old hk la na ha hq, (P.cells hq).1, (P.cells hq).2⟩
 have HSB := hide SB
 have s0 := SB X (Keeps.refl _ _)
 have HC1 := hide (hA X.drew h (.slice uo vals.length uc) vals ((hk.trans P.kept.any).drew) (hv.keepF P.kept.drew) hr)
 have HC2 := fun W' => hide (hT W' (f h vals) (hl h vals hr))
 have HP := hide P
 have HX := hide hX.symm
 show Calls _ _ _ _ (fun e W' => e = .returned (g (f h vals)).v ∧ _)
 clear hA hT hg hl SB ht ha hv P hX
 generalize g (f h vals) = B at *
 generalize f h vals = A at *
 obtain ⟨ak, an, ax⟩ := A
 obtain ⟨Bk, Bn, Bx⟩ := B
 simp only [ValA.v] at HC1 HC2 ⊢
 unfold Enters at et ek
 go_enter Tryz.func188, Tryz.ntmps188
 go_wp2_with fail
 rw [← uh HX]
 go_region_held3 (fun w' => w'.cell? ⟨tb, 0, none⟩ = some (.func (.func kt) #[] #[]) ∧ w'.cell? ⟨ab, 0, none⟩ = some (.func (.func k) #[] cap) ∧ w'.cell? ⟨W.heap.size, 0, none⟩ = some (.bool h) ∧ w'.cell? ⟨W.heap.size, 1, none⟩ = some (.slice uo vals.length uc))
  (first | with_reducible exact s0 | with_reducible exact r0 | with_reducible exact r1 | with_reducible exact r2 | with_reducible exact uh HSB _ (Keeps.refl _ _).drew)
  (first
    | (with_reducible refine (uh HC1).mono ?_; rintro e w1 ⟨rfl, hk1⟩; have HKA := hide ((Keeps.refl (fun _ => False) X).drew.trans hk1); have r0 := uh HSB _ (uh HKA).any; clear hk1)
    | (with_reducible refine (uh (HC2 w1)).mono ?_; rintro e w2 ⟨rfl, hk2⟩; have HKB := hide ((uh HKA).trans hk2); have r1 := uh HSB _ (uh HKB).any; have hz := (uh HP).out (uh HKB); have m0 := cB hz 0; have m1 := cB hz 1; have m2 := cB hz 2; simp at m0 m1 m2; have g0 := fB hz 0; have g1 := fB hz 1; have g2 := fB hz 2; obtain ⟨o0, o1, o2⟩ := set3v hz (.int .i64 Bk) (.int .i64 Bn) (str Bx); have r2 := uh HSB _ ((uh HKB).any.trans (keeps_set3 w2 (W.heap.size + 1) (.int .i64 Bk) (.int .i64 Bn) (str Bx))); clear hz hk2))
 go_wp2_with fail
 refine bodyPost_ret (v := .agg #[.int .i64 Bk, .int .i64 Bn, str Bx]) (by simp [results, go_sem, o0, o1, o2]) rfl ?_
 exact ⟨rfl, (uh HP).done (uh HKB) _ _ _⟩
theorem two11_v (S : List FieldA) (F : Nat → Prop) (w : World) (tv fv gv : Value) (g : ValA → ValA → ValA) (f f2 : Bool → List ValA → ValA) (tb ab bb : Nat) (hT : TwoF tv g) (hA : Wth S F w fv f) (hB : Wth S F w gv f2) (ht : w.cell? ⟨tb, 0, none⟩ = some tv) (ha : w.cell? ⟨ab, 0, none⟩ = some fv) (hb : w.cell? ⟨bb, 0, none⟩ = some gv) (lt : tb < w.heap.size) (la : ab < w.heap.size) (lb : bb < w.heap.size) (nt : ¬ F tb) (na : ¬ F ab) (nb : ¬ F bb) :
  Wth S F w (.func (.func 190) #[] #[.pointer (some ⟨tb, 0, none⟩), .pointer (some ⟨ab, 0, none⟩), .pointer (some ⟨bb, 0, none⟩)]) (fun h vals => g (f h vals) (f2 h vals)) := by
 obtain ⟨kt, rfl, et, hg, hT⟩ := hT
 obtain ⟨k, cap, rfl, ek, hl, hA⟩ := hA
 obtain ⟨k2, cap2, rfl, ek2, hl2, hB⟩ := hB
 refine ⟨190, _, rfl, enters_of Tryz.func190 (by kernel_rfl) rfl, fun h vals hr => hg _ _ (hl h vals hr) (hl2 h vals hr), fun W h u vals hk hv hr => ?_⟩
 obtain ⟨uo, uc, rfl⟩ := RowAt.form hv
 obtain ⟨X, hX, P⟩ := pro_of W h uo vals.length uc
 have SB : ∀ w' : World, Keeps (fun q => q = W.heap.size + 1) X w' → w'.cell? ⟨tb, 0, none⟩ = some (.func (.func kt) #[] #[]) ∧ w'.cell? ⟨ab, 0, none⟩ = some (.func (.func k) #[] cap) ∧ w'.cell? ⟨bb, 0, none⟩ = some (.func (.func k2) #[] cap2) ∧ w'.cell? ⟨W.heap.size, 0, none⟩ = some (.bool h) ∧ w'.cell? ⟨W.heap.size, 1, none⟩ = some (.slice uo vals.length uc) := fun w' hq =>
  ⟨P.old hk lt nt ht hq, P.old hk la na ha hq, P.old hk lb nb hb hq, (P.cells hq).1, (P.cells hq).2⟩
 have HSB := hide SB
 have s0 := SB X (Keeps.refl _ _)
 have HC1 := hide (hA X.drew h (.slice uo vals.length uc) vals ((hk.trans P.kept.any).drew) (hv.keepF P.kept.drew) hr)
 have HC2 := fun W' (hq : Keeps (fun _ => False) X W') => hide (hB W' h (.slice uo vals.length uc) vals ((hk.trans P.kept.any).trans hq.any) (hv.keepF (P.kept.trans hq)) hr)
 have HC3 := fun W' => hide (hT W' (f h vals) (f2 h vals) (hl h vals hr) (hl2 h vals hr))
 have HP := hide P
 have HX := hide hX.symm
 show Calls _ _ _ _ (fun e W' => e = .returned (g (f h vals) (f2 h vals)).v ∧ _)
 clear hA hB hT hg hl hl2 SB ht ha hb hv P hX
 generalize g (f h vals) (f2 h vals) = B at *
 generalize f h vals = A at *
 generalize f2 h vals = A2 at *
 obtain ⟨ak, an, ax⟩ := A
 obtain ⟨dk, dn, dx⟩ := A2
 obtain ⟨Bk, Bn, Bx⟩ := B
 simp only [ValA.v] at HC1 HC2 HC3 ⊢
 unfold Enters at et ek ek2
 go_enter Tryz.func190, Tryz.ntmps190
 go_wp2_with fail
 rw [← uh HX]
 go_region_held3 (fun w' => w'.cell? ⟨tb, 0, none⟩ = some (.func (.func kt) #[] #[]) ∧ w'.cell? ⟨ab, 0, none⟩ = some (.func (.func k) #[] cap) ∧ w'.cell? ⟨bb, 0, none⟩ = some (.func (.func k2) #[] cap2) ∧ w'.cell? ⟨W.heap.size, 0, none⟩ = some (.bool h) ∧ w'.cell? ⟨W.heap.size, 1, none⟩ = some (.slice uo vals.length uc))
  (first | with_reducible exact s0 | with_reducible exact r0 | with_reducible exact r1 | with_reducible exact r2 | with_reducible exact r3 | with_reducible exact uh HSB _ (Keeps.refl _ _).drew)
  (first
    | (with_reducible refine (uh HC1).mono ?_; rintro e w1 ⟨rfl, hk1⟩; have HKA := hide ((Keeps.refl (fun _ => False) X).drew.trans hk1); have r0 := uh HSB _ (uh HKA).any; have mk1 : True := trivial; clear hk1)
    | (clear mk1; with_reducible refine (uh (HC2 w1 (uh HKA))).mono ?_; rintro e w2 ⟨rfl, hk2⟩; have HKB := hide ((uh HKA).trans hk2); have r1 := uh HSB _ (uh HKB).any; have mk2 : True := trivial; clear hk2)
    | (clear mk2; with_reducible refine (uh (HC3 w2)).mono ?_; rintro e w3 ⟨rfl, hk3⟩; have HKC := hide ((uh HKB).trans hk3); have r2 := uh HSB _ (uh HKC).any; have hz := (uh HP).out (uh HKC); have m0 := cB hz 0; have m1 := cB hz 1; have m2 := cB hz 2; simp at m0 m1 m2; have g0 := fB hz 0; have g1 := fB hz 1; have g2 := fB hz 2; obtain ⟨o0, o1, o2⟩ := set3v hz (.int .i64 Bk) (.int .i64 Bn) (str Bx); have r3 := uh HSB _ ((uh HKC).any.trans (keeps_set3 w3 (W.heap.size + 1) (.int .i64 Bk) (.int .i64 Bn) (str Bx))); clear hz hk3))
 go_wp2_with fail
 refine bodyPost_ret (v := .agg #[.int .i64 Bk, .int .i64 Bn, str Bx]) (by simp [results, go_sem, o0, o1, o2]) rfl ?_
 exact ⟨rfl, (uh HP).done (uh HKC) _ _ _⟩
end Go.Proofs.YtiinohibmcefkaaGreatDoor
namespace Go.Proofs.YtiinohibmcefkaaGreatDoor
open Go.RowKit Go.Maps
set_option maxRecDepth 100000
set_option maxHeartbeats 1000000
theorem pick1_v (S : List FieldA) (F : Nat → Prop) (w : World) (cv fv gv : Value) (c f f2 : Bool → List ValA → ValA) (cb ab bb : Nat) (hC : Wth S F w cv c) (hA : Wth S F w fv f) (hB : Wth S F w gv f2) (hc : w.cell? ⟨cb, 0, none⟩ = some cv) (ha : w.cell? ⟨ab, 0, none⟩ = some fv) (hb : w.cell? ⟨bb, 0, none⟩ = some gv) (lc : cb < w.heap.size) (la : ab < w.heap.size) (lb : bb < w.heap.size) (nc : ¬ F cb) (na : ¬ F ab) (nb : ¬ F bb) :
  Wth S F w (.func (.func 195) #[] #[.pointer (some ⟨cb, 0, none⟩), .pointer (some ⟨ab, 0, none⟩), .pointer (some ⟨bb, 0, none⟩)]) (fun h vals => if (c h vals).n = 1 then f h vals else f2 h vals) := by
 obtain ⟨kc, capc, rfl, ec, hlc, hC⟩ := hC
 obtain ⟨k, cap, rfl, ek, hl, hA⟩ := hA
 obtain ⟨k2, cap2, rfl, ek2, hl2, hB⟩ := hB
 refine ⟨195, _, rfl, enters_of Tryz.func195 (by kernel_rfl) rfl, fun h vals hr => ite_short (fun _ => hl h vals hr) (fun _ => hl2 h vals hr), fun W h u vals hk hv hr => ?_⟩
 obtain ⟨uo, uc, rfl⟩ := RowAt.form hv
 obtain ⟨X, hX, P⟩ := pro_of W h uo vals.length uc
 have SB : ∀ w' : World, Keeps (fun q => q = W.heap.size + 1) X w' → w'.cell? ⟨cb, 0, none⟩ = some (.func (.func kc) #[] capc) ∧ w'.cell? ⟨ab, 0, none⟩ = some (.func (.func k) #[] cap) ∧ w'.cell? ⟨bb, 0, none⟩ = some (.func (.func k2) #[] cap2) ∧ w'.cell? ⟨W.heap.size, 0, none⟩ = some (.bool h) ∧ w'.cell? ⟨W.heap.size, 1, none⟩ = some (.slice uo vals.length uc) := fun w' hq =>
  ⟨P.old hk lc nc hc hq, P.old hk la na ha hq, P.old hk lb nb hb hq, (P.cells hq).1, (P.cells hq).2⟩
 have HSB := hide SB
 have s0 := SB X (Keeps.refl _ _)
 have HC0 := fun W' (hq : Keeps (fun _ => False) X W') => hide (hC W' h (.slice uo vals.length uc) vals ((hk.trans P.kept.any).trans hq.any) (hv.keepF (P.kept.trans hq)) hr)
 have HC1 := fun W' (hq : Keeps (fun _ => False) X W') => hide (hA W' h (.slice uo vals.length uc) vals ((hk.trans P.kept.any).trans hq.any) (hv.keepF (P.kept.trans hq)) hr)
 have HC2 := fun W' (hq : Keeps (fun _ => False) X W') => hide (hB W' h (.slice uo vals.length uc) vals ((hk.trans P.kept.any).trans hq.any) (hv.keepF (P.kept.trans hq)) hr)
 have HP := hide P
 show Calls _ _ _ _ (fun e W' => e = .returned (if (c h vals).n = 1 then f h vals else f2 h vals).v ∧ _)
 clear hC hA hB hlc hl hl2 SB hc ha hb hv P
 generalize c h vals = C at *
 generalize f h vals = A at *
 generalize f2 h vals = B at *
 have HI := fun W' => hide (isTrue_v C W')
 obtain ⟨ck, cn, cx⟩ := C
 obtain ⟨Ak, An, Ax⟩ := A
 obtain ⟨Bk, Bn, Bx⟩ := B
 unfold Enters at ec ek ek2
 by_cases hcn : cn = 1
 ·rw [if_pos hcn]
  have HD : ∀ W', Hid (Calls Tryz.prog 132 #[ValA.v ⟨ck, cn, cx⟩] W' fun e w' => e = .returned (.bool true) ∧ Keeps (fun _ => False) W' w') := fun W' => by show Calls _ _ _ _ _; have := uh (HI W'); simpa [hcn] using this
  clear HI hcn HC2
  simp only [ValA.v] at HC0 HC1 HD ⊢
  go_enter Tryz.func195, Tryz.ntmps195
  go_wp2_with fail
  refine (uh (HC0 _ (Keeps.refl _ _))).mono ?_
  rintro e w1 ⟨rfl, hk1⟩
  go_wp2_with fail
  refine (uh (HD _)).mono ?_
  rintro e w2 ⟨rfl, hk2⟩
  have s1 := uh HSB _ (hk1.trans hk2).any
  go_wp2_with fail
  refine (uh (HC1 _ (hk1.trans hk2))).mono ?_
  rintro e w3 ⟨rfl, hk3⟩
  have HKA := hide ((hk1.trans hk2).trans hk3)
  have hz := (uh HP).out (uh HKA)
  have m0 := cB hz 0
  have m1 := cB hz 1
  have m2 := cB hz 2
  simp at m0 m1 m2
  have g0 := fB hz 0
  have g1 := fB hz 1
  have g2 := fB hz 2
  obtain ⟨o0, o1, o2⟩ := set3v hz (.int .i64 Ak) (.int .i64 An) (str Ax)
  clear hz hk1 hk2 hk3
  go_wp2_with fail
  refine bodyPost_ret (v := .agg #[.int .i64 Ak, .int .i64 An, str Ax]) (by simp [results, go_sem, o0, o1, o2]) rfl ?_
  exact ⟨rfl, (uh HP).done (uh HKA) _ _ _⟩
 ·rw [if_neg hcn]
  have HD : ∀ W', Hid (Calls Tryz.prog 132 #[ValA.v ⟨ck, cn, cx⟩] W' fun e w' => e = .returned (.bool false) ∧ Keeps (fun _ => False) W' w') := fun W' => by show Calls _ _ _ _ _; have := uh (HI W'); simpa [hcn] using this
  clear HI hcn HC1
  simp only [ValA.v] at HC0 HC2 HD ⊢
  go_enter Tryz.func195, Tryz.ntmps195
  go_wp2_with fail
  refine (uh (HC0 _ (Keeps.refl _ _))).mono ?_
  rintro e w1 ⟨rfl, hk1⟩
  go_wp2_with fail
  refine (uh (HD _)).mono ?_
  rintro e w2 ⟨rfl, hk2⟩
  have s1 := uh HSB _ (hk1.trans hk2).any
  go_wp2_with fail
  refine (uh (HC2 _ (hk1.trans hk2))).mono ?_
  rintro e w3 ⟨rfl, hk3⟩
  have HKA := hide ((hk1.trans hk2).trans hk3)
  have hz := (uh HP).out (uh HKA)
  have m0 := cB hz 0
  have m1 := cB hz 1
  have m2 := cB hz 2
  simp at m0 m1 m2
  have g0 := fB hz 0
  have g1 := fB hz 1
  have g2 := fB hz 2
  obtain ⟨o0, o1, o2⟩ := set3v hz (.int .i64 Bk) (.int .i64 Bn) (str Bx)
  clear hz hk1 hk2 hk3
  go_wp2_with fail
  refine bodyPost_ret (v := .agg #[.int .i64 Bk, .int .i64 Bn, str Bx]) (by simp [results, go_sem, o0, o1, o2]) rfl ?_
  exact ⟨rfl, (uh HP).done (uh HKA) _ _ _⟩
end Go.Proofs.YtiinohibmcefkaaGreatDoor
