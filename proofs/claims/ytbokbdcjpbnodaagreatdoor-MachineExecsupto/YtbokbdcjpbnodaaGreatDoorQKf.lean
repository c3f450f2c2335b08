import Derived.Test.YtbokbdcjpbnodaaGreatDoorQKe
import Derived.Test.YtbokbdcjpbnodaaGreatDoorQJw
namespace Go.Proofs.YtbokbdcjpbnodaaGreatDoor
open Go.RowKit Go.Maps
set_option maxRecDepth 100000
set_option maxHeartbeats 2000000
def decE (S : List FieldA) (t : Txt) : List ValA × Int := if errS S ≠ 0 then ([], errS S) else decC t
theorem decode31_v (S : List FieldA) (sv v : Value) (t : Txt) (w : World) (hE : Env w) (hS : FldsAt w sv S) (h : BytesAt w v t) :
  Calls Tryz.prog 51 #[.agg #[sv], v] w fun e w' => ∃ r', e = .returned (.tuple #[r', .int .i64 (decE S t).2]) ∧ ValsAt w' r' (decE S t).1 ∧ Keeps (fun _ => False) w w' := by
 obtain ⟨so, sc, rfl⟩ := RowAt.form hS
 obtain ⟨vo, vc, rfl⟩ := RowAt.form h
 have HKA := hide (kAlloc w (.cells #[.slice so S.length sc] 24))
 have HQ := hide (checkSchema_v S _ _ (hE.types.keepF (uh HKA)) (hS.keepF (uh HKA)))
 have HD := hide (fun (W : World) (hk : Keeps (fun _ => False) w W) => decode_c t (.slice vo t.length vc) W (hE.ops.keepF hk) (hE.types.keepF hk) (h.keepF hk))
 have HE : Hid (decE S t = if errS S ≠ 0 then ([], errS S) else decC t) := rfl
 generalize decE S t = D at *
 generalize errS S = E at *
 clear hE hS h
 go_enter Tryz.func51, Tryz.ntmps51
 go_wp2_with fail
 refine (uh HQ).mono ?_
 rintro e w1 ⟨rfl, hk1⟩
 have HK1 := hide ((uh HKA).trans hk1)
 have HD1 := hide ((uh HD) w1 (uh HK1))
 clear hk1 HQ HKA HD
 by_cases h0 : E = 0
 ·subst h0
  have HE2 : Hid (D = decC t) := by show _ = _; rw [uh HE, if_neg (by decide)]
  rw [← uh HE2] at HD1
  clear HE
  go_wp2_with fail
  refine (uh HD1).mono ?_
  rintro e w2 ⟨r', rfl, ho2, hk2⟩
  obtain ⟨ro, rc, rfl⟩ := RowAt.form (rowAt_own ho2)
  have HO2 := hide ho2
  have HK2 := hide ((uh HK1).trans hk2)
  clear ho2 hk2 HD1
  go_wp2_with fail
  go_ret2
  exact ⟨_, rfl, rowAt_own (uh HO2), uh HK2⟩
 ·have HE2 : Hid (D = ([], E)) := by show _ = _; rw [uh HE, if_pos h0]
  clear HE HD1
  go_wp2_with fail
  go_ret2
  rw [uh HE2]
  exact ⟨_, rfl, ⟨⟨_, _, rfl⟩, fun h0 => by simp at h0, fun ao m cap e => by simp at e; omega⟩, uh HK1⟩
end Go.Proofs.YtbokbdcjpbnodaaGreatDoor
namespace Go.Proofs.YtbokbdcjpbnodaaGreatDoor
open Go.RowKit Go.Maps
set_option maxRecDepth 100000
set_option maxHeartbeats 4000000
def Execd (w : World) (X V R : Int) (T : List (Nat × List ValA) × MS) (e : Ending) (w' : World) : Prop :=
 ((X ≠ 0 ∨ V ≠ 0 ∨ R ≠ 0) ∧ e = .returned (.tuple #[.agg #[.bool false, .slice none 0 0], .int .i64 (if X ≠ 0 then X else if V ≠ 0 then V else R)]) ∧ Keeps (fun _ => False) w w') ∨
 (X = 0 ∧ V = 0 ∧ R = 0 ∧ ∃ rv, e = .returned (.tuple #[.agg #[.bool T.2.here, rv], .int .i64 0]) ∧ ValsAt w' rv T.2.vals ∧ Keeps (fun _ => False) w w')
theorem set2c {w : World} {b : Nat} {c0 c1 : Value} {t : TypeId} (h : w.heap[b]? = some (.cells #[c0, c1] t (0, 0))) (x y : Value) :
  ((w.setCell ⟨b, 0, none⟩ x).setCell ⟨b, 1, none⟩ y).cell? ⟨b, 0, none⟩ = some x ∧ ((w.setCell ⟨b, 0, none⟩ x).setCell ⟨b, 1, none⟩ y).cell? ⟨b, 1, none⟩ = some y := by
 have hb := heap_setCell_at (o := 1) (heap_setCell_at (o := 0) h x) y
 refine ⟨?_, ?_⟩ <;> (rw [cell_of_blk hb]; rfl)
theorem keeps_set2 (w : World) (b : Nat) (x y : Value) : Keeps (fun q => q = b) w ((w.setCell ⟨b, 0, none⟩ x).setCell ⟨b, 1, none⟩ y) :=
 Keeps.setCell (F := fun q => q = b) (p := ⟨b, 1, none⟩) (Keeps.setCell (F := fun q => q = b) (p := ⟨b, 0, none⟩) (Keeps.refl (fun q => q = b) w) (fun _ => rfl) x) (fun _ => rfl) y
theorem machExec_v (S : List FieldA) (sv u v : Value) (t : Txt) (hh : Bool) (vals : List ValA) (w : World) (hE : Env w) (hS : FldsAt w sv S) (hb : BytesAt w v t) (hr : ValsAt w u vals) :
  Calls Tryz.prog 17 #[.agg #[sv], v, .agg #[.bool hh, u]] w fun e w' => Execd w (decE S t).2 (verifyA S (decE S t).1).2.2 (rowE S hh vals) (playM S (decE S t).1 (decE S t).1.length 0 ⟨[], hh, vals⟩) e w' := by
 obtain ⟨so, sc, rfl⟩ := RowAt.form hS
 obtain ⟨uo, uc, rfl⟩ := RowAt.form hr
 obtain ⟨vo, vc, rfl⟩ := RowAt.form hb
 have HKA := hide (((kAlloc w (.cells #[.slice so S.length sc] 24)).alloc (.cells #[.bool hh, .slice uo vals.length uc] 28)).alloc (.cells #[.bool false, .slice none 0 0] 28))
 have hX := heap_alloc_new ((w.alloc (.cells #[.slice so S.length sc] 24)).alloc (.cells #[.bool hh, .slice uo vals.length uc] 28)) (.cells #[.bool false, .slice none 0 0] 28)
 rw [show ((w.alloc (.cells #[.slice so S.length sc] 24)).alloc (.cells #[.bool hh, .slice uo vals.length uc] 28)).heap.size = w.heap.size + 1 + 1 by simp] at hX
 have HX := hide hX
 have hA1 := heap_alloc_new w (.cells #[.slice so S.length sc] 24)
 have hA2 := heap_alloc_new (w.alloc (.cells #[.slice so S.length sc] 24)) (.cells #[.bool hh, .slice uo vals.length uc] 28)
 rw [show (w.alloc (.cells #[.slice so S.length sc] 24)).heap.size = w.heap.size + 1 by simp] at hA2
 have hB1 := (((kAlloc (w.alloc (.cells #[.slice so S.length sc] 24)) (.cells #[.bool hh, .slice uo vals.length uc] 28)).alloc (.cells #[.bool false, .slice none 0 0] 28)).block _ (lt_of_block hA1) id).trans hA1
 have hB2 := ((kAlloc ((w.alloc (.cells #[.slice so S.length sc] 24)).alloc (.cells #[.bool hh, .slice uo vals.length uc] 28)) (.cells #[.bool false, .slice none 0 0] 28)).block _ (lt_of_block hA2) id).trans hA2
 have HB1 := hide hB1
 have HB2 := hide hB2
 clear hA1 hA2 hB1 hB2
 have HQ := hide (decode31_v S _ _ t _ (hE.keepF (uh HKA)) (hS.keepF (uh HKA)) (hb.keepF (uh HKA)))
 have HI : Hid ((decE S t).2 = 0 → InR (decE S t).1) := fun h => by
  unfold decE at h ⊢
  split at h
  ·rename_i hq; exact absurd h hq
  ·rename_i hq; rw [if_neg hq]; exact (enc_dec h).2
 have HR := hide (fun (W : World) (vv : Value) (L : List ValA) (hk : Keeps (fun _ => False) w W) (hv : ValsAt W vv L) (hi : InR L) => machRun_v S (.slice so S.length sc) (.slice uo vals.length uc) vv L hh vals W (hE.keepF hk) (hS.keepF hk) hv hi (hr.keepF hk))
 generalize decE S t = D at *
 obtain ⟨L, X⟩ := D
 simp only at *
 obtain ⟨T, HTT⟩ : ∃ T, Hid (playM S L L.length 0 ⟨[], hh, vals⟩ = T) := ⟨_, rfl⟩
 obtain ⟨V, HVV⟩ : ∃ V, Hid ((verifyA S L).2.2 = V) := ⟨_, rfl⟩
 obtain ⟨R, HRR⟩ : ∃ R, Hid (rowE S hh vals = R) := ⟨_, rfl⟩
 rw [uh HTT, uh HVV, uh HRR]
 clear hX hE hS hb hr
 go_enter Tryz.func17, Tryz.ntmps17
 go_wp2_with fail
 refine (uh HQ).mono ?_
 rintro e w1 ⟨r', rfl, hv1, hk1⟩
 obtain ⟨ro, rc, rfl⟩ := RowAt.form hv1
 have HKB := hide ((uh HKA).trans hk1)
 have hX1 := (hk1.block _ (lt_of_block (uh HX)) id).trans (uh HX)
 have p1 := lt_of_block (uh HX)
 have HV1 := hide hv1
 have y1 : w1.cell? ⟨w.heap.size, 0, none⟩ = some (.slice so S.length sc) := (cell_of_blk ((hk1.block _ (lt_of_block (uh HB1)) id).trans (uh HB1)) _).trans rfl
 have y2 : w1.cell? ⟨w.heap.size + 1, 0, none⟩ = some (.bool hh) := (cell_of_blk ((hk1.block _ (lt_of_block (uh HB2)) id).trans (uh HB2)) _).trans rfl
 have y3 : w1.cell? ⟨w.heap.size + 1, 1, none⟩ = some (.slice uo vals.length uc) := (cell_of_blk ((hk1.block _ (lt_of_block (uh HB2)) id).trans (uh HB2)) _).trans rfl
 have z0 := frozen_of_blk hX1 0
 have z1 := frozen_of_blk hX1 1
 have x0 : w1.cell? ⟨w.heap.size + 1 + 1, 0, none⟩ = some (.bool false) := (cell_of_blk hX1 _).trans rfl
 have x1 : w1.cell? ⟨w.heap.size + 1 + 1, 1, none⟩ = some (.slice none 0 0) := (cell_of_blk hX1 _).trans rfl
 have HX1 := hide hX1
 have hsz : w.heap.size + 1 + 1 < w1.heap.size := lt_of_block hX1
 clear hv1 hk1 HQ HKA hX1 p1 HX HB1 HB2
 by_cases h0 : X = 0
 ·subst h0
  have HQ2 := hide ((uh HR) w1 (.slice ro L.length rc) L (uh HKB) (uh HV1) ((uh HI) rfl))
  clear HR HI
  rw [uh HTT, uh HVV, uh HRR] at HQ2
  go_wp2_with fail
  refine (uh HQ2).mono ?_
  rintro e w2 hran
  rcases hran with ⟨hVR, rfl, hk2⟩ | ⟨hV0, hR0, rv, rfl, hv2, hnw, hk2⟩
  ·generalize hEE : (if V ≠ 0 then V else R) = EE at *
   have hX2 := (hk2.block _ hsz id).trans (uh HX1)
   have z5 := frozen_of_blk hX2 0
   have z6 := frozen_of_blk hX2 1
   have x5 := (cell_of_blk hX2 0).trans rfl
   have x6 := (cell_of_blk hX2 1).trans rfl
   obtain ⟨s0, s1⟩ := set2c hX2 (.bool false) (.slice none 0 0)
   have hs2 : w.heap.size + 1 + 1 < w2.heap.size := Nat.lt_of_lt_of_le hsz hk2.size
   have s0' := ((kAlloc ((w2.setCell ⟨w.heap.size + 1 + 1, 0, none⟩ (.bool false)).setCell ⟨w.heap.size + 1 + 1, 1, none⟩ (.slice none 0 0)) (.cells #[.bool false, .slice none 0 0, .int .i64 0, .int .i64 0] 32)).cell (o := 0) (by simpa using hs2) id).trans s0
   have s1' := ((kAlloc ((w2.setCell ⟨w.heap.size + 1 + 1, 0, none⟩ (.bool false)).setCell ⟨w.heap.size + 1 + 1, 1, none⟩ (.slice none 0 0)) (.cells #[.bool false, .slice none 0 0, .int .i64 0, .int .i64 0] 32)).cell (o := 1) (by simpa using hs2) id).trans s1
   have HX2 := hide hX2
   have HK2 := hide hk2
   have HKF := hide ((((uh HKB).trans hk2).fresh (by omega) (keeps_set2 w2 (w.heap.size + 1 + 1) (.bool false) (.slice none 0 0))).alloc (.cells #[.bool false, .slice none 0 0, .int .i64 0, .int .i64 0] 32))
   clear hk2 hX2 HQ2
   go_wp2_with fail
   refine bodyPost_ret (v := .tuple #[.agg #[.bool false, .slice none 0 0], .int .i64 EE]) (by simp [results, go_sem, s0', s1']) rfl ?_
   exact Or.inl ⟨Or.inr hVR, by rw [if_neg (by decide), hEE], uh HKF⟩
  ·obtain ⟨xo, xc, rfl⟩ := RowAt.form hv2
   subst hV0
   subst hR0
   have HV2 := hide hv2
   have HNW := hide hnw
   clear hv2 hnw
   have hX2 := (hk2.block _ hsz id).trans (uh HX1)
   have z5 := frozen_of_blk hX2 0
   have z6 := frozen_of_blk hX2 1
   have x5 := (cell_of_blk hX2 0).trans rfl
   have x6 := (cell_of_blk hX2 1).trans rfl
   obtain ⟨s0, s1⟩ := set2c hX2 (.bool T.2.here) (.slice xo T.2.vals.length xc)
   have hs2 : w.heap.size + 1 + 1 < w2.heap.size := Nat.lt_of_lt_of_le hsz hk2.size
   have s0' := ((kAlloc ((w2.setCell ⟨w.heap.size + 1 + 1, 0, none⟩ (.bool T.2.here)).setCell ⟨w.heap.size + 1 + 1, 1, none⟩ (.slice xo T.2.vals.length xc)) (.cells #[.bool T.2.here, .slice xo T.2.vals.length xc, .int .i64 (T.1.length : Int), .int .i64 (deepD T.1 : Int)] 32)).cell (o := 0) (by simpa using hs2) id).trans s0
   have s1' := ((kAlloc ((w2.setCell ⟨w.heap.size + 1 + 1, 0, none⟩ (.bool T.2.here)).setCell ⟨w.heap.size + 1 + 1, 1, none⟩ (.slice xo T.2.vals.length xc)) (.cells #[.bool T.2.here, .slice xo T.2.vals.length xc, .int .i64 (T.1.length : Int), .int .i64 (deepD T.1 : Int)] 32)).cell (o := 1) (by simpa using hs2) id).trans s1
   have HX2 := hide hX2
   have HK2 := hide hk2
   have HKF := hide ((((uh HKB).trans hk2).fresh (by omega) (keeps_set2 w2 (w.heap.size + 1 + 1) (.bool T.2.here) (.slice xo T.2.vals.length xc))).alloc (.cells #[.bool T.2.here, .slice xo T.2.vals.length xc, .int .i64 (T.1.length : Int), .int .i64 (deepD T.1 : Int)] 32))
   clear hk2 hX2 HQ2
   go_wp2_with fail
   refine bodyPost_ret (v := .tuple #[.agg #[.bool T.2.here, .slice xo T.2.vals.length xc], .int .i64 0]) (by simp [results, go_sem, s0', s1']) rfl ?_
   refine Or.inr ⟨rfl, rfl, rfl, .slice xo T.2.vals.length xc, rfl, ?_, uh HKF⟩
   exact ((uh HV2).kept (keeps_set2 w2 (w.heap.size + 1 + 1) (.bool T.2.here) (.slice xo T.2.vals.length xc)) (fun q e h => by have := (uh HNW) q e; omega)).keepF (kAlloc _ _)
 ·obtain ⟨s0, s1⟩ := set2c (uh HX1) (.bool false) (.slice none 0 0)
  have HK := hide ((uh HKB).fresh (by omega) (keeps_set2 w1 (w.heap.size + 1 + 1) (.bool false) (.slice none 0 0)))
  clear HR HI
  go_wp2_with fail
  refine bodyPost_ret (v := .tuple #[.agg #[.bool false, .slice none 0 0], .int .i64 X]) (by simp [results, go_sem, s0, s1]) rfl ?_
  exact Or.inl ⟨Or.inl h0, by rw [if_pos h0], uh HK⟩
end Go.Proofs.YtbokbdcjpbnodaaGreatDoor
namespace Go.Proofs.YtbokbdcjpbnodaaGreatDoor
open Go.RowKit Go.Maps
def StepsAt (w : World) (v : Value) (D : List (Nat × List ValA)) : Prop := RowAt w v D.length (stepCs D)
theorem nil_vals (w : World) : ValsAt w (.slice none 0 0) [] := ⟨⟨_, _, rfl⟩, fun h0 => by simp at h0, fun ao m cap e => by simp at e; omega⟩
end Go.Proofs.YtbokbdcjpbnodaaGreatDoor
namespace Go.Proofs.YtbokbdcjpbnodaaGreatDoor
open Go.RowKit Go.Maps
def rowB (S : List FieldA) (hh : Bool) (vals : List ValA) : Bool := if hh then decide (errR S vals = 0) else decide (vals = []) && decide (errS S = 0)
end Go.Proofs.YtbokbdcjpbnodaaGreatDoor
namespace Go.Proofs.YtbokbdcjpbnodaaGreatDoor
open Go.RowKit Go.Maps
def okSteps (hv : List (Bool × List Int)) (N : Nat) : Int → List (Nat × List ValA) → Prop
 | _, [] => True
 | last, z :: r => last < z.1 ∧ z.1 < N ∧ hv[z.1]? = some (true, z.2.map ValA.kind) ∧ z.2.length ≤ 16 ∧ okSteps hv N z.1 r
theorem okSteps.lower {hv : List (Bool × List Int)} {N : Nat} {a b : Int} (h : a ≤ b) : ∀ {D : List (Nat × List ValA)}, okSteps hv N b D → okSteps hv N a D
 | [], _ => trivial
 | z :: r, q => ⟨by have := q.1; omega, q.2⟩
theorem play_ok {S : List FieldA} {l : List ValA} {hv : List (Bool × List Int)} (hH : HvOK S l hv) (hSK : ∀ f ∈ S, isK f.type) (hF : ∀ i ∈ l, formB i = 0 ∧ rightF S i = true) (hJ : ∀ k i, l[k]? = some i → (opA i.kind).opd = 6 → k + 1 + i.n.toNat ≤ l.length) :
  ∀ (fu k : Nat) (m : MS) (ts : List Int), hv[k]? = some (true, ts) → TyM S m ts → k ≤ l.length → l.length ≤ k + fu →
   okSteps hv l.length ((k : Int) - 1) (playM S l fu k m).1 ∧ TyM S (playM S l fu k m).2 [] ∧ (k < l.length → ∃ r, (playM S l fu k m).1 = (k, m.st) :: r)
 | 0, k, m, ts, hh, hM, hk, hf => by
  have hkl : k = l.length := by omega
  subst hkl
  have := hH.last ts hh
  subst this
  exact ⟨trivial, hM, fun h => absurd h (Nat.lt_irrefl _)⟩
 | f + 1, k, m, ts, hh, hM, hk, hf => by
  by_cases hlt : k < l.length
  ·obtain ⟨x, ts', hx, hb⟩ := hH.beh k ts hlt hh
   obtain ⟨hff, hrr⟩ := hF x (List.mem_of_getElem? hx)
   obtain ⟨n1, n2, n3⟩ := next_ok (m := m) hH hJ hx hh hb
   have ih := play_ok hH hSK hF hJ f (nextM x k m) (stepM S x m) ts' n3 (step_ty hSK hff hrr hM hb) n2 (by omega)
   rw [playM_step hx]
   refine ⟨⟨by omega, hlt, by rw [hM.ty]; exact hh, ?_, ih.1.lower (by omega)⟩, ih.2.1, fun _ => ⟨_, rfl⟩⟩
   have := (hH.small k _ hh).1
   rw [← hM.ty] at this
   simpa using this
  ·have hkl : k = l.length := by omega
   subst hkl
   have := hH.last ts hh
   subst this
   rw [playM_end (Nat.le_refl _)]
   exact ⟨trivial, hM, fun h => absurd h (Nat.lt_irrefl _)⟩
theorem okSteps.deep {hv : List (Bool × List Int)} {N : Nat} : ∀ {D : List (Nat × List ValA)} {a : Int} {d : Nat}, okSteps hv N a D → d ≤ deepH hv → D.foldl (fun d z => max d z.2.length) d ≤ deepH hv
 | [], _, _, _, h => h
 | z :: r, a, d, q, h => by
  have := deepH_le q.2.2.1
  simp only [List.length_map] at this
  rw [List.foldl_cons]
  exact okSteps.deep (D := r) (a := (z.1 : Int)) (d := max d z.2.length) q.2.2.2.2 (Nat.max_le.2 ⟨h, this⟩)
end Go.Proofs.YtbokbdcjpbnodaaGreatDoor
