import Derived.Test.YtklkhegeeglfbaaGreatDoorJzag
namespace Go.Proofs.YtklkhegeeglfbaaGreatDoor
open Go.RowKit Go.Maps

theorem vcs_at {l : List ValA} {i : Nat} {x : ValA} (h : l[i]? = some x) : (vcs l)[i * 3]? = some (.int .i64 x.kind) ∧ (vcs l)[i * 3 + 1]? = some (.int .i64 x.n) ∧ (vcs l)[i * 3 + 2]? = some (str x.s) := by
  have k := fun j hj => flat_get ValA.cs (fun _ => rfl) l i x j h hj
  exact ⟨k 0 (by omega), k 1 (by omega), k 2 (by omega)⟩
theorem own_at {w : World} {B e z n g c j : Nat} {xs : List Value} {u : Value} (h : w.ownsRow B e z (.slice (some ⟨g, 0, none⟩) n c) n xs) (hj : xs[j]? = some u) : w.cell? ⟨g, j, none⟩ = some u :=
  (World.ownsRow.cellAt h j (by rw [← h.1]; exact get_lt hj)).trans hj
theorem roomsV_at {n : Nat} {l : List ValA} {j k : Nat} (hj : j < k) (hl : l.length = n) : (l ++ roomsV k)[n + j]? = some (roomV j) := by
  rw [List.getElem?_append_right (by omega), hl, Nat.add_sub_cancel_left]
  simp [roomsV, hj]
/-- The marks behind a list of values. -/
theorem val_marks {w : World} {B g c n k : Nat} {l : List ValA} (h : w.ownsRow B 40 3 (.slice (some ⟨g, 0, none⟩) (n + k) c) (n + k) (vcs (l ++ roomsV k))) (hl : l.length = n) {j : Nat} (hj : j < k) :
    w.cell? ⟨g, (n + j) * 3, none⟩ = some (.int .i64 8) ∧ w.cell? ⟨g, (n + j) * 3 + 1, none⟩ = some (.int .i64 (j : Int)) ∧ w.cell? ⟨g, (n + j) * 3 + 2, none⟩ = some (.string ⟨#[114, 111, 111, 109]⟩) := by
  obtain ⟨a, b, d⟩ := vcs_at (roomsV_at hj hl)
  exact ⟨own_at h a, own_at h b, own_at h d⟩
theorem val_front {w : World} {B g c n k : Nat} {l : List ValA} (h : w.ownsRow B 40 3 (.slice (some ⟨g, 0, none⟩) (n + k) c) (n + k) (vcs (l ++ roomsV k))) (hl : l.length = n) : ValsAt w (.slice (some ⟨g, 0, none⟩) n c) l := by
  rw [vcs_app] at h
  have := own_head (n := n) h (by rw [vcs_length, hl]) (by decide)
  subst hl
  exact rowAt_own this

theorem eqVals_same (w : World) (va vb : Value) (l : List ValA) (ha : ValsAt w va l) (hb : ValsAt w vb l) (hl : l.length ≤ 2147483648) : Calls Tryz.prog 19 #[va, vb] w fun e w' => e = .returned (.bool true) ∧ Keeps (fun _ => False) w w' := by
  refine (eqVals_any w va vb l l ha hb (by unfold maxLen; omega)).mono ?_
  rintro e w' ⟨rfl, hk⟩
  exact ⟨ret_bool (by simp), hk⟩
theorem eqBytes_same (w : World) (va vb : Value) (l : Txt) (ha : BytesAt w va l) (hb : BytesAt w vb l) (hl : l.length ≤ 2147483648) : Calls Tryz.prog 20 #[va, vb] w fun e w' => e = .returned (.bool true) ∧ Keeps (fun _ => False) w w' := by
  refine (eqBytes_any w va vb l l ha hb (by unfold maxLen; omega)).mono ?_
  rintro e w' ⟨rfl, hk⟩
  exact ⟨ret_bool (by simp), by first | exact hk | (obtain ⟨n, rfl⟩ := hk; exact keeps_drewN w n)⟩
theorem eqSchema_same (w : World) (va vb : Value) (l : List FieldA) (ha : FldsAt w va l) (hb : FldsAt w vb l) (hl : l.length ≤ 2147483648) : Calls Tryz.prog 21 #[.agg #[va], .agg #[vb]] w fun e w' => e = .returned (.bool true) ∧ Keeps (fun _ => False) w w' := by
  refine (eqSchema_any w va vb l l ha hb (by unfold maxLen; omega)).mono ?_
  rintro e w' ⟨rfl, hk⟩
  exact ⟨ret_bool (by simp), hk⟩
/-- The marks behind bytes. -/
theorem byte_marks {w : World} {B g c n k : Nat} {l : Txt} (h : w.ownsRow B 5 1 (.slice (some ⟨g, 0, none⟩) (n + k) c) (n + k) (bs (l ++ roomsB k))) (hl : l.length = n) (hk : k ≤ 64) {j : Nat} (hj : j < k) : w.cell? ⟨g, n + j, none⟩ = some (.int .u8 (100 + (j : Int))) := by
  have e : (l ++ roomsB k)[n + j]? = some (UInt8.ofNat (100 + j)) := by
    rw [List.getElem?_append_right (by omega), hl, Nat.add_sub_cancel_left]
    simp [roomsB, hj]
  rw [← roomB_num (show j < 64 by omega)]
  exact own_at h (by rw [bs_get, e]; rfl)
theorem byte_front {w : World} {B g c n k : Nat} {l : Txt} (h : w.ownsRow B 5 1 (.slice (some ⟨g, 0, none⟩) (n + k) c) (n + k) (bs (l ++ roomsB k))) (hl : l.length = n) : BytesAt w (.slice (some ⟨g, 0, none⟩) n c) l := by
  rw [bs_app] at h
  have := own_head (n := n) h (by rw [bs_length, hl]; omega) (by decide)
  subst hl
  exact rowAt_own this

set_option maxRecDepth 100000 in
set_option maxHeartbeats 2000000 in
theorem bytesKept_v (w : World) (B g c : Nat) (l : Txt) (u : Value) (h : w.ownsRow B 5 1 (.slice (some ⟨g, 0, none⟩) (l.length + 64) c) (l.length + 64) (bs (l ++ roomsB 64))) (hu : BytesAt w u l) (hl : l.length ≤ 1073741824) :
    Calls Tryz.prog 52 #[.slice (some ⟨g, 0, none⟩) (l.length + 64) c, u] w fun e w' => e = .returned (.bool true) ∧ Keeps (fun _ => False) w w' := by
  obtain ⟨uo, uc, rfl⟩ := RowAt.form hu
  have HQ := hide (eqBytes_same w _ _ l (byte_front h rfl) hu (by omega))
  have hc : l.length + 64 ≤ c := (rowAt_own h).room _ _ _ rfl
  have i0 : (l.length : Int) ≤ (c : Int) := by omega
  have hg := own_lt h rfl
  have HO := hide h
  clear h hu
  go_enter Tryz.func52, Tryz.ntmps52
  go_wp2_with fail
  refine (unhide HQ).mono ?_
  rintro e w1 ⟨rfl, hk1⟩
  have HK1 := hide hk1
  clear hk1
  go_wp2_with fail
  go_loopw [6] (fun i wr => ∃ k : Nat, k ≤ 64 ∧ i = .int .i64 k ∧ Hid (Keeps (fun _ => False) w wr)) (fun i _ => 64 - (intOf i).toNat)
  case atStart => exact ⟨0, by omega, rfl, HK1⟩
  case round =>
    obtain ⟨k, hk, rfl, HK⟩ := hrel
    by_cases hlt : k < 64
    · have c0 := ((unhide HK).cell hg id).trans (byte_marks (unhide HO) rfl (by omega) hlt)
      have i1 : (k : Int) < 64 := by omega
      go_wp2_with fail
      go_roundw
      case rel => exact ⟨k + 1, by omega, by go_num, HK⟩
      case measure => simp [intOf]; omega
    · go_wp2_with fail
      go_ret
      exact ⟨rfl, unhide HK⟩

set_option maxRecDepth 100000 in
set_option maxHeartbeats 2000000 in
theorem valsKept_v (w : World) (B g c : Nat) (l : List ValA) (u : Value) (h : w.ownsRow B 40 3 (.slice (some ⟨g, 0, none⟩) (l.length + 64) c) (l.length + 64) (vcs (l ++ roomsV 64))) (hu : ValsAt w u l) (hl : l.length ≤ 1073741824) :
    Calls Tryz.prog 51 #[.slice (some ⟨g, 0, none⟩) (l.length + 64) c, u] w fun e w' => e = .returned (.bool true) ∧ Keeps (fun _ => False) w w' := by
  obtain ⟨uo, uc, rfl⟩ := RowAt.form hu
  have HQ := hide (eqVals_same w _ _ l (val_front h rfl) hu (by omega))
  have hc : l.length + 64 ≤ c := (rowAt_own h).room _ _ _ rfl
  have i0 : (l.length : Int) ≤ (c : Int) := by omega
  have hg := own_lt h rfl
  have HO := hide h
  clear h hu
  go_enter Tryz.func51, Tryz.ntmps51
  go_wp2_with fail
  refine (unhide HQ).mono ?_
  rintro e w1 ⟨rfl, hk1⟩
  have HK1 := hide hk1
  clear hk1
  go_wp2_with fail
  go_loopw [6] (fun i wr => ∃ k : Nat, k ≤ 64 ∧ i = .int .i64 k ∧ Hid (Keeps (fun _ => False) w wr)) (fun i _ => 64 - (intOf i).toNat)
  case atStart => exact ⟨0, by omega, rfl, HK1⟩
  case round =>
    obtain ⟨k, hk, rfl, HK⟩ := hrel
    by_cases hlt : k < 64
    · obtain ⟨a0, a1, a2⟩ := val_marks (unhide HO) rfl hlt
      have c0 := ((unhide HK).cell hg id).trans a0
      have c1 := ((unhide HK).cell hg id).trans a1
      have c2 := ((unhide HK).cell hg id).trans a2
      have i1 : (k : Int) < 64 := by omega
      have i2 : (0 : Int) ≤ (l.length : Int) + (k : Int) := by omega
      have i3 : (l.length : Int) + (k : Int) < (l.length : Int) + 64 := by omega
      have i4 : ((l.length : Int) + (k : Int)).toNat = l.length + k := by omega
      clear a0 a1 a2
      go_wp2_with fail
      go_roundw
      case rel => exact ⟨k + 1, by omega, by go_num, (unhide HK).trans ((Keeps.refl _ _).alloc _)⟩
      case measure => simp [intOf]; omega
    · go_wp2_with fail
      go_ret
      exact ⟨rfl, unhide HK⟩

set_option maxRecDepth 100000 in
set_option maxHeartbeats 2000000 in
theorem roomy_v (w : World) (B g c n cp : Nat) (l : List ValA) (h : w.ownsRow B 40 3 (.slice (some ⟨g, 0, none⟩) (n + 9) c) (n + 9) (vcs (l ++ roomsV 9))) (hl : l.length = n) :
    Calls Tryz.prog 22 #[.slice (some ⟨g, n * 3, none⟩) 9 cp] w fun e w' => e = .returned (.bool true) ∧ Keeps (fun _ => False) w w' := by
  have HO := hide h
  clear h
  go_enter Tryz.func22, Tryz.ntmps22
  go_wp2_with fail
  go_loopw [3] (fun i wr => ∃ k : Nat, k ≤ 9 ∧ i = .int .i64 k ∧ wr = w) (fun i _ => 9 - (intOf i).toNat)
  case atStart => exact ⟨0, by omega, rfl, rfl⟩
  case round =>
    obtain ⟨k, hk, rfl, rfl⟩ := hrel
    by_cases hlt : k < 9
    · obtain ⟨c0, c1, c2⟩ := val_marks (unhide HO) hl hlt
      have e0 : (n + k) * 3 = n * 3 + k * 3 := by omega
      rw [e0] at c0 c1 c2
      have i1 : (k : Int) < 9 := by omega
      clear e0
      go_wp2_with fail
      go_roundw
      case rel => exact ⟨k + 1, by omega, by go_num, trivial⟩
      case measure => simp [intOf]; omega
    · go_wp2_with fail
      go_ret
      exact ⟨rfl, Keeps.refl _ _⟩

set_option maxRecDepth 100000 in
set_option maxHeartbeats 2000000 in
theorem handed_v (w : World) (v : Value) (l : List ValA) (hR : ValsAt w v l) (hl : l.length ≤ 1073741824) :
    Calls Tryz.prog 12 #[v] w fun e w' => ∃ g cap, e = .returned (.tuple #[.slice (some ⟨g, 0, none⟩) l.length cap, .slice (some ⟨g, l.length * 3, none⟩) 9 (cap - l.length)]) ∧ w'.ownsRow w.heap.size 40 3 (.slice (some ⟨g, 0, none⟩) (l.length + 9) cap) (l.length + 9) (vcs (l ++ roomsV 9)) ∧ Keeps (fun _ => False) w w' := by
  obtain ⟨ao, cap, rfl⟩ := RowAt.form hR
  have HC := hide (copyVals_any w _ l hR (by omega))
  have HL := hide hl
  clear hR
  go_enter Tryz.func12, Tryz.ntmps12
  go_wp2_with fail
  refine (unhide HC).mono ?_
  rintro e w1 ⟨v1, rfl, ho1, hk1⟩
  have HO1 : Hid (w1.ownsRow w.heap.size 40 3 v1 (l.length + 0) (vcs (l ++ roomsV 0))) := by show World.ownsRow _ _ _ _ _ _ _; rw [show roomsV 0 = [] from rfl, List.append_nil]; exact ho1
  have HK1 := hide hk1
  clear ho1 hk1
  go_wp2_with fail
  go_loopw [4, 5] (fun o i wr => ∃ k : Nat, k ≤ 9 ∧ i = .int .i64 k ∧ Hid (wr.ownsRow w.heap.size 40 3 o (l.length + k) (vcs (l ++ roomsV k))) ∧ Hid (Keeps (fun _ => False) w wr)) (fun _ i _ => 9 - (intOf i).toNat)
  case atStart => exact ⟨0, by omega, rfl, HO1, HK1⟩
  case round =>
    obtain ⟨k, hk, rfl, HO, HK⟩ := hrel
    by_cases hlt : k < 9
    · have i1 : (k : Int) < 9 := by omega
      have HW : Hid (w.heap.size ≤ wr.heap.size) := (unhide HK).size
      have HFL := hide (val_lit wr 8 (k : Int) roomT)
      go_wp2_with (at_builtin; refine append_val rfl _ _ rfl w.heap.size u4 (l.length + k) _ rfl (own_alloc (unhide HO) _) wr.heap.size 1 ⟨8, (k : Int), roomT⟩ rfl (unhide HFL) (by have := unhide HL; omega) (Nat.le_trans (unhide HW) (by simp)) ?_; intro g cap' w' HG)
      go_roundw
      case rel =>
        refine ⟨k + 1, by omega, by go_num, ?_, narrowO ((unhide HK).trans ((Keeps.refl _ _).alloc _)) HG.keeps (fun q e => own_geO (unhide HO) e)⟩
        show World.ownsRow _ _ _ _ _ _ _
        rw [roomsV_succ, ← List.append_assoc, vcs_app]
        exact HG.own
      case measure => simp [intOf]; omega
    · obtain rfl : k = 9 := by omega
      obtain ⟨g, c, rfl, _, _⟩ := (unhide HO).form (by omega)
      have hcc := (rowAt_own (unhide HO)).room _ _ _ rfl
      have i0 : (l.length : Int) ≤ (c : Int) := by omega
      have i2 : (l.length : Int) ≤ (l.length : Int) + 9 := by omega
      have i3 : c ≠ l.length := by omega
      have i4 : l.length < c := by omega
      go_wp2_with fail
      go_quiet (fail)
      go_wp2_with fail
      go_ret2
      exact ⟨g, c, rfl, own_keepF (unhide HO) (keeps_drewN wr nq), (unhide HK).drewN nq⟩
end Go.Proofs.YtklkhegeeglfbaaGreatDoor
namespace Go.Proofs.YtklkhegeeglfbaaGreatDoor
open Go.RowKit Go.Maps

theorem vcs_setO : ∀ (L : List ValA) (i : Nat) (x : ValA), vcs (L.set i x) = (((vcs L).set (i * 3) (.int .i64 x.kind)).set (i * 3 + 1) (.int .i64 x.n)).set (i * 3 + 2) (str x.s)
  | [], i, x => by simp [vcs]
  | y :: r, 0, x => rfl
  | y :: r, i + 1, x => by
    have ih := vcs_setO r i x
    have e : ∀ (q : ValA) (z : List ValA), vcs (q :: z) = .int .i64 q.kind :: .int .i64 q.n :: str q.s :: vcs z := fun _ _ => rfl
    rw [List.set_cons_succ, e, e, ih, show (i + 1) * 3 = i * 3 + 1 + 1 + 1 by omega]
    simp [List.set_cons_succ]
theorem fcs_setO : ∀ (L : List FieldA) (i : Nat) (x : FieldA), fcs (L.set i x) = (((fcs L).set (i * 3) (str x.name)).set (i * 3 + 1) (.int .i64 x.type)).set (i * 3 + 2) (.bool x.opt)
  | [], i, x => by simp [fcs]
  | y :: r, 0, x => rfl
  | y :: r, i + 1, x => by
    have ih := fcs_setO r i x
    have e : ∀ (q : FieldA) (z : List FieldA), fcs (q :: z) = str q.name :: .int .i64 q.type :: .bool q.opt :: fcs z := fun _ _ => rfl
    rw [List.set_cons_succ, e, e, ih, show (i + 1) * 3 = i * 3 + 1 + 1 + 1 by omega]
    simp [List.set_cons_succ]
theorem bs_setO (l : Txt) (i : Nat) (c : UInt8) : bs (l.set i c) = (bs l).set i (.int .u8 (num c)) := by unfold bs; rw [List.map_set]
/-- Three cells of a row are written. -/
theorem own_set3 {w : World} {B e n g cap : Nat} {L : List ValA} (h : w.ownsRow B e 3 (.slice (some ⟨g, 0, none⟩) n cap) n (vcs L)) (i : Nat) (x : ValA) :
    (((w.setCell ⟨g, i * 3, none⟩ (.int .i64 x.kind)).setCell ⟨g, i * 3 + 1, none⟩ (.int .i64 x.n)).setCell ⟨g, i * 3 + 2, none⟩ (str x.s)).ownsRow B e 3 (.slice (some ⟨g, 0, none⟩) n cap) n (vcs (L.set i x)) := by
  rw [vcs_setO]
  exact (((h.stored (i * 3) (.int .i64 x.kind)).1.stored (i * 3 + 1) (.int .i64 x.n)).1.stored (i * 3 + 2) (str x.s)).1
theorem own_set3F {w : World} {B e n g cap : Nat} {L : List FieldA} (h : w.ownsRow B e 3 (.slice (some ⟨g, 0, none⟩) n cap) n (fcs L)) (i : Nat) (x : FieldA) :
    (((w.setCell ⟨g, i * 3, none⟩ (str x.name)).setCell ⟨g, i * 3 + 1, none⟩ (.int .i64 x.type)).setCell ⟨g, i * 3 + 2, none⟩ (.bool x.opt)).ownsRow B e 3 (.slice (some ⟨g, 0, none⟩) n cap) n (fcs (L.set i x)) := by
  rw [fcs_setO]
  exact (((h.stored (i * 3) (str x.name)).1.stored (i * 3 + 1) (.int .i64 x.type)).1.stored (i * 3 + 2) (.bool x.opt)).1
theorem keeps_put3 (w : World) (g o1 o2 o3 : Nat) (a b c : Value) : Keeps (fun q => q = g) w (((w.setCell ⟨g, o1, none⟩ a).setCell ⟨g, o2, none⟩ b).setCell ⟨g, o3, none⟩ c) :=
  ((keeps_set w g o1 a).trans (keeps_set _ g o2 b)).trans (keeps_set _ g o3 c)
/-- The cells of a row are there, and may be written. -/
theorem own_open {w : World} {B e z n g c : Nat} {xs : List Value} (h : w.ownsRow B e z (.slice (some ⟨g, 0, none⟩) n c) n xs) {j : Nat} (hj : j < n * z) : (∃ d, w.cell? ⟨g, j, none⟩ = some d) ∧ w.frozen? ⟨g, j, none⟩ = false :=
  ⟨⟨_, (World.ownsRow.cellAt h j hj).trans (List.getElem?_eq_getElem (by rw [h.1]; exact hj))⟩, World.ownsRow.frozenAt h _⟩

/-- What a kind of items is. -/
structure Kind where
  α : Type
  C : List α → List Value
  e : TypeId
  z : Nat
  hk : TypeId
  len : ∀ l, (C l).length = l.length * z
  app : ∀ a b, C (a ++ b) = C a ++ C b
  pos : 0 < z
  ne : e ≠ hk
def kV : Kind := ⟨ValA, vcs, 40, 3, 23, vcs_length, vcs_app, by decide, by decide⟩
def kF : Kind := ⟨FieldA, fcs, 69, 3, 24, fcs_length, fcs_app, by decide, by decide⟩
def kB : Kind := ⟨UInt8, bs, 5, 1, 30, fun l => by rw [bs_length]; omega, bs_app, by decide, by decide⟩

def upZ (i k : Nat) (f : Nat → Nat) (j : Nat) : Nat := if j < i then f j else if j = i then k else 0
theorem upZ_end (i : Nat) (f : Nat → Nat) (j : Nat) : upZ i (f i) f j = upZ (i + 1) 0 f j := by
  unfold upZ
  by_cases h : j < i
  · rw [if_pos h, if_pos (by omega)]
  · rw [if_neg h]
    by_cases h2 : j = i
    · rw [if_pos h2, if_pos (by omega), h2]
    · rw [if_neg h2, if_neg (by omega)]
      split <;> rfl
theorem upZ_self (i k : Nat) (f : Nat → Nat) : upZ i k f i = k := by unfold upZ; rw [if_neg (by omega), if_pos rfl]
theorem upZ_ne {i k k' : Nat} {f : Nat → Nat} {j : Nat} (h : j ≠ i) : upZ i k' f j = upZ i k f j := by
  unfold upZ
  rw [if_neg h, if_neg h]
theorem upZ_zero (f : Nat → Nat) (j : Nat) : upZ 0 0 f j = 0 := by unfold upZ; split; omega; split <;> rfl
theorem upZ_below {i k : Nat} {f : Nat → Nat} {j : Nat} (h : j < i) : upZ i k f j = f j := by unfold upZ; rw [if_pos h]
def lenZ {α : Type} (ps : List (List α)) (j : Nat) : Nat := (ps.getD j []).length
theorem lenZ_at {α : Type} {ps : List (List α)} {j : Nat} {p : List α} (h : ps[j]? = some p) : lenZ ps j = p.length := by
  unfold lenZ
  rw [List.getD_eq_getElem?_getD, h]
  rfl
/-- Rows of a kind, each as its head tells it. -/
def solos (K : Kind) (hs : List Value) (ps : List (List K.α)) : List Rowp := List.zipWith (fun h p => solo K.e K.z p.length h (K.C p)) hs ps
theorem solos_get {K : Kind} {hs : List Value} {ps : List (List K.α)} {j : Nat} {h : Value} {p : List K.α} (h1 : hs[j]? = some h) (h2 : ps[j]? = some p) : (solos K hs ps)[j]? = some (solo K.e K.z p.length h (K.C p)) := by
  unfold solos
  rw [List.getElem?_zipWith, h1, h2]
theorem solos_app {K : Kind} {hs hs' : List Value} {ps ps' : List (List K.α)} (h : hs.length = ps.length) : solos K (hs ++ hs') (ps ++ ps') = solos K hs ps ++ solos K hs' ps' := by
  unfold solos
  exact List.zipWith_append h
/-- What may be written: what is new, and rows of the kind. -/
def FZ (K : Kind) (w : World) (B q : Nat) : Prop := B ≤ q ∧ (q < w.heap.size → ∃ c, w.heap[q]? = some (.cells c K.e (0, 0)))
theorem FZ.of_typed {K : Kind} {w wr : World} {B q : Nat} (hk : Keeps (FZ K w B) w wr) (hB : B ≤ q) (ht : ∃ c, wr.heap[q]? = some (.cells c K.e (0, 0))) : FZ K w B q := ⟨hB, fun hlt => by
  by_cases hF : FZ K w B q
  · exact hF.2 hlt
  · obtain ⟨c, hc⟩ := ht
    exact ⟨c, by rw [← hk.block q hlt hF]; exact hc⟩⟩
/-- Rows of another kind stand. -/
theorem Sack.keepZ {K : Kind} {w w' : World} {B C : Nat} {L : List Rowp} (h : Sack w B L) (hk : Keeps (FZ K w C) w w') (hL : ∀ p ∈ L, p.e ≠ K.e) : Sack w' B L :=
  h.keep hk fun p hp b hb f => by
    obtain ⟨c, hc⟩ := f.2 (h.lt hp hb).2
    obtain ⟨d, hd⟩ := (h.all p hp).typed hb
    rw [hc] at hd
    simp only [Option.some.injEq, Obj.cells.injEq] at hd
    exact hL p hp hd.2.1.symm
/-- Lists, each with a mark in its first items. -/
structure MkZ (K : Kind) (w wr : World) (B : Nat) (v : Value) (hs : List Value) (ps : List (List K.α)) (mk : Nat → K.α) (t : Nat → Nat) (its : List Rowp) : Prop where
  row : wr.ownsRow B K.hk 1 v ps.length hs
  sack : Sack wr B its
  each : ∀ (j : Nat) (h : Value) (p : List K.α), hs[j]? = some h → ps[j]? = some p → its[j]? = some (solo K.e K.z p.length h (K.C (overL p (mk j) (t j))))
  keeps : Keeps (FZ K w B) w wr
  kind : ∀ p ∈ its, p.e = K.e
theorem kind_set {e : TypeId} {its : List Rowp} (h : ∀ p ∈ its, p.e = e) (i : Nat) (x : Rowp) (hx : x.e = e) : ∀ p ∈ its.set i x, p.e = e := by
  intro p hp
  rcases List.mem_or_eq_of_mem_set hp with hp | rfl
  · exact h p hp
  · exact hx
theorem solos_kind {K : Kind} : ∀ (hs : List Value) (ps : List (List K.α)), ∀ p ∈ solos K hs ps, p.e = K.e := by
  intro hs ps p hp
  unfold solos at hp
  obtain ⟨j, hj⟩ := List.mem_iff_getElem?.1 hp
  rw [List.getElem?_zipWith] at hj
  split at hj
  · simp at hj
    rw [← hj]
    rfl
  · cases hj
section
variable {K : Kind} {w wr w' : World} {B : Nat} {v : Value} {hs : List Value} {ps : List (List K.α)} {mk : Nat → K.α} {t t' u u' : Nat → Nat} {its : List Rowp} {mv : Value} {ms : List Value}
theorem MkZ.start {L : List Rowp} (hr : w.ownsRow B K.hk 1 v ps.length hs) (hb : Sack w B (solos K hs ps ++ L)) : MkZ K w w B v hs ps mk (fun _ => 0) (solos K hs ps) :=
  ⟨hr, hb.left, fun j h p h1 h2 => by rw [solos_get h1 h2, overL_zero], Keeps.refl _ _, solos_kind hs ps⟩
theorem MkZ.same (h : MkZ K w wr B v hs ps mk t its) (ht : ∀ j p, ps[j]? = some p → t j = t' j) : MkZ K w wr B v hs ps mk t' its :=
  ⟨h.row, h.sack, fun j x p h1 h2 => by rw [← ht j p h2]; exact h.each j x p h1 h2, h.keeps, h.kind⟩
theorem MkZ.lens (h : MkZ K w wr B v hs ps mk t its) : hs.length = ps.length := by have := h.row.1; omega
theorem MkZ.cell (h : MkZ K w wr B v hs ps mk t its) {g c i : Nat} {x : Value} (hv : v = .slice (some ⟨g, 0, none⟩) ps.length c) (h1 : hs[i]? = some x) : wr.cell? ⟨g, i, none⟩ = some x := by
  subst hv
  exact own_at h.row h1
theorem MkZ.head (h : MkZ K w wr B v hs ps mk t its) {i : Nat} {x : Value} {p : List K.α} (h1 : hs[i]? = some x) (h2 : ps[i]? = some p) : wr.ownsRow B K.e K.z x p.length (K.C (overL p (mk i) (t i))) :=
  (h.sack.all _ (List.mem_of_getElem? (h.each i x p h1 h2))).x
theorem MkZ.put (h : MkZ K w wr B v hs ps mk t its) {i : Nat} {x : Value} {p : List K.α} (h1 : hs[i]? = some x) (h2 : ps[i]? = some p) (ht : t i < p.length) (ht' : t' i = t i + 1) (hto : ∀ j, j ≠ i → t' j = t j)
    (hw : w'.ownsRow B K.e K.z x p.length (K.C ((overL p (mk i) (t i)).set (t i) (mk i)))) (hk : Keeps (fun q => x.ownBlock = some q) wr w') :
    MkZ K w w' B v hs ps mk t' (its.set i (solo K.e K.z p.length x (K.C (overL p (mk i) (t i + 1))))) := by
  have he := h.each i _ p h1 h2
  rw [overL_set ht] at hw
  have hb := h.sack.putAt he hw hk
  have hx := h.head h1 h2
  have hil := get_lt he
  refine ⟨ownsRow_kept h.row hk (fun q e f => own_apart hx h.row K.ne q f e), hb, fun j y p' h3 h4 => ?_, h.keeps.trans (hk.mono (fun q _ e => FZ.of_typed h.keeps (own_geO hx e) (own_typed hx e).2)), kind_set h.kind _ _ rfl⟩
  by_cases hj : j = i
  · subst hj
    rw [h1] at h3
    rw [h2] at h4
    cases h3
    cases h4
    rw [List.getElem?_set_self hil, ht']
  · rw [List.getElem?_set_ne (fun e => hj e.symm), hto j hj]
    exact h.each j y p' h3 h4
theorem MkZ.round {vo : Option Addr} {vc i : Nat} (h : MkZ K w wr B (.slice vo ps.length vc) hs ps mk t its) (hi : i < ps.length) : ∃ (g : Nat) (p : List K.α) (xo : Option Addr) (xc : Nat), vo = some ⟨g, 0, none⟩ ∧ ps[i]? = some p ∧ hs[i]? = some (.slice xo p.length xc) ∧ p.length ≤ xc ∧ (0 < p.length → ∃ b, xo = some ⟨b, 0, none⟩) := by
  obtain ⟨g, c, e, _, _⟩ := h.row.form (by omega)
  simp at e
  obtain ⟨p, hp⟩ : ∃ p, ps[i]? = some p := ⟨_, List.getElem?_eq_getElem hi⟩
  obtain ⟨x, hx⟩ : ∃ x, hs[i]? = some x := ⟨_, List.getElem?_eq_getElem (by rw [h.lens]; exact hi)⟩
  have hb := h.head hx hp
  obtain ⟨xo, xc, rfl⟩ := (rowAt_own hb).form
  refine ⟨g, p, xo, xc, e.1, hp, hx, (rowAt_own hb).room _ _ _ rfl, fun h0 => ?_⟩
  obtain ⟨b, cap, e, _⟩ := hb.form h0
  simp at e
  exact ⟨b, e.1⟩
def fullZ (K : Kind) (mk : Nat → K.α) (j : Nat) (p : List K.α) : List K.α := List.replicate p.length (mk j)
/-- Lists, marked throughout, and what has grown out of them. -/
structure GwZ (K : Kind) (w wr : World) (B : Nat) (v : Value) (hs : List Value) (ps : List (List K.α)) (mk nk : Nat → K.α) (u : Nat → Nat) (mv : Value) (ms : List Value) (its : List Rowp) : Prop where
  row : wr.ownsRow B K.hk 1 v ps.length hs
  old : ∀ q, v.ownBlock = some q → q < w.heap.size
  mrow : wr.ownsRow w.heap.size K.hk 1 mv ms.length ms
  sack : Sack wr B its
  each : ∀ (j : Nat) (h : Value) (p : List K.α), hs[j]? = some h → ps[j]? = some p → ∃ vm, its[j]? = some ⟨K.e, K.z, p.length, h, K.C (fullZ K mk j p), u j, vm, K.C (List.replicate (u j) (nk j))⟩ ∧ (j < ms.length → ms[j]? = some vm) ∧ (u j = 0 → vm = h)
  keeps : Keeps (FZ K w B) w wr
  kind : ∀ p ∈ its, p.e = K.e
variable {nk : Nat → K.α}
theorem GwZ.start (h : MkZ K w wr B v hs ps mk t its) (h0 : w.ownsRow B K.hk 1 v ps.length hs) (ht : ∀ j p, ps[j]? = some p → t j = p.length) : GwZ K w wr B v hs ps mk nk (fun _ => 0) (.slice none 0 0) [] its :=
  ⟨h.row, fun q e => own_lt h0 e, World.ownsRow_nil _ _ K.hk 1, h.sack, fun j x p h1 h2 => by
    have := h.each j x p h1 h2
    rw [ht j p h2, overL_end] at this
    have hn : K.C ([] : List K.α) = [] := List.eq_nil_of_length_eq_zero (by rw [K.len]; simp)
    refine ⟨x, ?_, fun e => by simp at e, fun _ => rfl⟩
    rw [this]
    unfold solo fullZ
    simp [hn], h.keeps, h.kind⟩
theorem GwZ.lens (h : GwZ K w wr B v hs ps mk nk u mv ms its) : hs.length = ps.length := by have := h.row.1; omega
theorem GwZ.same (h : GwZ K w wr B v hs ps mk nk u mv ms its) (hu : ∀ j, j < ps.length → u j = u' j) : GwZ K w wr B v hs ps mk nk u' mv ms its :=
  ⟨h.row, h.old, h.mrow, h.sack, fun j x p h1 h2 => by rw [← hu j (get_lt h2)]; exact h.each j x p h1 h2, h.keeps, h.kind⟩
theorem GwZ.cell (h : GwZ K w wr B v hs ps mk nk u mv ms its) {g c i : Nat} {x : Value} (hv : v = .slice (some ⟨g, 0, none⟩) ps.length c) (h1 : hs[i]? = some x) : wr.cell? ⟨g, i, none⟩ = some x := by
  subst hv
  exact own_at h.row h1
theorem GwZ.round {vo : Option Addr} {vc i : Nat} (h : GwZ K w wr B (.slice vo ps.length vc) hs ps mk nk u mv ms its) (hi : i < ps.length) (hu : u i = 0) : ∃ (g : Nat) (p : List K.α) (xo : Option Addr) (xc : Nat), vo = some ⟨g, 0, none⟩ ∧ ps[i]? = some p ∧ hs[i]? = some (.slice xo p.length xc) ∧ its[i]? = some ⟨K.e, K.z, p.length, .slice xo p.length xc, K.C (fullZ K mk i p), 0, .slice xo p.length xc, K.C (List.replicate 0 (nk i))⟩ := by
  obtain ⟨g, c, e, _, _⟩ := h.row.form (by omega)
  simp at e
  obtain ⟨p, hp⟩ : ∃ p, ps[i]? = some p := ⟨_, List.getElem?_eq_getElem hi⟩
  obtain ⟨x, hx⟩ : ∃ x, hs[i]? = some x := ⟨_, List.getElem?_eq_getElem (by rw [h.lens]; exact hi)⟩
  obtain ⟨vm, e1, _, e3⟩ := h.each i x p hx hp
  obtain rfl := e3 hu
  have hb : wr.ownsRow B K.e K.z vm p.length (K.C (fullZ K mk i p)) := (h.sack.all _ (List.mem_of_getElem? e1)).x
  obtain ⟨xo, xc, rfl⟩ := (rowAt_own hb).form
  rw [hu] at e1
  exact ⟨g, p, xo, xc, e.1, hp, hx, e1⟩
theorem GwZ.grow {i m g cap k : Nat} {o : Obj} {x lv : Value} {p : List K.α} (h : GwZ K w wr B v hs ps mk nk u mv ms its) (h1 : hs[i]? = some x) (h2 : ps[i]? = some p) (hi : its[i]? = some ⟨K.e, K.z, p.length, x, K.C (fullZ K mk i p), k, lv, K.C (List.replicate k (nk i))⟩) (hm : ms.length ≤ i) (hu : u' i = k + 1) (huo : ∀ j, j ≠ i → u' j = u j) (hm1 : m = 1)
    (hG : GrewZ (wr.alloc o) w' B K.e K.z (p.length + k) m lv g cap (K.C (fullZ K mk i p) ++ K.C (List.replicate k (nk i))) (K.C [nk i])) :
    GwZ K w w' B v hs ps mk nk u' mv ms (its.set i ⟨K.e, K.z, p.length, x, K.C (fullZ K mk i p), k + 1, .slice (some ⟨g, 0, none⟩) (p.length + k + 1) cap, K.C (List.replicate (k + 1) (nk i))⟩) ∧
      (its.set i ⟨K.e, K.z, p.length, x, K.C (fullZ K mk i p), k + 1, .slice (some ⟨g, 0, none⟩) (p.length + k + 1) cap, K.C (List.replicate (k + 1) (nk i))⟩)[i]? = some ⟨K.e, K.z, p.length, x, K.C (fullZ K mk i p), k + 1, .slice (some ⟨g, 0, none⟩) (p.length + k + 1) cap, K.C (List.replicate (k + 1) (nk i))⟩ := by
  subst hm1
  have hka : Keeps (fun _ => False) wr (wr.alloc o) := (Keeps.refl _ _).alloc _
  have hil := get_lt hi
  have hs0 := h.sack.keepF hka
  have hb := hs0.growAt hi hG
  rw [← K.app, ← List.replicate_succ'] at hb
  have hlv := (hs0.all _ (List.mem_of_getElem? hi)).m
  have hrow : (wr.alloc o).ownsRow B K.hk 1 v ps.length hs := own_keepF h.row hka
  have hmrow : (wr.alloc o).ownsRow w.heap.size K.hk 1 mv ms.length ms := own_keepF h.mrow hka
  refine ⟨⟨ownsRow_kept hrow hG.keeps (fun q e f => own_apart hlv hrow K.ne q f e), h.old, ownsRow_kept hmrow hG.keeps (fun q e f => own_apart hlv hmrow K.ne q f e), hb, fun j y p' h3 h4 => ?_, (h.keeps.trans hka.any).trans (hG.keeps.mono (fun q _ e => FZ.of_typed (h.keeps.trans hka.any) (own_geO hlv e) (own_typed hlv e).2)), kind_set h.kind _ _ rfl⟩, List.getElem?_set_self hil⟩
  by_cases hj : j = i
  · subst hj
    rw [h1] at h3
    rw [h2] at h4
    cases h3
    cases h4
    refine ⟨_, by rw [List.getElem?_set_self hil, hu], fun e => by omega, fun e => by omega⟩
  · rw [List.getElem?_set_ne (fun e => hj e.symm), huo j hj]
    exact h.each j y p' h3 h4
theorem GwZ.more {i g cap k : Nat} {o : Obj} {x lv : Value} {p : List K.α} (h : GwZ K w wr B v hs ps mk nk u mv ms its) (hi : its[i]? = some ⟨K.e, K.z, p.length, x, K.C (fullZ K mk i p), k, lv, K.C (List.replicate k (nk i))⟩) (hm : ms.length = i)
    (hG : GrewZ (wr.alloc o) w' w.heap.size K.hk 1 ms.length 1 mv g cap ms [lv]) (hB : B ≤ w.heap.size) : GwZ K w w' B v hs ps mk nk u (.slice (some ⟨g, 0, none⟩) (ms.length + 1) cap) (ms ++ [lv]) its := by
  have hka : Keeps (fun _ => False) wr (wr.alloc o) := (Keeps.refl _ _).alloc _
  have hrow : (wr.alloc o).ownsRow B K.hk 1 v ps.length hs := own_keepF h.row hka
  have hmrow : (wr.alloc o).ownsRow w.heap.size K.hk 1 mv ms.length ms := own_keepF h.mrow hka
  have hs0 := h.sack.keepF hka
  refine ⟨ownsRow_kept hrow hG.keeps (fun q e f => ?_), h.old, by rw [List.length_append]; exact hG.own, hs0.keep hG.keeps (fun q hq b hb e => ?_), fun j y p' h3 h4 => ?_, (h.keeps.trans hka.any).trans (hG.keeps.mono (fun q _ e => by have := own_geO hmrow e; exact ⟨by omega, fun h => by omega⟩)), h.kind⟩
  · have := h.old q e
    have := own_geO hmrow f
    omega
  · obtain ⟨c1, hc1⟩ := (hs0.all q hq).typed hb
    obtain ⟨_, c2, hc2⟩ := own_typed hmrow e
    rw [hc1, h.kind q hq] at hc2
    simp only [Option.some.injEq, Obj.cells.injEq] at hc2
    exact K.ne hc2.2.1
  · obtain ⟨vm, e1, e2, e3⟩ := h.each j y p' h3 h4
    refine ⟨vm, e1, fun hl => ?_, e3⟩
    rw [List.length_append, List.length_singleton] at hl
    by_cases hj : j = ms.length
    · subst hm
      subst hj
      rw [hi] at e1
      simp only [Option.some.injEq, Rowp.mk.injEq] at e1
      rw [List.getElem?_append_right (Nat.le_refl _), Nat.sub_self, e1.2.2.2.2.2.2.1]
      rfl
    · rw [List.getElem?_append_left (by omega)]
      exact e2 (by omega)
/-- What is told of a list and what grew out of it. -/
theorem GwZ.ends {i : Nat} {x : Value} {p : List K.α} (h : GwZ K w wr B v hs ps mk nk u mv ms its) (h1 : hs[i]? = some x) (h2 : ps[i]? = some p) (hu : u i = 64) (hm : i < ms.length) :
    ∃ (xo : Option Addr) (xc g c : Nat), x = .slice xo p.length xc ∧ ms[i]? = some (.slice (some ⟨g, 0, none⟩) (p.length + 64) c) ∧ p.length ≤ xc ∧ p.length + 64 ≤ c ∧
      wr.ownsRow B K.e K.z (.slice xo p.length xc) p.length (K.C (fullZ K mk i p)) ∧ wr.ownsRow B K.e K.z (.slice (some ⟨g, 0, none⟩) (p.length + 64) c) (p.length + 64) (K.C (fullZ K mk i p ++ List.replicate 64 (nk i))) := by
  obtain ⟨vm, e1, e2, _⟩ := h.each i x p h1 h2
  have hx := (h.sack.all _ (List.mem_of_getElem? e1)).x
  have hy := (h.sack.all _ (List.mem_of_getElem? e1)).m
  simp only at hx hy
  rw [hu, ← K.app] at hy
  obtain ⟨xo, xc, rfl⟩ := (rowAt_own hx).form
  obtain ⟨g, c, rfl, _, _⟩ := hy.form (by omega)
  exact ⟨xo, xc, g, c, rfl, e2 hm, (rowAt_own hx).room _ _ _ rfl, (rowAt_own hy).room _ _ _ rfl, hx, hy⟩
end
end Go.Proofs.YtklkhegeeglfbaaGreatDoor
