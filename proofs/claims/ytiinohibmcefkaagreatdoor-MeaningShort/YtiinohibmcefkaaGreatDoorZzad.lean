import Derived.Test.YtiinohibmcefkaaGreatDoorZzaa
import Derived.Test.YtiinohibmcefkaaGreatDoorZzab
import Derived.Test.YtiinohibmcefkaaGreatDoorZzac
import Derived.Handy
import Derived.Test.YtiinohibmcefkaaGreatDoorZzat
import Derived.Deep.RegionLaw
import Derived.Deep.AppendLies
import Derived.Maps.AppendAt
namespace Go.Proofs.YtiinohibmcefkaaGreatDoor
open Go.RowKit Go.Maps
def numV (n : Int) : ValA := ⟨1, n, []⟩
def truV (b : Bool) : ValA := ⟨2, if b then 1 else 0, []⟩
def bytV (s : Txt) : ValA := ⟨3, 0, s⟩
def zV : ValA := ⟨0, 0, []⟩
/-- The order of two values: by their numbers, then bytewise. -/
def cmpI (a b : Int) : Int := if a < b then -1 else if b < a then 1 else 0
def cmpT (a b : Txt) : Int := if Op.bytesLess a b then -1 else if a = b then 0 else 1
def ordV (a b : ValA) : Int := if cmpI a.n b.n = 0 then cmpT a.s b.s else cmpI a.n b.n
def catT (a b : Txt) : Txt := (a ++ b).take 20
/-- A value as it may stand on the stack. -/
def goodV (v : ValA) : Prop := (v.kind = 1 ∧ v.s = []) ∨ (v.kind = 2 ∧ (v.n = 0 ∨ v.n = 1) ∧ v.s = []) ∨ (v.kind = 3 ∧ v.n = 0 ∧ v.s.length ≤ 20)
theorem goodV_fits {v : ValA} (h : goodV v) {f : FieldA} (hk : v.kind = f.type) : fitsB f v = true := by
  obtain ⟨k, n, s⟩ := v
  unfold fitsB
  rcases h with ⟨h1, h2⟩ | ⟨h1, h2, h3⟩ | ⟨h1, h2, h3⟩ <;> simp only at h1 h2 hk ⊢ <;> subst h1
  · simp [h2, ← hk]
  · simp only at h3; simp [h2, h3, ← hk]
  · simp only at h3; simp [h2, h3, ← hk]
theorem fits_good {v : ValA} {f : FieldA} (h : fitsB f v = true) (h0 : v.kind ≠ 0) : goodV v ∧ v.kind = f.type := by
  obtain ⟨k, n, s⟩ := v
  unfold fitsB at h
  unfold goodV
  simp only at h h0 ⊢
  rw [if_neg h0] at h
  by_cases h1 : k = f.type
  · rw [if_neg (fun q => q h1)] at h
    refine ⟨?_, h1⟩
    split at h
    · exact Or.inl ⟨‹_›, by simpa using h⟩
    · split at h
      · simp at h; exact Or.inr (Or.inl ⟨‹_›, h.1, h.2⟩)
      · split at h
        · simp at h; exact Or.inr (Or.inr ⟨‹_›, h.1, h.2⟩)
        · cases h
  · rw [if_pos h1] at h; cases h
theorem good_num (n : Int) : goodV (numV n) := Or.inl ⟨rfl, rfl⟩
theorem good_tru (b : Bool) : goodV (truV b) := Or.inr (Or.inl ⟨rfl, by cases b <;> simp [truV], rfl⟩)
theorem good_byt {s : Txt} (h : s.length ≤ 20) : goodV (bytV s) := Or.inr (Or.inr ⟨rfl, rfl, h⟩)
theorem cat_len (a b : Txt) : (catT a b).length ≤ 20 := by unfold catT; simp; omega
theorem kAlloc (w : World) (o : Obj) : Keeps (fun _ => False) w (w.alloc o) := (Keeps.refl _ _).alloc _
theorem isTrue_v (v : ValA) (w : World) : Calls Tryz.prog 132 #[v.v] w fun e w' => e = .returned (.bool (decide (v.n = 1))) ∧ Keeps (fun _ => False) w w' := by
  obtain ⟨k, n, s⟩ := v
  unfold ValA.v
  go_enter Tryz.func132, Tryz.ntmps132
  go_wp2
  all_goals (go_ret; refine ⟨ret_bool ?_, kAlloc _ _⟩; first | rfl | simp_all)
theorem number_v (n : Int) (w : World) : Calls Tryz.prog 77 #[.int .i64 n] w fun e w' => e = .returned (numV n).v ∧ Keeps (fun _ => False) w w' := by
  go_enter Tryz.func77, Tryz.ntmps77
  go_wp2_with fail
  go_returns
  exact ⟨rfl, kAlloc _ _⟩
theorem text_v (s : Txt) (w : World) : Calls Tryz.prog 79 #[str s] w fun e w' => e = .returned (bytV s).v ∧ Keeps (fun _ => False) w w' := by
  go_enter Tryz.func79, Tryz.ntmps79
  go_wp2_with fail
  go_returns
  exact ⟨rfl, kAlloc _ _⟩
theorem truth_v (b : Bool) (w : World) : Calls Tryz.prog 78 #[.bool b] w fun e w' => e = .returned (truV b).v ∧ Keeps (fun _ => False) w w' := by
  cases b
  all_goals
    go_enter Tryz.func78, Tryz.ntmps78
    go_wp2_with fail
    go_returns
    exact ⟨rfl, kAlloc _ _⟩
theorem nanI_v (n : Int) (w : World) : Calls Tryz.prog 216 #[.int .i64 n] w fun e w' => e = .returned (.bool false) ∧ w' = w := by
  go_enter Tryz.func216, Tryz.ntmps216
  go_wp2
  all_goals (go_ret; exact ⟨by simp, rfl⟩)
theorem nanT_v (s : Txt) (w : World) : Calls Tryz.prog 217 #[str s] w fun e w' => e = .returned (.bool false) ∧ w' = w := by
  go_enter Tryz.func217, Tryz.ntmps217
  go_wp2
  all_goals (go_ret; exact ⟨by simp, rfl⟩)
set_option maxRecDepth 100000 in
theorem compareI_v (a b : Int) (w : World) : Calls Tryz.prog 192 #[.int .i64 a, .int .i64 b] w fun e w' => e = .returned (.int .i64 (cmpI a b)) ∧ Keeps (fun _ => False) w w' := by
  have HA := hide (fun (W : World) => nanI_v a W)
  have HB := hide (fun (W : World) => nanI_v b W)
  go_enter Tryz.func192, Tryz.ntmps192
  go_wp2_with fail
  refine ((unhide HA) _).mono ?_
  rintro e w1 ⟨rfl, rfl⟩
  go_wp2_with fail
  refine ((unhide HB) _).mono ?_
  rintro e w2 ⟨rfl, rfl⟩
  go_wp2_with fail
  all_goals (go_ret; exact ⟨ret_int (by unfold cmpI; repeat' split <;> omega), Keeps.refl _ _⟩)
set_option maxRecDepth 100000 in
theorem compareT_v (a b : Txt) (w : World) : Calls Tryz.prog 193 #[str a, str b] w fun e w' => e = .returned (.int .i64 (cmpT a b)) ∧ Keeps (fun _ => False) w w' := by
  have HA := hide (fun (W : World) => nanT_v a W)
  have HB := hide (fun (W : World) => nanT_v b W)
  go_enter Tryz.func193, Tryz.ntmps193
  go_wp2_with fail
  refine ((unhide HA) _).mono ?_
  rintro e w1 ⟨rfl, rfl⟩
  go_wp2_with fail
  refine ((unhide HB) _).mono ?_
  rintro e w2 ⟨rfl, rfl⟩
  go_wp2_with fail
  all_goals (go_ret; exact ⟨ret_int (by unfold cmpT; repeat' split <;> simp_all), Keeps.refl _ _⟩)
set_option maxRecDepth 100000 in
set_option maxHeartbeats 1000000 in
theorem orInt_v (es : List Int) (v : Value) (w : World) (h : IntsAt w v es) (hl : es.length ≤ 1000) :
    Calls Tryz.prog 191 #[v] w fun e w' => e = .returned (.int .i64 (orL es)) ∧ w' = w := by
  obtain ⟨ao, cap, rfl⟩ := RowAt.form h
  have HF := hide h
  clear h
  go_enter Tryz.func191, Tryz.ntmps191
  go_wp2_with fail
  go_loopw [8] (fun i wr => ∃ k : Nat, k ≤ es.length ∧ i = .int .i64 k ∧ Hid (orL (es.drop k) = orL es) ∧ wr = w) (fun i _ => es.length - (intOf i).toNat)
  case atStart => exact ⟨0, Nat.zero_le _, rfl, by simp [Hid], rfl⟩
  case round =>
    obtain ⟨k, hk, rfl, HS, rfl⟩ := hrel
    cases h : es[k]? with
    | none =>
      have h1 := get_ge h
      obtain rfl : k = es.length := by omega
      clear h h1
      rw [List.drop_length] at HS
      have i1 : ¬ (es.length : Int) < (es.length : Int) := by omega
      go_wp2_with fail
      go_ret
      exact ⟨ret_int (unhide HS), rfl⟩
    | some x =>
      have h1 := get_lt h
      obtain ⟨b, off, c, e, hbl, hc⟩ := (unhide HF).cells (by omega)
      simp at e
      obtain ⟨rfl, rfl⟩ := e
      have c0 := hc k x h
      have HO : Hid (orL (es.drop k) = if x = 0 then orL (es.drop (k + 1)) else x) := by
        obtain ⟨hk', hx⟩ := List.getElem?_eq_some_iff.1 h
        show _ = _
        rw [List.drop_eq_getElem_cons hk', hx]
        rfl
      clear h hc
      have i1 : (k : Int) < (es.length : Int) := by omega
      have i0 : (0 : Int) ≤ (k : Int) := by omega
      by_cases hx : x = 0
      · subst hx
        rw [if_pos rfl] at HO
        go_wp2_with fail
        go_roundw
        case rel => exact ⟨k + 1, by omega, by go_num, (unhide HO).symm.trans (unhide HS), by trivial⟩
        case measure => simp [intOf]; omega
      · rw [if_neg hx] at HO
        go_wp2_with fail
        go_ret
        exact ⟨ret_int ((unhide HO).symm.trans (unhide HS)), rfl⟩
theorem ks_two (w : World) (X Y : Int) : IntsAt (w.alloc (.cells #[.int .i64 X, .int .i64 Y] 3)) (.slice (some ⟨w.heap.size, 0, none⟩) 2 2) [X, Y] :=
  rowAt_own (World.ownsRow_lit (base := 0) (e := 3) (size := 1) w #[.int .i64 X, .int .i64 Y] 2 (Nat.zero_le _) (by unfold maxLen; omega) rfl)
set_option maxHeartbeats 2000000 in
set_option maxRecDepth 100000 in
theorem order_v (a b : ValA) (w : World) : Calls Tryz.prog 125 #[a.v, b.v] w fun e w' => e = .returned (.int .i64 (ordV a b)) ∧ Keeps (fun _ => False) w w' := by
  have HA := hide (fun (W : World) => compareI_v a.n b.n W)
  have HB := hide (fun (W : World) => compareT_v a.s b.s W)
  have HO : Hid (ordV a b = orL [cmpI a.n b.n, cmpT a.s b.s]) := by
    show _ = _
    unfold ordV orL orL orL
    split
    · split
      · simp_all
      · rfl
    · rfl
  generalize ordV a b = R at *
  generalize cmpI a.n b.n = X at *
  generalize cmpT a.s b.s = Y at *
  obtain ⟨ak, an, ax⟩ := a
  obtain ⟨bk, bn, bx⟩ := b
  unfold ValA.v
  simp only at *
  have HA1 := hide (kAlloc w (.cells #[.int .i64 ak, .int .i64 an, str ax] 41))
  have HA2 := hide (kAlloc (w.alloc (.cells #[.int .i64 ak, .int .i64 an, str ax] 41)) (.cells #[.int .i64 bk, .int .i64 bn, str bx] 41))
  have hX2 := heap_alloc_new (w.alloc (.cells #[.int .i64 ak, .int .i64 an, str ax] 41)) (.cells #[.int .i64 bk, .int .i64 bn, str bx] 41)
  rw [show (w.alloc (.cells #[.int .i64 ak, .int .i64 an, str ax] 41)).heap.size = w.heap.size + 1 by simp] at hX2
  have hX1 := heap_alloc_new w (.cells #[.int .i64 ak, .int .i64 an, str ax] 41)
  have hX3 := ((unhide HA2).block w.heap.size (lt_of_block hX1) id).trans hX1
  have HKA := hide ((unhide HA1).trans (unhide HA2))
  clear HA1 HA2 hX1
  go_enter Tryz.func125, Tryz.ntmps125
  go_wp2_with fail
  generalize (w.alloc (.cells #[.int .i64 ak, .int .i64 an, str ax] 41)).alloc (.cells #[.int .i64 bk, .int .i64 bn, str bx] 41) = W at *
  have p1 : w.heap.size < W.heap.size := lt_of_block hX3
  have p2 : w.heap.size + 1 < W.heap.size := lt_of_block hX2
  have a1 : W.cell? ⟨w.heap.size, 1, none⟩ = some (.int .i64 an) := (cell_of_blk hX3 _).trans rfl
  have a2 : W.cell? ⟨w.heap.size, 2, none⟩ = some (str ax) := (cell_of_blk hX3 _).trans rfl
  have b1 : W.cell? ⟨w.heap.size + 1, 1, none⟩ = some (.int .i64 bn) := (cell_of_blk hX2 _).trans rfl
  have b2 : W.cell? ⟨w.heap.size + 1, 2, none⟩ = some (str bx) := (cell_of_blk hX2 _).trans rfl
  have HD := hide (Keeps.refl (fun _ => False) W).drew
  clear hX3 hX2
  go_region_held3 (fun w' => w'.cell? ⟨w.heap.size, 1, none⟩ = some (.int .i64 an) ∧ w'.cell? ⟨w.heap.size, 2, none⟩ = some (str ax) ∧ w'.cell? ⟨w.heap.size + 1, 1, none⟩ = some (.int .i64 bn) ∧ w'.cell? ⟨w.heap.size + 1, 2, none⟩ = some (str bx))
    (first | with_reducible exact c31 | with_reducible exact c32 | with_reducible exact d31 | with_reducible exact d32 | with_reducible exact c21 | with_reducible exact c22 | with_reducible exact d21 | with_reducible exact d22 | (go_keep; done) | assumption)
    (first
      | (go_at_call 191; refine (orInt_v [X, Y] _ _ (ks_two w3 X Y) (by simp)).mono ?_; rintro e w4 ⟨rfl, rfl⟩)
      | (go_at_call 193; refine ((unhide HB) _).mono ?_; rintro e w3 ⟨rfl, hk3⟩; have r1 := Nat.lt_of_lt_of_le q1 hk3.size; have r2 := Nat.lt_of_lt_of_le q2 hk3.size; have c31 := (hk3.cell (o := 1) q1 id).trans c21; have c32 := (hk3.cell (o := 2) q1 id).trans c22; have d31 := (hk3.cell (o := 1) q2 id).trans d21; have d32 := (hk3.cell (o := 2) q2 id).trans d22)
      | (go_at_call 192; refine ((unhide HA) _).mono ?_; rintro e w2 ⟨rfl, hk2⟩; have q1 := Nat.lt_of_lt_of_le (Nat.lt_of_lt_of_le p1 (unhide HD).size) hk2.size; have q2 := Nat.lt_of_lt_of_le (Nat.lt_of_lt_of_le p2 (unhide HD).size) hk2.size; have c21 := (hk2.cell (o := 1) (Nat.lt_of_lt_of_le p1 (unhide HD).size) id).trans (((unhide HD).cell (o := 1) p1 id).trans a1); have c22 := (hk2.cell (o := 2) (Nat.lt_of_lt_of_le p1 (unhide HD).size) id).trans (((unhide HD).cell (o := 2) p1 id).trans a2); have d21 := (hk2.cell (o := 1) (Nat.lt_of_lt_of_le p2 (unhide HD).size) id).trans (((unhide HD).cell (o := 1) p2 id).trans b1); have d22 := (hk2.cell (o := 2) (Nat.lt_of_lt_of_le p2 (unhide HD).size) id).trans (((unhide HD).cell (o := 2) p2 id).trans b2)))
  go_wp2_with fail
  go_ret
  exact ⟨ret_int (unhide HO).symm, ((((unhide HKA).trans (unhide HD)).trans hk2).trans hk3).alloc _⟩
set_option maxRecDepth 100000 in
theorem cat_v (a b : ValA) (w : World) (ha : a.s.length ≤ 20) (hb : b.s.length ≤ 20) : Calls Tryz.prog 138 #[a.v, b.v] w fun e w' => e = .returned (bytV (catT a.s b.s)).v ∧ Keeps (fun _ => False) w w' := by
  have HT := hide (fun (W : World) => text_v (catT a.s b.s) W)
  have HC : Hid (catT a.s b.s = (a.s ++ b.s).take 20) := rfl
  generalize catT a.s b.s = C at *
  obtain ⟨ak, an, ax⟩ := a
  obtain ⟨bk, bn, bx⟩ := b
  unfold ValA.v
  simp only at *
  have i0 : ¬ 9223372036854775807 < ax.length + bx.length := by omega
  have ext : ∀ k : Nat, ((⟨ax.toArray⟩ : ByteArray) ++ ⟨bx.toArray⟩).extract 0 k = ⟨((ax ++ bx).take k).toArray⟩ := fun k => by
    apply ByteArray.ext
    rw [ByteArray.data_extract]
    show (ax ++ bx).toArray.extract 0 k = _
    simp
  have HE1 : Hid (((⟨ax.toArray⟩ : ByteArray) ++ ⟨bx.toArray⟩).extract 0 20 = ⟨C.toArray⟩) := by show _ = _; rw [ext, ← unhide HC]
  have HE2 : Hid ((ax.length : Int) + (bx.length : Int) ≤ 20 → ((⟨ax.toArray⟩ : ByteArray) ++ ⟨bx.toArray⟩).extract 0 ((ax.length : Int) + (bx.length : Int)).toNat = ⟨C.toArray⟩) := fun h => by
    rw [ext, unhide HC, show ((ax.length : Int) + (bx.length : Int)).toNat = (ax ++ bx).length by simp; omega, List.take_length, List.take_of_length_le (by simp; omega)]
  have HKA := hide (((kAlloc w (.cells #[.int .i64 ak, .int .i64 an, str ax] 41)).alloc (.cells #[.int .i64 bk, .int .i64 bn, str bx] 41)).alloc (.cells #[.int .i64 0, .int .i64 0, .string ⟨#[]⟩] 41))
  have hX := heap_alloc_new ((w.alloc (.cells #[.int .i64 ak, .int .i64 an, str ax] 41)).alloc (.cells #[.int .i64 bk, .int .i64 bn, str bx] 41)) (.cells #[.int .i64 0, .int .i64 0, .string ⟨#[]⟩] 41)
  rw [show ((w.alloc (.cells #[.int .i64 ak, .int .i64 an, str ax] 41)).alloc (.cells #[.int .i64 bk, .int .i64 bn, str bx] 41)).heap.size = w.heap.size + 1 + 1 by simp] at hX
  have HX := hide hX
  clear ext hX
  go_enter Tryz.func138, Tryz.ntmps138
  go_wp2_with fail
  case' inr => rw [(unhide HE2) (by omega)]
  case' inl => rw [unhide HE1]
  all_goals
    refine ((unhide HT) _).mono ?_
    rintro e w1 ⟨rfl, hk1⟩
    generalize ((w.alloc (.cells #[.int .i64 ak, .int .i64 an, str ax] 41)).alloc (.cells #[.int .i64 bk, .int .i64 bn, str bx] 41)).alloc (.cells #[.int .i64 0, .int .i64 0, .string ⟨#[]⟩] 41) = W at *
    have hX3 := (hk1.block _ (lt_of_block (unhide HX)) id).trans (unhide HX)
    have z0 := frozen_of_blk hX3 0
    have z1 := frozen_of_blk hX3 1
    have z2 := frozen_of_blk hX3 2
    have y0 : w1.cell? ⟨w.heap.size + 1 + 1, 0, none⟩ = some (.int .i64 0) := (cell_of_blk hX3 _).trans rfl
    have y1 : w1.cell? ⟨w.heap.size + 1 + 1, 1, none⟩ = some (.int .i64 0) := (cell_of_blk hX3 _).trans rfl
    have y2 : w1.cell? ⟨w.heap.size + 1 + 1, 2, none⟩ = some (.string ⟨#[]⟩) := (cell_of_blk hX3 _).trans rfl
    obtain ⟨s0, s1, s2⟩ := set3v hX3 (.int .i64 3) (.int .i64 0) (str C)
    have HK := hide (((unhide HKA).trans hk1).fresh (by omega) (keeps_set3 w1 (w.heap.size + 1 + 1) (.int .i64 3) (.int .i64 0) (str C)))
    have eb : (bytV C).v = .agg #[.int .i64 3, .int .i64 0, str C] := rfl
    rw [eb]
    clear hX3 hk1
    go_wp2_with fail
    trace_state
    refine bodyPost_ret (v := .agg #[.int .i64 3, .int .i64 0, str C]) (by simp [results, go_sem, s0, s1, s2]) rfl ?_
    exact ⟨rfl, unhide HK⟩
end Go.Proofs.YtiinohibmcefkaaGreatDoor
namespace Go.Proofs.YtiinohibmcefkaaGreatDoor
open Go.RowKit Go.Maps
/-- What is wrong with a row. -/
def rowE (S : List FieldA) (h : Bool) (vals : List ValA) : Int := if h then errR S vals else if vals = [] then 0 else 61
set_option maxRecDepth 100000 in
set_option maxHeartbeats 2000000 in
theorem checkRow_v (S : List FieldA) (sv u : Value) (hh : Bool) (vals : List ValA) (w : World) (hT : Types w) (hS : FldsAt w sv S) (hr : ValsAt w u vals) :
    Calls Tryz.prog 41 #[.agg #[sv], .agg #[.bool hh, u]] w fun e w' => e = .returned (.int .i64 (rowE S hh vals)) ∧ Keeps (fun _ => False) w w' := by
  obtain ⟨so, sc, rfl⟩ := RowAt.form hS
  obtain ⟨uo, uc, rfl⟩ := RowAt.form hr
  have HKA := hide ((kAlloc w (.cells #[.slice so S.length sc] 24)).alloc (.cells #[.bool hh, .slice uo vals.length uc] 31))
  have HQ := hide (val_check S _ vals _ _ (hT.keepF (unhide HKA)) (hS.keepF (unhide HKA)) (hr.keepF (unhide HKA)))
  have HE : Hid (rowE S hh vals = if hh then errR S vals else if vals = [] then 0 else 61) := rfl
  generalize rowE S hh vals = R at *
  clear hT hS hr
  cases hh with
  | true =>
    rw [if_pos rfl] at HE
    go_enter Tryz.func41, Tryz.ntmps41
    go_wp2_with fail
    refine (unhide HQ).mono ?_
    rintro e w1 ⟨rfl, hk1⟩
    have HK := hide ((unhide HKA).trans hk1)
    clear hk1 HQ HKA
    go_wp2_with fail
    go_ret
    exact ⟨ret_int (unhide HE).symm, unhide HK⟩
  | false =>
    rw [if_neg (by decide)] at HE
    clear HQ
    cases vals with
    | nil =>
      rw [if_pos rfl] at HE
      go_enter Tryz.func41, Tryz.ntmps41
      go_wp2_with fail
      go_ret
      exact ⟨ret_int (unhide HE).symm, unhide HKA⟩
    | cons a r =>
      rw [if_neg (by simp)] at HE
      generalize hN : (a :: r).length = N at *
      have hN1 : (0 : Int) < (N : Int) := by rw [← hN]; simp
      go_enter Tryz.func41, Tryz.ntmps41
      go_wp2_with fail
      go_ret
      exact ⟨ret_int (unhide HE).symm, unhide HKA⟩
theorem rowE_len {S : List FieldA} {vals : List ValA} (h : rowE S true vals = 0) : vals.length ≤ 8 := by
  unfold rowE at h
  rw [if_pos rfl] at h
  unfold errR at h
  split at h
  · rename_i hs
    split at h
    · rename_i hr
      have := (schemaB_len hs).2
      unfold recB at hr
      simp at hr
      omega
    · cases h
  · cases h
theorem rowE_nil {S : List FieldA} {vals : List ValA} (h : rowE S false vals = 0) : vals = [] := by
  unfold rowE at h
  rw [if_neg (by decide)] at h
  split at h
  · assumption
  · cases h
theorem grownBy_refl (w : World) (row : Option Nat) : w.grownBy w row := ⟨rfl, rfl, rfl, Nat.le_refl _, fun _ _ _ => rfl⟩
theorem vcs_one (G : List ValA) : ∀ u ∈ vcs G, u.oneCell' = true := by
  intro u hu
  unfold vcs at hu
  obtain ⟨x, _, hx⟩ := List.mem_flatMap.1 hu
  simp only [ValA.cs, List.mem_cons, List.not_mem_nil, or_false] at hx
  rcases hx with rfl | rfl | rfl <;> rfl
set_option maxRecDepth 100000 in
theorem run_appendV_none (w : World) (ty : TypeId) (ao : Option Addr) (n c xc : Nat) (hnc : n ≤ c) : (Builtin.append_ #[29, 29] ty #[.slice ao n c, .slice none 0 xc]).run Tryz.prog w = .ok (.slice ao n c) w := by
  obtain ⟨i0, hi, hz0, hz1, hz2⟩ := info_parts Tryz.info41
  cases ao <;> simp [Builtin.append_, Builtin.lenOf, Builtin.firstCells, storeCells, go_sem, sizeOf, typeInfo, hi, hnc]
/-- Values appended to values of one's own, however many. -/
theorem run_appendV_any (w : World) (ty : TypeId) (base : Nat) (v : Value) (n : Nat) (xs : List Value) (hown : w.ownsRow base 41 3 v n xs) (u : Value) (G : List ValA) (hu : ValsAt w u G) (h63 : n + G.length ≤ maxLen) (hbytes : n + G.length ≤ 4398046511104) (hbase : base ≤ w.heap.size) :
    ∃ v' w', (Builtin.append_ #[29, 29] ty #[v, u]).run Tryz.prog w = .ok v' w' ∧ w'.ownsRow base 41 3 v' (n + G.length) (xs ++ vcs G) ∧ w.grownBy w' v.ownBlock := by
  obtain ⟨i0, hi, hz0, hz1, hz2⟩ := info_parts Tryz.info41
  obtain ⟨uo, uc, rfl⟩ := RowAt.form hu
  cases uo with
  | none =>
    have h0 : G.length = 0 := by
      rcases Nat.eq_zero_or_pos G.length with h | h
      · exact h
      · obtain ⟨b, off, cap, e, _⟩ := RowAt.cells hu h
        simp at e
    have hG : G = [] := List.eq_nil_of_length_eq_zero h0
    subst hG
    obtain ⟨ao, c, rfl⟩ := (rowAt_own hown).form
    have hnc := (rowAt_own hown).room _ _ _ rfl
    exact ⟨_, w, run_appendV_none w ty ao n c uc hnc, by simpa [vcs] using hown, grownBy_refl _ _⟩
  | some ad =>
    obtain ⟨v', w', hr, h2, h3, _⟩ := run_append_own_at (P := Tryz.prog) w base 29 ty 41 i0 _ 3 32 Tryz.underlying29 hi hz0 hz1 hz2 rfl (by omega) v n xs hown ad G.length uc (vcs G) (vcs_length G) (fun j x hx => by
      have h0 : 0 < G.length := by
        have := (List.getElem?_eq_some_iff.1 hx).1
        rw [vcs_length] at this
        omega
      obtain ⟨b, off, cap, e, _, hc⟩ := RowAt.cells hu h0
      simp at e
      obtain ⟨rfl, rfl⟩ := e
      have := hc j x hx
      rw [show (⟨b, off, none⟩ : Addr).add j = ⟨b, off + j, none⟩ by simp only [Addr.add_lit]]
      exact this) (vcs_one G) h63 (by omega) hbase
    exact ⟨v', w', hr, h2, h3⟩
theorem wpList_appendV_any {w : World} {ops : Array Oper} {rest : List Oper} {o : Oper} {a : Act} {Q : Exit → Act → World → Prop} (hgd : o.guard = none) (s x : Operand)
    (ho : o.op = .call { callee := .builtin .append, args := #[s, x], argTypes := #[29, 29] }) (base : Nat) (v : Value) (n : Nat) (xs : List Value) (hs : a.eval s = v) (hown : w.ownsRow base 41 3 v n xs)
    (u : Value) (G : List ValA) (hx : a.eval x = u) (hu : ValsAt w u G) (h63 : n + G.length ≤ maxLen) (hbytes : n + G.length ≤ 4398046511104) (hbase : base ≤ w.heap.size)
    (h : ∀ v' w', w'.ownsRow base 41 3 v' (n + G.length) (xs ++ vcs G) → w.grownBy w' v.ownBlock → wpList Tryz.prog ops Q rest (a.put o.dst v') w') : wpList Tryz.prog ops Q (o :: rest) a w :=
  wpList_plain hgd fun _ hK => by
    obtain ⟨v', w', hr, h2, h3⟩ := run_appendV_any w o.type base v n xs hown u G hu h63 hbytes hbase
    unfold Oper.wp execOp
    simp only [ho, resolve, invoke, builtin, Sem.run_bind, Sem.run_pure, Result.andThen_ok, List.map_toArray, List.map_cons, List.map_nil, hs, hx, hr]
    exact hK _ _ (h v' w' h2 h3)
set_option maxRecDepth 100000 in
theorem eqValue_any (x y : ValA) (w : World) : Calls Tryz.prog 25 #[x.v, y.v] w fun e w' => e = .returned (.bool (decide (x = y))) ∧ Keeps (fun _ => False) w w' := by
  obtain ⟨k1, n1, s1⟩ := x
  obtain ⟨k2, n2, s2⟩ := y
  unfold ValA.v
  go_enter Tryz.func25, Tryz.ntmps25
  go_wp2
  all_goals (go_ret; refine ⟨ret_bool ?_, ((Keeps.refl _ _).alloc _).alloc _⟩; apply Bool.eq_iff_iff.2; simp_all; try omega)
set_option maxRecDepth 100000 in
set_option maxHeartbeats 1000000 in
theorem eqVals_any (w : World) (va vb : Value) (la lb : List ValA) (ha : ValsAt w va la) (hb : ValsAt w vb lb) (hla : la.length ≤ maxLen) :
    Calls Tryz.prog 36 #[va, vb] w fun e w' => e = .returned (.bool (decide (la = lb))) ∧ Keeps (fun _ => False) w w' := by
  obtain ⟨ao, capa, rfl⟩ := RowAt.form ha
  obtain ⟨bo, capb, rfl⟩ := RowAt.form hb
  unfold maxLen at hla
  by_cases hlen : la.length = lb.length
  · have hne : ((la.length : Int) != (lb.length : Int)) = false := by simp [hlen]
    have HA := hide ha
    have HB := hide hb
    have HL := hide hlen
    clear ha hb hlen
    go_enter Tryz.func36, Tryz.ntmps36
    go_wp2
    go_loopw [5] (fun i wr => ∃ k : Nat, k ≤ la.length ∧ i = .int .i64 k ∧ Hid (la.take k = lb.take k) ∧ Keeps (fun _ => False) w wr) (fun i _ => la.length - (intOf i).toNat)
    case atStart => exact ⟨0, Nat.zero_le _, rfl, rfl, Keeps.refl _ _⟩
    case round =>
      obtain ⟨k, hk, rfl, HT, hkp⟩ := hrel
      have HK := hide hkp
      by_cases hlt : k < la.length
      · have hltb : k < lb.length := by have := unhide HL; omega
        obtain ⟨b, off, c1, e1, hbl, hc⟩ := (unhide HA).cells (by omega)
        obtain ⟨b', off', c2, e2, hbl', hc'⟩ := (unhide HB).cells (by omega)
        simp at e1 e2
        obtain ⟨rfl, rfl⟩ := e1
        obtain ⟨rfl, rfl⟩ := e2
        obtain ⟨x, hx⟩ : ∃ x, la[k]? = some x := ⟨_, List.getElem?_eq_getElem hlt⟩
        obtain ⟨y, hy⟩ : ∃ y, lb[k]? = some y := ⟨_, List.getElem?_eq_getElem hltb⟩
        have c0 := (hkp.cell hbl id).trans (hc k x hx).1
        have c1 := (hkp.cell hbl id).trans (hc k x hx).2.1
        have c2 := (hkp.cell hbl id).trans (hc k x hx).2.2
        have d0 := (hkp.cell hbl' id).trans (hc' k y hy).1
        have d1 := (hkp.cell hbl' id).trans (hc' k y hy).2.1
        have d2 := (hkp.cell hbl' id).trans (hc' k y hy).2.2
        have i1 : (k : Int) < (la.length : Int) := by omega
        have i2 : (k : Int) < (lb.length : Int) := by omega
        have i0 : (0 : Int) ≤ (k : Int) := by omega
        have HX := hide hx
        have HY := hide hy
        clear hc hc' hx hy hkp
        have HQ := hide (eqValue_any x y wr.drew)
        have z1 : b < wr.drew.heap.size := Nat.lt_of_lt_of_le hbl (unhide HK).size
        have z2 : b' < wr.drew.heap.size := Nat.lt_of_lt_of_le hbl' (unhide HK).size
        unfold ValA.v at HQ
        go_wp2_with fail
        go_region_held3 (fun w' => w'.cell? ⟨b, off + k * 3, none⟩ = some (.int .i64 x.kind) ∧ w'.cell? ⟨b, off + k * 3 + 1, none⟩ = some (.int .i64 x.n) ∧ w'.cell? ⟨b, off + k * 3 + 2, none⟩ = some (str x.s) ∧ w'.cell? ⟨b', off' + k * 3, none⟩ = some (.int .i64 y.kind) ∧ w'.cell? ⟨b', off' + k * 3 + 1, none⟩ = some (.int .i64 y.n) ∧ w'.cell? ⟨b', off' + k * 3 + 2, none⟩ = some (str y.s))
          (go_keep)
          (first
            | (go_at_call 25
               refine (unhide HQ).mono ?_
               rintro e w4 ⟨rfl, hk4⟩
               have q1 := (hk4.cell z1 id).trans c0
               have q2 := (hk4.cell z1 id).trans c1
               have q3 := (hk4.cell z1 id).trans c2
               have q4 := (hk4.cell z2 id).trans d0
               have q5 := (hk4.cell z2 id).trans d1
               have q6 := (hk4.cell z2 id).trans d2
               have K4 := hide (((unhide HK).drewN 1).trans hk4)
               clear hk4))
        by_cases hxy : x = y
        · rw [decide_eq_true hxy]
          have HT2 : Hid (la.take (k + 1) = lb.take (k + 1)) := take_succ_eq (unhide HT) (unhide HX) (by rw [hxy]; exact unhide HY)
          clear hxy
          go_wp2_with fail
          go_roundw
          case rel => exact ⟨k + 1, by omega, by go_num, HT2, unhide K4⟩
          case measure => simp [intOf]; omega
        · rw [decide_eq_false hxy]
          have HN := hide hxy
          clear hxy
          go_wp2_with fail
          go_ret
          exact ⟨ret_bool (by symm; rw [decide_eq_false_iff_not]; exact get_ne (unhide HX) (unhide HY) (unhide HN)), unhide K4⟩
      · have HF := hide (take_end (unhide HL) (by omega) (unhide HT))
        clear hkp
        go_wp2
        go_ret
        exact ⟨ret_bool (by symm; rw [decide_eq_true_iff]; exact unhide HF), unhide HK⟩
  · have hne : ((la.length : Int) != (lb.length : Int)) = true := by rw [bne_iff_ne]; omega
    have HL := hide hlen
    clear hlen
    go_enter Tryz.func36, Tryz.ntmps36
    go_wp2
    go_ret
    exact ⟨ret_bool (by symm; rw [decide_eq_false_iff_not]; intro e; exact unhide HL (by rw [e])), Keeps.refl _ _⟩
set_option maxRecDepth 100000 in
set_option maxHeartbeats 1000000 in
theorem eqRow_v (w : World) (ha hb : Bool) (va vb : Value) (la lb : List ValA) (h1 : ValsAt w va la) (h2 : ValsAt w vb lb) (hla : la.length ≤ maxLen) :
    Calls Tryz.prog 14 #[.agg #[.bool ha, va], .agg #[.bool hb, vb]] w fun e w' => e = .returned (.bool (decide (ha = hb) && decide (la = lb))) ∧ Keeps (fun _ => False) w w' := by
  obtain ⟨ao, ac, rfl⟩ := RowAt.form h1
  obtain ⟨bo, bc, rfl⟩ := RowAt.form h2
  have HK := hide ((kAlloc w (.cells #[.bool ha, .slice ao la.length ac] 31)).alloc (.cells #[.bool hb, .slice bo lb.length bc] 31))
  have HQ := hide (eqVals_any _ _ _ la lb (h1.keepF (unhide HK)) (h2.keepF (unhide HK)) hla)
  generalize decide (la = lb) = R at *
  clear h1 h2
  cases ha <;> cases hb
  all_goals
    go_enter Tryz.func14, Tryz.ntmps14
    go_wp2_with (go_at_call 36; refine (unhide HQ).mono ?_; rintro e w1 ⟨rfl, hk1⟩)
    go_ret
    first | exact ⟨rfl, (unhide HK).trans hk1⟩ | exact ⟨rfl, unhide HK⟩
end Go.Proofs.YtiinohibmcefkaaGreatDoor
