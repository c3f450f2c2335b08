import Derived.Test.YtbdlcaamanhapaaGreatDoorJzad
namespace Go.Proofs.YtbdlcaamanhapaaGreatDoor
open Go.RowKit Go.Maps
set_option maxRecDepth 100000
set_option maxHeartbeats 8000000
def decP : List Wq → Nat → Txt → Option (List ValA × Nat × Txt)
 | [], m, t => some ([], m, t)
 | f :: l, m, t =>
  if f.opt = true ∧ m % 2 ≠ 1 then (decP l (m / 2) t).map (fun q => (⟨0, 0, []⟩ :: q.1, q.2))
  else (takeP f.type t).bind fun p => (decP l (if f.opt then m / 2 else m) p.2).map (fun q => (p.1 :: q.1, q.2))
def decodeP (l : List Wq) (t : Txt) : Option (List ValA) :=
 if t.length < headB l then none else (decP l (head0 l t) (t.drop (headB l))).bind fun q => if q.2.1 = 0 ∧ q.2.2 = [] then some q.1 else none
def DecM (w' : World) (B : Nat) (v : Value) (ok : Bool) : Option (List ValA) → Prop
 | none => ok = false
 | some r => ok = true ∧ w'.ownsRow B 51 3 v r.length (vcs r)
def zeroVal : ValA := ⟨0, 0, []⟩
theorem run_mkv (n : Nat) (hn : n ≤ 1024) (w : World) : (Instr.makeSlice 25 (.int .i64 (n : Int)) (.int .i64 (n : Int))).run Tryz.prog w = .ok (.slice (some ⟨w.heap.size, 0, none⟩) n n) (w.alloc (.cells (vcs (List.replicate n zeroVal)).toArray 51)) := by
 obtain ⟨i0, hi, hz0, hz1, hz2⟩ := info_parts Tryz.info51
 have q := run_make (P := Tryz.prog) w 25 51 i0 (.agg #[.int .i64 0, .int .i64 0, .string ⟨#[]⟩]) Tryz.underlying25 hi hz0 .i64 .i64 (n : Int) (n : Int) (by omega) (by omega) (by rw [hz2]; omega) (by omega)
 rw [hz1] at q
 have e : madeCells (Value.agg #[.int .i64 0, .int .i64 0, .string ⟨#[]⟩]).cells (n * 3) = (vcs (List.replicate n zeroVal)).toArray := by
  apply Array.ext_getElem?
  intro i
  have h3 : (Value.agg #[Value.int .i64 0, .int .i64 0, .string ⟨#[]⟩]).cells = #[.int .i64 0, .int .i64 0, .string ⟨#[]⟩] := rfl
  rw [h3]
  simp only [madeCells, Array.getElem?_map, Array.getElem?_range, List.getElem?_toArray]
  by_cases h : i < n * 3
  ·have hl : (List.replicate n zeroVal)[i / 3]? = some zeroVal := by rw [List.getElem?_replicate, if_pos (by omega)]
   have hf := flat_get ValA.cs (fun _ => rfl) (List.replicate n zeroVal) (i / 3) zeroVal (i % 3) hl (by omega)
   rw [show i / 3 * 3 + i % 3 = i by omega] at hf
   unfold vcs
   rw [hf, if_pos h]
   have : i % 3 = 0 ∨ i % 3 = 1 ∨ i % 3 = 2 := by omega
   rcases this with h | h | h <;> simp [h, zeroVal, ValA.cs]
  ·rw [if_neg h, List.getElem?_eq_none (by rw [vcs_length, List.length_replicate]; omega)]
   rfl
 simpa [e] using q
theorem vcs_set {R : List ValA} {x y : ValA} {Z : List ValA} : (((vcs (R ++ y :: Z)).toArray.setIfInBounds (R.length * 3) (.int .i64 x.kind)).setIfInBounds (R.length * 3 + 1) (.int .i64 x.n)).setIfInBounds (R.length * 3 + 2) (.string ⟨x.s.toArray⟩) = (vcs (R ++ x :: Z)).toArray := by
 have hv : ∀ y : ValA, vcs (R ++ y :: Z) = vcs R ++ (y.cs ++ vcs Z) := fun y => by simp [vcs]
 have hl := vcs_length R
 rw [hv, hv, ← hl]
 apply Array.ext'
 simp [ValA.cs]
theorem vcs_kind (l : List ValA) (k : Nat) (c : Int) : (vcs l).toArray[k]? ≠ some (Value.int .u8 c) := by
 intro h
 rw [List.getElem?_toArray] at h
 have := List.mem_of_getElem? h
 unfold vcs at this
 obtain ⟨x, _, hx⟩ := List.mem_flatMap.1 this
 simp [ValA.cs] at hx
theorem owns_vals {w : World} {B g n : Nat} {R : List ValA} (hB : B ≤ g) (hn : n ≤ 1024) (hl : R.length = n) (h : w.heap[g]? = some (.cells (vcs R).toArray 51 (0, 0))) : w.ownsRow B 51 3 (.slice (some ⟨g, 0, none⟩) n n) R.length (vcs R) := by
 subst hl
 refine ⟨vcs_length R, Or.inr ⟨g, _, _, rfl, hB, h, Nat.le_refl _, by unfold maxLen; omega, by simp [vcs_length], ?_⟩⟩
 simp only
 rw [List.take_of_length_le (by rw [vcs_length]; exact Nat.le_refl _)]
theorem map_cons_snoc {q : Option (List ValA × Nat × Txt)} (R : List ValA) (x : ValA) : (q.map (fun q => (x :: q.1, q.2))).map (fun q => (R ++ q.1, q.2)) = q.map (fun q => (R ++ [x] ++ q.1, q.2)) := by
 cases q <;> simp
theorem takeG_len : ∀ (t : Txt) (k U U' : Nat) (r : Txt), takeG k t U = some (U', r) → r.length ≤ t.length
 | [], k, U, U', r, h => by simp [takeG] at h
 | c :: t, k, U, U', r, h => by
  rw [takeG] at h
  repeat' split at h
  ·cases h
  ·cases h
  ·simp at h
   rw [h.2]; simp
  ·have := takeG_len t _ _ _ _ h
   simp only [List.length_cons]
   omega
theorem takeP_len {ty : Int} {t r : Txt} {x : ValA} (h : takeP ty t = some (x, r)) : r.length ≤ t.length := by
 unfold takeP at h
 split at h
 ·unfold takeIntP at h
  cases hg : takeG 0 t 0 with
  | none => rw [hg] at h; cases h
  | some p =>
   rw [hg] at h
   simp at h
   have := takeG_len _ _ _ _ _ (show takeG 0 t 0 = some (p.1, p.2) from hg)
   rw [← h.2]; exact this
 ·split at h
  ·cases t with
   | nil => cases h
   | cons c r' =>
    simp only [takeBoolP] at h
    split at h
    ·cases h
    ·simp at h
     rw [h.2]; simp
  ·cases t with
   | nil => cases h
   | cons c r' =>
    simp only [takeBytesP] at h
    repeat' split at h
    ·cases h
    ·cases h
    ·simp at h
     rw [← h.2]
     simp only [List.length_drop, List.length_cons]
     omega
theorem cells3 {w : World} {g k : Nat} {R Z : List ValA} {y : ValA} (h : w.heap[g]? = some (.cells (vcs (R ++ y :: Z)).toArray 51 (0, 0))) (hk : R.length = k) :
  w.cell? ⟨g, k * 3, none⟩ = some (.int .i64 y.kind) ∧ w.cell? ⟨g, k * 3 + 1, none⟩ = some (.int .i64 y.n) ∧ w.cell? ⟨g, k * 3 + 2, none⟩ = some (str y.s) ∧ w.frozen? ⟨g, k * 3, none⟩ = false ∧ w.frozen? ⟨g, k * 3 + 1, none⟩ = false ∧ w.frozen? ⟨g, k * 3 + 2, none⟩ = false := by
 have hy : (R ++ y :: Z)[k]? = some y := by rw [← hk]; simp
 have f := fun j hj => flat_get ValA.cs (fun _ => rfl) (R ++ y :: Z) k y j hy hj
 refine ⟨?_, ?_, ?_, zF h _, zF h _, zF h _⟩
 ·rw [zC h, List.getElem?_toArray]; exact f 0 (by omega)
 ·rw [zC h, List.getElem?_toArray]; exact f 1 (by omega)
 ·rw [zC h, List.getElem?_toArray]; exact f 2 (by omega)
theorem stored_end {w2 : World} {S k : Nat} {R Z : List ValA} {z x : ValA} {y : Value} {ok : Bool} {o : Option (ValA × Txt)} (hb : w2.heap[S]? = some (.cells (vcs (R ++ z :: Z)).toArray 51 (0, 0))) (hm : TookM w2 x y ok o) (hk : R.length = k) :
  Wp (fun q => q = S) w2 (((w2.setCell ⟨S, k * 3, none⟩ (.int .i64 x.kind)).setCell ⟨S, k * 3 + 1, none⟩ (.int .i64 x.n)).setCell ⟨S, k * 3 + 2, none⟩ (.string ⟨x.s.toArray⟩)) ∧
  TookM (((w2.setCell ⟨S, k * 3, none⟩ (.int .i64 x.kind)).setCell ⟨S, k * 3 + 1, none⟩ (.int .i64 x.n)).setCell ⟨S, k * 3 + 2, none⟩ (.string ⟨x.s.toArray⟩)) x y ok o ∧
  (((w2.setCell ⟨S, k * 3, none⟩ (.int .i64 x.kind)).setCell ⟨S, k * 3 + 1, none⟩ (.int .i64 x.n)).setCell ⟨S, k * 3 + 2, none⟩ (.string ⟨x.s.toArray⟩)).heap[S]? = some (.cells (vcs (R ++ x :: Z)).toArray 51 (0, 0)) := by
 subst hk
 have hb3 := zH (o := R.length * 3 + 2) (zH (o := R.length * 3 + 1) (zH (o := R.length * 3) hb (.int .i64 x.kind)) (.int .i64 x.n)) (.string ⟨x.s.toArray⟩)
 rw [vcs_set] at hb3
 have hs : ∀ (a : World) (o : Nat) (v : Value), Wp (fun q => q = S) w2 a → Wp (fun q => q = S) w2 (a.setCell ⟨S, o, none⟩ v) := fun a o v h => h.setCell (fun _ => rfl) v
 have hk3 := hs _ (R.length * 3 + 2) (.string ⟨x.s.toArray⟩) (hs _ (R.length * 3 + 1) (.int .i64 x.n) (hs _ (R.length * 3) (.int .i64 x.kind) (Wp.refl _ w2)))
 refine ⟨hk3, ?_, hb3⟩
 cases o with
 | none => exact hm
 | some p => exact ⟨hm.1, hm.2.1, bytes_apart hm.2.2 hb (vcs_kind _) hk3⟩
theorem decode_v (l : List Wq) (v : Value) (t : Txt) (u : Value) (w : World) (h : Wt w v l) (hu : Wv w u t) (hl : l.length ≤ 8) (ht : t.length ≤ 140737488355328) (hform : (u = .slice none 0 0 ∧ t = []) ∨ ∃ b off cap, u = .slice (some ⟨b, off, none⟩) t.length cap) :
  Calls Tryz.prog 145 #[.agg #[v], u] w fun e w' => Wp (fun _ => False) w w' ∧ ∃ v' ok, e = .returned (.tuple #[v', .bool ok]) ∧ DecM w' w.heap.size v' ok (decodeP l t) := by
 obtain ⟨ao, cap, rfl⟩ := Ws.form h
 obtain ⟨HB, hb, hbc⟩ := boxed w #[.slice ao l.length cap] 24
 have hp := hbc 0 (.slice ao l.length cap) rfl
 have HF := zB (h.keepF (zA HB))
 have HU := zB (hu.keepF (zA HB))
 have HH := zB (head_v l _ _ (zA HF) hl)
 have hHB : headB l ≤ 1 := by have := opts_le l; unfold headB; omega
 have HD : Hid (decodeP l t = if t.length < headB l then none else (decP l (head0 l t) (t.drop (headB l))).bind fun q => if q.2.1 = 0 ∧ q.2.2 = [] then some q.1 else none) := rfl
 have HH0 : Hid (head0 l t = if 0 < headB l then (t.getD 0 0).toNat else 0) := rfl
 generalize decodeP l t = D at *
 generalize head0 l t = M0 at *
 generalize headB l = H at *
 obtain ⟨ub, ul, uc, rfl, hul⟩ : ∃ ub ul uc, u = .slice ub ul uc ∧ ul = t.length := by
  rcases hform with ⟨rfl, rfl⟩ | ⟨b, off, cap, rfl⟩
  ·exact ⟨_, _, _, rfl, rfl⟩
  ·exact ⟨_, _, _, rfl, rfl⟩
 subst hul
 have HFM := zB hform
 clear hbc h hu hform
 go_enter Tryz.func145, Tryz.ntmps145
 go_wp2_with fail
 refine (zA HH).mono ?_
 rintro e w2 ⟨rfl, hk2⟩
 have hp2 := (hk2.cell (o := 0) hb id).trans hp
 have hb2 := Nat.lt_of_lt_of_le hb hk2.size
 have HF2 := zB ((zA HF).keepF hk2)
 have HU2 := zB ((zA HU).keepF hk2)
 have HB2 := zB ((zA HB).trans hk2)
 clear HH HF HU HB hk2 hp hb
 generalize w.alloc (.cells #[.slice ao l.length cap] 24) = w1 at *
 by_cases hlt : (t.length : Int) < (H : Int)
 ·have HE : Hid (D = none) := by show _ = _; rw [zA HD, if_pos (by omega)]
  go_wp2_with fail
  go_ret2
  refine ⟨zA HB2, _, _, rfl, ?_⟩
  rw [zA HE]
  rfl
 have hge : (H : Int) ≤ (t.length : Int) := by omega
 have HD2 : Hid (D = (decP l M0 (t.drop H)).bind fun q => if q.2.1 = 0 ∧ q.2.2 = [] then some q.1 else none) := by show _ = _; rw [zA HD, if_neg (by omega)]
 have hS2 : w.heap.size < w2.heap.size := hb2
 clear hlt HD
 have hM255 : M0 ≤ 255 := by
  rw [zA HH0]
  split
  ·have := (t.getD 0 0).toNat_lt; omega
  ·omega
 obtain hc3 : (H = 0 ∧ ub = none ∧ uc = 0 ∧ t = []) ∨ (H = 0 ∧ ∃ b off, ub = some ⟨b, off, none⟩) ∨ (H = 1 ∧ (∃ b off, ub = some ⟨b, off, none⟩) ∧ ∃ c r', t = c :: r') := by
  have hH2 : H = 0 ∨ H = 1 := by omega
  rcases zA HFM with ⟨hx, rfl⟩ | ⟨b, off, cc, hx⟩
  ·simp only [Value.slice.injEq] at hx
   rcases hH2 with h | h
   ·exact Or.inl ⟨h, hx.1, hx.2.2, rfl⟩
   ·subst h; simp at hge
  ·simp only [Value.slice.injEq] at hx
   rcases hH2 with h | h
   ·exact Or.inr (Or.inl ⟨h, b, off, hx.1⟩)
   ·refine Or.inr (Or.inr ⟨h, ⟨b, off, hx.1⟩, ?_⟩)
    subst h
    cases t with
    | nil => simp at hge
    | cons c r => exact ⟨c, r, rfl⟩
 have hroom : t.length ≤ uc := Ws.room (zA HU2) _ _ _ rfl
 rcases hc3 with ⟨rfl, rfl, rfl, rfl⟩ | ⟨rfl, b, off, rfl⟩ | ⟨rfl, ⟨b, off, rfl⟩, c, r', rfl⟩
 case' inl =>
  have HM0 : Hid (M0 = 0) := by show _ = _; rw [zA HH0]; rfl
  obtain ⟨T, HTL, HY, HD3⟩ : ∃ T : Txt, Hid (T.length ≤ 140737488355328) ∧ Hid (Wv w2 (Value.slice none 0 0) T) ∧ Hid (D = (decP l M0 T).bind (fun q => if q.2.1 = 0 ∧ q.2.2 = [] then some q.1 else none)) := ⟨[], by simp [Hid], zA HU2, zA HD2⟩
  have HV7 : Hid (Value.int .u64 0 = Value.int .u64 (M0 : Int)) := by show _ = _; rw [zA HM0]; rfl
  clear HU2 HD2 HFM
  go_wp2_with fail
  go_quiet ((go_at_call 148; exact Calls.quiet_of_same (number_none _ _ _)))
 case' inr.inl =>
  have HM0 : Hid (M0 = 0) := by show _ = _; rw [zA HH0]; rfl
  have i0 : (0 : Int) ≤ (uc : Int) := by omega
  have i1 : (t.length : Int) ≤ (uc : Int) := by omega
  obtain ⟨T, HTL, HY, HD3⟩ : ∃ T : Txt, Hid (T.length ≤ 140737488355328) ∧ Hid (Wv w2 (Value.slice (some ⟨b, off, none⟩) t.length uc) T) ∧ Hid (D = (decP l M0 T).bind (fun q => if q.2.1 = 0 ∧ q.2.2 = [] then some q.1 else none)) := ⟨t, ht, zA HU2, zA HD2⟩
  have HV7 : Hid (Value.int .u64 0 = Value.int .u64 (M0 : Int)) := by show _ = _; rw [zA HM0]; rfl
  clear HU2 HD2 HFM
  go_wp2_with fail
  go_quiet ((go_at_call 148; exact Calls.quiet_of_same (number_none _ _ _)))
 case' inr.inr =>
  have HM0 : Hid (M0 = c.toNat) := by show _ = _; rw [zA HH0]; rfl
  have c0 : w2.cell? ⟨b, off, none⟩ = some (.int .u8 (num c)) := by
   obtain ⟨b', off', cc, e1, hblt, hc⟩ := Ws.cells (zA HU2) (by simp)
   simp only [Value.slice.injEq, Option.some.injEq, Addr.mk.injEq] at e1
   obtain ⟨⟨rfl, rfl, _⟩, _, _⟩ := e1
   have := hc 0 (.int .u8 (num c)) rfl
   rw [Nat.add_zero] at this
   exact this
  have i1 : (1 : Int) ≤ (uc : Int) := by omega
  have i2 : ((c :: r').length : Int) ≤ (uc : Int) := by omega
  obtain ⟨T, HTL, HY, HD3⟩ : ∃ T : Txt, Hid (T.length ≤ 140737488355328) ∧ Hid (Wv w2 (Value.slice (if uc = 1 then some ⟨b, off, none⟩ else some ⟨b, off + 1, none⟩) ((c :: r').length - 1) (uc - 1)) T) ∧ Hid (D = (decP l M0 T).bind (fun q => if q.2.1 = 0 ∧ q.2.2 = [] then some q.1 else none)) := ⟨(c :: r').drop 1, by show _ ≤ _; rw [List.length_drop]; omega, rest_bytes (zA HU2) (k := 1) (by simp), zA HD2⟩
  have HV7 : Hid (Value.int .u64 (num c) = Value.int .u64 (M0 : Int)) := by show _ = _; rw [zA HM0]; rfl
  clear HU2 HD2 HFM
  generalize (c :: r').length = L at *
  go_wp2_with fail
  go_quiet ((go_at_call 148; exact Calls.quiet_of (((number_one b off uc c _ (by simpa using c0))).mono (fun e w' h => ⟨h.1, 0, h.2⟩))))
  generalize (if uc = 1 then some (⟨b, off, none⟩ : Addr) else some ⟨b, off + 1, none⟩) = A at *
  clear c0 i1 i2
 all_goals
  have KD := keeps_drewN w2 nq
  have hp3 := (KD.cell (o := 0) hb2 id).trans hp2
  have HB3 := zB ((zA HB2).trans KD)
  have HF3 := zB ((zA HF2).keepF KD)
  have HY3 := zB ((zA HY).keepF KD)
  have hb3 : w.heap.size < (w2.drewN nq).heap.size := Nat.lt_of_lt_of_le hb2 KD.size
  clear KD HB2 HF2 HY hp2 hb2 hS2 HM0 HH0
  generalize w2.drewN nq = w3 at *
  have hmk := run_mkv l.length (by omega) w3
  have HG := zB (heap_alloc_new w3 (.cells (vcs (List.replicate l.length zeroVal)).toArray 51))
  have HA : Hid (Wp (fun q => w3.heap.size ≤ q) w3 (w3.alloc (.cells (vcs (List.replicate l.length zeroVal)).toArray 51))) := (Wp.refl _ _).alloc _
  have HYA := zB ((zA HY3).keepF ((Wp.refl _ w3).alloc (.cells (vcs (List.replicate l.length zeroVal)).toArray 51)))
  have hp4 := ((zA HA).cell (o := 0) hb3 (by omega)).trans hp3
  have hS4 : w3.heap.size < (w3.alloc (.cells (vcs (List.replicate l.length zeroVal)).toArray 51)).heap.size := by simp
  go_wp2_with fail
  generalize w3.alloc (.cells (vcs (List.replicate l.length zeroVal)).toArray 51) = w4 at *
  clear hmk
  go_loopw [4, 5, 7, 8, 32] (fun rr okk mm yy i wr => ∃ (k M : Nat) (R : List ValA) (T' : Txt), k ≤ l.length ∧ Hid (R.length = k) ∧ i = .int .i64 k ∧ rr = .slice (some ⟨w3.heap.size, 0, none⟩) l.length l.length ∧ (∃ o, okk = .bool o) ∧ mm = .int .u64 M ∧ M ≤ 255 ∧ Hid (Wv wr yy T') ∧ Hid (T'.length ≤ 140737488355328) ∧ Hid (decP l M0 T = (decP (l.drop k) M T').map (fun q => (R ++ q.1, q.2))) ∧ Hid (wr.heap[w3.heap.size]? = some (.cells (vcs (R ++ List.replicate (l.length - k) zeroVal)).toArray 51 (0, 0))) ∧ Wp (fun q => w3.heap.size ≤ q) w4 wr) (fun _ _ _ _ i _ => l.length - (intOf i).toNat)
  case atStart => exact ⟨0, M0, [], T, Nat.zero_le _, rfl, rfl, rfl, ⟨_, rfl⟩, zA HV7, hM255, zA HYA, zA HTL, by simp [Hid], by show _ = _; simpa using zA HG, Wp.refl _ _⟩
  case round =>
   obtain ⟨k, M, R, T', hk, HRL, rfl, rfl, ⟨o, rfl⟩, rfl, hM, HYk, HTk, HDk, HBk, hkp⟩ := hrel
   have HK := zB ((zA HA).trans hkp)
   have hp5 := (hkp.cell (o := 0) (Nat.lt_of_lt_of_le hb3 (zA HA).size) (by omega)).trans hp4
   have HKP := zB hkp
   have hS5 : w3.heap.size < wr.heap.size := Nat.lt_of_lt_of_le hS4 hkp.size
   clear hkp
   by_cases hlt : k < l.length
   ·obtain ⟨f, hf⟩ : ∃ f, l[k]? = some f := ⟨_, List.getElem?_eq_getElem hlt⟩
    obtain ⟨b5, off5, c5, e5, hbl, hc⟩ := (zA HF3).cells (by omega)
    simp at e5
    obtain ⟨rfl, rfl⟩ := e5
    have c0 := ((zA HK).cell hbl (by omega)).trans (hc k f hf).1
    have c1 := ((zA HK).cell hbl (by omega)).trans (hc k f hf).2.1
    have c2 := ((zA HK).cell hbl (by omega)).trans (hc k f hf).2.2
    have HDR : Hid (l.drop k = f :: l.drop (k + 1)) := drop_at hf
    have HKN := zB ((zA HKP).alloc (.cells #[str f.name, .int .i64 f.type, .bool f.opt] 58))
    have HYN := zB ((zA HYk).keepF ((Wp.refl _ wr).alloc (.cells #[str f.name, .int .i64 f.type, .bool f.opt] 58)))
    have HBN : Hid ((wr.alloc (.cells #[str f.name, .int .i64 f.type, .bool f.opt] 58)).heap[w3.heap.size]? = some (.cells (vcs (R ++ List.replicate (l.length - k) zeroVal)).toArray 51 (0, 0))) := (Below.heap_alloc _ _ _ hS5).trans (zA HBk)
    have HQ := zB (takeValue_v f.type _ _ T' (zA HYN) (zA HTk))
    have hRP : Hid (List.replicate (l.length - k) zeroVal = zeroVal :: List.replicate (l.length - (k + 1)) zeroVal) := by
     show _ = _
     rw [show l.length - k = (l.length - (k + 1)) + 1 by omega, List.replicate_succ]
    have hand : bits .and .u64 (M : Int) 1 = (M : Int) % 2 := by rw [and_one64 M (by omega)]; omega
    have i5 : (k : Int) < (l.length : Int) := by omega
    clear hc hf HKP HYk
    cases hfo : f.opt with
    | true =>
     rw [hfo] at c2 HKN HYN HBN HQ
     by_cases hm2 : M % 2 = 1
     ·have hm2' : ((M : Int) % 2 == 1) = true := by rw [beq_iff_eq]; omega
      have HDN : Hid (decP (l.drop k) M T' = (takeP f.type T').bind fun p => (decP (l.drop (k + 1)) (M / 2) p.2).map (fun q => (p.1 :: q.1, q.2))) := by
       show _ = _
       rw [zA HDR, decP, if_neg (by omega), if_pos hfo]
      obtain ⟨M2, HM2⟩ : ∃ M2, Hid (M2 = M / 2) := ⟨_, rfl⟩
      rw [← zA HM2] at HDN
      have HM2v : Hid ((M2 : Int) = (M : Int) / 2) := by show _ = _; rw [zA HM2]; omega
      have hM2 : M2 ≤ 255 := by rw [zA HM2]; omega
      clear hm2
      go_wp2_with fail
      refine (zA HQ).mono ?_
      rintro e w5 ⟨hk5, hT5⟩
      obtain ⟨x, y5, ok5, rfl, hm5⟩ := hT5.form
      have hblk : w5.heap[w3.heap.size]? = some (.cells (vcs (R ++ zeroVal :: List.replicate (l.length - (k + 1)) zeroVal)).toArray 51 (0, 0)) := by
       rw [hk5.block _ (Nat.lt_trans hS5 (by simp)) id, zA HBN, zA hRP]
      obtain ⟨d0, d1, d2, g0, g1, g2⟩ := cells3 hblk (zA HRL)
      have HEND := zB (stored_end hblk hm5 (k := k) (x := x) (zA HRL))
      have HK5 := zB ((zA HKN).trans hk5.any)
      cases hpt : takeP f.type T' with
      | none =>
       rw [hpt] at hm5
       obtain rfl : ok5 = false := hm5
       have HE : Hid (D = none) := by
        show _ = _
        rw [zA HD3, zA HDk, zA HDN, hpt]
        rfl
       clear hblk hk5 hT5 HQ hpt
       unfold ValA.v
       go_wp2_with fail
       go_ret2
       refine ⟨(zA HB3).narrowS (((zA HA).trans (zA HK5)).then (zA HEND).1 (fun i _ e => by omega)) (fun i hi => by omega), _, _, rfl, ?_⟩
       rw [zA HE]
       rfl
      | some p =>
       rw [hpt] at hm5 HEND
       obtain ⟨rfl, rfl, _⟩ := hm5
       have HE : Hid (decP l M0 T = (decP (l.drop (k + 1)) M2 p.2).map (fun q => (R ++ [p.1] ++ q.1, q.2))) := by
        show _ = _
        rw [zA HDk, zA HDN, hpt]
        exact map_cons_snoc R p.1
       have HTN : Hid (p.2.length ≤ 140737488355328) := Nat.le_trans (takeP_len (show takeP f.type T' = some (p.1, p.2) from hpt)) (zA HTk)
       clear hblk hk5 hT5 HQ hpt
       unfold ValA.v
       go_wp2_with fail
       go_roundw
       case rel =>
        refine ⟨k + 1, M2, R ++ [p.1], p.2, by omega, by show _ = _; rw [List.length_append, zA HRL]; rfl, by go_num, rfl, ⟨_, rfl⟩, congrArg (Value.int .u64) (zA HM2v).symm, hM2, (zA HEND).2.1.2.2, HTN, HE, ?_, (zA HK5).then (zA HEND).1 (fun i _ e => by omega)⟩
        show _ = _
        rw [(zA HEND).2.2, List.append_assoc]
        rfl
       case measure => simp [intOf]; omega
     ·have hm2' : ((M : Int) % 2 == 1) = false := beq_eq_false_iff_ne.2 (by omega)
      have HDN : Hid (decP (l.drop k) M T' = (decP (l.drop (k + 1)) (M / 2) T').map (fun q => (⟨0, 0, []⟩ :: q.1, q.2))) := by
       show _ = _
       rw [zA HDR, decP, if_pos ⟨hfo, hm2⟩]
      clear hm2 HQ
      go_wp2_with fail
      go_roundw
      case rel =>
       refine ⟨k + 1, M / 2, R ++ [zeroVal], T', by omega, by show _ = _; rw [List.length_append, zA HRL]; rfl, by go_num, rfl, ⟨_, rfl⟩, by go_num, by omega, zA HYN, zA HTk, ?_, ?_, zA HKN⟩
       ·show _ = _
        rw [zA HDk, zA HDN, map_cons_snoc]
        rfl
       ·show _ = _
        rw [zA HBN, zA hRP, List.append_assoc]
        rfl
      case measure => simp [intOf]; omega
    | false =>
     rw [hfo] at c2 HKN HYN HBN HQ
     obtain ⟨M2, HM2⟩ : ∃ M2, Hid (M2 = M) := ⟨_, rfl⟩
     have HDN : Hid (decP (l.drop k) M T' = (takeP f.type T').bind fun p => (decP (l.drop (k + 1)) M2 p.2).map (fun q => (p.1 :: q.1, q.2))) := by
      show _ = _
      rw [zA HM2, zA HDR, decP, if_neg (by simp [hfo]), if_neg (by simp [hfo])]
     have HM2v : Hid ((M2 : Int) = (M : Int)) := by show _ = _; rw [zA HM2]
     have hM2 : M2 ≤ 255 := by rw [zA HM2]; omega
     clear hand
     go_wp2_with fail
     refine (zA HQ).mono ?_
     rintro e w5 ⟨hk5, hT5⟩
     obtain ⟨x, y5, ok5, rfl, hm5⟩ := hT5.form
     have hblk : w5.heap[w3.heap.size]? = some (.cells (vcs (R ++ zeroVal :: List.replicate (l.length - (k + 1)) zeroVal)).toArray 51 (0, 0)) := by
      rw [hk5.block _ (Nat.lt_trans hS5 (by simp)) id, zA HBN, zA hRP]
     obtain ⟨d0, d1, d2, g0, g1, g2⟩ := cells3 hblk (zA HRL)
     have HEND := zB (stored_end hblk hm5 (k := k) (x := x) (zA HRL))
     have HK5 := zB ((zA HKN).trans hk5.any)
     cases hpt : takeP f.type T' with
     | none =>
      rw [hpt] at hm5
      obtain rfl : ok5 = false := hm5
      have HE : Hid (D = none) := by
       show _ = _
       rw [zA HD3, zA HDk, zA HDN, hpt]
       rfl
      clear hblk hk5 hT5 HQ hpt
      unfold ValA.v
      go_wp2_with fail
      go_ret2
      refine ⟨(zA HB3).narrowS (((zA HA).trans (zA HK5)).then (zA HEND).1 (fun i _ e => by omega)) (fun i hi => by omega), _, _, rfl, ?_⟩
      rw [zA HE]
      rfl
     | some p =>
      rw [hpt] at hm5 HEND
      obtain ⟨rfl, rfl, _⟩ := hm5
      have HE : Hid (decP l M0 T = (decP (l.drop (k + 1)) M2 p.2).map (fun q => (R ++ [p.1] ++ q.1, q.2))) := by
       show _ = _
       rw [zA HDk, zA HDN, hpt]
       exact map_cons_snoc R p.1
      have HTN : Hid (p.2.length ≤ 140737488355328) := Nat.le_trans (takeP_len (show takeP f.type T' = some (p.1, p.2) from hpt)) (zA HTk)
      clear hblk hk5 hT5 HQ hpt
      unfold ValA.v
      go_wp2_with fail
      go_roundw
      case rel =>
       refine ⟨k + 1, M2, R ++ [p.1], p.2, by omega, by show _ = _; rw [List.length_append, zA HRL]; rfl, by go_num, rfl, ⟨_, rfl⟩, congrArg (Value.int .u64) (zA HM2v).symm, hM2, (zA HEND).2.1.2.2, HTN, HE, ?_, (zA HK5).then (zA HEND).1 (fun i _ e => by omega)⟩
       show _ = _
       rw [(zA HEND).2.2, List.append_assoc]
       rfl
      case measure => simp [intOf]; omega
   ·obtain rfl : k = l.length := by omega
    obtain ⟨ya, yc, rfl⟩ := Ws.form (zA HYk)
    have HDF : Hid (D = if M = 0 ∧ T' = [] then some R else none) := by
     show _ = _
     rw [zA HD3, zA HDk, List.drop_length]
     simp [decP]
    have HOW : Hid (wr.ownsRow w.heap.size 51 3 (.slice (some ⟨w3.heap.size, 0, none⟩) l.length l.length) R.length (vcs R)) := by
     refine owns_vals (by omega) (by omega) (zA HRL) ?_
     have := zA HBk
     simpa using this
    have HKF := zB ((zA HB3).narrowS (zA HK) (fun i hi => by omega))
    by_cases hM0 : M = 0
    ·have hM0' : ((M : Int) == 0) = true := by rw [beq_iff_eq]; omega
     by_cases hT0 : T' = []
     ·have hT0' : ((T'.length : Int) == 0) = true := by rw [beq_iff_eq, hT0]; rfl
      have HE : Hid (D = some R) := by show _ = _; rw [zA HDF, if_pos ⟨hM0, hT0⟩]
      clear hM0 hT0
      go_wp2_with fail
      go_ret2
      refine ⟨zA HKF, _, _, rfl, ?_⟩
      rw [zA HE]
      exact ⟨rfl, zA HOW⟩
     ·have hT0' : ((T'.length : Int) == 0) = false := beq_eq_false_iff_ne.2 (fun e => hT0 (List.eq_nil_of_length_eq_zero (by omega)))
      have HE : Hid (D = none) := by show _ = _; rw [zA HDF, if_neg (fun e => hT0 e.2)]
      clear hM0 hT0
      go_wp2_with fail
      go_ret2
      refine ⟨zA HKF, _, _, rfl, ?_⟩
      rw [zA HE]
      rfl
    ·have hM0' : ((M : Int) == 0) = false := beq_eq_false_iff_ne.2 (by omega)
     have HE : Hid (D = none) := by show _ = _; rw [zA HDF, if_neg (fun e => hM0 e.1)]
     clear hM0
     go_wp2_with fail
     go_ret2
     refine ⟨zA HKF, _, _, rfl, ?_⟩
     rw [zA HE]
     rfl
set_option maxHeartbeats 2000000
def decodeV (l : List Wq) (t : Txt) : List ValA × Int := if schemaB l = false then ([], 60) else match decodeP l t with
 | none => ([], 62)
 | some r => (r, 0)
theorem val_decode (l : List Wq) (v : Value) (t : Txt) (u : Value) (w : World) (hT : Types w) (h : Wt w v l) (hr : Wv w u t) (htl : t.length ≤ 140737488355328) (hform : (u = .slice none 0 0 ∧ t = []) ∨ ∃ b off cap, u = .slice (some ⟨b, off, none⟩) t.length cap) :
  Calls Tryz.prog 131 #[.agg #[v], u] w fun e w' => ∃ r', e = .returned (.tuple #[r', .int .i64 (decodeV l t).2]) ∧ w'.ownsRow w.heap.size 51 3 r' (decodeV l t).1.length (vcs (decodeV l t).1) ∧ Wp (fun _ => False) w w' := by
 obtain ⟨ao, cap, rfl⟩ := Ws.form h
 obtain ⟨HB, hb, hbc⟩ := boxed w #[.slice ao l.length cap] 24
 have hp := hbc 0 (.slice ao l.length cap) rfl
 have HF := zB (h.keepF (zA HB))
 have HU := zB (hr.keepF (zA HB))
 have HS := zB (checkSchema_v l _ _ (hT.keepF (zA HB)) (zA HF))
 have HFM := zB hform
 have HV : Hid (decodeV l t = if schemaB l = false then (([], 60) : List ValA × Int) else match decodeP l t with | none => (([], 62) : List ValA × Int) | some r => (r, 0)) := rfl
 generalize decodeV l t = D at *
 clear hbc h hr hT hform
 obtain ⟨bo, cbp, rfl⟩ := Ws.form (zA HU)
 go_enter Tryz.func131, Tryz.ntmps131
 go_wp2_with fail
 refine (zA HS).mono ?_
 rintro e w2 ⟨rfl, hk2⟩
 have hp2 := (hk2.cell (o := 0) hb id).trans hp
 have HF2 := zB ((zA HF).keepF hk2)
 have HU2 := zB ((zA HU).keepF hk2)
 have HB2 := zB ((zA HB).trans hk2)
 clear HS HF HU HB hk2 hp hb
 generalize w.alloc (.cells #[.slice ao l.length cap] 24) = w1 at *
 rcases errS_eq l with ⟨hs, he⟩ | ⟨hs, he⟩
 ·rw [he]
  have HQ := zB (decode_v l _ t _ _ (zA HF2) (zA HU2) (schemaB_len hs).2 htl (zA HFM))
  rw [hs, if_neg (by simp)] at HV
  clear hs he
  go_wp2_with fail
  refine (zA HQ).mono ?_
  rintro e w3 ⟨hk3, v', ok, rfl, hD⟩
  have HK3 := zB ((zA HB2).trans hk3)
  have hsz := (zA HB2).size
  clear HQ hk3
  cases hdp : decodeP l t with
  | none =>
   rw [hdp] at hD HV
   obtain rfl : ok = false := hD
   obtain rfl : D = ([], 62) := zA HV
   go_wp2_with fail
   go_ret2
   exact ⟨_, rfl, World.ownsRow_nil _ w.heap.size 51 3, zA HK3⟩
  | some r =>
   rw [hdp] at hD HV
   obtain ⟨rfl, ho⟩ := hD
   have HO := zB (ownsRow_lower ho hsz)
   obtain rfl : D = (r, 0) := zA HV
   clear ho
   go_wp2_with fail
   go_ret2
   exact ⟨_, rfl, zA HO, zA HK3⟩
 ·rw [he]
  rw [hs, if_pos rfl] at HV
  obtain rfl : D = ([], 60) := zA HV
  clear hs he
  go_wp2_with fail
  go_ret2
  exact ⟨_, rfl, World.ownsRow_nil _ w.heap.size 51 3, zA HB2⟩
theorem tn_back (U : Nat) (h : U < 18446744073709551616) : tn (backB U) = U := by
 unfold tn backB turned
 split <;> split <;> omega
theorem ofNat_lt {v : Nat} (h : v < 256) : (UInt8.ofNat v).toNat = v := by rw [UInt8.toNat_ofNat']; omega
theorem ofNat_toNat (c : UInt8) : UInt8.ofNat c.toNat = c := by simp
theorem pow9 : (128 : Nat) ^ 9 = 9223372036854775808 := by decide
theorem takeG_groups : ∀ (v k U : Nat) (e : Txt), k ≤ 9 → U + 128 ^ k * v < 18446744073709551616 → (k = 0 ∨ v ≠ 0) → takeG k (groups v ++ e) U = some (U + 128 ^ k * v, e) := by
 intro v
 induction v using Nat.strongRecOn with
 | ind v ih =>
  intro k U e hk hlt hv
  have h9 : k = 9 → v ≤ 1 := by
   rintro rfl
   rw [pow9] at hlt
   omega
  by_cases h : v < 128
  ·rw [groups_small h]
   simp only [List.singleton_append, takeG]
   rw [ofNat_lt (by omega), if_neg (by omega), if_pos h, if_neg (by omega), Nat.mod_eq_of_lt h]
  ·rw [groups_big (by omega)]
   simp only [List.cons_append, takeG]
   rw [ofNat_lt (by omega), if_neg (by omega), if_neg (by omega)]
   have hk9 : k < 9 := by
    rcases Nat.lt_or_ge k 9 with h' | h'
    ·exact h'
    ·have := h9 (by omega); omega
   have hm : (v % 128 + 128) % 128 = v % 128 := by omega
   have hdm : 128 ^ k * v = 128 ^ k * (v % 128) + 128 ^ (k + 1) * (v / 128) := by
    rw [Nat.pow_succ, Nat.mul_assoc, ← Nat.mul_add]
    congr 1
    omega
   rw [hm, ih (v / 128) (by omega) (k + 1) _ e (by omega) (by rw [hdm] at hlt; omega) (Or.inr (by omega)), hdm, Nat.add_assoc]
theorem takeG_sound : ∀ (t : Txt) (k U U' : Nat) (e : Txt), k ≤ 9 → U < 128 ^ k → takeG k t U = some (U', e) → ∃ v, U' = U + 128 ^ k * v ∧ t = groups v ++ e ∧ (k = 0 ∨ v ≠ 0) ∧ U' < 18446744073709551616
 | [], k, U, U', e, _, _, h => by simp [takeG] at h
 | c :: t, k, U, U', e, hk, hU, h => by
  have hc := c.toNat_lt
  rw [takeG] at h
  split at h
  ·cases h
  ·rename_i h9
   have hb := group_lt U k c hU hk (by omega)
   split at h
   ·rename_i hlt
    split at h
    ·cases h
    ·rename_i hz
     simp only [Option.some.injEq, Prod.mk.injEq] at h
     obtain ⟨rfl, rfl⟩ := h
     refine ⟨c.toNat, by rw [Nat.mod_eq_of_lt hlt], ?_, by omega, hb.2⟩
     rw [groups_small hlt, ofNat_toNat]
     rfl
   ·rename_i hge
    have hk9 : k < 9 := by
     rcases Nat.lt_or_ge k 9 with h' | h'
     ·exact h'
     ·exfalso; exact h9 ⟨by omega, by omega⟩
    obtain ⟨v, rfl, rfl, hv, hlt⟩ := takeG_sound t (k + 1) _ _ _ (by omega) hb.1 h
    have hv0 : v ≠ 0 := by omega
    refine ⟨c.toNat % 128 + 128 * v, ?_, ?_, Or.inr (by omega), hlt⟩
    ·rw [Nat.pow_succ, Nat.mul_add, Nat.mul_assoc, Nat.add_assoc]
    ·rw [groups_big (u := c.toNat % 128 + 128 * v) (by omega)]
     have e1 : (c.toNat % 128 + 128 * v) % 128 + 128 = c.toNat := by omega
     have e2 : (c.toNat % 128 + 128 * v) / 128 = v := by omega
     rw [e1, e2, ofNat_toNat]
     rfl
theorem takeG_app : ∀ (t : Txt) (k U U' : Nat) (e x : Txt), takeG k t U = some (U', e) → takeG k (t ++ x) U = some (U', e ++ x)
 | [], k, U, U', e, x, h => by simp [takeG] at h
 | c :: t, k, U, U', e, x, h => by
  rw [List.cons_append, takeG]
  rw [takeG] at h
  split at h
  ·cases h
  ·rename_i h9
   rw [if_neg h9]
   split at h
   ·rename_i hlt
    rw [if_pos hlt]
    split at h
    ·cases h
    ·rename_i hz
     rw [if_neg hz]
     simp only [Option.some.injEq, Prod.mk.injEq] at h ⊢
     exact ⟨h.1, by rw [h.2]⟩
   ·rename_i hge
    rw [if_neg hge]
    exact takeG_app t _ _ _ _ _ h
def opdB (o : Int) : Int :=
 if o = 1 then 1 else if o = 4 then 2
 else if o = 5 ∨ o = 6 ∨ o = 20 ∨ o = 21 ∨ o = 22 then 3
 else if o = 25 ∨ o = 26 then 4
 else if 1 ≤ o ∧ o ≤ 26 then 0 else -1
def rightB (i : ValA) : Bool :=
 if opdB i.kind = 0 then decide (i.n = 0) && decide (i.s = [])
 else if opdB i.kind = 1 then decide (i.s = [])
 else if opdB i.kind = 2 then decide (i.n = 0) && decide (i.s.length ≤ 20)
 else if opdB i.kind = 3 then decide (0 ≤ i.n ∧ i.n < 8) && decide (i.s = [])
 else if opdB i.kind = 4 then decide (0 ≤ i.n ∧ i.n ≤ 255) && decide (i.s = [])
 else false
def formB (i : ValA) : Int := if opdB i.kind = -1 then 110 else if rightB i then 0 else 113
def u8 (n : Int) : UInt8 := UInt8.ofNat n.toNat
def tailB (i : ValA) : Txt :=
 if opdB i.kind = 1 then groups (tn i.n)
 else if opdB i.kind = 2 then UInt8.ofNat i.s.length :: i.s
 else if opdB i.kind = 3 ∨ opdB i.kind = 4 then [u8 i.n]
 else []
def oneB (i : ValA) : Txt := u8 i.kind :: tailB i
def bytesC (l : List ValA) : Txt := l.flatMap oneB
def firstE : List ValA → Int
 | [] => 0
 | i :: r => if formB i = 0 then firstE r else formB i
def encC (l : List ValA) : Txt × Int :=
 if 96 < l.length then ([], 110) else if firstE l ≠ 0 then ([], firstE l) else if 96 < (bytesC l).length then ([], 110) else (bytesC l, 0)
theorem opdB_cases (o : Int) : opdB o = -1 ∨ opdB o = 0 ∨ opdB o = 1 ∨ opdB o = 2 ∨ opdB o = 3 ∨ opdB o = 4 := by
 unfold opdB
 repeat' split
 all_goals simp
theorem opdB_range {o : Int} (h : opdB o ≠ -1) : 1 ≤ o ∧ o ≤ 26 := by
 unfold opdB at h
 repeat' split at h
 all_goals (first | omega | simp at h)
theorem opdB_out {o : Int} (h : opdB o = -1) : o < 1 ∨ 26 < o := by
 unfold opdB at h
 repeat' split at h
 all_goals (first | omega | simp at h)
theorem formB_zero {i : ValA} (h : formB i = 0) : opdB i.kind ≠ -1 ∧ rightB i = true := by
 unfold formB at h
 split at h
 ·simp at h
 ·rename_i h1
  split at h
  ·rename_i h2; exact ⟨h1, h2⟩
  ·simp at h
theorem u8_num {n : Int} (h0 : 0 ≤ n) (h1 : n ≤ 255) : num (u8 n) = n := by
 unfold u8
 rw [num_of _ (by omega)]
 omega
theorem num_u8 (c : UInt8) : u8 (num c) = c := by
 unfold u8 num
 simp
theorem firstE_zero {l : List ValA} (h : firstE l = 0) : ∀ i ∈ l, formB i = 0 := by
 induction l with
 | nil => simp
 | cons x r ih =>
  rw [firstE] at h
  split at h
  ·rename_i hx
   intro i hi
   rcases List.mem_cons.1 hi with rfl | h2
   ·exact hx
   ·exact ih h i h2
  ·rename_i hx; exact absurd h hx
theorem firstE_of {l : List ValA} (h : ∀ i ∈ l, formB i = 0) : firstE l = 0 := by
 induction l with
 | nil => rfl
 | cons x r ih => rw [firstE, if_pos (h x (by simp))]; exact ih (fun i hi => h i (by simp [hi]))
theorem bytesC_cons (i : ValA) (l : List ValA) : bytesC (i :: l) = oneB i ++ bytesC l := rfl
theorem bytesC_append (a b : List ValA) : bytesC (a ++ b) = bytesC a ++ bytesC b := by simp [bytesC]
theorem bytesC_len (l : List ValA) : l.length ≤ (bytesC l).length := by
 induction l with
 | nil => simp
 | cons x r ih => rw [bytesC_cons]; simp [oneB]; omega
def takeC : Txt → Option (ValA × Txt)
 | [] => none
 | c :: r =>
  if opdB (num c) = -1 then none
  else if opdB (num c) = 0 then some (⟨num c, 0, []⟩, r)
  else if opdB (num c) = 1 then (takeG 0 r 0).map fun p => (⟨num c, backB p.1, []⟩, p.2)
  else if opdB (num c) = 2 then (match r with
   | [] => none
   | k :: q => if q.length < k.toNat ∨ 20 < k.toNat then none else some (⟨num c, 0, q.take k.toNat⟩, q.drop k.toNat))
  else (match r with
   | [] => none
   | k :: q => if opdB (num c) = 3 ∧ 8 ≤ k.toNat then none else some (⟨num c, num k, []⟩, q))
def decF : Nat → Txt → Option (List ValA)
 | 0, b => if b = [] then some [] else none
 | n + 1, b => if b = [] then some [] else (takeC b).bind fun p => (decF n p.2).map (p.1 :: ·)
def decC (b : Txt) : List ValA × Int := if 96 < b.length then ([], 110) else match decF b.length b with
 | none => ([], 110)
 | some l => (l, 0)
theorem rightB_at {i : ValA} (h : rightB i = true) :
  (opdB i.kind = 0 → i.n = 0 ∧ i.s = []) ∧ (opdB i.kind = 1 → i.s = []) ∧ (opdB i.kind = 2 → i.n = 0 ∧ i.s.length ≤ 20) ∧ (opdB i.kind = 3 → (0 ≤ i.n ∧ i.n < 8) ∧ i.s = []) ∧ (opdB i.kind = 4 → (0 ≤ i.n ∧ i.n ≤ 255) ∧ i.s = []) := by
 unfold rightB at h
 refine ⟨fun e => ?_, fun e => ?_, fun e => ?_, fun e => ?_, fun e => ?_⟩ <;> rw [e] at h <;> simpa using h
theorem takeC_sound {b r : Txt} {i : ValA} (h : takeC b = some (i, r)) : formB i = 0 ∧ b = oneB i ++ r ∧ -9223372036854775808 ≤ i.n ∧ i.n ≤ 9223372036854775807 := by
 cases b with
 | nil => simp [takeC] at h
 | cons c q =>
  have hc := num_range c
  simp only [takeC] at h
  rcases opdB_cases (num c) with e | e | e | e | e | e <;> simp only [e] at h
  ·simp at h
  ·simp at h
   obtain ⟨rfl, rfl⟩ := h
   simp [formB, rightB, e, oneB, tailB, num_u8]
  ·simp at h
   obtain ⟨U, hg, rfl⟩ := h
   obtain ⟨v, hv, hq, _, hlt⟩ := takeG_sound q 0 0 U r (by omega) (by simp) hg
   simp at hv
   subst hv
   have hb := tn_back U hlt
   refine ⟨by simp [formB, rightB, e], ?_, ?_⟩
   ·simp [oneB, tailB, e, num_u8, hb, hq]
   ·simp only
    unfold backB
    split <;> omega
  ·cases q with
   | nil => simp at h
   | cons k q =>
    simp at h
    obtain ⟨⟨h1, h2⟩, rfl, rfl⟩ := h
    refine ⟨by simp [formB, rightB, e]; omega, ?_, by simp⟩
    simp [oneB, tailB, e, num_u8]
    have : min k.toNat q.length = k.toNat := by omega
    rw [this]
    simp
  ·cases q with
   | nil => simp at h
   | cons k q =>
    have hk := num_range k
    simp at h
    obtain ⟨h1, rfl, rfl⟩ := h
    refine ⟨?_, by simp [oneB, tailB, e, num_u8], ?_⟩
    ·simp [formB, rightB, e]
     unfold num at *
     omega
    ·simp only; omega
  ·cases q with
   | nil => simp at h
   | cons k q =>
    have hk := num_range k
    simp at h
    obtain ⟨rfl, rfl⟩ := h
    refine ⟨?_, by simp [oneB, tailB, e, num_u8], ?_⟩
    ·simp [formB, rightB, e]
     exact hk
    ·simp only; omega
theorem decF_sound : ∀ (n : Nat) (b : Txt) (l : List ValA), decF n b = some l → (∀ i ∈ l, formB i = 0) ∧ InR l ∧ bytesC l = b
 | 0, b, l, h => by
  rw [decF] at h
  split at h
  ·rename_i hb
   simp at h
   subst h
   exact ⟨by simp, by intro x hx; simp at hx, hb.symm⟩
  ·cases h
 | n + 1, b, l, h => by
  rw [decF] at h
  split at h
  ·rename_i hb
   simp at h
   subst h
   exact ⟨by simp, by intro x hx; simp at hx, hb.symm⟩
  ·cases ht : takeC b with
   | none => rw [ht] at h; simp at h
   | some p =>
    obtain ⟨i, r⟩ := p
    rw [ht] at h
    simp only [Option.bind_some, Option.map_eq_some_iff] at h
    obtain ⟨l', h1, rfl⟩ := h
    obtain ⟨f1, f2, f3⟩ := takeC_sound ht
    obtain ⟨g1, g2, g3⟩ := decF_sound n r l' h1
    refine ⟨?_, ?_, ?_⟩
    ·intro j hj
     rcases List.mem_cons.1 hj with rfl | hj
     ·exact f1
     ·exact g1 j hj
    ·intro j hj
     rcases List.mem_cons.1 hj with rfl | hj
     ·exact f3
     ·exact g2 j hj
    ·rw [bytesC_cons, g3, f2]
theorem encC_of {l : List ValA} (h : firstE l = 0) (hb : (bytesC l).length ≤ 96) : encC l = (bytesC l, 0) := by
 have := bytesC_len l
 unfold encC
 rw [if_neg (by omega), if_neg (by simpa using h), if_neg (by omega)]
theorem enc_dec {b : Txt} (h : (decC b).2 = 0) : encC (decC b).1 = (b, 0) ∧ InR (decC b).1 := by
 unfold decC at h ⊢
 split at h
 ·simp at h
 ·rename_i h96
  rw [if_neg h96]
  cases hd : decF b.length b with
  | none => rw [hd] at h; simp at h
  | some l =>
   obtain ⟨h1, h2, h3⟩ := decF_sound _ _ _ hd
   simp only
   rw [encC_of (firstE_of h1) (by rw [h3]; omega), h3]
   exact ⟨rfl, h2⟩
structure OpA where
 word : Txt
 opd : Int
 takes : Nat
 of : Int
 gives : Int
def opsL : List OpA := [⟨[], 0, 0, 0, 0⟩, ⟨[112, 117, 115, 104], 1, 0, 0, 1⟩, ⟨[116, 114, 117, 101], 0, 0, 0, 2⟩, ⟨[102, 97, 108, 115, 101], 0, 0, 0, 2⟩, ⟨[98, 121, 116, 101, 115], 2, 0, 0, 3⟩, ⟨[108, 111, 97, 100], 3, 0, 0, 4⟩, ⟨[104, 97, 115], 4, 0, 0, 2⟩, ⟨[104, 101, 114, 101], 0, 0, 0, 2⟩,
 ⟨[110, 111, 116], 0, 1, 2, 2⟩, ⟨[110, 101, 103], 0, 1, 1, 1⟩, ⟨[97, 100, 100], 0, 2, 1, 1⟩, ⟨[115, 117, 98], 0, 2, 1, 1⟩, ⟨[109, 117, 108], 0, 2, 1, 1⟩, ⟨[109, 105, 110], 0, 2, 1, 1⟩, ⟨[109, 97, 120], 0, 2, 1, 1⟩, ⟨[108, 116], 0, 2, 5, 2⟩, ⟨[108, 101], 0, 2, 5, 2⟩, ⟨[101, 113], 0, 2, 6, 2⟩, ⟨[108, 101, 110], 0, 1, 3, 1⟩, ⟨[99, 97, 116], 0, 2, 3, 3⟩,
 ⟨[115, 116, 111, 114, 101], 3, 1, 4, 0⟩, ⟨[97, 100, 100, 116, 111], 5, 1, 1, 0⟩, ⟨[99, 108, 101, 97, 114], 4, 0, 0, 0⟩, ⟨[110, 101, 119], 0, 0, 0, 0⟩, ⟨[100, 101, 108, 101, 116, 101], 0, 0, 0, 0⟩, ⟨[106, 117, 109, 112], 6, 0, 0, 0⟩, ⟨[117, 110, 108, 101, 115, 115], 6, 1, 2, 0⟩]
def opA (o : Int) : OpA := (opsL[o.toNat]?).getD ⟨[], 0, 0, 0, 0⟩
theorem op_cases {o : Int} (h : opdB o ≠ -1) : o ∈ ([1, 2, 3, 4, 5, 6, 7, 8, 9, 10, 11, 12, 13, 14, 15, 16, 17, 18, 19, 20, 21, 22, 23, 24, 25, 26] : List Int) := by
 have := opdB_range h
 simp only [List.mem_cons, List.not_mem_nil, or_false]
 omega
theorem opd_of : ∀ o ∈ ([1, 2, 3, 4, 5, 6, 7, 8, 9, 10, 11, 12, 13, 14, 15, 16, 17, 18, 19, 20, 21, 22, 23, 24, 25, 26] : List Int), opdB o = (if (opA o).opd = 6 then 4 else if 3 ≤ (opA o).opd then 3 else (opA o).opd) ∧ 0 ≤ (opA o).opd ∧ (opA o).opd ≤ 6 := by decide
end Go.Proofs.YtbdlcaamanhapaaGreatDoor
