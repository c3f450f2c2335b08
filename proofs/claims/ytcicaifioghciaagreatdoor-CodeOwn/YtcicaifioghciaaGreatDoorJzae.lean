import Derived.Test.YtcicaifioghciaaGreatDoorJzad
import Derived.Test.YtcicaifioghciaaGreatDoorJzac
namespace Go.Proofs.YtcicaifioghciaaGreatDoor
open Go.RowKit Go.Maps

def takeBoolP : Txt → Option (ValA × Txt)
  | [] => none
  | c :: r => if 1 < c.toNat then none else some (⟨2, num c, []⟩, r)
def takeBytesP : Txt → Option (ValA × Txt)
  | [] => none
  | c :: r => if 20 < c.toNat then none else if r.length < c.toNat then none else some (⟨3, 0, r.take c.toNat⟩, r.drop c.toNat)
def takeIntP (t : Txt) : Option (ValA × Txt) := (takeG 0 t 0).map fun p => (⟨1, backB p.1, []⟩, p.2)
def takeP (ty : Int) (t : Txt) : Option (ValA × Txt) := if ty = 1 then takeIntP t else if ty = 2 then takeBoolP t else takeBytesP t

/-- What a taking answers. -/
def Took (w' : World) (e : Ending) : Option (ValA × Txt) → Prop
  | none => ∃ (x : ValA) (y : Value), e = .returned (.tuple #[x.v, y, .bool false])
  | some (x, r) => ∃ y, e = .returned (.tuple #[x.v, y, .bool true]) ∧ BytesAt w' y r

theorem takeInt_took (w : World) (v : Value) (t : Txt) (h : BytesAt w v t) (ht : t.length ≤ 140737488355328) :
    Calls Tryz.prog 124 #[v] w fun e w' => Keeps (fun _ => False) w w' ∧ Took w' e (takeIntP t) := by
  refine (takeInt_v w v t h ht).mono ?_
  rintro e w' ⟨hk, hm⟩
  refine ⟨hk, ?_⟩
  unfold takeIntP
  cases hg : takeG 0 t 0 with
  | none => rw [hg] at hm; exact hm
  | some p => rw [hg] at hm; exact hm

set_option maxRecDepth 100000 in
set_option maxHeartbeats 2000000 in
theorem takeBool_v (w : World) (v : Value) (t : Txt) (h : BytesAt w v t) (ht : t.length ≤ 140737488355328) :
    Calls Tryz.prog 125 #[v] w fun e w' => Keeps (fun _ => False) w w' ∧ Took w' e (takeBoolP t) := by
  obtain ⟨ao, cap, rfl⟩ := RowAt.form h
  have HF := hide h
  cases t with
  | nil =>
    clear h
    go_enter Tryz.func125, Tryz.ntmps125
    go_wp2_with fail
    refine bodyPost_ret (v := .tuple #[ValA.v ⟨0, 0, []⟩, .slice none 0 0, .bool false]) (by simp [results, go_sem, ValA.v]) rfl ?_
    exact ⟨(Keeps.refl _ _).alloc _, ⟨0, 0, []⟩, _, rfl⟩
  | cons c r =>
    obtain ⟨b, off, cc, e1, hblt, hc⟩ := RowAt.cells (unhide HF) (by simp)
    simp only [Value.slice.injEq] at e1
    obtain ⟨rfl, _, rfl⟩ := e1
    have c0 := ((((Keeps.refl (fun _ => False) w).alloc (.cells #[.int .i64 0, .int .i64 0, str []] 118))).cell hblt id).trans (hc 0 (.int .u8 (num c)) rfl)
    rw [Nat.add_zero] at c0
    have hcr := num_range c
    have hroom := RowAt.room h _ _ _ rfl
    have HRB := hide (rest_bytes (unhide HF) (k := 1) (by simp))
    have hlen : ((c :: r).length : Int) = (r.length : Int) + 1 := by simp
    have i1 : (1 : Int) ≤ (cap : Int) := by simp at hroom; omega
    generalize hL : (c :: r).length = L at *
    have HLL := hide hL
    have i2 : (L : Int) ≤ (cap : Int) := by omega
    have i3 : (1 : Int) ≤ (L : Int) := by omega
    clear h hc hlen hroom hL
    by_cases hc1 : 1 < num c
    · have HE : Hid (takeBoolP (c :: r) = none) := if_pos (by unfold num at hc1; omega)
      rw [unhide HE]
      go_enter Tryz.func125, Tryz.ntmps125
      go_wp2_with fail
      refine bodyPost_ret (v := .tuple #[ValA.v ⟨0, 0, []⟩, .slice none 0 0, .bool false]) (by simp [results, go_sem, ValA.v]) rfl ?_
      exact ⟨(Keeps.refl _ _).alloc _, ⟨0, 0, []⟩, _, rfl⟩
    · have HE : Hid (takeBoolP (c :: r) = some (⟨2, num c, []⟩, r)) := if_neg (by unfold num at hc1; omega)
      rw [unhide HE]
      have hc2 : num c ≤ 1 := by omega
      go_enter Tryz.func125, Tryz.ntmps125
      go_wp2_with fail
      go_region
      generalize (if cap = 1 then some (⟨b, off, none⟩ : Addr) else some ⟨b, off + 1, none⟩) = A at *
      go_wp2_with fail
      refine bodyPost_ret (v := .tuple #[ValA.v ⟨2, num c, []⟩, .slice A (L - 1) (cap - 1), .bool true]) (by simp [results, go_sem, ValA.v]) rfl ?_
      exact ⟨((Keeps.refl _ _).alloc _).drew, _, rfl, (unhide HRB).keepF (((Keeps.refl _ _).alloc _).drew)⟩

theorem conv_row {w : World} {b off cap : Nat} {l : Txt} (h : BytesAt w (.slice (some ⟨b, off, none⟩) l.length cap) l) :
    (convert 29 9 (.slice (some ⟨b, off, none⟩) l.length cap)).run Tryz.prog w = .ok (str l) w := by
  refine conv_at w b off cap l (fun j c hc => ?_)
  obtain ⟨b', off', cc, e1, _, hh⟩ := RowAt.cells h (by have := get_lt hc; omega)
  simp only [Value.slice.injEq, Option.some.injEq, Addr.mk.injEq] at e1
  obtain ⟨⟨rfl, rfl, _⟩, _, _⟩ := e1
  exact hh j _ (by rw [bs_get, hc]; rfl)
theorem first_bytes {w : World} {a : Option Addr} {cap n : Nat} {t : Txt} (h : BytesAt w (.slice a t.length cap) t) (hn : n ≤ t.length) : BytesAt w (.slice a n cap) (t.take n) := by
  have e : bs t = bs (t.take n) ++ bs (t.drop n) := by rw [← bs_append, List.take_append_drop]
  unfold BytesAt at *
  rw [e] at h
  rw [List.length_take, Nat.min_eq_left hn]
  exact h.first hn

def textP : Txt → Option (Txt × Txt)
  | [] => none
  | c :: r => if r.length < c.toNat then none else some (r.take c.toNat, r.drop c.toNat)
/-- What Short's three answers tell. -/
def TookP (w' : World) (x y : Value) (ok : Bool) (bk : Option Nat) : Option (Txt × Txt) → Prop
  | none => ok = false ∧ x = .slice none 0 0 ∧ y = .slice none 0 0
  | some (p, r) => ok = true ∧ (∃ b off c, x = .slice (some ⟨b, off, none⟩) p.length c ∧ some b = bk) ∧ (∃ b off c, y = .slice (some ⟨b, off, none⟩) r.length c ∧ some b = bk) ∧ BytesAt w' x p ∧ BytesAt w' y r
set_option maxRecDepth 100000 in
set_option maxHeartbeats 2000000 in
theorem short_v (w : World) (v : Value) (t : Txt) (h : BytesAt w v t) (ht : t.length ≤ 140737488355328) :
    Calls Tryz.prog 83 #[v] w fun e w' => Keeps (fun _ => False) w w' ∧ ∃ x y ok, e = .returned (.tuple #[x, y, .bool ok]) ∧ TookP w' x y ok v.ownBlock (textP t) := by
  obtain ⟨ao, cap, rfl⟩ := RowAt.form h
  have HF := hide h
  cases t with
  | nil =>
    clear h
    go_enter Tryz.func83, Tryz.ntmps83
    go_wp2_with fail
    go_ret3
    exact ⟨Keeps.refl _ _, _, _, _, rfl, rfl, rfl, rfl⟩
  | cons c r =>
    obtain ⟨b, off, cc, e1, hblt, hc⟩ := RowAt.cells (unhide HF) (by simp)
    simp only [Value.slice.injEq] at e1
    obtain ⟨rfl, _, rfl⟩ := e1
    have c0 := hc 0 (.int .u8 (num c)) rfl
    rw [Nat.add_zero] at c0
    have hroom := RowAt.room h _ _ _ rfl
    obtain ⟨C, hC⟩ : ∃ C, c.toNat = C := ⟨_, rfl⟩
    have hCn : num c = (C : Int) := by unfold num; omega
    rw [hCn] at c0
    have hC255 : (C : Int) ≤ 255 := by have := c.toNat_lt; omega
    have HRB1 := hide (rest_bytes (unhide HF) (k := 1) (by simp))
    have HRBF : Hid (∀ k, k ≤ (c :: r).length → BytesAt w (.slice (if cap = k then some ⟨b, off, none⟩ else some ⟨b, off + k, none⟩) ((c :: r).length - k) (cap - k)) ((c :: r).drop k)) := fun k hk => rest_bytes (unhide HF) hk
    have HLR : Hid ((c :: r).length = r.length + 1) := by simp [Hid]
    have HTK : Hid (textP (c :: r) = if r.length < C then none else some (r.take C, r.drop C)) := by show _ = _; rw [← hC]; rfl
    have i1 : (1 : Int) ≤ (cap : Int) := by have := unhide HLR; omega
    have HRL : Hid (r.length = (c :: r).length - 1) := by simp [Hid]
    generalize hL : (c :: r).length = L at *
    have HLL := hide hL
    have i2 : (L : Int) ≤ (cap : Int) := by omega
    have i3 : (1 : Int) ≤ (L : Int) := by have := unhide HLR; omega
    clear h hc hroom hCn hL hC
    by_cases hc3 : r.length < C
    · have HE : Hid (textP (c :: r) = none) := by show _ = _; rw [unhide HTK, if_pos hc3]
      rw [unhide HE]
      have hc2' : (L : Int) < (C : Int) + 1 := by have := unhide HLR; omega
      have hc3' : (L : Int) < 1 + (C : Int) := by omega
      go_enter Tryz.func83, Tryz.ntmps83
      go_wp2_with fail
      go_ret3
      exact ⟨Keeps.refl _ _, _, _, _, rfl, rfl, rfl, rfl⟩
    · have HE : Hid (textP (c :: r) = some (r.take C, r.drop C)) := by show _ = _; rw [unhide HTK, if_neg hc3]
      rw [unhide HE]
      have hc3' : 1 + (C : Int) ≤ (L : Int) := by have := unhide HLR; omega
      have HRB2 := hide ((unhide HRBF) (C + 1) (by have := unhide HLR; omega))
      have hlt : (r.take C).length = C := by rw [List.length_take]; omega
      have hld : (r.drop C).length = L - (C + 1) := by rw [List.length_drop]; have := unhide HLR; omega
      have HP : Hid (BytesAt w.drew (.slice (if cap = 1 then some ⟨b, off, none⟩ else some ⟨b, off + 1, none⟩) C (cap - 1)) (r.take C)) := by
        have h1 := unhide HRB1
        simp only [List.drop_one, List.tail_cons] at h1
        rw [← unhide HRL] at h1
        exact (first_bytes h1 (n := C) (by omega)).keepF ((Keeps.refl _ _).drew)
      have HFX : Hid (∃ b' off' c', (Value.slice (if cap = 1 then some (⟨b, off, none⟩ : Addr) else some ⟨b, off + 1, none⟩) C (cap - 1)) = .slice (some ⟨b', off', none⟩) (r.take C).length c' ∧ some b' = (Value.slice (some ⟨b, off, none⟩) L cap).ownBlock) := by
        rw [hlt]
        by_cases h : cap = 1
        · exact ⟨b, off, _, by rw [if_pos h], rfl⟩
        · exact ⟨b, off + 1, _, by rw [if_neg h], rfl⟩
      have HFY : Hid (∃ b' off' c', (Value.slice (if cap = C + 1 then some (⟨b, off, none⟩ : Addr) else some ⟨b, off + (C + 1), none⟩) (L - (C + 1)) (cap - (C + 1))) = .slice (some ⟨b', off', none⟩) (r.drop C).length c' ∧ some b' = (Value.slice (some ⟨b, off, none⟩) L cap).ownBlock) := by
        rw [hld]
        by_cases h : cap = C + 1
        · exact ⟨b, off, _, by rw [if_pos h], rfl⟩
        · exact ⟨b, off + (C + 1), _, by rw [if_neg h], rfl⟩
      have i5 : (C : Int) + 1 ≤ (cap : Int) := by omega
      have i6 : ((C + 1 : Nat) : Int) ≤ (L : Int) := by omega
      clear hlt hld
      go_enter Tryz.func83, Tryz.ntmps83
      go_wp2_with fail
      rw [show (1 : Int) + (C : Int) = ((C + 1 : Nat) : Int) by omega]
      go_region
      generalize (if cap = 1 then some (⟨b, off, none⟩ : Addr) else some ⟨b, off + 1, none⟩) = A1 at *
      generalize (if cap = C + 1 then some (⟨b, off, none⟩ : Addr) else some ⟨b, off + (C + 1), none⟩) = A at *
      go_wp2_with fail
      go_ret3
      exact ⟨(Keeps.refl _ _).drew, _, _, _, rfl, rfl, unhide HFX, unhide HFY, unhide HP, by have h := (unhide HRB2).keepF ((Keeps.refl _ _).drew); simpa using h⟩

theorem nlKeeps3 (w4 : World) (b : Nat) (x y z : Value) : Keeps (fun q => q = b) w4 (((w4.setCell ⟨b, 0, none⟩ x).setCell ⟨b, 1, none⟩ y).setCell ⟨b, 2, none⟩ z) :=
  Keeps.setCell (F := fun q => q = b) (p := ⟨b, 2, none⟩) (Keeps.setCell (F := fun q => q = b) (p := ⟨b, 1, none⟩) (Keeps.setCell (F := fun q => q = b) (p := ⟨b, 0, none⟩) (Keeps.refl (fun q => q = b) w4) (fun _ => rfl) x) (fun _ => rfl) y) (fun _ => rfl) z
/-- Three cells of a new block are written: what holds then. -/
theorem nlSet3 {w w4 : World} {t : TypeId} (hk : Keeps (fun _ => False) w w4) (h : w4.heap[w.heap.size]? = some (.cells #[.int .i64 0, .int .i64 0, .string ⟨#[]⟩] t (0, 0))) (x y z : Value) {W : World} (hW : (((w4.setCell ⟨w.heap.size, 0, none⟩ x).setCell ⟨w.heap.size, 1, none⟩ y).setCell ⟨w.heap.size, 2, none⟩ z) = W) :
    Keeps (fun _ => False) w W ∧ W.cell? ⟨w.heap.size, 0, none⟩ = some x ∧ W.cell? ⟨w.heap.size, 1, none⟩ = some y ∧ W.cell? ⟨w.heap.size, 2, none⟩ = some z ∧ ∀ u l, BytesAt w4 u l → BytesAt W u l := by
  subst hW
  have hb := heap_setCell_at (o := 2) (heap_setCell_at (o := 1) (heap_setCell_at (o := 0) h x) y) z
  refine ⟨hk.then (nlKeeps3 w4 w.heap.size x y z) (fun i hi e => by omega), ?_, ?_, ?_, fun u r hu => ?_⟩
  · rw [cell_of_blk hb]; rfl
  · rw [cell_of_blk hb]; rfl
  · rw [cell_of_blk hb]; rfl
  · refine ⟨RowAt.form hu, fun h0 => ?_, RowAt.room hu⟩
    obtain ⟨b, off, cap, e, hlt, hc⟩ := RowAt.cells hu h0
    have k3 := nlKeeps3 w4 w.heap.size x y z
    refine ⟨b, off, cap, e, Nat.lt_of_lt_of_le hlt k3.size, fun j q hq => ?_⟩
    have hne : b ≠ w.heap.size := by
      rintro rfl
      cases r with
      | nil => simp at h0
      | cons c r =>
        have h3 := hc 0 (.int .u8 (num c)) rfl
        rw [cell_of_blk h] at h3
        have h4 := List.mem_of_getElem? (by simpa using h3)
        simp at h4
    rw [k3.cell hlt hne]
    exact hc j q hq

theorem takeBytesP_text (t : Txt) : takeBytesP t = match textP t with
    | none => none
    | some (p, r) => if 20 < p.length then none else some (⟨3, 0, p⟩, r) := by
  cases t with
  | nil => rfl
  | cons c r =>
    unfold takeBytesP textP
    by_cases h : r.length < c.toNat
    · simp only [h, if_true]
      split <;> rfl
    · have e : (r.take c.toNat).length = c.toNat := by rw [List.length_take]; omega
      simp only [h, if_false, e]

set_option maxRecDepth 100000 in
set_option maxHeartbeats 2000000 in
theorem takeBytes_v (w : World) (v : Value) (t : Txt) (h : BytesAt w v t) (ht : t.length ≤ 140737488355328) :
    Calls Tryz.prog 126 #[v] w fun e w' => Keeps (fun _ => False) w w' ∧ Took w' e (takeBytesP t) := by
  have HK0 : Hid (Keeps (fun _ => False) w (w.alloc (.cells #[.int .i64 0, .int .i64 0, .string ⟨#[]⟩] 118))) := (Keeps.refl _ _).alloc _
  have HQ := hide (short_v _ v t (h.keepF (unhide HK0)) ht)
  obtain ⟨ao, cap, rfl⟩ := RowAt.form h
  have HR0 := hide (takeBytesP_text t)
  obtain ⟨R, HRR⟩ : ∃ R, Hid (takeBytesP t = R) := ⟨_, rfl⟩
  rw [unhide HRR] at HR0 ⊢
  generalize textP t = T at *
  clear HRR
  generalize t.length = L at *
  clear h
  go_enter Tryz.func126, Tryz.ntmps126
  go_wp2_with fail
  refine (unhide HQ).mono ?_
  rintro e w2 ⟨hk, x, y, ok, rfl, hT⟩
  have hB := (hk.block w.heap.size (by simp) id).trans (heap_alloc_new w (.cells #[.int .i64 0, .int .i64 0, .string ⟨#[]⟩] 118))
  have HK := hide ((unhide HK0).trans hk)
  have HB := hide hB
  have z0 := frozen_of_blk hB 0
  have z1 := frozen_of_blk hB 1
  have z2 := frozen_of_blk hB 2
  have p0 := (cell_of_blk hB 0).trans (show (#[.int .i64 0, .int .i64 0, .string ⟨#[]⟩] : Array Value)[0]? = some (.int .i64 0) from rfl)
  have p1 := (cell_of_blk hB 1).trans (show (#[.int .i64 0, .int .i64 0, .string ⟨#[]⟩] : Array Value)[1]? = some (.int .i64 0) from rfl)
  have p2 := (cell_of_blk hB 2).trans (show (#[.int .i64 0, .int .i64 0, .string ⟨#[]⟩] : Array Value)[2]? = some (.string ⟨#[]⟩) from rfl)
  clear HQ hk HK0 hB
  rcases T with _ | ⟨p, r⟩
  · obtain ⟨rfl, rfl, rfl⟩ := hT
    obtain rfl : R = none := unhide HR0
    go_wp2_with fail
    obtain ⟨hk9, s0, s1, s2, _⟩ := nlSet3 (unhide HK) (unhide HB) (.int .i64 0) (.int .i64 0) (.string ⟨#[]⟩) rfl
    refine bodyPost_ret (v := .tuple #[ValA.v ⟨0, 0, []⟩, .slice none 0 0, .bool false]) (by simp [results, go_sem, ValA.v, s0, s1, s2]) rfl ?_
    exact ⟨hk9, ⟨0, 0, []⟩, _, rfl⟩
  · obtain ⟨rfl, ⟨b, off, c, rfl, _⟩, ⟨b2, off2, c2, rfl, _⟩, hp, hr⟩ := hT
    have HR := hide hr
    have HR1 : Hid (R = if 20 < p.length then none else some (⟨3, 0, p⟩, r)) := unhide HR0
    clear HR0
    by_cases h20 : 20 < p.length
    · obtain rfl : R = none := (unhide HR1).trans (if_pos h20)
      have h20' : (20 : Int) < (p.length : Int) := by omega
      clear hp hr HR1
      generalize p.length = PL at *
      generalize r.length = RL at *
      go_wp2_with fail
      obtain ⟨hk9, s0, s1, s2, _⟩ := nlSet3 (unhide HK) (unhide HB) (.int .i64 0) (.int .i64 0) (.string ⟨#[]⟩) rfl
      refine bodyPost_ret (v := .tuple #[ValA.v ⟨0, 0, []⟩, .slice none 0 0, .bool false]) (by simp [results, go_sem, ValA.v, s0, s1, s2]) rfl ?_
      exact ⟨hk9, ⟨0, 0, []⟩, _, rfl⟩
    · obtain rfl : R = some (⟨3, 0, p⟩, r) := (unhide HR1).trans (if_neg h20)
      have h20' : (p.length : Int) ≤ 20 := by omega
      have hconv := conv_row hp
      have hconv2 := conv_row (hp.keepF (Keeps.refl _ w2).drew)
      clear hp hr HR1
      generalize p.length = PL at *
      generalize r.length = RL at *
      go_wp2_with fail
      obtain ⟨hk9, s0, s1, s2, hby⟩ := nlSet3 (unhide HK) (unhide HB) (.int .i64 3) (.int .i64 0) (str p) rfl
      refine bodyPost_ret (v := .tuple #[ValA.v ⟨3, 0, p⟩, .slice (some ⟨b2, off2, none⟩) RL c2, .bool true]) (by simp [results, go_sem, ValA.v, s0, s1, s2]) rfl ?_
      exact ⟨hk9, _, rfl, hby _ _ (unhide HR)⟩


end Go.Proofs.YtcicaifioghciaaGreatDoor
namespace Go.Proofs.YtcicaifioghciaaGreatDoor
open Go.RowKit Go.Maps

set_option maxRecDepth 100000 in
theorem number_none (a : Option Addr) (cap : Nat) (w : World) : Calls Tryz.prog 118 #[.slice a 0 cap] w fun e w' => e = .returned (.int .u64 0) ∧ w' = w := by
  go_enter Tryz.func118, Tryz.ntmps118
  go_wp2
  go_loopw [3, 8] (fun n i wr => n = .int .u64 0 ∧ i = .int .i64 0 ∧ wr = w) (fun _ _ _ => 0)
  case atStart => exact ⟨rfl, rfl, rfl⟩
  case round =>
    obtain ⟨rfl, rfl, rfl⟩ := hrel
    go_wp2
    go_ret
    exact ⟨rfl, rfl⟩

theorem or_zero64 (a : Int) (h0 : 0 ≤ a) (h1 : a ≤ 255) : bits .or .u64 0 a = a := by
  show IntKind.u64.wrap ((BitVec.ofInt 64 0 ||| BitVec.ofInt 64 a).toNat : Int) = a
  rw [show BitVec.ofInt 64 0 = 0#64 from rfl, BitVec.zero_or, BitVec.toNat_ofInt, IntKind.wrap_u64]
  omega

set_option maxRecDepth 100000 in
theorem number_one (b off cap : Nat) (c : UInt8) (w : World) (hc : w.cell? ⟨b, off, none⟩ = some (.int .u8 (num c))) :
    Calls Tryz.prog 118 #[.slice (some ⟨b, off, none⟩) 1 cap] w fun e w' => e = .returned (.int .u64 (num c)) ∧ w' = w := by
  have hcr := num_range c
  have HO := hide (or_zero64 (num c) hcr.1 hcr.2)
  go_enter Tryz.func118, Tryz.ntmps118
  go_wp2
  go_loopw [3, 8] (fun n i wr => (n = .int .u64 0 ∧ i = .int .i64 0 ∧ wr = w) ∨ (n = .int .u64 (num c) ∧ i = .int .i64 1 ∧ wr = w)) (fun _ i _ => 1 - (intOf i).toNat)
  case atStart => exact Or.inl ⟨rfl, rfl, rfl⟩
  case round =>
    rcases hrel with ⟨rfl, rfl, rfl⟩ | ⟨rfl, rfl, rfl⟩
    · go_wp2
      go_roundw
      case rel => exact Or.inr ⟨congrArg (Value.int .u64) (unhide HO), rfl, trivial⟩
      case measure => simp [intOf]
    · go_wp2
      go_ret
      exact ⟨rfl, rfl⟩

/-- What a taking's three answers tell. -/
def TookM (w' : World) (x : ValA) (y : Value) (ok : Bool) : Option (ValA × Txt) → Prop
  | none => ok = false
  | some p => ok = true ∧ x = p.1 ∧ BytesAt w' y p.2
theorem Took.form {w' : World} {e : Ending} {o : Option (ValA × Txt)} (h : Took w' e o) : ∃ (x : ValA) (y : Value) (ok : Bool), e = .returned (.tuple #[x.v, y, .bool ok]) ∧ TookM w' x y ok o := by
  cases o with
  | none =>
    obtain ⟨x, y, rfl⟩ := h
    exact ⟨x, y, false, rfl, rfl⟩
  | some p =>
    obtain ⟨y, rfl, hb⟩ := h
    exact ⟨p.1, y, true, rfl, rfl, rfl, hb⟩
theorem TookM.took {w' : World} {o : Option (ValA × Txt)} {x : ValA} {y : Value} {ok : Bool} (h : TookM w' x y ok o) : Took w' (.returned (.tuple #[x.v, y, .bool ok])) o := by
  cases o with
  | none =>
    obtain rfl : ok = false := h
    exact ⟨x, y, rfl⟩
  | some p =>
    obtain ⟨rfl, rfl, hb⟩ := h
    exact ⟨y, rfl, hb⟩
theorem TookM.keep {F : Nat → Prop} {w w' : World} {o : Option (ValA × Txt)} {x : ValA} {y : Value} {ok : Bool} (h : TookM w x y ok o) (hk : Keeps F w w') (hF : ∀ k, y.ownBlock = some k → ¬ F k) : TookM w' x y ok o := by
  cases o with
  | none => exact h
  | some p => exact ⟨h.1, h.2.1, RowAt.kept h.2.2 hk hF⟩

theorem bytes_apart {w w' : World} {y : Value} {r : Txt} {B : Nat} {cs : Array Value} {t : TypeId} (h : BytesAt w y r) (hb : w.heap[B]? = some (.cells cs t (0, 0))) (hcs : ∀ (k : Nat) (c : Int), cs[k]? ≠ some (Value.int .u8 c)) (hk : Keeps (fun q => q = B) w w') : BytesAt w' y r := by
  refine ⟨RowAt.form h, fun h0 => ?_, RowAt.room h⟩
  obtain ⟨b, off, cap, e, hlt, hc⟩ := RowAt.cells h h0
  refine ⟨b, off, cap, e, Nat.lt_of_lt_of_le hlt hk.size, fun j x hx => ?_⟩
  have hne : b ≠ B := by
    rintro rfl
    cases r with
    | nil => simp at h0
    | cons c r =>
      have := hc 0 (.int .u8 (num c)) rfl
      rw [cell_of_blk hb] at this
      exact hcs _ _ this
  rw [hk.cell hlt hne]
  exact hc j x hx
theorem taken_end {w w2 : World} {x : ValA} {y : Value} {ok : Bool} {o : Option (ValA × Txt)} (hk : Keeps (fun _ => False) w w2) (hb : w2.heap[w.heap.size]? = some (.cells #[.int .i64 0, .int .i64 0, .string ⟨#[]⟩] 118 (0, 0))) (hm : TookM w2 x y ok o) :
    Keeps (fun _ => False) w (((w2.setCell ⟨w.heap.size, 0, none⟩ (.int .i64 x.kind)).setCell ⟨w.heap.size, 1, none⟩ (.int .i64 x.n)).setCell ⟨w.heap.size, 2, none⟩ (.string ⟨x.s.toArray⟩)) ∧
    TookM (((w2.setCell ⟨w.heap.size, 0, none⟩ (.int .i64 x.kind)).setCell ⟨w.heap.size, 1, none⟩ (.int .i64 x.n)).setCell ⟨w.heap.size, 2, none⟩ (.string ⟨x.s.toArray⟩)) x y ok o ∧
    (((w2.setCell ⟨w.heap.size, 0, none⟩ (.int .i64 x.kind)).setCell ⟨w.heap.size, 1, none⟩ (.int .i64 x.n)).setCell ⟨w.heap.size, 2, none⟩ (.string ⟨x.s.toArray⟩)).cell? ⟨w.heap.size, 0, none⟩ = some (.int .i64 x.kind) ∧
    (((w2.setCell ⟨w.heap.size, 0, none⟩ (.int .i64 x.kind)).setCell ⟨w.heap.size, 1, none⟩ (.int .i64 x.n)).setCell ⟨w.heap.size, 2, none⟩ (.string ⟨x.s.toArray⟩)).cell? ⟨w.heap.size, 1, none⟩ = some (.int .i64 x.n) ∧
    (((w2.setCell ⟨w.heap.size, 0, none⟩ (.int .i64 x.kind)).setCell ⟨w.heap.size, 1, none⟩ (.int .i64 x.n)).setCell ⟨w.heap.size, 2, none⟩ (.string ⟨x.s.toArray⟩)).cell? ⟨w.heap.size, 2, none⟩ = some (.string ⟨x.s.toArray⟩) := by
  have hb3 := heap_setCell_at (o := 2) (heap_setCell_at (o := 1) (heap_setCell_at (o := 0) hb (.int .i64 x.kind)) (.int .i64 x.n)) (.string ⟨x.s.toArray⟩)
  have hs : ∀ (a : World) (o : Nat) (v : Value), Keeps (fun q => q = w.heap.size) w2 a → Keeps (fun q => q = w.heap.size) w2 (a.setCell ⟨w.heap.size, o, none⟩ v) := fun a o v h => h.setCell (fun _ => rfl) v
  have hk3 := hs _ 2 (.string ⟨x.s.toArray⟩) (hs _ 1 (.int .i64 x.n) (hs _ 0 (.int .i64 x.kind) (Keeps.refl _ w2)))
  refine ⟨hk.narrowS hk3 (fun i e => by omega), ?_, ?_, ?_, ?_⟩
  · cases o with
    | none => exact hm
    | some p =>
      refine ⟨hm.1, hm.2.1, bytes_apart hm.2.2 hb (fun k c => ?_) hk3⟩
      match k with
      | 0 => simp
      | 1 => simp
      | 2 => simp
      | k + 3 => simp
  · rw [cell_of_blk hb3]; rfl
  · rw [cell_of_blk hb3]; rfl
  · rw [cell_of_blk hb3]; rfl

set_option maxRecDepth 100000 in
set_option maxHeartbeats 2000000 in
theorem takeValue_v (ty : Int) (w : World) (v : Value) (t : Txt) (h : BytesAt w v t) (ht : t.length ≤ 140737488355328) :
    Calls Tryz.prog 119 #[.int .i64 ty, v] w fun e w' => Keeps (fun _ => False) w w' ∧ Took w' e (takeP ty t) := by
  obtain ⟨ao, cap, rfl⟩ := RowAt.form h
  obtain ⟨HB, hb, hbc⟩ := boxed w #[.int .i64 0, .int .i64 0, .string ⟨#[]⟩] 118
  have HF := hide (h.keepF (unhide HB))
  have HN := hide (heap_alloc_new w (.cells #[.int .i64 0, .int .i64 0, .string ⟨#[]⟩] 118))
  clear h hbc
  by_cases h1 : ty = 1
  · subst h1
    have HE : Hid (takeP 1 t = takeIntP t) := rfl
    have HQ := hide (takeInt_took _ _ t (unhide HF) ht)
    rw [unhide HE]
    go_enter Tryz.func119, Tryz.ntmps119
    go_wp2_with fail
    refine (unhide HQ).mono ?_
    rintro e w2 ⟨hk, hT⟩
    obtain ⟨x, y, ok, rfl, hm⟩ := hT.form
    have hblk : w2.heap[w.heap.size]? = some (.cells #[.int .i64 0, .int .i64 0, .string ⟨#[]⟩] 118 (0, 0)) := (hk.block _ hb id).trans (unhide HN)
    have c0 := cell_of_blk hblk 0
    have c1 := cell_of_blk hblk 1
    have c2 := cell_of_blk hblk 2
    have f0 := frozen_of_blk hblk 0
    have f1 := frozen_of_blk hblk 1
    have f2 := frozen_of_blk hblk 2
    have HEND := hide (taken_end ((unhide HB).trans hk) hblk hm)
    clear hblk hm hk hT HQ
    unfold ValA.v
    go_wp2_with fail
    obtain ⟨hK, hM, e0, e1, e2⟩ := unhide HEND
    generalize ((w2.setCell ⟨w.heap.size, 0, none⟩ (.int .i64 x.kind)).setCell ⟨w.heap.size, 1, none⟩ (.int .i64 x.n)).setCell ⟨w.heap.size, 2, none⟩ (.string ⟨x.s.toArray⟩) = w3 at *
    refine bodyPost_ret (v := .tuple #[x.v, y, .bool ok]) (by simp [results, go_sem, ValA.v, e0, e1, e2]) rfl ?_
    exact ⟨hK, hM.took⟩
  by_cases h2 : ty = 2
  · subst h2
    have HE : Hid (takeP 2 t = takeBoolP t) := rfl
    have HQ := hide (takeBool_v _ _ t (unhide HF) ht)
    rw [unhide HE]
    clear h1
    go_enter Tryz.func119, Tryz.ntmps119
    go_wp2_with fail
    refine (unhide HQ).mono ?_
    rintro e w2 ⟨hk, hT⟩
    obtain ⟨x, y, ok, rfl, hm⟩ := hT.form
    have hblk : w2.heap[w.heap.size]? = some (.cells #[.int .i64 0, .int .i64 0, .string ⟨#[]⟩] 118 (0, 0)) := (hk.block _ hb id).trans (unhide HN)
    have c0 := cell_of_blk hblk 0
    have c1 := cell_of_blk hblk 1
    have c2 := cell_of_blk hblk 2
    have f0 := frozen_of_blk hblk 0
    have f1 := frozen_of_blk hblk 1
    have f2 := frozen_of_blk hblk 2
    have HEND := hide (taken_end ((unhide HB).trans hk) hblk hm)
    clear hblk hm hk hT HQ
    unfold ValA.v
    go_wp2_with fail
    obtain ⟨hK, hM, e0, e1, e2⟩ := unhide HEND
    generalize ((w2.setCell ⟨w.heap.size, 0, none⟩ (.int .i64 x.kind)).setCell ⟨w.heap.size, 1, none⟩ (.int .i64 x.n)).setCell ⟨w.heap.size, 2, none⟩ (.string ⟨x.s.toArray⟩) = w3 at *
    refine bodyPost_ret (v := .tuple #[x.v, y, .bool ok]) (by simp [results, go_sem, ValA.v, e0, e1, e2]) rfl ?_
    exact ⟨hK, hM.took⟩
  · have HE : Hid (takeP ty t = takeBytesP t) := by show _ = _; unfold takeP; rw [if_neg h1, if_neg h2]
    have HQ := hide (takeBytes_v _ _ t (unhide HF) ht)
    rw [unhide HE]
    have h1' : (ty == 1) = false := beq_eq_false_iff_ne.2 h1
    have h2' : (ty == 2) = false := beq_eq_false_iff_ne.2 h2
    clear h1 h2
    go_enter Tryz.func119, Tryz.ntmps119
    go_wp2_with fail
    refine (unhide HQ).mono ?_
    rintro e w2 ⟨hk, hT⟩
    obtain ⟨x, y, ok, rfl, hm⟩ := hT.form
    have hblk : w2.heap[w.heap.size]? = some (.cells #[.int .i64 0, .int .i64 0, .string ⟨#[]⟩] 118 (0, 0)) := (hk.block _ hb id).trans (unhide HN)
    have c0 := cell_of_blk hblk 0
    have c1 := cell_of_blk hblk 1
    have c2 := cell_of_blk hblk 2
    have f0 := frozen_of_blk hblk 0
    have f1 := frozen_of_blk hblk 1
    have f2 := frozen_of_blk hblk 2
    have HEND := hide (taken_end ((unhide HB).trans hk) hblk hm)
    clear hblk hm hk hT HQ
    unfold ValA.v
    go_wp2_with fail
    obtain ⟨hK, hM, e0, e1, e2⟩ := unhide HEND
    generalize ((w2.setCell ⟨w.heap.size, 0, none⟩ (.int .i64 x.kind)).setCell ⟨w.heap.size, 1, none⟩ (.int .i64 x.n)).setCell ⟨w.heap.size, 2, none⟩ (.string ⟨x.s.toArray⟩) = w3 at *
    refine bodyPost_ret (v := .tuple #[x.v, y, .bool ok]) (by simp [results, go_sem, ValA.v, e0, e1, e2]) rfl ?_
    exact ⟨hK, hM.took⟩

end Go.Proofs.YtcicaifioghciaaGreatDoor
namespace Go.Proofs.YtcicaifioghciaaGreatDoor
open Go.RowKit Go.Maps

/-- Reading leniently, field by field. -/
def decLoop : List FieldA → Txt → Nat → Nat → Option (List ValA)
  | [], _, _, _ => some []
  | f :: rest, t, h, a =>
    if f.opt = true ∧ h % 2 ≠ 1 then (decLoop rest t (h / 2) a).map (⟨0, 0, []⟩ :: ·)
    else if (readB f t a).2 < 0 then none
    else (decLoop rest t (if f.opt then h / 2 else h) (readB f t a).2.toNat).map ((readB f t a).1 :: ·)
def head0 (l : List FieldA) (t : Txt) : Nat := if 0 < headB l then (t.getD 0 0).toNat else 0
def decodeB (l : List FieldA) (t : Txt) : List ValA × Int :=
  if schemaB l = false then ([], 60)
  else if t.length < headB l ∨ 64 < t.length then ([], 62)
  else match decLoop l t (head0 l t) (headB l) with
    | none => ([], 62)
    | some r => if errR l r = 0 ∧ encB l r = t then (r, 0) else ([], 62)

theorem readG_len : ∀ (f : Nat) (l : Txt) (u k u' k' : Nat), readG f l u k = some (u', k') → k' ≤ k + l.length ∧ k + 1 ≤ k' ∧ u' < 18446744073709551616
  | 0, _, _, _, _, _, h => by simp [readG] at h
  | _ + 1, [], _, _, _, _, h => by simp [readG] at h
  | f + 1, c :: r, u, k, u', k', h => by
    rw [readG] at h
    split at h
    · simp at h
      obtain ⟨rfl, rfl⟩ := h
      exact ⟨by simp, by omega, Nat.mod_lt _ (by omega)⟩
    · have := readG_len f r _ _ _ _ h
      simp only [List.length_cons]
      omega
theorem backB_range (u : Nat) (h : u < 18446744073709551616) : -9223372036854775808 ≤ backB u ∧ backB u ≤ 9223372036854775807 := by
  unfold backB
  split <;> omega
theorem readB_facts (f : FieldA) (t : Txt) (a : Nat) (ha : a ≤ t.length) : (readB f t a).2 ≤ (t.length : Int) ∧ -9223372036854775808 ≤ (readB f t a).1.n ∧ (readB f t a).1.n ≤ 9223372036854775807 := by
  unfold readB
  split
  · unfold readIntB
    cases h : readG 10 (t.drop a) 0 0 with
    | none => simp
    | some p =>
      obtain ⟨u, k⟩ := p
      have h1 := readG_len _ _ _ _ _ _ h
      rw [List.length_drop] at h1
      have h2 := backB_range u h1.2.2
      simp only
      omega
  · cases h : t[a]? with
    | none => simp
    | some c =>
      have h1 := get_lt h
      have h2 := num_range c
      simp only
      split
      · simp only; omega
      · split
        · simp only; omega
        · simp only; omega
theorem readB_pos (f : FieldA) (t : Txt) (a : Nat) : -1 ≤ (readB f t a).2 := by
  unfold readB
  split
  · unfold readIntB
    cases h : readG 10 (t.drop a) 0 0 with
    | none => simp
    | some p => simp only; omega
  · cases h : t[a]? with
    | none => simp
    | some c =>
      simp only
      split
      · simp only; omega
      · split
        · simp
        · simp only; omega

end Go.Proofs.YtcicaifioghciaaGreatDoor
