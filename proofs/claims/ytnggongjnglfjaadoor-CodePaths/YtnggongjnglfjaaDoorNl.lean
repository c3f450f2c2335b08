import Derived.Test.YtnggongjnglfjaaDoorNk
namespace Go.Proofs.YtnggongjnglfjaaDoor
open Go.RowKit Go.Maps

def takeBoolP : Txt → Option (ValA × Txt)
  | [] => none
  | c :: r => if 1 < c.toNat then none else some (⟨2, num c, []⟩, r)
def takeBytesP : Txt → Option (ValA × Txt)
  | [] => none
  | c :: r => if 20 < c.toNat then none else if r.length < c.toNat then none else some (⟨3, 0, r.take c.toNat⟩, r.drop c.toNat)
def takeIntP (t : Txt) : Option (ValA × Txt) := (takeG 0 t 0).map fun p => (⟨1, backB p.1, []⟩, p.2)
def takeP (ty : Int) (t : Txt) : Option (ValA × Txt) := if ty = 1 then takeIntP t else if ty = 2 then takeBoolP t else takeBytesP t

/-- What a taking answers. -/
def Took (w' : World) (e : Ending) : Option (ValA × Txt) → Prop
  | none => ∃ (x : ValA) (y : Value), e = .returned (.tuple #[x.v, y, .bool false])
  | some (x, r) => ∃ y, e = .returned (.tuple #[x.v, y, .bool true]) ∧ BytesAt w' y r

theorem takeInt_took (w : World) (v : Value) (t : Txt) (h : BytesAt w v t) (ht : t.length ≤ 140737488355328) :
    Calls Tryd.prog 96 #[v] w fun e w' => Keeps (fun _ => False) w w' ∧ Took w' e (takeIntP t) := by
  refine (takeInt_v w v t h ht).mono ?_
  rintro e w' ⟨hk, hm⟩
  refine ⟨hk, ?_⟩
  unfold takeIntP
  cases hg : takeG 0 t 0 with
  | none => rw [hg] at hm; exact hm
  | some p => rw [hg] at hm; exact hm

set_option maxRecDepth 100000 in
set_option maxHeartbeats 2000000 in
theorem takeBool_v (w : World) (v : Value) (t : Txt) (h : BytesAt w v t) (ht : t.length ≤ 140737488355328) :
    Calls Tryd.prog 97 #[v] w fun e w' => Keeps (fun _ => False) w w' ∧ Took w' e (takeBoolP t) := by
  obtain ⟨ao, cap, rfl⟩ := RowAt.form h
  have HF := hide h
  cases t with
  | nil =>
    clear h
    go_enter Tryd.func97, Tryd.ntmps97
    go_wp2_with fail
    refine bodyPost_ret (v := .tuple #[ValA.v ⟨0, 0, []⟩, .slice none 0 0, .bool false]) (by simp [results, go_sem, ValA.v]) rfl ?_
    exact ⟨(Keeps.refl _ _).alloc _, ⟨0, 0, []⟩, _, rfl⟩
  | cons c r =>
    obtain ⟨b, off, cc, e1, hblt, hc⟩ := RowAt.cells (unhide HF) (by simp)
    simp only [Value.slice.injEq] at e1
    obtain ⟨rfl, _, rfl⟩ := e1
    have c0 := ((((Keeps.refl (fun _ => False) w).alloc (.cells #[.int .i64 0, .int .i64 0, str []] 101))).cell hblt id).trans (hc 0 (.int .u8 (num c)) rfl)
    rw [Nat.add_zero] at c0
    have hcr := num_range c
    have hroom := RowAt.room h _ _ _ rfl
    have HRB := hide (rest_bytes (unhide HF) (k := 1) (by simp))
    have hlen : ((c :: r).length : Int) = (r.length : Int) + 1 := by simp
    have i1 : (1 : Int) ≤ (cap : Int) := by simp at hroom; omega
    generalize hL : (c :: r).length = L at *
    have HLL := hide hL
    have i2 : (L : Int) ≤ (cap : Int) := by omega
    have i3 : (1 : Int) ≤ (L : Int) := by omega
    clear h hc hlen hroom hL
    by_cases hc1 : 1 < num c
    · have HE : Hid (takeBoolP (c :: r) = none) := if_pos (by unfold num at hc1; omega)
      rw [unhide HE]
      go_enter Tryd.func97, Tryd.ntmps97
      go_wp2_with fail
      refine bodyPost_ret (v := .tuple #[ValA.v ⟨0, 0, []⟩, .slice none 0 0, .bool false]) (by simp [results, go_sem, ValA.v]) rfl ?_
      exact ⟨(Keeps.refl _ _).alloc _, ⟨0, 0, []⟩, _, rfl⟩
    · have HE : Hid (takeBoolP (c :: r) = some (⟨2, num c, []⟩, r)) := if_neg (by unfold num at hc1; omega)
      rw [unhide HE]
      have hc2 : num c ≤ 1 := by omega
      go_enter Tryd.func97, Tryd.ntmps97
      go_wp2_with fail
      go_region
      generalize (if cap = 1 then some (⟨b, off, none⟩ : Addr) else some ⟨b, off + 1, none⟩) = A at *
      go_wp2_with fail
      refine bodyPost_ret (v := .tuple #[ValA.v ⟨2, num c, []⟩, .slice A (L - 1) (cap - 1), .bool true]) (by simp [results, go_sem, ValA.v]) rfl ?_
      exact ⟨((Keeps.refl _ _).alloc _).drew, _, rfl, (unhide HRB).keepF (((Keeps.refl _ _).alloc _).drew)⟩

theorem conv_row {w : World} {b off cap : Nat} {l : Txt} (h : BytesAt w (.slice (some ⟨b, off, none⟩) l.length cap) l) :
    (convert 23 9 (.slice (some ⟨b, off, none⟩) l.length cap)).run Tryd.prog w = .ok (str l) w := by
  refine conv_at w b off cap l (fun j c hc => ?_)
  obtain ⟨b', off', cc, e1, _, hh⟩ := RowAt.cells h (by have := get_lt hc; omega)
  simp only [Value.slice.injEq, Option.some.injEq, Addr.mk.injEq] at e1
  obtain ⟨⟨rfl, rfl, _⟩, _, _⟩ := e1
  exact hh j _ (by rw [bs_get, hc]; rfl)
theorem first_bytes {w : World} {a : Option Addr} {cap n : Nat} {t : Txt} (h : BytesAt w (.slice a t.length cap) t) (hn : n ≤ t.length) : BytesAt w (.slice a n cap) (t.take n) := by
  have e : bs t = bs (t.take n) ++ bs (t.drop n) := by rw [← bs_append, List.take_append_drop]
  unfold BytesAt at *
  rw [e] at h
  rw [List.length_take, Nat.min_eq_left hn]
  exact h.first hn

set_option maxRecDepth 100000 in
set_option maxHeartbeats 2000000 in
theorem takeBytes_v (w : World) (v : Value) (t : Txt) (h : BytesAt w v t) (ht : t.length ≤ 140737488355328) :
    Calls Tryd.prog 98 #[v] w fun e w' => Keeps (fun _ => False) w w' ∧ Took w' e (takeBytesP t) := by
  obtain ⟨ao, cap, rfl⟩ := RowAt.form h
  have HF := hide h
  cases t with
  | nil =>
    clear h
    go_enter Tryd.func98, Tryd.ntmps98
    go_wp2_with fail
    refine bodyPost_ret (v := .tuple #[ValA.v ⟨0, 0, []⟩, .slice none 0 0, .bool false]) (by simp [results, go_sem, ValA.v]) rfl ?_
    exact ⟨(Keeps.refl _ _).alloc _, ⟨0, 0, []⟩, _, rfl⟩
  | cons c r =>
    obtain ⟨b, off, cc, e1, hblt, hc⟩ := RowAt.cells (unhide HF) (by simp)
    simp only [Value.slice.injEq] at e1
    obtain ⟨rfl, _, rfl⟩ := e1
    have c0 := ((((Keeps.refl (fun _ => False) w).alloc (.cells #[.int .i64 0, .int .i64 0, str []] 101))).cell hblt id).trans (hc 0 (.int .u8 (num c)) rfl)
    rw [Nat.add_zero] at c0
    have hroom := RowAt.room h _ _ _ rfl
    obtain ⟨C, hC⟩ : ∃ C, c.toNat = C := ⟨_, rfl⟩
    have hCn : num c = (C : Int) := by unfold num; omega
    rw [hCn] at c0
    have hC255 : (C : Int) ≤ 255 := by have := c.toNat_lt; omega
    have HRB1 := hide (rest_bytes (unhide HF) (k := 1) (by simp))
    have HRBF : Hid (∀ k, k ≤ (c :: r).length → BytesAt w (.slice (if cap = k then some ⟨b, off, none⟩ else some ⟨b, off + k, none⟩) ((c :: r).length - k) (cap - k)) ((c :: r).drop k)) := fun k hk => rest_bytes (unhide HF) hk
    have HLR : Hid ((c :: r).length = r.length + 1) := by simp [Hid]
    have HTK : Hid (takeBytesP (c :: r) = if 20 < C then none else if r.length < C then none else some (⟨3, 0, r.take C⟩, r.drop C)) := by show _ = _; rw [← hC]; rfl
    have i1 : (1 : Int) ≤ (cap : Int) := by have := unhide HLR; omega
    have HRL : Hid (r.length = (c :: r).length - 1) := by simp [Hid]
    generalize hL : (c :: r).length = L at *
    have HLL := hide hL
    have i2 : (L : Int) ≤ (cap : Int) := by omega
    have i3 : (1 : Int) ≤ (L : Int) := by have := unhide HLR; omega
    clear h hc hroom hCn hL hC
    by_cases hc1 : 20 < C
    · have HE : Hid (takeBytesP (c :: r) = none) := by show _ = _; rw [unhide HTK, if_pos hc1]
      rw [unhide HE]
      have hc1' : (20 : Int) < (C : Int) := by omega
      go_enter Tryd.func98, Tryd.ntmps98
      go_wp2_with fail
      refine bodyPost_ret (v := .tuple #[ValA.v ⟨0, 0, []⟩, .slice none 0 0, .bool false]) (by simp [results, go_sem, ValA.v]) rfl ?_
      exact ⟨(Keeps.refl _ _).alloc _, ⟨0, 0, []⟩, _, rfl⟩
    · have hc1' : (C : Int) ≤ 20 := by omega
      by_cases hc3 : r.length < C
      · have HE : Hid (takeBytesP (c :: r) = none) := by show _ = _; rw [unhide HTK, if_neg hc1, if_pos hc3]
        rw [unhide HE]
        have hc2' : (L : Int) < (C : Int) + 1 := by have := unhide HLR; omega
        have hc3' : (L : Int) < 1 + (C : Int) := by omega
        go_enter Tryd.func98, Tryd.ntmps98
        go_wp2_with fail
        refine bodyPost_ret (v := .tuple #[ValA.v ⟨0, 0, []⟩, .slice none 0 0, .bool false]) (by simp [results, go_sem, ValA.v]) rfl ?_
        exact ⟨(Keeps.refl _ _).alloc _, ⟨0, 0, []⟩, _, rfl⟩
      · have HE : Hid (takeBytesP (c :: r) = some (⟨3, 0, r.take C⟩, r.drop C)) := by show _ = _; rw [unhide HTK, if_neg hc1, if_neg hc3]
        rw [unhide HE]
        have hc3' : 1 + (C : Int) ≤ (L : Int) := by have := unhide HLR; omega
        have HRB2 := hide ((unhide HRBF) (C + 1) (by have := unhide HLR; omega))
        have hconv : (convert 23 9 (.slice (if cap = 1 then some ⟨b, off, none⟩ else some ⟨b, off + 1, none⟩) C (cap - 1))).run Tryd.prog (w.alloc (.cells #[.int .i64 0, .int .i64 0, .string ⟨#[]⟩] 101)).drew = .ok (str (r.take C)) (w.alloc (.cells #[.int .i64 0, .int .i64 0, .string ⟨#[]⟩] 101)).drew := by
          have h1 := unhide HRB1
          simp only [List.drop_one, List.tail_cons] at h1
          rw [← unhide HRL] at h1
          have h2 := (first_bytes h1 (n := C) (by omega)).keepF (((Keeps.refl _ _).alloc (.cells #[.int .i64 0, .int .i64 0, .string ⟨#[]⟩] 101)).drew)
          have hl : (r.take C).length = C := by rw [List.length_take]; omega
          by_cases h : cap = 1
          · rw [if_pos h] at h2 ⊢
            have := conv_row (l := r.take C) (b := b) (off := off) (cap := cap - 1) (w := (w.alloc (.cells #[.int .i64 0, .int .i64 0, .string ⟨#[]⟩] 101)).drew) (by rw [hl]; exact h2)
            rw [hl] at this
            exact this
          · rw [if_neg h] at h2 ⊢
            have := conv_row (l := r.take C) (b := b) (off := off + 1) (cap := cap - 1) (w := (w.alloc (.cells #[.int .i64 0, .int .i64 0, .string ⟨#[]⟩] 101)).drew) (by rw [hl]; exact h2)
            rw [hl] at this
            exact this
        have i5 : (C : Int) + 1 ≤ (cap : Int) := by omega
        have i6 : ((C + 1 : Nat) : Int) ≤ (L : Int) := by omega
        go_enter Tryd.func98, Tryd.ntmps98
        go_wp2_with fail
        rw [show (1 : Int) + (C : Int) = ((C + 1 : Nat) : Int) by omega]
        go_region
        clear hconv
        generalize (if cap = 1 then some (⟨b, off, none⟩ : Addr) else some ⟨b, off + 1, none⟩) = A1 at *
        generalize (if cap = C + 1 then some (⟨b, off, none⟩ : Addr) else some ⟨b, off + (C + 1), none⟩) = A at *
        go_wp2_with fail
        refine bodyPost_ret (v := .tuple #[ValA.v ⟨3, 0, r.take C⟩, .slice A (L - (C + 1)) (cap - (C + 1)), .bool true]) (by simp [results, go_sem, ValA.v]) rfl ?_
        exact ⟨((Keeps.refl _ _).alloc _).drew, _, rfl, (unhide HRB2).keepF (((Keeps.refl _ _).alloc _).drew)⟩

end Go.Proofs.YtnggongjnglfjaaDoor
