import Derived.Test.YtnggongjnglfjaaDoorFa
import Derived.Test.YtnggongjnglfjaaDoorDa
namespace Go.Proofs.YtnggongjnglfjaaDoor
open Go.RowKit Go.Maps

/-- What a taking's three answers tell. -/
def TookI (w' : World) (n : Int) (y : Value) (ok : Bool) (bk : Option Nat) : Option (Int × Txt) → Prop
  | none => ok = false
  | some (m, r) => ok = true ∧ n = m ∧ BytesAt w' y r ∧ y.ownBlock = bk
def TookS (w' : World) (s : Txt) (y : Value) (ok : Bool) (bk : Option Nat) : Option (Txt × Txt) → Prop
  | none => ok = false
  | some (m, r) => ok = true ∧ s = m ∧ BytesAt w' y r ∧ y.ownBlock = bk
def byteP : Txt → Option (Int × Txt)
  | [] => none
  | c :: r => some (num c, r)
def textP : Txt → Option (Txt × Txt)
  | [] => none
  | c :: r => if r.length < c.toNat then none else some (r.take c.toNat, r.drop c.toNat)
def intP (t : Txt) : Option (Int × Txt) := (takeG 0 t 0).map fun p => (backB p.1, p.2)

set_option maxRecDepth 100000 in
set_option maxHeartbeats 1000000 in
theorem takeByte_v (w : World) (v : Value) (t : Txt) (h : BytesAt w v t) (ht : t.length ≤ 4096) :
    Calls Tryd.prog 45 #[v] w fun e w' => Keeps (fun _ => False) w w' ∧ ∃ n y ok, e = .returned (.tuple #[.int .i64 n, y, .bool ok]) ∧ TookI w' n y ok v.ownBlock (byteP t) := by
  obtain ⟨ao, cap, rfl⟩ := RowAt.form h
  have HF := hide h
  cases t with
  | nil =>
    clear h
    go_enter Tryd.func45, Tryd.ntmps45
    go_wp2_with fail
    go_ret3
    exact ⟨Keeps.refl _ _, _, _, _, rfl, rfl⟩
  | cons c r =>
    obtain ⟨b, off, cc, e1, hblt, hc⟩ := RowAt.cells (unhide HF) (by simp)
    simp only [Value.slice.injEq] at e1
    obtain ⟨rfl, _, rfl⟩ := e1
    have c0 := hc 0 (.int .u8 (num c)) rfl
    rw [Nat.add_zero] at c0
    have hcr := num_range c
    have hroom := RowAt.room h _ _ _ rfl
    have HRB := hide (rest_bytes (unhide HF) (k := 1) (by simp))
    have hlen : ((c :: r).length : Int) = (r.length : Int) + 1 := by simp
    have i1 : (1 : Int) ≤ (cap : Int) := by simp at hroom; omega
    generalize hL : (c :: r).length = L at *
    have HLL := hide hL
    have i2 : (L : Int) ≤ (cap : Int) := by omega
    have i3 : (1 : Int) ≤ (L : Int) := by omega
    clear h hc hlen hroom hL
    go_enter Tryd.func45, Tryd.ntmps45
    go_wp2_with fail
    go_region
    have HAB : Hid ((Value.slice (if cap = 1 then some (⟨b, off, none⟩ : Addr) else some ⟨b, off + 1, none⟩) (L - 1) (cap - 1)).ownBlock = some b) := by show _ = _; split <;> rfl
    generalize (if cap = 1 then some (⟨b, off, none⟩ : Addr) else some ⟨b, off + 1, none⟩) = A at *
    go_wp2_with fail
    go_ret3
    exact ⟨(Keeps.refl _ _).drew, _, _, _, rfl, rfl, rfl, (unhide HRB).keepF ((Keeps.refl _ _).drew), unhide HAB⟩

set_option maxRecDepth 100000 in
set_option maxHeartbeats 2000000 in
theorem takeText_v (w : World) (v : Value) (t : Txt) (h : BytesAt w v t) (ht : t.length ≤ 4096) :
    Calls Tryd.prog 44 #[v] w fun e w' => Keeps (fun _ => False) w w' ∧ ∃ s y ok, e = .returned (.tuple #[str s, y, .bool ok]) ∧ TookS w' s y ok v.ownBlock (textP t) := by
  obtain ⟨ao, cap, rfl⟩ := RowAt.form h
  have HF := hide h
  cases t with
  | nil =>
    clear h
    go_enter Tryd.func44, Tryd.ntmps44
    go_wp2_with fail
    go_ret3
    exact ⟨Keeps.refl _ _, [], _, _, rfl, rfl⟩
  | cons c r =>
    obtain ⟨b, off, cc, e1, hblt, hc⟩ := RowAt.cells (unhide HF) (by simp)
    simp only [Value.slice.injEq] at e1
    obtain ⟨rfl, _, rfl⟩ := e1
    have c0 := hc 0 (.int .u8 (num c)) rfl
    rw [Nat.add_zero] at c0
    have hroom := RowAt.room h _ _ _ rfl
    obtain ⟨C, hC⟩ : ∃ C, c.toNat = C := ⟨_, rfl⟩
    have hCn : num c = (C : Int) := by unfold num; omega
    rw [hCn] at c0
    have hC255 : (C : Int) ≤ 255 := by have := c.toNat_lt; omega
    have HRB1 := hide (rest_bytes (unhide HF) (k := 1) (by simp))
    have HRBF : Hid (∀ k, k ≤ (c :: r).length → BytesAt w (.slice (if cap = k then some ⟨b, off, none⟩ else some ⟨b, off + k, none⟩) ((c :: r).length - k) (cap - k)) ((c :: r).drop k)) := fun k hk => rest_bytes (unhide HF) hk
    have HLR : Hid ((c :: r).length = r.length + 1) := by simp [Hid]
    have HTK : Hid (textP (c :: r) = if r.length < C then none else some (r.take C, r.drop C)) := by show _ = _; rw [← hC]; rfl
    have i1 : (1 : Int) ≤ (cap : Int) := by have := unhide HLR; omega
    have HRL : Hid (r.length = (c :: r).length - 1) := by simp [Hid]
    generalize hL : (c :: r).length = L at *
    have HLL := hide hL
    have i2 : (L : Int) ≤ (cap : Int) := by omega
    have i3 : (1 : Int) ≤ (L : Int) := by have := unhide HLR; omega
    clear h hc hroom hCn hL hC
    by_cases hc3 : r.length < C
    · have HE : Hid (textP (c :: r) = none) := by show _ = _; rw [unhide HTK, if_pos hc3]
      rw [unhide HE]
      have hc2' : (L : Int) < (C : Int) + 1 := by have := unhide HLR; omega
      have hc3' : (L : Int) < 1 + (C : Int) := by omega
      go_enter Tryd.func44, Tryd.ntmps44
      go_wp2_with fail
      go_ret3
      exact ⟨Keeps.refl _ _, [], _, _, rfl, rfl⟩
    · have HE : Hid (textP (c :: r) = some (r.take C, r.drop C)) := by show _ = _; rw [unhide HTK, if_neg hc3]
      rw [unhide HE]
      have hc3' : 1 + (C : Int) ≤ (L : Int) := by have := unhide HLR; omega
      have HRB2 := hide ((unhide HRBF) (C + 1) (by have := unhide HLR; omega))
      have hconv : (convert 23 9 (.slice (if cap = 1 then some ⟨b, off, none⟩ else some ⟨b, off + 1, none⟩) C (cap - 1))).run Tryd.prog w.drew = .ok (str (r.take C)) w.drew := by
        have h1 := unhide HRB1
        simp only [List.drop_one, List.tail_cons] at h1
        rw [← unhide HRL] at h1
        have h2 := (first_bytes h1 (n := C) (by omega)).keepF ((Keeps.refl _ _).drew)
        have hl : (r.take C).length = C := by rw [List.length_take]; omega
        by_cases h : cap = 1
        · rw [if_pos h] at h2 ⊢
          have := conv_row (l := r.take C) (b := b) (off := off) (cap := cap - 1) (w := w.drew) (by rw [hl]; exact h2)
          rw [hl] at this
          exact this
        · rw [if_neg h] at h2 ⊢
          have := conv_row (l := r.take C) (b := b) (off := off + 1) (cap := cap - 1) (w := w.drew) (by rw [hl]; exact h2)
          rw [hl] at this
          exact this
      have i5 : (C : Int) + 1 ≤ (cap : Int) := by omega
      have i6 : ((C + 1 : Nat) : Int) ≤ (L : Int) := by omega
      go_enter Tryd.func44, Tryd.ntmps44
      go_wp2_with fail
      rw [show (1 : Int) + (C : Int) = ((C + 1 : Nat) : Int) by omega]
      go_region
      clear hconv
      have HAB : Hid ((Value.slice (if cap = C + 1 then some (⟨b, off, none⟩ : Addr) else some ⟨b, off + (C + 1), none⟩) (L - (C + 1)) (cap - (C + 1))).ownBlock = some b) := by show _ = _; split <;> rfl
      generalize (if cap = 1 then some (⟨b, off, none⟩ : Addr) else some ⟨b, off + 1, none⟩) = A1 at *
      generalize (if cap = C + 1 then some (⟨b, off, none⟩ : Addr) else some ⟨b, off + (C + 1), none⟩) = A at *
      go_wp2_with fail
      go_ret3
      exact ⟨(Keeps.refl _ _).drew, _, _, _, rfl, rfl, rfl, (unhide HRB2).keepF ((Keeps.refl _ _).drew), unhide HAB⟩

end Go.Proofs.YtnggongjnglfjaaDoor
