import Derived.Test.YtdkihkgmldnpmabProg
import Derived.WalkKit
import Derived.WalkSpells
import Derived.WalkLawsBesides
namespace Go.Proofs.Ytdkihkgmldnpmab
open Go.RowKit

theorem ret_int {k : IntKind} {a b : Int} (h : a = b) : Ending.returned (.int k a) = .returned (.int k b) := by rw [h]
theorem ret_bool {a b : Bool} (h : a = b) : Ending.returned (.bool a) = .returned (.bool b) := by rw [h]
theorem hide {p : Prop} (h : p) : Hid p := h
theorem unhide {p : Prop} (h : Hid p) : p := h

/-- The bit of value 2 ^ j. -/
def pw (j : Nat) : Int := 2 ^ j

def on (f : List Bool) (i : Nat) : Bool := f[i]?.getD false
theorem on_of {f : List Bool} {i : Nat} {b : Bool} (h : f[i]? = some b) : on f i = b := by simp [on, h]
theorem on_lt {f : List Bool} {i : Nat} (h : on f i = true) : i < f.length := by
  unfold on at h
  by_cases hi : i < f.length
  · exact hi
  · rw [List.getElem?_eq_none (by omega)] at h; simp at h
theorem on_past {f : List Bool} {i : Nat} (h : f.length ≤ i) : on f i = false := by simp [on, List.getElem?_eq_none h]
theorem get_on {f : List Bool} {i : Nat} (h : i < f.length) : f[i]? = some (on f i) := by simp [on, List.getElem?_eq_getElem h]
theorem on_set (f : List Bool) (i j : Nat) (b : Bool) : on (f.set i b) j = if i = j then (if i < f.length then b else false) else on f j := by
  unfold on
  rw [List.getElem?_set]
  by_cases e : i = j
  · subst e
    by_cases h : i < f.length <;> simp [h]
  · simp [e]

/-- The value of the first j bits of byte k. -/
def part (f : List Bool) (k : Nat) : Nat → Int
  | 0 => 0
  | j + 1 => part f k j + (if on f (8 * k + j) then pw j else 0)
def byteAt (f : List Bool) (k : Nat) : Int := part f k 8
def pack (f : List Bool) : List Int := (List.range ((f.length + 7) / 8)).map (byteAt f)

def byte8 (b0 b1 b2 b3 b4 b5 b6 b7 : Bool) : Int := 0 + (if b0 then pw 0 else 0) + (if b1 then pw 1 else 0) + (if b2 then pw 2 else 0) + (if b3 then pw 3 else 0) + (if b4 then pw 4 else 0) + (if b5 then pw 5 else 0) + (if b6 then pw 6 else 0) + (if b7 then pw 7 else 0)
theorem byteAt_eq (f : List Bool) (k : Nat) : byteAt f k = byte8 (on f (8 * k)) (on f (8 * k + 1)) (on f (8 * k + 2)) (on f (8 * k + 3)) (on f (8 * k + 4)) (on f (8 * k + 5)) (on f (8 * k + 6)) (on f (8 * k + 7)) := rfl

def nth8 (j : Nat) (b0 b1 b2 b3 b4 b5 b6 b7 : Bool) : Bool := [b0, b1, b2, b3, b4, b5, b6, b7][j]?.getD false

theorem b8_and : ∀ j : Fin 8, ∀ b0 b1 b2 b3 b4 b5 b6 b7 : Bool, bits .and .u8 (byte8 b0 b1 b2 b3 b4 b5 b6 b7) (pw j.1) = if nth8 j.1 b0 b1 b2 b3 b4 b5 b6 b7 then pw j.1 else 0 := by decide +kernel
theorem b8_or : ∀ j : Fin 8, ∀ b0 b1 b2 b3 b4 b5 b6 b7 : Bool, bits .or .u8 (byte8 b0 b1 b2 b3 b4 b5 b6 b7) (pw j.1) = byte8 (b0 || decide (j.1 = 0)) (b1 || decide (j.1 = 1)) (b2 || decide (j.1 = 2)) (b3 || decide (j.1 = 3)) (b4 || decide (j.1 = 4)) (b5 || decide (j.1 = 5)) (b6 || decide (j.1 = 6)) (b7 || decide (j.1 = 7)) := by decide +kernel
theorem b8_not : ∀ j : Fin 8, ∀ b0 b1 b2 b3 b4 b5 b6 b7 : Bool, bits .andNot .u8 (byte8 b0 b1 b2 b3 b4 b5 b6 b7) (pw j.1) = byte8 (b0 && !decide (j.1 = 0)) (b1 && !decide (j.1 = 1)) (b2 && !decide (j.1 = 2)) (b3 && !decide (j.1 = 3)) (b4 && !decide (j.1 = 4)) (b5 && !decide (j.1 = 5)) (b6 && !decide (j.1 = 6)) (b7 && !decide (j.1 = 7)) := by decide +kernel
theorem b8_range : ∀ b0 b1 b2 b3 b4 b5 b6 b7 : Bool, 0 ≤ byte8 b0 b1 b2 b3 b4 b5 b6 b7 ∧ byte8 b0 b1 b2 b3 b4 b5 b6 b7 ≤ 255 := by decide +kernel

theorem nth8_on (f : List Bool) (k j : Nat) (hj : j < 8) : nth8 j (on f (8 * k)) (on f (8 * k + 1)) (on f (8 * k + 2)) (on f (8 * k + 3)) (on f (8 * k + 4)) (on f (8 * k + 5)) (on f (8 * k + 6)) (on f (8 * k + 7)) = on f (8 * k + j) := by
  match j, hj with
  | 0, _ => rfl
  | 1, _ => rfl
  | 2, _ => rfl
  | 3, _ => rfl
  | 4, _ => rfl
  | 5, _ => rfl
  | 6, _ => rfl
  | 7, _ => rfl

theorem byteAt_and (f : List Bool) (k j : Nat) (hj : j < 8) : bits .and .u8 (byteAt f k) (pw j) = if on f (8 * k + j) then pw j else 0 := by
  rw [byteAt_eq, b8_and ⟨j, hj⟩, nth8_on f k j hj]

theorem byteAt_or (f : List Bool) (k j : Nat) (hj : j < 8) (h : 8 * k + j < f.length) : bits .or .u8 (byteAt f k) (pw j) = byteAt (f.set (8 * k + j) true) k := by
  rw [byteAt_eq, byteAt_eq, b8_or ⟨j, hj⟩]
  simp only [on_set, if_pos h]
  match j, hj with
  | 0, _ => simp
  | 1, _ => simp
  | 2, _ => simp
  | 3, _ => simp
  | 4, _ => simp
  | 5, _ => simp
  | 6, _ => simp
  | 7, _ => simp

theorem byteAt_not (f : List Bool) (k j : Nat) (hj : j < 8) (h : 8 * k + j < f.length) : bits .andNot .u8 (byteAt f k) (pw j) = byteAt (f.set (8 * k + j) false) k := by
  rw [byteAt_eq, byteAt_eq, b8_not ⟨j, hj⟩]
  simp only [on_set, if_pos h]
  match j, hj with
  | 0, _ => simp
  | 1, _ => simp
  | 2, _ => simp
  | 3, _ => simp
  | 4, _ => simp
  | 5, _ => simp
  | 6, _ => simp
  | 7, _ => simp

theorem byteAt_range (f : List Bool) (k : Nat) : 0 ≤ byteAt f k ∧ byteAt f k ≤ 255 := by rw [byteAt_eq]; exact b8_range _ _ _ _ _ _ _ _

theorem byteAt_ext {f g : List Bool} {k : Nat} (h : ∀ j, j < 8 → on f (8 * k + j) = on g (8 * k + j)) : byteAt f k = byteAt g k := by
  rw [byteAt_eq, byteAt_eq, h 1 (by omega), h 2 (by omega), h 3 (by omega), h 4 (by omega), h 5 (by omega), h 6 (by omega), h 7 (by omega)]
  have := h 0 (by omega)
  simp only [Nat.add_zero] at this
  rw [this]

theorem pack_length (f : List Bool) : (pack f).length = (f.length + 7) / 8 := by simp [pack]
theorem pack_get (f : List Bool) (k : Nat) (h : k < (f.length + 7) / 8) : (pack f)[k]? = some (byteAt f k) := by simp [pack, h]
theorem pack_mem {f : List Bool} {x : Int} (h : x ∈ pack f) : 0 ≤ x ∧ x ≤ 255 := by
  simp only [pack, List.mem_map] at h
  obtain ⟨k, _, rfl⟩ := h
  exact byteAt_range f k

theorem pack_set (f : List Bool) (i : Nat) (b : Bool) : pack (f.set i b) = (pack f).set (i / 8) (byteAt (f.set i b) (i / 8)) := by
  apply List.ext_getElem?
  intro k
  by_cases hk : k < (f.length + 7) / 8
  · rw [pack_get _ _ (by simpa using hk), List.getElem?_set]
    by_cases e : i / 8 = k
    · subst e; simp [pack_length, hk]
    · rw [if_neg e, pack_get _ _ hk]
      congr 1
      apply byteAt_ext
      intro j hj
      rw [on_set, if_neg (by omega)]
  · rw [List.getElem?_eq_none (by simp [pack_length]; omega), List.getElem?_eq_none (by simp [pack_length]; omega)]

theorem pack_falses (n : Nat) : pack (List.replicate n false) = List.replicate ((n + 7) / 8) 0 := by
  apply List.ext_getElem?
  intro k
  by_cases hk : k < (n + 7) / 8
  · rw [pack_get _ _ (by simpa using hk)]
    simp [hk]
    have h : ∀ i, on (List.replicate n false) i = false := by
      intro i
      unfold on
      by_cases hi : i < n <;> simp [hi]
    rw [byteAt_eq]; simp only [h]; rfl
  · rw [List.getElem?_eq_none (by simp [pack_length]; omega), List.getElem?_eq_none (by simp; omega)]

/-- Two lists of one length with the same bytes are one. -/
theorem on_pack {f : List Bool} {i : Nat} (_h : i < f.length) : on f i = decide (bits .and .u8 (byteAt f (i / 8)) (pw (i % 8)) ≠ 0) := by
  have e := byteAt_and f (i / 8) (i % 8) (Nat.mod_lt _ (by decide))
  rw [show 8 * (i / 8) + i % 8 = i by omega] at e
  rw [e]
  cases on f i
  · simp
  · simp [pw]
    exact Int.ne_of_gt (Int.pow_pos (by decide))

/-- The bit i of bytes. -/
def bitI (l : List Int) (i : Nat) : Bool := decide (bits .and .u8 (l[i / 8]?.getD 0) (pw (i % 8)) ≠ 0)
def unpack (n : Nat) (l : List Int) : List Bool := (List.range n).map (bitI l)
theorem unpack_length (n : Nat) (l : List Int) : (unpack n l).length = n := by simp [unpack]
theorem on_unpack (n : Nat) (l : List Int) (i : Nat) (h : i < n) : on (unpack n l) i = bitI l i := by simp [on, unpack, h]

theorem b8_back : ∀ x : Fin 256, byte8 (decide (bits .and .u8 x.1 (pw 0) ≠ 0)) (decide (bits .and .u8 x.1 (pw 1) ≠ 0)) (decide (bits .and .u8 x.1 (pw 2) ≠ 0)) (decide (bits .and .u8 x.1 (pw 3) ≠ 0)) (decide (bits .and .u8 x.1 (pw 4) ≠ 0)) (decide (bits .and .u8 x.1 (pw 5) ≠ 0)) (decide (bits .and .u8 x.1 (pw 6) ≠ 0)) (decide (bits .and .u8 x.1 (pw 7) ≠ 0)) = (x.1 : Int) := by decide +kernel

theorem pack_unpack (n : Nat) (l : List Int) (hl : l.length = (n + 7) / 8) (hb : ∀ x ∈ l, 0 ≤ x ∧ x ≤ 255) (hi : ∀ i, n ≤ i → i < 8 * l.length → bitI l i = false) : pack (unpack n l) = l := by
  apply List.ext_getElem?
  intro k
  by_cases hk : k < (n + 7) / 8
  · rw [pack_get _ _ (by simpa [unpack_length] using hk)]
    have hk' : k < l.length := by omega
    rw [List.getElem?_eq_getElem hk']
    congr 1
    have hx := hb l[k] (List.getElem_mem hk')
    obtain ⟨x, hx'⟩ := Int.eq_ofNat_of_zero_le hx.1
    have h8 : ∀ j, j < 8 → on (unpack n l) (8 * k + j) = decide (bits .and .u8 (x : Int) (pw j) ≠ 0) := by
      intro j hj
      have hbit : bitI l (8 * k + j) = decide (bits .and .u8 (x : Int) (pw j) ≠ 0) := by
        unfold bitI
        rw [show (8 * k + j) / 8 = k by omega, show (8 * k + j) % 8 = j by omega, List.getElem?_eq_getElem hk', hx']
        rfl
      by_cases hlt : 8 * k + j < n
      · rw [on_unpack _ _ _ hlt, hbit]
      · rw [on_past (by rw [unpack_length]; omega), ← hbit, hi _ (by omega) (by omega)]
    rw [byteAt_eq, h8 1 (by omega), h8 2 (by omega), h8 3 (by omega), h8 4 (by omega), h8 5 (by omega), h8 6 (by omega), h8 7 (by omega)]
    have h0 := h8 0 (by omega)
    simp only [Nat.add_zero] at h0
    rw [h0, b8_back ⟨x, by omega⟩, hx']
  · rw [List.getElem?_eq_none (by simp [pack_length, unpack_length]; omega), List.getElem?_eq_none (by omega)]

theorem bitI_pack (f : List Bool) (i : Nat) (h : i < f.length) : bitI (pack f) i = on f i := by
  rw [on_pack h]
  unfold bitI
  rw [pack_get _ _ (by omega)]
  rfl

theorem b8_shift : ∀ j : Fin 8, ∀ x : Fin 256, (bits .and .u8 ((x.1 : Int) / 2 ^ j.1) 1 == 1) = decide (bits .and .u8 x.1 (pw j.1) ≠ 0) := by decide +kernel
theorem b8_div : ∀ j : Fin 8, ∀ x : Fin 256, ((x.1 : Int) / pw j.1 % 2 == 1) = decide (bits .and .u8 x.1 (pw j.1) ≠ 0) := by decide +kernel


set_option maxHeartbeats 400000 in
theorem bit_any (i : Nat) (w : World) :
    Calls Try.prog 25 #[.int .i64 i] w fun e w' => e = .returned (.int .u8 (pw (i % 8))) ∧ w' = w := by
  have h0 : (0 : Int) ≤ (i : Int) % 8 := by omega
  go_enter Try.func25, Try.ntmps25
  go_wp2
  go_ret
  refine ⟨ret_int ?_, rfl⟩
  unfold pw
  have h8 : i % 8 < 8 := Nat.mod_lt _ (by decide)
  clear h0
  generalize i % 8 = j at h8
  match j, h8 with
  | 0, _ => rfl
  | 1, _ => rfl
  | 2, _ => rfl
  | 3, _ => rfl
  | 4, _ => rfl
  | 5, _ => rfl
  | 6, _ => rfl
  | 7, _ => rfl

end Go.Proofs.Ytdkihkgmldnpmab
