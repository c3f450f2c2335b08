import Derived.Test.YtbfkoamledkhnaaGreatDoorJa
import Derived.Test.YtbfkoamledkhnaaGreatDoorW
namespace Go.Proofs.YtbfkoamledkhnaaGreatDoor
open Go.RowKit Go.Maps

def runeOf (c d : Int) (m1 m2 m3 : Bool) : Int :=
  if 194 ≤ c ∧ c ≤ 223 ∧ m1 = true then 2
  else if 224 ≤ c ∧ c ≤ 239 ∧ m1 = true ∧ m2 = true then
    if (c = 224 ∧ d < 160) ∨ (c = 237 ∧ 159 < d) then 0 else 3
  else if 240 ≤ c ∧ c ≤ 244 ∧ m1 = true ∧ m2 = true ∧ m3 = true then
    if (c = 240 ∧ d < 144) ∨ (c = 244 ∧ 143 < d) then 0 else 4
  else 0
/-- How many bytes the rune of U+0080 or above takes that begins at a place of a text; 0: none does. -/
def runeB (t : Txt) (a : Nat) : Int :=
  if t.length ≤ a then 0
  else runeOf (nth t a) (nth t (a + 1)) (moreB t (a + 1)) (moreB t (a + 2)) (moreB t (a + 3))

theorem nth_of {t : Txt} {k : Nat} {c : UInt8} (h : t[k]? = some c) : nth t k = num c := by simp [nth, List.getD, h]
theorem moreB_some {t : Txt} {k : Nat} (h : moreB t k = true) : ∃ c, t[k]? = some c := by
  unfold moreB at h
  cases e : t[k]? with
  | none => simp [e] at h
  | some c => exact ⟨c, rfl⟩

set_option maxRecDepth 100000 in
set_option maxHeartbeats 1000000 in
theorem rune_any (t : Txt) (a : Nat) (ht : t.length ≤ 1099511627776) (w : World) :
    Calls Tryz.prog 80 #[str t, .int .i64 a] w fun e w' => e = .returned (.int .i64 (runeB t a)) ∧ w' = w := by
  cases h : t[a]? with
  | none =>
    have h1 := get_ge h
    have HR : Hid (runeB t a = 0) := by show _ = _; simp [runeB, h1]
    go_enter Tryz.func80, Tryz.ntmps80
    go_wp2
    go_ret
    exact ⟨ret_int (unhide HR).symm, rfl⟩
  | some c =>
    have h1 := get_lt h
    have q := str_at h
    have HR : Hid (runeB t a = runeOf (num c) (nth t (a + 1)) (moreB t (a + 1)) (moreB t (a + 2)) (moreB t (a + 3))) := by
      show _ = _
      unfold runeB
      rw [if_neg (by omega), nth_of h]
    obtain ⟨r, HE⟩ : ∃ r, Hid (runeB t a = r) := ⟨_, rfl⟩
    rw [unhide HE] at HR ⊢
    obtain ⟨d, HD⟩ : ∃ d, Hid (nth t (a + 1) = d) := ⟨_, rfl⟩
    obtain ⟨m1, H1⟩ : ∃ m, Hid (moreB t (a + 1) = m) := ⟨_, rfl⟩
    obtain ⟨m2, H2⟩ : ∃ m, Hid (moreB t (a + 2) = m) := ⟨_, rfl⟩
    obtain ⟨m3, H3⟩ : ∃ m, Hid (moreB t (a + 3) = m) := ⟨_, rfl⟩
    rw [unhide HD, unhide H1, unhide H2, unhide H3] at HR
    have M1 : ∀ k : Int, k = ((a + 1 : Nat) : Int) → ∀ w, Hid (Calls Tryz.prog 113 #[str t, .int .i64 k] w fun e w' => e = .returned (.bool m1) ∧ w' = w) := fun k hk w => by rw [← unhide H1]; exact more_at t k (a + 1) hk w
    have M2 : ∀ k : Int, k = ((a + 2 : Nat) : Int) → ∀ w, Hid (Calls Tryz.prog 113 #[str t, .int .i64 k] w fun e w' => e = .returned (.bool m2) ∧ w' = w) := fun k hk w => by rw [← unhide H2]; exact more_at t k (a + 2) hk w
    have M3 : ∀ k : Int, k = ((a + 3 : Nat) : Int) → ∀ w, Hid (Calls Tryz.prog 113 #[str t, .int .i64 k] w fun e w' => e = .returned (.bool m3) ∧ w' = w) := fun k hk w => by rw [← unhide H3]; exact more_at t k (a + 3) hk w
    have e1 : (c.toNat : Int) = num c := rfl
    have hc := num_range c
    have HQ : Hid (m1 = true → ∃ y : UInt8, a + 1 < t.length ∧ (∀ hk, (ByteArray.mk t.toArray)[a + 1]'hk = y) ∧ num y = d) := by
      intro hm
      obtain ⟨y, hy⟩ := moreB_some ((unhide H1).trans hm)
      exact ⟨y, get_lt hy, str_at hy, by rw [← unhide HD, nth_of hy]⟩
    clear h HE HD H1 H2 H3
    generalize num c = x at *
    go_enter Tryz.func80, Tryz.ntmps80
    go_wp2_with fail
    refine (unhide (M1 _ (by go_num) w)).mono ?_
    rintro e w1 ⟨rfl, rfl⟩
    go_wp2_with fail
    refine (unhide (M2 _ (by go_num) w1)).mono ?_
    rintro e w1 ⟨rfl, rfl⟩
    go_wp2_with fail
    refine (unhide (M3 _ (by go_num) w1)).mono ?_
    rintro e w1 ⟨rfl, rfl⟩
    clear M1 M2 M3
    cases m1 with
    | true =>
      obtain ⟨y, h2, q2, rfl⟩ := (unhide HQ) rfl
      have e2 : (y.toNat : Int) = num y := rfl
      have hy := num_range y
      generalize num y = d at *
      clear HQ
      cases m2 <;> cases m3 <;> go_wp2
      all_goals (go_ret; refine ⟨ret_int ?_, rfl⟩; have h := unhide HR; rw [h]; unfold runeOf; clear HR h; simp_all <;> omega)
    | false =>
      clear HQ
      have HR2 : Hid (r = 0) := by have := unhide HR; unfold runeOf at this; simp at this; exact this
      clear HR
      cases m2 <;> cases m3 <;> go_wp2
      all_goals (go_ret; exact ⟨ret_int (unhide HR2).symm, rfl⟩)

end Go.Proofs.YtbfkoamledkhnaaGreatDoor
namespace Go.Proofs.YtbfkoamledkhnaaGreatDoor
open Go.RowKit Go.Maps

/-- The byte that the escape at a place means (a \ stands there), and how many bytes it takes; 0: none. -/
def escB (t : Txt) (a : Nat) : Int × Int :=
  match t[a + 1]? with
  | none => (0, 0)
  | some c =>
    if num c = 34 then (34, 2) else if num c = 92 then (92, 2) else if num c = 110 then (10, 2) else if num c = 116 then (9, 2)
    else if num c = 120 then
      match t[a + 2]?, t[a + 3]? with
      | some h, some l => if hexB (num h) < 0 ∨ hexB (num l) < 0 then (0, 0) else (16 * hexB (num h) + hexB (num l), 4)
      | _, _ => (0, 0)
    else (0, 0)

theorem hexB_range (c : Int) : -1 ≤ hexB c ∧ hexB c ≤ 15 := by
  unfold hexB
  repeat' split
  all_goals omega

theorem escB_in (t : Txt) (a : Nat) {c h l : UInt8} (e1 : t[a + 1]? = some c) (e2 : t[a + 2]? = some h) (e3 : t[a + 3]? = some l) (hc : num c = 120) :
    escB t a = if hexB (num h) < 0 ∨ hexB (num l) < 0 then (0, 0) else (16 * hexB (num h) + hexB (num l), 4) := by
  simp [escB, e1, e2, e3, hc]

set_option maxRecDepth 100000 in
set_option maxHeartbeats 1000000 in
theorem escape_any (t : Txt) (a : Nat) (ha : a < t.length) (ht : t.length ≤ 1099511627776) (w : World) :
    Calls Tryz.prog 79 #[str t, .int .i64 a] w fun e w' => e = .returned (.tuple #[.int .u8 (escB t a).1, .int .i64 (escB t a).2]) ∧ w' = w := by
  cases h : t[a + 1]? with
  | none =>
    have h1 := get_ge h
    have HR : Hid (escB t a = (0, 0)) := by show _ = _; simp [escB, h]
    clear h
    rw [unhide HR]
    go_enter Tryz.func79, Tryz.ntmps79
    go_wp2
    go_ret2
    exact ⟨rfl, rfl⟩
  | some c =>
    have h1 := get_lt h
    have q := str_at h
    have e1 : (c.toNat : Int) = num c := rfl
    by_cases hin : num c = 120 ∧ a + 3 < t.length
    · obtain ⟨hc, h3⟩ := hin
      obtain ⟨x, hx⟩ : ∃ x, t[a + 2]? = some x := ⟨_, List.getElem?_eq_getElem (by omega)⟩
      obtain ⟨y, hy⟩ : ∃ y, t[a + 3]? = some y := ⟨_, List.getElem?_eq_getElem h3⟩
      have q2 := str_at hx
      have q3 := str_at hy
      have e2 : (x.toNat : Int) = num x := rfl
      have e3 : (y.toNat : Int) = num y := rfl
      rw [hc] at e1
      have HR := hide (escB_in t a h hx hy hc)
      have H2 := fun w => hide (hex_any (num x) (num_range x).1 (num_range x).2 w)
      have H3 := fun w => hide (hex_any (num y) (num_range y).1 (num_range y).2 w)
      have r2 := hexB_range (num x)
      have r3 := hexB_range (num y)
      generalize escB t a = r at *
      generalize hexB (num x) = X at *
      generalize hexB (num y) = Y at *
      clear h hx hy hc
      go_enter Tryz.func79, Tryz.ntmps79
      go_wp2_with fail
      refine (unhide (H2 w)).mono ?_
      rintro e w1 ⟨rfl, rfl⟩
      go_wp2_with fail
      refine (unhide (H3 _)).mono ?_
      rintro e w1 ⟨rfl, rfl⟩
      go_wp2
      all_goals (go_ret2; refine ⟨?_, rfl⟩; have h := unhide HR; clear HR H2 H3; (try rw [if_pos (by omega)] at h); (try rw [if_neg (by omega)] at h); subst h; rfl)
    · have HR : Hid (escB t a = if num c = 34 then (34, 2) else if num c = 92 then (92, 2) else if num c = 110 then (10, 2) else if num c = 116 then (9, 2) else (0, 0)) := by
        show _ = _
        unfold escB
        rw [h]
        simp only
        by_cases h120 : num c = 120
        · have h3 : t[a + 3]? = none := List.getElem?_eq_none (by simp [h120] at hin; omega)
          simp [h120, h3]
        · simp [h120]
      have HC : Hid (num c = 120 → t.length ≤ a + 3) := fun e => by simp [e] at hin; omega
      generalize escB t a = r at *
      generalize num c = x at *
      clear h hin
      by_cases h120 : x = 120
      · subst h120
        have h3 := unhide HC rfl
        have HR2 : Hid (r = (0, 0)) := by have := unhide HR; show _ = _; simpa using this
        rw [unhide HR2]
        go_enter Tryz.func79, Tryz.ntmps79
        go_wp2
        go_ret2
        exact ⟨rfl, rfl⟩
      · have h120' : (x == 120) = false := by simpa using h120
        clear HC h120
        go_enter Tryz.func79, Tryz.ntmps79
        go_wp2
        all_goals (go_ret2; refine ⟨?_, rfl⟩; have h := unhide HR; clear HR; simp_all)

end Go.Proofs.YtbfkoamledkhnaaGreatDoor
namespace Go.Proofs.YtbfkoamledkhnaaGreatDoor
open Go.RowKit Go.Maps

/-- The bytes of the piece at a place, and how many it takes (0: it is none). -/
def pieceB (t : Txt) (a : Nat) (c : UInt8) : Txt × Nat :=
  if c = 92 then ([UInt8.ofNat (escB t a).1.toNat], (escB t a).2.toNat)
  else if 32 ≤ num c ∧ num c ≤ 126 then ([c], 1)
  else ((t.drop a).take (runeB t a).toNat, (runeB t a).toNat)
def unqLoop : Nat → Txt → Txt → Nat → Option (Txt × Nat)
  | 0, _, _, _ => none
  | f + 1, t, b, a =>
    if b.length ≤ 20 then
      match t[a]? with
      | none => none
      | some c => if c = 34 then some (b, a + 1) else if (pieceB t a c).2 = 0 then none else unqLoop f t (b ++ (pieceB t a c).1) (a + (pieceB t a c).2)
    else none
def unquoteB (t : Txt) : Txt × Nat × Int :=
  if t[0]? = some 34 then (match unqLoop t.length t [] 1 with
    | some (b, n) => (b, n, 0)
    | none => ([], 0, 63))
  else ([], 0, 63)

theorem escB_range (t : Txt) (a : Nat) : 0 ≤ (escB t a).1 ∧ (escB t a).1 ≤ 255 ∧ ((escB t a).2 = 0 ∨ (escB t a).2 = 2 ∨ (escB t a).2 = 4) := by
  unfold escB
  split
  · simp
  · repeat' split
    all_goals simp
    rename_i h l h1 h2 hh
    have r1 := hexB_range (num h)
    have r2 := hexB_range (num l)
    omega
theorem runeB_le (t : Txt) (a : Nat) : runeB t a = 0 ∨ (2 ≤ runeB t a ∧ runeB t a ≤ 4 ∧ a + (runeB t a).toNat ≤ t.length) := by
  unfold runeB
  split
  · exact Or.inl rfl
  · have l1 : ∀ k, moreB t k = true → k < t.length := fun k h => by obtain ⟨c, hc⟩ := moreB_some h; exact get_lt hc
    unfold runeOf
    split
    · rename_i h; have := l1 _ h.2.2; right; simp; omega
    · split
      · rename_i h; have := l1 _ h.2.2.2
        split
        · simp
        · right; simp; omega
      · split
        · rename_i h; have := l1 _ h.2.2.2.2
          split
          · simp
          · right; simp; omega
        · simp
theorem conv_nil (w : World) : (convert 30 9 (.slice none 0 0)).run Tryz.prog w = .ok (str []) w := by
  rw [run_convert_bytes_string w 30 9 5 none 0 0 Tryz.underlying30 Tryz.underlying5 Tryz.underlying9]
  rfl
theorem conv_any {w : World} {B n : Nat} {v : Value} {A : Txt} (h : w.ownsRow B 5 1 v n (bs A)) : (convert 30 9 v).run Tryz.prog w = .ok (str A) w := by
  obtain ⟨h1, h2⟩ := h
  rcases h2 with ⟨hv, hn⟩ | ⟨g, cap, cur, hv, hb, hg, h3, h4, h5, h6⟩
  · subst hn
    obtain rfl : A = [] := by
      rw [bs_length] at h1
      exact List.eq_nil_of_length_eq_zero (by omega)
    rw [hv]
    exact conv_nil w
  · rw [bs_length, Nat.mul_one] at h1
    subst h1
    rw [hv]
    refine conv_bytes w g cap A (fun j c hj => ?_)
    rw [cell_of_blk hg]
    have h7 : (bs A)[j]? = some (.int .u8 (num c)) := by rw [bs_get, hj]; rfl
    rw [← h6, List.getElem?_take] at h7
    split at h7
    · simpa using h7
    · cases h7

end Go.Proofs.YtbfkoamledkhnaaGreatDoor
