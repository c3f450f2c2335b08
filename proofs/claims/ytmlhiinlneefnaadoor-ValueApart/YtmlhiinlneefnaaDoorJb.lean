import Derived.Test.YtmlhiinlneefnaaDoorF
import Derived.Test.YtmlhiinlneefnaaDoorT
import Derived.Test.YtmlhiinlneefnaaDoorJa
import Derived.Test.YtmlhiinlneefnaaDoorW
namespace Go.Proofs.YtmlhiinlneefnaaDoor
open Go.RowKit Go.Maps

/-- What digits tell. -/
def val (l : Txt) : Int := l.foldl (fun a c => a * 10 + num c - 48) 0
theorem val_snoc (l : Txt) (c : UInt8) : val (l ++ [c]) = val l * 10 + num c - 48 := by simp [val]
theorem val_decN (k : Nat) : ∀ u, u ≤ k → val (decN u) = u := by
  induction k with
  | zero => intro u h; obtain rfl : u = 0 := by omega
            simp [decN_zero, val]
  | succ k ih =>
    intro u h
    by_cases h0 : u = 0
    · subst h0; simp [decN_zero, val]
    · rw [decN_pos (by omega), val_snoc, digit_num, ih (u / 10) (by omega)]
      omega
theorem decN_ge (k : Nat) : ∀ u, u ≤ k → ∀ c ∈ decN u, 48 ≤ num c := by
  induction k with
  | zero => intro u h; obtain rfl : u = 0 := by omega
            simp [decN_zero]
  | succ k ih =>
    intro u h c hc
    by_cases h0 : u = 0
    · subst h0; simp [decN_zero] at hc
    · rw [decN_pos (by omega), List.mem_append] at hc
      rcases hc with hc | hc
      · exact ih (u / 10) (by omega) c hc
      · simp only [List.mem_singleton] at hc
        rw [hc, digit_num]
        omega

def neg (t : Txt) : Bool := decide (t[0]? = some 45)
/-- What is read of the first k. -/
def pre (t : Txt) (k : Nat) : Txt := if neg t then (t.take k).drop 1 else t.take k
def readN (t : Txt) : Int := if neg t then wrap64 (-wrap64 (val (t.drop 1))) else wrap64 (val t)
def numberB (t : Txt) : Int × Bool := if 20 < t.length then (0, false) else (readN t, decide (decimal (readN t) = t))

theorem wrap64_range (x : Int) : -9223372036854775808 ≤ wrap64 x ∧ wrap64 x ≤ 9223372036854775807 := by unfold wrap64; omega
theorem readN_range (t : Txt) : -9223372036854775808 ≤ readN t ∧ readN t ≤ 9223372036854775807 := by
  unfold readN
  split <;> exact wrap64_range _
theorem readN_decimal (n : Int) (h0 : -9223372036854775808 ≤ n) (h1 : n ≤ 9223372036854775807) : readN (decimal n) = n := by
  by_cases hz : n = 0
  · subst hz; decide +kernel
  unfold decimal
  rw [if_neg hz]
  by_cases hn : n < 0
  · rw [if_pos hn]
    unfold readN
    rw [if_pos (by simp [neg])]
    rw [List.drop_one, List.tail_cons, val_decN _ _ (Nat.le_refl _)]
    unfold wrap64
    omega
  · rw [if_neg hn]
    unfold readN
    rw [if_neg, val_decN _ _ (Nat.le_refl _)]
    · unfold wrap64; omega
    · simp only [neg, decide_eq_true_eq]
      intro e
      have := decN_ge _ _ (Nat.le_refl _) 45 (List.mem_of_getElem? e)
      simp [num] at this
theorem decimal_length (n : Int) (h0 : -9223372036854775808 ≤ n) (h1 : n ≤ 9223372036854775807) : (decimal n).length ≤ 20 := by
  unfold decimal
  have := decN_20 n.natAbs (by omega)
  split
  · simp
  · split
    · simp; omega
    · omega
/-- What is taken is written so, and what is written so is taken. -/
theorem numberB_ok (t : Txt) (h : (numberB t).2 = true) : decimal (numberB t).1 = t ∧ -9223372036854775808 ≤ (numberB t).1 ∧ (numberB t).1 ≤ 9223372036854775807 := by
  unfold numberB at *
  split
  · simp_all
  · rename_i hl
    rw [if_neg hl] at h
    exact ⟨of_decide_eq_true h, readN_range t⟩
theorem numberB_decimal (n : Int) (h0 : -9223372036854775808 ≤ n) (h1 : n ≤ 9223372036854775807) : numberB (decimal n) = (n, true) := by
  unfold numberB
  rw [if_neg (by have := decimal_length n h0 h1; omega), readN_decimal n h0 h1]
  simp

theorem pre_zero (t : Txt) : pre t 0 = [] := by simp [pre]
theorem pre_neg {t : Txt} (h : neg t = true) : pre t 1 = [] := by
  unfold pre
  rw [if_pos h]
  apply List.drop_eq_nil_of_le
  simp; omega
theorem pre_snoc {t : Txt} {k : Nat} {c : UInt8} (h : t[k]? = some c) (hk : neg t = false ∨ 0 < k) : pre t (k + 1) = pre t k ++ [c] := by
  unfold pre
  rw [take_snoc _ _ _ h]
  split
  · rename_i hn
    rw [List.drop_append_of_le_length]
    have := get_lt h
    rcases hk with hk | hk
    · simp [hn] at hk
    · simp; omega
  · rfl
theorem pre_all (t : Txt) : pre t t.length = if neg t then t.drop 1 else t := by unfold pre; rw [List.take_length]
theorem wrap64_step (v c : Int) : wrap64 (wrap64 (wrap64 (wrap64 v * 10) + c) - 48) = wrap64 (v * 10 + c - 48) := by unfold wrap64; omega

theorem ret_ib {k : IntKind} {a b : Int} {p q : Bool} (h : a = b) (h2 : p = q) : Ending.returned (.tuple #[.int k a, .bool p]) = .returned (.tuple #[.int k b, .bool q]) := by rw [h, h2]

end Go.Proofs.YtmlhiinlneefnaaDoor
namespace Go.Proofs.YtmlhiinlneefnaaDoor
open Go.RowKit Go.Maps

/-- Reading leniently, field by field. -/
def decLoop : List FieldA → Txt → Nat → Nat → Option (List ValA)
  | [], _, _, _ => some []
  | f :: rest, t, h, a =>
    if f.opt = true ∧ h % 2 ≠ 1 then (decLoop rest t (h / 2) a).map (⟨0, 0, []⟩ :: ·)
    else if (readB f t a).2 < 0 then none
    else (decLoop rest t (if f.opt then h / 2 else h) (readB f t a).2.toNat).map ((readB f t a).1 :: ·)
def head0 (l : List FieldA) (t : Txt) : Nat := if 0 < headB l then (t.getD 0 0).toNat else 0
def decodeB (l : List FieldA) (t : Txt) : List ValA × Int :=
  if schemaB l = false then ([], 60)
  else if t.length < headB l ∨ 64 < t.length then ([], 62)
  else match decLoop l t (head0 l t) (headB l) with
    | none => ([], 62)
    | some r => if errR l r = 0 ∧ encB l r = t then (r, 0) else ([], 62)

theorem readG_len : ∀ (f : Nat) (l : Txt) (u k u' k' : Nat), readG f l u k = some (u', k') → k' ≤ k + l.length ∧ k + 1 ≤ k' ∧ u' < 18446744073709551616
  | 0, _, _, _, _, _, h => by simp [readG] at h
  | _ + 1, [], _, _, _, _, h => by simp [readG] at h
  | f + 1, c :: r, u, k, u', k', h => by
    rw [readG] at h
    split at h
    · simp at h
      obtain ⟨rfl, rfl⟩ := h
      exact ⟨by simp, by omega, Nat.mod_lt _ (by omega)⟩
    · have := readG_len f r _ _ _ _ h
      simp only [List.length_cons]
      omega
theorem backB_range (u : Nat) (h : u < 18446744073709551616) : -9223372036854775808 ≤ backB u ∧ backB u ≤ 9223372036854775807 := by
  unfold backB
  split <;> omega
theorem readB_facts (f : FieldA) (t : Txt) (a : Nat) (ha : a ≤ t.length) : (readB f t a).2 ≤ (t.length : Int) ∧ -9223372036854775808 ≤ (readB f t a).1.n ∧ (readB f t a).1.n ≤ 9223372036854775807 := by
  unfold readB
  split
  · unfold readIntB
    cases h : readG 10 (t.drop a) 0 0 with
    | none => simp
    | some p =>
      obtain ⟨u, k⟩ := p
      have h1 := readG_len _ _ _ _ _ _ h
      rw [List.length_drop] at h1
      have h2 := backB_range u h1.2.2
      simp only
      omega
  · cases h : t[a]? with
    | none => simp
    | some c =>
      have h1 := get_lt h
      have h2 := num_range c
      simp only
      split
      · simp only; omega
      · split
        · simp only; omega
        · simp only; omega
theorem readB_pos (f : FieldA) (t : Txt) (a : Nat) : -1 ≤ (readB f t a).2 := by
  unfold readB
  split
  · unfold readIntB
    cases h : readG 10 (t.drop a) 0 0 with
    | none => simp
    | some p => simp only; omega
  · cases h : t[a]? with
    | none => simp
    | some c =>
      simp only
      split
      · simp only; omega
      · split
        · simp
        · simp only; omega

end Go.Proofs.YtmlhiinlneefnaaDoor
namespace Go.Proofs.YtmlhiinlneefnaaDoor
open Go.RowKit Go.Maps

/-- How far a reading has come: what stands for all from here on. -/
def decRest (l : List FieldA) (t : Txt) (k h a : Nat) (R : List ValA) : Option (List ValA) := (decLoop (l.drop k) t h a).map (R ++ ·)
theorem decRest_skip {l : List FieldA} {t : Txt} {k h a : Nat} {R : List ValA} {f : FieldA} (hf : l[k]? = some f) (ho : f.opt = true) (hh : h % 2 ≠ 1) : decRest l t k h a R = decRest l t (k + 1) (h / 2) a (R ++ [⟨0, 0, []⟩]) := by
  unfold decRest
  rw [drop_at hf, decLoop, if_pos ⟨ho, hh⟩, Option.map_map]
  congr 1
  funext x
  simp
theorem decRest_none {l : List FieldA} {t : Txt} {k h a : Nat} {R : List ValA} {f : FieldA} (hf : l[k]? = some f) (hh : ¬ (f.opt = true ∧ h % 2 ≠ 1)) (hn : (readB f t a).2 < 0) : decRest l t k h a R = none := by
  unfold decRest
  rw [drop_at hf, decLoop, if_neg hh, if_pos hn]
  rfl
theorem decRest_some {l : List FieldA} {t : Txt} {k h a : Nat} {R : List ValA} {f : FieldA} (hf : l[k]? = some f) (hh : ¬ (f.opt = true ∧ h % 2 ≠ 1)) (hn : ¬ (readB f t a).2 < 0) : decRest l t k h a R = decRest l t (k + 1) (if f.opt then h / 2 else h) (readB f t a).2.toNat (R ++ [(readB f t a).1]) := by
  unfold decRest
  rw [drop_at hf, decLoop, if_neg hh, if_neg hn, Option.map_map]
  congr 1
  funext x
  simp
theorem decRest_zero (l : List FieldA) (t : Txt) (h a : Nat) : decRest l t 0 h a [] = decLoop l t h a := by
  unfold decRest
  rw [List.drop_zero]
  cases decLoop l t h a <;> simp
theorem ownsRow_max {w : World} {B e size n : Nat} {v : Value} {xs : List Value} (h : w.ownsRow B e size v n xs) : n ≤ maxLen := by
  rcases h.2 with ⟨_, hn⟩ | ⟨g, cap, cur, hv, _, _, h1, h2, _⟩
  · omega
  · omega
theorem InR_nil : InR [] := fun x hx => by cases hx
theorem InR_snoc {R : List ValA} {x : ValA} (h : InR R) (hx : -9223372036854775808 ≤ x.n ∧ x.n ≤ 9223372036854775807) : InR (R ++ [x]) := by
  intro y hy
  rcases List.mem_append.1 hy with hy | hy
  · exact h y hy
  · simp at hy; rw [hy]; exact hx

end Go.Proofs.YtmlhiinlneefnaaDoor
namespace Go.Proofs.YtmlhiinlneefnaaDoor
open Go.RowKit Go.Maps

def runeOf (c d : Int) (m1 m2 m3 : Bool) : Int :=
  if 194 ≤ c ∧ c ≤ 223 ∧ m1 = true then 2
  else if 224 ≤ c ∧ c ≤ 239 ∧ m1 = true ∧ m2 = true then
    if (c = 224 ∧ d < 160) ∨ (c = 237 ∧ 159 < d) then 0 else 3
  else if 240 ≤ c ∧ c ≤ 244 ∧ m1 = true ∧ m2 = true ∧ m3 = true then
    if (c = 240 ∧ d < 144) ∨ (c = 244 ∧ 143 < d) then 0 else 4
  else 0
/-- How many bytes the rune of U+0080 or above takes that begins at a place of a text; 0: none does. -/
def runeB (t : Txt) (a : Nat) : Int :=
  if t.length ≤ a then 0
  else runeOf (nth t a) (nth t (a + 1)) (moreB t (a + 1)) (moreB t (a + 2)) (moreB t (a + 3))

theorem nth_of {t : Txt} {k : Nat} {c : UInt8} (h : t[k]? = some c) : nth t k = num c := by simp [nth, List.getD, h]
theorem moreB_some {t : Txt} {k : Nat} (h : moreB t k = true) : ∃ c, t[k]? = some c := by
  unfold moreB at h
  cases e : t[k]? with
  | none => simp [e] at h
  | some c => exact ⟨c, rfl⟩

end Go.Proofs.YtmlhiinlneefnaaDoor
namespace Go.Proofs.YtmlhiinlneefnaaDoor
open Go.RowKit Go.Maps

/-- The byte that the escape at a place means (a \ stands there), and how many bytes it takes; 0: none. -/
def escB (t : Txt) (a : Nat) : Int × Int :=
  match t[a + 1]? with
  | none => (0, 0)
  | some c =>
    if num c = 34 then (34, 2) else if num c = 92 then (92, 2) else if num c = 110 then (10, 2) else if num c = 116 then (9, 2)
    else if num c = 120 then
      match t[a + 2]?, t[a + 3]? with
      | some h, some l => if hexB (num h) < 0 ∨ hexB (num l) < 0 then (0, 0) else (16 * hexB (num h) + hexB (num l), 4)
      | _, _ => (0, 0)
    else (0, 0)

theorem hexB_range (c : Int) : -1 ≤ hexB c ∧ hexB c ≤ 15 := by
  unfold hexB
  repeat' split
  all_goals omega

theorem escB_in (t : Txt) (a : Nat) {c h l : UInt8} (e1 : t[a + 1]? = some c) (e2 : t[a + 2]? = some h) (e3 : t[a + 3]? = some l) (hc : num c = 120) :
    escB t a = if hexB (num h) < 0 ∨ hexB (num l) < 0 then (0, 0) else (16 * hexB (num h) + hexB (num l), 4) := by
  simp [escB, e1, e2, e3, hc]

end Go.Proofs.YtmlhiinlneefnaaDoor
namespace Go.Proofs.YtmlhiinlneefnaaDoor
open Go.RowKit Go.Maps

/-- The bytes of the piece at a place, and how many it takes (0: it is none). -/
def pieceB (t : Txt) (a : Nat) (c : UInt8) : Txt × Nat :=
  if c = 92 then ([UInt8.ofNat (escB t a).1.toNat], (escB t a).2.toNat)
  else if 32 ≤ num c ∧ num c ≤ 126 then ([c], 1)
  else ((t.drop a).take (runeB t a).toNat, (runeB t a).toNat)
def unqLoop : Nat → Txt → Txt → Nat → Option (Txt × Nat)
  | 0, _, _, _ => none
  | f + 1, t, b, a =>
    if b.length ≤ 20 then
      match t[a]? with
      | none => none
      | some c => if c = 34 then some (b, a + 1) else if (pieceB t a c).2 = 0 then none else unqLoop f t (b ++ (pieceB t a c).1) (a + (pieceB t a c).2)
    else none
def unquoteB (t : Txt) : Txt × Nat × Int :=
  if t[0]? = some 34 then (match unqLoop t.length t [] 1 with
    | some (b, n) => (b, n, 0)
    | none => ([], 0, 63))
  else ([], 0, 63)

theorem escB_range (t : Txt) (a : Nat) : 0 ≤ (escB t a).1 ∧ (escB t a).1 ≤ 255 ∧ ((escB t a).2 = 0 ∨ (escB t a).2 = 2 ∨ (escB t a).2 = 4) := by
  unfold escB
  split
  · simp
  · repeat' split
    all_goals simp
    rename_i h l h1 h2 hh
    have r1 := hexB_range (num h)
    have r2 := hexB_range (num l)
    omega
theorem runeB_le (t : Txt) (a : Nat) : runeB t a = 0 ∨ (2 ≤ runeB t a ∧ runeB t a ≤ 4 ∧ a + (runeB t a).toNat ≤ t.length) := by
  unfold runeB
  split
  · exact Or.inl rfl
  · have l1 : ∀ k, moreB t k = true → k < t.length := fun k h => by obtain ⟨c, hc⟩ := moreB_some h; exact get_lt hc
    unfold runeOf
    split
    · rename_i h; have := l1 _ h.2.2; right; simp; omega
    · split
      · rename_i h; have := l1 _ h.2.2.2
        split
        · simp
        · right; simp; omega
      · split
        · rename_i h; have := l1 _ h.2.2.2.2
          split
          · simp
          · right; simp; omega
        · simp
theorem conv_nil (w : World) : (convert 24 9 (.slice none 0 0)).run Tryd.prog w = .ok (str []) w := by
  rw [run_convert_bytes_string w 24 9 5 none 0 0 Tryd.underlying24 Tryd.underlying5 Tryd.underlying9]
  rfl
theorem conv_any {w : World} {B n : Nat} {v : Value} {A : Txt} (h : w.ownsRow B 5 1 v n (bs A)) : (convert 24 9 v).run Tryd.prog w = .ok (str A) w := by
  obtain ⟨h1, h2⟩ := h
  rcases h2 with ⟨hv, hn⟩ | ⟨g, cap, cur, hv, hb, hg, h3, h4, h5, h6⟩
  · subst hn
    obtain rfl : A = [] := by
      rw [bs_length] at h1
      exact List.eq_nil_of_length_eq_zero (by omega)
    rw [hv]
    exact conv_nil w
  · rw [bs_length, Nat.mul_one] at h1
    subst h1
    rw [hv]
    refine conv_bytes w g cap A (fun j c hj => ?_)
    rw [cell_of_blk hg]
    have h7 : (bs A)[j]? = some (.int .u8 (num c)) := by rw [bs_get, hj]; rfl
    rw [← h6, List.getElem?_take] at h7
    split at h7
    · simpa using h7
    · cases h7

end Go.Proofs.YtmlhiinlneefnaaDoor
namespace Go.Proofs.YtmlhiinlneefnaaDoor
open Go.RowKit Go.Maps

theorem ret_sii {s u : Txt} {a b c d : Int} (h : s = u) (h2 : a = b) (h3 : c = d) : Ending.returned (.tuple #[str s, .int .i64 a, .int .i64 c]) = .returned (.tuple #[str u, .int .i64 b, .int .i64 d]) := by rw [h, h2, h3]
/-- What stands for all from here on. -/
def unqRes (o : Option (Txt × Nat)) : Txt × Nat × Int := match o with
  | some (b, n) => (b, n, 0)
  | none => ([], 0, 63)
theorem unqLoop_end {f : Nat} {t b : Txt} {a : Nat} (h : t.length ≤ a ∨ 20 < b.length) : unqLoop f t b a = none := by
  cases f with
  | zero => rfl
  | succ f =>
    rw [unqLoop]
    split
    · rcases h with h | h
      · rw [List.getElem?_eq_none h]
      · omega
    · rfl
theorem unqLoop_step {f : Nat} {t b : Txt} {a : Nat} {c : UInt8} (hb : b.length ≤ 20) (hc : t[a]? = some c) : unqLoop (f + 1) t b a = if c = 34 then some (b, a + 1) else if (pieceB t a c).2 = 0 then none else unqLoop f t (b ++ (pieceB t a c).1) (a + (pieceB t a c).2) := by
  rw [unqLoop, if_pos hb, hc]

theorem escB_le (t : Txt) (a : Nat) (h : a < t.length) : a + (escB t a).2.toNat ≤ t.length := by
  unfold escB
  cases h1 : t[a + 1]? with
  | none => simp; omega
  | some c =>
    have l1 := get_lt h1
    simp only
    repeat' split
    all_goals simp
    all_goals try omega
    rename_i x y hx hy hh
    have := get_lt hy
    omega

end Go.Proofs.YtmlhiinlneefnaaDoor
namespace Go.Proofs.YtmlhiinlneefnaaDoor
open Go.RowKit Go.Maps

def shownB (x : ValA) : Txt := if x.kind = 1 then decimal x.n else if x.kind = 2 then (if x.n = 1 then [116, 114, 117, 101] else [102, 97, 108, 115, 101]) else quoteB x.s

theorem quoteB_le (t : Txt) : (quoteB t).length ≤ 2 + 4 * t.length := by
  unfold quoteB
  have := flat_le4 t
  simp only [List.length_cons, List.length_append, List.length_nil]
  omega
theorem fitsB_s {f : FieldA} {x : ValA} (h : fitsB f x = true) : x.s.length ≤ 20 := by
  unfold fitsB at h
  repeat' split at h
  all_goals simp_all
theorem shownB_le {f : FieldA} {x : ValA} (h : fitsB f x = true) (hx : -9223372036854775808 ≤ x.n ∧ x.n ≤ 9223372036854775807) : (shownB x).length ≤ 82 := by
  unfold shownB
  have h1 := decimal_length x.n hx.1 hx.2
  have h2 := quoteB_le x.s
  have h3 := fitsB_s h
  split
  · omega
  · split
    · split <;> simp
    · omega
theorem schemaB_name8 {l : List FieldA} (h : schemaB l = true) {f : FieldA} (hf : f ∈ l) : f.name.length ≤ 8 ∧ f.name ≠ [] := by
  unfold schemaB at h
  simp only [Bool.and_eq_true] at h
  have h1 := List.all_eq_true.1 h.1.1.2 f hf
  unfold fieldOK nameB at h1
  simp only [Bool.and_eq_true, decide_eq_true_eq] at h1
  exact ⟨h1.1.1.1.1.2, h1.1.1.1.1.1⟩

/-- A text that grows by one field. -/
def printStep (t : Txt) (p : FieldA × ValA) : Txt := if p.2.kind = 0 then t else (if t = [] then t else t ++ [44]) ++ p.1.name ++ [61] ++ shownB p.2
def printTo (z : List (FieldA × ValA)) : Txt := z.foldl printStep []
def printB (l : List FieldA) (r : List ValA) : Txt := if errR l r = 0 then [123] ++ printTo (l.zip r) ++ [125] else []
theorem printTo_snoc (z : List (FieldA × ValA)) (p : FieldA × ValA) : printTo (z ++ [p]) = printStep (printTo z) p := by simp [printTo]

theorem str_app (a b c : Txt) (h : a ++ b = c) : Value.string (ByteArray.mk a.toArray ++ ByteArray.mk b.toArray) = str c := by
  rw [ByteArray.mk_append_mk, ← h]

end Go.Proofs.YtmlhiinlneefnaaDoor
