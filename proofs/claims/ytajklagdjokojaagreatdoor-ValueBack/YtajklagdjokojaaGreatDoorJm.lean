import Derived.Test.YtajklagdjokojaaGreatDoorJi
import Derived.Test.YtajklagdjokojaaGreatDoorJa
import Derived.Test.YtajklagdjokojaaGreatDoorW
import Derived.Test.YtajklagdjokojaaGreatDoorJl
namespace Go.Proofs.YtajklagdjokojaaGreatDoor
open Go.RowKit Go.Maps

/-- How far a reading has come: what stands for all from here on. -/
def decRest (l : List FieldA) (t : Txt) (k h a : Nat) (R : List ValA) : Option (List ValA) := (decLoop (l.drop k) t h a).map (R ++ ·)
theorem decRest_skip {l : List FieldA} {t : Txt} {k h a : Nat} {R : List ValA} {f : FieldA} (hf : l[k]? = some f) (ho : f.opt = true) (hh : h % 2 ≠ 1) : decRest l t k h a R = decRest l t (k + 1) (h / 2) a (R ++ [⟨0, 0, []⟩]) := by
  unfold decRest
  rw [drop_at hf, decLoop, if_pos ⟨ho, hh⟩, Option.map_map]
  congr 1
  funext x
  simp
theorem decRest_none {l : List FieldA} {t : Txt} {k h a : Nat} {R : List ValA} {f : FieldA} (hf : l[k]? = some f) (hh : ¬ (f.opt = true ∧ h % 2 ≠ 1)) (hn : (readB f t a).2 < 0) : decRest l t k h a R = none := by
  unfold decRest
  rw [drop_at hf, decLoop, if_neg hh, if_pos hn]
  rfl
theorem decRest_some {l : List FieldA} {t : Txt} {k h a : Nat} {R : List ValA} {f : FieldA} (hf : l[k]? = some f) (hh : ¬ (f.opt = true ∧ h % 2 ≠ 1)) (hn : ¬ (readB f t a).2 < 0) : decRest l t k h a R = decRest l t (k + 1) (if f.opt then h / 2 else h) (readB f t a).2.toNat (R ++ [(readB f t a).1]) := by
  unfold decRest
  rw [drop_at hf, decLoop, if_neg hh, if_neg hn, Option.map_map]
  congr 1
  funext x
  simp
theorem decRest_zero (l : List FieldA) (t : Txt) (h a : Nat) : decRest l t 0 h a [] = decLoop l t h a := by
  unfold decRest
  rw [List.drop_zero]
  cases decLoop l t h a <;> simp
theorem ownsRow_max {w : World} {B e size n : Nat} {v : Value} {xs : List Value} (h : w.ownsRow B e size v n xs) : n ≤ maxLen := by
  rcases h.2 with ⟨_, hn⟩ | ⟨g, cap, cur, hv, _, _, h1, h2, _⟩
  · omega
  · omega
theorem InR_nil : InR [] := fun x hx => by cases hx
theorem InR_snoc {R : List ValA} {x : ValA} (h : InR R) (hx : -9223372036854775808 ≤ x.n ∧ x.n ≤ 9223372036854775807) : InR (R ++ [x]) := by
  intro y hy
  rcases List.mem_append.1 hy with hy | hy
  · exact h y hy
  · simp at hy; rw [hy]; exact hx

end Go.Proofs.YtajklagdjokojaaGreatDoor
namespace Go.Proofs.YtajklagdjokojaaGreatDoor
open Go.RowKit Go.Maps

def runeOf (c d : Int) (m1 m2 m3 : Bool) : Int :=
  if 194 ≤ c ∧ c ≤ 223 ∧ m1 = true then 2
  else if 224 ≤ c ∧ c ≤ 239 ∧ m1 = true ∧ m2 = true then
    if (c = 224 ∧ d < 160) ∨ (c = 237 ∧ 159 < d) then 0 else 3
  else if 240 ≤ c ∧ c ≤ 244 ∧ m1 = true ∧ m2 = true ∧ m3 = true then
    if (c = 240 ∧ d < 144) ∨ (c = 244 ∧ 143 < d) then 0 else 4
  else 0
/-- How many bytes the rune of U+0080 or above takes that begins at a place of a text; 0: none does. -/
def runeB (t : Txt) (a : Nat) : Int :=
  if t.length ≤ a then 0
  else runeOf (nth t a) (nth t (a + 1)) (moreB t (a + 1)) (moreB t (a + 2)) (moreB t (a + 3))

theorem nth_of {t : Txt} {k : Nat} {c : UInt8} (h : t[k]? = some c) : nth t k = num c := by simp [nth, List.getD, h]
theorem moreB_some {t : Txt} {k : Nat} (h : moreB t k = true) : ∃ c, t[k]? = some c := by
  unfold moreB at h
  cases e : t[k]? with
  | none => simp [e] at h
  | some c => exact ⟨c, rfl⟩

end Go.Proofs.YtajklagdjokojaaGreatDoor
namespace Go.Proofs.YtajklagdjokojaaGreatDoor
open Go.RowKit Go.Maps

/-- The byte that the escape at a place means (a \ stands there), and how many bytes it takes; 0: none. -/
def escB (t : Txt) (a : Nat) : Int × Int :=
  match t[a + 1]? with
  | none => (0, 0)
  | some c =>
    if num c = 34 then (34, 2) else if num c = 92 then (92, 2) else if num c = 110 then (10, 2) else if num c = 116 then (9, 2)
    else if num c = 120 then
      match t[a + 2]?, t[a + 3]? with
      | some h, some l => if hexB (num h) < 0 ∨ hexB (num l) < 0 then (0, 0) else (16 * hexB (num h) + hexB (num l), 4)
      | _, _ => (0, 0)
    else (0, 0)

theorem hexB_range (c : Int) : -1 ≤ hexB c ∧ hexB c ≤ 15 := by
  unfold hexB
  repeat' split
  all_goals omega

theorem escB_in (t : Txt) (a : Nat) {c h l : UInt8} (e1 : t[a + 1]? = some c) (e2 : t[a + 2]? = some h) (e3 : t[a + 3]? = some l) (hc : num c = 120) :
    escB t a = if hexB (num h) < 0 ∨ hexB (num l) < 0 then (0, 0) else (16 * hexB (num h) + hexB (num l), 4) := by
  simp [escB, e1, e2, e3, hc]

end Go.Proofs.YtajklagdjokojaaGreatDoor
namespace Go.Proofs.YtajklagdjokojaaGreatDoor
open Go.RowKit Go.Maps

/-- The bytes of the piece at a place, and how many it takes (0: it is none). -/
def pieceB (t : Txt) (a : Nat) (c : UInt8) : Txt × Nat :=
  if c = 92 then ([UInt8.ofNat (escB t a).1.toNat], (escB t a).2.toNat)
  else if 32 ≤ num c ∧ num c ≤ 126 then ([c], 1)
  else ((t.drop a).take (runeB t a).toNat, (runeB t a).toNat)
def unqLoop : Nat → Txt → Txt → Nat → Option (Txt × Nat)
  | 0, _, _, _ => none
  | f + 1, t, b, a =>
    if b.length ≤ 20 then
      match t[a]? with
      | none => none
      | some c => if c = 34 then some (b, a + 1) else if (pieceB t a c).2 = 0 then none else unqLoop f t (b ++ (pieceB t a c).1) (a + (pieceB t a c).2)
    else none
def unquoteB (t : Txt) : Txt × Nat × Int :=
  if t[0]? = some 34 then (match unqLoop t.length t [] 1 with
    | some (b, n) => (b, n, 0)
    | none => ([], 0, 63))
  else ([], 0, 63)

theorem escB_range (t : Txt) (a : Nat) : 0 ≤ (escB t a).1 ∧ (escB t a).1 ≤ 255 ∧ ((escB t a).2 = 0 ∨ (escB t a).2 = 2 ∨ (escB t a).2 = 4) := by
  unfold escB
  split
  · simp
  · repeat' split
    all_goals simp
    rename_i h l h1 h2 hh
    have r1 := hexB_range (num h)
    have r2 := hexB_range (num l)
    omega
theorem runeB_le (t : Txt) (a : Nat) : runeB t a = 0 ∨ (2 ≤ runeB t a ∧ runeB t a ≤ 4 ∧ a + (runeB t a).toNat ≤ t.length) := by
  unfold runeB
  split
  · exact Or.inl rfl
  · have l1 : ∀ k, moreB t k = true → k < t.length := fun k h => by obtain ⟨c, hc⟩ := moreB_some h; exact get_lt hc
    unfold runeOf
    split
    · rename_i h; have := l1 _ h.2.2; right; simp; omega
    · split
      · rename_i h; have := l1 _ h.2.2.2
        split
        · simp
        · right; simp; omega
      · split
        · rename_i h; have := l1 _ h.2.2.2.2
          split
          · simp
          · right; simp; omega
        · simp
theorem conv_nil (w : World) : (convert 29 9 (.slice none 0 0)).run Tryz.prog w = .ok (str []) w := by
  rw [run_convert_bytes_string w 29 9 5 none 0 0 Tryz.underlying29 Tryz.underlying5 Tryz.underlying9]
  rfl
theorem conv_any {w : World} {B n : Nat} {v : Value} {A : Txt} (h : w.ownsRow B 5 1 v n (bs A)) : (convert 29 9 v).run Tryz.prog w = .ok (str A) w := by
  obtain ⟨h1, h2⟩ := h
  rcases h2 with ⟨hv, hn⟩ | ⟨g, cap, cur, hv, hb, hg, h3, h4, h5, h6⟩
  · subst hn
    obtain rfl : A = [] := by
      rw [bs_length] at h1
      exact List.eq_nil_of_length_eq_zero (by omega)
    rw [hv]
    exact conv_nil w
  · rw [bs_length, Nat.mul_one] at h1
    subst h1
    rw [hv]
    refine conv_bytes w g cap A (fun j c hj => ?_)
    rw [cell_of_blk hg]
    have h7 : (bs A)[j]? = some (.int .u8 (num c)) := by rw [bs_get, hj]; rfl
    rw [← h6, List.getElem?_take] at h7
    split at h7
    · simpa using h7
    · cases h7

end Go.Proofs.YtajklagdjokojaaGreatDoor
namespace Go.Proofs.YtajklagdjokojaaGreatDoor
open Go.RowKit Go.Maps

theorem ret_sii {s u : Txt} {a b c d : Int} (h : s = u) (h2 : a = b) (h3 : c = d) : Ending.returned (.tuple #[str s, .int .i64 a, .int .i64 c]) = .returned (.tuple #[str u, .int .i64 b, .int .i64 d]) := by rw [h, h2, h3]
/-- What stands for all from here on. -/
def unqRes (o : Option (Txt × Nat)) : Txt × Nat × Int := match o with
  | some (b, n) => (b, n, 0)
  | none => ([], 0, 63)
theorem unqLoop_end {f : Nat} {t b : Txt} {a : Nat} (h : t.length ≤ a ∨ 20 < b.length) : unqLoop f t b a = none := by
  cases f with
  | zero => rfl
  | succ f =>
    rw [unqLoop]
    split
    · rcases h with h | h
      · rw [List.getElem?_eq_none h]
      · omega
    · rfl
theorem unqLoop_step {f : Nat} {t b : Txt} {a : Nat} {c : UInt8} (hb : b.length ≤ 20) (hc : t[a]? = some c) : unqLoop (f + 1) t b a = if c = 34 then some (b, a + 1) else if (pieceB t a c).2 = 0 then none else unqLoop f t (b ++ (pieceB t a c).1) (a + (pieceB t a c).2) := by
  rw [unqLoop, if_pos hb, hc]

theorem escB_le (t : Txt) (a : Nat) (h : a < t.length) : a + (escB t a).2.toNat ≤ t.length := by
  unfold escB
  cases h1 : t[a + 1]? with
  | none => simp; omega
  | some c =>
    have l1 := get_lt h1
    simp only
    repeat' split
    all_goals simp
    all_goals try omega
    rename_i x y hx hy hh
    have := get_lt hy
    omega

end Go.Proofs.YtajklagdjokojaaGreatDoor
namespace Go.Proofs.YtajklagdjokojaaGreatDoor
open Go.RowKit Go.Maps

def shownB (x : ValA) : Txt := if x.kind = 1 then decimal x.n else if x.kind = 2 then (if x.n = 1 then [116, 114, 117, 101] else [102, 97, 108, 115, 101]) else quoteB x.s

theorem quoteB_le (t : Txt) : (quoteB t).length ≤ 2 + 4 * t.length := by
  unfold quoteB
  have := flat_le4 t
  simp only [List.length_cons, List.length_append, List.length_nil]
  omega
theorem fitsB_s {f : FieldA} {x : ValA} (h : fitsB f x = true) : x.s.length ≤ 20 := by
  unfold fitsB at h
  repeat' split at h
  all_goals simp_all
theorem shownB_le {f : FieldA} {x : ValA} (h : fitsB f x = true) (hx : -9223372036854775808 ≤ x.n ∧ x.n ≤ 9223372036854775807) : (shownB x).length ≤ 82 := by
  unfold shownB
  have h1 := decimal_length x.n hx.1 hx.2
  have h2 := quoteB_le x.s
  have h3 := fitsB_s h
  split
  · omega
  · split
    · split <;> simp
    · omega
theorem schemaB_name8 {l : List FieldA} (h : schemaB l = true) {f : FieldA} (hf : f ∈ l) : f.name.length ≤ 8 ∧ f.name ≠ [] := by
  unfold schemaB at h
  simp only [Bool.and_eq_true] at h
  have h1 := List.all_eq_true.1 h.1.1.2 f hf
  unfold fieldOK nameB at h1
  simp only [Bool.and_eq_true, decide_eq_true_eq] at h1
  exact ⟨h1.1.1.1.1.2, h1.1.1.1.1.1⟩

/-- A text that grows by one field. -/
def printStep (t : Txt) (p : FieldA × ValA) : Txt := if p.2.kind = 0 then t else (if t = [] then t else t ++ [44]) ++ p.1.name ++ [61] ++ shownB p.2
def printTo (z : List (FieldA × ValA)) : Txt := z.foldl printStep []
def printB (l : List FieldA) (r : List ValA) : Txt := if errR l r = 0 then [123] ++ printTo (l.zip r) ++ [125] else []
theorem printTo_snoc (z : List (FieldA × ValA)) (p : FieldA × ValA) : printTo (z ++ [p]) = printStep (printTo z) p := by simp [printTo]

theorem str_app (a b c : Txt) (h : a ++ b = c) : Value.string (ByteArray.mk a.toArray ++ ByteArray.mk b.toArray) = str c := by
  rw [ByteArray.mk_append_mk, ← h]

end Go.Proofs.YtajklagdjokojaaGreatDoor
