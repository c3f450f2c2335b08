import Derived.Test.YtbgapbaeegloaabGreatDoorLh
import Derived.Test.YtbgapbaeegloaabGreatDoorX
import Derived.Lib.DecodeN
namespace Go.Proofs.YtbgapbaeegloaabGreatDoor
open Go.RowKit Go.Maps

/-- The rune at the head of a text, and its width. -/
def dec (T : Txt) : Nat × Nat := Lib.decodeN T.length (T.getD 0 0).toNat (T.getD 1 0).toNat (T.getD 2 0).toNat (T.getD 3 0).toNat
/-- Begins no rune at the head of a text? -/
def badB (T : Txt) : Bool := decide ((dec T).1 = 65533) && !decide ((dec T).2 = 3)
/-- How many bytes at the head of a text are whole runes, from a place on. -/
def runesL (t : Txt) : Nat → Nat → Nat
  | 0, a => a
  | f + 1, a => if a < t.length then (if badB (t.drop a) then a else runesL t f (a + (dec (t.drop a)).2)) else t.length
def runesB (t : Txt) : Nat := runesL t (t.length + 1) 0
/-- The value of digits of a base with single underlines between them. -/
def digR (b : Int) : Txt → Bool → Nat → Option Nat
  | [], last, n => if last then some n else none
  | c :: r, last, n =>
    if c = 95 then (if last then digR b r false n else none)
    else if hexB (num c) < 0 ∨ b ≤ hexB (num c) then none
    else if 9223372036854775808 < n * b.toNat + (hexB (num c)).toNat then none
    else digR b r true (n * b.toNat + (hexB (num c)).toNat)
/-- The value of a run that begins with a digit. -/
def numB (w : Txt) : Option Nat :=
  if w.take 2 = [48, 120] then digR 16 (w.drop 2) false 0
  else if w[0]? = some 48 then (if w = [48] then some 0 else none)
  else digR 10 w false 0
def zeroT : TokA := ⟨0, [], 0, 0⟩
def wordP (w : Txt) : TokA × Nat × Int :=
  if w ∈ kws then (⟨4, w, 0, 0⟩, w.length, 0) else if nameB w then (⟨1, w, 0, 0⟩, w.length, 0) else (zeroT, 0, 72)
def numP (w : Txt) : TokA × Nat × Int :=
  match numB w with
  | some n => (⟨2, [], IntKind.i64.wrap n, 0⟩, w.length, 0)
  | none => (zeroT, 0, 73)
def litP (T : Txt) : TokA × Nat × Int :=
  if (unquoteB T).2.2 = 0 then (⟨3, (unquoteB T).1, 0, 0⟩, (unquoteB T).2.1, 0) else (zeroT, 0, 74)
def markP (T : Txt) : TokA × Nat × Int :=
  if 2 ≤ T.length ∧ T.take 2 ∈ marks then (⟨5, T.take 2, 0, 0⟩, 2, 0)
  else if T.take 1 ∈ marks then (⟨5, T.take 1, 0, 0⟩, 1, 0)
  else (zeroT, 0, 72)
/-- The token at the head of a text that begins with this byte, how many bytes it takes, the error. -/
def firstP (c : UInt8) (T : Txt) : TokA × Nat × Int :=
  if partB (num c) then (if digitB (num c) then numP (T.take (runB T)) else wordP (T.take (runB T)))
  else if c = 34 then litP T else markP T
def blankB (c : UInt8) : Bool := decide (c = 32) || decide (c = 9) || decide (c = 10) || decide (c = 13)
/-- Where the line of a place ends. -/
def lineB (t : Txt) (a : Nat) : Nat := scan t (fun c => c != 10) a
/-- The tokens from a place on, behind those that are there. -/
def cutL (t : Txt) : Nat → List TokA → Nat → List TokA × Int × Nat
  | 0, acc, _ => (acc, 0, 0)
  | f + 1, acc, a =>
    match t[a]? with
    | none => (acc, 0, 0)
    | some c =>
      if blankB c then cutL t f acc (a + 1)
      else if c = 35 then (if lineB t a < t.length then cutL t f acc (lineB t a) else (acc, 0, 0))
      else if (firstP c (t.drop a)).2.2 = 0 then cutL t f (acc ++ [{ (firstP c (t.drop a)).1 with pos := (a : Int) }]) (a + (firstP c (t.drop a)).2.1)
      else ([], (firstP c (t.drop a)).2.2, a)
/-- What Lex answers. -/
def lexP (t : Txt) : List TokA × Int × Nat :=
  if 256 < t.length then ([], 70, 0) else if runesB t < t.length then ([], 71, runesB t) else cutL t (t.length + 1) [] 0

theorem dec_pos (T : Txt) : 1 ≤ (dec T).2 := by
  unfold dec Lib.decodeN
  repeat' split
  all_goals simp
theorem dec_fit (T : Txt) (h : 0 < T.length) : (dec T).2 ≤ T.length := by
  unfold dec Lib.decodeN
  repeat' split
  all_goals simp only at *; omega
theorem dec_nl (T : Txt) (h : (dec T).1 = 10) : T.getD 0 0 = 10 := by
  unfold dec Lib.decodeN at h
  apply UInt8.toNat_inj.1
  show _ = 10
  repeat' split at h
  all_goals simp only at *; omega
theorem getD_ne {T : Txt} {j : Nat} (h : (T.getD j 0).toNat ≠ 10) : (T.getD j 0) ≠ 10 := fun e => h (by rw [e]; rfl)
theorem decN_line (n c0 c1 c2 c3 : Nat) (h : (Lib.decodeN n c0 c1 c2 c3).1 ≠ 10) : c0 ≠ 10 ∧ (1 < (Lib.decodeN n c0 c1 c2 c3).2 → c1 ≠ 10) ∧ (2 < (Lib.decodeN n c0 c1 c2 c3).2 → c2 ≠ 10) ∧ (3 < (Lib.decodeN n c0 c1 c2 c3).2 → c3 ≠ 10) ∧ (Lib.decodeN n c0 c1 c2 c3).2 ≤ 4 := by
  unfold Lib.decodeN at h ⊢
  by_cases hb : c0 < 128
  · rw [if_pos hb] at h ⊢
    exact ⟨h, fun q => absurd q (by simp), fun q => absurd q (by simp), fun q => absurd q (by simp), by simp⟩
  · rw [if_neg hb]
    clear h
    repeat' split
    all_goals (simp only; omega)
theorem dec_line (T : Txt) (h : (dec T).1 ≠ 10) (j : Nat) (hj : j < (dec T).2) : (T.getD j 0) ≠ 10 := by
  apply getD_ne
  obtain ⟨a, b, c, d, e⟩ := decN_line _ _ _ _ _ h
  have q : j = 0 ∨ j = 1 ∨ j = 2 ∨ j = 3 := by
    have : (dec T).2 ≤ 4 := e
    omega
  rcases q with rfl | rfl | rfl | rfl
  · exact a
  · exact b hj
  · exact c hj
  · exact d hj
/-- What the program's own test for a byte that begins no rune says. -/
theorem bad_prefix (T : Txt) (h0 : 0 < T.length) (h : (dec T).1 = 65533) : Lib.hasPrefix T [239, 191, 189] = decide ((dec T).2 = 3) := by
  have e : Lib.hasPrefix T [239, 191, 189] = decide (2 < T.length ∧ (T.getD 0 0).toNat = 239 ∧ (T.getD 1 0).toNat = 191 ∧ (T.getD 2 0).toNat = 189) := by
    unfold Lib.hasPrefix
    match T with
    | [] => simp
    | [a] => simp [List.isPrefixOf]
    | [a, b] => simp [List.isPrefixOf]
    | a :: b :: c :: r =>
      have q : ∀ (x : UInt8) (n : Nat) (hn : n < 256), (UInt8.ofNat n == x) = decide (x.toNat = n) := fun x n hn => by
        apply Bool.eq_iff_iff.2
        rw [beq_iff_eq, decide_eq_true_eq]
        constructor
        · rintro rfl; rw [UInt8.toNat_ofNat']; omega
        · rintro rfl; simp
      have q1 : ((239 : UInt8) == a) = decide (a.toNat = 239) := q a 239 (by omega)
      have q2 : ((191 : UInt8) == b) = decide (b.toNat = 191) := q b 191 (by omega)
      have q3 : ((189 : UInt8) == c) = decide (c.toNat = 189) := q c 189 (by omega)
      simp only [List.isPrefixOf, List.getD_cons_zero, List.getD_cons_succ, List.length_cons, q1, q2, q3, Bool.and_true, ← Bool.decide_and]
      apply decide_eq_decide.2
      constructor
      · rintro ⟨x, y, z⟩; exact ⟨by omega, x, y, z⟩
      · rintro ⟨_, x, y, z⟩; exact ⟨x, y, z⟩
  rw [e]
  apply decide_eq_decide.2
  have b0 := (T.getD 0 0).toNat_lt
  have b1 := (T.getD 1 0).toNat_lt
  have b2 := (T.getD 2 0).toNat_lt
  unfold dec Lib.decodeN at h ⊢
  generalize (T.getD 0 0).toNat = c0 at *
  generalize (T.getD 1 0).toNat = c1 at *
  generalize (T.getD 2 0).toNat = c2 at *
  generalize (T.getD 3 0).toNat = c3 at *
  constructor
  · rintro ⟨h3, rfl, rfl, rfl⟩
    rw [if_neg (by omega), if_neg (by omega), if_pos ⟨by omega, ⟨by omega, by omega⟩, by omega, by omega⟩, if_pos ⟨by omega, by omega⟩]
  · intro g
    repeat' split at h
    all_goals simp_all <;> omega
theorem decode_dec (t : Txt) (a : Nat) : Utf8.decode ⟨t.toArray⟩ a = dec (t.drop a) := by
  rw [Lib.decode_at]
  have q : ∀ i, (ByteArray.mk t.toArray).get! i = t.getD i 0 := fun i => by
    show t.toArray[i]! = _
    rw [List.getElem!_toArray, List.getElem!_eq_getElem?_getD, List.getD_eq_getElem?_getD]
    rfl
  rw [q, q, q, q]
  unfold dec
  simp only [List.length_drop, List.getD_eq_getElem?_getD, List.getElem?_drop, Nat.add_zero]
  rfl
end Go.Proofs.YtbgapbaeegloaabGreatDoor
