import Derived.Test.YtbgapbaeegloaaaProg
import Derived.Test.YtbgapbaeegloaaaChecked
import Derived.WalkKit
import Derived.WalkSpells
import Derived.WalkLawsBesides
import Derived.BigQuiet
import Derived.Deep.QuietTactic
import Derived.Deep.RegionHeld3
import Derived.Laws.IdiomStrings
namespace Go.Proofs.Ytbgapbaeegloaaa
open Go.RowKit Go.Maps

theorem ret_bool {a b : Bool} (h : a = b) : Ending.returned (.bool a) = .returned (.bool b) := by rw [h]
theorem hide {p : Prop} (h : p) : Hid p := h
theorem unhide {p : Prop} (h : Hid p) : p := h
/-- A text. -/
abbrev Txt := List UInt8
abbrev str (l : Txt) : Value := .string ⟨l.toArray⟩
/-- A byte's number. -/
def num (c : UInt8) : Int := (c.toNat : Int)
theorem num_inj {a b : UInt8} (h : num a = num b) : a = b := by
  unfold num at h
  exact UInt8.toNat_inj.1 (by omega)
theorem get_ge {α : Type} {l : List α} {i : Nat} (h : l[i]? = none) : l.length ≤ i := by simpa using h
theorem get_lt {α : Type} {l : List α} {i : Nat} {x : α} (h : l[i]? = some x) : i < l.length := (List.getElem?_eq_some_iff.1 h).1
theorem ext_str (t : Txt) (a b : Nat) : (ByteArray.mk t.toArray).extract a b = ⟨((t.drop a).take (b - a)).toArray⟩ := by
  rw [ByteArray.extract_mk]
theorem take_snoc {α : Type} (ws : List α) (k : Nat) (x : α) (h : ws[k]? = some x) : ws.take (k + 1) = ws.take k ++ [x] := by
  obtain ⟨hk, rfl⟩ := List.getElem?_eq_some_iff.1 h
  rw [List.take_succ_eq_append_getElem hk]

def kws : List Txt := [[97, 110, 100], [99, 97, 116], [99, 108, 101, 97, 114], [100, 101, 108, 101, 116, 101], [101, 108, 115, 101], [102, 97, 108, 115, 101], [104, 97, 115], [104, 101, 114, 101], [105, 102], [108, 101, 110], [109, 97, 120], [109, 105, 110], [110, 101, 119], [110, 111, 116], [111, 114], [112, 105, 99, 107], [116, 114, 117, 101]]
/-- A list of words with a blank ahead of each and behind it. -/
def wordsT (l : List Txt) : Txt := 32 :: l.flatMap (fun x => x ++ [32])
/-- Does a word stand, between blanks, in the text from a place on? -/
def standsB (t w : Txt) (i : Nat) : Bool := (List.range (t.length + 1 - w.length - i)).any fun k => decide ((t.drop (i + k)).take w.length = w)
def listedB (t x : Txt) : Bool := decide (x ≠ []) && (x.all (fun c => decide (c ≠ 32)) && standsB t (32 :: (x ++ [32])) 0)

theorem stands_step {t w : Txt} {i : Nat} (h : i + w.length ≤ t.length) : standsB t w i = (decide ((t.drop i).take w.length = w) || standsB t w (i + 1)) := by
  unfold standsB
  rw [show t.length + 1 - w.length - i = (t.length + 1 - w.length - (i + 1)) + 1 by omega, List.range_succ_eq_map, List.any_cons, List.any_map]
  congr 2
  funext k
  simp [Nat.add_assoc, Nat.add_comm 1 k]
theorem stands_end {t w : Txt} {i : Nat} (h : t.length < i + w.length) : standsB t w i = false := by
  unfold standsB
  rw [show t.length + 1 - w.length - i = 0 by omega]
  rfl
theorem stands_iff {t w : Txt} : standsB t w 0 = true ↔ ∃ i, i + w.length ≤ t.length ∧ (t.drop i).take w.length = w := by
  unfold standsB
  simp only [List.any_eq_true, List.mem_range, decide_eq_true_eq, Nat.zero_add]
  constructor
  · rintro ⟨k, hk, h⟩; exact ⟨k, by omega, h⟩
  · rintro ⟨k, hk, h⟩; exact ⟨k, by omega, h⟩
theorem tw {x r : Txt} (h : x.all (fun c => decide (c ≠ 32)) = true) : (x ++ 32 :: r).takeWhile (fun c => decide (c ≠ 32)) = x := by
  induction x with
  | nil => rfl
  | cons c x ih =>
    simp only [List.all_cons, Bool.and_eq_true] at h
    simp only [List.cons_append, List.takeWhile_cons, h.1, if_true]
    rw [ih h.2]
/-- What stands behind a blank. -/
def afters (t : Txt) : List Txt := (List.range t.length).filterMap fun i => if t[i]? = some 32 then some ((t.drop (i + 1)).takeWhile (fun c => decide (c ≠ 32))) else none
theorem listed_mem {t x : Txt} (h : listedB t x = true) : x ∈ afters t := by
  unfold listedB at h
  simp only [Bool.and_eq_true, decide_eq_true_eq] at h
  obtain ⟨_, ha, hs⟩ := h
  obtain ⟨i, hi, he⟩ := stands_iff.1 hs
  have hd : t.drop i = (32 :: (x ++ [32])) ++ (t.drop i).drop (32 :: (x ++ [32]) : Txt).length := by
    conv => lhs; rw [← List.take_append_drop (32 :: (x ++ [32]) : Txt).length (t.drop i)]
    rw [he]
  have h1 : t[i]? = some 32 := by
    have := congrArg (fun l => l[0]?) hd
    simpa [List.getElem?_drop] using this
  have h2 : t.drop (i + 1) = x ++ 32 :: (t.drop i).drop (32 :: (x ++ [32]) : Txt).length := by
    rw [show t.drop (i + 1) = (t.drop i).drop 1 by rw [List.drop_drop, Nat.add_comm]]
    conv => lhs; rw [hd]
    simp
  unfold afters
  rw [List.mem_filterMap]
  refine ⟨i, ?_, ?_⟩
  · rw [List.mem_range]; simp at hi; omega
  · rw [if_pos h1, h2, tw ha]
/-- Just the words of the list stand in its text. -/
theorem listed_kws (x : Txt) : listedB (wordsT kws) x = decide (x ∈ kws) := by
  apply Bool.eq_iff_iff.2
  constructor
  · intro h
    have h0 : x ≠ [] := by intro e; subst e; simp [listedB] at h
    have hm := listed_mem h
    have ha : (afters (wordsT kws)).all (fun y => decide (y = []) || decide (y ∈ kws)) = true := by decide +kernel
    have := List.all_eq_true.1 ha x hm
    simpa [h0] using this
  · intro h
    have hx : x ∈ kws := of_decide_eq_true h
    have ha : kws.all (fun y => listedB (wordsT kws) y) = true := by decide +kernel
    exact List.all_eq_true.1 ha x hx

end Go.Proofs.Ytbgapbaeegloaaa
