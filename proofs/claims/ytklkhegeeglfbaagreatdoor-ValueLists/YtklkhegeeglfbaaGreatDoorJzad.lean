import Derived.Test.YtklkhegeeglfbaaGreatDoorJm
import Derived.Test.YtklkhegeeglfbaaGreatDoorJl
namespace Go.Proofs.YtklkhegeeglfbaaGreatDoor
open Go.RowKit Go.Maps

theorem ret_sii {s u : Txt} {a b c d : Int} (h : s = u) (h2 : a = b) (h3 : c = d) : Ending.returned (.tuple #[str s, .int .i64 a, .int .i64 c]) = .returned (.tuple #[str u, .int .i64 b, .int .i64 d]) := by rw [h, h2, h3]
/-- What stands for all from here on. -/
def unqRes (o : Option (Txt × Nat)) : Txt × Nat × Int := match o with
  | some (b, n) => (b, n, 0)
  | none => ([], 0, 63)
theorem unqLoop_end {f : Nat} {t b : Txt} {a : Nat} (h : t.length ≤ a ∨ 20 < b.length) : unqLoop f t b a = none := by
  cases f with
  | zero => rfl
  | succ f =>
    rw [unqLoop]
    split
    · rcases h with h | h
      · rw [List.getElem?_eq_none h]
      · omega
    · rfl
theorem unqLoop_step {f : Nat} {t b : Txt} {a : Nat} {c : UInt8} (hb : b.length ≤ 20) (hc : t[a]? = some c) : unqLoop (f + 1) t b a = if c = 34 then some (b, a + 1) else if (pieceB t a c).2 = 0 then none else unqLoop f t (b ++ (pieceB t a c).1) (a + (pieceB t a c).2) := by
  rw [unqLoop, if_pos hb, hc]

theorem escB_le (t : Txt) (a : Nat) (h : a < t.length) : a + (escB t a).2.toNat ≤ t.length := by
  unfold escB
  cases h1 : t[a + 1]? with
  | none => simp; omega
  | some c =>
    have l1 := get_lt h1
    simp only
    repeat' split
    all_goals simp
    all_goals try omega
    rename_i x y hx hy hh
    have := get_lt hy
    omega

end Go.Proofs.YtklkhegeeglfbaaGreatDoor
namespace Go.Proofs.YtklkhegeeglfbaaGreatDoor
open Go.RowKit Go.Maps

def shownB (x : ValA) : Txt := if x.kind = 1 then decimal x.n else if x.kind = 2 then (if x.n = 1 then [116, 114, 117, 101] else [102, 97, 108, 115, 101]) else quoteB x.s

theorem quoteB_le (t : Txt) : (quoteB t).length ≤ 2 + 4 * t.length := by
  unfold quoteB
  have := flat_le4 t
  simp only [List.length_cons, List.length_append, List.length_nil]
  omega
theorem fitsB_s {f : FieldA} {x : ValA} (h : fitsB f x = true) : x.s.length ≤ 20 := by
  unfold fitsB at h
  repeat' split at h
  all_goals simp_all
theorem shownB_le {f : FieldA} {x : ValA} (h : fitsB f x = true) (hx : -9223372036854775808 ≤ x.n ∧ x.n ≤ 9223372036854775807) : (shownB x).length ≤ 82 := by
  unfold shownB
  have h1 := decimal_length x.n hx.1 hx.2
  have h2 := quoteB_le x.s
  have h3 := fitsB_s h
  split
  · omega
  · split
    · split <;> simp
    · omega
theorem schemaB_name8 {l : List FieldA} (h : schemaB l = true) {f : FieldA} (hf : f ∈ l) : f.name.length ≤ 8 ∧ f.name ≠ [] := by
  unfold schemaB at h
  simp only [Bool.and_eq_true] at h
  have h1 := List.all_eq_true.1 h.1.1.2 f hf
  unfold fieldOK nameB at h1
  simp only [Bool.and_eq_true, decide_eq_true_eq] at h1
  exact ⟨h1.1.1.1.1.2, h1.1.1.1.1.1⟩

/-- A text that grows by one field. -/
def printStep (t : Txt) (p : FieldA × ValA) : Txt := if p.2.kind = 0 then t else (if t = [] then t else t ++ [44]) ++ p.1.name ++ [61] ++ shownB p.2
def printTo (z : List (FieldA × ValA)) : Txt := z.foldl printStep []
def printB (l : List FieldA) (r : List ValA) : Txt := if errR l r = 0 then [123] ++ printTo (l.zip r) ++ [125] else []
theorem printTo_snoc (z : List (FieldA × ValA)) (p : FieldA × ValA) : printTo (z ++ [p]) = printStep (printTo z) p := by simp [printTo]

theorem str_app (a b c : Txt) (h : a ++ b = c) : Value.string (ByteArray.mk a.toArray ++ ByteArray.mk b.toArray) = str c := by
  rw [ByteArray.mk_append_mk, ← h]

end Go.Proofs.YtklkhegeeglfbaaGreatDoor
