import Derived.Test.YtabjomgikljdhaaDoorNk
namespace Go.Proofs.YtabjomgikljdhaaDoor
open Go.RowKit Go.Maps

def takeBoolP : Txt → Option (ValA × Txt)
  | [] => none
  | c :: r => if 1 < c.toNat then none else some (⟨2, num c, []⟩, r)
def takeBytesP : Txt → Option (ValA × Txt)
  | [] => none
  | c :: r => if 20 < c.toNat then none else if r.length < c.toNat then none else some (⟨3, 0, r.take c.toNat⟩, r.drop c.toNat)
def takeIntP (t : Txt) : Option (ValA × Txt) := (takeG 0 t 0).map fun p => (⟨1, backB p.1, []⟩, p.2)
def takeP (ty : Int) (t : Txt) : Option (ValA × Txt) := if ty = 1 then takeIntP t else if ty = 2 then takeBoolP t else takeBytesP t

theorem first_bytes {w : World} {a : Option Addr} {cap n : Nat} {t : Txt} (h : BytesAt w (.slice a t.length cap) t) (hn : n ≤ t.length) : BytesAt w (.slice a n cap) (t.take n) := by
  have e : bs t = bs (t.take n) ++ bs (t.drop n) := by rw [← bs_append, List.take_append_drop]
  unfold BytesAt at *
  rw [e] at h
  rw [List.length_take, Nat.min_eq_left hn]
  exact h.first hn

end Go.Proofs.YtabjomgikljdhaaDoor
