import Derived.Test.YtijfnlfgehcpaaaGreatDoorZd
import Derived.Test.YtijfnlfgehcpaaaGreatDoorJix
namespace Go.Proofs.YtijfnlfgehcpaaaGreatDoor
open Go.RowKit Go.Maps

theorem slot_lt {A : Act} {t : Nat} {v : Value} (ht : t < A.tmps.size) (h : A.tmps.getD t undef = v) : A.tmps[t] = v := by
  rw [Array.getD_eq_getD_getElem?, Array.getElem?_eq_getElem ht] at h
  exact h
theorem Same.at {a0 a : Act} {n : Nat} {dl : List Nat} (h : Same a0 n (fun i => dl.getD i 0) a) (hn : dl.length = n) (t : Nat) (ht : t ∉ dl) : a.tmps.getD t undef = a0.tmps.getD t undef :=
  h.slot t fun i hi e => ht (by rw [← e]; subst hn; rw [List.getD_eq_getElem?_getD, List.getElem?_eq_getElem hi]; exact List.getElem_mem hi)
end Go.Proofs.YtijfnlfgehcpaaaGreatDoor
