import Derived.Test.YtafniangljmjeabDoorDb
import Derived.Test.YtafniangljmjeabDoorJn
import Derived.Test.YtafniangljmjeabDoorJm
namespace Go.Proofs.YtafniangljmjeabDoor
open Go.RowKit Go.Maps

/-- How many bytes there are up to the first group that no other follows; 0: no such group. -/
def endG : Txt → Nat
  | [] => 0
  | c :: r => if c.toNat < 128 then 1 else if endG r = 0 then 0 else endG r + 1
theorem endG_le : ∀ t : Txt, endG t ≤ t.length
  | [] => by simp [endG]
  | c :: r => by
    have := endG_le r
    rw [endG]
    simp only [List.length_cons]
    repeat' split
    all_goals omega
theorem endG_groups : ∀ (v : Nat) (e : Txt), endG (groups v ++ e) = (groups v).length := by
  intro v
  induction v using Nat.strongRecOn with
  | ind v ih =>
    intro e
    by_cases h : v < 128
    · rw [groups_small h]
      simp only [List.singleton_append, endG, List.length_singleton]
      rw [ofNat_lt (by omega), if_pos h]
    · rw [groups_big (by omega)]
      simp only [List.cons_append, endG, List.length_cons]
      have hp : 0 < (groups (v / 128)).length := by
        by_cases hg : v / 128 < 128
        · rw [groups_small hg]; simp
        · rw [groups_big (by omega)]; simp
      rw [ofNat_lt (by omega), if_neg (by omega), ih (v / 128) (by omega) e, if_neg (by omega)]
theorem decodeP_int (s : Txt) : decodeP intS s = (takeG 0 s 0).bind fun p => if p.2 = [] then some [⟨1, backB p.1, []⟩] else none := by
  have hh : headB intS = 0 := by decide
  have h0 : head0 intS s = 0 := by unfold head0; rw [hh]; simp
  have hd : s.drop 0 = s := rfl
  have ho : opts intS = 0 := by decide
  unfold decodeP
  rw [hh, h0, hd, if_neg (by omega)]
  simp only [intS, decP]
  cases hg : takeG 0 s 0 with
  | none => simp [takeP, takeIntP, hg]
  | some p =>
    obtain ⟨U, r⟩ := p
    cases r <;> simp [takeP, takeIntP, hg]
theorem decV_int (s : Txt) : decodeV intS s = match (takeG 0 s 0).bind (fun p => if p.2 = [] then some ([⟨1, backB p.1, []⟩] : List ValA) else none) with
    | none => ([], 62)
    | some r => (r, 0) := by
  unfold decodeV
  rw [intS_ok, decodeP_int]
  rfl
theorem int_some {t r : Txt} {U : Nat} (h : takeG 0 t 0 = some (U, r)) : decodeV intS (t.take (endG t)) = ([⟨1, backB U, []⟩], 0) ∧ t.drop (endG t) = r ∧ -9223372036854775808 ≤ backB U ∧ backB U ≤ 9223372036854775807 := by
  obtain ⟨v, hv, ht, _, hU⟩ := takeG_sound t 0 0 U r (by omega) (by simp) h
  simp at hv
  subst hv
  subst ht
  rw [endG_groups, List.take_left, List.drop_left, decV_int]
  have := takeG_groups U 0 0 [] (by omega) (by simp; omega) (Or.inl rfl)
  simp at this
  rw [this]
  have h1 := backB_range U hU
  exact ⟨rfl, rfl, h1⟩
theorem int_none {t : Txt} (h : takeG 0 t 0 = none) : decodeV intS (t.take (endG t)) = ([], 62) := by
  rw [decV_int]
  cases hg : takeG 0 (t.take (endG t)) 0 with
  | none => rfl
  | some p =>
    obtain ⟨U, r⟩ := p
    have := takeG_app _ _ _ _ _ (t.drop (endG t)) hg
    rw [List.take_append_drop, h] at this
    cases this
theorem endG_drop {t : Txt} {k : Nat} {c : UInt8} (h : t[k]? = some c) : endG (t.drop k) = if c.toNat < 128 then 1 else if endG (t.drop (k + 1)) = 0 then 0 else endG (t.drop (k + 1)) + 1 := by
  obtain ⟨hk, hx⟩ := List.getElem?_eq_some_iff.1 h
  rw [List.drop_eq_getElem_cons hk, hx, endG]

end Go.Proofs.YtafniangljmjeabDoor
namespace Go.Proofs.YtafniangljmjeabDoor
open Go.RowKit Go.Maps

/-- What a taking's three answers tell. -/
def TookI (w' : World) (n : Int) (y : Value) (ok : Bool) (bk : Option Nat) : Option (Int × Txt) → Prop
  | none => ok = false
  | some (m, r) => ok = true ∧ n = m ∧ BytesAt w' y r ∧ y.ownBlock = bk
def TookS (w' : World) (s : Txt) (y : Value) (ok : Bool) (bk : Option Nat) : Option (Txt × Txt) → Prop
  | none => ok = false
  | some (m, r) => ok = true ∧ s = m ∧ BytesAt w' y r ∧ y.ownBlock = bk
def byteP : Txt → Option (Int × Txt)
  | [] => none
  | c :: r => some (num c, r)
def textP : Txt → Option (Txt × Txt)
  | [] => none
  | c :: r => if r.length < c.toNat then none else some (r.take c.toNat, r.drop c.toNat)
def intP (t : Txt) : Option (Int × Txt) := (takeG 0 t 0).map fun p => (backB p.1, p.2)

end Go.Proofs.YtafniangljmjeabDoor
namespace Go.Proofs.YtafniangljmjeabDoor
open Go.RowKit Go.Maps

end Go.Proofs.YtafniangljmjeabDoor
