import Derived.Test.YtafniangljmjeaaDoorDb
import Derived.Test.YtafniangljmjeaaDoorNv
namespace Go.Proofs.YtafniangljmjeaaDoor
open Go.RowKit Go.Maps

/-- How many bytes there are up to the first group that no other follows; 0: no such group. -/
def endG : Txt → Nat
  | [] => 0
  | c :: r => if c.toNat < 128 then 1 else if endG r = 0 then 0 else endG r + 1
theorem endG_le : ∀ t : Txt, endG t ≤ t.length
  | [] => by simp [endG]
  | c :: r => by
    have := endG_le r
    rw [endG]
    simp only [List.length_cons]
    repeat' split
    all_goals omega
theorem endG_groups : ∀ (v : Nat) (e : Txt), endG (groups v ++ e) = (groups v).length := by
  intro v
  induction v using Nat.strongRecOn with
  | ind v ih =>
    intro e
    by_cases h : v < 128
    · rw [groups_small h]
      simp only [List.singleton_append, endG, List.length_singleton]
      rw [ofNat_lt (by omega), if_pos h]
    · rw [groups_big (by omega)]
      simp only [List.cons_append, endG, List.length_cons]
      have hp : 0 < (groups (v / 128)).length := by
        by_cases hg : v / 128 < 128
        · rw [groups_small hg]; simp
        · rw [groups_big (by omega)]; simp
      rw [ofNat_lt (by omega), if_neg (by omega), ih (v / 128) (by omega) e, if_neg (by omega)]
theorem decodeP_int (s : Txt) : decodeP intS s = (takeG 0 s 0).bind fun p => if p.2 = [] then some [⟨1, backB p.1, []⟩] else none := by
  have hh : headB intS = 0 := by decide
  have h0 : head0 intS s = 0 := by unfold head0; rw [hh]; simp
  have hd : s.drop 0 = s := rfl
  have ho : opts intS = 0 := by decide
  unfold decodeP
  rw [hh, h0, hd, if_neg (by omega)]
  simp only [intS, decP]
  cases hg : takeG 0 s 0 with
  | none => simp [takeP, takeIntP, hg]
  | some p =>
    obtain ⟨U, r⟩ := p
    cases r <;> simp [takeP, takeIntP, hg]
theorem decV_int (s : Txt) : decodeV intS s = match (takeG 0 s 0).bind (fun p => if p.2 = [] then some ([⟨1, backB p.1, []⟩] : List ValA) else none) with
    | none => ([], 62)
    | some r => (r, 0) := by
  unfold decodeV
  rw [intS_ok, decodeP_int]
  rfl
theorem int_some {t r : Txt} {U : Nat} (h : takeG 0 t 0 = some (U, r)) : decodeV intS (t.take (endG t)) = ([⟨1, backB U, []⟩], 0) ∧ t.drop (endG t) = r ∧ -9223372036854775808 ≤ backB U ∧ backB U ≤ 9223372036854775807 := by
  obtain ⟨v, hv, ht, _, hU⟩ := takeG_sound t 0 0 U r (by omega) (by simp) h
  simp at hv
  subst hv
  subst ht
  rw [endG_groups, List.take_left, List.drop_left, decV_int]
  have := takeG_groups U 0 0 [] (by omega) (by simp; omega) (Or.inl rfl)
  simp at this
  rw [this]
  have h1 := backB_range U hU
  exact ⟨rfl, rfl, h1⟩
theorem int_none {t : Txt} (h : takeG 0 t 0 = none) : decodeV intS (t.take (endG t)) = ([], 62) := by
  rw [decV_int]
  cases hg : takeG 0 (t.take (endG t)) 0 with
  | none => rfl
  | some p =>
    obtain ⟨U, r⟩ := p
    have := takeG_app _ _ _ _ _ (t.drop (endG t)) hg
    rw [List.take_append_drop, h] at this
    cases this
theorem endG_drop {t : Txt} {k : Nat} {c : UInt8} (h : t[k]? = some c) : endG (t.drop k) = if c.toNat < 128 then 1 else if endG (t.drop (k + 1)) = 0 then 0 else endG (t.drop (k + 1)) + 1 := by
  obtain ⟨hk, hx⟩ := List.getElem?_eq_some_iff.1 h
  rw [List.drop_eq_getElem_cons hk, hx, endG]

theorem lastGroup_v (c : UInt8) (w : World) : Calls Tryd.prog 60 #[.int .u8 (num c)] w fun e w' => e = .returned (.bool (decide (num c < 128))) ∧ w' = w := by
  go_enter Tryd.func60, Tryd.ntmps60
  go_wp2
  all_goals (go_ret; refine ⟨ret_bool ?_, rfl⟩; simp_all)

set_option maxRecDepth 100000 in
set_option maxHeartbeats 1000000 in
theorem indexFunc_v (t : Txt) (v : Value) (w : World) (h : BytesAt w v t) (ht : t.length ≤ 4096) :
    Calls Tryd.prog 59 #[v, .func (.func 60) #[] #[]] w fun e w' => e = .returned (.int .i64 ((endG t : Int) - 1)) ∧ w' = w := by
  obtain ⟨ao, cap, rfl⟩ := RowAt.form h
  have HV := hide h
  have HL := hide (endG_le t)
  clear h
  go_enter Tryd.func59, Tryd.ntmps59
  go_wp2_with fail
  go_loopw [8] (fun i wr => ∃ k : Nat, k ≤ t.length ∧ i = .int .i64 k ∧ Hid (endG t = if endG (t.drop k) = 0 then 0 else endG (t.drop k) + k) ∧ wr = w) (fun i _ => t.length - (intOf i).toNat)
  case atStart => exact ⟨0, Nat.zero_le _, rfl, by show _ = _; simp, rfl⟩
  case round =>
    obtain ⟨k, hk, rfl, HS, rfl⟩ := hrel
    by_cases hlt : k < t.length
    · obtain ⟨x, hx⟩ : ∃ x, t[k]? = some x := ⟨_, List.getElem?_eq_getElem hlt⟩
      obtain ⟨b, off, c, e, hbl, hc⟩ := (unhide HV).cells (by omega)
      simp at e
      obtain ⟨rfl, rfl⟩ := e
      have c0 := hc k x hx
      have HD := hide (endG_drop hx)
      have HQ := hide (lastGroup_v x wr)
      have i2 : (k : Int) < (t.length : Int) := by omega
      have i0' : (0 : Int) ≤ (k : Int) := by omega
      clear hc hx
      go_wp2_with fail
      refine (unhide HQ).mono ?_
      rintro e w2 ⟨rfl, rfl⟩
      by_cases hf : num x < 128
      · rw [decide_eq_true hf]
        have HE : Hid ((k : Int) = (endG t : Int) - 1) := by
          have h1 := unhide HS
          have h2 := unhide HD
          rw [if_pos (by unfold num at hf; omega)] at h2
          rw [h2] at h1
          simp at h1
          show _ = _
          omega
        clear hf HQ
        go_wp2_with fail
        go_ret
        exact ⟨ret_int (unhide HE), rfl⟩
      · rw [decide_eq_false hf]
        have HE : Hid (endG t = if endG (t.drop (k + 1)) = 0 then 0 else endG (t.drop (k + 1)) + (k + 1)) := by
          have h1 := unhide HS
          have h2 := unhide HD
          rw [if_neg (by unfold num at hf; omega)] at h2
          show _ = _
          rw [h1, h2]
          repeat' split
          all_goals omega
        clear hf HQ
        go_wp2_with fail
        go_roundw
        case rel => exact ⟨k + 1, by omega, by go_num, HE, by trivial⟩
        case measure => simp [intOf]; omega
    · obtain rfl : k = t.length := by omega
      have i2 : ¬ (t.length : Int) < (t.length : Int) := by omega
      have HE : Hid ((-1 : Int) = (endG t : Int) - 1) := by
        have h1 := unhide HS
        rw [List.drop_length] at h1
        simp [endG] at h1
        show _ = _
        omega
      clear hlt
      go_wp2_with fail
      go_ret
      exact ⟨ret_int (unhide HE), rfl⟩

end Go.Proofs.YtafniangljmjeaaDoor
