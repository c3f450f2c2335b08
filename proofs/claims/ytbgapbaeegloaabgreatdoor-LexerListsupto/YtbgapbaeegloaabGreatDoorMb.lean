import Derived.Test.YtbgapbaeegloaabGreatDoorMa
import Derived.Lib.Split
import Derived.Lib.ParseIntB
import Derived.Lib.IndexBytes
namespace Go.Proofs.YtbgapbaeegloaabGreatDoor
open Go.RowKit Go.Maps

/-- The groups of digits between underlines. -/
def grp : Txt → List Txt
  | [] => [[]]
  | c :: r => if c = 95 then [] :: grp r else match grp r with
    | g :: gs => (c :: g) :: gs
    | [] => [[c]]
theorem grp_ne (s : Txt) : grp s ≠ [] := by
  cases s with
  | nil => simp [grp]
  | cons c r =>
    unfold grp
    split
    · simp
    · split <;> simp
theorem grp_cut : ∀ (p q : Txt), (∀ c ∈ p, c ≠ 95) → grp (p ++ 95 :: q) = p :: grp q
  | [], q, _ => by simp [grp]
  | c :: p, q, h => by
    have ih := grp_cut p q (fun x hx => h x (List.mem_cons_of_mem _ hx))
    show grp (c :: (p ++ 95 :: q)) = _
    rw [grp, if_neg (h c (List.mem_cons_self ..)), ih]
theorem grp_whole : ∀ (p : Txt), (∀ c ∈ p, c ≠ 95) → grp p = [p]
  | [], _ => rfl
  | c :: p, h => by
    have ih := grp_whole p (fun x hx => h x (List.mem_cons_of_mem _ hx))
    rw [grp, if_neg (h c (List.mem_cons_self ..)), ih]
theorem index_at : ∀ (p q : Txt), (∀ c ∈ p, c ≠ 95) → Lib.indexByte (p ++ 95 :: q) 95 = (p.length : Int)
  | [], q, _ => by simp [Lib.indexByte]
  | c :: p, q, h => by
    have ih := index_at p q (fun x hx => h x (List.mem_cons_of_mem _ hx))
    show Lib.indexByte (c :: (p ++ 95 :: q)) 95 = _
    rw [Lib.indexByte, if_neg (by simpa using h c (List.mem_cons_self ..)), ih, if_neg (by simp)]
    simp
theorem index_no : ∀ (p : Txt), (∀ c ∈ p, c ≠ 95) → Lib.indexByte p 95 = -1
  | [], _ => rfl
  | c :: p, h => by
    have ih := index_no p (fun x hx => h x (List.mem_cons_of_mem _ hx))
    rw [Lib.indexByte, if_neg (by simpa using h c (List.mem_cons_self ..)), ih]
    rfl
theorem cut_or : ∀ s : Txt, (∀ c ∈ s, c ≠ 95) ∨ ∃ p q, s = p ++ 95 :: q ∧ ∀ c ∈ p, c ≠ 95
  | [] => .inl (by simp)
  | c :: r => by
    by_cases hc : c = 95
    · exact .inr ⟨[], r, by rw [hc]; rfl, by simp⟩
    · rcases cut_or r with h | ⟨p, q, e, h⟩
      · exact .inl (fun x hx => by rcases List.mem_cons.1 hx with rfl | hx; exact hc; exact h x hx)
      · exact .inr ⟨c :: p, q, by rw [e]; rfl, fun x hx => by rcases List.mem_cons.1 hx with rfl | hx; exact hc; exact h x hx⟩
theorem split_grp : ∀ (n : Nat) (s : Txt), s.length ≤ n → Lib.splitK [95] 0 (Lib.count s [95]) s = grp s ∧ Lib.count s [95] + 1 = (grp s).length := by
  intro n
  induction n with
  | zero =>
    intro s hs
    obtain rfl : s = [] := List.eq_nil_of_length_eq_zero (by omega)
    have : Lib.index ([] : Txt) [95] = -1 := by rw [Lib.index_one]; rfl
    rw [Lib.count_miss this]
    exact ⟨rfl, rfl⟩
  | succ n ih =>
    intro s hs
    rcases cut_or s with h | ⟨p, q, rfl, h⟩
    · have : Lib.index s [95] = -1 := by rw [Lib.index_one, index_no s h]
      rw [Lib.count_miss this, grp_whole s h]
      exact ⟨rfl, rfl⟩
    · have hi : Lib.index (p ++ 95 :: q) [95] = (p.length : Int) := by rw [Lib.index_one, index_at p q h]
      have hd : (p ++ 95 :: q).drop (p.length + ([95] : Txt).length) = q := by
        rw [show p.length + ([95] : Txt).length = (p ++ [95]).length by simp, show p ++ 95 :: q = (p ++ [95]) ++ q by simp, List.drop_left]
      have hl : q.length ≤ n := by simp at hs; omega
      obtain ⟨e1, e2⟩ := ih q hl
      rw [Lib.count_hit (by simp) hi, hd, grp_cut p q h, Nat.add_comm 1, Lib.splitK, if_neg (by rw [hi]; simp), hi]
      constructor
      · rw [show ((p.length : Int)).toNat + 0 = p.length by omega, show ((p.length : Int)).toNat + ([95] : Txt).length = p.length + ([95] : Txt).length by simp, hd, e1, List.take_left]
      · rw [e2]; simp
/-- Has every group a digit? -/
def noGap (last : Bool) : Txt → Bool
  | [] => last
  | c :: r => if c = 95 then last && noGap false r else noGap true r
theorem gap_grp : ∀ (s : Txt) (last : Bool), ∃ g gs, grp s = g :: gs ∧ noGap last s = ((last || decide (g ≠ [])) && gs.all (fun g => decide (g ≠ [])))
  | [], last => ⟨[], [], rfl, by simp [noGap]⟩
  | c :: r, last => by
    by_cases hc : c = 95
    · obtain ⟨g, gs, e, h⟩ := gap_grp r false
      refine ⟨[], grp r, by rw [grp, if_pos hc], ?_⟩
      rw [noGap, if_pos hc, h, e]
      simp
    · obtain ⟨g, gs, e, h⟩ := gap_grp r true
      refine ⟨c :: g, gs, by rw [grp, if_neg hc, e], ?_⟩
      rw [noGap, if_neg hc, h]
      simp
theorem gap_any (s : Txt) : (grp s).any (fun g => decide (g = [])) = !noGap false s := by
  obtain ⟨g, gs, e, h⟩ := gap_grp s false
  rw [e, h, List.any_cons]
  have : gs.all (fun g => decide (g ≠ [])) = !gs.any (fun g => decide (g = [])) := by
    clear e h
    induction gs with
    | nil => rfl
    | cons a r ih =>
      rw [List.all_cons, List.any_cons, ih]
      by_cases ha : a = [] <;> simp [ha]
  rw [this]
  by_cases hg : g = [] <;> simp [hg]
theorem grp_flat : ∀ s : Txt, (grp s).flatten = s.filter (fun c => decide (c ≠ 95))
  | [] => rfl
  | c :: r => by
    have ih := grp_flat r
    by_cases hc : c = 95
    · rw [grp, if_pos hc, List.filter_cons_of_neg (by simp [hc])]
      simpa using ih
    · obtain ⟨g, gs, e⟩ : ∃ g gs, grp r = g :: gs := by
        cases h : grp r with
        | nil => exact absurd h (grp_ne r)
        | cons g gs => exact ⟨g, gs, rfl⟩
      rw [grp, if_neg hc, List.filter_cons_of_pos (by simp [hc]), ← ih, e]
      simp
/-- The value of digits of a base in 64 bits. -/
def pu (b : Int) : Txt → Nat → Option Nat
  | [], n => some n
  | c :: r, n =>
    if hexB (num c) < 0 ∨ b ≤ hexB (num c) then none
    else if 18446744073709551616 ≤ n * b.toNat + (hexB (num c)).toNat then none
    else pu b r (n * b.toNat + (hexB (num c)).toNat)
theorem pu_ge {b : Int} (hb : 1 ≤ b) : ∀ (d : Txt) (n u : Nat), pu b d n = some u → n ≤ u
  | [], n, u, h => by simp [pu] at h; omega
  | c :: r, n, u, h => by
    rw [pu] at h
    split at h
    · simp at h
    · split at h
      · simp at h
      · have := pu_ge hb r _ u h
        have : n * 1 ≤ n * b.toNat := Nat.mul_le_mul_left n (by omega)
        omega
theorem dig_pu (b : Int) (hb : 1 ≤ b) : ∀ (s : Txt) (last : Bool) (n : Nat), n ≤ 9223372036854775808 → digR b s last n = if noGap last s then (match pu b (s.filter (fun c => decide (c ≠ 95))) n with
    | some u => if u ≤ 9223372036854775808 then some u else none
    | none => none) else none
  | [], last, n, hn => by
    cases last <;> simp [digR, noGap, pu, hn]
  | c :: r, last, n, hn => by
    by_cases hc : c = 95
    · rw [digR, if_pos hc, noGap, if_pos hc, List.filter_cons_of_neg (by simp [hc])]
      cases last with
      | false => simp
      | true => simp only [if_true, Bool.true_and]; exact dig_pu b hb r false n hn
    · rw [digR, if_neg hc, noGap, if_neg hc, List.filter_cons_of_pos (by simp [hc]), pu]
      by_cases h1 : hexB (num c) < 0 ∨ b ≤ hexB (num c)
      · rw [if_pos h1, if_pos h1]; simp
      · rw [if_neg h1, if_neg h1]
        by_cases h2 : 9223372036854775808 < n * b.toNat + (hexB (num c)).toNat
        · rw [if_pos h2]
          by_cases h3 : 18446744073709551616 ≤ n * b.toNat + (hexB (num c)).toNat
          · rw [if_pos h3]; simp
          · rw [if_neg h3]
            cases e : pu b (r.filter (fun c => decide (c ≠ 95))) (n * b.toNat + (hexB (num c)).toNat) with
            | none => simp
            | some u =>
              have := pu_ge hb _ _ _ e
              simp only
              rw [if_neg (show ¬ u ≤ 9223372036854775808 by omega)]
              simp
        · rw [if_neg h2, if_neg (show ¬ 18446744073709551616 ≤ n * b.toNat + (hexB (num c)).toNat by omega)]
          exact dig_pu b hb r true _ (by omega)
theorem hex_digit (c : UInt8) : (48 ≤ c.toNat ∧ c.toNat ≤ 57) ↔ ¬ (hexB (num c) < 0 ∨ 10 ≤ hexB (num c)) := by
  unfold hexB num
  repeat' split
  all_goals omega
theorem pu_ten : ∀ (d : Txt) (n : Nat), n < 18446744073709551616 → (∀ u, Lib.parseUintM 18446744073709551615 n d = .ok u ↔ pu 10 d n = some u)
  | [], n, _, u => by simp [Lib.parseUintM, pu]
  | c :: r, n, hn, u => by
    rw [Lib.parseUintM, pu]
    by_cases h1 : 48 ≤ c.toNat ∧ c.toNat ≤ 57
    · have hd : (hexB (num c)).toNat = c.toNat - 48 := by
        unfold hexB num
        rw [if_pos (by omega)]
        omega
      rw [if_pos h1, if_neg ((hex_digit c).1 h1), hd, show (10 : Int).toNat = 10 from rfl]
      by_cases h2 : 1844674407370955162 ≤ n
      · rw [if_pos h2, if_pos (by omega)]; simp
      · rw [if_neg h2]
        by_cases h3 : 18446744073709551615 < n * 10 + (c.toNat - 48)
        · rw [if_pos h3, if_pos (by omega)]; simp
        · rw [if_neg h3, if_neg (by omega)]
          exact pu_ten r _ (by omega) u
    · rw [if_neg h1, if_pos (by
        by_cases q : hexB (num c) < 0 ∨ 10 ≤ hexB (num c)
        · exact q
        · exact absurd ((hex_digit c).2 q) h1)]
      simp
end Go.Proofs.YtbgapbaeegloaabGreatDoor
