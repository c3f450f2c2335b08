import Derived.Test.YtoempeobaknkcaaGreatDoorJyaw
import Derived.Test.YtoempeobaknkcaaGreatDoorKh
import Derived.Test.YtoempeobaknkcaaGreatDoorJyau
namespace Go.Proofs.YtoempeobaknkcaaGreatDoor
open Go.RowKit Go.Maps

theorem name_short {s : Txt} (h : nameB s = true) : s.length ≤ 8 := by
  unfold nameB at h
  simp only [Bool.and_eq_true, decide_eq_true_eq] at h
  exact h.1.1.1.2
theorem kidsB_range (op : Int) (h : 0 ≤ kidsB op) : ∃ m : Nat, op = m ∧ 1 ≤ m ∧ m ≤ 25 ∧ kidsB op ≤ 3 := by
  have h3 : kidsB op ≤ 3 := by
    unfold kidsB
    repeat' split
    all_goals omega
  unfold kidsB at h
  have h25 : 1 ≤ op ∧ op ≤ 25 := by
    repeat' split at h
    all_goals omega
  exact ⟨op.toNat, by omega, by omega, by omega, h3⟩
theorem kindsP_err (S : List FieldA) : ∀ l : EL, (kindsP S l).2 ≠ 0 → kindsP S l = ([], (kindsP S l).2)
  | .nil, h => absurd rfl h
  | .cons op n s kids rest, h => by
    rw [kindsP_cons] at h ⊢
    by_cases h1 : (kindP S op s kids).2 = 0
    · by_cases h2 : (kindsP S rest).2 = 0
      · simp [h1, h2] at h
      · simp [h1, h2]
    · simp [h1]
theorem root_open {op n : Int} {s : Txt} {k : Nat} (h : rootB op n s k = true) : ∃ (m : Nat) (r : RuleA), op = m ∧ m ≤ 25 ∧ (ruleL[m]?).join = some r ∧ r.kids = k ∧ k ≤ 3 ∧ (r.named = true → s.length ≤ 8) := by
  unfold rootB at h
  simp only [Bool.and_eq_true, decide_eq_true_eq] at h
  obtain ⟨h1, h2, h3⟩ := h
  obtain ⟨m, rfl, hm1, hm2, hm3⟩ := kidsB_range op h1
  obtain ⟨r, hr, hk⟩ := ruleL_kids m hm1 hm2
  refine ⟨m, r, rfl, hm2, hr, by omega, by omega, fun hn => ?_⟩
  have hq : ∀ i : Fin 26, ((ruleL[i.val]?).join).map RuleA.named = some true → i.val = 4 ∨ i.val = 5 := by decide
  have h45 := hq ⟨m, by omega⟩ (by show ((ruleL[m]?).join).map RuleA.named = some true; rw [hr]; exact congrArg some hn)
  have h45' : (m : Int) = 4 ∨ (m : Int) = 5 := by
    rcases h45 with h | h
    · exact Or.inl (by have : m = 4 := h; omega)
    · exact Or.inr (by have : m = 5 := h; omega)
  unfold leafB at h3
  rw [if_neg (by omega), if_neg (by omega), if_neg (by omega), if_pos h45'] at h3
  simp only [Bool.and_eq_true, decide_eq_true_eq] at h3
  exact name_short h3.2
/-- One kind more in its place. -/
theorem ks_step {w1 : World} {b : Nat} {c : Array Value} {k n : Nat} {done : List KA} (T : Int) (O : Bool) (hb : w1.heap[b]? = some (.cells c 80 (0, 0))) (hc : c.size = n * 2) (hk : k < n) (hl : done.length = k)
    (hd : ∀ (i : Nat) (f : KA), done[i]? = some f → c[i * 2]? = some (.int .i64 f.t) ∧ c[i * 2 + 1]? = some (.bool f.o)) :
    ∃ c2 : Array Value, ((w1.setCell ⟨b, k * 2, none⟩ (.int .i64 T)).setCell ⟨b, k * 2 + 1, none⟩ (.bool O)).heap[b]? = some (.cells c2 80 (0, 0)) ∧ c2.size = n * 2 ∧ ∀ (i : Nat) (f : KA), (done ++ [⟨T, O⟩])[i]? = some f → c2[i * 2]? = some (.int .i64 f.t) ∧ c2[i * 2 + 1]? = some (.bool f.o) := by
  refine ⟨_, heap_setCell_at (heap_setCell_at hb _) _, by simp [hc], fun i f hf => ?_⟩
  rw [List.getElem?_append] at hf
  split at hf
  · rename_i hi
    obtain ⟨h1, h2⟩ := hd i f hf
    exact ⟨by rw [Array.getElem?_setIfInBounds_ne (by omega), Array.getElem?_setIfInBounds_ne (by omega)]; exact h1, by rw [Array.getElem?_setIfInBounds_ne (by omega), Array.getElem?_setIfInBounds_ne (by omega)]; exact h2⟩
  · rename_i hi
    have hik : i = k := by
      have := (List.getElem?_eq_some_iff.1 hf).1
      simp at this
      omega
    subst hik
    rw [hl, Nat.sub_self] at hf
    simp at hf
    subst hf
    exact ⟨by simp [hc, show i * 2 < n * 2 by omega], by simp [hc, show i * 2 + 1 < n * 2 by omega]⟩
theorem ks_all {w1 : World} {b : Nat} {c : Array Value} {n : Nat} {ks : List KA} (hb : w1.heap[b]? = some (.cells c 80 (0, 0))) (hl : ks.length = n)
    (hd : ∀ (i : Nat) (f : KA), ks[i]? = some f → c[i * 2]? = some (.int .i64 f.t) ∧ c[i * 2 + 1]? = some (.bool f.o)) : KsAt w1 (.slice (some ⟨b, 0, none⟩) n n) ks := by
  subst hl
  refine ⟨⟨_, _, rfl⟩, fun _ => ⟨b, 0, _, rfl, lt_of_block hb, fun j x hx => ?_⟩, fun ao m cap e => by simp at e; omega⟩
  rw [cell_of_blk hb, Nat.zero_add]
  have hj := (List.getElem?_eq_some_iff.1 hx).1
  rw [kcs_length] at hj
  obtain ⟨f, hf⟩ : ∃ f, ks[j / 2]? = some f := ⟨_, List.getElem?_eq_getElem (by omega)⟩
  obtain ⟨h1, h2⟩ := hd _ _ hf
  rcases Nat.mod_two_eq_zero_or_one j with h | h
  · have e : j = j / 2 * 2 := by omega
    rw [e] at hx ⊢
    have := kcs_get ks (j / 2) f 0 hf (by omega)
    rw [Nat.add_zero, hx] at this
    rw [h1, this]; rfl
  · have e : j = j / 2 * 2 + 1 := by omega
    rw [e] at hx ⊢
    have := kcs_get ks (j / 2) f 1 hf (by omega)
    rw [hx] at this
    rw [h2, this]; rfl
theorem list2 {ks : List KA} (h : ks.length = 2) : ∃ a b, ks = [a, b] := by
  match ks, h with
  | [a, b], _ => exact ⟨a, b, rfl⟩
theorem list3 {ks : List KA} (h : ks.length = 3) : ∃ a b c, ks = [a, b, c] := by
  match ks, h with
  | [a, b, c], _ => exact ⟨a, b, c, rfl⟩
theorem ruleP_fit {S : List FieldA} {m : Nat} {r : RuleA} {s : Txt} {ks : List KA} (h : (ruleL[m]?).join = some r) : ruleP S (m : Int) s ks = r.fit S s ks := by
  unfold ruleP
  rw [Int.toNat_natCast, h]

end Go.Proofs.YtoempeobaknkcaaGreatDoor
