import Derived.Test.YtcicaifioghciaaGreatDoorJzaf
namespace Go.Proofs.YtcicaifioghciaaGreatDoor
open Go.RowKit Go.Maps

/-- The kind of an operation's operand, by the reference's numbers; -1: no such operation. -/
def opdB (o : Int) : Int :=
  if o = 1 then 1 else if o = 4 then 2
  else if o = 5 ∨ o = 6 ∨ o = 20 ∨ o = 21 ∨ o = 22 then 3
  else if o = 25 ∨ o = 26 then 4
  else if 1 ≤ o ∧ o ≤ 26 then 0 else -1
/-- Is an operand right? -/
def rightB (i : ValA) : Bool :=
  if opdB i.kind = 0 then decide (i.n = 0) && decide (i.s = [])
  else if opdB i.kind = 1 then decide (i.s = [])
  else if opdB i.kind = 2 then decide (i.n = 0) && decide (i.s.length ≤ 20)
  else if opdB i.kind = 3 then decide (0 ≤ i.n ∧ i.n < 8) && decide (i.s = [])
  else if opdB i.kind = 4 then decide (0 ≤ i.n ∧ i.n ≤ 255) && decide (i.s = [])
  else false
def formB (i : ValA) : Int := if opdB i.kind = -1 then 110 else if rightB i then 0 else 113
/-- A number's byte. -/
def u8 (n : Int) : UInt8 := UInt8.ofNat n.toNat
def tailB (i : ValA) : Txt :=
  if opdB i.kind = 1 then groups (tn i.n)
  else if opdB i.kind = 2 then UInt8.ofNat i.s.length :: i.s
  else if opdB i.kind = 3 ∨ opdB i.kind = 4 then [u8 i.n]
  else []
def oneB (i : ValA) : Txt := u8 i.kind :: tailB i
def bytesC (l : List ValA) : Txt := l.flatMap oneB
/-- The first error of a form. -/
def firstE : List ValA → Int
  | [] => 0
  | i :: r => if formB i = 0 then firstE r else formB i
def encC (l : List ValA) : Txt × Int :=
  if 96 < l.length then ([], 110) else if firstE l ≠ 0 then ([], firstE l) else if 96 < (bytesC l).length then ([], 110) else (bytesC l, 0)

theorem opdB_cases (o : Int) : opdB o = -1 ∨ opdB o = 0 ∨ opdB o = 1 ∨ opdB o = 2 ∨ opdB o = 3 ∨ opdB o = 4 := by
  unfold opdB
  repeat' split
  all_goals simp
theorem opdB_range {o : Int} (h : opdB o ≠ -1) : 1 ≤ o ∧ o ≤ 26 := by
  unfold opdB at h
  repeat' split at h
  all_goals (first | omega | simp at h)
theorem opdB_out {o : Int} (h : opdB o = -1) : o < 1 ∨ 26 < o := by
  unfold opdB at h
  repeat' split at h
  all_goals (first | omega | simp at h)
theorem formB_zero {i : ValA} (h : formB i = 0) : opdB i.kind ≠ -1 ∧ rightB i = true := by
  unfold formB at h
  split at h
  · simp at h
  · rename_i h1
    split at h
    · rename_i h2; exact ⟨h1, h2⟩
    · simp at h
theorem u8_num {n : Int} (h0 : 0 ≤ n) (h1 : n ≤ 255) : num (u8 n) = n := by
  unfold u8
  rw [num_of _ (by omega)]
  omega
theorem num_u8 (c : UInt8) : u8 (num c) = c := by
  unfold u8 num
  simp
theorem firstE_zero {l : List ValA} (h : firstE l = 0) : ∀ i ∈ l, formB i = 0 := by
  induction l with
  | nil => simp
  | cons x r ih =>
    rw [firstE] at h
    split at h
    · rename_i hx
      intro i hi
      rcases List.mem_cons.1 hi with rfl | h2
      · exact hx
      · exact ih h i h2
    · rename_i hx; exact absurd h hx
theorem firstE_of {l : List ValA} (h : ∀ i ∈ l, formB i = 0) : firstE l = 0 := by
  induction l with
  | nil => rfl
  | cons x r ih => rw [firstE, if_pos (h x (by simp))]; exact ih (fun i hi => h i (by simp [hi]))
theorem bytesC_cons (i : ValA) (l : List ValA) : bytesC (i :: l) = oneB i ++ bytesC l := rfl
theorem bytesC_append (a b : List ValA) : bytesC (a ++ b) = bytesC a ++ bytesC b := by simp [bytesC]
theorem bytesC_len (l : List ValA) : l.length ≤ (bytesC l).length := by
  induction l with
  | nil => simp
  | cons x r ih => rw [bytesC_cons]; simp [oneB]; omega

/-- Decoding as the program looks. -/
def takeC : Txt → Option (ValA × Txt)
  | [] => none
  | c :: r =>
    if opdB (num c) = -1 then none
    else if opdB (num c) = 0 then some (⟨num c, 0, []⟩, r)
    else if opdB (num c) = 1 then (takeG 0 r 0).map fun p => (⟨num c, backB p.1, []⟩, p.2)
    else if opdB (num c) = 2 then (match r with
      | [] => none
      | k :: q => if q.length < k.toNat ∨ 20 < k.toNat then none else some (⟨num c, 0, q.take k.toNat⟩, q.drop k.toNat))
    else (match r with
      | [] => none
      | k :: q => if opdB (num c) = 3 ∧ 8 ≤ k.toNat then none else some (⟨num c, num k, []⟩, q))
def decF : Nat → Txt → Option (List ValA)
  | 0, b => if b = [] then some [] else none
  | n + 1, b => if b = [] then some [] else (takeC b).bind fun p => (decF n p.2).map (p.1 :: ·)
def decC (b : Txt) : List ValA × Int := if 96 < b.length then ([], 110) else match decF b.length b with
  | none => ([], 110)
  | some l => (l, 0)

theorem toNat_num (c : UInt8) : (c.toNat : Int) = num c := rfl
theorem num_range2 {n : Int} (c : UInt8) (h : num c = n) : c.toNat = n.toNat := by unfold num at h; omega

theorem rightB_at {i : ValA} (h : rightB i = true) :
    (opdB i.kind = 0 → i.n = 0 ∧ i.s = []) ∧ (opdB i.kind = 1 → i.s = []) ∧ (opdB i.kind = 2 → i.n = 0 ∧ i.s.length ≤ 20) ∧ (opdB i.kind = 3 → (0 ≤ i.n ∧ i.n < 8) ∧ i.s = []) ∧ (opdB i.kind = 4 → (0 ≤ i.n ∧ i.n ≤ 255) ∧ i.s = []) := by
  unfold rightB at h
  refine ⟨fun e => ?_, fun e => ?_, fun e => ?_, fun e => ?_, fun e => ?_⟩ <;> rw [e] at h <;> simpa using h

theorem takeC_one {i : ValA} (h : formB i = 0) (hI : -9223372036854775808 ≤ i.n ∧ i.n ≤ 9223372036854775807) (r : Txt) : takeC (oneB i ++ r) = some (i, r) := by
  obtain ⟨h1, h2⟩ := formB_zero h
  obtain ⟨ho0, ho1⟩ := opdB_range h1
  obtain ⟨r0, r1, r2, r3, r4⟩ := rightB_at h2
  have hu := u8_num (n := i.kind) (by omega) (by omega)
  obtain ⟨k, n, s⟩ := i
  simp only at *
  unfold oneB tailB
  simp only [List.cons_append, takeC, hu]
  rw [if_neg h1]
  rcases opdB_cases k with e | e | e | e | e | e <;> simp only [e] at *
  · exact absurd rfl h1
  · simp at r0
    simp [r0]
  · simp at r1
    subst r1
    have := takeG_groups (tn n) 0 0 r (by omega) (by have := tn_le n hI.1 hI.2; simp; omega) (Or.inl rfl)
    simp [this, back_tn]
  · simp at r2
    obtain ⟨rfl, hs⟩ := r2
    simp [ofNat_lt (v := s.length) (by omega)]
    omega
  · simp at r3
    obtain ⟨⟨h3, h4⟩, rfl⟩ := r3
    have hn := u8_num (n := n) (by omega) (by omega)
    have hn2 := num_range2 _ hn
    simp [hn, hn2]
    omega
  · simp at r4
    obtain ⟨⟨h3, h4⟩, rfl⟩ := r4
    have hn := u8_num (n := n) (by omega) (by omega)
    simp [hn]

theorem takeC_sound {b r : Txt} {i : ValA} (h : takeC b = some (i, r)) : formB i = 0 ∧ b = oneB i ++ r ∧ -9223372036854775808 ≤ i.n ∧ i.n ≤ 9223372036854775807 := by
  cases b with
  | nil => simp [takeC] at h
  | cons c q =>
    have hc := num_range c
    simp only [takeC] at h
    rcases opdB_cases (num c) with e | e | e | e | e | e <;> simp only [e] at h
    · simp at h
    · simp at h
      obtain ⟨rfl, rfl⟩ := h
      simp [formB, rightB, e, oneB, tailB, num_u8]
    · simp at h
      obtain ⟨U, hg, rfl⟩ := h
      obtain ⟨v, hv, hq, _, hlt⟩ := takeG_sound q 0 0 U r (by omega) (by simp) hg
      simp at hv
      subst hv
      have hb := tn_back U hlt
      refine ⟨by simp [formB, rightB, e], ?_, ?_⟩
      · simp [oneB, tailB, e, num_u8, hb, hq]
      · simp only
        unfold backB
        split <;> omega
    · cases q with
      | nil => simp at h
      | cons k q =>
        simp at h
        obtain ⟨⟨h1, h2⟩, rfl, rfl⟩ := h
        refine ⟨by simp [formB, rightB, e]; omega, ?_, by simp⟩
        simp [oneB, tailB, e, num_u8]
        have : min k.toNat q.length = k.toNat := by omega
        rw [this]
        simp
    · cases q with
      | nil => simp at h
      | cons k q =>
        have hk := num_range k
        simp at h
        obtain ⟨h1, rfl, rfl⟩ := h
        refine ⟨?_, by simp [oneB, tailB, e, num_u8], ?_⟩
        · simp [formB, rightB, e]
          unfold num at *
          omega
        · simp only; omega
    · cases q with
      | nil => simp at h
      | cons k q =>
        have hk := num_range k
        simp at h
        obtain ⟨rfl, rfl⟩ := h
        refine ⟨?_, by simp [oneB, tailB, e, num_u8], ?_⟩
        · simp [formB, rightB, e]
          exact hk
        · simp only; omega

theorem decF_bytes : ∀ (l : List ValA) (n : Nat), (∀ i ∈ l, formB i = 0) → InR l → (bytesC l).length ≤ n → decF n (bytesC l) = some l
  | [], n, _, _, _ => by cases n <;> simp [decF, bytesC]
  | i :: l, n, h, hI, hn => by
    have hne : bytesC (i :: l) ≠ [] := by rw [bytesC_cons]; simp [oneB]
    have hl : (bytesC (i :: l)).length ≥ 1 + (bytesC l).length := by rw [bytesC_cons]; simp [oneB]; omega
    cases n with
    | zero => omega
    | succ n =>
      rw [decF, if_neg hne, bytesC_cons, takeC_one (h i (by simp)) (hI i (by simp))]
      simp only [Option.bind_some]
      rw [decF_bytes l n (fun j hj => h j (by simp [hj])) (fun j hj => hI j (by simp [hj])) (by omega)]
      rfl
theorem decF_sound : ∀ (n : Nat) (b : Txt) (l : List ValA), decF n b = some l → (∀ i ∈ l, formB i = 0) ∧ InR l ∧ bytesC l = b
  | 0, b, l, h => by
    rw [decF] at h
    split at h
    · rename_i hb
      simp at h
      subst h
      exact ⟨by simp, by intro x hx; simp at hx, hb.symm⟩
    · cases h
  | n + 1, b, l, h => by
    rw [decF] at h
    split at h
    · rename_i hb
      simp at h
      subst h
      exact ⟨by simp, by intro x hx; simp at hx, hb.symm⟩
    · cases ht : takeC b with
      | none => rw [ht] at h; simp at h
      | some p =>
        obtain ⟨i, r⟩ := p
        rw [ht] at h
        simp only [Option.bind_some, Option.map_eq_some_iff] at h
        obtain ⟨l', h1, rfl⟩ := h
        obtain ⟨f1, f2, f3⟩ := takeC_sound ht
        obtain ⟨g1, g2, g3⟩ := decF_sound n r l' h1
        refine ⟨?_, ?_, ?_⟩
        · intro j hj
          rcases List.mem_cons.1 hj with rfl | hj
          · exact f1
          · exact g1 j hj
        · intro j hj
          rcases List.mem_cons.1 hj with rfl | hj
          · exact f3
          · exact g2 j hj
        · rw [bytesC_cons, g3, f2]

/-- Reading as the reference does. -/
def tbB : Txt → Nat → Nat → Nat × Txt
  | [], u, _ => (u, [])
  | c :: r, u, s => if c.toNat < 128 then ((u + c.toNat % 128 * s) % 18446744073709551616, r) else tbB r ((u + c.toNat % 128 * s) % 18446744073709551616) (s * 128 % 18446744073709551616)
def readC : Txt → ValA × Txt
  | [] => (⟨0, 0, []⟩, [])
  | c :: r =>
    if opdB (num c) = 1 then (⟨num c, backB (tbB r 0 1).1, []⟩, (tbB r 0 1).2)
    else if opdB (num c) = 2 then (match r with
      | [] => (⟨num c, 0, []⟩, [])
      | k :: q => (⟨num c, 0, q.take k.toNat⟩, q.drop k.toNat))
    else if opdB (num c) = 3 ∨ opdB (num c) = 4 then (match r with
      | [] => (⟨num c, 0, []⟩, [])
      | k :: q => (⟨num c, num k, []⟩, q))
    else (⟨num c, 0, []⟩, r)
def allC : Nat → Txt → List ValA
  | 0, _ => []
  | n + 1, b => if b = [] then [] else (readC b).1 :: allC n (readC b).2
def refC (b : Txt) : List ValA × Int := if 96 < b.length then ([], 110) else if (encC (allC b.length b)).2 ≠ 0 ∨ (encC (allC b.length b)).1 ≠ b then ([], 110) else (allC b.length b, 0)

theorem tbB_groups : ∀ (v k U : Nat) (e : Txt), k ≤ 9 → U + 128 ^ k * v < 18446744073709551616 → (k = 0 ∨ v ≠ 0) → tbB (groups v ++ e) U (128 ^ k) = (U + 128 ^ k * v, e) := by
  intro v
  induction v using Nat.strongRecOn with
  | ind v ih =>
    intro k U e hk hlt hv
    have h9 : k = 9 → v ≤ 1 := by
      rintro rfl
      rw [pow9] at hlt
      omega
    by_cases h : v < 128
    · rw [groups_small h]
      simp only [List.singleton_append, tbB]
      rw [ofNat_lt (by omega), if_pos h, Nat.mod_eq_of_lt h, Nat.mul_comm v, Nat.mod_eq_of_lt hlt]
    · rw [groups_big (by omega)]
      simp only [List.cons_append, tbB]
      rw [ofNat_lt (by omega), if_neg (by omega)]
      have hk9 : k < 9 := by
        rcases Nat.lt_or_ge k 9 with h' | h'
        · exact h'
        · have := h9 (by omega); omega
      have hm : (v % 128 + 128) % 128 = v % 128 := by omega
      have hdm : 128 ^ k * v = 128 ^ k * (v % 128) + 128 ^ (k + 1) * (v / 128) := by
        rw [Nat.pow_succ, Nat.mul_assoc, ← Nat.mul_add]
        congr 1
        omega
      have hp : 128 ^ k * 128 % 18446744073709551616 = 128 ^ (k + 1) := by
        rw [← Nat.pow_succ]
        have := Nat.pow_le_pow_right (n := 128) (by omega) (show k + 1 ≤ 9 by omega)
        rw [pow9] at this
        exact Nat.mod_eq_of_lt (by omega)
      rw [hm, hp, Nat.mul_comm (v % 128), Nat.mod_eq_of_lt (by rw [hdm] at hlt; omega), ih (v / 128) (by omega) (k + 1) _ e (by omega) (by rw [hdm] at hlt; omega) (Or.inr (by omega)), hdm, Nat.add_assoc]
theorem tbB_len : ∀ (t : Txt) (u s : Nat), (tbB t u s).2.length ≤ t.length
  | [], _, _ => by simp [tbB]
  | c :: r, u, s => by
    rw [tbB]
    split
    · simp
    · have := tbB_len r ((u + c.toNat % 128 * s) % 18446744073709551616) (s * 128 % 18446744073709551616)
      simp only [List.length_cons]; omega
theorem tbB_lt : ∀ (t : Txt) (u s : Nat), u < 18446744073709551616 → (tbB t u s).1 < 18446744073709551616
  | [], _, _, h => by simpa [tbB] using h
  | c :: r, u, s, h => by
    rw [tbB]
    split
    · exact Nat.mod_lt _ (by omega)
    · exact tbB_lt r _ _ (Nat.mod_lt _ (by omega))
theorem readC_len (b : Txt) (h : b ≠ []) : (readC b).2.length < b.length := by
  cases b with
  | nil => exact absurd rfl h
  | cons c r =>
    have := tbB_len r 0 1
    simp only [readC]
    repeat' split
    all_goals (simp only [List.length_cons, List.length_drop, List.length_nil]; omega)
theorem readC_range (b : Txt) : -9223372036854775808 ≤ (readC b).1.n ∧ (readC b).1.n ≤ 9223372036854775807 := by
  cases b with
  | nil => simp [readC]
  | cons c r =>
    have := tbB_lt r 0 1 (by omega)
    have hn : ∀ k : UInt8, -9223372036854775808 ≤ num k ∧ num k ≤ 9223372036854775807 := fun k => by have := num_range k; omega
    simp only [readC]
    repeat' split
    · simp only; unfold backB; split <;> omega
    · simp
    · simp
    · simp
    · exact hn _
    · simp
theorem readC_one {i : ValA} (h : formB i = 0) (hI : -9223372036854775808 ≤ i.n ∧ i.n ≤ 9223372036854775807) (r : Txt) : readC (oneB i ++ r) = (i, r) := by
  obtain ⟨h1, h2⟩ := formB_zero h
  obtain ⟨ho0, ho1⟩ := opdB_range h1
  obtain ⟨r0, r1, r2, r3, r4⟩ := rightB_at h2
  have hu := u8_num (n := i.kind) (by omega) (by omega)
  obtain ⟨k, n, s⟩ := i
  simp only at *
  unfold oneB tailB
  simp only [List.cons_append, readC, hu]
  rcases opdB_cases k with e | e | e | e | e | e <;> simp only [e] at *
  · exact absurd rfl h1
  · simp at r0
    simp [r0]
  · simp at r1
    subst r1
    have := tbB_groups (tn n) 0 0 r (by omega) (by have := tn_le n hI.1 hI.2; simp; omega) (Or.inl rfl)
    simp at this
    simp [this, back_tn]
  · simp at r2
    obtain ⟨rfl, hs⟩ := r2
    simp [ofNat_lt (v := s.length) (by omega)]
  · simp at r3
    obtain ⟨⟨h3, h4⟩, rfl⟩ := r3
    have hn := u8_num (n := n) (by omega) (by omega)
    simp [hn]
  · simp at r4
    obtain ⟨⟨h3, h4⟩, rfl⟩ := r4
    have hn := u8_num (n := n) (by omega) (by omega)
    simp [hn]
theorem allC_bytes : ∀ (l : List ValA) (n : Nat), (∀ i ∈ l, formB i = 0) → InR l → (bytesC l).length ≤ n → allC n (bytesC l) = l
  | [], n, _, _, _ => by cases n <;> simp [allC, bytesC]
  | i :: l, n, h, hI, hn => by
    have hne : bytesC (i :: l) ≠ [] := by rw [bytesC_cons]; simp [oneB]
    have hl : (bytesC (i :: l)).length ≥ 1 + (bytesC l).length := by rw [bytesC_cons]; simp [oneB]; omega
    cases n with
    | zero => omega
    | succ n =>
      rw [allC, if_neg hne, bytesC_cons, readC_one (h i (by simp)) (hI i (by simp))]
      rw [allC_bytes l n (fun j hj => h j (by simp [hj])) (fun j hj => hI j (by simp [hj])) (by omega)]
theorem allC_range : ∀ (n : Nat) (b : Txt), InR (allC n b)
  | 0, _ => by intro x hx; simp [allC] at hx
  | n + 1, b => by
    rw [allC]
    split
    · intro x hx; simp at hx
    · intro x hx
      rcases List.mem_cons.1 hx with rfl | h
      · exact readC_range b
      · exact allC_range n _ x h
theorem allC_len : ∀ (n : Nat) (b : Txt), (allC n b).length ≤ n
  | 0, _ => by simp [allC]
  | n + 1, b => by
    rw [allC]
    split
    · simp
    · have := allC_len n (readC b).2
      simp only [List.length_cons]; omega
theorem encC_ok {l : List ValA} {b : Txt} (h2 : (encC l).2 = 0) (h1 : (encC l).1 = b) : firstE l = 0 ∧ bytesC l = b ∧ b.length ≤ 96 ∧ l.length ≤ 96 := by
  unfold encC at h1 h2
  split at h2
  · simp at h2
  · split at h2
    · rename_i h3 h4; simp at h2; exact absurd h2 h4
    · split at h2
      · simp at h2
      · rename_i h3 h4 h5
        rw [if_neg h3, if_neg h4, if_neg h5] at h1
        simp at h1
        subst h1
        exact ⟨by simpa using h4, rfl, by omega, by omega⟩
theorem encC_of {l : List ValA} (h : firstE l = 0) (hb : (bytesC l).length ≤ 96) : encC l = (bytesC l, 0) := by
  have := bytesC_len l
  unfold encC
  rw [if_neg (by omega), if_neg (by simpa using h), if_neg (by omega)]
theorem dec_eq (b : Txt) : decC b = refC b := by
  unfold decC refC
  by_cases h96 : 96 < b.length
  · rw [if_pos h96, if_pos h96]
  · rw [if_neg h96, if_neg h96]
    cases hd : decF b.length b with
    | some l =>
      obtain ⟨h1, h2, h3⟩ := decF_sound _ _ _ hd
      have ha := allC_bytes l b.length h1 h2 (by rw [h3]; omega)
      rw [h3] at ha
      rw [ha, encC_of (firstE_of h1) (by rw [h3]; omega), h3]
      simp
    | none =>
      rw [if_pos ?_]
      apply Classical.byContradiction
      intro hn
      have hn' : (encC (allC b.length b)).2 = 0 ∧ (encC (allC b.length b)).1 = b := by
        constructor
        · exact Classical.byContradiction fun h => hn (Or.inl h)
        · exact Classical.byContradiction fun h => hn (Or.inr h)
      obtain ⟨h1, h2, _⟩ := encC_ok hn'.1 hn'.2
      have := decF_bytes _ b.length (firstE_zero h1) (allC_range _ _) (by rw [h2]; omega)
      rw [h2, hd] at this
      cases this
/-- Decode of Encode, Encode of Decode. -/
theorem dec_enc {l : List ValA} (hI : InR l) (h : (encC l).2 = 0) : decC (encC l).1 = (l, 0) := by
  obtain ⟨h1, h2, h3, _⟩ := encC_ok h rfl
  unfold decC
  rw [if_neg (by omega), ← h2, decF_bytes l _ (firstE_zero h1) hI (by omega)]
theorem enc_dec {b : Txt} (h : (decC b).2 = 0) : encC (decC b).1 = (b, 0) ∧ InR (decC b).1 := by
  unfold decC at h ⊢
  split at h
  · simp at h
  · rename_i h96
    rw [if_neg h96]
    cases hd : decF b.length b with
    | none => rw [hd] at h; simp at h
    | some l =>
      obtain ⟨h1, h2, h3⟩ := decF_sound _ _ _ hd
      simp only
      rw [encC_of (firstE_of h1) (by rw [h3]; omega), h3]
      exact ⟨rfl, h2⟩
theorem decC_err {b : Txt} (h : (decC b).2 ≠ 0) : decC b = ([], 110) := by
  unfold decC at h ⊢
  split at h
  · rename_i h96; rw [if_pos h96]
  · rename_i h96
    rw [if_neg h96]
    cases hd : decF b.length b with
    | none => rfl
    | some l => rw [hd] at h; simp at h

end Go.Proofs.YtcicaifioghciaaGreatDoor
namespace Go.Proofs.YtcicaifioghciaaGreatDoor
open Go.RowKit Go.Maps

/-- A row of the table of operations. -/
structure OpA where
  word : Txt
  opd : Int
  takes : Nat
  of : Int
  gives : Int
def opsL : List OpA := [⟨[], 0, 0, 0, 0⟩, ⟨[112, 117, 115, 104], 1, 0, 0, 1⟩, ⟨[116, 114, 117, 101], 0, 0, 0, 2⟩, ⟨[102, 97, 108, 115, 101], 0, 0, 0, 2⟩, ⟨[98, 121, 116, 101, 115], 2, 0, 0, 3⟩, ⟨[108, 111, 97, 100], 3, 0, 0, 4⟩, ⟨[104, 97, 115], 4, 0, 0, 2⟩, ⟨[104, 101, 114, 101], 0, 0, 0, 2⟩,
  ⟨[110, 111, 116], 0, 1, 2, 2⟩, ⟨[110, 101, 103], 0, 1, 1, 1⟩, ⟨[97, 100, 100], 0, 2, 1, 1⟩, ⟨[115, 117, 98], 0, 2, 1, 1⟩, ⟨[109, 117, 108], 0, 2, 1, 1⟩, ⟨[109, 105, 110], 0, 2, 1, 1⟩, ⟨[109, 97, 120], 0, 2, 1, 1⟩, ⟨[108, 116], 0, 2, 5, 2⟩, ⟨[108, 101], 0, 2, 5, 2⟩, ⟨[101, 113], 0, 2, 6, 2⟩, ⟨[108, 101, 110], 0, 1, 3, 1⟩, ⟨[99, 97, 116], 0, 2, 3, 3⟩,
  ⟨[115, 116, 111, 114, 101], 3, 1, 4, 0⟩, ⟨[97, 100, 100, 116, 111], 5, 1, 1, 0⟩, ⟨[99, 108, 101, 97, 114], 4, 0, 0, 0⟩, ⟨[110, 101, 119], 0, 0, 0, 0⟩, ⟨[100, 101, 108, 101, 116, 101], 0, 0, 0, 0⟩, ⟨[106, 117, 109, 112], 6, 0, 0, 0⟩, ⟨[117, 110, 108, 101, 115, 115], 6, 1, 2, 0⟩]
def opA (o : Int) : OpA := (opsL[o.toNat]?).getD ⟨[], 0, 0, 0, 0⟩
theorem op_cases {o : Int} (h : opdB o ≠ -1) : o ∈ ([1, 2, 3, 4, 5, 6, 7, 8, 9, 10, 11, 12, 13, 14, 15, 16, 17, 18, 19, 20, 21, 22, 23, 24, 25, 26] : List Int) := by
  have := opdB_range h
  simp only [List.mem_cons, List.not_mem_nil, or_false]
  omega
theorem opd_of : ∀ o ∈ ([1, 2, 3, 4, 5, 6, 7, 8, 9, 10, 11, 12, 13, 14, 15, 16, 17, 18, 19, 20, 21, 22, 23, 24, 25, 26] : List Int), opdB o = (if (opA o).opd = 6 then 4 else if 3 ≤ (opA o).opd then 3 else (opA o).opd) ∧ 0 ≤ (opA o).opd ∧ (opA o).opd ≤ 6 := by decide

end Go.Proofs.YtcicaifioghciaaGreatDoor
namespace Go.Proofs.YtcicaifioghciaaGreatDoor
open Go.RowKit Go.Maps

def OpA.cs (f : OpA) : List Value := [str f.word, .int .i64 f.opd, .int .i64 (f.takes : Int), .int .i64 f.of, .int .i64 f.gives]
/-- The table of operations lies as its initialiser lays it. -/
structure Ops (w : World) : Prop where
  lt : 0 < w.heap.size
  cell : ∀ (i : Nat) (f : OpA), opsL[i]? = some f → ∀ (j : Nat) (x : Value), f.cs[j]? = some x → w.cell? ⟨0, i * 5 + j, none⟩ = some x
theorem Ops.keep {F : Nat → Prop} {w w' : World} (h : Ops w) (hk : Keeps F w w') (hF : ¬ F 0) : Ops w' :=
  ⟨Nat.lt_of_lt_of_le h.lt hk.size, fun i f hf j x hx => by rw [hk.cell h.lt hF]; exact h.cell i f hf j x hx⟩
theorem Ops.keepF {w w' : World} (h : Ops w) (hk : Keeps (fun _ => False) w w') : Ops w' := h.keep hk id
theorem opsL_at (m : Nat) (h : m < 27) : opsL[m]? = some (opA m) := by
  unfold opA
  rw [Int.toNat_natCast]
  have hl : m < opsL.length := h
  rw [List.getElem?_eq_getElem hl]
  rfl
theorem Ops.at {w : World} (h : Ops w) {m : Nat} (hm : m < 27) : w.cell? ⟨0, m * 5 + 1, none⟩ = some (.int .i64 (opA m).opd) ∧ w.cell? ⟨0, m * 5 + 2, none⟩ = some (.int .i64 ((opA m).takes : Int)) ∧ w.cell? ⟨0, m * 5 + 3, none⟩ = some (.int .i64 (opA m).of) ∧ w.cell? ⟨0, m * 5 + 4, none⟩ = some (.int .i64 (opA m).gives) ∧ w.cell? ⟨0, m * 5, none⟩ = some (str (opA m).word) :=
  ⟨h.cell m _ (opsL_at m hm) 1 _ rfl, h.cell m _ (opsL_at m hm) 2 _ rfl, h.cell m _ (opsL_at m hm) 3 _ rfl, h.cell m _ (opsL_at m hm) 4 _ rfl, h.cell m _ (opsL_at m hm) 0 _ rfl⟩
/-- The two numberings of operands. -/
theorem opd_cases {o : Int} (h : opdB o ≠ -1) : ((opA o).opd = 0 ∧ opdB o = 0) ∨ ((opA o).opd = 1 ∧ opdB o = 1) ∨ ((opA o).opd = 2 ∧ opdB o = 2) ∨ ((opA o).opd = 3 ∧ opdB o = 3) ∨ ((opA o).opd = 4 ∧ opdB o = 3) ∨ ((opA o).opd = 5 ∧ opdB o = 3) ∨ ((opA o).opd = 6 ∧ opdB o = 4) := by
  have h1 := opd_of o (op_cases h)
  obtain ⟨h2, h3, h4⟩ := h1
  rw [h2]
  have : (opA o).opd = 0 ∨ (opA o).opd = 1 ∨ (opA o).opd = 2 ∨ (opA o).opd = 3 ∨ (opA o).opd = 4 ∨ (opA o).opd = 5 ∨ (opA o).opd = 6 := by omega
  rcases this with e | e | e | e | e | e | e <;> simp [e]

theorem isOperation_v (o : Int) (w : World) : Calls Tryz.prog 42 #[.int .i64 o] w fun e w' => e = .returned (.bool (decide (opdB o ≠ -1))) ∧ w' = w := by
  go_enter Tryz.func42, Tryz.ntmps42
  go_wp2
  all_goals
    go_ret
    refine ⟨ret_bool ?_, rfl⟩
    apply Bool.eq_iff_iff.2
    by_cases h : opdB o = -1
    · have := opdB_out h
      simp [h] at *
      try omega
    · have := opdB_range h
      simp [h] at *
      try omega

set_option maxRecDepth 100000 in
set_option maxHeartbeats 2000000 in
theorem rightOperand_v (i : ValA) (w : World) (hO : Ops w) (ho : opdB i.kind ≠ -1) : Calls Tryz.prog 43 #[i.v] w fun e w' => e = .returned (.bool (rightB i)) ∧ Keeps (fun _ => False) w w' := by
  obtain ⟨k, n, s⟩ := i
  unfold ValA.v
  simp only at *
  obtain ⟨h1, h2⟩ := opdB_range ho
  obtain ⟨m, rfl⟩ := Int.eq_ofNat_of_zero_le (show 0 ≤ k by omega)
  obtain ⟨HX, hxb, hxc⟩ := boxed w #[.int .i64 (m : Int), .int .i64 n, str s] 51
  have f0 := hxc 0 (.int .i64 (m : Int)) rfl
  have f1 := hxc 1 (.int .i64 n) rfl
  have f2 := hxc 2 (str s) rfl
  have g1 := ((hO.keepF (unhide HX)).at (m := m) (by omega)).1
  have i0 : (0 : Int) ≤ (m : Int) := by omega
  have i1 : (m : Int) < 27 := by omega
  clear hxc hO hxb
  rcases opd_cases ho with ⟨e1, e2⟩ | ⟨e1, e2⟩ | ⟨e1, e2⟩ | ⟨e1, e2⟩ | ⟨e1, e2⟩ | ⟨e1, e2⟩ | ⟨e1, e2⟩
  all_goals
    rw [e1] at g1
    have HE := hide e2
    clear e1 e2 ho h1 h2
    go_enter Tryz.func43, Tryz.ntmps43
    go_wp2
    all_goals
      go_ret
      refine ⟨ret_bool ?_, (Keeps.refl _ _).alloc _⟩
      have e2 := unhide HE
      clear HE HX f0 f1 f2 g1
      unfold rightB
      simp only [e2]
      apply Bool.eq_iff_iff.2
      first | (simp_all; done) | (simp_all; omega) | (simp at *; omega)

set_option maxRecDepth 100000 in
set_option maxHeartbeats 1000000 in
theorem checkForm_v (i : ValA) (w : World) (hO : Ops w) : Calls Tryz.prog 27 #[i.v] w fun e w' => e = .returned (.int .i64 (formB i)) ∧ Keeps (fun _ => False) w w' := by
  obtain ⟨HX, hxb, hxc⟩ := boxed w #[.int .i64 i.kind, .int .i64 i.n, str i.s] 51
  have f0 := hxc 0 (.int .i64 i.kind) rfl
  have f1 := hxc 1 (.int .i64 i.n) rfl
  have f2 := hxc 2 (str i.s) rfl
  have HO := hide (hO.keepF (unhide HX))
  have HQ := hide (isOperation_v i.kind (w.alloc (.cells #[.int .i64 i.kind, .int .i64 i.n, str i.s] 51)))
  have HR : Hid (opdB i.kind ≠ -1 → _) := fun h => rightOperand_v i (w.alloc (.cells #[.int .i64 i.kind, .int .i64 i.n, str i.s] 51)) (unhide HO) h
  have HE : Hid (formB i = if opdB i.kind = -1 then 110 else if rightB i then 0 else 113) := rfl
  generalize formB i = E at *
  clear hxc hO hxb
  unfold ValA.v at *
  go_enter Tryz.func27, Tryz.ntmps27
  go_wp2_with fail
  refine (unhide HQ).mono ?_
  rintro e w2 ⟨rfl, rfl⟩
  by_cases h : opdB i.kind = -1
  · rw [decide_eq_false (by simpa using h)]
    have := unhide HE
    rw [if_pos h] at this
    subst this
    clear h HR
    go_wp2_with fail
    go_ret
    exact ⟨rfl, unhide HX⟩
  · rw [decide_eq_true h]
    have HC := hide (unhide HR h)
    have he := unhide HE
    rw [if_neg h] at he
    have HE2 := hide he
    clear h HR he HE
    go_wp2_with fail
    refine (unhide HC).mono ?_
    rintro e w3 ⟨rfl, hk3⟩
    have HK := hide ((unhide HX).trans hk3)
    clear hk3
    cases hr : rightB i with
    | true =>
      have := unhide HE2
      rw [hr] at this
      simp at this
      subst this
      go_wp2_with fail
      go_ret
      exact ⟨rfl, unhide HK⟩
    | false =>
      have := unhide HE2
      rw [hr] at this
      simp at this
      subst this
      go_wp2_with fail
      go_ret
      exact ⟨rfl, unhide HK⟩

end Go.Proofs.YtcicaifioghciaaGreatDoor
