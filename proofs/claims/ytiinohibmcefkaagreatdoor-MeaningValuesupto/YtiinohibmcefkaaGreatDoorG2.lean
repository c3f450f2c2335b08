import Derived.Test.YtiinohibmcefkaaGreatDoorJba
namespace Go.Proofs.YtiinohibmcefkaaGreatDoor
open Go.RowKit Go.Maps

def lessR (a b : ValA) : Bool := if a.kind = 3 then Op.bytesLess a.s b.s else decide (a.n < b.n)
theorem cmpT_lt (a b : Txt) : decide (cmpT a b < 0) = Op.bytesLess a b := by
  unfold cmpT
  cases h : Op.bytesLess a b with
  | true => rfl
  | false => by_cases q : a = b <;> simp [q]
theorem cmpT_le (a b : Txt) : decide (cmpT a b ≤ 0) = !Op.bytesLess b a := by
  unfold cmpT
  cases h : Op.bytesLess a b with
  | true => rw [less_asym a b h]; rfl
  | false =>
    by_cases q : a = b
    · subst q; rw [less_irr]; simp
    · cases h' : Op.bytesLess b a with
      | true => simp [q]
      | false => exact absurd (less_tri a b h h') q
theorem good_less {a b : ValA} (ha : goodV a) (hb : goodV b) (hk : a.kind = b.kind) : lessR a b = decide (ordV a b < 0) ∧ (!lessR b a) = decide (ordV a b ≤ 0) := by
  obtain ⟨k, n, s⟩ := a
  obtain ⟨k', n', s'⟩ := b
  simp only at hk
  subst hk
  unfold lessR ordV
  unfold goodV at ha hb
  simp only at ha hb ⊢
  by_cases h3 : k = 3
  · subst h3
    have e1 : n = 0 := by omega
    have e2 : n' = 0 := by omega
    subst e1
    subst e2
    rw [if_pos rfl, if_pos rfl, if_pos (show cmpI 0 0 = 0 from rfl), cmpT_lt, cmpT_le]
    exact ⟨rfl, rfl⟩
  · have e1 : s = [] := by rcases ha with h | h | h <;> simp_all
    have e2 : s' = [] := by rcases hb with h | h | h <;> simp_all
    subst e1
    subst e2
    rw [if_neg h3, if_neg h3]
    unfold cmpI
    have hT : cmpT ([] : Txt) [] = 0 := rfl
    constructor
    · by_cases h1 : n < n'
      · rw [if_pos h1]; simp [h1]
      · by_cases h2 : n' < n
        · rw [if_neg h1, if_pos h2]; simp [h1]
        · rw [if_neg h1, if_neg h2]; simp [h1, hT]
    · by_cases h1 : n < n'
      · rw [if_pos h1]; simp; omega
      · by_cases h2 : n' < n
        · rw [if_neg h1, if_pos h2]; simp [h2]
        · rw [if_neg h1, if_neg h2]; simp [h2, hT]
theorem less_step {a b : Txt} {k : Nat} {x y : UInt8} (ha : a[k]? = some x) (hb : b[k]? = some y) : Op.bytesLess (a.drop k) (b.drop k) = (decide (x < y) || (x == y && Op.bytesLess (a.drop (k + 1)) (b.drop (k + 1)))) := by
  obtain ⟨h1, e1⟩ := List.getElem?_eq_some_iff.1 ha
  obtain ⟨h2, e2⟩ := List.getElem?_eq_some_iff.1 hb
  rw [List.drop_eq_getElem_cons h1, List.drop_eq_getElem_cons h2, e1, e2]
  rfl
theorem less_end {a b : Txt} {k : Nat} (h : a.length ≤ k ∨ b.length ≤ k) (hk : k ≤ a.length ∧ k ≤ b.length) : Op.bytesLess (a.drop k) (b.drop k) = decide (a.length < b.length) := by
  rcases h with h | h
  · rw [List.drop_eq_nil_of_le h]
    cases q : b.drop k with
    | nil => have := List.drop_eq_nil_iff.1 q; simp [Op.bytesLess]; omega
    | cons y t => have := congrArg List.length q; simp at this; simp [Op.bytesLess]; omega
  · rw [List.drop_eq_nil_of_le h]
    cases q : a.drop k with
    | nil => have := List.drop_eq_nil_iff.1 q; simp [Op.bytesLess]; omega
    | cons y t => simp [Op.bytesLess]; omega
set_option maxRecDepth 100000 in
set_option maxHeartbeats 2000000 in
theorem below_v (a b : Txt) (w : World) (hla : a.length ≤ 1024) : Calls Tryz.prog 219 #[str a, str b] w fun e w' => e = .returned (.bool (Op.bytesLess a b)) ∧ Keeps (fun _ => False) w w' := by
  have H0 : Hid (Op.bytesLess (a.drop 0) (b.drop 0) = Op.bytesLess a b) := rfl
  generalize Op.bytesLess a b = R at *
  go_enter Tryz.func219, Tryz.ntmps219
  go_wp2_with fail
  go_loopw [5] (fun i wr => ∃ k : Nat, k ≤ a.length ∧ k ≤ b.length ∧ i = .int .i64 k ∧ Hid (Op.bytesLess (a.drop k) (b.drop k) = R) ∧ Keeps (fun _ => False) w wr) (fun i _ => a.length - (intOf i).toNat)
  case atStart => exact ⟨0, Nat.zero_le _, Nat.zero_le _, rfl, H0, Keeps.refl _ _⟩
  case round =>
    obtain ⟨k, hk, hk2, rfl, HS, hkeep⟩ := hrel
    have HK := hide hkeep
    clear hkeep
    by_cases h1 : k < a.length
    · by_cases h2 : k < b.length
      · obtain ⟨x, hx⟩ : ∃ x, a[k]? = some x := ⟨_, List.getElem?_eq_getElem h1⟩
        obtain ⟨y, hy⟩ : ∃ y, b[k]? = some y := ⟨_, List.getElem?_eq_getElem h2⟩
        have i1 : (k : Int) < (a.length : Int) := by omega
        have i2 : (k : Int) < (b.length : Int) := by omega
        have i0 : (0 : Int) ≤ (k : Int) := by omega
        have a1 := str_at hx
        have b1 := str_at hy
        have HE := hide (less_step hx hy)
        clear hx hy
        by_cases hxy : x = y
        · subst hxy
          have HN : Hid (Op.bytesLess (a.drop (k + 1)) (b.drop (k + 1)) = R) := by
            show _ = _
            rw [← unhide HS, unhide HE]
            simp
          clear HS HE
          go_wp2_with fail
          go_region
          go_wp2_with fail
          go_roundw
          case rel => exact ⟨k + 1, by omega, by omega, by go_num, HN, (unhide HK).drew⟩
          case measure => simp [intOf]; omega
        · have HR : Hid (R = decide (x < y)) := by
            show _ = _
            rw [← unhide HS, unhide HE]
            simp [hxy]
          have hne0 : ¬ (x.toNat : Int) = (y.toNat : Int) := fun q => hxy (UInt8.toNat_inj.1 (by omega))
          have hne1 : ((x.toNat : Int) != (y.toNat : Int)) = true := by rw [bne_iff_ne]; exact hne0
          have hne2 : ((x.toNat : Int) == (y.toNat : Int)) = false := by simpa using hne0
          clear HS HE
          go_wp2_with fail
          go_region
          go_wp2_with fail
          go_region
          go_wp2_with fail
          go_ret
          refine ⟨ret_bool ?_, (unhide HK).drew.drew⟩
          rw [unhide HR]
          apply Bool.eq_iff_iff.2
          simp only [decide_eq_true_eq, UInt8.lt_iff_toNat_lt]
      · have i1 : (k : Int) < (a.length : Int) := by omega
        have i2 : ¬ (k : Int) < (b.length : Int) := by omega
        have HE : Hid (R = decide (a.length < b.length)) := by show _ = _; rw [← unhide HS]; exact less_end (Or.inr (by omega)) ⟨hk, hk2⟩
        clear HS
        go_wp2_with fail
        go_ret
        exact ⟨ret_bool (unhide HE).symm, unhide HK⟩
    · have i1 : ¬ (k : Int) < (a.length : Int) := by omega
      have HE : Hid (R = decide (a.length < b.length)) := by show _ = _; rw [← unhide HS]; exact less_end (Or.inl (by omega)) ⟨hk, hk2⟩
      clear HS
      go_wp2_with fail
      go_ret
      exact ⟨ret_bool (unhide HE).symm, unhide HK⟩
set_option maxRecDepth 100000 in
set_option maxHeartbeats 2000000 in
theorem lessB_v (a b : ValA) (w : World) (ha : a.s.length ≤ 20) : Calls Tryz.prog 199 #[a.v, b.v] w fun e w' => e = .returned (.bool (lessR a b)) ∧ Keeps (fun _ => False) w w' := by
  have HKA := hide ((kAlloc w (.cells #[.int .i64 a.kind, .int .i64 a.n, str a.s] 41)).alloc (.cells #[.int .i64 b.kind, .int .i64 b.n, str b.s] 41))
  have HB := hide (fun (W : World) => below_v a.s b.s W (by omega))
  have HE : Hid (lessR a b = if a.kind = 3 then Op.bytesLess a.s b.s else decide (a.n < b.n)) := rfl
  generalize lessR a b = R at *
  generalize Op.bytesLess a.s b.s = Q at *
  obtain ⟨k, n, s⟩ := a
  obtain ⟨k', n', s'⟩ := b
  unfold ValA.v
  simp only at *
  by_cases h3 : k = 3
  · rw [if_pos h3] at HE
    subst h3
    go_enter Tryz.func199, Tryz.ntmps199
    go_wp2_with fail
    refine ((unhide HB) _).mono ?_
    rintro e w0 ⟨rfl, hk0⟩
    go_wp2_with fail
    go_ret
    exact ⟨ret_bool (unhide HE).symm, (unhide HKA).trans hk0⟩
  · rw [if_neg h3] at HE
    have h3' : (k == 3) = false := by simpa using h3
    clear HB
    go_enter Tryz.func199, Tryz.ntmps199
    go_wp2_with fail
    go_ret
    exact ⟨ret_bool (unhide HE).symm, unhide HKA⟩
set_option maxRecDepth 100000 in
set_option maxHeartbeats 2000000 in
theorem catR_v (ax bx : Txt) (w : World) (ha : ax.length ≤ 20) (hb : bx.length ≤ 20) : Calls Tryz.prog 154 #[str ax, str bx] w fun e w' => e = .returned (str (catT ax bx)) ∧ Keeps (fun _ => False) w w' := by
  have HC : Hid (catT ax bx = (ax ++ bx).take 20) := rfl
  generalize catT ax bx = C at *
  have i0 : ¬ 9223372036854775807 < ax.length + bx.length := by omega
  have ext : ∀ k : Nat, ((⟨ax.toArray⟩ : ByteArray) ++ ⟨bx.toArray⟩).extract 0 k = ⟨((ax ++ bx).take k).toArray⟩ := fun k => by
    apply ByteArray.ext
    rw [ByteArray.data_extract]
    show (ax ++ bx).toArray.extract 0 k = _
    simp
  have HE1 : Hid (((⟨ax.toArray⟩ : ByteArray) ++ ⟨bx.toArray⟩).extract 0 20 = ⟨C.toArray⟩) := by show _ = _; rw [ext, ← unhide HC]
  have HE2 : Hid ((ax.length : Int) + (bx.length : Int) ≤ 20 → ((⟨ax.toArray⟩ : ByteArray) ++ ⟨bx.toArray⟩) = ⟨C.toArray⟩) := fun h => by
    rw [unhide HC, List.take_of_length_le (by simp; omega)]
    apply ByteArray.ext
    simp
  clear ext
  go_enter Tryz.func154, Tryz.ntmps154
  go_wp2_with fail
  all_goals
    go_ret
    refine ⟨?_, Keeps.refl _ _⟩
    first
      | (rw [unhide HE1]; rfl)
      | (rw [(unhide HE2) (by omega)]; rfl)
end Go.Proofs.YtiinohibmcefkaaGreatDoor
