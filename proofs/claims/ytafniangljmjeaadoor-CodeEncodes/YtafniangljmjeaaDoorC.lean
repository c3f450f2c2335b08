import Derived.Test.YtafniangljmjeaaDoorB
namespace Go.Proofs.YtafniangljmjeaaDoor
open Go.RowKit Go.Maps

/-- The place of the first byte, from a on, of which p does not hold. -/
def scan (t : Txt) (p : UInt8 → Bool) (a : Nat) : Nat := a + ((t.drop a).takeWhile p).length
theorem scan_none {t : Txt} {p : UInt8 → Bool} {a : Nat} (h : t[a]? = none) : scan t p a = a := by
  have := get_ge h
  simp [scan, List.drop_eq_nil_of_le this]
theorem drop_at {α : Type} {t : List α} {a : Nat} {c : α} (h : t[a]? = some c) : t.drop a = c :: t.drop (a + 1) := by
  obtain ⟨ha, rfl⟩ := List.getElem?_eq_some_iff.1 h
  rw [List.drop_eq_getElem_cons ha]
theorem scan_stop {t : Txt} {p : UInt8 → Bool} {a : Nat} {c : UInt8} (h : t[a]? = some c) (hp : p c = false) : scan t p a = a := by
  simp [scan, drop_at h, hp]
theorem scan_go {t : Txt} {p : UInt8 → Bool} {a : Nat} {c : UInt8} (h : t[a]? = some c) (hp : p c = true) : scan t p a = scan t p (a + 1) := by
  simp [scan, drop_at h, hp]; omega
theorem scan_ge (t : Txt) (p : UInt8 → Bool) (a : Nat) : a ≤ scan t p a := by unfold scan; omega
theorem scan_le (t : Txt) (p : UInt8 → Bool) (a : Nat) (h : a ≤ t.length) : scan t p a ≤ t.length := by
  unfold scan
  have h1 := (List.takeWhile_sublist (l := t.drop a) p).length_le
  rw [List.length_drop] at h1
  omega

theorem num_inj {a b : UInt8} (h : num a = num b) : a = b := by
  unfold num at h
  exact UInt8.toNat_inj.1 (by omega)

/-- Does the text have p at that place? -/
def beginsB (t : Txt) (a : Nat) (p : Txt) : Bool := decide (a + p.length ≤ t.length) && decide ((t.drop a).take p.length = p)

theorem ext_str (t : Txt) (a b : Nat) : (ByteArray.mk t.toArray).extract a b = ⟨((t.drop a).take (b - a)).toArray⟩ := by
  rw [ByteArray.extract_mk]

def kws : List Txt := [[97, 110, 100], [99, 97, 116], [99, 108, 101, 97, 114], [100, 101, 108, 101, 116, 101], [101, 108, 115, 101], [102, 97, 108, 115, 101], [104, 97, 115], [104, 101, 114, 101], [105, 102], [108, 101, 110], [109, 97, 120], [109, 105, 110], [110, 101, 119], [110, 111, 116], [111, 114], [112, 105, 99, 107], [116, 114, 117, 101]]

theorem keywords_any (w : World) : Calls Tryd.prog 96 #[] w fun e w' => e = .returned (.slice (some ⟨w.heap.size, 0, none⟩) 17 17) ∧ w' = w.alloc (.cells (kws.map str).toArray 9) := by
  go_enter Tryd.func96, Tryd.ntmps96
  go_wp2
  go_ret
  exact ⟨rfl, rfl⟩

set_option maxRecDepth 100000 in
theorem keyword_any (x : Txt) (w : World) : Calls Tryd.prog 88 #[str x] w fun e w' => e = .returned (.bool (decide (x ∈ kws))) ∧ Keeps (fun _ => False) w w' := by
  go_enter Tryd.func88, Tryd.ntmps88
  go_wp2_with fail
  refine (keywords_any w).mono ?_
  rintro e w1 ⟨rfl, rfl⟩
  have HK : Hid (Keeps (fun _ => False) w (w.alloc (.cells (kws.map str).toArray 9))) := (Keeps.refl _ _).alloc _
  have HB : Hid ((w.alloc (.cells (kws.map str).toArray 9)).heap[w.heap.size]? = some (.cells (kws.map str).toArray 9 (0, 0))) := heap_alloc_new w _
  generalize w.alloc (.cells (kws.map str).toArray 9) = w2 at *
  generalize w.heap.size = b at *
  go_wp2
  go_loopw [4] (fun i wr => ∃ k : Nat, k ≤ 17 ∧ i = .int .i64 k ∧ Hid (x ∉ kws.take k) ∧ ∃ n, wr = w2.drewN n) (fun i _ => 17 - (intOf i).toNat)
  case atStart => exact ⟨0, by omega, rfl, by simp [Hid], 0, rfl⟩
  case round =>
    obtain ⟨k, hk, rfl, HN, n, rfl⟩ := hrel
    by_cases hlt : k < 17
    · obtain ⟨y, hy⟩ : ∃ y, kws[k]? = some y := ⟨_, List.getElem?_eq_getElem (show k < kws.length from hlt)⟩
      have hc : w2.cell? ⟨b, k, none⟩ = some (str y) := by rw [cell_of_blk (unhide HB)]; simp [hy]
      have HY := hide hy
      clear hy
      go_wp2
      case roundEnd =>
        rename_i hx
        go_roundw
        case rel =>
          refine ⟨k + 1, by omega, by go_num, ?_, n, rfl⟩
          show x ∉ _
          rw [take_snoc _ _ _ (unhide HY), List.mem_append]
          rintro (h | h)
          · exact unhide HN h
          · simp at h; simp [h] at hx
        case measure => simp [intOf]; omega
      rename_i hx
      go_ret
      refine ⟨ret_bool ?_, (unhide HK).drewN _⟩
      symm
      rw [decide_eq_true_iff]
      rw [beq_iff_eq] at hx
      rw [← hx]
      exact List.mem_of_getElem? (unhide HY)
    · go_wp2
      go_ret
      obtain rfl : k = 17 := by omega
      exact ⟨ret_bool (by symm; rw [decide_eq_false_iff_not]; exact unhide HN), (unhide HK).drewN _⟩

/-- May a field be called so? -/
def nameB (x : Txt) : Bool := decide (x ≠ []) && decide (x.length ≤ 8) && !(match x[0]? with
  | some c => decide (48 ≤ num c) && decide (num c ≤ 57)
  | none => false) && x.all (fun c => partB (num c)) && !decide (x ∈ kws)

set_option maxRecDepth 100000 in
theorem name_any (x : Txt) (w : World) : Calls Tryd.prog 72 #[str x] w fun e w' => e = .returned (.bool (nameB x)) ∧ Keeps (fun _ => False) w w' := by
  cases h : x[0]? with
  | none =>
    obtain rfl : x = [] := List.eq_nil_of_length_eq_zero (by have := get_ge h; omega)
    go_enter Tryd.func72, Tryd.ntmps72
    go_wp2
    go_ret
    exact ⟨rfl, Keeps.refl _ _⟩
  | some c =>
    have h1 := get_lt h
    have q := str_at h
    have e1 : (c.toNat : Int) = num c := rfl
    have hx : (x == []) = false := by cases x <;> simp_all
    have HX : Hid (x ≠ []) := by rintro rfl; simp at h1
    have HH := hide h
    clear h
    by_cases hl : (8 : Int) < (x.length : Int)
    · go_enter Tryd.func72, Tryd.ntmps72
      go_wp2
      go_ret
      exact ⟨ret_bool (by unfold nameB; rw [show decide (x.length ≤ 8) = false from decide_eq_false (by omega)]; simp), Keeps.refl _ _⟩
    have hl2 : (x.length : Int) ≤ 8 := by omega
    by_cases hd : 48 ≤ num c ∧ num c ≤ 57
    · obtain ⟨hd1, hd2⟩ := hd
      have HN : Hid (nameB x = false) := by show _ = _; unfold nameB; rw [unhide HH]; simp [hd1, hd2]
      go_enter Tryd.func72, Tryd.ntmps72
      go_wp2
      go_ret
      exact ⟨ret_bool (unhide HN).symm, Keeps.refl _ _⟩
    have HN : Hid (nameB x = (x.all (fun c => partB (num c)) && !decide (x ∈ kws))) := by
      show _ = _
      unfold nameB
      rw [unhide HH, show decide (x ≠ []) = true from decide_eq_true (unhide HX), show decide (x.length ≤ 8) = true from decide_eq_true (by omega)]
      have : (decide (48 ≤ num c) && decide (num c ≤ 57)) = false := by
        apply Bool.eq_false_iff.2
        simp only [ne_eq, Bool.and_eq_true, decide_eq_true_eq]
        exact hd
      simp [this]
    have HD := hide hd
    clear hd HX
    go_enter Tryd.func72, Tryd.ntmps72
    go_wp2
    all_goals try (exfalso; have := unhide HD; clear HN HH; simp_all <;> omega)
    all_goals
      clear HH HD q e1
      go_loopw [3] (fun i wr => ∃ k : Nat, k ≤ x.length ∧ i = .int .i64 k ∧ Hid ((x.take k).all (fun c => partB (num c)) = true) ∧ wr = w) (fun i _ => x.length - (intOf i).toNat)
      case atStart => exact ⟨0, by omega, rfl, by simp [Hid], rfl⟩
      case round =>
        obtain ⟨k, hk, rfl, HS, rfl⟩ := hrel
        cases h : x[k]? with
        | none =>
          have h1 := get_ge h
          obtain rfl : k = x.length := by omega
          go_wp2_with fail
          refine (keyword_any x wr).mono ?_
          rintro e w1 ⟨rfl, hk1⟩
          have HK := hide hk1
          clear hk1
          go_wp2
          go_ret
          refine ⟨ret_bool ?_, unhide HK⟩
          rw [unhide HN]
          have := unhide HS
          rw [List.take_length] at this
          rw [this]; rfl
        | some y =>
          have h1 := get_lt h
          have q := str_at h
          have HY := hide h
          clear h
          have e1 : (y.toNat : Int) = num y := rfl
          go_wp2_with fail
          refine (part_any (num y) wr).mono ?_
          rintro e w1 ⟨rfl, rfl⟩
          cases hp : partB (num y) with
          | true =>
            go_wp2
            go_roundw
            case rel =>
              refine ⟨k + 1, by omega, by go_num, ?_, trivial⟩
              show _ = true
              rw [take_snoc _ _ _ (unhide HY), List.all_append, unhide HS]
              simp [hp]
            case measure => simp [intOf]; omega
          | false =>
            go_wp2
            go_ret
            refine ⟨ret_bool ?_, Keeps.refl _ _⟩
            rw [unhide HN]
            have : x.all (fun c => partB (num c)) = false := by
              rw [List.all_eq_false]
              exact ⟨y, List.mem_of_getElem? (unhide HY), by simp [hp]⟩
            rw [this]; rfl

/-- The byte at a place (0 beyond the end). -/
def nth (t : Txt) (k : Nat) : Int := num (t.getD k 0)
end Go.Proofs.YtafniangljmjeaaDoor
