import Derived.Test.YtgdabnkjipcbhaaGreatDoorJzab
namespace Go.Proofs.YtgdabnkjipcbhaaGreatDoor
open Go.RowKit Go.Maps

/-- A list of words with a blank ahead of each and behind it. -/
def wordsT (l : List Txt) : Txt := 32 :: l.flatMap (fun x => x ++ [32])
/-- Does a word stand, between blanks, in the text from a place on? -/
def standsB (t w : Txt) (i : Nat) : Bool := (List.range (t.length + 1 - w.length - i)).any fun k => decide ((t.drop (i + k)).take w.length = w)
def listedB (t x : Txt) : Bool := decide (x ≠ []) && (x.all (fun c => decide (c ≠ 32)) && standsB t (32 :: (x ++ [32])) 0)

theorem stands_step {t w : Txt} {i : Nat} (h : i + w.length ≤ t.length) : standsB t w i = (decide ((t.drop i).take w.length = w) || standsB t w (i + 1)) := by
  unfold standsB
  rw [show t.length + 1 - w.length - i = (t.length + 1 - w.length - (i + 1)) + 1 by omega, List.range_succ_eq_map, List.any_cons, List.any_map]
  congr 2
  funext k
  simp [Nat.add_assoc, Nat.add_comm 1 k]
theorem stands_end {t w : Txt} {i : Nat} (h : t.length < i + w.length) : standsB t w i = false := by
  unfold standsB
  rw [show t.length + 1 - w.length - i = 0 by omega]
  rfl
theorem stands_iff {t w : Txt} : standsB t w 0 = true ↔ ∃ i, i + w.length ≤ t.length ∧ (t.drop i).take w.length = w := by
  unfold standsB
  simp only [List.any_eq_true, List.mem_range, decide_eq_true_eq, Nat.zero_add]
  constructor
  · rintro ⟨k, hk, h⟩; exact ⟨k, by omega, h⟩
  · rintro ⟨k, hk, h⟩; exact ⟨k, by omega, h⟩
theorem tw {x r : Txt} (h : x.all (fun c => decide (c ≠ 32)) = true) : (x ++ 32 :: r).takeWhile (fun c => decide (c ≠ 32)) = x := by
  induction x with
  | nil => rfl
  | cons c x ih =>
    simp only [List.all_cons, Bool.and_eq_true] at h
    simp only [List.cons_append, List.takeWhile_cons, h.1, if_true]
    rw [ih h.2]
/-- What stands behind a blank. -/
def afters (t : Txt) : List Txt := (List.range t.length).filterMap fun i => if t[i]? = some 32 then some ((t.drop (i + 1)).takeWhile (fun c => decide (c ≠ 32))) else none
theorem listed_mem {t x : Txt} (h : listedB t x = true) : x ∈ afters t := by
  unfold listedB at h
  simp only [Bool.and_eq_true, decide_eq_true_eq] at h
  obtain ⟨_, ha, hs⟩ := h
  obtain ⟨i, hi, he⟩ := stands_iff.1 hs
  have hd : t.drop i = (32 :: (x ++ [32])) ++ (t.drop i).drop (32 :: (x ++ [32]) : Txt).length := by
    conv => lhs; rw [← List.take_append_drop (32 :: (x ++ [32]) : Txt).length (t.drop i)]
    rw [he]
  have h1 : t[i]? = some 32 := by
    have := congrArg (fun l => l[0]?) hd
    simpa [List.getElem?_drop] using this
  have h2 : t.drop (i + 1) = x ++ 32 :: (t.drop i).drop (32 :: (x ++ [32]) : Txt).length := by
    rw [show t.drop (i + 1) = (t.drop i).drop 1 by rw [List.drop_drop, Nat.add_comm]]
    conv => lhs; rw [hd]
    simp
  unfold afters
  rw [List.mem_filterMap]
  refine ⟨i, ?_, ?_⟩
  · rw [List.mem_range]; simp at hi; omega
  · rw [if_pos h1, h2, tw ha]
/-- Just the words of the list stand in its text. -/
theorem listed_kws (x : Txt) : listedB (wordsT kws) x = decide (x ∈ kws) := by
  apply Bool.eq_iff_iff.2
  constructor
  · intro h
    have h0 : x ≠ [] := by intro e; subst e; simp [listedB] at h
    have hm := listed_mem h
    have ha : (afters (wordsT kws)).all (fun y => decide (y = []) || decide (y ∈ kws)) = true := by decide +kernel
    have := List.all_eq_true.1 ha x hm
    simpa [h0] using this
  · intro h
    have hx : x ∈ kws := of_decide_eq_true h
    have ha : kws.all (fun y => listedB (wordsT kws) y) = true := by decide +kernel
    exact List.all_eq_true.1 ha x hx

def marks : List Txt := [[61, 61], [33, 61], [60, 61], [62, 61], [43, 61], [63, 63], [61], [60], [62], [43], [45], [42], [40], [41], [123], [125], [44], [59]]
theorem listed_marks (x : Txt) : listedB (wordsT marks) x = decide (x ∈ marks) := by
  apply Bool.eq_iff_iff.2
  constructor
  · intro h
    have h0 : x ≠ [] := by intro e; subst e; simp [listedB] at h
    have hm := listed_mem h
    have ha : (afters (wordsT marks)).all (fun y => decide (y = []) || decide (y ∈ marks)) = true := by decide +kernel
    have := List.all_eq_true.1 ha x hm
    simpa [h0] using this
  · intro h
    have hx : x ∈ marks := of_decide_eq_true h
    have ha : marks.all (fun y => listedB (wordsT marks) y) = true := by decide +kernel
    exact List.all_eq_true.1 ha x hx
theorem str_cat (a b c : Txt) (h : a ++ b = c) : Value.string (ByteArray.mk a.toArray ++ ByteArray.mk b.toArray) = str c := by
  rw [ByteArray.mk_append_mk, ← h]

set_option maxRecDepth 100000 in
set_option maxHeartbeats 1000000 in
theorem listed_v (l x : Txt) (hl : l.length ≤ 4096) (hx : x.length ≤ 140737488355328) (w : World) :
    Calls Tryz.prog 114 #[str l, str x] w fun e w' => e = .returned (.bool (listedB l x)) ∧ w' = w := by
  obtain ⟨D, HD⟩ : ∃ D, Hid (listedB l x = D) := ⟨_, rfl⟩
  rw [unhide HD]
  by_cases h0 : x = []
  · subst h0
    have HE : Hid (D = false) := by show _ = _; rw [← unhide HD]; simp [listedB]
    go_enter Tryz.func114, Tryz.ntmps114
    go_wp2_with fail
    go_ret
    exact ⟨ret_bool (unhide HE).symm, rfl⟩
  have hne : (x == []) = false := by simpa using h0
  go_enter Tryz.func114, Tryz.ntmps114
  go_wp2_with fail
  go_loopw [5] (fun i wr => ∃ j : Nat, j ≤ x.length ∧ i = .int .i64 j ∧ Hid ((x.take j).all (fun c => decide (c ≠ 32)) = true) ∧ wr = w) (fun i _ => x.length - (intOf i).toNat)
  case atStart => exact ⟨0, Nat.zero_le _, rfl, by simp [Hid], rfl⟩
  case round =>
    obtain ⟨j, hj, rfl, HA, rfl⟩ := hrel
    cases hy : x[j]? with
    | some y =>
      have h1 := get_lt hy
      have q := str_at hy
      have e1 : (y.toNat : Int) = num y := rfl
      have HY := hide hy
      clear hy
      by_cases h32 : num y = 32
      · have HE : Hid (D = false) := by
          show _ = _
          rw [← unhide HD]
          unfold listedB
          rw [show x.all (fun c => decide (c ≠ 32)) = false by
            rw [List.all_eq_false]
            exact ⟨y, List.mem_of_getElem? (unhide HY), by simp [num_inj (a := y) (b := 32) h32]⟩]
          simp
        have e32 : (num y == 32) = true := by simpa using h32
        go_wp2_with fail
        go_ret
        exact ⟨ret_bool (unhide HE).symm, rfl⟩
      · have e32 : (num y == 32) = false := by simpa using h32
        have HN : Hid (y ≠ 32) := fun e => h32 (by rw [e]; rfl)
        go_wp2_with fail
        go_roundw
        case rel =>
          refine ⟨j + 1, by omega, by go_num, ?_, trivial⟩
          show _ = true
          rw [take_snoc _ _ _ (unhide HY), List.all_append, unhide HA]
          simpa using unhide HN
        case measure => simp [intOf]; omega
    | none =>
      have h1 := get_ge hy
      obtain rfl : j = x.length := by omega
      clear hy
      rw [List.take_length] at HA
      obtain ⟨W, HW⟩ : ∃ W : Txt, Hid ((32 :: (x ++ [32]) : Txt) = W) := ⟨_, hide rfl⟩
      have hWl : W.length ≤ 140737488355330 := by rw [← unhide HW]; simp; omega
      have hcat1 : Value.string (ByteArray.mk #[32] ++ ByteArray.mk x.toArray) = str (32 :: x) := str_cat [32] x _ rfl
      have hcat2 : Value.string (ByteArray.mk (32 :: x).toArray ++ ByteArray.mk #[32]) = str W := str_cat (32 :: x) [32] _ (by rw [← unhide HW]; rfl)
      have HS : Hid (D = standsB l W 0) := by
        show _ = _
        rw [← unhide HD]
        unfold listedB
        rw [unhide HA, unhide HW, decide_eq_true h0]
        rfl
      clear h1
      go_wp2_with fail
      obtain ⟨w0, hw0⟩ : ∃ w0, w0 = wr := ⟨_, rfl⟩
      subst hw0
      go_loopw [7] (fun i wr => ∃ k : Nat, k ≤ l.length + 1 ∧ i = .int .i64 k ∧ Hid (D = standsB l W k) ∧ wr = w0) (fun i _ => l.length + 1 - (intOf i).toNat)
      case atStart => exact ⟨0, Nat.zero_le _, rfl, unhide HS, rfl⟩
      case round =>
        obtain ⟨k, hk, rfl, HK, rfl⟩ := hrel
        by_cases hkl : k + W.length ≤ l.length
        · have HT := hide (stands_step hkl)
          have hsl : (ByteArray.mk l.toArray).extract k (k + W.length) = ⟨((l.drop k).take W.length).toArray⟩ := by rw [ext_str, Nat.add_sub_cancel_left]
          obtain ⟨Y, HY⟩ : ∃ Y : Txt, Hid ((l.drop k).take W.length = Y) := ⟨_, hide rfl⟩
          rw [unhide HY] at hsl HT
          have hk1 : (k : Int) + (W.length : Int) ≤ (l.length : Int) := by omega
          by_cases hyw : Y = W
          · have HE : Hid (D = true) := by show _ = _; rw [unhide HK, unhide HT, decide_eq_true hyw]; rfl
            have e1 : (Y == W) = true := by simpa using hyw
            clear hyw
            go_wp2_with fail
            go_ret
            exact ⟨ret_bool (unhide HE).symm, rfl⟩
          · have HE : Hid (D = standsB l W (k + 1)) := by show _ = _; rw [unhide HK, unhide HT, decide_eq_false hyw]; rfl
            have e1 : (Y == W) = false := by simpa using hyw
            clear hyw
            go_wp2_with fail
            go_roundw
            case rel => exact ⟨k + 1, by omega, by go_num, unhide HE, trivial⟩
            case measure => simp [intOf]; omega
        · have HE : Hid (D = false) := by show _ = _; rw [unhide HK, stands_end (by omega)]
          have hk1 : (l.length : Int) < (k : Int) + (W.length : Int) := by omega
          go_wp2_with fail
          go_ret
          exact ⟨ret_bool (unhide HE).symm, rfl⟩
set_option maxRecDepth 100000 in
theorem refKeyword_v (x : Txt) (hx : x.length ≤ 140737488355328) (w : World) : Calls Tryz.prog 109 #[str x] w fun e w' => e = .returned (.bool (decide (x ∈ kws))) ∧ w' = w := by
  have HQ := hide (listed_v (wordsT kws) x (by decide +kernel) hx w)
  rw [listed_kws] at HQ
  have e : wordsT kws = [32, 97, 110, 100, 32, 99, 97, 116, 32, 99, 108, 101, 97, 114, 32, 100, 101, 108, 101, 116, 101, 32, 101, 108, 115, 101, 32, 102, 97, 108, 115, 101, 32, 104, 97, 115, 32, 104, 101, 114, 101, 32, 105, 102, 32, 108, 101, 110, 32, 109, 97, 120, 32, 109, 105, 110, 32, 110, 101, 119, 32, 110, 111, 116, 32, 111, 114, 32, 112, 105, 99, 107, 32, 116, 114, 117, 101, 32] := by decide +kernel
  rw [e] at HQ
  clear e
  go_enter Tryz.func109, Tryz.ntmps109
  go_wp2_with fail
  refine (unhide HQ).mono ?_
  rintro e w' ⟨rfl, rfl⟩
  go_wp2_with fail
  go_ret
  exact ⟨rfl, rfl⟩


def letterB (c : Int) : Bool := decide (97 ≤ c) && decide (c ≤ 122) || decide (65 ≤ c) && decide (c ≤ 90) || decide (c = 95)
theorem part_split (c : Int) : partB c = (letterB c || digitB c) := by
  unfold partB letterB digitB
  apply Bool.eq_iff_iff.2
  simp
  omega
end Go.Proofs.YtgdabnkjipcbhaaGreatDoor
