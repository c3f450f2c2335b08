import Derived.Test.YtgdabnkjipcbhaaGreatDoorNa
import Derived.Test.YtgdabnkjipcbhaaGreatDoorJzaa
namespace Go.Proofs.YtgdabnkjipcbhaaGreatDoor
open Go.RowKit Go.Maps

/-- How many bytes at the head of a text may stand in a name. -/
def runB (x : Txt) : Nat := scan x (fun c => partB (num c)) 0

set_option maxRecDepth 100000 in
theorem run_v (x : Txt) (hx : x.length ≤ 1099511627776) (w : World) : Calls Tryz.prog 112 #[str x] w fun e w' => e = .returned (.int .i64 (runB x)) ∧ w' = w := by
  go_enter Tryz.func112, Tryz.ntmps112
  go_wp2
  go_loopw [6] (fun i wr => ∃ k : Nat, k ≤ x.length ∧ i = .int .i64 k ∧ Hid (runB x = scan x (fun c => partB (num c)) k) ∧ wr = w) (fun i _ => x.length - (intOf i).toNat)
  case atStart => exact ⟨0, by omega, rfl, rfl, rfl⟩
  case round =>
    obtain ⟨k, hk, rfl, HS, rfl⟩ := hrel
    cases h : x[k]? with
    | none =>
      have h1 := get_ge h
      obtain rfl : k = x.length := by omega
      have HH := hide h
      clear h
      go_wp2
      go_ret
      exact ⟨ret_int (by rw [unhide HS, scan_none (unhide HH)]), rfl⟩
    | some y =>
      have h1 := get_lt h
      have q := str_at h
      have HH := hide h
      clear h
      have e1 : (y.toNat : Int) = num y := rfl
      go_wp2_with fail
      refine (inRun_any (num y) wr).mono ?_
      rintro e w1 ⟨rfl, rfl⟩
      cases hp : partB (num y) with
      | true =>
        go_wp2
        go_roundw
        case rel => exact ⟨k + 1, by omega, by go_num, (unhide HS).trans (scan_go (unhide HH) hp), trivial⟩
        case measure => simp [intOf]; omega
      | false =>
        go_wp2
        go_ret
        exact ⟨ret_int (by rw [unhide HS, scan_stop (unhide HH) hp]), rfl⟩

theorem takeWhile_all {p : UInt8 → Bool} : ∀ l : Txt, ((l.takeWhile p).length = l.length) = (l.all p = true)
  | [] => by simp
  | c :: r => by
    cases h : p c
    · simp [h]
    · have := takeWhile_all (p := p) r
      simp only [List.takeWhile_cons, h, List.length_cons, List.all_cons, Bool.true_and, if_true]
      rw [← this]
      simp
theorem runB_full (x : Txt) : ((runB x : Int) == (x.length : Int)) = x.all (fun c => partB (num c)) := by
  have h := takeWhile_all (p := fun c => partB (num c)) x
  unfold runB scan
  rw [List.drop_zero, Nat.zero_add]
  apply Bool.eq_iff_iff.2
  rw [beq_iff_eq, ← h]
  omega

theorem nameB_form (x : Txt) (c : UInt8) (h : x[0]? = some c) (h8 : x.length ≤ 8) : nameB x = (!digitB (num c) && (x.all (fun c => partB (num c)) && !decide (x ∈ kws))) := by
  unfold nameB digitB
  have : x ≠ [] := by rintro rfl; simp at h
  rw [h, decide_eq_true h8, decide_eq_true this]
  simp [Bool.and_assoc]

set_option maxRecDepth 100000 in
set_option maxHeartbeats 1000000 in
theorem name_v (x : Txt) (w : World) : Calls Tryz.prog 104 #[str x] w fun e w' => e = .returned (.bool (nameB x)) ∧ w' = w := by
  cases h : x[0]? with
  | none =>
    obtain rfl : x = [] := List.eq_nil_of_length_eq_zero (by have := get_ge h; omega)
    go_enter Tryz.func104, Tryz.ntmps104
    go_wp2
    go_ret
    exact ⟨rfl, rfl⟩
  | some c =>
    have h1 := get_lt h
    have q := str_at h
    have e1 : (c.toNat : Int) = num c := rfl
    by_cases hl : (8 : Int) < (x.length : Int)
    · have HN : Hid (nameB x = false) := by show _ = _; unfold nameB; rw [show decide (x.length ≤ 8) = false from decide_eq_false (by omega)]; simp
      clear h
      go_enter Tryz.func104, Tryz.ntmps104
      go_wp2
      go_ret
      exact ⟨ret_bool (unhide HN).symm, rfl⟩
    have hl2 : (x.length : Int) ≤ 8 := by omega
    have HN := hide (nameB_form x c h (by omega))
    have HR := hide (run_v x (by omega) w)
    have HK := hide (keyword_v x w)
    have HD := hide (digit_any (num c) w)
    have HF := hide (runB_full x)
    generalize nameB x = N at *
    generalize digitB (num c) = D at *
    generalize x.all (fun c => partB (num c)) = P at *
    generalize decide (x ∈ kws) = K at *
    clear h hl
    go_enter Tryz.func104, Tryz.ntmps104
    go_wp2_with fail
    refine (unhide HD).mono ?_
    rintro e w' ⟨rfl, rfl⟩
    cases D with
    | true =>
      go_wp2_with fail
      go_ret
      exact ⟨ret_bool (unhide HN).symm, rfl⟩
    | false =>
      go_wp2_with fail
      refine (unhide HR).mono ?_
      rintro e w' ⟨rfl, rfl⟩
      have hf := unhide HF
      cases P with
      | false =>
        go_wp2_with fail
        go_ret
        exact ⟨ret_bool (unhide HN).symm, rfl⟩
      | true =>
        go_wp2_with fail
        refine (unhide HK).mono ?_
        rintro e w' ⟨rfl, rfl⟩
        go_wp2_with fail
        go_ret
        exact ⟨ret_bool (by rw [unhide HN]; cases K <;> rfl), rfl⟩

theorem typeB (t : Int) : (t == 1 || t == 2 || t == 3) = decide (0 ≤ wideB t) := by
  unfold wideB
  apply Bool.eq_iff_iff.2
  simp only [Bool.or_eq_true, beq_iff_eq, decide_eq_true_eq]
  repeat' split
  all_goals omega

end Go.Proofs.YtgdabnkjipcbhaaGreatDoor
namespace Go.Proofs.YtgdabnkjipcbhaaGreatDoor
open Go.RowKit Go.Maps

/-- How many kids an operation has; -1: there is no such operation. -/
def kidsB (op : Int) : Int := if 1 ≤ op ∧ op ≤ 6 then 0 else if op = 7 ∨ op = 8 ∨ op = 23 then 1 else if 9 ≤ op ∧ op ≤ 24 then 2 else if op = 25 then 3 else -1
/-- May a leaf hold this number and this text? -/
def leafB (op n : Int) (s : Txt) : Bool :=
  if op = 1 then decide (s = []) else if op = 2 then decide (s = []) && (decide (n = 0) || decide (n = 1)) else if op = 3 then decide (n = 0) && decide (s.length ≤ 20)
  else if op = 4 ∨ op = 5 then decide (n = 0) && nameB s else decide (n = 0) && decide (s = [])
/-- Has an expression just what its operation has? -/
def rootB (op n : Int) (s : Txt) (k : Nat) : Bool := decide (0 ≤ kidsB op) && (decide ((k : Int) = kidsB op) && leafB op n s)
def wellE : EL → Bool
  | .nil => true
  | .cons op n s k r => rootB op n s k.len && (wellE k && wellE r)
/-- Has a statement just the parts that its operation has? -/
def headB (op : Int) (f : Txt) (x t e : Nat) : Bool :=
  if op = 1 ∨ op = 2 ∨ op = 3 ∨ op = 4 then nameB f && (decide (x = 1) && (decide (t = 0) && decide (e = 0)))
  else if op = 5 then nameB f && (decide (x = 0) && (decide (t = 0) && decide (e = 0)))
  else if op = 6 ∨ op = 7 then decide (f = []) && (decide (x = 0) && (decide (t = 0) && decide (e = 0)))
  else if op = 8 then decide (f = []) && decide (x = 1) else false
def wellS : SL → Bool
  | .nil => true
  | .cons op f x t e r => headB op f x.len t.len e.len && (wellE x && (wellS t && (wellS e && wellS r)))
def depthE : EL → Nat
  | .nil => 0
  | .cons _ _ _ k r => max (1 + depthE k) (depthE r)
def depthS : SL → Nat
  | .nil => 0
  | .cons _ _ x t e r => max (1 + max (depthE x) (max (depthS t) (depthS e))) (depthS r)
def countS : SL → Nat
  | .nil => 0
  | .cons _ _ _ t e r => 1 + countS t + countS e + countS r
def checkS (l : SL) : Int := if wellS l = false then 83 else if 32 < countS l then 82 else if 12 < depthS l then 81 else 0
def checkE (l : EL) : Int := if wellE l = false then 83 else if 12 < depthE l then 81 else 0
theorem depthE_le : ∀ l : EL, depthE l ≤ l.size
  | .nil => Nat.le_refl _
  | .cons _ _ _ k r => by have := depthE_le k; have := depthE_le r; simp only [depthE, EL.size]; omega
theorem depthS_le : ∀ l : SL, depthS l ≤ l.size
  | .nil => Nat.le_refl _
  | .cons _ _ x t e r => by have := depthE_le x; have := depthS_le t; have := depthS_le e; have := depthS_le r; simp only [depthS, SL.size]; omega
theorem countS_le : ∀ l : SL, countS l ≤ l.size
  | .nil => Nat.le_refl _
  | .cons _ _ x t e r => by have := countS_le t; have := countS_le e; have := countS_le r; simp only [countS, SL.size]; omega
end Go.Proofs.YtgdabnkjipcbhaaGreatDoor
