import Derived.Test.YtljoacpaehmbdaaGreatDoorJzaa
namespace Go.Proofs.YtljoacpaehmbdaaGreatDoor
open Go.RowKit Go.Maps

/-- A list of expressions, as a tree. -/
inductive EL where
  | nil
  | cons (op n : Int) (s : Txt) (kids rest : EL)
/-- A list of statements. -/
inductive SL where
  | nil
  | cons (op : Int) (f : Txt) (ex : EL) (th el rest : SL)
namespace EL
def len : EL → Nat
  | nil => 0
  | cons _ _ _ _ r => r.len + 1
def size : EL → Nat
  | nil => 0
  | cons _ _ _ k r => k.size + r.size + 1
def app : EL → EL → EL
  | nil, m => m
  | cons o n s k r, m => cons o n s k (r.app m)
theorem app_nil : ∀ l : EL, l.app nil = l
  | nil => rfl
  | cons o n s k r => by simp [app, app_nil r]
theorem app_assoc : ∀ l m k : EL, (l.app m).app k = l.app (m.app k)
  | nil, _, _ => rfl
  | cons o n s k r, m, q => by simp [app, app_assoc r m q]
theorem len_app : ∀ l m : EL, (l.app m).len = l.len + m.len
  | nil, _ => by simp [app, len]
  | cons o n s k r, m => by simp [app, len, len_app r m]; omega
theorem size_app : ∀ l m : EL, (l.app m).size = l.size + m.size
  | nil, _ => by simp [app, size]
  | cons o n s k r, m => by simp [app, size, size_app r m]; omega
theorem len_le : ∀ l : EL, l.len ≤ l.size
  | nil => Nat.le_refl _
  | cons o n s k r => by have := len_le r; simp [len, size]; omega
end EL
namespace SL
def len : SL → Nat
  | nil => 0
  | cons _ _ _ _ _ r => r.len + 1
def size : SL → Nat
  | nil => 0
  | cons _ _ x t e r => x.size + t.size + e.size + r.size + 1
def app : SL → SL → SL
  | nil, m => m
  | cons o f x t e r, m => cons o f x t e (r.app m)
theorem app_nil : ∀ l : SL, l.app nil = l
  | nil => rfl
  | cons o f x t e r => by simp [app, app_nil r]
theorem app_assoc : ∀ l m k : SL, (l.app m).app k = l.app (m.app k)
  | nil, _, _ => rfl
  | cons o f x t e r, m, q => by simp [app, app_assoc r m q]
theorem len_app : ∀ l m : SL, (l.app m).len = l.len + m.len
  | nil, _ => by simp [app, len]
  | cons o f x t e r, m => by simp [app, len, len_app r m]; omega
theorem size_app : ∀ l m : SL, (l.app m).size = l.size + m.size
  | nil, _ => by simp [app, size]
  | cons o f x t e r, m => by simp [app, size, size_app r m]; omega
theorem len_le : ∀ l : SL, l.len ≤ l.size
  | nil => Nat.le_refl _
  | cons o f x t e r => by have := len_le r; simp [len, size]; omega
end SL

/-- Where trees may lie: G tells the blocks of expressions (false) and of statements (true), P which block may hang below which. -/
structure Zone where
  G : World → Bool → Nat → Prop
  P : Nat → Nat → Prop
  stable : ∀ {w w' : World} {s : Bool} {k : Nat}, Keeps (fun _ => False) w w' → k < w.heap.size → G w s k → G w' s k

/-- Expressions lie in a block, from a cell on. -/
def ExIn (Z : Zone) (w : World) : EL → Nat → Nat → Prop
  | .nil, _, _ => True
  | .cons op n s kids rest, b, o =>
    b < w.heap.size ∧ Z.G w false b ∧ w.cell? ⟨b, o, none⟩ = some (.int .i64 op) ∧ w.cell? ⟨b, o + 1, none⟩ = some (.int .i64 n) ∧ w.cell? ⟨b, o + 2, none⟩ = some (str s) ∧
      (∃ ao cap, w.cell? ⟨b, o + 3, none⟩ = some (.slice ao kids.len cap) ∧ kids.len ≤ cap ∧
        (kids.len ≠ 0 → ∃ b' o', ao = some ⟨b', o', none⟩ ∧ Z.P b b' ∧ ExIn Z w kids b' o')) ∧ ExIn Z w rest b (o + 4)
/-- A slice of expressions, hanging below a block. -/
def SlE (Z : Zone) (w : World) (up : Nat) (v : Value) (l : EL) : Prop :=
  ∃ ao cap, v = .slice ao l.len cap ∧ l.len ≤ cap ∧ (l.len ≠ 0 → ∃ b o, ao = some ⟨b, o, none⟩ ∧ Z.P up b ∧ ExIn Z w l b o)
/-- Statements lie in a block, from a cell on. -/
def StIn (Z : Zone) (w : World) : SL → Nat → Nat → Prop
  | .nil, _, _ => True
  | .cons op f ex th el rest, b, o =>
    b < w.heap.size ∧ Z.G w true b ∧ w.cell? ⟨b, o, none⟩ = some (.int .i64 op) ∧ w.cell? ⟨b, o + 1, none⟩ = some (str f) ∧
      (∃ v, w.cell? ⟨b, o + 2, none⟩ = some v ∧ SlE Z w b v ex) ∧
      (∃ ao cap, w.cell? ⟨b, o + 3, none⟩ = some (.slice ao th.len cap) ∧ th.len ≤ cap ∧
        (th.len ≠ 0 → ∃ b' o', ao = some ⟨b', o', none⟩ ∧ Z.P b b' ∧ StIn Z w th b' o')) ∧
      (∃ ao cap, w.cell? ⟨b, o + 4, none⟩ = some (.slice ao el.len cap) ∧ el.len ≤ cap ∧
        (el.len ≠ 0 → ∃ b' o', ao = some ⟨b', o', none⟩ ∧ Z.P b b' ∧ StIn Z w el b' o')) ∧ StIn Z w rest b (o + 5)
/-- A slice of statements, hanging below a block. -/
def SlS (Z : Zone) (w : World) (up : Nat) (v : Value) (l : SL) : Prop :=
  ∃ ao cap, v = .slice ao l.len cap ∧ l.len ≤ cap ∧ (l.len ≠ 0 → ∃ b o, ao = some ⟨b, o, none⟩ ∧ Z.P up b ∧ StIn Z w l b o)

theorem EL.len0 : ∀ {l : EL}, l.len = 0 → l = .nil
  | .nil, _ => rfl
theorem SL.len0 : ∀ {l : SL}, l.len = 0 → l = .nil
  | .nil, _ => rfl

section
variable {Z : Zone} {w w' : World} {F : Nat → Prop} {Q : Nat → Prop}
/-- What is not written stays. -/
theorem ExIn.keep (hQ : ∀ b b', Q b → Z.P b b' → Q b') (hk : Keeps F w w') (hG : ∀ s k, Q k → k < w.heap.size → Z.G w s k → ¬ F k ∧ Z.G w' s k) :
    ∀ {l : EL} {b o : Nat}, Q b → ExIn Z w l b o → ExIn Z w' l b o
  | .nil, _, _, _, _ => trivial
  | .cons op n s kids rest, b, o, hq, ⟨h1, h2, h3, h4, h5, ⟨ao, cap, h6, h7, h8⟩, h9⟩ => by
    obtain ⟨hF, hg⟩ := hG _ _ hq h1 h2
    refine ⟨Nat.lt_of_lt_of_le h1 hk.size, hg, (hk.cell h1 hF).trans h3, (hk.cell h1 hF).trans h4, (hk.cell h1 hF).trans h5, ⟨ao, cap, (hk.cell h1 hF).trans h6, h7, fun h0 => ?_⟩, ExIn.keep hQ hk hG hq h9⟩
    obtain ⟨b', o', e, hp, hr⟩ := h8 h0
    exact ⟨b', o', e, hp, ExIn.keep hQ hk hG (hQ _ _ hq hp) hr⟩
theorem SlE.keep (hQ : ∀ b b', Q b → Z.P b b' → Q b') (hk : Keeps F w w') (hG : ∀ s k, Q k → k < w.heap.size → Z.G w s k → ¬ F k ∧ Z.G w' s k) {up : Nat} {v : Value} {l : EL} (hu : Q up) (h : SlE Z w up v l) : SlE Z w' up v l := by
  obtain ⟨ao, cap, e, hc, hr⟩ := h
  refine ⟨ao, cap, e, hc, fun h0 => ?_⟩
  obtain ⟨b, o, e1, hp, hx⟩ := hr h0
  exact ⟨b, o, e1, hp, ExIn.keep hQ hk hG (hQ _ _ hu hp) hx⟩
theorem StIn.keep (hQ : ∀ b b', Q b → Z.P b b' → Q b') (hk : Keeps F w w') (hG : ∀ s k, Q k → k < w.heap.size → Z.G w s k → ¬ F k ∧ Z.G w' s k) :
    ∀ {l : SL} {b o : Nat}, Q b → StIn Z w l b o → StIn Z w' l b o
  | .nil, _, _, _, _ => trivial
  | .cons op f ex th el rest, b, o, hq, ⟨h1, h2, h3, h4, ⟨v, h5, h5'⟩, ⟨ao, cap, h6, h7, h8⟩, ⟨ao2, cap2, k6, k7, k8⟩, h9⟩ => by
    obtain ⟨hF, hg⟩ := hG _ _ hq h1 h2
    refine ⟨Nat.lt_of_lt_of_le h1 hk.size, hg, (hk.cell h1 hF).trans h3, (hk.cell h1 hF).trans h4, ⟨v, (hk.cell h1 hF).trans h5, h5'.keep hQ hk hG hq⟩, ⟨ao, cap, (hk.cell h1 hF).trans h6, h7, fun h0 => ?_⟩, ⟨ao2, cap2, (hk.cell h1 hF).trans k6, k7, fun h0 => ?_⟩, StIn.keep hQ hk hG hq h9⟩
    · obtain ⟨b', o', e, hp, hr⟩ := h8 h0
      exact ⟨b', o', e, hp, StIn.keep hQ hk hG (hQ _ _ hq hp) hr⟩
    · obtain ⟨b', o', e, hp, hr⟩ := k8 h0
      exact ⟨b', o', e, hp, StIn.keep hQ hk hG (hQ _ _ hq hp) hr⟩
theorem SlS.keep (hQ : ∀ b b', Q b → Z.P b b' → Q b') (hk : Keeps F w w') (hG : ∀ s k, Q k → k < w.heap.size → Z.G w s k → ¬ F k ∧ Z.G w' s k) {up : Nat} {v : Value} {l : SL} (hu : Q up) (h : SlS Z w up v l) : SlS Z w' up v l := by
  obtain ⟨ao, cap, e, hc, hr⟩ := h
  refine ⟨ao, cap, e, hc, fun h0 => ?_⟩
  obtain ⟨b, o, e1, hp, hx⟩ := hr h0
  exact ⟨b, o, e1, hp, StIn.keep hQ hk hG (hQ _ _ hu hp) hx⟩
end
section
variable {Z : Zone} {w w' : World}
theorem ExIn.keepF {l : EL} {b o : Nat} (h : ExIn Z w l b o) (hk : Keeps (fun _ => False) w w') : ExIn Z w' l b o :=
  ExIn.keep (Q := fun _ => True) (fun _ _ _ _ => trivial) hk (fun _ _ _ hl hg => ⟨id, Z.stable hk hl hg⟩) trivial h
theorem SlE.keepF {up : Nat} {v : Value} {l : EL} (h : SlE Z w up v l) (hk : Keeps (fun _ => False) w w') : SlE Z w' up v l :=
  SlE.keep (Q := fun _ => True) (fun _ _ _ _ => trivial) hk (fun _ _ _ hl hg => ⟨id, Z.stable hk hl hg⟩) trivial h
theorem StIn.keepF {l : SL} {b o : Nat} (h : StIn Z w l b o) (hk : Keeps (fun _ => False) w w') : StIn Z w' l b o :=
  StIn.keep (Q := fun _ => True) (fun _ _ _ _ => trivial) hk (fun _ _ _ hl hg => ⟨id, Z.stable hk hl hg⟩) trivial h
theorem SlS.keepF {up : Nat} {v : Value} {l : SL} (h : SlS Z w up v l) (hk : Keeps (fun _ => False) w w') : SlS Z w' up v l :=
  SlS.keep (Q := fun _ => True) (fun _ _ _ _ => trivial) hk (fun _ _ _ hl hg => ⟨id, Z.stable hk hl hg⟩) trivial h
theorem SlE.head {up : Nat} {v : Value} {l : EL} (h : SlE Z w up v l) : ∃ ao cap, v = .slice ao l.len cap ∧ l.len ≤ cap := by
  obtain ⟨ao, cap, e, hc, _⟩ := h
  exact ⟨ao, cap, e, hc⟩
theorem SlS.head {up : Nat} {v : Value} {l : SL} (h : SlS Z w up v l) : ∃ ao cap, v = .slice ao l.len cap ∧ l.len ≤ cap := by
  obtain ⟨ao, cap, e, hc, _⟩ := h
  exact ⟨ao, cap, e, hc⟩
end
end Go.Proofs.YtljoacpaehmbdaaGreatDoor
namespace Go.Proofs.YtljoacpaehmbdaaGreatDoor
open Go.RowKit Go.Maps

def digitB (c : Int) : Bool := decide (48 ≤ c) && decide (c ≤ 57)

set_option maxRecDepth 100000 in
theorem digit_any (c : Int) (w : World) : Calls Tryz.prog 76 #[.int .u8 c] w fun e w' => e = .returned (.bool (digitB c)) ∧ w' = w := by
  go_enter Tryz.func76, Tryz.ntmps76
  go_wp2
  all_goals (go_ret; refine ⟨ret_bool ?_, rfl⟩; apply Bool.eq_iff_iff.2; simp [digitB] at *; try omega)

set_option maxRecDepth 100000 in
theorem inRun_any (c : Int) (w : World) : Calls Tryz.prog 95 #[.int .u8 c] w fun e w' => e = .returned (.bool (partB c)) ∧ w' = w := by
  have HQ := hide (digit_any c w)
  go_enter Tryz.func95, Tryz.ntmps95
  go_wp2_with (go_at_call 76; refine (unhide HQ).mono ?_; rintro e w' ⟨rfl, rfl⟩)
  all_goals (go_ret; refine ⟨ret_bool ?_, rfl⟩; apply Bool.eq_iff_iff.2; simp [partB, digitB] at *; try omega)

set_option maxRecDepth 100000 in
set_option maxHeartbeats 1000000 in
theorem keyword_v (x : Txt) (w : World) : Calls Tryz.prog 78 #[str x] w fun e w' => e = .returned (.bool (decide (x ∈ kws))) ∧ w' = w := by
  go_enter Tryz.func78, Tryz.ntmps78
  go_wp2
  all_goals (go_ret; refine ⟨ret_bool ?_, rfl⟩; simp_all [kws])

end Go.Proofs.YtljoacpaehmbdaaGreatDoor
namespace Go.Proofs.YtljoacpaehmbdaaGreatDoor
open Go.RowKit Go.Maps

/-- How many bytes at the head of a text may stand in a name. -/
def runB (x : Txt) : Nat := scan x (fun c => partB (num c)) 0

set_option maxRecDepth 100000 in
theorem run_v (x : Txt) (hx : x.length ≤ 1099511627776) (w : World) : Calls Tryz.prog 77 #[str x] w fun e w' => e = .returned (.int .i64 (runB x)) ∧ w' = w := by
  go_enter Tryz.func77, Tryz.ntmps77
  go_wp2
  go_loopw [6] (fun i wr => ∃ k : Nat, k ≤ x.length ∧ i = .int .i64 k ∧ Hid (runB x = scan x (fun c => partB (num c)) k) ∧ wr = w) (fun i _ => x.length - (intOf i).toNat)
  case atStart => exact ⟨0, by omega, rfl, rfl, rfl⟩
  case round =>
    obtain ⟨k, hk, rfl, HS, rfl⟩ := hrel
    cases h : x[k]? with
    | none =>
      have h1 := get_ge h
      obtain rfl : k = x.length := by omega
      have HH := hide h
      clear h
      go_wp2
      go_ret
      exact ⟨ret_int (by rw [unhide HS, scan_none (unhide HH)]), rfl⟩
    | some y =>
      have h1 := get_lt h
      have q := str_at h
      have HH := hide h
      clear h
      have e1 : (y.toNat : Int) = num y := rfl
      go_wp2_with fail
      refine (inRun_any (num y) wr).mono ?_
      rintro e w1 ⟨rfl, rfl⟩
      cases hp : partB (num y) with
      | true =>
        go_wp2
        go_roundw
        case rel => exact ⟨k + 1, by omega, by go_num, (unhide HS).trans (scan_go (unhide HH) hp), trivial⟩
        case measure => simp [intOf]; omega
      | false =>
        go_wp2
        go_ret
        exact ⟨ret_int (by rw [unhide HS, scan_stop (unhide HH) hp]), rfl⟩

theorem takeWhile_all {p : UInt8 → Bool} : ∀ l : Txt, ((l.takeWhile p).length = l.length) = (l.all p = true)
  | [] => by simp
  | c :: r => by
    cases h : p c
    · simp [h]
    · have := takeWhile_all (p := p) r
      simp only [List.takeWhile_cons, h, List.length_cons, List.all_cons, Bool.true_and, if_true]
      rw [← this]
      simp
theorem runB_full (x : Txt) : ((runB x : Int) == (x.length : Int)) = x.all (fun c => partB (num c)) := by
  have h := takeWhile_all (p := fun c => partB (num c)) x
  unfold runB scan
  rw [List.drop_zero, Nat.zero_add]
  apply Bool.eq_iff_iff.2
  rw [beq_iff_eq, ← h]
  omega

theorem nameB_form (x : Txt) (c : UInt8) (h : x[0]? = some c) (h8 : x.length ≤ 8) : nameB x = (!digitB (num c) && (x.all (fun c => partB (num c)) && !decide (x ∈ kws))) := by
  unfold nameB digitB
  have : x ≠ [] := by rintro rfl; simp at h
  rw [h, decide_eq_true h8, decide_eq_true this]
  simp [Bool.and_assoc]

set_option maxRecDepth 100000 in
set_option maxHeartbeats 1000000 in
theorem name_v (x : Txt) (w : World) : Calls Tryz.prog 59 #[str x] w fun e w' => e = .returned (.bool (nameB x)) ∧ w' = w := by
  cases h : x[0]? with
  | none =>
    obtain rfl : x = [] := List.eq_nil_of_length_eq_zero (by have := get_ge h; omega)
    go_enter Tryz.func59, Tryz.ntmps59
    go_wp2
    go_ret
    exact ⟨rfl, rfl⟩
  | some c =>
    have h1 := get_lt h
    have q := str_at h
    have e1 : (c.toNat : Int) = num c := rfl
    by_cases hl : (8 : Int) < (x.length : Int)
    · have HN : Hid (nameB x = false) := by show _ = _; unfold nameB; rw [show decide (x.length ≤ 8) = false from decide_eq_false (by omega)]; simp
      clear h
      go_enter Tryz.func59, Tryz.ntmps59
      go_wp2
      go_ret
      exact ⟨ret_bool (unhide HN).symm, rfl⟩
    have hl2 : (x.length : Int) ≤ 8 := by omega
    have HN := hide (nameB_form x c h (by omega))
    have HR := hide (run_v x (by omega) w)
    have HK := hide (keyword_v x w)
    have HD := hide (digit_any (num c) w)
    have HF := hide (runB_full x)
    generalize nameB x = N at *
    generalize digitB (num c) = D at *
    generalize x.all (fun c => partB (num c)) = P at *
    generalize decide (x ∈ kws) = K at *
    clear h hl
    go_enter Tryz.func59, Tryz.ntmps59
    go_wp2_with fail
    refine (unhide HD).mono ?_
    rintro e w' ⟨rfl, rfl⟩
    cases D with
    | true =>
      go_wp2_with fail
      go_ret
      exact ⟨ret_bool (unhide HN).symm, rfl⟩
    | false =>
      go_wp2_with fail
      refine (unhide HR).mono ?_
      rintro e w' ⟨rfl, rfl⟩
      have hf := unhide HF
      cases P with
      | false =>
        go_wp2_with fail
        go_ret
        exact ⟨ret_bool (unhide HN).symm, rfl⟩
      | true =>
        go_wp2_with fail
        refine (unhide HK).mono ?_
        rintro e w' ⟨rfl, rfl⟩
        go_wp2_with fail
        go_ret
        exact ⟨ret_bool (by rw [unhide HN]; cases K <;> rfl), rfl⟩

theorem typeB (t : Int) : (t == 1 || t == 2 || t == 3) = decide (0 ≤ wideB t) := by
  unfold wideB
  apply Bool.eq_iff_iff.2
  simp only [Bool.or_eq_true, beq_iff_eq, decide_eq_true_eq]
  repeat' split
  all_goals omega

set_option maxRecDepth 100000 in
theorem isType_v (t : Int) (w : World) : Calls Tryz.prog 60 #[.int .i64 t] w fun e w' => e = .returned (.bool (decide (0 ≤ wideB t))) ∧ w' = w := by
  go_enter Tryz.func60, Tryz.ntmps60
  go_wp2
  all_goals (go_ret; refine ⟨ret_bool ?_, rfl⟩; rw [← typeB]; try simp_all)

end Go.Proofs.YtljoacpaehmbdaaGreatDoor
namespace Go.Proofs.YtljoacpaehmbdaaGreatDoor
open Go.RowKit Go.Maps

/-- How many kids an operation has; -1: there is no such operation. -/
def kidsB (op : Int) : Int := if 1 ≤ op ∧ op ≤ 6 then 0 else if op = 7 ∨ op = 8 ∨ op = 23 then 1 else if 9 ≤ op ∧ op ≤ 24 then 2 else if op = 25 then 3 else -1
/-- May a leaf hold this number and this text? -/
def leafB (op n : Int) (s : Txt) : Bool :=
  if op = 1 then decide (s = []) else if op = 2 then decide (s = []) && (decide (n = 0) || decide (n = 1)) else if op = 3 then decide (n = 0) && decide (s.length ≤ 20)
  else if op = 4 ∨ op = 5 then decide (n = 0) && nameB s else decide (n = 0) && decide (s = [])
/-- Has an expression just what its operation has? -/
def rootB (op n : Int) (s : Txt) (k : Nat) : Bool := decide (0 ≤ kidsB op) && (decide ((k : Int) = kidsB op) && leafB op n s)
def wellE : EL → Bool
  | .nil => true
  | .cons op n s k r => rootB op n s k.len && (wellE k && wellE r)
/-- Has a statement just the parts that its operation has? -/
def headS (op : Int) (f : Txt) (x t e : Nat) : Bool :=
  if op = 1 ∨ op = 2 ∨ op = 3 ∨ op = 4 then nameB f && (decide (x = 1) && (decide (t = 0) && decide (e = 0)))
  else if op = 5 then nameB f && (decide (x = 0) && (decide (t = 0) && decide (e = 0)))
  else if op = 6 ∨ op = 7 then decide (f = []) && (decide (x = 0) && (decide (t = 0) && decide (e = 0)))
  else if op = 8 then decide (f = []) && decide (x = 1) else false
def wellS : SL → Bool
  | .nil => true
  | .cons op f x t e r => headS op f x.len t.len e.len && (wellE x && (wellS t && (wellS e && wellS r)))
def depthE : EL → Nat
  | .nil => 0
  | .cons _ _ _ k r => max (1 + depthE k) (depthE r)
def depthS : SL → Nat
  | .nil => 0
  | .cons _ _ x t e r => max (1 + max (depthE x) (max (depthS t) (depthS e))) (depthS r)
def countS : SL → Nat
  | .nil => 0
  | .cons _ _ _ t e r => 1 + countS t + countS e + countS r
def checkS (l : SL) : Int := if wellS l = false then 83 else if 32 < countS l then 82 else if 12 < depthS l then 81 else 0
def checkE (l : EL) : Int := if wellE l = false then 83 else if 12 < depthE l then 81 else 0
theorem depthE_le : ∀ l : EL, depthE l ≤ l.size
  | .nil => Nat.le_refl _
  | .cons _ _ _ k r => by have := depthE_le k; have := depthE_le r; simp only [depthE, EL.size]; omega
theorem depthS_le : ∀ l : SL, depthS l ≤ l.size
  | .nil => Nat.le_refl _
  | .cons _ _ x t e r => by have := depthE_le x; have := depthS_le t; have := depthS_le e; have := depthS_le r; simp only [depthS, SL.size]; omega
theorem countS_le : ∀ l : SL, countS l ≤ l.size
  | .nil => Nat.le_refl _
  | .cons _ _ x t e r => by have := countS_le t; have := countS_le e; have := countS_le r; simp only [countS, SL.size]; omega
end Go.Proofs.YtljoacpaehmbdaaGreatDoor
