import Derived.Test.YtoempeobaknkcaaGreatDoorJzab
import Derived.Test.YtoempeobaknkcaaGreatDoorJyak
namespace Go.Proofs.YtoempeobaknkcaaGreatDoor
open Go.RowKit Go.Maps

/-- What a field or an expression is: its type, and whether it is optional. -/
structure KA where
  t : Int
  o : Bool
deriving DecidableEq
def fieldOf (S : List FieldA) (nm : Txt) : Option FieldA := S.find? fun f => decide (f.name = nm)
/-- The first of two errors. -/
def orI (a b : Int) : Int := if a = 0 then b else a
def ofI (k : KA) (ts : List Int) : Int := if ts.contains k.t then 0 else 91
def plainI (k : KA) (ts : List Int) : Int := orI (ofI k ts) (if k.o then 92 else 0)
def optI (k : KA) : Int := if k.o then 0 else 92
def takesI : List KA → List Int → Int
  | k :: ks, t :: ts => orI (plainI k [t]) (takesI ks ts)
  | _, _ => 0
def namedK (S : List FieldA) (s : Txt) : KA × Int := match fieldOf S s with
  | some f => (⟨f.type, f.opt⟩, 0)
  | none => (⟨0, false⟩, 90)
def hasK (S : List FieldA) (s : Txt) : KA × Int := (⟨2, false⟩, orI (namedK S s).2 (optI (namedK S s).1))
def takesK (is : Int) (ts : List Int) (ks : List KA) : KA × Int := if takesI ks ts = 0 then (⟨is, false⟩, 0) else (⟨0, false⟩, takesI ks ts)
def kth (ks : List KA) (i : Nat) : KA := ks.getD i ⟨0, false⟩
def comparesK (ts : List Int) (ks : List KA) : KA × Int := (⟨2, false⟩, orI (plainI (kth ks 0) ts) (plainI (kth ks 1) [(kth ks 0).t]))
def orElseK (ks : List KA) : KA × Int := (⟨(kth ks 0).t, false⟩, orI (optI (kth ks 0)) (plainI (kth ks 1) [(kth ks 0).t]))
def pickK (ks : List KA) : KA × Int := (⟨(kth ks 1).t, false⟩, orI (plainI (kth ks 0) [2]) (orI (plainI (kth ks 1) [(kth ks 1).t]) (plainI (kth ks 2) [(kth ks 1).t])))
/-- The rule of an operation. -/
inductive RuleA where
  | takes (is : Int) (ts : List Int)
  | field
  | has
  | compares (ts : List Int)
  | orElse
  | pick
def ruleL : List (Option RuleA) := [none, some (.takes 1 []), some (.takes 2 []), some (.takes 3 []), some .field, some .has, some (.takes 2 []), some (.takes 2 [2]), some (.takes 1 [1]),
  some (.takes 1 [1, 1]), some (.takes 1 [1, 1]), some (.takes 1 [1, 1]), some (.compares [1, 3]), some (.compares [1, 3]), some (.compares [1, 3]), some (.compares [1, 3]), some (.compares [1, 2, 3]), some (.compares [1, 2, 3]),
  some (.takes 2 [2, 2]), some (.takes 2 [2, 2]), some .orElse, some (.takes 1 [1, 1]), some (.takes 1 [1, 1]), some (.takes 1 [3]), some (.takes 3 [3, 3]), some .pick]
def RuleA.fit (S : List FieldA) (r : RuleA) (s : Txt) (ks : List KA) : KA × Int := match r with
  | .takes is ts => takesK is ts ks
  | .field => namedK S s
  | .has => hasK S s
  | .compares ts => comparesK ts ks
  | .orElse => orElseK ks
  | .pick => pickK ks
/-- How many kids a rule asks for. -/
def RuleA.kids : RuleA → Nat
  | .takes _ ts => ts.length
  | .field => 0
  | .has => 0
  | .compares _ => 2
  | .orElse => 2
  | .pick => 3
def ruleP (S : List FieldA) (op : Int) (s : Txt) (ks : List KA) : KA × Int := match (ruleL[op.toNat]?).join with
  | some r => r.fit S s ks
  | none => (⟨0, false⟩, 0)
def kindsP (S : List FieldA) : EL → List KA × Int
  | .nil => ([], 0)
  | .cons op _ s kids rest =>
    if (kindsP S kids).2 ≠ 0 then ([], (kindsP S kids).2)
    else if (ruleP S op s (kindsP S kids).1).2 ≠ 0 then ([], (ruleP S op s (kindsP S kids).1).2)
    else if (kindsP S rest).2 ≠ 0 then ([], (kindsP S rest).2)
    else ((ruleP S op s (kindsP S kids).1).1 :: (kindsP S rest).1, 0)
def kindP (S : List FieldA) (op : Int) (s : Txt) (kids : EL) : KA × Int :=
  if (kindsP S kids).2 ≠ 0 then (⟨0, false⟩, (kindsP S kids).2) else ruleP S op s (kindsP S kids).1
theorem kindsP_cons (S : List FieldA) (op n : Int) (s : Txt) (kids rest : EL) : kindsP S (.cons op n s kids rest) =
    if (kindP S op s kids).2 ≠ 0 then ([], (kindP S op s kids).2) else if (kindsP S rest).2 ≠ 0 then ([], (kindsP S rest).2) else ((kindP S op s kids).1 :: (kindsP S rest).1, 0) := by
  unfold kindP
  simp only [kindsP]
  by_cases h : (kindsP S kids).2 = 0
  · simp [h]
  · simp [h]
/-- The type, whether it is optional, the error. -/
def typeP (S : List FieldA) (op n : Int) (s : Txt) (kids : EL) : Int × Bool × Int :=
  if errS S ≠ 0 then (0, false, errS S) else if checkE (.cons op n s kids .nil) ≠ 0 then (0, false, checkE (.cons op n s kids .nil))
  else if (kindP S op s kids).2 ≠ 0 then (0, false, (kindP S op s kids).2) else ((kindP S op s kids).1.t, (kindP S op s kids).1.o, 0)
theorem kindsP_len (S : List FieldA) : ∀ l : EL, (kindsP S l).2 = 0 → (kindsP S l).1.length = l.len
  | .nil, _ => rfl
  | .cons op n s kids rest, h => by
    have ih := kindsP_len S rest
    rw [kindsP_cons] at h ⊢
    by_cases h1 : (kindP S op s kids).2 = 0
    · by_cases h2 : (kindsP S rest).2 = 0
      · simp [h1, h2, EL.len, ih h2]
      · simp [h1, h2] at h
    · simp [h1] at h
theorem ruleL_kids : ∀ m : Nat, 1 ≤ m → m ≤ 25 → ∃ r, (ruleL[m]?).join = some r ∧ (r.kids : Int) = kidsB m := by
  have h : ∀ m : Fin 26, 1 ≤ m.val → ((ruleL[m.val]?).join).map (fun r => (r.kids : Int)) = some (kidsB m.val) := by decide
  intro m h1 h2
  have := h ⟨m, by omega⟩ h1
  cases hr : (ruleL[m]?).join with
  | none => simp only [hr] at this; cases this
  | some r => simp only [hr] at this; exact ⟨r, rfl, Option.some.inj this⟩
end Go.Proofs.YtoempeobaknkcaaGreatDoor
namespace Go.Proofs.YtoempeobaknkcaaGreatDoor
open Go.RowKit Go.Maps

/-- Numbers in a slice. -/
def ints (l : List Int) : List Value := l.map (Value.int .i64)
def IntsAt (w : World) (v : Value) (l : List Int) : Prop := RowAt w v l.length (ints l)
theorem IntsAt.keepF {w w' : World} {v : Value} {l : List Int} (h : IntsAt w v l) (hk : Keeps (fun _ => False) w w') : IntsAt w' v l := RowAt.keepF h hk
theorem IntsAt.cells {w : World} {v : Value} {l : List Int} (h : IntsAt w v l) (h0 : 0 < l.length) :
    ∃ b off cap, v = .slice (some ⟨b, off, none⟩) l.length cap ∧ b < w.heap.size ∧ ∀ i x, l[i]? = some x → w.cell? ⟨b, off + i, none⟩ = some (.int .i64 x) := by
  obtain ⟨b, off, cap, e, hb, hc⟩ := RowAt.cells h h0
  exact ⟨b, off, cap, e, hb, fun i x hx => hc i _ (by simp [ints, hx])⟩
theorem ints_nil (w : World) : IntsAt w (.slice none 0 0) [] := ⟨⟨_, _, rfl⟩, fun h => by simp at h, fun ao m cap e => by simp at e; omega⟩
theorem ints_new (w : World) (l : List Int) (t : TypeId) (n : Nat) (hn : n = l.length) : IntsAt (w.alloc (.cells (ints l).toArray t)) (.slice (some ⟨w.heap.size, 0, none⟩) n n) l := by
  subst hn
  refine ⟨⟨_, _, rfl⟩, fun _ => ⟨_, 0, _, rfl, by simp, fun j x hx => ?_⟩, fun ao m cap e => by simp at e; omega⟩
  rw [cell_of_blk (heap_alloc_new w _)]
  simpa using hx
/-- The first error of a list. -/
def orL : List Int → Int
  | [] => 0
  | a :: r => if a = 0 then orL r else a
theorem orL_two (a b : Int) : orL [a, b] = orI a b := by
  unfold orL orI
  split
  · simp only [orL]; split <;> simp_all
  · rfl
theorem orL_three (a b c : Int) : orL [a, b, c] = orI a (orI b c) := by
  show (if a = 0 then orL [b, c] else a) = _
  rw [orL_two]
  rfl
/-- A kind as a value. -/
abbrev kindV (k : KA) : Value := .agg #[.int .i64 k.t, .bool k.o]

set_option maxRecDepth 100000 in
set_option maxHeartbeats 1000000 in
theorem or_v (es : List Int) (v : Value) (w : World) (h : IntsAt w v es) (hl : es.length ≤ 1000) :
    Calls Tryz.prog 96 #[v] w fun e w' => e = .returned (.int .i64 (orL es)) ∧ w' = w := by
  obtain ⟨ao, cap, rfl⟩ := RowAt.form h
  have HF := hide h
  clear h
  go_enter Tryz.func96, Tryz.ntmps96
  go_wp2_with fail
  go_loopw [8] (fun i wr => ∃ k : Nat, k ≤ es.length ∧ i = .int .i64 k ∧ Hid (orL (es.drop k) = orL es) ∧ wr = w) (fun i _ => es.length - (intOf i).toNat)
  case atStart => exact ⟨0, Nat.zero_le _, rfl, by simp [Hid], rfl⟩
  case round =>
    obtain ⟨k, hk, rfl, HS, rfl⟩ := hrel
    cases h : es[k]? with
    | none =>
      have h1 := get_ge h
      obtain rfl : k = es.length := by omega
      clear h h1
      rw [List.drop_length] at HS
      have i1 : ¬ (es.length : Int) < (es.length : Int) := by omega
      go_wp2_with fail
      go_ret
      exact ⟨ret_int (unhide HS), rfl⟩
    | some x =>
      have h1 := get_lt h
      obtain ⟨b, off, c, e, hbl, hc⟩ := (unhide HF).cells (by omega)
      simp at e
      obtain ⟨rfl, rfl⟩ := e
      have c0 := hc k x h
      have HO : Hid (orL (es.drop k) = if x = 0 then orL (es.drop (k + 1)) else x) := by
        obtain ⟨hk', hx⟩ := List.getElem?_eq_some_iff.1 h
        show _ = _
        rw [List.drop_eq_getElem_cons hk', hx]
        rfl
      clear h hc
      have i1 : (k : Int) < (es.length : Int) := by omega
      have i0 : (0 : Int) ≤ (k : Int) := by omega
      by_cases hx : x = 0
      · subst hx
        rw [if_pos rfl] at HO
        go_wp2_with fail
        go_roundw
        case rel => exact ⟨k + 1, by omega, by go_num, (unhide HO).symm.trans (unhide HS), by trivial⟩
        case measure => simp [intOf]; omega
      · rw [if_neg hx] at HO
        have n0 : (x != 0) = true := by simpa using hx
        clear hx
        go_wp2_with fail
        go_ret
        exact ⟨ret_int ((unhide HO).symm.trans (unhide HS)), by trivial⟩

/-- OK, if something is right. -/
def unlessI (r : Bool) (e : Int) : Int := if r then 0 else e
set_option maxRecDepth 100000 in
theorem unless_v (r : Bool) (e : Int) (w : World) : Calls Tryz.prog 100 #[.bool r, .int .i64 e] w fun x w' => x = .returned (.int .i64 (unlessI r e)) ∧ w' = w := by
  cases r with
  | false =>
    go_enter Tryz.func100, Tryz.ntmps100
    go_wp2_with fail
    go_ret
    exact ⟨rfl, rfl⟩
  | true =>
    go_enter Tryz.func100, Tryz.ntmps100
    go_wp2_with fail
    go_ret
    exact ⟨rfl, rfl⟩

/-- Is the number in the list? -/
def inB (l : List Int) (x : Int) : Bool := l.contains x
theorem inB_cons (y : Int) (l : List Int) (x : Int) : inB (y :: l) x = (x == y || inB l x) := by unfold inB; rw [List.contains_cons]
theorem ofI_in (k : KA) (ts : List Int) : ofI k ts = unlessI (inB ts k.t) 91 := rfl
theorem optI_un (k : KA) : optI k = unlessI k.o 92 := rfl
theorem plainI_un (k : KA) (ts : List Int) : plainI k ts = orI (ofI k ts) (unlessI (!k.o) 92) := by unfold plainI unlessI; cases k.o <;> rfl
set_option maxRecDepth 100000 in
set_option maxHeartbeats 1000000 in
theorem index_v (es : List Int) (x : Int) (v : Value) (w : World) (h : IntsAt w v es) (hl : es.length ≤ 1000) :
    Calls Tryz.prog 108 #[v, .int .i64 x] w fun e w' => (∃ n : Int, e = .returned (.int .i64 n) ∧ decide (0 ≤ n) = inB es x) ∧ w' = w := by
  obtain ⟨ao, cap, rfl⟩ := RowAt.form h
  have HF := hide h
  clear h
  go_enter Tryz.func108, Tryz.ntmps108
  go_wp2_with fail
  go_loopw [8] (fun i wr => ∃ k : Nat, k ≤ es.length ∧ i = .int .i64 k ∧ Hid (inB (es.drop k) x = inB es x) ∧ wr = w) (fun i _ => es.length - (intOf i).toNat)
  case atStart => exact ⟨0, Nat.zero_le _, rfl, by simp [Hid], rfl⟩
  case round =>
    obtain ⟨k, hk, rfl, HS, rfl⟩ := hrel
    cases h : es[k]? with
    | none =>
      have h1 := get_ge h
      obtain rfl : k = es.length := by omega
      clear h h1
      rw [List.drop_length] at HS
      have i1 : ¬ (es.length : Int) < (es.length : Int) := by omega
      go_wp2_with fail
      go_ret
      exact ⟨⟨_, rfl, (by decide : decide ((0 : Int) ≤ -1) = false).trans (unhide HS)⟩, rfl⟩
    | some y =>
      have h1 := get_lt h
      obtain ⟨b, off, c, e, hbl, hc⟩ := (unhide HF).cells (by omega)
      simp at e
      obtain ⟨rfl, rfl⟩ := e
      have c0 := hc k y h
      have HO : Hid (inB (es.drop k) x = (x == y || inB (es.drop (k + 1)) x)) := by
        obtain ⟨hk', hx⟩ := List.getElem?_eq_some_iff.1 h
        show _ = _
        rw [List.drop_eq_getElem_cons hk', hx, inB_cons]
      clear h hc
      have i1 : (k : Int) < (es.length : Int) := by omega
      have i0 : (0 : Int) ≤ (k : Int) := by omega
      by_cases hx : x = y
      · subst hx
        have HT : Hid (inB es x = true) := by show _ = _; rw [← unhide HS, unhide HO]; simp
        go_wp2_with fail
        go_ret
        exact ⟨⟨_, rfl, by rw [unhide HT]; simp⟩, rfl⟩
      · have HN : Hid (inB (es.drop (k + 1)) x = inB es x) := by show _ = _; rw [← unhide HS, unhide HO]; simp [hx]
        have n0 : (x == y) = false := by simpa using hx
        clear hx
        go_wp2_with fail
        go_roundw
        case rel => exact ⟨k + 1, by omega, by go_num, HN, by trivial⟩
        case measure => simp [intOf]; omega

set_option maxRecDepth 100000 in
theorem contains_v (es : List Int) (x : Int) (v : Value) (w : World) (h : IntsAt w v es) (hl : es.length ≤ 1000) :
    Calls Tryz.prog 104 #[v, .int .i64 x] w fun e w' => e = .returned (.bool (inB es x)) ∧ w' = w := by
  have HI := hide (index_v es x v w h hl)
  obtain ⟨ao, cap, rfl⟩ := RowAt.form h
  clear h
  go_enter Tryz.func104, Tryz.ntmps104
  go_wp2_with (go_at_call 108; refine (unhide HI).mono ?_; rintro e w1 ⟨⟨n, rfl, hn⟩, rfl⟩)
  go_ret
  exact ⟨ret_bool (by first | exact hn | rfl), rfl⟩
theorem keeps_set2 (w : World) (b : Nat) (x y : Value) : Keeps (fun q => q = b) w ((w.setCell ⟨b, 0, none⟩ x).setCell ⟨b, 1, none⟩ y) := (keeps_set w b 0 x).trans (keeps_set _ b 1 y)
/-- The cell of a result that is a kind, behind what a callee did. -/
theorem cell2 {w w4 : World} {c0 c1 : Value} {t : TypeId} (hk : Keeps (fun _ => False) (w.alloc (.cells #[c0, c1] t)) w4) :
    w4.heap[w.heap.size]? = some (.cells #[c0, c1] t (0, 0)) ∧ Keeps (fun _ => False) w w4 := by
  refine ⟨?_, ((Keeps.refl _ _).alloc _).trans hk⟩
  rw [hk.block _ (by simp) id]
  exact heap_alloc_new w _
/-- A struct of two cells is written over. -/
theorem set2 {w4 : World} {b : Nat} {c0 c1 : Value} {t : TypeId} (h : w4.heap[b]? = some (.cells #[c0, c1] t (0, 0))) (x y : Value) :
    let w5 := (w4.setCell ⟨b, 0, none⟩ x).setCell ⟨b, 1, none⟩ y
    (w5.cell? ⟨b, 0, none⟩ = some x ∧ w5.cell? ⟨b, 1, none⟩ = some y ∧ w5.heap[b]? = some (.cells #[x, y] t (0, 0))) ∧ Keeps (fun q => q = b) w4 w5 := by
  intro w5
  have hb := heap_setCell_at (o := 1) (heap_setCell_at (o := 0) h x) y
  refine ⟨⟨?_, ?_, hb⟩, keeps_set2 w4 b x y⟩
  · rw [cell_of_blk hb]; rfl
  · rw [cell_of_blk hb]; rfl
set_option maxRecDepth 100000 in
theorem plain_v (t : Int) (w : World) : Calls Tryz.prog 94 #[.int .i64 t] w fun e w' => e = .returned (kindV ⟨t, false⟩) ∧ Keeps (fun _ => False) w w' := by
  go_enter Tryz.func94, Tryz.ntmps94
  go_wp2_with fail
  refine bodyPost_ret (v := kindV ⟨t, false⟩) (by simp [results, go_sem]) rfl ?_
  exact ⟨rfl, (Keeps.refl _ w).alloc _⟩
set_option maxRecDepth 100000 in
theorem isOptional_v (k : KA) (w : World) : Calls Tryz.prog 97 #[kindV k] w fun e w' => e = .returned (.int .i64 (optI k)) ∧ Keeps (fun _ => False) w w' := by
  have HU := fun w' => hide (unless_v k.o 92 w')
  rw [optI_un]
  go_enter Tryz.func97, Tryz.ntmps97
  go_wp2_with (go_at_call 100; refine (unhide (HU _)).mono ?_; rintro e w1 ⟨rfl, rfl⟩)
  go_ret
  exact ⟨rfl, (Keeps.refl _ w).alloc _⟩
set_option maxRecDepth 100000 in
theorem isOf_v (k : KA) (ts : List Int) (v : Value) (w : World) (h : IntsAt w v ts) (hl : ts.length ≤ 1000) : Calls Tryz.prog 99 #[kindV k, v] w fun e w' => e = .returned (.int .i64 (ofI k ts)) ∧ Keeps (fun _ => False) w w' := by
  have HU := fun w' => hide (unless_v (inB ts k.t) 91 w')
  have HC := fun w' (hk : Keeps (fun _ => False) w w') => hide (contains_v ts k.t v w' (h.keepF hk) hl)
  have HK : Hid (Keeps (fun _ => False) w (w.alloc (.cells #[.int .i64 k.t, .bool k.o] 80))) := hide ((Keeps.refl _ w).alloc _)
  obtain ⟨ao, cap, rfl⟩ := RowAt.form h
  rw [ofI_in]
  clear h
  go_enter Tryz.func99, Tryz.ntmps99
  go_wp2_with (first
    | (go_at_call 104; refine (unhide (HC _ (unhide HK))).mono ?_; rintro e w1 ⟨rfl, rfl⟩)
    | (go_at_call 100; refine (unhide (HU _)).mono ?_; rintro e w1 ⟨rfl, rfl⟩))
  go_ret
  exact ⟨rfl, unhide HK⟩
end Go.Proofs.YtoempeobaknkcaaGreatDoor
namespace Go.Proofs.YtoempeobaknkcaaGreatDoor
open Go.RowKit Go.Maps

theorem cell_past {w : World} {b o : Nat} {v : Value} (hb : b < w.heap.size) (h : w.cell? ⟨b, o, none⟩ = some v) (x : Obj) : (w.alloc x).cell? ⟨b, o, none⟩ = some v := (((Keeps.refl (fun _ => False) w).alloc x).cell hb id).trans h

set_option maxRecDepth 100000 in
set_option maxHeartbeats 1000000 in
theorem isPlain_v (k : KA) (ts : List Int) (v : Value) (w : World) (h : IntsAt w v ts) (hl : ts.length ≤ 1000) : Calls Tryz.prog 93 #[kindV k, v] w fun e w' => e = .returned (.int .i64 (plainI k ts)) ∧ Keeps (fun _ => False) w w' := by
  obtain ⟨HB, hxb, hxc⟩ := boxed w #[.int .i64 k.t, .bool k.o] 80
  have c0 := hxc 0 (.int .i64 k.t) rfl
  have c1 := hxc 1 (.bool k.o) rfl
  have HU := fun w' => hide (unless_v (!k.o) 92 w')
  have HC := fun w' (hk : Keeps (fun _ => False) w w') => hide (isOf_v k ts v w' (h.keepF hk) hl)
  have HO := fun (a b : Int) (w' : World) => hide (or_v [a, b] (.slice (some ⟨w'.heap.size, 0, none⟩) 2 2) (w'.alloc (.cells #[.int .i64 a, .int .i64 b] 30)) (ints_new w' [a, b] 30 2 rfl) (by simp))
  obtain ⟨ao, cap, rfl⟩ := RowAt.form h
  rw [plainI_un, ← orL_two]
  clear h hxc
  go_enter Tryz.func93, Tryz.ntmps93
  go_wp2_with fail
  go_region_held3 (fun w' => w'.cell? ⟨w.heap.size, 0, none⟩ = some (.int .i64 k.t) ∧ w'.cell? ⟨w.heap.size, 1, none⟩ = some (.bool k.o)) (first | exact ⟨r0, r1⟩ | exact ⟨c0, c1⟩ | go_keep)
    ((first
    | (go_at_call 99; refine (unhide (HC _ (unhide HB).drew)).mono ?_; rintro e w1 ⟨rfl, hk1⟩; have r0 := (hk1.cell (o := 0) hxb id).trans c0; have r1 := (hk1.cell (o := 1) hxb id).trans c1; have HK1 := hide ((unhide HB).drew.trans hk1); clear hk1)
    | (go_at_call 100; refine (unhide (HU _)).mono ?_; rintro e w2 ⟨rfl, rfl⟩)
    | (go_at_call 96; refine (unhide (HO _ _ _)).mono ?_; rintro e w3 ⟨rfl, rfl⟩)))
  all_goals go_wp2_with fail
  all_goals go_ret
  all_goals exact ⟨rfl, (unhide HK1).alloc _⟩
/-- Held against one type that was laid for the call. -/
theorem isPlain_one (k : KA) (t : Int) (w : World) (H : Nat) (hH : w.heap.size = H) : Calls Tryz.prog 93 #[kindV k, .slice (some ⟨H, 0, none⟩) 1 1] (w.alloc (.cells #[.int .i64 t] 3)).drew fun e w' => e = .returned (.int .i64 (plainI k [t])) ∧ Keeps (fun _ => False) w w' := by
  subst hH
  exact (isPlain_v k [t] (.slice (some ⟨w.heap.size, 0, none⟩) 1 1) (w.alloc (.cells #[.int .i64 t] 3)).drew ((ints_new w [t] 3 1 rfl).keepF (Keeps.refl _ _).drew) (by simp)).mono fun e w' ⟨he, hk⟩ => ⟨he, ((Keeps.refl _ w).alloc _).drew.trans hk⟩
end Go.Proofs.YtoempeobaknkcaaGreatDoor
namespace Go.Proofs.YtoempeobaknkcaaGreatDoor
open Go.RowKit Go.Maps

def KA.cs (k : KA) : List Value := [.int .i64 k.t, .bool k.o]
def kcs (l : List KA) : List Value := l.flatMap KA.cs
theorem kcs_get : ∀ (l : List KA) (i : Nat) (x : KA) (j : Nat), l[i]? = some x → j < 2 → (kcs l)[i * 2 + j]? = (x.cs)[j]?
  | [], i, x, j, h, _ => by simp at h
  | y :: r, 0, x, j, h, hj => by
    simp at h; subst h
    have : j < y.cs.length := hj
    simp [kcs, List.flatMap_cons, List.getElem?_append_left this]
  | y :: r, i + 1, x, j, h, hj => by
    have ih := kcs_get r i x j (by simpa using h) hj
    have e : kcs (y :: r) = y.cs ++ kcs r := rfl
    rw [e, List.getElem?_append_right (by simp [KA.cs]; omega), ← ih]
    congr 1
    simp [KA.cs]; omega
theorem kcs_length : ∀ l : List KA, (kcs l).length = l.length * 2
  | [] => rfl
  | y :: r => by
    have e : kcs (y :: r) = y.cs ++ kcs r := rfl
    rw [e, List.length_append, kcs_length r]; simp [KA.cs]; omega
/-- Kinds in a slice. -/
def KsAt (w : World) (v : Value) (l : List KA) : Prop := RowAt w v l.length (kcs l)
theorem KsAt.keepF {w w' : World} {v : Value} {l : List KA} (h : KsAt w v l) (hk : Keeps (fun _ => False) w w') : KsAt w' v l := RowAt.keepF h hk
theorem KsAt.cells {w : World} {v : Value} {l : List KA} (h : KsAt w v l) (h0 : 0 < l.length) :
    ∃ b off cap, v = .slice (some ⟨b, off, none⟩) l.length cap ∧ b < w.heap.size ∧ ∀ i f, l[i]? = some f → w.cell? ⟨b, off + i * 2, none⟩ = some (.int .i64 f.t) ∧ w.cell? ⟨b, off + i * 2 + 1, none⟩ = some (.bool f.o) := by
  obtain ⟨b, off, cap, e, hb, hc⟩ := RowAt.cells h h0
  refine ⟨b, off, cap, e, hb, fun i f hf => ⟨?_, ?_⟩⟩
  · exact hc (i * 2) _ (by have := kcs_get l i f 0 hf (by omega); simpa [KA.cs] using this)
  · have := hc (i * 2 + 1) (.bool f.o) (by have := kcs_get l i f 1 hf (by omega); simpa [KA.cs] using this)
    rw [show off + i * 2 + 1 = off + (i * 2 + 1) by omega]
    exact this
/-- What a rule gives, as a value. -/
abbrev kerV (p : KA × Int) : Value := .tuple #[kindV p.1, .int .i64 p.2]
theorem takesI_step {ks : List KA} {ts : List Int} {j : Nat} {k : KA} {t : Int} (hk : ks[j]? = some k) (ht : ts[j]? = some t) : takesI (ks.drop j) (ts.drop j) = orI (plainI k [t]) (takesI (ks.drop (j + 1)) (ts.drop (j + 1))) := by
  obtain ⟨h1, e1⟩ := List.getElem?_eq_some_iff.1 hk
  obtain ⟨h2, e2⟩ := List.getElem?_eq_some_iff.1 ht
  rw [List.drop_eq_getElem_cons h1, List.drop_eq_getElem_cons h2, e1, e2]
  rfl

set_option maxRecDepth 100000 in
set_option maxHeartbeats 2000000 in
theorem takesF_v (op n : Int) (s : Txt) (ao : Option Addr) (xn xc : Nat) (ks : List KA) (ts : List Int) (is : Int) (kv tv : Value) (tb ib : Nat) (w : World) (hks : KsAt w kv ks) (hib : ib < w.heap.size) (htb : tb < w.heap.size)
    (hi : w.cell? ⟨ib, 0, none⟩ = some (.int .i64 is)) (ht : w.cell? ⟨tb, 0, none⟩ = some tv) (hts : IntsAt w tv ts) (hlen : ts.length = ks.length) (hl : ks.length ≤ 3) :
    Calls Tryz.prog 92 #[.agg #[.int .i64 op, .int .i64 n, str s, .slice ao xn xc], kv, .pointer (some ⟨tb, 0, none⟩), .pointer (some ⟨ib, 0, none⟩)] w fun e w' => e = .returned (kerV (takesK is ts ks)) ∧ Keeps (fun _ => False) w w' := by
  obtain ⟨ko, kc, rfl⟩ := RowAt.form hks
  obtain ⟨to, tc, rfl⟩ := RowAt.form hts
  have HKS := hide hks
  have HTS := hide hts
  have HPL := fun w' => hide (plain_v is w')
  have HR0 : Hid (Keeps (fun _ => False) w ((w.alloc (.cells #[.int .i64 op, .int .i64 n, str s, .slice ao xn xc] 57)).alloc (.cells #[.int .i64 0, .bool false] 80))) := hide (((Keeps.refl _ w).alloc _).alloc _)
  have HRB : Hid (((w.alloc (.cells #[.int .i64 op, .int .i64 n, str s, .slice ao xn xc] 57)).alloc (.cells #[.int .i64 0, .bool false] 80)).heap[w.heap.size + 1]? = some (.cells #[.int .i64 0, .bool false] 80 (0, 0))) := by
    have h := heap_alloc_new (w.alloc (.cells #[.int .i64 op, .int .i64 n, str s, .slice ao xn xc] 57)) (.cells #[.int .i64 0, .bool false] 80)
    show _ = _
    simpa using h
  clear hks hts
  go_enter Tryz.func92, Tryz.ntmps92
  go_wp2_with fail
  go_loopw [13] (fun i wr => ∃ j : Nat, j ≤ ks.length ∧ i = .int .i64 j ∧ Hid (takesI (ks.drop j) (ts.drop j) = takesI ks ts) ∧ wr.heap[w.heap.size + 1]? = some (.cells #[.int .i64 0, .bool false] 80 (0, 0)) ∧ Keeps (fun _ => False) w wr) (fun i _ => ks.length - (intOf i).toNat)
  case atStart => exact ⟨0, Nat.zero_le _, rfl, by simp [Hid], unhide HRB, unhide HR0⟩
  case round =>
    obtain ⟨j, hj, rfl, HS, hrb, hkp⟩ := hrel
    have HK := hide hkp
    have hsz : w.heap.size + 1 < wr.heap.size := lt_of_block hrb
    cases h : ks[j]? with
    | none =>
      have h1 := get_ge h
      obtain rfl : j = ks.length := by omega
      rw [List.drop_length] at HS
      have HS0 : Hid (takesI ks ts = 0) := by show _ = _; rw [← unhide HS]; simp [takesI]
      have ci := (hkp.cell hib id).trans hi
      have HRB1 := hide hrb
      have i1 : ¬ (ks.length : Int) < (ks.length : Int) := by omega
      have HTT : Hid (takesK is ts ks = (⟨is, false⟩, 0)) := by show _ = _; unfold takesK; rw [if_pos (unhide HS0)]
      clear h h1 hkp hrb HS hi ht
      go_wp2_with (go_at_call 94; refine (unhide (HPL _)).mono ?_; rintro e w1 ⟨rfl, hk1⟩; have hb1 := (hk1.block _ hsz id).trans (unhide HRB1); have m0 := cell_of_blk hb1 0; have m1 := cell_of_blk hb1 1; simp at m0 m1; have g0 := frozen_of_blk hb1 0; have g1 := frozen_of_blk hb1 1; have HB1 := hide hb1; have HK1 := hide ((unhide HK).trans hk1); clear hk1 hb1)
      obtain ⟨⟨s0, s1, _⟩, hks2⟩ := set2 (unhide HB1) (.int .i64 is) (.bool false)
      refine bodyPost_ret (v := kerV (⟨is, false⟩, 0)) (by simp [results, go_sem, s0, s1]) rfl ?_
      exact ⟨by rw [unhide HTT], (unhide HK1).narrow hks2 (fun q e => by omega)⟩
    | some k =>
      have h1 := get_lt h
      obtain ⟨t, htj⟩ : ∃ t, ts[j]? = some t := ⟨_, List.getElem?_eq_getElem (by omega)⟩
      obtain ⟨b, off, c, e, hbl, hc⟩ := (unhide HKS).cells (by omega)
      obtain ⟨b2, off2, c2, e2, hbl2, hc2⟩ := (unhide HTS).cells (by omega)
      simp at e e2
      obtain ⟨rfl, rfl⟩ := e
      obtain ⟨rfl, rfl⟩ := e2
      have a0 := (hkp.cell hbl id).trans (hc j k h).1
      have a1 := (hkp.cell hbl id).trans (hc j k h).2
      have q0 := cell_past (Nat.lt_of_lt_of_le htb hkp.size) ((hkp.cell htb id).trans ht) (.cells #[.int .i64 k.t, .bool k.o] 80)
      have q1 := cell_past (Nat.lt_of_lt_of_le hbl2 hkp.size) ((hkp.cell hbl2 id).trans (hc2 j t htj)) (.cells #[.int .i64 k.t, .bool k.o] 80)
      obtain ⟨HB, hxb, hxc⟩ := boxed wr #[.int .i64 k.t, .bool k.o] 80
      have c0 := hxc 0 (.int .i64 k.t) rfl
      have c1 := hxc 1 (.bool k.o) rfl
      have d0 : (wr.alloc (.cells #[.int .i64 k.t, .bool k.o] 80)).drew.cell? ⟨wr.heap.size, 0, none⟩ = some (.int .i64 k.t) := c0
      have d1 : (wr.alloc (.cells #[.int .i64 k.t, .bool k.o] 80)).drew.cell? ⟨wr.heap.size, 1, none⟩ = some (.bool k.o) := c1
      have d2 : (wr.alloc (.cells #[.int .i64 k.t, .bool k.o] 80)).drew.cell? ⟨tb, 0, none⟩ = some (.slice (some ⟨b2, off2, none⟩) ts.length tc) := q0
      have d3 : (wr.alloc (.cells #[.int .i64 k.t, .bool k.o] 80)).drew.cell? ⟨b2, off2 + j, none⟩ = some (.int .i64 t) := q1
      have hL2 : tb < (wr.alloc (.cells #[.int .i64 k.t, .bool k.o] 80)).heap.size := Nat.lt_of_lt_of_le htb (Nat.le_trans (unhide HK).size (unhide HB).size)
      have hL3 : b2 < (wr.alloc (.cells #[.int .i64 k.t, .bool k.o] 80)).heap.size := Nat.lt_of_lt_of_le hbl2 (Nat.le_trans (unhide HK).size (unhide HB).size)
      have f0 : ((wr.alloc (.cells #[.int .i64 k.t, .bool k.o] 80)).alloc (.cells #[.int .i64 t] 3)).drew.cell? ⟨wr.heap.size, 0, none⟩ = some (.int .i64 k.t) := cell_past hxb c0 (.cells #[.int .i64 t] 3)
      have f1 : ((wr.alloc (.cells #[.int .i64 k.t, .bool k.o] 80)).alloc (.cells #[.int .i64 t] 3)).drew.cell? ⟨wr.heap.size, 1, none⟩ = some (.bool k.o) := cell_past hxb c1 (.cells #[.int .i64 t] 3)
      have f2 : ((wr.alloc (.cells #[.int .i64 k.t, .bool k.o] 80)).alloc (.cells #[.int .i64 t] 3)).drew.cell? ⟨tb, 0, none⟩ = some (.slice (some ⟨b2, off2, none⟩) ts.length tc) := cell_past hL2 q0 (.cells #[.int .i64 t] 3)
      have f3 : ((wr.alloc (.cells #[.int .i64 k.t, .bool k.o] 80)).alloc (.cells #[.int .i64 t] 3)).drew.cell? ⟨b2, off2 + j, none⟩ = some (.int .i64 t) := cell_past hL3 q1 (.cells #[.int .i64 t] 3)
      have HSTEP := hide (takesI_step h htj)
      have HRB1 := hide (((unhide HB).block _ hsz id).trans hrb)
      have hsz2 : w.heap.size + 1 < (wr.alloc (.cells #[.int .i64 k.t, .bool k.o] 80)).heap.size := lt_of_block (unhide HRB1)
      have i1 : (j : Int) < (ks.length : Int) := by omega
      have i0 : (0 : Int) ≤ (j : Int) := by omega
      have i2 : (j : Int) < (ts.length : Int) := by omega
      clear h hc hc2 hkp htj hrb hxc
      obtain ⟨p, hp⟩ : ∃ p, p = plainI k [t] := ⟨_, rfl⟩
      have HPK := hide (isPlain_one k t (wr.alloc (.cells #[.int .i64 k.t, .bool k.o] 80)) (wr.heap.size + 1) (by simp))
      rw [← hp] at HPK
      rw [← hp] at HSTEP
      by_cases hp0 : p = 0
      · subst hp0
        clear hp
        go_wp2_with fail
        go_region_held3 (fun w' => w'.cell? ⟨wr.heap.size, 0, none⟩ = some (.int .i64 k.t) ∧ w'.cell? ⟨wr.heap.size, 1, none⟩ = some (.bool k.o) ∧ w'.cell? ⟨tb, 0, none⟩ = some (.slice (some ⟨b2, off2, none⟩) ts.length tc) ∧ w'.cell? ⟨b2, off2 + j, none⟩ = some (.int .i64 t)) (first | with_reducible exact ⟨r0, r1, r2, r3⟩ | with_reducible exact ⟨d0, d1, d2, d3⟩ | with_reducible exact ⟨f0, f1, f2, f3⟩ | (trace_state; fail))
          ((go_at_call 93; refine (unhide HPK).mono ?_; rintro e w1 ⟨rfl, hk2⟩; have r0 := (hk2.cell (o := 0) hxb id).trans c0; have r1 := (hk2.cell (o := 1) hxb id).trans c1; have r2 := (hk2.cell (o := 0) hL2 id).trans q0; have r3 := (hk2.cell hL3 id).trans q1; have HK2 := hide hk2; clear hk2))
        go_wp2_with fail
        go_roundw
        case rel => exact ⟨j + 1, by omega, by go_num, (by show _ = _; rw [← unhide HS, unhide HSTEP]; rfl), ((unhide HK2).block _ hsz2 id).trans (unhide HRB1), ((unhide HK).trans (unhide HB)).trans (unhide HK2)⟩
        case measure => simp [intOf]; omega
      · have HTK : Hid (takesI ks ts = p) := by show _ = _; rw [← unhide HS, unhide HSTEP]; unfold orI; rw [if_neg hp0]
        have n0 : (p != 0) = true := by simpa using hp0
        have HTT : Hid (takesK is ts ks = (⟨0, false⟩, p)) := by show _ = _; unfold takesK; rw [if_neg (by rw [unhide HTK]; exact hp0), unhide HTK]
        clear hp hp0
        go_wp2_with fail
        go_region_held3 (fun w' => w'.cell? ⟨wr.heap.size, 0, none⟩ = some (.int .i64 k.t) ∧ w'.cell? ⟨wr.heap.size, 1, none⟩ = some (.bool k.o) ∧ w'.cell? ⟨tb, 0, none⟩ = some (.slice (some ⟨b2, off2, none⟩) ts.length tc) ∧ w'.cell? ⟨b2, off2 + j, none⟩ = some (.int .i64 t)) (first | with_reducible exact ⟨r0, r1, r2, r3⟩ | with_reducible exact ⟨d0, d1, d2, d3⟩ | with_reducible exact ⟨f0, f1, f2, f3⟩ | (trace_state; fail))
          ((go_at_call 93; refine (unhide HPK).mono ?_; rintro e w1 ⟨rfl, hk2⟩; have r0 := (hk2.cell (o := 0) hxb id).trans c0; have r1 := (hk2.cell (o := 1) hxb id).trans c1; have r2 := (hk2.cell (o := 0) hL2 id).trans q0; have r3 := (hk2.cell hL3 id).trans q1; have hb1 := (hk2.block _ hsz2 id).trans (unhide HRB1); have m0 := cell_of_blk hb1 0; have m1 := cell_of_blk hb1 1; simp at m0 m1; have g0 := frozen_of_blk hb1 0; have g1 := frozen_of_blk hb1 1; have HB1 := hide hb1; have HK2 := hide hk2; clear hk2 hb1))
        go_wp2_with fail
        obtain ⟨⟨s0, s1, _⟩, hks2⟩ := set2 (unhide HB1) (.int .i64 0) (.bool false)
        refine bodyPost_ret (v := kerV (⟨0, false⟩, p)) (by simp [results, go_sem, s0, s1]) rfl ?_
        exact ⟨by rw [unhide HTT], (((unhide HK).trans (unhide HB)).trans (unhide HK2)).narrow hks2 (fun q e => by omega)⟩
end Go.Proofs.YtoempeobaknkcaaGreatDoor
