import Derived.Test.YtljoacpaehmbdaaGreatDoorJab
import Derived.Test.YtljoacpaehmbdaaGreatDoorJzaa
import Derived.Test.YtljoacpaehmbdaaGreatDoorJzab
namespace Go.Proofs.YtljoacpaehmbdaaGreatDoor
open Go.RowKit Go.Maps

/-- What a field or an expression is: its type, and whether it is optional. -/
structure KA where
  t : Int
  o : Bool
deriving DecidableEq
def fieldOf (S : List FieldA) (nm : Txt) : Option FieldA := S.find? fun f => decide (f.name = nm)
/-- The first of two errors. -/
def orI (a b : Int) : Int := if a = 0 then b else a
def ofI (k : KA) (ts : List Int) : Int := if ts.contains k.t then 0 else 91
def plainI (k : KA) (ts : List Int) : Int := orI (ofI k ts) (if k.o then 92 else 0)
def optI (k : KA) : Int := if k.o then 0 else 92
def takesI : List KA → List Int → Int
  | k :: ks, t :: ts => orI (plainI k [t]) (takesI ks ts)
  | _, _ => 0
def namedK (S : List FieldA) (s : Txt) : KA × Int := match fieldOf S s with
  | some f => (⟨f.type, f.opt⟩, 0)
  | none => (⟨0, false⟩, 90)
def hasK (S : List FieldA) (s : Txt) : KA × Int := (⟨2, false⟩, orI (namedK S s).2 (optI (namedK S s).1))
def takesK (is : Int) (ts : List Int) (ks : List KA) : KA × Int := if takesI ks ts = 0 then (⟨is, false⟩, 0) else (⟨0, false⟩, takesI ks ts)
def kth (ks : List KA) (i : Nat) : KA := ks.getD i ⟨0, false⟩
def comparesK (ts : List Int) (ks : List KA) : KA × Int := (⟨2, false⟩, orI (plainI (kth ks 0) ts) (plainI (kth ks 1) [(kth ks 0).t]))
def orElseK (ks : List KA) : KA × Int := (⟨(kth ks 0).t, false⟩, orI (optI (kth ks 0)) (plainI (kth ks 1) [(kth ks 0).t]))
def pickK (ks : List KA) : KA × Int := (⟨(kth ks 1).t, false⟩, orI (plainI (kth ks 0) [2]) (orI (plainI (kth ks 1) [(kth ks 1).t]) (plainI (kth ks 2) [(kth ks 1).t])))
/-- The rule of an operation. -/
inductive RuleA where
  | takes (is : Int) (ts : List Int)
  | field
  | has
  | compares (ts : List Int)
  | orElse
  | pick
def ruleL : List (Option RuleA) := [none, some (.takes 1 []), some (.takes 2 []), some (.takes 3 []), some .field, some .has, some (.takes 2 []), some (.takes 2 [2]), some (.takes 1 [1]),
  some (.takes 1 [1, 1]), some (.takes 1 [1, 1]), some (.takes 1 [1, 1]), some (.compares [1, 3]), some (.compares [1, 3]), some (.compares [1, 3]), some (.compares [1, 3]), some (.compares [1, 2, 3]), some (.compares [1, 2, 3]),
  some (.takes 2 [2, 2]), some (.takes 2 [2, 2]), some .orElse, some (.takes 1 [1, 1]), some (.takes 1 [1, 1]), some (.takes 1 [3]), some (.takes 3 [3, 3]), some .pick]
def RuleA.fit (S : List FieldA) (r : RuleA) (s : Txt) (ks : List KA) : KA × Int := match r with
  | .takes is ts => takesK is ts ks
  | .field => namedK S s
  | .has => hasK S s
  | .compares ts => comparesK ts ks
  | .orElse => orElseK ks
  | .pick => pickK ks
/-- How many kids a rule asks for. -/
def RuleA.kids : RuleA → Nat
  | .takes _ ts => ts.length
  | .field => 0
  | .has => 0
  | .compares _ => 2
  | .orElse => 2
  | .pick => 3
def ruleP (S : List FieldA) (op : Int) (s : Txt) (ks : List KA) : KA × Int := match (ruleL[op.toNat]?).join with
  | some r => r.fit S s ks
  | none => (⟨0, false⟩, 0)
def kindsP (S : List FieldA) : EL → List KA × Int
  | .nil => ([], 0)
  | .cons op _ s kids rest =>
    if (kindsP S kids).2 ≠ 0 then ([], (kindsP S kids).2)
    else if (ruleP S op s (kindsP S kids).1).2 ≠ 0 then ([], (ruleP S op s (kindsP S kids).1).2)
    else if (kindsP S rest).2 ≠ 0 then ([], (kindsP S rest).2)
    else ((ruleP S op s (kindsP S kids).1).1 :: (kindsP S rest).1, 0)
def kindP (S : List FieldA) (op : Int) (s : Txt) (kids : EL) : KA × Int :=
  if (kindsP S kids).2 ≠ 0 then (⟨0, false⟩, (kindsP S kids).2) else ruleP S op s (kindsP S kids).1
theorem kindsP_cons (S : List FieldA) (op n : Int) (s : Txt) (kids rest : EL) : kindsP S (.cons op n s kids rest) =
    if (kindP S op s kids).2 ≠ 0 then ([], (kindP S op s kids).2) else if (kindsP S rest).2 ≠ 0 then ([], (kindsP S rest).2) else ((kindP S op s kids).1 :: (kindsP S rest).1, 0) := by
  unfold kindP
  simp only [kindsP]
  by_cases h : (kindsP S kids).2 = 0
  · simp [h]
  · simp [h]
/-- The type, whether it is optional, the error. -/
def typeP (S : List FieldA) (op n : Int) (s : Txt) (kids : EL) : Int × Bool × Int :=
  if errS S ≠ 0 then (0, false, errS S) else if checkE (.cons op n s kids .nil) ≠ 0 then (0, false, checkE (.cons op n s kids .nil))
  else if (kindP S op s kids).2 ≠ 0 then (0, false, (kindP S op s kids).2) else ((kindP S op s kids).1.t, (kindP S op s kids).1.o, 0)
theorem kindsP_len (S : List FieldA) : ∀ l : EL, (kindsP S l).2 = 0 → (kindsP S l).1.length = l.len
  | .nil, _ => rfl
  | .cons op n s kids rest, h => by
    have ih := kindsP_len S rest
    rw [kindsP_cons] at h ⊢
    by_cases h1 : (kindP S op s kids).2 = 0
    · by_cases h2 : (kindsP S rest).2 = 0
      · simp [h1, h2, EL.len, ih h2]
      · simp [h1, h2] at h
    · simp [h1] at h
theorem ruleL_kids : ∀ m : Nat, 1 ≤ m → m ≤ 25 → ∃ r, (ruleL[m]?).join = some r ∧ (r.kids : Int) = kidsB m := by
  have h : ∀ m : Fin 26, 1 ≤ m.val → ((ruleL[m.val]?).join).map (fun r => (r.kids : Int)) = some (kidsB m.val) := by decide
  intro m h1 h2
  have := h ⟨m, by omega⟩ h1
  cases hr : (ruleL[m]?).join with
  | none => simp only [hr] at this; cases this
  | some r => simp only [hr] at this; exact ⟨r, rfl, Option.some.inj this⟩
end Go.Proofs.YtljoacpaehmbdaaGreatDoor
namespace Go.Proofs.YtljoacpaehmbdaaGreatDoor
open Go.RowKit Go.Maps

/-- Numbers in a slice. -/
def ints (l : List Int) : List Value := l.map (Value.int .i64)
def IntsAt (w : World) (v : Value) (l : List Int) : Prop := RowAt w v l.length (ints l)
theorem IntsAt.keepF {w w' : World} {v : Value} {l : List Int} (h : IntsAt w v l) (hk : Keeps (fun _ => False) w w') : IntsAt w' v l := RowAt.keepF h hk
theorem IntsAt.cells {w : World} {v : Value} {l : List Int} (h : IntsAt w v l) (h0 : 0 < l.length) :
    ∃ b off cap, v = .slice (some ⟨b, off, none⟩) l.length cap ∧ b < w.heap.size ∧ ∀ i x, l[i]? = some x → w.cell? ⟨b, off + i, none⟩ = some (.int .i64 x) := by
  obtain ⟨b, off, cap, e, hb, hc⟩ := RowAt.cells h h0
  exact ⟨b, off, cap, e, hb, fun i x hx => hc i _ (by simp [ints, hx])⟩
theorem ints_nil (w : World) : IntsAt w (.slice none 0 0) [] := ⟨⟨_, _, rfl⟩, fun h => by simp at h, fun ao m cap e => by simp at e; omega⟩
theorem ints_new (w : World) (l : List Int) (t : TypeId) (n : Nat) (hn : n = l.length) : IntsAt (w.alloc (.cells (ints l).toArray t)) (.slice (some ⟨w.heap.size, 0, none⟩) n n) l := by
  subst hn
  refine ⟨⟨_, _, rfl⟩, fun _ => ⟨_, 0, _, rfl, by simp, fun j x hx => ?_⟩, fun ao m cap e => by simp at e; omega⟩
  rw [cell_of_blk (heap_alloc_new w _)]
  simpa using hx
/-- The first error of a list. -/
def orL : List Int → Int
  | [] => 0
  | a :: r => if a = 0 then orL r else a
theorem orL_two (a b : Int) : orL [a, b] = orI a b := by
  unfold orL orI
  split
  · simp only [orL]; split <;> simp_all
  · rfl
theorem orL_three (a b c : Int) : orL [a, b, c] = orI a (orI b c) := by
  show (if a = 0 then orL [b, c] else a) = _
  rw [orL_two]
  rfl
/-- A kind as a value. -/
abbrev kindV (k : KA) : Value := .agg #[.int .i64 k.t, .bool k.o]

set_option maxRecDepth 100000 in
set_option maxHeartbeats 1000000 in
theorem or_v (es : List Int) (v : Value) (w : World) (h : IntsAt w v es) (hl : es.length ≤ 1000) :
    Calls Tryz.prog 100 #[v] w fun e w' => e = .returned (.int .i64 (orL es)) ∧ w' = w := by
  obtain ⟨ao, cap, rfl⟩ := RowAt.form h
  have HF := hide h
  clear h
  go_enter Tryz.func100, Tryz.ntmps100
  go_wp2_with fail
  go_loopw [8] (fun i wr => ∃ k : Nat, k ≤ es.length ∧ i = .int .i64 k ∧ Hid (orL (es.drop k) = orL es) ∧ wr = w) (fun i _ => es.length - (intOf i).toNat)
  case atStart => exact ⟨0, Nat.zero_le _, rfl, by simp [Hid], rfl⟩
  case round =>
    obtain ⟨k, hk, rfl, HS, rfl⟩ := hrel
    cases h : es[k]? with
    | none =>
      have h1 := get_ge h
      obtain rfl : k = es.length := by omega
      clear h h1
      rw [List.drop_length] at HS
      have i1 : ¬ (es.length : Int) < (es.length : Int) := by omega
      go_wp2_with fail
      go_ret
      exact ⟨ret_int (unhide HS), rfl⟩
    | some x =>
      have h1 := get_lt h
      obtain ⟨b, off, c, e, hbl, hc⟩ := (unhide HF).cells (by omega)
      simp at e
      obtain ⟨rfl, rfl⟩ := e
      have c0 := hc k x h
      have HO : Hid (orL (es.drop k) = if x = 0 then orL (es.drop (k + 1)) else x) := by
        obtain ⟨hk', hx⟩ := List.getElem?_eq_some_iff.1 h
        show _ = _
        rw [List.drop_eq_getElem_cons hk', hx]
        rfl
      clear h hc
      have i1 : (k : Int) < (es.length : Int) := by omega
      have i0 : (0 : Int) ≤ (k : Int) := by omega
      by_cases hx : x = 0
      · subst hx
        rw [if_pos rfl] at HO
        go_wp2_with fail
        go_roundw
        case rel => exact ⟨k + 1, by omega, by go_num, (unhide HO).symm.trans (unhide HS), by trivial⟩
        case measure => simp [intOf]; omega
      · rw [if_neg hx] at HO
        have n0 : (x != 0) = true := by simpa using hx
        clear hx
        go_wp2_with fail
        go_ret
        exact ⟨ret_int ((unhide HO).symm.trans (unhide HS)), by trivial⟩

/-- OK, if something is right. -/
def unlessI (r : Bool) (e : Int) : Int := if r then 0 else e
set_option maxRecDepth 100000 in
theorem unless_v (r : Bool) (e : Int) (w : World) : Calls Tryz.prog 104 #[.bool r, .int .i64 e] w fun x w' => x = .returned (.int .i64 (unlessI r e)) ∧ w' = w := by
  cases r with
  | false =>
    go_enter Tryz.func104, Tryz.ntmps104
    go_wp2_with fail
    go_ret
    exact ⟨rfl, rfl⟩
  | true =>
    go_enter Tryz.func104, Tryz.ntmps104
    go_wp2_with fail
    go_ret
    exact ⟨rfl, rfl⟩

/-- Is the number in the list? -/
def inB (l : List Int) (x : Int) : Bool := l.contains x
theorem inB_cons (y : Int) (l : List Int) (x : Int) : inB (y :: l) x = (x == y || inB l x) := by unfold inB; rw [List.contains_cons]
theorem ofI_in (k : KA) (ts : List Int) : ofI k ts = unlessI (inB ts k.t) 91 := rfl
theorem optI_un (k : KA) : optI k = unlessI k.o 92 := rfl
theorem plainI_un (k : KA) (ts : List Int) : plainI k ts = orI (ofI k ts) (unlessI (!k.o) 92) := by unfold plainI unlessI; cases k.o <;> rfl
set_option maxRecDepth 100000 in
set_option maxHeartbeats 1000000 in
theorem index_v (es : List Int) (x : Int) (v : Value) (w : World) (h : IntsAt w v es) (hl : es.length ≤ 1000) :
    Calls Tryz.prog 108 #[v, .int .i64 x] w fun e w' => (∃ n : Int, e = .returned (.int .i64 n) ∧ decide (0 ≤ n) = inB es x) ∧ w' = w := by
  obtain ⟨ao, cap, rfl⟩ := RowAt.form h
  have HF := hide h
  clear h
  go_enter Tryz.func108, Tryz.ntmps108
  go_wp2_with fail
  go_loopw [8] (fun i wr => ∃ k : Nat, k ≤ es.length ∧ i = .int .i64 k ∧ Hid (inB (es.drop k) x = inB es x) ∧ wr = w) (fun i _ => es.length - (intOf i).toNat)
  case atStart => exact ⟨0, Nat.zero_le _, rfl, by simp [Hid], rfl⟩
  case round =>
    obtain ⟨k, hk, rfl, HS, rfl⟩ := hrel
    cases h : es[k]? with
    | none =>
      have h1 := get_ge h
      obtain rfl : k = es.length := by omega
      clear h h1
      rw [List.drop_length] at HS
      have i1 : ¬ (es.length : Int) < (es.length : Int) := by omega
      go_wp2_with fail
      go_ret
      exact ⟨⟨_, rfl, (by decide : decide ((0 : Int) ≤ -1) = false).trans (unhide HS)⟩, rfl⟩
    | some y =>
      have h1 := get_lt h
      obtain ⟨b, off, c, e, hbl, hc⟩ := (unhide HF).cells (by omega)
      simp at e
      obtain ⟨rfl, rfl⟩ := e
      have c0 := hc k y h
      have HO : Hid (inB (es.drop k) x = (x == y || inB (es.drop (k + 1)) x)) := by
        obtain ⟨hk', hx⟩ := List.getElem?_eq_some_iff.1 h
        show _ = _
        rw [List.drop_eq_getElem_cons hk', hx, inB_cons]
      clear h hc
      have i1 : (k : Int) < (es.length : Int) := by omega
      have i0 : (0 : Int) ≤ (k : Int) := by omega
      by_cases hx : x = y
      · subst hx
        have HT : Hid (inB es x = true) := by show _ = _; rw [← unhide HS, unhide HO]; simp
        go_wp2_with fail
        go_ret
        exact ⟨⟨_, rfl, by rw [unhide HT]; simp⟩, rfl⟩
      · have HN : Hid (inB (es.drop (k + 1)) x = inB es x) := by show _ = _; rw [← unhide HS, unhide HO]; simp [hx]
        have n0 : (x == y) = false := by simpa using hx
        clear hx
        go_wp2_with fail
        go_roundw
        case rel => exact ⟨k + 1, by omega, by go_num, HN, by trivial⟩
        case measure => simp [intOf]; omega

set_option maxRecDepth 100000 in
theorem contains_v (es : List Int) (x : Int) (v : Value) (w : World) (h : IntsAt w v es) (hl : es.length ≤ 1000) :
    Calls Tryz.prog 106 #[v, .int .i64 x] w fun e w' => e = .returned (.bool (inB es x)) ∧ w' = w := by
  have HI := hide (index_v es x v w h hl)
  obtain ⟨ao, cap, rfl⟩ := RowAt.form h
  clear h
  go_enter Tryz.func106, Tryz.ntmps106
  go_wp2_with (go_at_call 108; refine (unhide HI).mono ?_; rintro e w1 ⟨⟨n, rfl, hn⟩, rfl⟩)
  go_ret
  exact ⟨ret_bool (by first | exact hn | rfl), rfl⟩
theorem keeps_set2 (w : World) (b : Nat) (x y : Value) : Keeps (fun q => q = b) w ((w.setCell ⟨b, 0, none⟩ x).setCell ⟨b, 1, none⟩ y) := (keeps_set w b 0 x).trans (keeps_set _ b 1 y)
/-- A struct of two cells is written over. -/
theorem set2 {w4 : World} {b : Nat} {c0 c1 : Value} {t : TypeId} (h : w4.heap[b]? = some (.cells #[c0, c1] t (0, 0))) (x y : Value) :
    let w5 := (w4.setCell ⟨b, 0, none⟩ x).setCell ⟨b, 1, none⟩ y
    (w5.cell? ⟨b, 0, none⟩ = some x ∧ w5.cell? ⟨b, 1, none⟩ = some y ∧ w5.heap[b]? = some (.cells #[x, y] t (0, 0))) ∧ Keeps (fun q => q = b) w4 w5 := by
  intro w5
  have hb := heap_setCell_at (o := 1) (heap_setCell_at (o := 0) h x) y
  refine ⟨⟨?_, ?_, hb⟩, keeps_set2 w4 b x y⟩
  · rw [cell_of_blk hb]; rfl
  · rw [cell_of_blk hb]; rfl
set_option maxRecDepth 100000 in
theorem plain_v (t : Int) (w : World) : Calls Tryz.prog 98 #[.int .i64 t] w fun e w' => e = .returned (kindV ⟨t, false⟩) ∧ Keeps (fun _ => False) w w' := by
  go_enter Tryz.func98, Tryz.ntmps98
  go_wp2_with fail
  refine bodyPost_ret (v := kindV ⟨t, false⟩) (by simp [results, go_sem]) rfl ?_
  exact ⟨rfl, (Keeps.refl _ w).alloc _⟩
set_option maxRecDepth 100000 in
theorem isOptional_v (k : KA) (w : World) : Calls Tryz.prog 101 #[kindV k] w fun e w' => e = .returned (.int .i64 (optI k)) ∧ Keeps (fun _ => False) w w' := by
  have HU := fun w' => hide (unless_v k.o 92 w')
  rw [optI_un]
  go_enter Tryz.func101, Tryz.ntmps101
  go_wp2_with (go_at_call 104; refine (unhide (HU _)).mono ?_; rintro e w1 ⟨rfl, rfl⟩)
  go_ret
  exact ⟨rfl, (Keeps.refl _ w).alloc _⟩
set_option maxRecDepth 100000 in
theorem isOf_v (k : KA) (ts : List Int) (v : Value) (w : World) (h : IntsAt w v ts) (hl : ts.length ≤ 1000) : Calls Tryz.prog 103 #[kindV k, v] w fun e w' => e = .returned (.int .i64 (ofI k ts)) ∧ Keeps (fun _ => False) w w' := by
  have HU := fun w' => hide (unless_v (inB ts k.t) 91 w')
  have HC := fun w' (hk : Keeps (fun _ => False) w w') => hide (contains_v ts k.t v w' (h.keepF hk) hl)
  have HK : Hid (Keeps (fun _ => False) w (w.alloc (.cells #[.int .i64 k.t, .bool k.o] 73))) := hide ((Keeps.refl _ w).alloc _)
  obtain ⟨ao, cap, rfl⟩ := RowAt.form h
  rw [ofI_in]
  clear h
  go_enter Tryz.func103, Tryz.ntmps103
  go_wp2_with (first
    | (go_at_call 106; refine (unhide (HC _ (unhide HK))).mono ?_; rintro e w1 ⟨rfl, rfl⟩)
    | (go_at_call 104; refine (unhide (HU _)).mono ?_; rintro e w1 ⟨rfl, rfl⟩))
  go_ret
  exact ⟨rfl, unhide HK⟩
end Go.Proofs.YtljoacpaehmbdaaGreatDoor
namespace Go.Proofs.YtljoacpaehmbdaaGreatDoor
open Go.RowKit Go.Maps

def namedB (l : List FieldA) (nm : Txt) : Bool := l.any fun f => decide (f.name = nm)
theorem namedB_snoc (l : List FieldA) (f : FieldA) (nm : Txt) : namedB (l ++ [f]) nm = (namedB l nm || decide (f.name = nm)) := by simp [namedB]

set_option maxRecDepth 100000 in
set_option maxHeartbeats 1000000 in
theorem named_v (l : List FieldA) (v : Value) (nm : Txt) (w : World) (h : FldsAt w v l) (hl : l.length ≤ 8) :
    Calls Tryz.prog 61 #[v, str nm] w fun e w' => e = .returned (.bool (namedB l nm)) ∧ Keeps (fun _ => False) w w' := by
  obtain ⟨ao, cap, rfl⟩ := RowAt.form h
  have HF := hide h
  clear h
  go_enter Tryz.func61, Tryz.ntmps61
  go_wp2
  go_loopw [9] (fun i wr => ∃ k : Nat, k ≤ l.length ∧ i = .int .i64 k ∧ Hid (namedB (l.take k) nm = false) ∧ Keeps (fun _ => False) w wr) (fun i _ => l.length - (intOf i).toNat)
  case atStart => exact ⟨0, Nat.zero_le _, rfl, by simp [Hid, namedB], Keeps.refl _ _⟩
  case round =>
    obtain ⟨k, hk, rfl, HS, hkp⟩ := hrel
    have HK := hide hkp
    cases h : l[k]? with
    | none =>
      have h1 := get_ge h
      obtain rfl : k = l.length := by omega
      clear hkp h h1
      rw [List.take_length] at HS
      go_wp2
      go_ret
      exact ⟨ret_bool (unhide HS).symm, unhide HK⟩
    | some f =>
      have h1 := get_lt h
      obtain ⟨b, off, c, e, hbl, hc⟩ := (unhide HF).cells (by omega)
      simp at e
      obtain ⟨rfl, rfl⟩ := e
      have c0 := (hkp.cell hbl id).trans (hc k f h).1
      have c1 := (hkp.cell hbl id).trans (hc k f h).2.1
      have c2 := (hkp.cell hbl id).trans (hc k f h).2.2
      have HH := hide h
      have HO : Hid (namedB (l.take (k + 1)) nm = (namedB (l.take k) nm || decide (f.name = nm))) := by show _ = _; rw [take_snoc _ _ _ h, namedB_snoc]
      clear hkp h hc
      go_wp2
      case roundEnd =>
        rename_i hne
        go_roundw
        case rel => exact ⟨k + 1, by omega, by go_num, by show _ = _; rw [unhide HO, unhide HS]; simpa using hne, (unhide HK).alloc _⟩
        case measure => simp [intOf]; omega
      rename_i hne
      go_ret
      refine ⟨ret_bool ?_, (unhide HK).alloc _⟩
      symm
      exact List.any_eq_true.2 ⟨f, List.mem_of_getElem? (unhide HH), by simpa using hne⟩

set_option maxRecDepth 100000 in
set_option maxHeartbeats 1000000 in
theorem head_v (l : List FieldA) (v : Value) (w : World) (h : FldsAt w v l) (hl : l.length ≤ 8) :
    Calls Tryz.prog 79 #[.agg #[v]] w fun e w' => e = .returned (.int .i64 (headB l)) ∧ Keeps (fun _ => False) w w' := by
  obtain ⟨ao, cap, rfl⟩ := RowAt.form h
  have HF := hide h
  clear h
  go_enter Tryz.func79, Tryz.ntmps79
  go_wp2
  obtain ⟨HB, hb, hbc⟩ := boxed w #[.slice ao l.length cap] 26
  have hp := hbc 0 (.slice ao l.length cap) rfl
  have HF2 := hide ((unhide HF).keepF (unhide HB))
  clear hbc HF
  generalize w.alloc (.cells #[.slice ao l.length cap] 26) = w2 at *
  generalize w.heap.size = sb at *
  go_loopw [3, 9] (fun n i wr => ∃ k : Nat, k ≤ l.length ∧ i = .int .i64 k ∧ n = .int .i64 (opts (l.take k)) ∧ Keeps (fun _ => False) w2 wr) (fun _ i _ => l.length - (intOf i).toNat)
  case atStart => exact ⟨0, Nat.zero_le _, rfl, rfl, Keeps.refl _ _⟩
  case round =>
    obtain ⟨k, hk, rfl, rfl, hkp⟩ := hrel
    have HK := hide hkp
    have ho := opts_le (l.take k)
    rw [List.length_take] at ho
    cases h : l[k]? with
    | none =>
      have h1 := get_ge h
      obtain rfl : k = l.length := by omega
      clear hkp h h1
      rw [List.take_length] at *
      go_wp2
      go_ret
      exact ⟨ret_int (by unfold headB; omega), (unhide HB).trans (unhide HK)⟩
    | some f =>
      have h1 := get_lt h
      obtain ⟨b, off, c, e, hbl, hc⟩ := (unhide HF2).cells (by omega)
      simp at e
      obtain ⟨rfl, rfl⟩ := e
      have c0 := (hkp.cell hbl id).trans (hc k f h).1
      have c1 := (hkp.cell hbl id).trans (hc k f h).2.1
      have c2 := (hkp.cell hbl id).trans (hc k f h).2.2
      have HO : Hid (opts (l.take (k + 1)) = opts (l.take k) + (if f.opt then 1 else 0)) := by show _ = _; rw [take_snoc _ _ _ h, opts_snoc]
      generalize opts (l.take k) = o at *
      clear hkp h hc
      cases hfo : f.opt with
      | true =>
        rw [hfo] at c2 HO
        go_wp2
        go_roundw
        case rel => exact ⟨k + 1, by omega, by go_num, by rw [unhide HO]; go_num, (unhide HK).alloc _⟩
        case measure => simp [intOf]; omega
      | false =>
        rw [hfo] at c2 HO
        go_wp2
        go_roundw
        case rel => exact ⟨k + 1, by omega, by go_num, by rw [unhide HO]; go_num, (unhide HK).alloc _⟩
        case measure => simp [intOf]; omega

/-- The table of package value's types lies as its initialiser lays it. -/
def typesC : Array Value := #[str [], .int .i64 0, str [105, 110, 116], .int .i64 10, str [98, 111, 111, 108], .int .i64 1, str [98, 121, 116, 101, 115], .int .i64 21]
structure Types (w : World) : Prop where
  lt : 0 < w.heap.size
  cell : ∀ j x, typesC[j]? = some x → w.cell? ⟨0, j, none⟩ = some x
theorem Types.keep {F : Nat → Prop} {w w' : World} (h : Types w) (hk : Keeps F w w') (hF : ¬ F 0) : Types w' :=
  ⟨Nat.lt_of_lt_of_le h.lt hk.size, fun j x hx => by rw [hk.cell h.lt hF]; exact h.cell j x hx⟩
theorem Types.keepF {w w' : World} (h : Types w) (hk : Keeps (fun _ => False) w w') : Types w' := h.keep hk id
theorem Types.width {w : World} (h : Types w) {t : Int} (ht : 0 ≤ wideB t) : ∃ n : Nat, t = n ∧ n < 4 ∧ w.cell? ⟨0, n * 2 + 1, none⟩ = some (.int .i64 (wideB t)) := by
  by_cases h1 : t = 1
  · subst h1; exact ⟨1, rfl, by omega, h.cell 3 _ rfl⟩
  by_cases h2 : t = 2
  · subst h2; exact ⟨2, rfl, by omega, h.cell 5 _ rfl⟩
  by_cases h3 : t = 3
  · subst h3; exact ⟨3, rfl, by omega, h.cell 7 _ rfl⟩
  · simp [wideB, h1, h2, h3] at ht

set_option maxRecDepth 100000 in
set_option maxHeartbeats 1000000 in
theorem width_v (l : List FieldA) (v : Value) (w : World) (hT : Types w) (h : FldsAt w v l) (hl : l.length ≤ 8) (hok : l.all fieldOK = true) :
    Calls Tryz.prog 62 #[.agg #[v]] w fun e w' => e = .returned (.int .i64 (widthB l)) ∧ Keeps (fun _ => False) w w' := by
  obtain ⟨ao, cap, rfl⟩ := RowAt.form h
  obtain ⟨HB, hb, hbc⟩ := boxed w #[.slice ao l.length cap] 26
  have hp := hbc 0 (.slice ao l.length cap) rfl
  have hF2 := h.keepF (unhide HB)
  have HH := hide (head_v l _ _ hF2 (by omega))
  have HT := hide (hT.keepF (unhide HB))
  have HOK := hide hok
  have hh := headB_le l
  have HE : Hid (widthB l = headB l + wides l) := rfl
  generalize widthB l = R at *
  generalize headB l = H at *
  have HF2 := hide hF2
  clear hbc h hF2 hT hok
  go_enter Tryz.func62, Tryz.ntmps62
  go_wp2_with fail
  refine (unhide HH).mono ?_
  rintro e w2 ⟨rfl, hk⟩
  have HF3 := hide ((unhide HF2).keepF hk)
  have HT3 := hide ((unhide HT).keepF hk)
  have HB2 := hide ((unhide HB).trans hk)
  have hb2 : w.heap.size < w2.heap.size := Nat.lt_of_lt_of_le hb hk.size
  have hp2 := (hk.cell hb id).trans hp
  generalize w.alloc (.cells #[.slice ao l.length cap] 26) = w1 at *
  clear HH HF2 HB hk hp hb HT
  generalize w.heap.size = sb at *
  go_wp2_with fail
  go_loopw [3, 11] (fun n i wr => ∃ k : Nat, k ≤ l.length ∧ i = .int .i64 k ∧ n = .int .i64 (H + wides (l.take k)) ∧ Keeps (fun _ => False) w2 wr) (fun _ i _ => l.length - (intOf i).toNat)
  case atStart => exact ⟨0, Nat.zero_le _, rfl, by simp [wides], Keeps.refl _ _⟩
  case round =>
    obtain ⟨k, hk, rfl, rfl, hkp⟩ := hrel
    have HK := hide hkp
    have ho := wides_range (l.take k)
    rw [List.length_take] at ho
    cases h : l[k]? with
    | none =>
      have h1 := get_ge h
      obtain rfl : k = l.length := by omega
      clear hkp h h1
      rw [List.take_length] at *
      go_wp2_with fail
      go_ret
      exact ⟨ret_int (unhide HE).symm, (unhide HB2).trans (unhide HK)⟩
    | some f =>
      have h1 := get_lt h
      obtain ⟨b, off, c, e, hbl, hc⟩ := (unhide HF3).cells (by omega)
      simp at e
      obtain ⟨rfl, rfl⟩ := e
      have c0 := (hkp.cell hbl id).trans (hc k f h).1
      have c1 := (hkp.cell hbl id).trans (hc k f h).2.1
      have c2 := (hkp.cell hbl id).trans (hc k f h).2.2
      have HO : Hid (wides (l.take (k + 1)) = wides (l.take k) + wideB f.type) := by show _ = _; rw [take_snoc _ _ _ h, wides_snoc]
      have hwr := wideB_range f.type
      have hfo : 0 ≤ wideB f.type := by
        have := List.all_eq_true.1 (unhide HOK) f (List.mem_of_getElem? h)
        unfold fieldOK at this
        simp only [Bool.and_eq_true, decide_eq_true_eq] at this
        exact this.2
      obtain ⟨n, hn, hn4, hcell⟩ := (((unhide HT3).keepF hkp).keepF ((Keeps.refl _ wr).alloc (.cells #[str f.name, .int .i64 f.type, .bool f.opt] 70))).width hfo
      rw [hn] at c1 hcell
      rw [← hn] at hcell
      generalize wides (l.take k) = o at *
      generalize wideB f.type = W at *
      rw [hn] at hcell
      clear hkp h hc hn hfo
      go_wp2_with fail
      go_roundw
      case rel => exact ⟨k + 1, by omega, by go_num, by rw [unhide HO]; go_num, (unhide HK).alloc _⟩
      case measure => simp [intOf]; omega

end Go.Proofs.YtljoacpaehmbdaaGreatDoor
