import Derived.Test.YtoempeobaknkcaaGreatDoorJyap
import Derived.Test.YtoempeobaknkcaaGreatDoorJybb
namespace Go.Proofs.YtoempeobaknkcaaGreatDoor
open Go.RowKit Go.Maps

/-- What the reference's rule asks of the kids, and its own type. -/
def wantL (op : Int) : List (Int × Bool) × Int :=
  if op = 7 then ([(2, false)], 2) else if op = 8 then ([(1, false)], 1) else if op = 9 ∨ op = 10 ∨ op = 11 ∨ op = 21 ∨ op = 22 then ([(1, false), (1, false)], 1)
  else if op = 12 ∨ op = 13 ∨ op = 14 ∨ op = 15 then ([(-1, false), (-2, false)], 2) else if op = 16 ∨ op = 17 then ([(0, false), (-2, false)], 2) else if op = 18 ∨ op = 19 then ([(2, false), (2, false)], 2)
  else if op = 20 then ([(0, true), (-2, false)], -2) else if op = 23 then ([(3, false)], 1) else if op = 24 then ([(3, false), (3, false)], 3) else ([(2, false), (0, false), (-3, false)], -3)
def askedB (w t : Int) (ks : List KA) : Bool := if w = 0 then true else if w = -1 then (decide (t = 1) || decide (t = 3)) else if w = -2 then decide (t = (kth ks 0).t) else if w = -3 then decide (t = (kth ks 1).t) else decide (t = w)
def wantsI (ks : List KA) : List KA → List (Int × Bool) → Int
  | k :: r, w :: ws => if askedB w.1 k.t ks = false then 91 else if w.2 ≠ k.o then 92 else wantsI ks r ws
  | _, _ => 0
def tyR (ty : Int) (ks : List KA) : Int := if ty = -2 then (kth ks 0).t else if ty = -3 then (kth ks 1).t else ty
def refRule (op : Int) (ks : List KA) : KA × Int := if wantsI ks ks (wantL op).1 ≠ 0 then (⟨0, false⟩, wantsI ks ks (wantL op).1) else (⟨tyR (wantL op).2 ks, false⟩, 0)
/-- No kind where there is an error. -/
def zeroK (p : KA × Int) : KA × Int := if p.2 ≠ 0 then (⟨0, false⟩, p.2) else p
def okT (t : Int) : Prop := t = 1 ∨ t = 2 ∨ t = 3
theorem okT_fin {t : Int} (h : okT t) : ∃ i : Fin 3, t = (i.val : Int) + 1 := by
  rcases h with h | h | h
  · exact ⟨0, by simp [h]⟩
  · exact ⟨1, by simp [h]⟩
  · exact ⟨2, by simp [h]⟩
def one1 (op : Int) : Prop := ∀ (a : Fin 3) (oa : Bool), refRule op [⟨(a.val : Int) + 1, oa⟩] = zeroK (ruleP [] op [] [⟨(a.val : Int) + 1, oa⟩])
def two2 (op : Int) : Prop := ∀ (a : Fin 3) (oa : Bool) (b : Fin 3) (ob : Bool), refRule op [⟨(a.val : Int) + 1, oa⟩, ⟨(b.val : Int) + 1, ob⟩] = zeroK (ruleP [] op [] [⟨(a.val : Int) + 1, oa⟩, ⟨(b.val : Int) + 1, ob⟩])
def three3 (op : Int) : Prop := ∀ (a : Fin 3) (oa : Bool) (b : Fin 3) (ob : Bool) (c : Fin 3) (oc : Bool), refRule op [⟨(a.val : Int) + 1, oa⟩, ⟨(b.val : Int) + 1, ob⟩, ⟨(c.val : Int) + 1, oc⟩] = zeroK (ruleP [] op [] [⟨(a.val : Int) + 1, oa⟩, ⟨(b.val : Int) + 1, ob⟩, ⟨(c.val : Int) + 1, oc⟩])
instance (op : Int) : Decidable (one1 op) := by unfold one1; infer_instance
instance (op : Int) : Decidable (two2 op) := by unfold two2; infer_instance
instance (op : Int) : Decidable (three3 op) := by unfold three3; infer_instance
set_option maxRecDepth 100000 in
theorem ones : one1 7 ∧ one1 8 ∧ one1 23 := by decide
set_option maxRecDepth 100000 in
theorem twos : ∀ i : Fin 16, i.val ≠ 14 → two2 ((i.val : Int) + 9) := by decide
set_option maxRecDepth 100000 in
theorem threes : three3 25 := by decide
def RuleA.named : RuleA → Bool
  | .field => true
  | .has => true
  | _ => false
theorem rule_nofield (S : List FieldA) (op : Int) (s : Txt) (ks : List KA) (h1 : 7 ≤ op) (h2 : op ≤ 25) : ruleP S op s ks = ruleP [] op [] ks := by
  obtain ⟨m, rfl⟩ := Int.eq_ofNat_of_zero_le (show 0 ≤ op by omega)
  have h : ∀ i : Fin 26, 7 ≤ i.val → ((ruleL[i.val]?).join).map RuleA.named = some false := by decide
  have := h ⟨m, by omega⟩ (by show 7 ≤ m; omega)
  unfold ruleP
  simp only [Int.toNat_natCast]
  cases hr : (ruleL[m]?).join with
  | none => rfl
  | some r =>
    simp only [hr] at this
    cases r with
    | field => cases this
    | has => cases this
    | takes => rfl
    | compares => rfl
    | orElse => rfl
    | pick => rfl
theorem ref_rule (S : List FieldA) (op : Int) (s : Txt) (ks : List KA) (h1 : 7 ≤ op) (h2 : op ≤ 25) (hk : (ks.length : Int) = kidsB op) (hT : ∀ k ∈ ks, okT k.t) : refRule op ks = zeroK (ruleP S op s ks) := by
  rw [rule_nofield S op s ks h1 h2]
  unfold kidsB at hk
  rw [if_neg (by omega)] at hk
  by_cases hA : op = 7 ∨ op = 8 ∨ op = 23
  · rw [if_pos hA] at hk
    match ks, hk with
    | [a], _ =>
      obtain ⟨i, hi⟩ := okT_fin (hT a (by simp))
      obtain ⟨t, o⟩ := a
      subst hi
      rcases hA with rfl | rfl | rfl
      · exact ones.1 i o
      · exact ones.2.1 i o
      · exact ones.2.2 i o
    | [], hk => exact absurd hk (by simp)
    | _ :: _ :: _, hk => exact absurd hk (by simp; omega)
  rw [if_neg hA] at hk
  by_cases hB : op = 25
  · subst hB
    rw [if_neg (by omega), if_pos rfl] at hk
    match ks, hk with
    | [a, b, c], _ =>
      obtain ⟨i, hi⟩ := okT_fin (hT a (by simp))
      obtain ⟨j, hj⟩ := okT_fin (hT b (by simp))
      obtain ⟨k, hk⟩ := okT_fin (hT c (by simp))
      obtain ⟨t, o⟩ := a
      obtain ⟨t', o'⟩ := b
      obtain ⟨t'', o''⟩ := c
      subst hi hj hk
      exact threes i o j o' k o''
    | [], hk => exact absurd hk (by simp)
    | [_], hk => exact absurd hk (by simp)
    | [_, _], hk => exact absurd hk (by simp)
    | _ :: _ :: _ :: _ :: _, hk => exact absurd hk (by simp; omega)
  · rw [if_pos (by omega)] at hk
    match ks, hk with
    | [a, b], _ =>
      obtain ⟨i, hi⟩ := okT_fin (hT a (by simp))
      obtain ⟨j, hj⟩ := okT_fin (hT b (by simp))
      obtain ⟨t, o⟩ := a
      obtain ⟨t', o'⟩ := b
      subst hi hj
      obtain ⟨m, rfl⟩ := Int.eq_ofNat_of_zero_le (show 0 ≤ op by omega)
      have := twos ⟨m - 9, by omega⟩ (by show m - 9 ≠ 14; omega) i o j o'
      rw [show ((m - 9 : Nat) : Int) + 9 = (m : Int) by omega] at this
      exact this
    | [], hk => exact absurd hk (by simp)
    | [_], hk => exact absurd hk (by simp)
    | _ :: _ :: _ :: _, hk => exact absurd hk (by simp; omega)
/-- The kinds of what fits have types. -/
theorem wide_okT {t : Int} (h : 0 ≤ wideB t) : okT t := by
  unfold wideB at h
  unfold okT
  repeat' split at h
  all_goals omega
theorem field_okT {S : List FieldA} (h : schemaB S = true) {s : Txt} {f : FieldA} (hf : fieldOf S s = some f) : okT f.type := by
  have hm := List.mem_of_find?_eq_some hf
  have h3 : S.all fieldOK = true := by
    unfold schemaB at h
    simp only [Bool.and_eq_true] at h
    exact h.1.1.2
  have := List.all_eq_true.1 h3 f hm
  unfold fieldOK at this
  simp only [Bool.and_eq_true, decide_eq_true_eq] at this
  exact wide_okT this.2
end Go.Proofs.YtoempeobaknkcaaGreatDoor
namespace Go.Proofs.YtoempeobaknkcaaGreatDoor
open Go.RowKit Go.Maps

/-- A kind of the reference, as a value. -/
abbrev refV (p : KA × Int) : Value := .agg #[.int .i64 p.1.t, .bool p.1.o, .int .i64 p.2]

set_option maxRecDepth 100000 in
set_option maxHeartbeats 1000000 in
theorem refField_v (S : List FieldA) (sv : Value) (nm : Txt) (w : World) (h : FldsAt w sv S) (hl : S.length ≤ 8) :
    Calls Tryz.prog 64 #[.agg #[sv], str nm] w fun e w' => (∃ i : Int, e = .returned (.int .i64 i) ∧ ((fieldOf S nm = none ∧ i = -1) ∨ ∃ (k : Nat) (f : FieldA), S[k]? = some f ∧ fieldOf S nm = some f ∧ i = k)) ∧ Keeps (fun _ => False) w w' := by
  obtain ⟨ao, cap, rfl⟩ := RowAt.form h
  obtain ⟨HB, hxb, hxc⟩ := boxed w #[.slice ao S.length cap] 24
  have c0 := hxc 0 (.slice ao S.length cap) rfl
  have HF := hide (h.keepF (unhide HB))
  clear h hxc
  go_enter Tryz.func64, Tryz.ntmps64
  go_wp2_with fail
  go_loopw [5] (fun i wr => ∃ k : Nat, k ≤ S.length ∧ i = .int .i64 k ∧ Hid (fieldOf S nm = fieldOf (S.drop k) nm) ∧ wr = w.alloc (.cells #[.slice ao S.length cap] 24)) (fun i _ => S.length - (intOf i).toNat)
  case atStart => exact ⟨0, Nat.zero_le _, rfl, by simp [Hid], rfl⟩
  case round =>
    obtain ⟨k, hk, rfl, HS, rfl⟩ := hrel
    cases h : S[k]? with
    | none =>
      have h1 := get_ge h
      obtain rfl : k = S.length := by omega
      clear h h1
      rw [List.drop_length] at HS
      have i1 : ¬ (S.length : Int) < (S.length : Int) := by omega
      go_wp2_with fail
      go_ret
      exact ⟨⟨_, rfl, Or.inl ⟨unhide HS, rfl⟩⟩, unhide HB⟩
    | some f =>
      have h1 := get_lt h
      obtain ⟨b, off, c, e, hbl, hc⟩ := (unhide HF).cells (by omega)
      simp at e
      obtain ⟨rfl, rfl⟩ := e
      have q0 := (hc k f h).1
      have HO : Hid (fieldOf (S.drop k) nm = if f.name = nm then some f else fieldOf (S.drop (k + 1)) nm) := by
        obtain ⟨hk', hx⟩ := List.getElem?_eq_some_iff.1 h
        show _ = _
        rw [List.drop_eq_getElem_cons hk', hx]
        unfold fieldOf
        rw [List.find?_cons]
        by_cases hn : f.name = nm
        · simp [hn]
        · simp [hn]
      have HH := hide h
      clear h hc
      have i1 : (k : Int) < (S.length : Int) := by omega
      have i0 : (0 : Int) ≤ (k : Int) := by omega
      go_wp2
      case roundEnd =>
        rename_i hne
        have hne' : ¬ f.name = nm := by simpa using hne
        go_roundw
        case rel => exact ⟨k + 1, by omega, by go_num, (unhide HS).trans ((unhide HO).trans (if_neg hne')), by trivial⟩
        case measure => simp [intOf]; omega
      rename_i hne
      have hne' : f.name = nm := by simpa using hne
      go_ret
      exact ⟨⟨_, rfl, Or.inr ⟨k, f, unhide HH, (unhide HS).trans ((unhide HO).trans (if_pos hne')), rfl⟩⟩, unhide HB⟩
end Go.Proofs.YtoempeobaknkcaaGreatDoor
namespace Go.Proofs.YtoempeobaknkcaaGreatDoor
open Go.RowKit Go.Maps

theorem refField_none (S : List FieldA) (sv : Value) (nm : Txt) (w : World) (h : FldsAt w sv S) (hl : S.length ≤ 8) (hfo : fieldOf S nm = none) :
    Calls Tryz.prog 64 #[.agg #[sv], str nm] w fun e w' => e = .returned (.int .i64 (-1)) ∧ Keeps (fun _ => False) w w' :=
  (refField_v S sv nm w h hl).mono fun e w2 ⟨⟨i, he, hi⟩, hk⟩ => by
    rcases hi with ⟨_, rfl⟩ | ⟨_, _, _, h2, _⟩
    · exact ⟨he, hk⟩
    · rw [hfo] at h2; cases h2
theorem refField_some (S : List FieldA) (sv : Value) (nm : Txt) (w : World) (h : FldsAt w sv S) (hl : S.length ≤ 8) (f : FieldA) (hfo : fieldOf S nm = some f) :
    Calls Tryz.prog 64 #[.agg #[sv], str nm] w fun e w' => (∃ k : Nat, S[k]? = some f ∧ e = .returned (.int .i64 (k : Int))) ∧ Keeps (fun _ => False) w w' :=
  (refField_v S sv nm w h hl).mono fun e w2 ⟨⟨i, he, hi⟩, hk⟩ => by
    rcases hi with ⟨h2, _⟩ | ⟨k, g, h1, h2, rfl⟩
    · rw [hfo] at h2; cases h2
    · rw [hfo] at h2
      obtain rfl := Option.some.inj h2
      exact ⟨⟨k, h1, he⟩, hk⟩
/-- What the reference says of a field, or of has. -/
def refNamed (S : List FieldA) (op : Int) (s : Txt) : KA × Int := zeroK (if op = 4 then namedK S s else hasK S s)
set_option maxRecDepth 100000 in
set_option maxHeartbeats 2000000 in
theorem refF_v (S : List FieldA) (sv : Value) (op n : Int) (s : Txt) (ao : Option Addr) (xn xc : Nat) (w : World) (h : FldsAt w sv S) (hl : S.length ≤ 8) :
    Calls Tryz.prog 88 #[.agg #[sv], exV op n s (.slice ao xn xc)] w fun e w' => e = .returned (refV (refNamed S op s)) ∧ Keeps (fun _ => False) w w' := by
  obtain ⟨so, sc, rfl⟩ := RowAt.form h
  have HK0 : Hid (Keeps (fun _ => False) w (((w.alloc (.cells #[.slice so S.length sc] 24)).alloc (.cells #[.int .i64 op, .int .i64 n, str s, .slice ao xn xc] 57)).alloc (.cells #[.int .i64 0, .bool false, .int .i64 0] 111))) := (((Keeps.refl _ w).alloc _).alloc _).alloc _
  have e1 : (w.alloc (.cells #[.slice so S.length sc] 24)).heap.size = w.heap.size + 1 := by simp
  have e2 : ((w.alloc (.cells #[.slice so S.length sc] 24)).alloc (.cells #[.int .i64 op, .int .i64 n, str s, .slice ao xn xc] 57)).heap.size = w.heap.size + 2 := by simp
  have hb0 : (((w.alloc (.cells #[.slice so S.length sc] 24)).alloc (.cells #[.int .i64 op, .int .i64 n, str s, .slice ao xn xc] 57)).alloc (.cells #[.int .i64 0, .bool false, .int .i64 0] 111)).heap[w.heap.size]? = some (.cells #[.slice so S.length sc] 24 (0, 0)) := ((((Keeps.refl (fun _ => False) _).alloc _).alloc _).block _ (by rw [e1]; omega) id).trans (heap_alloc_new w _)
  have hb1 : (((w.alloc (.cells #[.slice so S.length sc] 24)).alloc (.cells #[.int .i64 op, .int .i64 n, str s, .slice ao xn xc] 57)).alloc (.cells #[.int .i64 0, .bool false, .int .i64 0] 111)).heap[w.heap.size + 1]? = some (.cells #[.int .i64 op, .int .i64 n, str s, .slice ao xn xc] 57 (0, 0)) := by
    have := heap_alloc_new (w.alloc (.cells #[.slice so S.length sc] 24)) (.cells #[.int .i64 op, .int .i64 n, str s, .slice ao xn xc] 57)
    rw [e1] at this
    exact (((Keeps.refl (fun _ => False) _).alloc _).block _ (by rw [e2]; omega) id).trans this
  have hb2 : (((w.alloc (.cells #[.slice so S.length sc] 24)).alloc (.cells #[.int .i64 op, .int .i64 n, str s, .slice ao xn xc] 57)).alloc (.cells #[.int .i64 0, .bool false, .int .i64 0] 111)).heap[w.heap.size + 2]? = some (.cells #[.int .i64 0, .bool false, .int .i64 0] 111 (0, 0)) := by
    have := heap_alloc_new ((w.alloc (.cells #[.slice so S.length sc] 24)).alloc (.cells #[.int .i64 op, .int .i64 n, str s, .slice ao xn xc] 57)) (.cells #[.int .i64 0, .bool false, .int .i64 0] 111)
    rw [e2] at this
    exact this
  have HC := fun w' (hk : Keeps (fun _ => False) w w') => hide (refField_v S (.slice so S.length sc) s w' (h.keepF hk) hl)
  have HF := hide h
  have B0 := hide hb0
  have B1 := hide hb1
  have B2 := hide hb2
  clear h hb0 hb1 hb2 e1 e2
  have done : ∀ (w1 w2 : World) (x : Array Value), Keeps (fun _ => False) w w1 → w1.heap[w.heap.size + 2]? = some (.cells x 111 (0, 0)) → x.size = 3 → ∀ (p q r : Value), let w3 := ((w1.setCell ⟨w.heap.size + 2, 0, none⟩ p).setCell ⟨w.heap.size + 2, 1, none⟩ q).setCell ⟨w.heap.size + 2, 2, none⟩ r
      w3.cell? ⟨w.heap.size + 2, 0, none⟩ = some p ∧ w3.cell? ⟨w.heap.size + 2, 1, none⟩ = some q ∧ w3.cell? ⟨w.heap.size + 2, 2, none⟩ = some r ∧ Keeps (fun _ => False) w w3 := by
    intro w1 _ x hk hx hs p q r w3
    have hb := heap_setCell_at (o := 2) (heap_setCell_at (o := 1) (heap_setCell_at (o := 0) hx p) q) r
    have hks : Keeps (fun t => t = w.heap.size + 2) w1 w3 := ((keeps_set _ _ _ _).trans (keeps_set _ _ _ _)).trans (keeps_set _ _ _ _)
    refine ⟨?_, ?_, ?_, hk.narrow hks (fun t e => by omega)⟩
    all_goals (rw [cell_of_blk hb]; simp [hs])
  have HD := hide done
  clear done
  cases hfo : fieldOf S s with
  | none =>
    have HR : Hid (refNamed S op s = (⟨0, false⟩, 90)) := by
      show _ = _
      unfold refNamed hasK namedK
      rw [hfo]
      split <;> rfl
    have HC1 := fun w' (hk : Keeps (fun _ => False) w w') => hide (refField_none S (.slice so S.length sc) s w' ((unhide HF).keepF hk) hl hfo)
    clear HC hfo
    go_enter Tryz.func88, Tryz.ntmps88
    go_wp2_with (go_at_call 64; refine (unhide (HC1 _ (unhide HK0))).mono ?_; rintro e w1 ⟨rfl, hk1⟩; have k0 := (hk1.block _ (lt_of_block (unhide B0)) id).trans (unhide B0); have k1 := (hk1.block _ (lt_of_block (unhide B1)) id).trans (unhide B1); have k2 := (hk1.block _ (lt_of_block (unhide B2)) id).trans (unhide B2); have p0 := cell_of_blk k0 0; have p1 := cell_of_blk k1 0; have m0 := cell_of_blk k2 0; have m1 := cell_of_blk k2 1; have m2 := cell_of_blk k2 2; simp at p0 p1 m0 m1 m2; have g0 := frozen_of_blk k2 0; have g1 := frozen_of_blk k2 1; have g2 := frozen_of_blk k2 2; have HK1 := hide ((unhide HK0).trans hk1); have K2 := hide k2; clear hk1 k0 k1 k2)
    obtain ⟨s0, s1, s2, hkf⟩ := unhide HD _ w1 _ (unhide HK1) (unhide K2) rfl (.int .i64 0) (.bool false) (.int .i64 90)
    refine bodyPost_ret (v := refV (⟨0, false⟩, 90)) (by simp [results, go_sem, s0, s1, s2]) rfl ?_
    exact ⟨by rw [unhide HR], hkf⟩
  | some f =>
    obtain ⟨fname, ftype, fopt⟩ := f
    have hpos : 0 < S.length := List.length_pos_of_mem (List.mem_of_find?_eq_some hfo)
    obtain ⟨b, off, c, e, hbl, hc⟩ := (unhide HF).cells hpos
    simp at e
    obtain ⟨rfl, rfl⟩ := e
    have HCC := hide hc
    clear hc
    have HC1 := fun w' (hk : Keeps (fun _ => False) w w') => hide (refField_some S _ s w' ((unhide HF).keepF hk) hl ⟨fname, ftype, fopt⟩ hfo)
    clear HC
    by_cases h4 : op = 4
    · have HR : Hid (refNamed S op s = (⟨ftype, fopt⟩, 0)) := by
        show _ = _
        unfold refNamed namedK
        rw [if_pos h4, hfo]
        rfl
      subst h4
      clear hfo
      go_enter Tryz.func88, Tryz.ntmps88
      go_wp2_with (go_at_call 64; refine (unhide (HC1 _ (unhide HK0))).mono ?_; rintro e w1 ⟨⟨k, hkf, rfl⟩, hk1⟩; have hkl := (List.getElem?_eq_some_iff.1 hkf).1; have i1 : (k : Int) < (S.length : Int) := (by omega); have i0 : (0 : Int) ≤ (k : Int) := (by omega); have i2 : ¬ (k : Int) < 0 := (by omega); have hkw := (unhide HK0).trans hk1; have f0 := (hkw.cell hbl id).trans (unhide HCC k _ hkf).1; have f1 := (hkw.cell hbl id).trans (unhide HCC k _ hkf).2.1; have f2 := (hkw.cell hbl id).trans (unhide HCC k _ hkf).2.2; have k0 := (hk1.block _ (lt_of_block (unhide B0)) id).trans (unhide B0); have p0 : World.cell? _ _ = some (Value.slice (some ⟨b, off, none⟩) S.length sc) := cell_of_blk k0 0; have ka := hk1.trans ((Keeps.refl (fun _ => False) w1).alloc (.cells #[str fname, .int .i64 ftype, .bool fopt] 67)); have k2 := (ka.block _ (lt_of_block (unhide B2)) id).trans (unhide B2); have k1 := (ka.block _ (lt_of_block (unhide B1)) id).trans (unhide B1); have p1 : World.cell? _ _ = some (Value.int .i64 4) := cell_of_blk k1 0; have m0 : World.cell? _ _ = some (Value.int .i64 0) := cell_of_blk k2 0; have m1 : World.cell? _ _ = some (Value.bool false) := cell_of_blk k2 1; have m2 : World.cell? _ _ = some (Value.int .i64 0) := cell_of_blk k2 2; have g0 := frozen_of_blk k2 0; have g1 := frozen_of_blk k2 1; have g2 := frozen_of_blk k2 2; have HK1 := hide ((unhide HK0).trans ka); have K2 := hide k2; clear hk1 k0 k1 k2 ka hkf hkw)
      obtain ⟨s0, s1, s2, hkf⟩ := unhide HD _ w1 _ (unhide HK1) (unhide K2) rfl (.int .i64 ftype) (.bool fopt) (.int .i64 0)
      refine bodyPost_ret (v := refV (⟨ftype, fopt⟩, 0)) (by simp [results, go_sem, s0, s1, s2]) rfl ?_
      exact ⟨by rw [unhide HR], hkf⟩
    · have d4 : (op == 4) = false := by simpa using h4
      cases fopt with
      | false =>
        have HR : Hid (refNamed S op s = (⟨0, false⟩, 92)) := by
          show _ = _
          unfold refNamed hasK namedK
          rw [if_neg h4, hfo]
          simp [zeroK, orI, optI]
        clear hfo h4
        go_enter Tryz.func88, Tryz.ntmps88
        go_wp2_with (go_at_call 64; refine (unhide (HC1 _ (unhide HK0))).mono ?_; rintro e w1 ⟨⟨k, hkf, rfl⟩, hk1⟩; have hkl := (List.getElem?_eq_some_iff.1 hkf).1; have i1 : (k : Int) < (S.length : Int) := (by omega); have i0 : (0 : Int) ≤ (k : Int) := (by omega); have i2 : ¬ (k : Int) < 0 := (by omega); have hkw := (unhide HK0).trans hk1; have f0 := (hkw.cell hbl id).trans (unhide HCC k _ hkf).1; have f1 := (hkw.cell hbl id).trans (unhide HCC k _ hkf).2.1; have f2 := (hkw.cell hbl id).trans (unhide HCC k _ hkf).2.2; have k0 := (hk1.block _ (lt_of_block (unhide B0)) id).trans (unhide B0); have p0 : World.cell? _ _ = some (Value.slice (some ⟨b, off, none⟩) S.length sc) := cell_of_blk k0 0; have ka := hk1.trans ((Keeps.refl (fun _ => False) w1).alloc (.cells #[str fname, .int .i64 ftype, .bool false] 67)); have k2 := (ka.block _ (lt_of_block (unhide B2)) id).trans (unhide B2); have k1 := (ka.block _ (lt_of_block (unhide B1)) id).trans (unhide B1); have p1 : World.cell? _ _ = some (Value.int .i64 op) := cell_of_blk k1 0; have m0 : World.cell? _ _ = some (Value.int .i64 0) := cell_of_blk k2 0; have m1 : World.cell? _ _ = some (Value.bool false) := cell_of_blk k2 1; have m2 : World.cell? _ _ = some (Value.int .i64 0) := cell_of_blk k2 2; have g0 := frozen_of_blk k2 0; have g1 := frozen_of_blk k2 1; have g2 := frozen_of_blk k2 2; have HK1 := hide ((unhide HK0).trans ka); have K2 := hide k2; clear hk1 k0 k1 k2 ka hkf hkw)
        obtain ⟨s0, s1, s2, hkf⟩ := unhide HD _ w1 _ (unhide HK1) (unhide K2) rfl (.int .i64 0) (.bool false) (.int .i64 92)
        refine bodyPost_ret (v := refV (⟨0, false⟩, 92)) (by simp [results, go_sem, s0, s1, s2]) rfl ?_
        exact ⟨by rw [unhide HR], hkf⟩
      | true =>
        have HR : Hid (refNamed S op s = (⟨2, false⟩, 0)) := by
          show _ = _
          unfold refNamed hasK namedK
          rw [if_neg h4, hfo]
          simp [zeroK, orI, optI]
        clear hfo h4
        go_enter Tryz.func88, Tryz.ntmps88
        go_wp2_with (go_at_call 64; refine (unhide (HC1 _ (unhide HK0))).mono ?_; rintro e w1 ⟨⟨k, hkf, rfl⟩, hk1⟩; have hkl := (List.getElem?_eq_some_iff.1 hkf).1; have i1 : (k : Int) < (S.length : Int) := (by omega); have i0 : (0 : Int) ≤ (k : Int) := (by omega); have i2 : ¬ (k : Int) < 0 := (by omega); have hkw := (unhide HK0).trans hk1; have f0 := (hkw.cell hbl id).trans (unhide HCC k _ hkf).1; have f1 := (hkw.cell hbl id).trans (unhide HCC k _ hkf).2.1; have f2 := (hkw.cell hbl id).trans (unhide HCC k _ hkf).2.2; have k0 := (hk1.block _ (lt_of_block (unhide B0)) id).trans (unhide B0); have p0 : World.cell? _ _ = some (Value.slice (some ⟨b, off, none⟩) S.length sc) := cell_of_blk k0 0; have ka := hk1.trans ((Keeps.refl (fun _ => False) w1).alloc (.cells #[str fname, .int .i64 ftype, .bool true] 67)); have k2 := (ka.block _ (lt_of_block (unhide B2)) id).trans (unhide B2); have k1 := (ka.block _ (lt_of_block (unhide B1)) id).trans (unhide B1); have p1 : World.cell? _ _ = some (Value.int .i64 op) := cell_of_blk k1 0; have m0 : World.cell? _ _ = some (Value.int .i64 0) := cell_of_blk k2 0; have m1 : World.cell? _ _ = some (Value.bool false) := cell_of_blk k2 1; have m2 : World.cell? _ _ = some (Value.int .i64 0) := cell_of_blk k2 2; have g0 := frozen_of_blk k2 0; have g1 := frozen_of_blk k2 1; have g2 := frozen_of_blk k2 2; have HK1 := hide ((unhide HK0).trans ka); have K2 := hide k2; clear hk1 k0 k1 k2 ka hkf hkw)
        obtain ⟨s0, s1, s2, hkf⟩ := unhide HD _ w1 _ (unhide HK1) (unhide K2) rfl (.int .i64 2) (.bool false) (.int .i64 0)
        refine bodyPost_ret (v := refV (⟨2, false⟩, 0)) (by simp [results, go_sem, s0, s1, s2]) rfl ?_
        exact ⟨by rw [unhide HR], hkf⟩
end Go.Proofs.YtoempeobaknkcaaGreatDoor
namespace Go.Proofs.YtoempeobaknkcaaGreatDoor
open Go.RowKit Go.Maps

def wcs (l : List (Int × Bool)) : List Value := l.flatMap fun p => [.int .i64 p.1, .bool p.2]
theorem wcs_get : ∀ (l : List (Int × Bool)) (i : Nat) (x : Int × Bool) (j : Nat), l[i]? = some x → j < 2 → (wcs l)[i * 2 + j]? = [Value.int .i64 x.1, .bool x.2][j]?
  | [], i, x, j, h, _ => by simp at h
  | y :: r, 0, x, j, h, hj => by
    simp at h; subst h
    have : j < [Value.int .i64 y.1, .bool y.2].length := hj
    show (([Value.int .i64 y.1, .bool y.2] ++ wcs r))[0 * 2 + j]? = _
    rw [Nat.zero_mul, Nat.zero_add, List.getElem?_append_left this]
  | y :: r, i + 1, x, j, h, hj => by
    have ih := wcs_get r i x j (by simpa using h) hj
    show (([Value.int .i64 y.1, .bool y.2] ++ wcs r))[(i + 1) * 2 + j]? = _
    rw [List.getElem?_append_right (by simp; omega), ← ih]
    congr 1
    simp; omega
/-- What a rule asks, in a slice. -/
def WAt (w : World) (v : Value) (l : List (Int × Bool)) : Prop := RowAt w v l.length (wcs l)
theorem WAt.keepF {w w' : World} {v : Value} {l : List (Int × Bool)} (h : WAt w v l) (hk : Keeps (fun _ => False) w w') : WAt w' v l := RowAt.keepF h hk
theorem WAt.cells {w : World} {v : Value} {l : List (Int × Bool)} (h : WAt w v l) (h0 : 0 < l.length) :
    ∃ b off cap, v = .slice (some ⟨b, off, none⟩) l.length cap ∧ b < w.heap.size ∧ ∀ i f, l[i]? = some f → w.cell? ⟨b, off + i * 2, none⟩ = some (.int .i64 f.1) ∧ w.cell? ⟨b, off + i * 2 + 1, none⟩ = some (.bool f.2) := by
  obtain ⟨b, off, cap, e, hb, hc⟩ := RowAt.cells h h0
  refine ⟨b, off, cap, e, hb, fun i f hf => ⟨?_, ?_⟩⟩
  · exact hc (i * 2) _ (by have := wcs_get l i f 0 hf (by omega); simpa using this)
  · have := hc (i * 2 + 1) (.bool f.2) (by have := wcs_get l i f 1 hf (by omega); simpa using this)
    rw [show off + i * 2 + 1 = off + (i * 2 + 1) by omega]
    exact this
theorem wants_new (X : World) (l : List (Int × Bool)) (H : Nat) (hH : X.heap.size = H) : WAt (X.alloc (.cells (wcs l).toArray 128)) (.slice (some ⟨H, 0, none⟩) l.length l.length) l := by
  subst hH
  refine ⟨⟨_, _, rfl⟩, fun _ => ⟨_, 0, _, rfl, by simp, fun j x hx => ?_⟩, fun ao m cap e => by simp at e; omega⟩
  rw [cell_of_blk (heap_alloc_new X _)]
  simpa using hx
def rcs (l : List KA) : List Value := l.flatMap fun k => [.int .i64 k.t, .bool k.o, .int .i64 0]
/-- Kinds of the reference in a slice. -/
def RksAt (w : World) (v : Value) (l : List KA) : Prop := RowAt w v l.length (rcs l)
theorem RksAt.keepF {w w' : World} {v : Value} {l : List KA} (h : RksAt w v l) (hk : Keeps (fun _ => False) w w') : RksAt w' v l := RowAt.keepF h hk
theorem RksAt.cells {w : World} {v : Value} {l : List KA} (h : RksAt w v l) (h0 : 0 < l.length) :
    ∃ b off cap, v = .slice (some ⟨b, off, none⟩) l.length cap ∧ b < w.heap.size ∧ ∀ i f, l[i]? = some f → w.cell? ⟨b, off + i * 3, none⟩ = some (.int .i64 f.t) ∧ w.cell? ⟨b, off + i * 3 + 1, none⟩ = some (.bool f.o) := by
  obtain ⟨b, off, cap, e, hb, hc⟩ := RowAt.cells h h0
  refine ⟨b, off, cap, e, hb, fun i f hf => ⟨?_, ?_⟩⟩
  · exact hc (i * 3) _ (by have := flat_get (fun k : KA => [Value.int .i64 k.t, .bool k.o, .int .i64 0]) (fun _ => rfl) l i f 0 hf (by omega); simpa [rcs] using this)
  · have := hc (i * 3 + 1) (.bool f.o) (by have := flat_get (fun k : KA => [Value.int .i64 k.t, .bool k.o, .int .i64 0]) (fun _ => rfl) l i f 1 hf (by omega); simpa [rcs] using this)
    rw [show off + i * 3 + 1 = off + (i * 3 + 1) by omega]
    exact this
set_option maxRecDepth 100000 in
set_option maxHeartbeats 1000000 in
theorem asked_v (q t : Int) (ks : List KA) (v : Value) (w : World) (h : RksAt w v ks) (h2 : q = -2 → 0 < ks.length) (h3 : q = -3 → 1 < ks.length) :
    Calls Tryz.prog 90 #[.int .i64 q, .int .i64 t, v] w fun e w' => e = .returned (.bool (askedB q t ks)) ∧ w' = w := by
  unfold askedB
  by_cases q0 : q = 0
  · rw [if_pos q0]
    subst q0
    obtain ⟨ko, kc, rfl⟩ := RowAt.form h
    go_enter Tryz.func90, Tryz.ntmps90
    go_wp2_with fail
    go_ret
    exact ⟨rfl, rfl⟩
  rw [if_neg q0]
  have d0 : (q == 0) = false := by simpa using q0
  by_cases q1 : q = -1
  · rw [if_pos q1]
    subst q1
    obtain ⟨ko, kc, rfl⟩ := RowAt.form h
    clear h2 h3 d0 q0
    by_cases t1 : t = 1
    · subst t1
      go_enter Tryz.func90, Tryz.ntmps90
      go_wp2_with fail
      go_ret
      exact ⟨rfl, rfl⟩
    · have e1 : (t == 1) = false := by simpa using t1
      rw [decide_eq_false t1, Bool.false_or]
      clear t1
      go_enter Tryz.func90, Tryz.ntmps90
      go_wp2_with fail
      go_ret
      exact ⟨ret_bool (by first | rfl | simp), rfl⟩
  rw [if_neg q1]
  have d1 : (q == -1) = false := by simpa using q1
  by_cases q2 : q = -2
  · rw [if_pos q2]
    obtain ⟨b, off, c, rfl, hb, hc⟩ := h.cells (h2 q2)
    have hl := h2 q2
    obtain ⟨k0, hk0⟩ : ∃ k, ks[0]? = some k := ⟨_, List.getElem?_eq_getElem hl⟩
    have c0 := (hc 0 k0 hk0).1
    have e0 : kth ks 0 = k0 := by simp [kth, List.getD, hk0]
    rw [e0]
    simp only [Nat.zero_mul, Nat.add_zero] at c0
    have i1 : (0 : Int) < (ks.length : Int) := by omega
    subst q2
    clear h2 h3 d0 d1 q0 q1 hc h hk0 e0
    go_enter Tryz.func90, Tryz.ntmps90
    go_wp2_with fail
    go_ret
    exact ⟨ret_bool (by first | rfl | simp), rfl⟩
  rw [if_neg q2]
  have d2 : (q == -2) = false := by simpa using q2
  by_cases q3 : q = -3
  · rw [if_pos q3]
    have hl := h3 q3
    obtain ⟨b, off, c, rfl, hb, hc⟩ := h.cells (by omega)
    obtain ⟨k0, hk0⟩ : ∃ k, ks[1]? = some k := ⟨_, List.getElem?_eq_getElem hl⟩
    have c0 := (hc 1 k0 hk0).1
    have e0 : kth ks 1 = k0 := by simp [kth, List.getD, hk0]
    rw [e0]
    simp only [Nat.one_mul] at c0
    have i1 : (1 : Int) < (ks.length : Int) := by omega
    subst q3
    clear h2 h3 d0 d1 d2 q0 q1 q2 hc h hk0 e0
    go_enter Tryz.func90, Tryz.ntmps90
    go_wp2_with fail
    go_ret
    exact ⟨ret_bool (by first | rfl | simp), rfl⟩
  rw [if_neg q3]
  have d3 : (q == -3) = false := by simpa using q3
  obtain ⟨ko, kc, rfl⟩ := RowAt.form h
  clear h2 h3 q0 q1 q2 q3 h
  go_enter Tryz.func90, Tryz.ntmps90
  go_wp2_with fail
  go_ret
  exact ⟨ret_bool (by first | rfl | simp), rfl⟩
end Go.Proofs.YtoempeobaknkcaaGreatDoor
