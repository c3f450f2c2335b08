import Derived.Test.YtonodcmbbgpjjaaDoorJf
import Derived.Test.YtonodcmbbgpjjaaDoorJb
import Derived.Test.YtonodcmbbgpjjaaDoorJc
import Derived.Test.YtonodcmbbgpjjaaDoorJq
namespace Go.Proofs.YtonodcmbbgpjjaaDoor
open Go.RowKit Go.Maps

theorem vcs_setk {R Z : List ValA} {t : Int} : (vcs (R ++ zeroVal :: Z)).toArray.setIfInBounds (R.length * 3) (.int .i64 t) = (vcs (R ++ ⟨t, 0, []⟩ :: Z)).toArray := by
  have hv : ∀ y : ValA, vcs (R ++ y :: Z) = vcs R ++ (y.cs ++ vcs Z) := fun y => by simp [vcs]
  have hl := vcs_length R
  rw [hv, hv, ← hl]
  apply Array.ext'
  simp [ValA.cs, zeroVal]
def zeroTo (l : List FieldA) (k : Nat) : List ValA := zeros (l.take k) ++ List.replicate (l.length - k) zeroVal
theorem zeroTo_zero (l : List FieldA) : zeroTo l 0 = List.replicate l.length zeroVal := by simp [zeroTo, zeros]
theorem zeroTo_full (l : List FieldA) : zeroTo l l.length = zeros l := by simp [zeroTo]
theorem zeroTo_at {l : List FieldA} {k : Nat} {f : FieldA} (h : l[k]? = some f) : zeroTo l k = zeros (l.take k) ++ zeroVal :: List.replicate (l.length - (k + 1)) zeroVal ∧ zeroTo l (k + 1) = zeros (l.take k) ++ zeroV f :: List.replicate (l.length - (k + 1)) zeroVal := by
  have hl := get_lt h
  unfold zeroTo
  constructor
  · rw [show l.length - k = (l.length - (k + 1)) + 1 by omega, List.replicate_succ]
  · rw [take_snoc _ _ _ h, zeros_snoc, List.append_assoc]
    rfl
theorem zeros_take_len {l : List FieldA} {k : Nat} (h : k ≤ l.length) : (zeros (l.take k)).length = k := by rw [zeros_length, List.length_take, Nat.min_eq_left h]

set_option maxRecDepth 100000 in
set_option maxHeartbeats 2000000 in
theorem zero_v (l : List FieldA) (v : Value) (w : World) (h : FldsAt w v l) (hl8 : l.length ≤ 8) :
    Calls Tryd.prog 97 #[.agg #[v]] w fun e w' => ∃ g, e = .returned (.slice (some ⟨g, 0, none⟩) l.length l.length) ∧ w.heap.size ≤ g ∧ w'.heap[g]? = some (.cells (vcs (zeros l)).toArray 67 (0, 0)) ∧ Keeps (fun _ => False) w w' := by
  obtain ⟨ao, cap, rfl⟩ := RowAt.form h
  obtain ⟨HB, hb, hbc⟩ := boxed w #[.slice ao l.length cap] 24
  have hp := hbc 0 (.slice ao l.length cap) rfl
  have HF := hide (h.keepF (unhide HB))
  clear hbc h
  have hmk := run_mkv l.length (by omega) (w.alloc (.cells #[.slice ao l.length cap] 24))
  have HG := hide (heap_alloc_new (w.alloc (.cells #[.slice ao l.length cap] 24)) (.cells (vcs (List.replicate l.length zeroVal)).toArray 67))
  have HA : Hid (Keeps (fun q => w.heap.size + 1 ≤ q) (w.alloc (.cells #[.slice ao l.length cap] 24)) ((w.alloc (.cells #[.slice ao l.length cap] 24)).alloc (.cells (vcs (List.replicate l.length zeroVal)).toArray 67))) := (Keeps.refl _ _).alloc _
  have hS3 : (w.alloc (.cells #[.slice ao l.length cap] 24)).heap.size = w.heap.size + 1 := by simp
  have hS4 : w.heap.size + 1 < ((w.alloc (.cells #[.slice ao l.length cap] 24)).alloc (.cells (vcs (List.replicate l.length zeroVal)).toArray 67)).heap.size := by simp
  have hp4 := ((unhide HA).cell (o := 0) hb (by omega)).trans hp
  rw [hS3] at hmk HG
  have HS3 := hide hS3
  clear hS3
  go_enter Tryd.func97, Tryd.ntmps97
  go_wp2_with fail
  generalize (w.alloc (.cells #[.slice ao l.length cap] 24)).alloc (.cells (vcs (List.replicate l.length zeroVal)).toArray 67) = w4 at *
  generalize w.alloc (.cells #[.slice ao l.length cap] 24) = w3 at *
  clear hmk
  go_loopw [13] (fun i wr => ∃ (k : Nat), k ≤ l.length ∧ i = .int .i64 k ∧ Hid (wr.heap[w.heap.size + 1]? = some (.cells (vcs (zeroTo l k)).toArray 67 (0, 0))) ∧ Keeps (fun q => w.heap.size + 1 ≤ q) w4 wr) (fun i _ => l.length - (intOf i).toNat)
  case atStart => exact ⟨0, Nat.zero_le _, rfl, by show _ = _; rw [zeroTo_zero]; exact unhide HG, Keeps.refl _ _⟩
  case round =>
    obtain ⟨k, hk, rfl, HBk, hkp⟩ := hrel
    have HK := hide ((unhide HA).trans hkp)
    have HKP := hide hkp
    have hS5 : w.heap.size + 1 < wr.heap.size := Nat.lt_of_lt_of_le hS4 hkp.size
    clear hkp
    by_cases hlt : k < l.length
    · obtain ⟨f, hf⟩ : ∃ f, l[k]? = some f := ⟨_, List.getElem?_eq_getElem hlt⟩
      obtain ⟨b5, off5, c5, e5, hbl, hc⟩ := (unhide HF).cells (by omega)
      have hbl2 : ¬ w.heap.size + 1 ≤ b5 := by have := unhide HS3; omega
      simp at e5
      obtain ⟨rfl, rfl⟩ := e5
      have c0 := ((unhide HK).cell hbl hbl2).trans (hc k f hf).1
      have c1 := ((unhide HK).cell hbl hbl2).trans (hc k f hf).2.1
      have c2 := ((unhide HK).cell hbl hbl2).trans (hc k f hf).2.2
      have HZ := hide (zeroTo_at hf)
      have HKN := hide ((unhide HKP).alloc (.cells #[str f.name, .int .i64 f.type, .bool f.opt] 65))
      have HBN : (wr.alloc (.cells #[str f.name, .int .i64 f.type, .bool f.opt] 65)).heap[w.heap.size + 1]? = some (.cells (vcs (zeros (l.take k) ++ zeroVal :: List.replicate (l.length - (k + 1)) zeroVal)).toArray 67 (0, 0)) := by
        rw [← (unhide HZ).1]
        exact (Below.heap_alloc _ _ _ hS5).trans (unhide HBk)
      have HRL := hide (zeros_take_len hk)
      obtain ⟨d0, d1, d2, g0, g1, g2⟩ := cells3 HBN (unhide HRL)
      have HN := hide HBN
      have i5 : (k : Int) < (l.length : Int) := by omega
      have s0 : w.heap.size + 1 < (wr.alloc (.cells #[str f.name, .int .i64 f.type, .bool f.opt] 65)).heap.size := lt_of_block HBN
      clear hc hf HBN
      cases hfo : f.opt with
      | true =>
        rw [hfo] at c2 HKN HN d0 d1 d2 g0 g1 g2 s0
        have HE : Hid (zeroV f = zeroVal) := by show _ = _; unfold zeroV; rw [if_pos hfo]; rfl
        go_wp2_with fail
        go_roundw
        case rel => exact ⟨k + 1, by omega, by go_num, by show _ = _; rw [(unhide HZ).2, unhide HE]; exact unhide HN, unhide HKN⟩
        case measure => simp [intOf]; omega
      | false =>
        rw [hfo] at c2 HKN HN d0 d1 d2 g0 g1 g2 s0
        have HE : Hid (zeroV f = ⟨f.type, 0, []⟩) := by show _ = _; unfold zeroV; rw [if_neg (by simp [hfo])]
        go_wp2_with fail
        go_roundw
        case rel =>
          refine ⟨k + 1, by omega, by go_num, ?_, ((unhide HKP).then (keeps_set _ _ _ _) (fun i _ e => by omega)).alloc _⟩
          show _ = _
          rw [(unhide HZ).2, unhide HE, ← vcs_setk, unhide HRL, Below.heap_alloc _ _ _ (by simpa using hS5), ← (unhide HZ).1]
          exact heap_setCell_at (unhide HBk) _
        case measure => simp [intOf]; omega
    · obtain rfl : k = l.length := by omega
      go_wp2_with fail
      go_ret
      refine ⟨_, rfl, by omega, ?_, (unhide HB).narrow (F := fun q => w.heap.size + 1 ≤ q) (unhide HK) (fun q hq => by omega)⟩
      have := unhide HBk
      rw [zeroTo_full] at this
      exact this

set_option maxRecDepth 100000 in
theorem val_zero (l : List FieldA) (v : Value) (w : World) (hT : Types w) (h : FldsAt w v l) :
    Calls Tryd.prog 87 #[.agg #[v]] w fun e w' => ∃ v', e = .returned v' ∧ w'.ownsRow w.heap.size 67 3 v' (zeroB l).length (vcs (zeroB l)) ∧ Keeps (fun _ => False) w w' := by
  obtain ⟨ao, cap, rfl⟩ := RowAt.form h
  obtain ⟨HB, hb, hbc⟩ := boxed w #[.slice ao l.length cap] 24
  have hp := hbc 0 (.slice ao l.length cap) rfl
  have HF := hide (h.keepF (unhide HB))
  have HS := hide (checkSchema_v l _ _ (hT.keepF (unhide HB)) (unhide HF))
  clear hbc h hT
  go_enter Tryd.func87, Tryd.ntmps87
  go_wp2_with fail
  refine (unhide HS).mono ?_
  rintro e w2 ⟨rfl, hk2⟩
  have hp2 := (hk2.cell (o := 0) hb id).trans hp
  have HF2 := hide ((unhide HF).keepF hk2)
  have HB2 := hide ((unhide HB).trans hk2)
  clear HS HF HB hk2 hp
  rcases errS_eq l with ⟨hs, he⟩ | ⟨hs, he⟩
  · rw [he]
    have HZ : Hid (zeroB l = zeros l) := by show _ = _; simp [zeroB, hs]
    have HQ := hide (zero_v l _ _ (unhide HF2) (schemaB_len hs).2)
    have hl8 := (schemaB_len hs).2
    clear hs he
    go_wp2_with fail
    refine (unhide HQ).mono ?_
    rintro e w4 ⟨g, rfl, hg, hblk, hk4⟩
    have HG := hide hg
    have HBL := hide hblk
    have HK4 := hide hk4
    clear hg hblk hk4 HQ
    go_wp2_with fail
    go_ret
    refine ⟨_, rfl, ?_, (unhide HB2).trans (unhide HK4)⟩
    rw [unhide HZ]
    exact owns_vals (Nat.le_trans (unhide HB2).size (unhide HG)) (by omega) (zeros_length l) (unhide HBL)
  · rw [he]
    have HZ : Hid (zeroB l = []) := by show _ = _; simp [zeroB, hs]
    clear hs he
    go_wp2_with fail
    go_ret
    refine ⟨_, rfl, ?_, unhide HB2⟩
    rw [unhide HZ]
    exact World.ownsRow_nil _ w.heap.size 67 3
end Go.Proofs.YtonodcmbbgpjjaaDoor
namespace Go.Proofs.YtonodcmbbgpjjaaDoor
open Go.RowKit Go.Maps
/-- A run in memory: its own block, its row, and all that was there when it began. -/
structure MR (w0 w : World) (b : Nat) (sv rv : Value) (m : MS) : Prop where
  run : RunAt w b sv rv m
  kept : Keeps (fun _ => False) w0 w
  new : w0.heap.size ≤ b
  own : m.here = true → w.ownsRow w0.heap.size 67 3 rv m.vals.length (vcs m.vals)
  abs : m.here = false → m.vals = [] ∧ ValsAt w rv []
  rty : ∀ q, rv.ownBlock = some q → w0.heap.size ≤ q ∧ ∃ cur, w.heap[q]? = some (.cells cur 67 (0, 0))
theorem MR.rlt {w0 w : World} {b : Nat} {sv rv : Value} {m : MS} (h : MR w0 w b sv rv m) (q : Nat) (e : rv.ownBlock = some q) : w0.heap.size ≤ q ∧ q < w.heap.size := by
  obtain ⟨h1, cur, h2⟩ := h.rty q e
  exact ⟨h1, lt_of_block h2⟩
theorem valsAt_nil {w w' : World} {v : Value} (h : ValsAt w v []) : ValsAt w' v [] := by
  obtain ⟨ao, c, rfl⟩ := RowAt.form h
  have hr := RowAt.room h
  exact ⟨⟨_, _, rfl⟩, fun h0 => by simp at h0, hr⟩
theorem MR.vals {w0 w : World} {b : Nat} {sv rv : Value} {m : MS} (h : MR w0 w b sv rv m) : ValsAt w rv m.vals := by
  cases hh : m.here with
  | true => exact rowAt_own (h.own hh)
  | false => obtain ⟨h1, h2⟩ := h.abs hh; rw [h1]; exact h2
/-- What is changed is neither the run nor its row. -/
theorem MR.keep {F : Nat → Prop} {w0 w w' : World} {b : Nat} {sv rv : Value} {m : MS} (h : MR w0 w b sv rv m) (hk : Keeps F w w') (hF : ¬ F b) (hR : ∀ q, rv.ownBlock = some q → ¬ F q) (hN : ∀ q, q < w0.heap.size → ¬ F q) : MR w0 w' b sv rv m := by
  refine ⟨h.run.keep hk hF, h.kept.then hk (fun i hi e => hN i hi e), h.new, fun hh => ownsRow_kept (h.own hh) hk hR, fun hh => ⟨(h.abs hh).1, valsAt_nil (h.abs hh).2⟩, fun q e => ?_⟩
  obtain ⟨h1, cur, h2⟩ := h.rty q e
  exact ⟨h1, cur, (hk.block q (lt_of_block h2) (hR q e)).trans h2⟩
theorem MR.keepF {w0 w w' : World} {b : Nat} {sv rv : Value} {m : MS} (h : MR w0 w b sv rv m) (hk : Keeps (fun _ => False) w w') : MR w0 w' b sv rv m := h.keep hk id (fun _ _ => id) (fun _ _ => id)
/-- The stack is another one. -/
theorem MR.stack {w0 w w' : World} {b : Nat} {sv rv : Value} {m : MS} {st : List ValA} (h : MR w0 w b sv rv m) (hr : RunAt w' b sv rv ⟨st, m.here, m.vals⟩) (hk : Keeps (fun q => q = b) w w') : MR w0 w' b sv rv ⟨st, m.here, m.vals⟩ := by
  obtain ⟨cur, hB, _⟩ := h.run.blk
  refine ⟨hr, h.kept.then hk (fun i hi e => by have := h.new; omega), h.new, fun hh => ownsRow_kept (h.own hh) hk (fun q e hq => ownsRow_ne (h.own hh) hB (by decide) (by rw [e, hq])), fun hh => ⟨(h.abs hh).1, valsAt_nil (h.abs hh).2⟩, fun q e => ?_⟩
  obtain ⟨h1, cur2, h2⟩ := h.rty q e
  have hne : ¬ q = b := fun q' => by subst q'; rw [hB] at h2; simp at h2
  exact ⟨h1, cur2, (hk.block q (lt_of_block h2) hne).trans h2⟩
set_option maxRecDepth 100000 in
set_option maxHeartbeats 2000000 in
theorem has_v {w0 w : World} {b : Nat} {sv rv : Value} {m : MS} (h : MR w0 w b sv rv m) (n : Nat) (hn : m.here = true → n < m.vals.length) :
    Calls Tryd.prog 89 #[.pointer (some ⟨b, 0, none⟩), .int .i64 (n : Int)] w fun e w' => e = .returned (.bool (hasB m n)) ∧ Keeps (fun _ => False) w w' := by
  have hb := h.run.lt
  have c1 := h.run.c1
  have c2 := h.run.c2
  have HV := hide h.vals
  have HB : Hid (hasB m n = (m.here && !decide (((m.vals[n]?).getD zV).kind = 0))) := rfl
  generalize hasB m n = R at *
  cases hh : m.here with
  | false =>
    rw [hh] at c1 HB
    have HE : Hid (R = false) := by show _ = _; rw [unhide HB]; rfl
    clear h HV HB hn
    go_enter Tryd.func89, Tryd.ntmps89
    go_wp2_with fail
    go_ret
    exact ⟨ret_bool (unhide HE).symm, Keeps.refl _ _⟩
  | true =>
    rw [hh] at c1 HB
    have hlt := hn hh
    obtain ⟨x, hx⟩ : ∃ x, m.vals[n]? = some x := ⟨_, List.getElem?_eq_getElem hlt⟩
    obtain ⟨rb, off, rc, e, hbl, hc⟩ := (unhide HV).cells (by omega)
    subst e
    have d0 := (hc n x hx).1
    have HE : Hid (R = !decide (x.kind = 0)) := by show _ = _; rw [unhide HB, hx]; rfl
    have i0 : (0 : Int) ≤ (n : Int) := by omega
    have i1 : (n : Int) < (m.vals.length : Int) := by omega
    clear h HV HB hn hc hx
    go_enter Tryd.func89, Tryd.ntmps89
    go_wp2_with fail
    go_ret
    exact ⟨ret_bool ((unhide HE).symm ▸ rfl), Keeps.refl _ _⟩
set_option maxRecDepth 100000 in
set_option maxHeartbeats 2000000 in
theorem load_v {w0 w : World} {b : Nat} {sv rv : Value} {m : MS} (S : List FieldA) (h : MR w0 w b sv rv m) (hS : FldsAt w0 sv S) (n : Nat) (hn : m.here = true → n < m.vals.length) (hns : n < S.length) :
    Calls Tryd.prog 86 #[.pointer (some ⟨b, 0, none⟩), .int .i64 (n : Int)] w fun e w' => e = .returned (loadV S m n).v ∧ Keeps (fun _ => False) w w' := by
  have HKA := hide (kAlloc w (.cells #[.int .i64 0, .int .i64 0, .string ⟨#[]⟩] 67))
  have h1 := h.keepF (unhide HKA)
  have HX := hide (heap_alloc_new w (.cells #[.int .i64 0, .int .i64 0, .string ⟨#[]⟩] 67))
  have HH := hide (has_v h1 n hn)
  have HL : Hid (loadV S m n = if hasB m n then (m.vals[n]?).getD zV else ⟨((S[n]?).map FieldA.type).getD 0, 0, []⟩) := rfl
  have HM := hide h1
  obtain ⟨f, hf⟩ : ∃ f, S[n]? = some f := ⟨_, List.getElem?_eq_getElem hns⟩
  obtain ⟨sb, so, sc, e, hbl, hc⟩ := hS.cells (by omega)
  subst e
  have HC := hide (hc n f hf).2.1
  have HHB : Hid (hasB m n = true → m.here = true) := fun q => by unfold hasB at q; simp at q; exact q.1
  have i0 : (0 : Int) ≤ (n : Int) := by omega
  have i1 : (n : Int) < (S.length : Int) := by omega
  generalize loadV S m n = R at *
  clear hc h1
  go_enter Tryd.func86, Tryd.ntmps86
  go_wp2_with fail
  refine (unhide HH).mono ?_
  rintro e w1 ⟨rfl, hk1⟩
  have HM1 := hide ((unhide HM).keepF hk1)
  have c0 := (unhide HM1).run.c0
  have c2 := (unhide HM1).run.c2
  have cf := ((unhide HM1).kept.cell (o := so + n * 3 + 1) hbl id).trans (unhide HC)
  have hb1 := (unhide HM1).run.lt
  cases hb : hasB m n with
  | false =>
    have HR : Hid (R = ⟨f.type, 0, []⟩) := by show _ = _; rw [unhide HL, hb, hf]; rfl
    obtain ⟨z0, z1, z2, y0, y1, y2, s0, s1, s2⟩ := res_facts (unhide HX) hk1 ⟨f.type, 0, []⟩
    have HK := hide (((unhide HKA).trans hk1).fresh (Nat.le_refl _) (keeps_set3 w1 w.heap.size (.int .i64 f.type) (.int .i64 0) (str [])))
    clear hk1 HH HL HHB hn
    go_wp2_with fail
    refine bodyPost_ret (v := .agg #[.int .i64 f.type, .int .i64 0, .string ⟨#[]⟩]) (by simp [results, go_sem, s0, s1, s2]) rfl ?_
    exact ⟨by rw [unhide HR]; rfl, unhide HK⟩
  | true =>
    have hh := (unhide HHB) hb
    have hlt := hn hh
    obtain ⟨x, hx⟩ : ∃ x, m.vals[n]? = some x := ⟨_, List.getElem?_eq_getElem hlt⟩
    obtain ⟨rb, off, rc, e, hrl, hc⟩ := (unhide HM1).vals.cells (by omega)
    subst e
    have d0 := (hc n x hx).1
    have d1 := (hc n x hx).2.1
    have d2 := (hc n x hx).2.2
    have HR : Hid (R = x) := by show _ = _; rw [unhide HL, hb, hx]; rfl
    have i2 : (n : Int) < (m.vals.length : Int) := by omega
    obtain ⟨z0, z1, z2, y0, y1, y2, s0, s1, s2⟩ := res_facts (unhide HX) hk1 x
    have HK := hide (((unhide HKA).trans hk1).fresh (Nat.le_refl _) (keeps_set3 w1 w.heap.size (.int .i64 x.kind) (.int .i64 x.n) (str x.s)))
    clear hk1 HH HL HHB hn hc
    go_wp2_with fail
    refine bodyPost_ret (v := .agg #[.int .i64 x.kind, .int .i64 x.n, str x.s]) (by simp [results, go_sem, s0, s1, s2]) rfl ?_
    exact ⟨by rw [unhide HR]; rfl, unhide HK⟩
end Go.Proofs.YtonodcmbbgpjjaaDoor
namespace Go.Proofs.YtonodcmbbgpjjaaDoor
open Go.RowKit Go.Maps
theorem vcs_set3 (v : ValA) : ∀ (l : List ValA) (n : Nat), n < l.length → (((vcs l).set (n * 3) (.int .i64 v.kind)).set (n * 3 + 1) (.int .i64 v.n)).set (n * 3 + 2) (str v.s) = vcs (l.set n v)
  | [], _, h => by simp at h
  | x :: r, 0, _ => by simp [vcs, ValA.cs]
  | x :: r, n + 1, h => by
    have ih := vcs_set3 v r n (by simpa using h)
    have e : ∀ y : ValA, ∀ q : List ValA, vcs (y :: q) = y.cs ++ vcs q := fun y q => by simp [vcs]
    rw [List.set_cons_succ, e, e, ← ih, show (n + 1) * 3 = n * 3 + 3 by omega]
    rfl
/-- A value of the row, written over. -/
theorem own_set3 {w : World} {B : Nat} {rv : Value} {l : List ValA} (h : w.ownsRow B 67 3 rv l.length (vcs l)) {g cap : Nat} (hr : rv = .slice (some ⟨g, 0, none⟩) l.length cap) {n : Nat} (hn : n < l.length) (v : ValA) :
    (((w.setCell ⟨g, n * 3, none⟩ (.int .i64 v.kind)).setCell ⟨g, n * 3 + 1, none⟩ (.int .i64 v.n)).setCell ⟨g, n * 3 + 2, none⟩ (str v.s)).ownsRow B 67 3 rv (l.set n v).length (vcs (l.set n v)) := by
  subst hr
  have h1 := (((h.stored (n * 3) (.int .i64 v.kind)).1.stored (n * 3 + 1) (.int .i64 v.n)).1.stored (n * 3 + 2) (str v.s)).1
  rw [vcs_set3 v l n hn] at h1
  simpa using h1
theorem keeps_at3 (w : World) (g a b c : Nat) (x y z : Value) : Keeps (fun q => q = g) w (((w.setCell ⟨g, a, none⟩ x).setCell ⟨g, b, none⟩ y).setCell ⟨g, c, none⟩ z) :=
  Keeps.setCell (F := fun q => q = g) (p := ⟨g, c, none⟩) (Keeps.setCell (F := fun q => q = g) (p := ⟨g, b, none⟩) (Keeps.setCell (F := fun q => q = g) (p := ⟨g, a, none⟩) (Keeps.refl (fun q => q = g) w) (fun _ => rfl) x) (fun _ => rfl) y) (fun _ => rfl) z
theorem RunAt.other {w : World} {b : Nat} {sv rv : Value} {m : MS} (h : RunAt w b sv rv m) {hh : Bool} (he : m.here = hh) (vals : List ValA) : RunAt w b sv rv ⟨m.st, hh, vals⟩ := ⟨h.blk, h.c0, he ▸ h.c1, h.c2, h.ch, h.stk, h.len⟩
/-- What a step may change. -/
abbrev Own (b : Nat) (rv : Value) : Nat → Prop := fun q => q = b ∨ rv.ownBlock = some q
set_option maxRecDepth 100000 in
set_option maxHeartbeats 2000000 in
theorem set_v {w0 w : World} {b : Nat} {sv rv : Value} {m : MS} (h : MR w0 w b sv rv m) (n : Nat) (v : ValA) (hn : m.here = true → n < m.vals.length) :
    Calls Tryd.prog 66 #[.pointer (some ⟨b, 0, none⟩), .int .i64 (n : Int), v.v] w fun e w' => e = .returned (.tuple #[]) ∧ MR w0 w' b sv rv ⟨m.st, (setR m n v).1, (setR m n v).2⟩ ∧ Keeps (Own b rv) w w' := by
  have HKA := hide (kAlloc w (.cells #[.int .i64 v.kind, .int .i64 v.n, str v.s] 67))
  have h1 := h.keepF (unhide HKA)
  have hX := heap_alloc_new w (.cells #[.int .i64 v.kind, .int .i64 v.n, str v.s] 67)
  have HM := hide h1
  have c1 := h1.run.c1
  have c2 := h1.run.c2
  have hb1 := h1.run.lt
  cases hh : m.here with
  | false =>
    rw [hh] at c1
    have HR : Hid (setR m n v = (m.here, m.vals)) := by show _ = _; unfold setR; rw [hh]; rfl
    clear hX hn h1 h
    unfold ValA.v
    go_enter Tryd.func66, Tryd.ntmps66
    go_wp2_with fail
    go_end0
    refine ⟨rfl, ?_, (unhide HKA).any⟩
    rw [unhide HR]
    exact unhide HM
  | true =>
    rw [hh] at c1
    have hlt := hn hh
    have HR : Hid (setR m n v = (true, m.vals.set n v)) := by show _ = _; unfold setR; rw [hh]; rfl
    have hown := h1.own hh
    obtain ⟨g, cap, cur, e, hg, hgb, rest⟩ : ∃ g cap cur, rv = .slice (some ⟨g, 0, none⟩) m.vals.length cap ∧ w0.heap.size ≤ g ∧ (w.alloc (.cells #[.int .i64 v.kind, .int .i64 v.n, str v.s] 67)).heap[g]? = some (.cells cur 67 (0, 0)) ∧ True := by
      rcases hown.2 with ⟨_, h0⟩ | ⟨g, cap, cur, a1, a2, a3, _⟩
      · omega
      · exact ⟨g, cap, cur, a1, a2, a3, trivial⟩
    have HS := hide (own_set3 hown e hlt v)
    obtain ⟨curb, hBb, _⟩ := h1.run.blk
    have hne := ownsRow_ne hown hBb (by decide)
    rw [e] at hne
    have HNE : Hid (b ≠ g) := fun q => hne (by simp [Value.ownBlock, q])
    clear hBb hne
    have HO := hide hown
    have hvals := h1.vals
    subst e
    obtain ⟨g', off', cap', e', hgl, hc⟩ := hvals.cells (by omega)
    simp only [Value.slice.injEq, Option.some.injEq, Addr.mk.injEq, and_true, true_and] at e'
    obtain ⟨⟨rfl, rfl⟩, rfl⟩ := e'
    obtain ⟨x, hx⟩ : ∃ x, m.vals[n]? = some x := ⟨_, List.getElem?_eq_getElem hlt⟩
    have d0 := (hc n x hx).1
    have d1 := (hc n x hx).2.1
    have d2 := (hc n x hx).2.2
    simp only [Nat.zero_add] at d0 d1 d2
    have z0 := frozen_of_blk hgb (n * 3)
    have z1 := frozen_of_blk hgb (n * 3 + 1)
    have z2 := frozen_of_blk hgb (n * 3 + 2)
    have i0 : (0 : Int) ≤ (n : Int) := by omega
    have i1 : (n : Int) < (m.vals.length : Int) := by omega
    have HNW := hide h.new
    have HG := hide hg
    unfold ValA.v
    clear hn h1 h hc hown hvals hx hgb hg rest
    go_enter Tryd.func66, Tryd.ntmps66
    go_wp2_with fail
    generalize w.alloc (.cells #[.int .i64 v.kind, .int .i64 v.n, str v.s] 67) = W at *
    have y5 : W.cell? ⟨w.heap.size, 0, none⟩ = some (.int .i64 v.kind) := (cell_of_blk hX _).trans rfl
    have y6 : W.cell? ⟨w.heap.size, 1, none⟩ = some (.int .i64 v.n) := (cell_of_blk hX _).trans rfl
    have y7 : W.cell? ⟨w.heap.size, 2, none⟩ = some (str v.s) := (cell_of_blk hX _).trans rfl
    clear hX
    go_region
    go_wp2_with fail
    go_end0
    have k3 := keeps_at3 W g (n * 3) (n * 3 + 1) (n * 3 + 2) (.int .i64 v.kind) (.int .i64 v.n) (str v.s)
    have kd := (Keeps.refl (fun _ => False) (((W.setCell ⟨g, n * 3, none⟩ (.int .i64 v.kind)).setCell ⟨g, n * 3 + 1, none⟩ (.int .i64 v.n)).setCell ⟨g, n * 3 + 2, none⟩ (str v.s))).drew
    refine ⟨rfl, ?_, ?_⟩
    · rw [unhide HR]
      refine ⟨((((unhide HM).run.keep k3 (unhide HNE)).keepF kd).other hh _), ((unhide HM).kept.then k3 (fun i hi e => by have := unhide HG; omega)).trans kd, unhide HNW, fun _ => ownsRow_kept (unhide HS) kd (fun _ _ => id), fun q => (by cases q), fun q e => ?_⟩
      obtain ⟨h1, cur2, h2⟩ := (unhide HM).rty q e
      have hq : q = g := by simp [Value.ownBlock] at e; exact e.symm
      subst hq
      exact ⟨h1, _, heap_setCell_at (heap_setCell_at (heap_setCell_at h2 _) _) _⟩
    · have kk : Keeps (Own b (.slice (some ⟨g, 0, none⟩) m.vals.length cap)) w W := (unhide HKA).any
      refine ((kk.trans (k3.mono fun q _ e => ?_))).drew
      exact Or.inr (by rw [e]; rfl)
end Go.Proofs.YtonodcmbbgpjjaaDoor
namespace Go.Proofs.YtonodcmbbgpjjaaDoor
open Go.RowKit Go.Maps
theorem wrap64_eq (x : Int) : wrap64 x = IntKind.i64.wrap x := (IntWalk.i64_left x).symm
theorem run_field1 (k n : Int) (s : Txt) (W : World) : (Instr.field 67 (.agg #[.int .i64 k, .int .i64 n, str s]) 1).run Tryd.prog W = .ok (.int .i64 n) W := by
  kernel_rfl
set_option maxRecDepth 100000 in
set_option maxHeartbeats 2000000 in
theorem add_v {w0 w : World} {b : Nat} {sv rv : Value} {m : MS} (S : List FieldA) (h : MR w0 w b sv rv m) (hS : FldsAt w0 sv S) (n : Nat) (v : ValA) (hn : m.here = true → n < m.vals.length) (hns : n < S.length) :
    Calls Tryd.prog 67 #[.pointer (some ⟨b, 0, none⟩), .int .i64 (n : Int), v.v] w fun e w' => e = .returned (.tuple #[]) ∧ MR w0 w' b sv rv ⟨m.st, (setR m n (numV (wrap64 ((loadV S m n).n + v.n)))).1, (setR m n (numV (wrap64 ((loadV S m n).n + v.n)))).2⟩ ∧ Keeps (Own b rv) w w' := by
  have HKA := hide (kAlloc w (.cells #[.int .i64 v.kind, .int .i64 v.n, str v.s] 67))
  have hX := heap_alloc_new w (.cells #[.int .i64 v.kind, .int .i64 v.n, str v.s] 67)
  have HX := hide hX
  have HM := hide (h.keepF (unhide HKA))
  have HLOAD := hide (fun (W : World) (q : MR w0 W b sv rv m) => load_v S q hS n hn hns)
  have HSET := hide (fun (W : World) (x : ValA) (q : MR w0 W b sv rv m) => set_v q n x hn)
  have HB := hide h.run.lt
  have HRL := hide (fun q e => (h.rlt q e).2)
  generalize loadV S m n = L at *
  unfold ValA.v
  clear hX h
  go_enter Tryd.func67, Tryd.ntmps67
  go_wp2_with fail
  generalize w.alloc (.cells #[.int .i64 v.kind, .int .i64 v.n, str v.s] 67) = W at *
  have p1 : w.heap.size < W.heap.size := lt_of_block (unhide HX)
  have y6 : W.cell? ⟨w.heap.size, 1, none⟩ = some (.int .i64 v.n) := (cell_of_blk (unhide HX) _).trans rfl
  have HD := hide (Keeps.refl (fun _ => False) W).drew
  have hfl := run_field1 L.kind L.n L.s
  go_region_held3 (fun w' => w'.cell? ⟨w.heap.size, 1, none⟩ = some (.int .i64 v.n))
    (first | with_reducible exact f4 | with_reducible exact f3 | with_reducible exact f2 | (go_keep; done) | assumption)
    (first
      | (go_at_call 66; refine ((unhide HSET) _ _ m3).mono ?_; rintro e w4 ⟨rfl, hm4, hk4⟩; have f4 := (hk4.cell (o := 1) q3 (fun q => q.elim (fun q => by have := unhide HB; omega) (fun q => by have := (unhide HRL) _ q; omega))).trans f3)
      | (go_at_call 83; refine (number_v _ _).mono ?_; rintro e w3 ⟨rfl, hk3⟩; have q3 := Nat.lt_of_lt_of_le q2 hk3.size; have f3 := (hk3.cell (o := 1) q2 id).trans f2; have m3 := m2.keepF hk3)
      | (go_at_call 86; refine ((unhide HLOAD) _ ((unhide HM).keepF (unhide HD))).mono ?_; rintro e w2 ⟨rfl, hk2⟩; have q2 := Nat.lt_of_lt_of_le (Nat.lt_of_lt_of_le p1 (unhide HD).size) hk2.size; have f2 := (hk2.cell (o := 1) (Nat.lt_of_lt_of_le p1 (unhide HD).size) id).trans (((unhide HD).cell (o := 1) p1 id).trans y6); have m2 := ((unhide HM).keepF (unhide HD)).keepF hk2; unfold ValA.v))
  go_wp2_with fail
  go_end0
  have hm5 := hm4
  rw [← wrap64_eq] at hm5
  exact ⟨rfl, hm5, ((((unhide HKA).trans (unhide HD)).trans hk2).trans hk3).any.trans hk4⟩
theorem ownsRow_lt {w : World} {B e s n : Nat} {v : Value} {xs : List Value} (h : w.ownsRow B e s v n xs) : ∀ q, v.ownBlock = some q → B ≤ q ∧ ∃ cur, w.heap[q]? = some (.cells cur e (0, 0)) := by
  intro q hq
  rcases h.2 with ⟨hv, _⟩ | ⟨g, cap, cur, hv, hb, hg, _⟩
  · rw [hv] at hq; simp [Value.ownBlock] at hq
  · rw [hv] at hq
    simp [Value.ownBlock] at hq
    subst hq
    exact ⟨hb, cur, hg⟩
theorem ownsRow_base {w : World} {B C e s n : Nat} {v : Value} {xs : List Value} (h : w.ownsRow B e s v n xs) (hC : C ≤ B) : w.ownsRow C e s v n xs := by
  refine ⟨h.1, ?_⟩
  rcases h.2 with h0 | ⟨g, cap, cur, hv, hb, rest⟩
  · exact Or.inl h0
  · exact Or.inr ⟨g, cap, cur, hv, Nat.le_trans hC hb, rest⟩
set_option maxRecDepth 100000 in
set_option maxHeartbeats 2000000 in
theorem create_v {w0 w : World} {b : Nat} {sv rv : Value} {m : MS} (S : List FieldA) (h : MR w0 w b sv rv m) (hT : Types w0) (hS : FldsAt w0 sv S) (hz : errS S = 0) :
    Calls Tryd.prog 68 #[.pointer (some ⟨b, 0, none⟩)] w fun e w' => e = .returned (.tuple #[]) ∧ (∃ rv', MR w0 w' b sv rv' (if m.here then m else ⟨m.st, true, S.map zeroV⟩)) ∧ Keeps (Own b rv) w w' := by
  have c0 := h.run.c0
  have c1 := h.run.c1
  have hb := h.run.lt
  have HM := hide h
  cases hh : m.here with
  | true =>
    rw [hh] at c1
    clear h
    go_enter Tryd.func68, Tryd.ntmps68
    go_wp2_with fail
    go_end0
    exact ⟨rfl, ⟨rv, unhide HM⟩, Keeps.refl _ _⟩
  | false =>
    rw [hh] at c1
    have HZ := hide (fun (W : World) (hk : Keeps (fun _ => False) w0 W) => val_zero S sv W (hT.keepF hk) (hS.keepF hk))
    obtain ⟨ao, cap, rfl⟩ := RowAt.form hS
    clear h
    go_enter Tryd.func68, Tryd.ntmps68
    go_wp2_with fail
    refine ((unhide HZ) _ (unhide HM).kept).mono ?_
    rintro e w1 ⟨v', rfl, ho1, hk1⟩
    have hM1 := (unhide HM).keepF hk1
    obtain ⟨cur, hB, hs⟩ := hM1.run.blk
    have z1 := frozen_of_blk hB 1
    have z2 := frozen_of_blk hB 2
    have c1' := hM1.run.c1
    have c2' := hM1.run.c2
    rw [hh] at c1'
    have hb1 := hM1.run.lt
    have HM1 := hide hM1
    have HO1 := hide ho1
    have HK1 := hide hk1
    obtain ⟨zo, zc, rfl⟩ := RowAt.form (rowAt_own ho1)
    clear hM1 ho1 hk1 hB hs
    go_wp2_with fail
    go_end0
    have hSB : schemaB S = true := by unfold errS at hz; by_cases q : schemaB S = true
                                      · exact q
                                      · rw [if_neg q] at hz; cases hz
    have hzb : zeroB S = S.map zeroV := by unfold zeroB zeros; rw [if_pos hSB]
    have ko : Keeps (fun q => q = b) w1 ((w1.setCell ⟨b, 1, none⟩ (.bool true)).setCell ⟨b, 2, none⟩ (.slice zo (zeroB S).length zc)) := Keeps.setCell (F := fun q => q = b) (p := ⟨b, 2, none⟩) (Keeps.setCell (F := fun q => q = b) (p := ⟨b, 1, none⟩) (Keeps.refl (fun q => q = b) w1) (fun _ => rfl) _) (fun _ => rfl) _
    obtain ⟨cur, hB, hs⟩ := (unhide HM1).run.blk
    have hE := heap_setCell_at (o := 2) (heap_setCell_at (o := 1) hB (.bool true)) (.slice zo (zeroB S).length zc)
    have hq : ∀ o, o ≠ 1 → o ≠ 2 → ((w1.setCell ⟨b, 1, none⟩ (.bool true)).setCell ⟨b, 2, none⟩ (.slice zo (zeroB S).length zc)).cell? ⟨b, o, none⟩ = w1.cell? ⟨b, o, none⟩ := fun o h1 h2 => by
      rw [cell_of_blk hE, cell_of_blk hB, Array.getElem?_setIfInBounds_ne (Ne.symm h2), Array.getElem?_setIfInBounds_ne (Ne.symm h1)]
    have hr := (unhide HM1).run
    have hown := ownsRow_kept (unhide HO1) ko (fun q e hq => ownsRow_ne (unhide HO1) hB (by decide) (by rw [e, hq]))
    have hlt1 := ownsRow_lt (unhide HO1)
    refine ⟨rfl, ⟨.slice zo (zeroB S).length zc, ⟨⟨⟨_, hE, by simpa using hs⟩, (hq 0 (by omega) (by omega)).trans hr.c0, ?_, ?_, (hq 51 (by omega) (by omega)).trans hr.ch, fun i v hv => ⟨(hq _ (by omega) (by omega)).trans (hr.stk i v hv).1, (hq _ (by omega) (by omega)).trans (hr.stk i v hv).2.1, (hq _ (by omega) (by omega)).trans (hr.stk i v hv).2.2⟩, hr.len⟩, ?_, (unhide HM1).new, fun _ => ?_, fun q => (by cases q), fun q e => ?_⟩⟩, ?_⟩
    · rw [cell_of_blk hE, Array.getElem?_setIfInBounds_ne (by omega)]; simp [hs]
    · rw [cell_of_blk hE]; simp [hs]
    · exact (unhide HM1).kept.then ko (fun i hi e => by have := (unhide HM1).new; omega)
    · rw [← hzb]
      exact ownsRow_base hown (Nat.le_trans (unhide HM).kept.size (Nat.le_refl _))
    · obtain ⟨h1, cur2, h2⟩ := hlt1 q e
      have hne : ¬ q = b := fun q' => by subst q'; rw [hB] at h2; simp at h2
      exact ⟨Nat.le_trans (unhide HM).kept.size h1, cur2, (ko.block q (lt_of_block h2) hne).trans h2⟩
    · exact (unhide HK1).any.trans (ko.mono fun q _ e => Or.inl e)
end Go.Proofs.YtonodcmbbgpjjaaDoor
