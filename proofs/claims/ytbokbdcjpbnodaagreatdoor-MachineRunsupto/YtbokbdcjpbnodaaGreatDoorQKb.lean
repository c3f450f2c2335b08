import Derived.Test.YtbokbdcjpbnodaaGreatDoorQJf
import Derived.Test.YtbokbdcjpbnodaaGreatDoorQJb
import Derived.Test.YtbokbdcjpbnodaaGreatDoorQJc
import Derived.Test.YtbokbdcjpbnodaaGreatDoorQKa
namespace Go.Proofs.YtbokbdcjpbnodaaGreatDoor
open Go.RowKit Go.Maps
set_option maxRecDepth 100000
set_option maxHeartbeats 2000000
theorem vcs_setk {R Z : List ValA} {t : Int} : (vcs (R ++ zeroVal :: Z)).toArray.setIfInBounds (R.length * 3) (.int .i64 t) = (vcs (R ++ ⟨t, 0, []⟩ :: Z)).toArray := by
 have hv : ∀ y : ValA, vcs (R ++ y :: Z) = vcs R ++ (y.cs ++ vcs Z) := fun y => by simp [vcs]
 have hl := vcs_length R
 rw [hv, hv, ← hl]
 apply Array.ext'
 simp [ValA.cs, zeroVal]
def zeroTo (l : List FieldA) (k : Nat) : List ValA := zeros (l.take k) ++ List.replicate (l.length - k) zeroVal
theorem zeroTo_zero (l : List FieldA) : zeroTo l 0 = List.replicate l.length zeroVal := by simp [zeroTo, zeros]
theorem zeroTo_full (l : List FieldA) : zeroTo l l.length = zeros l := by simp [zeroTo]
theorem zeroTo_at {l : List FieldA} {k : Nat} {f : FieldA} (h : l[k]? = some f) : zeroTo l k = zeros (l.take k) ++ zeroVal :: List.replicate (l.length - (k + 1)) zeroVal ∧ zeroTo l (k + 1) = zeros (l.take k) ++ zeroV f :: List.replicate (l.length - (k + 1)) zeroVal := by
 have hl := get_lt h
 unfold zeroTo
 constructor
 ·rw [show l.length - k = (l.length - (k + 1)) + 1 by omega, List.replicate_succ]
 ·rw [take_snoc _ _ _ h, zeros_snoc, List.append_assoc]
  rfl
theorem zeros_take_len {l : List FieldA} {k : Nat} (h : k ≤ l.length) : (zeros (l.take k)).length = k := by rw [zeros_length, List.length_take, Nat.min_eq_left h]
theorem zero_v (l : List FieldA) (v : Value) (w : World) (h : FldsAt w v l) (hl8 : l.length ≤ 8) :
  Calls Tryz.prog 162 #[.agg #[v]] w fun e w' => ∃ g, e = .returned (.slice (some ⟨g, 0, none⟩) l.length l.length) ∧ w.heap.size ≤ g ∧ w'.heap[g]? = some (.cells (vcs (zeros l)).toArray 74 (0, 0)) ∧ Keeps (fun _ => False) w w' := by
 obtain ⟨ao, cap, rfl⟩ := RowAt.form h
 obtain ⟨HB, hb, hbc⟩ := boxed w #[.slice ao l.length cap] 24
 have hp := hbc 0 (.slice ao l.length cap) rfl
 have HF := hide (h.keepF (uh HB))
 clear hbc h
 have hmk := run_mkv l.length (by omega) (w.alloc (.cells #[.slice ao l.length cap] 24))
 have HG := hide (heap_alloc_new (w.alloc (.cells #[.slice ao l.length cap] 24)) (.cells (vcs (List.replicate l.length zeroVal)).toArray 74))
 have HA : Hid (Keeps (fun q => w.heap.size + 1 ≤ q) (w.alloc (.cells #[.slice ao l.length cap] 24)) ((w.alloc (.cells #[.slice ao l.length cap] 24)).alloc (.cells (vcs (List.replicate l.length zeroVal)).toArray 74))) := (Keeps.refl _ _).alloc _
 have hS3 : (w.alloc (.cells #[.slice ao l.length cap] 24)).heap.size = w.heap.size + 1 := by simp
 have hS4 : w.heap.size + 1 < ((w.alloc (.cells #[.slice ao l.length cap] 24)).alloc (.cells (vcs (List.replicate l.length zeroVal)).toArray 74)).heap.size := by simp
 have hp4 := ((uh HA).cell (o := 0) hb (by omega)).trans hp
 rw [hS3] at hmk HG
 have HS3 := hide hS3
 clear hS3
 go_enter Tryz.func162, Tryz.ntmps162
 go_wp2_with fail
 generalize (w.alloc (.cells #[.slice ao l.length cap] 24)).alloc (.cells (vcs (List.replicate l.length zeroVal)).toArray 74) = w4 at *
 generalize w.alloc (.cells #[.slice ao l.length cap] 24) = w3 at *
 clear hmk
 go_loopw [13] (fun i wr => ∃ (k : Nat), k ≤ l.length ∧ i = .int .i64 k ∧ Hid (wr.heap[w.heap.size + 1]? = some (.cells (vcs (zeroTo l k)).toArray 74 (0, 0))) ∧ Keeps (fun q => w.heap.size + 1 ≤ q) w4 wr) (fun i _ => l.length - (intOf i).toNat)
 case atStart => exact ⟨0, Nat.zero_le _, rfl, by show _ = _; rw [zeroTo_zero]; exact uh HG, Keeps.refl _ _⟩
 case round =>
  obtain ⟨k, hk, rfl, HBk, hkp⟩ := hrel
  have HK := hide ((uh HA).trans hkp)
  have HKP := hide hkp
  have hS5 : w.heap.size + 1 < wr.heap.size := Nat.lt_of_lt_of_le hS4 hkp.size
  clear hkp
  by_cases hlt : k < l.length
  ·obtain ⟨f, hf⟩ : ∃ f, l[k]? = some f := ⟨_, List.getElem?_eq_getElem hlt⟩
   obtain ⟨b5, off5, c5, e5, hbl, hc⟩ := (uh HF).cells (by omega)
   have hbl2 : ¬ w.heap.size + 1 ≤ b5 := by have := uh HS3; omega
   simp at e5
   obtain ⟨rfl, rfl⟩ := e5
   have c0 := ((uh HK).cell hbl hbl2).trans (hc k f hf).1
   have c1 := ((uh HK).cell hbl hbl2).trans (hc k f hf).2.1
   have c2 := ((uh HK).cell hbl hbl2).trans (hc k f hf).2.2
   have HZ := hide (zeroTo_at hf)
   have HKN := hide ((uh HKP).alloc (.cells #[str f.name, .int .i64 f.type, .bool f.opt] 99))
   have HBN : (wr.alloc (.cells #[str f.name, .int .i64 f.type, .bool f.opt] 99)).heap[w.heap.size + 1]? = some (.cells (vcs (zeros (l.take k) ++ zeroVal :: List.replicate (l.length - (k + 1)) zeroVal)).toArray 74 (0, 0)) := by
    rw [← (uh HZ).1]
    exact (Below.heap_alloc _ _ _ hS5).trans (uh HBk)
   have HRL := hide (zeros_take_len hk)
   obtain ⟨d0, d1, d2, g0, g1, g2⟩ := cells3 HBN (uh HRL)
   have HN := hide HBN
   have i5 : (k : Int) < (l.length : Int) := by omega
   have s0 : w.heap.size + 1 < (wr.alloc (.cells #[str f.name, .int .i64 f.type, .bool f.opt] 99)).heap.size := lt_of_block HBN
   clear hc hf HBN
   cases hfo : f.opt with
   | true =>
    rw [hfo] at c2 HKN HN d0 d1 d2 g0 g1 g2 s0
    have HE : Hid (zeroV f = zeroVal) := by show _ = _; unfold zeroV; rw [if_pos hfo]; rfl
    go_wp2_with fail
    go_roundw
    case rel => exact ⟨k + 1, by omega, by go_num, by show _ = _; rw [(uh HZ).2, uh HE]; exact uh HN, uh HKN⟩
    case measure => simp [intOf]; omega
   | false =>
    rw [hfo] at c2 HKN HN d0 d1 d2 g0 g1 g2 s0
    have HE : Hid (zeroV f = ⟨f.type, 0, []⟩) := by show _ = _; unfold zeroV; rw [if_neg (by simp [hfo])]
    go_wp2_with fail
    go_roundw
    case rel =>
     refine ⟨k + 1, by omega, by go_num, ?_, ((uh HKP).then (keeps_set _ _ _ _) (fun i _ e => by omega)).alloc _⟩
     show _ = _
     rw [(uh HZ).2, uh HE, ← vcs_setk, uh HRL, Below.heap_alloc _ _ _ (by simpa using hS5), ← (uh HZ).1]
     exact heap_setCell_at (uh HBk) _
    case measure => simp [intOf]; omega
  ·obtain rfl : k = l.length := by omega
   go_wp2_with fail
   go_ret
   refine ⟨_, rfl, by omega, ?_, (uh HB).narrow (F := fun q => w.heap.size + 1 ≤ q) (uh HK) (fun q hq => by omega)⟩
   have := uh HBk
   rw [zeroTo_full] at this
   exact this
theorem val_zero (l : List FieldA) (v : Value) (w : World) (hT : Types w) (h : FldsAt w v l) :
  Calls Tryz.prog 126 #[.agg #[v]] w fun e w' => ∃ v', e = .returned v' ∧ w'.ownsRow w.heap.size 74 3 v' (zeroB l).length (vcs (zeroB l)) ∧ Keeps (fun _ => False) w w' := by
 obtain ⟨ao, cap, rfl⟩ := RowAt.form h
 obtain ⟨HB, hb, hbc⟩ := boxed w #[.slice ao l.length cap] 24
 have hp := hbc 0 (.slice ao l.length cap) rfl
 have HF := hide (h.keepF (uh HB))
 have HS := hide (checkSchema_v l _ _ (hT.keepF (uh HB)) (uh HF))
 clear hbc h hT
 go_enter Tryz.func126, Tryz.ntmps126
 go_wp2_with fail
 refine (uh HS).mono ?_
 rintro e w2 ⟨rfl, hk2⟩
 have hp2 := (hk2.cell (o := 0) hb id).trans hp
 have HF2 := hide ((uh HF).keepF hk2)
 have HB2 := hide ((uh HB).trans hk2)
 clear HS HF HB hk2 hp
 rcases errS_eq l with ⟨hs, he⟩ | ⟨hs, he⟩
 ·rw [he]
  have HZ : Hid (zeroB l = zeros l) := by show _ = _; simp [zeroB, hs]
  have HQ := hide (zero_v l _ _ (uh HF2) (schemaB_len hs).2)
  have hl8 := (schemaB_len hs).2
  clear hs he
  go_wp2_with fail
  refine (uh HQ).mono ?_
  rintro e w4 ⟨g, rfl, hg, hblk, hk4⟩
  have HG := hide hg
  have HBL := hide hblk
  have HK4 := hide hk4
  clear hg hblk hk4 HQ
  go_wp2_with fail
  go_ret
  refine ⟨_, rfl, ?_, (uh HB2).trans (uh HK4)⟩
  rw [uh HZ]
  exact owns_vals (Nat.le_trans (uh HB2).size (uh HG)) (by omega) (zeros_length l) (uh HBL)
 ·rw [he]
  have HZ : Hid (zeroB l = []) := by show _ = _; simp [zeroB, hs]
  clear hs he
  go_wp2_with fail
  go_ret
  refine ⟨_, rfl, ?_, uh HB2⟩
  rw [uh HZ]
  exact World.ownsRow_nil _ w.heap.size 74 3
end Go.Proofs.YtbokbdcjpbnodaaGreatDoor
namespace Go.Proofs.YtbokbdcjpbnodaaGreatDoor
open Go.RowKit Go.Maps
set_option maxRecDepth 100000
set_option maxHeartbeats 2000000
structure MR (w0 w : World) (b : Nat) (sv rv : Value) (m : MS) : Prop where
 run : RunAt w b sv rv m
 kept : Keeps (fun _ => False) w0 w
 new : w0.heap.size ≤ b
 own : m.here = true → w.ownsRow w0.heap.size 74 3 rv m.vals.length (vcs m.vals)
 abs : m.here = false → m.vals = [] ∧ ValsAt w rv []
 rty : ∀ q, rv.ownBlock = some q → w0.heap.size ≤ q ∧ ∃ cur, w.heap[q]? = some (.cells cur 74 (0, 0))
theorem MR.rlt {w0 w : World} {b : Nat} {sv rv : Value} {m : MS} (h : MR w0 w b sv rv m) (q : Nat) (e : rv.ownBlock = some q) : w0.heap.size ≤ q ∧ q < w.heap.size := by
 obtain ⟨h1, cur, h2⟩ := h.rty q e
 exact ⟨h1, lt_of_block h2⟩
theorem valsAt_nil {w w' : World} {v : Value} (h : ValsAt w v []) : ValsAt w' v [] := by
 obtain ⟨ao, c, rfl⟩ := RowAt.form h
 have hr := RowAt.room h
 exact ⟨⟨_, _, rfl⟩, fun h0 => by simp at h0, hr⟩
theorem MR.vals {w0 w : World} {b : Nat} {sv rv : Value} {m : MS} (h : MR w0 w b sv rv m) : ValsAt w rv m.vals := by
 cases hh : m.here with
 | true => exact rowAt_own (h.own hh)
 | false => obtain ⟨h1, h2⟩ := h.abs hh; rw [h1]; exact h2
theorem MR.keep {F : Nat → Prop} {w0 w w' : World} {b : Nat} {sv rv : Value} {m : MS} (h : MR w0 w b sv rv m) (hk : Keeps F w w') (hF : ¬ F b) (hR : ∀ q, rv.ownBlock = some q → ¬ F q) (hN : ∀ q, q < w0.heap.size → ¬ F q) : MR w0 w' b sv rv m := by
 refine ⟨h.run.keep hk hF, h.kept.then hk (fun i hi e => hN i hi e), h.new, fun hh => ownsRow_kept (h.own hh) hk hR, fun hh => ⟨(h.abs hh).1, valsAt_nil (h.abs hh).2⟩, fun q e => ?_⟩
 obtain ⟨h1, cur, h2⟩ := h.rty q e
 exact ⟨h1, cur, (hk.block q (lt_of_block h2) (hR q e)).trans h2⟩
theorem MR.keepF {w0 w w' : World} {b : Nat} {sv rv : Value} {m : MS} (h : MR w0 w b sv rv m) (hk : Keeps (fun _ => False) w w') : MR w0 w' b sv rv m := h.keep hk id (fun _ _ => id) (fun _ _ => id)
theorem MR.stack {w0 w w' : World} {b : Nat} {sv rv : Value} {m : MS} {st : List ValA} (h : MR w0 w b sv rv m) (hr : RunAt w' b sv rv ⟨st, m.here, m.vals⟩) (hk : Keeps (fun q => q = b) w w') : MR w0 w' b sv rv ⟨st, m.here, m.vals⟩ := by
 obtain ⟨cur, hB, _⟩ := h.run.blk
 refine ⟨hr, h.kept.then hk (fun i hi e => by have := h.new; omega), h.new, fun hh => ownsRow_kept (h.own hh) hk (fun q e hq => ownsRow_ne (h.own hh) hB (by decide) (by rw [e, hq])), fun hh => ⟨(h.abs hh).1, valsAt_nil (h.abs hh).2⟩, fun q e => ?_⟩
 obtain ⟨h1, cur2, h2⟩ := h.rty q e
 have hne : ¬ q = b := fun q' => by subst q'; rw [hB] at h2; simp at h2
 exact ⟨h1, cur2, (hk.block q (lt_of_block h2) hne).trans h2⟩
theorem has_v {w0 w : World} {b : Nat} {sv rv : Value} {m : MS} (h : MR w0 w b sv rv m) (n : Nat) (hn : m.here = true → n < m.vals.length) :
  Calls Tryz.prog 128 #[.pointer (some ⟨b, 0, none⟩), .int .i64 (n : Int)] w fun e w' => e = .returned (.bool (hasB m n)) ∧ Keeps (fun _ => False) w w' := by
 have hb := h.run.lt
 have c1 := h.run.c1
 have c2 := h.run.c2
 have HV := hide h.vals
 have HB : Hid (hasB m n = (m.here && !decide (((m.vals[n]?).getD zV).kind = 0))) := rfl
 generalize hasB m n = R at *
 cases hh : m.here with
 | false =>
  rw [hh] at c1 HB
  have HE : Hid (R = false) := by show _ = _; rw [uh HB]; rfl
  clear h HV HB hn
  go_enter Tryz.func128, Tryz.ntmps128
  go_wp2_with fail
  go_ret
  exact ⟨ret_bool (uh HE).symm, Keeps.refl _ _⟩
 | true =>
  rw [hh] at c1 HB
  have hlt := hn hh
  obtain ⟨x, hx⟩ : ∃ x, m.vals[n]? = some x := ⟨_, List.getElem?_eq_getElem hlt⟩
  obtain ⟨rb, off, rc, e, hbl, hc⟩ := (uh HV).cells (by omega)
  subst e
  have d0 := (hc n x hx).1
  have HE : Hid (R = !decide (x.kind = 0)) := by show _ = _; rw [uh HB, hx]; rfl
  have i0 : (0 : Int) ≤ (n : Int) := by omega
  have i1 : (n : Int) < (m.vals.length : Int) := by omega
  clear h HV HB hn hc hx
  go_enter Tryz.func128, Tryz.ntmps128
  go_wp2_with fail
  go_ret
  exact ⟨ret_bool ((uh HE).symm ▸ rfl), Keeps.refl _ _⟩
theorem load_v {w0 w : World} {b : Nat} {sv rv : Value} {m : MS} (S : List FieldA) (h : MR w0 w b sv rv m) (hS : FldsAt w0 sv S) (n : Nat) (hn : m.here = true → n < m.vals.length) (hns : n < S.length) :
  Calls Tryz.prog 125 #[.pointer (some ⟨b, 0, none⟩), .int .i64 (n : Int)] w fun e w' => e = .returned (loadV S m n).v ∧ Keeps (fun _ => False) w w' := by
 have HKA := hide (kAlloc w (.cells #[.int .i64 0, .int .i64 0, .string ⟨#[]⟩] 74))
 have h1 := h.keepF (uh HKA)
 have HX := hide (heap_alloc_new w (.cells #[.int .i64 0, .int .i64 0, .string ⟨#[]⟩] 74))
 have HH := hide (has_v h1 n hn)
 have HL : Hid (loadV S m n = if hasB m n then (m.vals[n]?).getD zV else ⟨((S[n]?).map FieldA.type).getD 0, 0, []⟩) := rfl
 have HM := hide h1
 obtain ⟨f, hf⟩ : ∃ f, S[n]? = some f := ⟨_, List.getElem?_eq_getElem hns⟩
 obtain ⟨sb, so, sc, e, hbl, hc⟩ := hS.cells (by omega)
 subst e
 have HC := hide (hc n f hf).2.1
 have HHB : Hid (hasB m n = true → m.here = true) := fun q => by unfold hasB at q; simp at q; exact q.1
 have i0 : (0 : Int) ≤ (n : Int) := by omega
 have i1 : (n : Int) < (S.length : Int) := by omega
 generalize loadV S m n = R at *
 clear hc h1
 go_enter Tryz.func125, Tryz.ntmps125
 go_wp2_with fail
 refine (uh HH).mono ?_
 rintro e w1 ⟨rfl, hk1⟩
 have HM1 := hide ((uh HM).keepF hk1)
 have c0 := (uh HM1).run.c0
 have c2 := (uh HM1).run.c2
 have cf := ((uh HM1).kept.cell (o := so + n * 3 + 1) hbl id).trans (uh HC)
 have hb1 := (uh HM1).run.lt
 cases hb : hasB m n with
 | false =>
  have HR : Hid (R = ⟨f.type, 0, []⟩) := by show _ = _; rw [uh HL, hb, hf]; rfl
  obtain ⟨z0, z1, z2, y0, y1, y2, s0, s1, s2⟩ := res_facts (uh HX) hk1 ⟨f.type, 0, []⟩
  have HK := hide (((uh HKA).trans hk1).fresh (Nat.le_refl _) (keeps_set3 w1 w.heap.size (.int .i64 f.type) (.int .i64 0) (str [])))
  clear hk1 HH HL HHB hn
  go_wp2_with fail
  refine bodyPost_ret (v := .agg #[.int .i64 f.type, .int .i64 0, .string ⟨#[]⟩]) (by simp [results, go_sem, s0, s1, s2]) rfl ?_
  exact ⟨by rw [uh HR]; rfl, uh HK⟩
 | true =>
  have hh := (uh HHB) hb
  have hlt := hn hh
  obtain ⟨x, hx⟩ : ∃ x, m.vals[n]? = some x := ⟨_, List.getElem?_eq_getElem hlt⟩
  obtain ⟨rb, off, rc, e, hrl, hc⟩ := (uh HM1).vals.cells (by omega)
  subst e
  have d0 := (hc n x hx).1
  have d1 := (hc n x hx).2.1
  have d2 := (hc n x hx).2.2
  have HR : Hid (R = x) := by show _ = _; rw [uh HL, hb, hx]; rfl
  have i2 : (n : Int) < (m.vals.length : Int) := by omega
  obtain ⟨z0, z1, z2, y0, y1, y2, s0, s1, s2⟩ := res_facts (uh HX) hk1 x
  have HK := hide (((uh HKA).trans hk1).fresh (Nat.le_refl _) (keeps_set3 w1 w.heap.size (.int .i64 x.kind) (.int .i64 x.n) (str x.s)))
  clear hk1 HH HL HHB hn hc
  go_wp2_with fail
  refine bodyPost_ret (v := .agg #[.int .i64 x.kind, .int .i64 x.n, str x.s]) (by simp [results, go_sem, s0, s1, s2]) rfl ?_
  exact ⟨by rw [uh HR]; rfl, uh HK⟩
end Go.Proofs.YtbokbdcjpbnodaaGreatDoor
namespace Go.Proofs.YtbokbdcjpbnodaaGreatDoor
open Go.RowKit Go.Maps
set_option maxRecDepth 100000
set_option maxHeartbeats 2000000
theorem vcs_set3 (v : ValA) : ∀ (l : List ValA) (n : Nat), n < l.length → (((vcs l).set (n * 3) (.int .i64 v.kind)).set (n * 3 + 1) (.int .i64 v.n)).set (n * 3 + 2) (str v.s) = vcs (l.set n v)
 | [], _, h => by simp at h
 | x :: r, 0, _ => by simp [vcs, ValA.cs]
 | x :: r, n + 1, h => by
  have ih := vcs_set3 v r n (by simpa using h)
  have e : ∀ y : ValA, ∀ q : List ValA, vcs (y :: q) = y.cs ++ vcs q := fun y q => by simp [vcs]
  rw [List.set_cons_succ, e, e, ← ih, show (n + 1) * 3 = n * 3 + 3 by omega]
  rfl
theorem own_set3 {w : World} {B : Nat} {rv : Value} {l : List ValA} (h : w.ownsRow B 74 3 rv l.length (vcs l)) {g cap : Nat} (hr : rv = .slice (some ⟨g, 0, none⟩) l.length cap) {n : Nat} (hn : n < l.length) (v : ValA) :
  (((w.setCell ⟨g, n * 3, none⟩ (.int .i64 v.kind)).setCell ⟨g, n * 3 + 1, none⟩ (.int .i64 v.n)).setCell ⟨g, n * 3 + 2, none⟩ (str v.s)).ownsRow B 74 3 rv (l.set n v).length (vcs (l.set n v)) := by
 subst hr
 have h1 := (((h.stored (n * 3) (.int .i64 v.kind)).1.stored (n * 3 + 1) (.int .i64 v.n)).1.stored (n * 3 + 2) (str v.s)).1
 rw [vcs_set3 v l n hn] at h1
 simpa using h1
theorem keeps_at3 (w : World) (g a b c : Nat) (x y z : Value) : Keeps (fun q => q = g) w (((w.setCell ⟨g, a, none⟩ x).setCell ⟨g, b, none⟩ y).setCell ⟨g, c, none⟩ z) :=
 Keeps.setCell (F := fun q => q = g) (p := ⟨g, c, none⟩) (Keeps.setCell (F := fun q => q = g) (p := ⟨g, b, none⟩) (Keeps.setCell (F := fun q => q = g) (p := ⟨g, a, none⟩) (Keeps.refl (fun q => q = g) w) (fun _ => rfl) x) (fun _ => rfl) y) (fun _ => rfl) z
theorem RunAt.other {w : World} {b : Nat} {sv rv : Value} {m : MS} (h : RunAt w b sv rv m) {hh : Bool} (he : m.here = hh) (vals : List ValA) : RunAt w b sv rv ⟨m.st, hh, vals⟩ := ⟨h.blk, h.c0, he ▸ h.c1, h.c2, h.ch, h.stk, h.len⟩
abbrev Own (b : Nat) (rv : Value) : Nat → Prop := fun q => q = b ∨ rv.ownBlock = some q
theorem set_v {w0 w : World} {b : Nat} {sv rv : Value} {m : MS} (h : MR w0 w b sv rv m) (n : Nat) (v : ValA) (hn : m.here = true → n < m.vals.length) :
  Calls Tryz.prog 93 #[.pointer (some ⟨b, 0, none⟩), .int .i64 (n : Int), v.v] w fun e w' => e = .returned (.tuple #[]) ∧ MR w0 w' b sv rv ⟨m.st, (setR m n v).1, (setR m n v).2⟩ ∧ Keeps (Own b rv) w w' := by
 have HKA := hide (kAlloc w (.cells #[.int .i64 v.kind, .int .i64 v.n, str v.s] 74))
 have h1 := h.keepF (uh HKA)
 have hX := heap_alloc_new w (.cells #[.int .i64 v.kind, .int .i64 v.n, str v.s] 74)
 have HM := hide h1
 have c1 := h1.run.c1
 have c2 := h1.run.c2
 have hb1 := h1.run.lt
 cases hh : m.here with
 | false =>
  rw [hh] at c1
  have HR : Hid (setR m n v = (m.here, m.vals)) := by show _ = _; unfold setR; rw [hh]; rfl
  clear hX hn h1 h
  unfold ValA.v
  go_enter Tryz.func93, Tryz.ntmps93
  go_wp2_with fail
  go_end0
  refine ⟨rfl, ?_, (uh HKA).any⟩
  rw [uh HR]
  exact uh HM
 | true =>
  rw [hh] at c1
  have hlt := hn hh
  have HR : Hid (setR m n v = (true, m.vals.set n v)) := by show _ = _; unfold setR; rw [hh]; rfl
  have hown := h1.own hh
  obtain ⟨g, cap, cur, e, hg, hgb, rest⟩ : ∃ g cap cur, rv = .slice (some ⟨g, 0, none⟩) m.vals.length cap ∧ w0.heap.size ≤ g ∧ (w.alloc (.cells #[.int .i64 v.kind, .int .i64 v.n, str v.s] 74)).heap[g]? = some (.cells cur 74 (0, 0)) ∧ True := by
   rcases hown.2 with ⟨_, h0⟩ | ⟨g, cap, cur, a1, a2, a3, _⟩
   ·omega
   ·exact ⟨g, cap, cur, a1, a2, a3, trivial⟩
  have HS := hide (own_set3 hown e hlt v)
  obtain ⟨curb, hBb, _⟩ := h1.run.blk
  have hne := ownsRow_ne hown hBb (by decide)
  rw [e] at hne
  have HNE : Hid (b ≠ g) := fun q => hne (by simp [Value.ownBlock, q])
  clear hBb hne
  have HO := hide hown
  have hvals := h1.vals
  subst e
  obtain ⟨g', off', cap', e', hgl, hc⟩ := hvals.cells (by omega)
  simp only [Value.slice.injEq, Option.some.injEq, Addr.mk.injEq, and_true, true_and] at e'
  obtain ⟨⟨rfl, rfl⟩, rfl⟩ := e'
  obtain ⟨x, hx⟩ : ∃ x, m.vals[n]? = some x := ⟨_, List.getElem?_eq_getElem hlt⟩
  have d0 := (hc n x hx).1
  have d1 := (hc n x hx).2.1
  have d2 := (hc n x hx).2.2
  simp only [Nat.zero_add] at d0 d1 d2
  have z0 := frozen_of_blk hgb (n * 3)
  have z1 := frozen_of_blk hgb (n * 3 + 1)
  have z2 := frozen_of_blk hgb (n * 3 + 2)
  have i0 : (0 : Int) ≤ (n : Int) := by omega
  have i1 : (n : Int) < (m.vals.length : Int) := by omega
  have HNW := hide h.new
  have HG := hide hg
  unfold ValA.v
  clear hn h1 h hc hown hvals hx hgb hg rest
  go_enter Tryz.func93, Tryz.ntmps93
  go_wp2_with fail
  generalize w.alloc (.cells #[.int .i64 v.kind, .int .i64 v.n, str v.s] 74) = W at *
  have y5 : W.cell? ⟨w.heap.size, 0, none⟩ = some (.int .i64 v.kind) := (cell_of_blk hX _).trans rfl
  have y6 : W.cell? ⟨w.heap.size, 1, none⟩ = some (.int .i64 v.n) := (cell_of_blk hX _).trans rfl
  have y7 : W.cell? ⟨w.heap.size, 2, none⟩ = some (str v.s) := (cell_of_blk hX _).trans rfl
  clear hX
  go_region
  go_wp2_with fail
  go_end0
  have k3 := keeps_at3 W g (n * 3) (n * 3 + 1) (n * 3 + 2) (.int .i64 v.kind) (.int .i64 v.n) (str v.s)
  have kd := (Keeps.refl (fun _ => False) (((W.setCell ⟨g, n * 3, none⟩ (.int .i64 v.kind)).setCell ⟨g, n * 3 + 1, none⟩ (.int .i64 v.n)).setCell ⟨g, n * 3 + 2, none⟩ (str v.s))).drew
  refine ⟨rfl, ?_, ?_⟩
  ·rw [uh HR]
   refine ⟨((((uh HM).run.keep k3 (uh HNE)).keepF kd).other hh _), ((uh HM).kept.then k3 (fun i hi e => by have := uh HG; omega)).trans kd, uh HNW, fun _ => ownsRow_kept (uh HS) kd (fun _ _ => id), fun q => (by cases q), fun q e => ?_⟩
   obtain ⟨h1, cur2, h2⟩ := (uh HM).rty q e
   have hq : q = g := by simp [Value.ownBlock] at e; exact e.symm
   subst hq
   exact ⟨h1, _, heap_setCell_at (heap_setCell_at (heap_setCell_at h2 _) _) _⟩
  ·have kk : Keeps (Own b (.slice (some ⟨g, 0, none⟩) m.vals.length cap)) w W := (uh HKA).any
   refine ((kk.trans (k3.mono fun q _ e => ?_))).drew
   exact Or.inr (by rw [e]; rfl)
end Go.Proofs.YtbokbdcjpbnodaaGreatDoor
namespace Go.Proofs.YtbokbdcjpbnodaaGreatDoor
open Go.RowKit Go.Maps
set_option maxRecDepth 100000
set_option maxHeartbeats 2000000
theorem wrap64_eq (x : Int) : wrap64 x = IntKind.i64.wrap x := (IntWalk.i64_left x).symm
theorem run_field1 (k n : Int) (s : Txt) (W : World) : (Instr.field 74 (.agg #[.int .i64 k, .int .i64 n, str s]) 1).run Tryz.prog W = .ok (.int .i64 n) W := by
 kernel_rfl
theorem add_v {w0 w : World} {b : Nat} {sv rv : Value} {m : MS} (S : List FieldA) (h : MR w0 w b sv rv m) (hS : FldsAt w0 sv S) (n : Nat) (v : ValA) (hn : m.here = true → n < m.vals.length) (hns : n < S.length) :
  Calls Tryz.prog 94 #[.pointer (some ⟨b, 0, none⟩), .int .i64 (n : Int), v.v] w fun e w' => e = .returned (.tuple #[]) ∧ MR w0 w' b sv rv ⟨m.st, (setR m n (numV (wrap64 ((loadV S m n).n + v.n)))).1, (setR m n (numV (wrap64 ((loadV S m n).n + v.n)))).2⟩ ∧ Keeps (Own b rv) w w' := by
 have HKA := hide (kAlloc w (.cells #[.int .i64 v.kind, .int .i64 v.n, str v.s] 74))
 have hX := heap_alloc_new w (.cells #[.int .i64 v.kind, .int .i64 v.n, str v.s] 74)
 have HX := hide hX
 have HM := hide (h.keepF (uh HKA))
 have HLOAD := hide (fun (W : World) (q : MR w0 W b sv rv m) => load_v S q hS n hn hns)
 have HSET := hide (fun (W : World) (x : ValA) (q : MR w0 W b sv rv m) => set_v q n x hn)
 have HB := hide h.run.lt
 have HRL := hide (fun q e => (h.rlt q e).2)
 generalize loadV S m n = L at *
 unfold ValA.v
 clear hX h
 go_enter Tryz.func94, Tryz.ntmps94
 go_wp2_with fail
 generalize w.alloc (.cells #[.int .i64 v.kind, .int .i64 v.n, str v.s] 74) = W at *
 have p1 : w.heap.size < W.heap.size := lt_of_block (uh HX)
 have y6 : W.cell? ⟨w.heap.size, 1, none⟩ = some (.int .i64 v.n) := (cell_of_blk (uh HX) _).trans rfl
 have HD := hide (Keeps.refl (fun _ => False) W).drew
 have hfl := run_field1 L.kind L.n L.s
 go_region_held3 (fun w' => w'.cell? ⟨w.heap.size, 1, none⟩ = some (.int .i64 v.n))
  (first | with_reducible exact f4 | with_reducible exact f3 | with_reducible exact f2 | (go_keep; done) | assumption)
  (first
    | (go_at_call 93; refine ((uh HSET) _ _ m3).mono ?_; rintro e w4 ⟨rfl, hm4, hk4⟩; have f4 := (hk4.cell (o := 1) q3 (fun q => q.elim (fun q => by have := uh HB; omega) (fun q => by have := (uh HRL) _ q; omega))).trans f3)
    | (go_at_call 122; refine (number_v _ _).mono ?_; rintro e w3 ⟨rfl, hk3⟩; have q3 := Nat.lt_of_lt_of_le q2 hk3.size; have f3 := (hk3.cell (o := 1) q2 id).trans f2; have m3 := m2.keepF hk3)
    | (go_at_call 125; refine ((uh HLOAD) _ ((uh HM).keepF (uh HD))).mono ?_; rintro e w2 ⟨rfl, hk2⟩; have q2 := Nat.lt_of_lt_of_le (Nat.lt_of_lt_of_le p1 (uh HD).size) hk2.size; have f2 := (hk2.cell (o := 1) (Nat.lt_of_lt_of_le p1 (uh HD).size) id).trans (((uh HD).cell (o := 1) p1 id).trans y6); have m2 := ((uh HM).keepF (uh HD)).keepF hk2; unfold ValA.v))
 go_wp2_with fail
 go_end0
 have hm5 := hm4
 rw [← wrap64_eq] at hm5
 exact ⟨rfl, hm5, ((((uh HKA).trans (uh HD)).trans hk2).trans hk3).any.trans hk4⟩
theorem ownsRow_lt {w : World} {B e s n : Nat} {v : Value} {xs : List Value} (h : w.ownsRow B e s v n xs) : ∀ q, v.ownBlock = some q → B ≤ q ∧ ∃ cur, w.heap[q]? = some (.cells cur e (0, 0)) := by
 intro q hq
 rcases h.2 with ⟨hv, _⟩ | ⟨g, cap, cur, hv, hb, hg, _⟩
 ·rw [hv] at hq; simp [Value.ownBlock] at hq
 ·rw [hv] at hq
  simp [Value.ownBlock] at hq
  subst hq
  exact ⟨hb, cur, hg⟩
theorem ownsRow_base {w : World} {B C e s n : Nat} {v : Value} {xs : List Value} (h : w.ownsRow B e s v n xs) (hC : C ≤ B) : w.ownsRow C e s v n xs := by
 refine ⟨h.1, ?_⟩
 rcases h.2 with h0 | ⟨g, cap, cur, hv, hb, rest⟩
 ·exact Or.inl h0
 ·exact Or.inr ⟨g, cap, cur, hv, Nat.le_trans hC hb, rest⟩
theorem create_v {w0 w : World} {b : Nat} {sv rv : Value} {m : MS} (S : List FieldA) (h : MR w0 w b sv rv m) (hT : Types w0) (hS : FldsAt w0 sv S) (hz : errS S = 0) :
  Calls Tryz.prog 95 #[.pointer (some ⟨b, 0, none⟩)] w fun e w' => e = .returned (.tuple #[]) ∧ (∃ rv', MR w0 w' b sv rv' (if m.here then m else ⟨m.st, true, S.map zeroV⟩)) ∧ Keeps (Own b rv) w w' := by
 have c0 := h.run.c0
 have c1 := h.run.c1
 have hb := h.run.lt
 have HM := hide h
 cases hh : m.here with
 | true =>
  rw [hh] at c1
  clear h
  go_enter Tryz.func95, Tryz.ntmps95
  go_wp2_with fail
  go_end0
  exact ⟨rfl, ⟨rv, uh HM⟩, Keeps.refl _ _⟩
 | false =>
  rw [hh] at c1
  have HZ := hide (fun (W : World) (hk : Keeps (fun _ => False) w0 W) => val_zero S sv W (hT.keepF hk) (hS.keepF hk))
  obtain ⟨ao, cap, rfl⟩ := RowAt.form hS
  clear h
  go_enter Tryz.func95, Tryz.ntmps95
  go_wp2_with fail
  refine ((uh HZ) _ (uh HM).kept).mono ?_
  rintro e w1 ⟨v', rfl, ho1, hk1⟩
  have hM1 := (uh HM).keepF hk1
  obtain ⟨cur, hB, hs⟩ := hM1.run.blk
  have z1 := frozen_of_blk hB 1
  have z2 := frozen_of_blk hB 2
  have c1' := hM1.run.c1
  have c2' := hM1.run.c2
  rw [hh] at c1'
  have hb1 := hM1.run.lt
  have HM1 := hide hM1
  have HO1 := hide ho1
  have HK1 := hide hk1
  obtain ⟨zo, zc, rfl⟩ := RowAt.form (rowAt_own ho1)
  clear hM1 ho1 hk1 hB hs
  go_wp2_with fail
  go_end0
  have hSB : schemaB S = true := by unfold errS at hz; by_cases q : schemaB S = true
                                    ·exact q
                                    ·rw [if_neg q] at hz; cases hz
  have hzb : zeroB S = S.map zeroV := by unfold zeroB zeros; rw [if_pos hSB]
  have ko : Keeps (fun q => q = b) w1 ((w1.setCell ⟨b, 1, none⟩ (.bool true)).setCell ⟨b, 2, none⟩ (.slice zo (zeroB S).length zc)) := Keeps.setCell (F := fun q => q = b) (p := ⟨b, 2, none⟩) (Keeps.setCell (F := fun q => q = b) (p := ⟨b, 1, none⟩) (Keeps.refl (fun q => q = b) w1) (fun _ => rfl) _) (fun _ => rfl) _
  obtain ⟨cur, hB, hs⟩ := (uh HM1).run.blk
  have hE := heap_setCell_at (o := 2) (heap_setCell_at (o := 1) hB (.bool true)) (.slice zo (zeroB S).length zc)
  have hq : ∀ o, o ≠ 1 → o ≠ 2 → ((w1.setCell ⟨b, 1, none⟩ (.bool true)).setCell ⟨b, 2, none⟩ (.slice zo (zeroB S).length zc)).cell? ⟨b, o, none⟩ = w1.cell? ⟨b, o, none⟩ := fun o h1 h2 => by
   rw [cell_of_blk hE, cell_of_blk hB, Array.getElem?_setIfInBounds_ne (Ne.symm h2), Array.getElem?_setIfInBounds_ne (Ne.symm h1)]
  have hr := (uh HM1).run
  have hown := ownsRow_kept (uh HO1) ko (fun q e hq => ownsRow_ne (uh HO1) hB (by decide) (by rw [e, hq]))
  have hlt1 := ownsRow_lt (uh HO1)
  refine ⟨rfl, ⟨.slice zo (zeroB S).length zc, ⟨⟨⟨_, hE, by simpa using hs⟩, (hq 0 (by omega) (by omega)).trans hr.c0, ?_, ?_, (hq 51 (by omega) (by omega)).trans hr.ch, fun i v hv => ⟨(hq _ (by omega) (by omega)).trans (hr.stk i v hv).1, (hq _ (by omega) (by omega)).trans (hr.stk i v hv).2.1, (hq _ (by omega) (by omega)).trans (hr.stk i v hv).2.2⟩, hr.len⟩, ?_, (uh HM1).new, fun _ => ?_, fun q => (by cases q), fun q e => ?_⟩⟩, ?_⟩
  ·rw [cell_of_blk hE, Array.getElem?_setIfInBounds_ne (by omega)]; simp [hs]
  ·rw [cell_of_blk hE]; simp [hs]
  ·exact (uh HM1).kept.then ko (fun i hi e => by have := (uh HM1).new; omega)
  ·rw [← hzb]
   exact ownsRow_base hown (Nat.le_trans (uh HM).kept.size (Nat.le_refl _))
  ·obtain ⟨h1, cur2, h2⟩ := hlt1 q e
   have hne : ¬ q = b := fun q' => by subst q'; rw [hB] at h2; simp at h2
   exact ⟨Nat.le_trans (uh HM).kept.size h1, cur2, (ko.block q (lt_of_block h2) hne).trans h2⟩
  ·exact (uh HK1).any.trans (ko.mono fun q _ e => Or.inl e)
end Go.Proofs.YtbokbdcjpbnodaaGreatDoor
namespace Go.Proofs.YtbokbdcjpbnodaaGreatDoor
open Go.RowKit Go.Maps
set_option maxRecDepth 100000
set_option maxHeartbeats 2000000
theorem told_v {w0 w : World} {b : Nat} {sv rv : Value} {m : MS} (S : List FieldA) (h : MR w0 w b sv rv m) (hS : FldsAt w0 sv S) (x : ValA) (hx : x.kind ∈ ([1, 2, 3, 4, 5, 6, 7] : List Int)) (hn : x.kind = 5 ∨ x.kind = 6 → 0 ≤ x.n ∧ x.n.toNat < S.length ∧ (m.here = true → x.n.toNat < m.vals.length)) :
  Calls Tryz.prog 96 #[.pointer (some ⟨b, 0, none⟩), x.v] w fun e w' => e = .returned (toldV S x m).v ∧ Keeps (fun _ => False) w w' := by
 obtain ⟨o, n, s⟩ := x
 simp only at hx hn
 have HKA := hide ((kAlloc w (.cells #[.int .i64 o, .int .i64 n, str s] 106)).alloc (.cells #[.int .i64 0, .int .i64 0, .string ⟨#[]⟩] 74))
 have hX := heap_alloc_new (w.alloc (.cells #[.int .i64 o, .int .i64 n, str s] 106)) (.cells #[.int .i64 0, .int .i64 0, .string ⟨#[]⟩] 74)
 rw [show (w.alloc (.cells #[.int .i64 o, .int .i64 n, str s] 106)).heap.size = w.heap.size + 1 by simp] at hX
 have HX := hide hX
 have HM := hide (h.keepF (uh HKA))
 have hb := (uh HM).run.lt
 have c1 := (uh HM).run.c1
 have HB := hide h.run.lt
 clear hX h
 unfold ValA.v
 simp only [List.mem_cons, List.not_mem_nil, or_false] at hx
 rcases hx with rfl | rfl | rfl | rfl | rfl | rfl | rfl
 ·rw [show toldV S ⟨1, n, s⟩ m = numV n from rfl]
  go_enter Tryz.func96, Tryz.ntmps96
  go_wp2_with fail
  refine (number_v n _).mono ?_
  rintro e w1 ⟨rfl, hk1⟩
  generalize hx : numV n = x at *
  have HXE := hide hx
  clear hx
  obtain ⟨z0, z1, z2, y0, y1, y2, s0, s1, s2⟩ := res_facts (uh HX) hk1 x
  have HK := hide (((uh HKA).trans hk1).fresh (by omega) (keeps_set3 w1 (w.heap.size + 1) (.int .i64 x.kind) (.int .i64 x.n) (str x.s)))
  unfold ValA.v
  clear hk1
  go_wp2_with fail
  refine bodyPost_ret (v := .agg #[.int .i64 x.kind, .int .i64 x.n, str x.s]) (by simp [results, go_sem, s0, s1, s2]) rfl ?_
  exact ⟨by rw [uh HXE], uh HK⟩
 ·rw [show toldV S ⟨2, n, s⟩ m = truV true from rfl]
  go_enter Tryz.func96, Tryz.ntmps96
  go_wp2_with fail
  refine (truth_v true _).mono ?_
  rintro e w1 ⟨rfl, hk1⟩
  generalize hx : truV true = x at *
  have HXE := hide hx
  clear hx
  obtain ⟨z0, z1, z2, y0, y1, y2, s0, s1, s2⟩ := res_facts (uh HX) hk1 x
  have HK := hide (((uh HKA).trans hk1).fresh (by omega) (keeps_set3 w1 (w.heap.size + 1) (.int .i64 x.kind) (.int .i64 x.n) (str x.s)))
  unfold ValA.v
  clear hk1
  go_wp2_with fail
  refine bodyPost_ret (v := .agg #[.int .i64 x.kind, .int .i64 x.n, str x.s]) (by simp [results, go_sem, s0, s1, s2]) rfl ?_
  exact ⟨by rw [uh HXE], uh HK⟩
 ·rw [show toldV S ⟨3, n, s⟩ m = truV false from rfl]
  go_enter Tryz.func96, Tryz.ntmps96
  go_wp2_with fail
  refine (truth_v false _).mono ?_
  rintro e w1 ⟨rfl, hk1⟩
  generalize hx : truV false = x at *
  have HXE := hide hx
  clear hx
  obtain ⟨z0, z1, z2, y0, y1, y2, s0, s1, s2⟩ := res_facts (uh HX) hk1 x
  have HK := hide (((uh HKA).trans hk1).fresh (by omega) (keeps_set3 w1 (w.heap.size + 1) (.int .i64 x.kind) (.int .i64 x.n) (str x.s)))
  unfold ValA.v
  clear hk1
  go_wp2_with fail
  refine bodyPost_ret (v := .agg #[.int .i64 x.kind, .int .i64 x.n, str x.s]) (by simp [results, go_sem, s0, s1, s2]) rfl ?_
  exact ⟨by rw [uh HXE], uh HK⟩
 ·rw [show toldV S ⟨4, n, s⟩ m = bytV s from rfl]
  go_enter Tryz.func96, Tryz.ntmps96
  go_wp2_with fail
  refine (text_v s _).mono ?_
  rintro e w1 ⟨rfl, hk1⟩
  generalize hx : bytV s = x at *
  have HXE := hide hx
  clear hx
  obtain ⟨z0, z1, z2, y0, y1, y2, s0, s1, s2⟩ := res_facts (uh HX) hk1 x
  have HK := hide (((uh HKA).trans hk1).fresh (by omega) (keeps_set3 w1 (w.heap.size + 1) (.int .i64 x.kind) (.int .i64 x.n) (str x.s)))
  unfold ValA.v
  clear hk1
  go_wp2_with fail
  refine bodyPost_ret (v := .agg #[.int .i64 x.kind, .int .i64 x.n, str x.s]) (by simp [results, go_sem, s0, s1, s2]) rfl ?_
  exact ⟨by rw [uh HXE], uh HK⟩
 ·rw [show toldV S ⟨5, n, s⟩ m = loadV S m n.toNat from rfl]
  obtain ⟨n0, n1, n2⟩ := hn (Or.inl rfl)
  obtain ⟨k, rfl⟩ := Int.eq_ofNat_of_zero_le n0
  rw [Int.toNat_natCast] at n1 n2 ⊢
  have HQ := hide (load_v S (uh HM) hS k n2 n1)
  go_enter Tryz.func96, Tryz.ntmps96
  go_wp2_with fail
  refine (uh HQ).mono ?_
  rintro e w1 ⟨rfl, hk1⟩
  clear HQ
  generalize hx : loadV S m k = x at *
  have HXE := hide hx
  clear hx
  obtain ⟨z0, z1, z2, y0, y1, y2, s0, s1, s2⟩ := res_facts (uh HX) hk1 x
  have HK := hide (((uh HKA).trans hk1).fresh (by omega) (keeps_set3 w1 (w.heap.size + 1) (.int .i64 x.kind) (.int .i64 x.n) (str x.s)))
  unfold ValA.v
  clear hk1
  go_wp2_with fail
  refine bodyPost_ret (v := .agg #[.int .i64 x.kind, .int .i64 x.n, str x.s]) (by simp [results, go_sem, s0, s1, s2]) rfl ?_
  exact ⟨by rw [uh HXE], uh HK⟩
 ·rw [show toldV S ⟨6, n, s⟩ m = truV (hasB m n.toNat) from rfl]
  obtain ⟨n0, n1, n2⟩ := hn (Or.inr rfl)
  obtain ⟨k, rfl⟩ := Int.eq_ofNat_of_zero_le n0
  rw [Int.toNat_natCast] at n1 n2 ⊢
  have HQ := hide (has_v (uh HM) k n2)
  go_enter Tryz.func96, Tryz.ntmps96
  go_wp2_with fail
  refine (uh HQ).mono ?_
  rintro e w0' ⟨rfl, hk0⟩
  replace HX := hide ((hk0.block _ (lt_of_block (uh HX)) id).trans (uh HX))
  replace HKA := hide ((uh HKA).trans hk0)
  clear HQ hk0
  go_wp2_with fail
  refine (truth_v (hasB m k) _).mono ?_
  rintro e w1 ⟨rfl, hk1⟩
  generalize hx : truV (hasB m k) = x at *
  have HXE := hide hx
  clear hx
  obtain ⟨z0, z1, z2, y0, y1, y2, s0, s1, s2⟩ := res_facts (uh HX) hk1 x
  have HK := hide (((uh HKA).trans hk1).fresh (by omega) (keeps_set3 w1 (w.heap.size + 1) (.int .i64 x.kind) (.int .i64 x.n) (str x.s)))
  unfold ValA.v
  clear hk1
  go_wp2_with fail
  refine bodyPost_ret (v := .agg #[.int .i64 x.kind, .int .i64 x.n, str x.s]) (by simp [results, go_sem, s0, s1, s2]) rfl ?_
  exact ⟨by rw [uh HXE], uh HK⟩
 ·rw [show toldV S ⟨7, n, s⟩ m = truV m.here from rfl]
  go_enter Tryz.func96, Tryz.ntmps96
  go_wp2_with fail
  refine (truth_v m.here _).mono ?_
  rintro e w1 ⟨rfl, hk1⟩
  generalize hx : truV m.here = x at *
  have HXE := hide hx
  clear hx
  obtain ⟨z0, z1, z2, y0, y1, y2, s0, s1, s2⟩ := res_facts (uh HX) hk1 x
  have HK := hide (((uh HKA).trans hk1).fresh (by omega) (keeps_set3 w1 (w.heap.size + 1) (.int .i64 x.kind) (.int .i64 x.n) (str x.s)))
  unfold ValA.v
  clear hk1
  go_wp2_with fail
  refine bodyPost_ret (v := .agg #[.int .i64 x.kind, .int .i64 x.n, str x.s]) (by simp [results, go_sem, s0, s1, s2]) rfl ?_
  exact ⟨by rw [uh HXE], uh HK⟩
end Go.Proofs.YtbokbdcjpbnodaaGreatDoor
namespace Go.Proofs.YtbokbdcjpbnodaaGreatDoor
open Go.RowKit Go.Maps
set_option maxRecDepth 100000
set_option maxHeartbeats 4000000
theorem take_all (l : List ValA) : l.take (l.length - 0) = l := by simp
theorem top_get {l : List ValA} {n : Nat} (h : l.length = n + 1) : l[n]? = some (topV l) := by
 unfold topV
 rw [h, Nat.add_sub_cancel, List.getElem?_eq_getElem (by omega)]
 rfl
theorem stepA_v {w0 w : World} {b : Nat} {sv rv : Value} {m : MS} (S : List FieldA) (h : MR w0 w b sv rv m) (hS : FldsAt w0 sv S) (x : ValA) (hx : x.kind ∈ ([1, 2, 3, 4, 5, 6, 7] : List Int)) (hn : x.kind = 5 ∨ x.kind = 6 → 0 ≤ x.n ∧ x.n.toNat < S.length ∧ (m.here = true → x.n.toNat < m.vals.length)) (hl : m.st.length < 16) :
  Calls Tryz.prog 69 #[.pointer (some ⟨b, 0, none⟩), x.v] w fun e w' => e = .returned (.tuple #[]) ∧ MR w0 w' b sv rv ⟨m.st ++ [toldV S x m], m.here, m.vals⟩ ∧ Keeps (fun q => q = b) w w' := by
 have HKA := hide (kAlloc w (.cells #[.int .i64 x.kind, .int .i64 x.n, str x.s] 106))
 have HM := hide (h.keepF (uh HKA))
 have HQ := hide (told_v S (uh HM) hS x hx hn)
 have HP := hide (fun (W : World) (q : MR w0 W b sv rv m) => push_v q.run (toldV S x m) hl)
 generalize toldV S x m = T at *
 obtain ⟨o, n, s⟩ := x
 simp only at *
 unfold ValA.v at *
 clear h hn
 simp only [List.mem_cons, List.not_mem_nil, or_false] at hx
 rcases hx with rfl | rfl | rfl | rfl | rfl | rfl | rfl
 all_goals
  go_enter Tryz.func69, Tryz.ntmps69
  go_wp2_with fail
  refine (uh HQ).mono ?_
  rintro e w1 ⟨rfl, hk1⟩
  have m1 := (uh HM).keepF hk1
  have HQ2 := hide ((uh HP) w1 m1)
  have HM1 := hide m1
  have HK1 := hide ((uh HKA).trans hk1)
  clear HQ HP m1 hk1 HM HKA
  go_wp2_with fail
  refine (uh HQ2).mono ?_
  rintro e w2 ⟨rfl, hr2, hk2⟩
  have HR2 := hide hr2
  have HK2 := hide hk2
  clear hr2 hk2 HQ2
  go_wp2_with fail
  go_end0
  exact ⟨rfl, (uh HM1).stack (uh HR2) (uh HK2), (uh HK1).any.trans (uh HK2)⟩
end Go.Proofs.YtbokbdcjpbnodaaGreatDoor
namespace Go.Proofs.YtbokbdcjpbnodaaGreatDoor
open Go.RowKit Go.Maps
set_option maxRecDepth 100000
set_option maxHeartbeats 4000000
theorem step8_v {w0 w : World} {b : Nat} {sv rv : Value} {m : MS} (h : MR w0 w b sv rv m) (n : Int) (s : Txt) {k : Nat} (hk : m.st.length = k + 1) :
  Calls Tryz.prog 69 #[.pointer (some ⟨b, 0, none⟩), ValA.v ⟨8, n, s⟩] w fun e w' => e = .returned (.tuple #[]) ∧ MR w0 w' b sv rv ⟨m.st.take k ++ [oneV 8 (topV m.st)], m.here, m.vals⟩ ∧ Keeps (fun q => q = b) w w' := by
 have HKA := hide (kAlloc w (.cells #[.int .i64 8, .int .i64 n, str s] 106))
 have HM := hide (h.keepF (uh HKA))
 have HX := hide (heap_alloc_new w (.cells #[.int .i64 8, .int .i64 n, str s] 106))
 have HB := hide h.run.lt
 have HL := hide h.run.len
 have HT := hide (top_get hk)
 have HKK := hide hk
 generalize topV m.st = T at *
 unfold ValA.v
 go_enter Tryz.func69, Tryz.ntmps69
 go_wp2_with fail
 generalize w.alloc (.cells #[.int .i64 8, .int .i64 n, str s] 106) = W at *
 have p1 : w.heap.size < W.heap.size := lt_of_block (uh HX)
 have y0 : W.cell? ⟨w.heap.size, 0, none⟩ = some (.int .i64 8) := (cell_of_blk (uh HX) _).trans rfl
 have HD := hide (Keeps.refl (fun _ => False) W).drew
 have p2 := Nat.lt_of_lt_of_le p1 (uh HD).size
 have HY : Hid (W.drew.cell? ⟨w.heap.size, 0, none⟩ = some (.int .i64 8)) := ((uh HD).cell p1 id).trans y0
 have HTL : Hid ((m.st.take k).length < 16) := by show _ < _; have := uh HL; have := uh HKK; simp; omega
 have HMD := hide ((uh HM).keepF (uh HD))
 clear h hk
 go_region_held3 (fun w' => w'.cell? ⟨w.heap.size, 0, none⟩ = some (.int .i64 8))
  (first | with_reducible exact f4 | with_reducible exact f3 | with_reducible exact f2 | (go_keep; done) | assumption)
  (first
    | (go_at_call 90; refine (push_v m3.run (oneV 8 T) (uh HTL)).mono ?_; rintro e w4 ⟨rfl, hr4, hk4⟩; have f4 := (hk4.cell (o := 0) q3 (by have := uh HB; omega)).trans f3)
    | (go_at_call 91; refine (ofOne_v 8 T _ (Or.inl rfl)).mono ?_; rintro e w3 ⟨rfl, hk3⟩; have q3 := Nat.lt_of_lt_of_le q2 hk3.size; have f3 := (hk3.cell (o := 0) q2 id).trans f2; have m3 := m2.keepF hk3)
    | (go_at_call 68; refine (pop_v (uh HMD).run (uh HKK) (uh HT)).mono ?_; rintro e w2 ⟨rfl, hr2, hk2⟩; have q2 := Nat.lt_of_lt_of_le p2 hk2.size; have f2 := (hk2.cell (o := 0) p2 (by have := uh HB; omega)).trans (uh HY); have m2 := (uh HMD).stack hr2 hk2))
 go_wp2_with fail
 go_end0
 exact ⟨rfl, m3.stack hr4 hk4, ((((uh HKA).trans (uh HD)).any.trans hk2).trans hk3.any).trans hk4⟩
theorem step9_v {w0 w : World} {b : Nat} {sv rv : Value} {m : MS} (h : MR w0 w b sv rv m) (n : Int) (s : Txt) {k : Nat} (hk : m.st.length = k + 1) :
  Calls Tryz.prog 69 #[.pointer (some ⟨b, 0, none⟩), ValA.v ⟨9, n, s⟩] w fun e w' => e = .returned (.tuple #[]) ∧ MR w0 w' b sv rv ⟨m.st.take k ++ [oneV 9 (topV m.st)], m.here, m.vals⟩ ∧ Keeps (fun q => q = b) w w' := by
 have HKA := hide (kAlloc w (.cells #[.int .i64 9, .int .i64 n, str s] 106))
 have HM := hide (h.keepF (uh HKA))
 have HX := hide (heap_alloc_new w (.cells #[.int .i64 9, .int .i64 n, str s] 106))
 have HB := hide h.run.lt
 have HL := hide h.run.len
 have HT := hide (top_get hk)
 have HKK := hide hk
 generalize topV m.st = T at *
 unfold ValA.v
 go_enter Tryz.func69, Tryz.ntmps69
 go_wp2_with fail
 generalize w.alloc (.cells #[.int .i64 9, .int .i64 n, str s] 106) = W at *
 have p1 : w.heap.size < W.heap.size := lt_of_block (uh HX)
 have y0 : W.cell? ⟨w.heap.size, 0, none⟩ = some (.int .i64 9) := (cell_of_blk (uh HX) _).trans rfl
 have HD := hide (Keeps.refl (fun _ => False) W).drew
 have p2 := Nat.lt_of_lt_of_le p1 (uh HD).size
 have HY : Hid (W.drew.cell? ⟨w.heap.size, 0, none⟩ = some (.int .i64 9)) := ((uh HD).cell p1 id).trans y0
 have HTL : Hid ((m.st.take k).length < 16) := by show _ < _; have := uh HL; have := uh HKK; simp; omega
 have HMD := hide ((uh HM).keepF (uh HD))
 clear h hk
 go_region_held3 (fun w' => w'.cell? ⟨w.heap.size, 0, none⟩ = some (.int .i64 9))
  (first | with_reducible exact f4 | with_reducible exact f3 | with_reducible exact f2 | (go_keep; done) | assumption)
  (first
    | (go_at_call 90; refine (push_v m3.run (oneV 9 T) (uh HTL)).mono ?_; rintro e w4 ⟨rfl, hr4, hk4⟩; have f4 := (hk4.cell (o := 0) q3 (by have := uh HB; omega)).trans f3)
    | (go_at_call 91; refine (ofOne_v 9 T _ (Or.inr (Or.inl rfl))).mono ?_; rintro e w3 ⟨rfl, hk3⟩; have q3 := Nat.lt_of_lt_of_le q2 hk3.size; have f3 := (hk3.cell (o := 0) q2 id).trans f2; have m3 := m2.keepF hk3)
    | (go_at_call 68; refine (pop_v (uh HMD).run (uh HKK) (uh HT)).mono ?_; rintro e w2 ⟨rfl, hr2, hk2⟩; have q2 := Nat.lt_of_lt_of_le p2 hk2.size; have f2 := (hk2.cell (o := 0) p2 (by have := uh HB; omega)).trans (uh HY); have m2 := (uh HMD).stack hr2 hk2))
 go_wp2_with fail
 go_end0
 exact ⟨rfl, m3.stack hr4 hk4, ((((uh HKA).trans (uh HD)).any.trans hk2).trans hk3.any).trans hk4⟩
theorem step18_v {w0 w : World} {b : Nat} {sv rv : Value} {m : MS} (h : MR w0 w b sv rv m) (n : Int) (s : Txt) {k : Nat} (hk : m.st.length = k + 1) :
  Calls Tryz.prog 69 #[.pointer (some ⟨b, 0, none⟩), ValA.v ⟨18, n, s⟩] w fun e w' => e = .returned (.tuple #[]) ∧ MR w0 w' b sv rv ⟨m.st.take k ++ [oneV 18 (topV m.st)], m.here, m.vals⟩ ∧ Keeps (fun q => q = b) w w' := by
 have HKA := hide (kAlloc w (.cells #[.int .i64 18, .int .i64 n, str s] 106))
 have HM := hide (h.keepF (uh HKA))
 have HX := hide (heap_alloc_new w (.cells #[.int .i64 18, .int .i64 n, str s] 106))
 have HB := hide h.run.lt
 have HL := hide h.run.len
 have HT := hide (top_get hk)
 have HKK := hide hk
 generalize topV m.st = T at *
 unfold ValA.v
 go_enter Tryz.func69, Tryz.ntmps69
 go_wp2_with fail
 generalize w.alloc (.cells #[.int .i64 18, .int .i64 n, str s] 106) = W at *
 have p1 : w.heap.size < W.heap.size := lt_of_block (uh HX)
 have y0 : W.cell? ⟨w.heap.size, 0, none⟩ = some (.int .i64 18) := (cell_of_blk (uh HX) _).trans rfl
 have HD := hide (Keeps.refl (fun _ => False) W).drew
 have p2 := Nat.lt_of_lt_of_le p1 (uh HD).size
 have HY : Hid (W.drew.cell? ⟨w.heap.size, 0, none⟩ = some (.int .i64 18)) := ((uh HD).cell p1 id).trans y0
 have HTL : Hid ((m.st.take k).length < 16) := by show _ < _; have := uh HL; have := uh HKK; simp; omega
 have HMD := hide ((uh HM).keepF (uh HD))
 clear h hk
 go_region_held3 (fun w' => w'.cell? ⟨w.heap.size, 0, none⟩ = some (.int .i64 18))
  (first | with_reducible exact f4 | with_reducible exact f3 | with_reducible exact f2 | (go_keep; done) | assumption)
  (first
    | (go_at_call 90; refine (push_v m3.run (oneV 18 T) (uh HTL)).mono ?_; rintro e w4 ⟨rfl, hr4, hk4⟩; have f4 := (hk4.cell (o := 0) q3 (by have := uh HB; omega)).trans f3)
    | (go_at_call 91; refine (ofOne_v 18 T _ (Or.inr (Or.inr rfl))).mono ?_; rintro e w3 ⟨rfl, hk3⟩; have q3 := Nat.lt_of_lt_of_le q2 hk3.size; have f3 := (hk3.cell (o := 0) q2 id).trans f2; have m3 := m2.keepF hk3)
    | (go_at_call 68; refine (pop_v (uh HMD).run (uh HKK) (uh HT)).mono ?_; rintro e w2 ⟨rfl, hr2, hk2⟩; have q2 := Nat.lt_of_lt_of_le p2 hk2.size; have f2 := (hk2.cell (o := 0) p2 (by have := uh HB; omega)).trans (uh HY); have m2 := (uh HMD).stack hr2 hk2))
 go_wp2_with fail
 go_end0
 exact ⟨rfl, m3.stack hr4 hk4, ((((uh HKA).trans (uh HD)).any.trans hk2).trans hk3.any).trans hk4⟩
end Go.Proofs.YtbokbdcjpbnodaaGreatDoor
namespace Go.Proofs.YtbokbdcjpbnodaaGreatDoor
open Go.RowKit Go.Maps
set_option maxRecDepth 100000
set_option maxHeartbeats 4000000
theorem sec_get {l : List ValA} {k : Nat} (h : l.length = k + 1 + 1) : (l.take (k + 1)).length = k + 1 ∧ (l.take (k + 1))[k]? = some (secV l) ∧ (l.take (k + 1)).take k = l.take k := by
 refine ⟨by simp; omega, ?_, ?_⟩
 ·rw [List.getElem?_take, if_pos (by omega)]
  unfold secV
  rw [h, show k + 1 + 1 - 2 = k by omega, List.getElem?_eq_getElem (by omega)]
  rfl
 ·rw [List.take_take, Nat.min_eq_left (by omega)]
theorem step10_v {w0 w : World} {b : Nat} {sv rv : Value} {m : MS} (h : MR w0 w b sv rv m) (n : Int) (s : Txt) {k : Nat} (hk : m.st.length = k + 1 + 1) (hU : (secV m.st).s.length ≤ 20) (hT : (topV m.st).s.length ≤ 20) :
  Calls Tryz.prog 69 #[.pointer (some ⟨b, 0, none⟩), ValA.v ⟨10, n, s⟩] w fun e w' => e = .returned (.tuple #[]) ∧ MR w0 w' b sv rv ⟨m.st.take k ++ [twoV 10 (secV m.st) (topV m.st)], m.here, m.vals⟩ ∧ Keeps (fun q => q = b) w w' := by
 have HKA := hide (kAlloc w (.cells #[.int .i64 10, .int .i64 n, str s] 106))
 have HM := hide (h.keepF (uh HKA))
 have HX := hide (heap_alloc_new w (.cells #[.int .i64 10, .int .i64 n, str s] 106))
 have HB := hide h.run.lt
 have HL := hide h.run.len
 have HT := hide (top_get hk)
 have HS := hide (sec_get hk)
 have HKK := hide hk
 generalize topV m.st = T at *
 generalize secV m.st = U at *
 unfold ValA.v
 clear h hk
 go_enter Tryz.func69, Tryz.ntmps69
 go_wp2_with fail
 refine (pop_v (uh HM).run (uh HKK) (uh HT)).mono ?_
 rintro e w1 ⟨rfl, hr1, hk1⟩
 have m1 := (uh HM).stack hr1 hk1
 have HM1 := hide m1
 have HQ := hide (pop_v m1.run (uh HS).1 (uh HS).2.1)
 have HK1 := hide ((uh HKA).any.trans hk1)
 have HX1 := hide ((hk1.block _ (lt_of_block (uh HX)) (by have := uh HB; omega)).trans (uh HX))
 clear HM HKA HX hr1 hk1 m1
 go_wp2_with fail
 refine (uh HQ).mono ?_
 rintro e w2 ⟨rfl, hr2, hk2⟩
 rw [(uh HS).2.2] at hr2
 have m2 := (uh HM1).stack hr2 hk2
 have HM2 := hide m2
 have HK2 := hide ((uh HK1).trans hk2)
 have HX2 := hide ((hk2.block _ (lt_of_block (uh HX1)) (by have := uh HB; omega)).trans (uh HX1))
 clear HM1 HK1 HX1 hr2 hk2 m2 HQ
 have p1 : w.heap.size < w2.heap.size := lt_of_block (uh HX2)
 have y0 : w2.cell? ⟨w.heap.size, 0, none⟩ = some (.int .i64 10) := (cell_of_blk (uh HX2) _).trans rfl
 have HKB := hide ((kAlloc w2 (.cells #[.int .i64 T.kind, .int .i64 T.n, str T.s] 74)).alloc (.cells #[.int .i64 U.kind, .int .i64 U.n, str U.s] 74))
 have HM3 := hide ((uh HM2).keepF (uh HKB))
 have HW := hide (fun (W : World) => ofTwo10_v U T W hU hT)
 unfold ValA.v at HW ⊢
 go_wp2_with fail
 refine ((uh HW) _).mono ?_
 rintro e w3 ⟨rfl, hk3⟩
 have m3 := (uh HM3).keepF hk3
 have HM4 := hide m3
 have HK3 := hide ((uh HK2).trans ((uh HKB).trans hk3).any)
 have HTL : (m.st.take k).length < 16 := by have := uh HL; have := uh HKK; simp; omega
 have HP := hide (push_v m3.run (twoV 10 U T) HTL)
 clear HM2 HM3 HW HKB HX2 HK2 hk3 m3 y0 p1 HTL
 unfold ValA.v at HP
 go_wp2_with fail
 refine (uh HP).mono ?_
 rintro e w4 ⟨rfl, hr4, hk4⟩
 have HR4 := hide hr4
 have HK4 := hide hk4
 clear hr4 hk4 HP
 go_wp2_with fail
 go_end0
 exact ⟨rfl, (uh HM4).stack (uh HR4) (uh HK4), (uh HK3).trans (uh HK4)⟩
theorem step11_v {w0 w : World} {b : Nat} {sv rv : Value} {m : MS} (h : MR w0 w b sv rv m) (n : Int) (s : Txt) {k : Nat} (hk : m.st.length = k + 1 + 1) (hU : (secV m.st).s.length ≤ 20) (hT : (topV m.st).s.length ≤ 20) :
  Calls Tryz.prog 69 #[.pointer (some ⟨b, 0, none⟩), ValA.v ⟨11, n, s⟩] w fun e w' => e = .returned (.tuple #[]) ∧ MR w0 w' b sv rv ⟨m.st.take k ++ [twoV 11 (secV m.st) (topV m.st)], m.here, m.vals⟩ ∧ Keeps (fun q => q = b) w w' := by
 have HKA := hide (kAlloc w (.cells #[.int .i64 11, .int .i64 n, str s] 106))
 have HM := hide (h.keepF (uh HKA))
 have HX := hide (heap_alloc_new w (.cells #[.int .i64 11, .int .i64 n, str s] 106))
 have HB := hide h.run.lt
 have HL := hide h.run.len
 have HT := hide (top_get hk)
 have HS := hide (sec_get hk)
 have HKK := hide hk
 generalize topV m.st = T at *
 generalize secV m.st = U at *
 unfold ValA.v
 clear h hk
 go_enter Tryz.func69, Tryz.ntmps69
 go_wp2_with fail
 refine (pop_v (uh HM).run (uh HKK) (uh HT)).mono ?_
 rintro e w1 ⟨rfl, hr1, hk1⟩
 have m1 := (uh HM).stack hr1 hk1
 have HM1 := hide m1
 have HQ := hide (pop_v m1.run (uh HS).1 (uh HS).2.1)
 have HK1 := hide ((uh HKA).any.trans hk1)
 have HX1 := hide ((hk1.block _ (lt_of_block (uh HX)) (by have := uh HB; omega)).trans (uh HX))
 clear HM HKA HX hr1 hk1 m1
 go_wp2_with fail
 refine (uh HQ).mono ?_
 rintro e w2 ⟨rfl, hr2, hk2⟩
 rw [(uh HS).2.2] at hr2
 have m2 := (uh HM1).stack hr2 hk2
 have HM2 := hide m2
 have HK2 := hide ((uh HK1).trans hk2)
 have HX2 := hide ((hk2.block _ (lt_of_block (uh HX1)) (by have := uh HB; omega)).trans (uh HX1))
 clear HM1 HK1 HX1 hr2 hk2 m2 HQ
 have p1 : w.heap.size < w2.heap.size := lt_of_block (uh HX2)
 have y0 : w2.cell? ⟨w.heap.size, 0, none⟩ = some (.int .i64 11) := (cell_of_blk (uh HX2) _).trans rfl
 have HKB := hide ((kAlloc w2 (.cells #[.int .i64 T.kind, .int .i64 T.n, str T.s] 74)).alloc (.cells #[.int .i64 U.kind, .int .i64 U.n, str U.s] 74))
 have HM3 := hide ((uh HM2).keepF (uh HKB))
 have HW := hide (fun (W : World) => ofTwo11_v U T W hU hT)
 unfold ValA.v at HW ⊢
 go_wp2_with fail
 refine ((uh HW) _).mono ?_
 rintro e w3 ⟨rfl, hk3⟩
 have m3 := (uh HM3).keepF hk3
 have HM4 := hide m3
 have HK3 := hide ((uh HK2).trans ((uh HKB).trans hk3).any)
 have HTL : (m.st.take k).length < 16 := by have := uh HL; have := uh HKK; simp; omega
 have HP := hide (push_v m3.run (twoV 11 U T) HTL)
 clear HM2 HM3 HW HKB HX2 HK2 hk3 m3 y0 p1 HTL
 unfold ValA.v at HP
 go_wp2_with fail
 refine (uh HP).mono ?_
 rintro e w4 ⟨rfl, hr4, hk4⟩
 have HR4 := hide hr4
 have HK4 := hide hk4
 clear hr4 hk4 HP
 go_wp2_with fail
 go_end0
 exact ⟨rfl, (uh HM4).stack (uh HR4) (uh HK4), (uh HK3).trans (uh HK4)⟩
theorem step12_v {w0 w : World} {b : Nat} {sv rv : Value} {m : MS} (h : MR w0 w b sv rv m) (n : Int) (s : Txt) {k : Nat} (hk : m.st.length = k + 1 + 1) (hU : (secV m.st).s.length ≤ 20) (hT : (topV m.st).s.length ≤ 20) :
  Calls Tryz.prog 69 #[.pointer (some ⟨b, 0, none⟩), ValA.v ⟨12, n, s⟩] w fun e w' => e = .returned (.tuple #[]) ∧ MR w0 w' b sv rv ⟨m.st.take k ++ [twoV 12 (secV m.st) (topV m.st)], m.here, m.vals⟩ ∧ Keeps (fun q => q = b) w w' := by
 have HKA := hide (kAlloc w (.cells #[.int .i64 12, .int .i64 n, str s] 106))
 have HM := hide (h.keepF (uh HKA))
 have HX := hide (heap_alloc_new w (.cells #[.int .i64 12, .int .i64 n, str s] 106))
 have HB := hide h.run.lt
 have HL := hide h.run.len
 have HT := hide (top_get hk)
 have HS := hide (sec_get hk)
 have HKK := hide hk
 generalize topV m.st = T at *
 generalize secV m.st = U at *
 unfold ValA.v
 clear h hk
 go_enter Tryz.func69, Tryz.ntmps69
 go_wp2_with fail
 refine (pop_v (uh HM).run (uh HKK) (uh HT)).mono ?_
 rintro e w1 ⟨rfl, hr1, hk1⟩
 have m1 := (uh HM).stack hr1 hk1
 have HM1 := hide m1
 have HQ := hide (pop_v m1.run (uh HS).1 (uh HS).2.1)
 have HK1 := hide ((uh HKA).any.trans hk1)
 have HX1 := hide ((hk1.block _ (lt_of_block (uh HX)) (by have := uh HB; omega)).trans (uh HX))
 clear HM HKA HX hr1 hk1 m1
 go_wp2_with fail
 refine (uh HQ).mono ?_
 rintro e w2 ⟨rfl, hr2, hk2⟩
 rw [(uh HS).2.2] at hr2
 have m2 := (uh HM1).stack hr2 hk2
 have HM2 := hide m2
 have HK2 := hide ((uh HK1).trans hk2)
 have HX2 := hide ((hk2.block _ (lt_of_block (uh HX1)) (by have := uh HB; omega)).trans (uh HX1))
 clear HM1 HK1 HX1 hr2 hk2 m2 HQ
 have p1 : w.heap.size < w2.heap.size := lt_of_block (uh HX2)
 have y0 : w2.cell? ⟨w.heap.size, 0, none⟩ = some (.int .i64 12) := (cell_of_blk (uh HX2) _).trans rfl
 have HKB := hide ((kAlloc w2 (.cells #[.int .i64 T.kind, .int .i64 T.n, str T.s] 74)).alloc (.cells #[.int .i64 U.kind, .int .i64 U.n, str U.s] 74))
 have HM3 := hide ((uh HM2).keepF (uh HKB))
 have HW := hide (fun (W : World) => ofTwo12_v U T W hU hT)
 unfold ValA.v at HW ⊢
 go_wp2_with fail
 refine ((uh HW) _).mono ?_
 rintro e w3 ⟨rfl, hk3⟩
 have m3 := (uh HM3).keepF hk3
 have HM4 := hide m3
 have HK3 := hide ((uh HK2).trans ((uh HKB).trans hk3).any)
 have HTL : (m.st.take k).length < 16 := by have := uh HL; have := uh HKK; simp; omega
 have HP := hide (push_v m3.run (twoV 12 U T) HTL)
 clear HM2 HM3 HW HKB HX2 HK2 hk3 m3 y0 p1 HTL
 unfold ValA.v at HP
 go_wp2_with fail
 refine (uh HP).mono ?_
 rintro e w4 ⟨rfl, hr4, hk4⟩
 have HR4 := hide hr4
 have HK4 := hide hk4
 clear hr4 hk4 HP
 go_wp2_with fail
 go_end0
 exact ⟨rfl, (uh HM4).stack (uh HR4) (uh HK4), (uh HK3).trans (uh HK4)⟩
theorem step13_v {w0 w : World} {b : Nat} {sv rv : Value} {m : MS} (h : MR w0 w b sv rv m) (n : Int) (s : Txt) {k : Nat} (hk : m.st.length = k + 1 + 1) (hU : (secV m.st).s.length ≤ 20) (hT : (topV m.st).s.length ≤ 20) :
  Calls Tryz.prog 69 #[.pointer (some ⟨b, 0, none⟩), ValA.v ⟨13, n, s⟩] w fun e w' => e = .returned (.tuple #[]) ∧ MR w0 w' b sv rv ⟨m.st.take k ++ [twoV 13 (secV m.st) (topV m.st)], m.here, m.vals⟩ ∧ Keeps (fun q => q = b) w w' := by
 have HKA := hide (kAlloc w (.cells #[.int .i64 13, .int .i64 n, str s] 106))
 have HM := hide (h.keepF (uh HKA))
 have HX := hide (heap_alloc_new w (.cells #[.int .i64 13, .int .i64 n, str s] 106))
 have HB := hide h.run.lt
 have HL := hide h.run.len
 have HT := hide (top_get hk)
 have HS := hide (sec_get hk)
 have HKK := hide hk
 generalize topV m.st = T at *
 generalize secV m.st = U at *
 unfold ValA.v
 clear h hk
 go_enter Tryz.func69, Tryz.ntmps69
 go_wp2_with fail
 refine (pop_v (uh HM).run (uh HKK) (uh HT)).mono ?_
 rintro e w1 ⟨rfl, hr1, hk1⟩
 have m1 := (uh HM).stack hr1 hk1
 have HM1 := hide m1
 have HQ := hide (pop_v m1.run (uh HS).1 (uh HS).2.1)
 have HK1 := hide ((uh HKA).any.trans hk1)
 have HX1 := hide ((hk1.block _ (lt_of_block (uh HX)) (by have := uh HB; omega)).trans (uh HX))
 clear HM HKA HX hr1 hk1 m1
 go_wp2_with fail
 refine (uh HQ).mono ?_
 rintro e w2 ⟨rfl, hr2, hk2⟩
 rw [(uh HS).2.2] at hr2
 have m2 := (uh HM1).stack hr2 hk2
 have HM2 := hide m2
 have HK2 := hide ((uh HK1).trans hk2)
 have HX2 := hide ((hk2.block _ (lt_of_block (uh HX1)) (by have := uh HB; omega)).trans (uh HX1))
 clear HM1 HK1 HX1 hr2 hk2 m2 HQ
 have p1 : w.heap.size < w2.heap.size := lt_of_block (uh HX2)
 have y0 : w2.cell? ⟨w.heap.size, 0, none⟩ = some (.int .i64 13) := (cell_of_blk (uh HX2) _).trans rfl
 have HKB := hide ((kAlloc w2 (.cells #[.int .i64 T.kind, .int .i64 T.n, str T.s] 74)).alloc (.cells #[.int .i64 U.kind, .int .i64 U.n, str U.s] 74))
 have HM3 := hide ((uh HM2).keepF (uh HKB))
 have HW := hide (fun (W : World) => ofTwo13_v U T W hU hT)
 unfold ValA.v at HW ⊢
 go_wp2_with fail
 refine ((uh HW) _).mono ?_
 rintro e w3 ⟨rfl, hk3⟩
 have m3 := (uh HM3).keepF hk3
 have HM4 := hide m3
 have HK3 := hide ((uh HK2).trans ((uh HKB).trans hk3).any)
 have HTL : (m.st.take k).length < 16 := by have := uh HL; have := uh HKK; simp; omega
 have HP := hide (push_v m3.run (twoV 13 U T) HTL)
 clear HM2 HM3 HW HKB HX2 HK2 hk3 m3 y0 p1 HTL
 unfold ValA.v at HP
 go_wp2_with fail
 refine (uh HP).mono ?_
 rintro e w4 ⟨rfl, hr4, hk4⟩
 have HR4 := hide hr4
 have HK4 := hide hk4
 clear hr4 hk4 HP
 go_wp2_with fail
 go_end0
 exact ⟨rfl, (uh HM4).stack (uh HR4) (uh HK4), (uh HK3).trans (uh HK4)⟩
theorem step14_v {w0 w : World} {b : Nat} {sv rv : Value} {m : MS} (h : MR w0 w b sv rv m) (n : Int) (s : Txt) {k : Nat} (hk : m.st.length = k + 1 + 1) (hU : (secV m.st).s.length ≤ 20) (hT : (topV m.st).s.length ≤ 20) :
  Calls Tryz.prog 69 #[.pointer (some ⟨b, 0, none⟩), ValA.v ⟨14, n, s⟩] w fun e w' => e = .returned (.tuple #[]) ∧ MR w0 w' b sv rv ⟨m.st.take k ++ [twoV 14 (secV m.st) (topV m.st)], m.here, m.vals⟩ ∧ Keeps (fun q => q = b) w w' := by
 have HKA := hide (kAlloc w (.cells #[.int .i64 14, .int .i64 n, str s] 106))
 have HM := hide (h.keepF (uh HKA))
 have HX := hide (heap_alloc_new w (.cells #[.int .i64 14, .int .i64 n, str s] 106))
 have HB := hide h.run.lt
 have HL := hide h.run.len
 have HT := hide (top_get hk)
 have HS := hide (sec_get hk)
 have HKK := hide hk
 generalize topV m.st = T at *
 generalize secV m.st = U at *
 unfold ValA.v
 clear h hk
 go_enter Tryz.func69, Tryz.ntmps69
 go_wp2_with fail
 refine (pop_v (uh HM).run (uh HKK) (uh HT)).mono ?_
 rintro e w1 ⟨rfl, hr1, hk1⟩
 have m1 := (uh HM).stack hr1 hk1
 have HM1 := hide m1
 have HQ := hide (pop_v m1.run (uh HS).1 (uh HS).2.1)
 have HK1 := hide ((uh HKA).any.trans hk1)
 have HX1 := hide ((hk1.block _ (lt_of_block (uh HX)) (by have := uh HB; omega)).trans (uh HX))
 clear HM HKA HX hr1 hk1 m1
 go_wp2_with fail
 refine (uh HQ).mono ?_
 rintro e w2 ⟨rfl, hr2, hk2⟩
 rw [(uh HS).2.2] at hr2
 have m2 := (uh HM1).stack hr2 hk2
 have HM2 := hide m2
 have HK2 := hide ((uh HK1).trans hk2)
 have HX2 := hide ((hk2.block _ (lt_of_block (uh HX1)) (by have := uh HB; omega)).trans (uh HX1))
 clear HM1 HK1 HX1 hr2 hk2 m2 HQ
 have p1 : w.heap.size < w2.heap.size := lt_of_block (uh HX2)
 have y0 : w2.cell? ⟨w.heap.size, 0, none⟩ = some (.int .i64 14) := (cell_of_blk (uh HX2) _).trans rfl
 have HKB := hide ((kAlloc w2 (.cells #[.int .i64 T.kind, .int .i64 T.n, str T.s] 74)).alloc (.cells #[.int .i64 U.kind, .int .i64 U.n, str U.s] 74))
 have HM3 := hide ((uh HM2).keepF (uh HKB))
 have HW := hide (fun (W : World) => ofTwo14_v U T W hU hT)
 unfold ValA.v at HW ⊢
 go_wp2_with fail
 refine ((uh HW) _).mono ?_
 rintro e w3 ⟨rfl, hk3⟩
 have m3 := (uh HM3).keepF hk3
 have HM4 := hide m3
 have HK3 := hide ((uh HK2).trans ((uh HKB).trans hk3).any)
 have HTL : (m.st.take k).length < 16 := by have := uh HL; have := uh HKK; simp; omega
 have HP := hide (push_v m3.run (twoV 14 U T) HTL)
 clear HM2 HM3 HW HKB HX2 HK2 hk3 m3 y0 p1 HTL
 unfold ValA.v at HP
 go_wp2_with fail
 refine (uh HP).mono ?_
 rintro e w4 ⟨rfl, hr4, hk4⟩
 have HR4 := hide hr4
 have HK4 := hide hk4
 clear hr4 hk4 HP
 go_wp2_with fail
 go_end0
 exact ⟨rfl, (uh HM4).stack (uh HR4) (uh HK4), (uh HK3).trans (uh HK4)⟩
theorem step15_v {w0 w : World} {b : Nat} {sv rv : Value} {m : MS} (h : MR w0 w b sv rv m) (n : Int) (s : Txt) {k : Nat} (hk : m.st.length = k + 1 + 1) (hU : (secV m.st).s.length ≤ 20) (hT : (topV m.st).s.length ≤ 20) :
  Calls Tryz.prog 69 #[.pointer (some ⟨b, 0, none⟩), ValA.v ⟨15, n, s⟩] w fun e w' => e = .returned (.tuple #[]) ∧ MR w0 w' b sv rv ⟨m.st.take k ++ [twoV 15 (secV m.st) (topV m.st)], m.here, m.vals⟩ ∧ Keeps (fun q => q = b) w w' := by
 have HKA := hide (kAlloc w (.cells #[.int .i64 15, .int .i64 n, str s] 106))
 have HM := hide (h.keepF (uh HKA))
 have HX := hide (heap_alloc_new w (.cells #[.int .i64 15, .int .i64 n, str s] 106))
 have HB := hide h.run.lt
 have HL := hide h.run.len
 have HT := hide (top_get hk)
 have HS := hide (sec_get hk)
 have HKK := hide hk
 generalize topV m.st = T at *
 generalize secV m.st = U at *
 unfold ValA.v
 clear h hk
 go_enter Tryz.func69, Tryz.ntmps69
 go_wp2_with fail
 refine (pop_v (uh HM).run (uh HKK) (uh HT)).mono ?_
 rintro e w1 ⟨rfl, hr1, hk1⟩
 have m1 := (uh HM).stack hr1 hk1
 have HM1 := hide m1
 have HQ := hide (pop_v m1.run (uh HS).1 (uh HS).2.1)
 have HK1 := hide ((uh HKA).any.trans hk1)
 have HX1 := hide ((hk1.block _ (lt_of_block (uh HX)) (by have := uh HB; omega)).trans (uh HX))
 clear HM HKA HX hr1 hk1 m1
 go_wp2_with fail
 refine (uh HQ).mono ?_
 rintro e w2 ⟨rfl, hr2, hk2⟩
 rw [(uh HS).2.2] at hr2
 have m2 := (uh HM1).stack hr2 hk2
 have HM2 := hide m2
 have HK2 := hide ((uh HK1).trans hk2)
 have HX2 := hide ((hk2.block _ (lt_of_block (uh HX1)) (by have := uh HB; omega)).trans (uh HX1))
 clear HM1 HK1 HX1 hr2 hk2 m2 HQ
 have p1 : w.heap.size < w2.heap.size := lt_of_block (uh HX2)
 have y0 : w2.cell? ⟨w.heap.size, 0, none⟩ = some (.int .i64 15) := (cell_of_blk (uh HX2) _).trans rfl
 have HKB := hide ((kAlloc w2 (.cells #[.int .i64 T.kind, .int .i64 T.n, str T.s] 74)).alloc (.cells #[.int .i64 U.kind, .int .i64 U.n, str U.s] 74))
 have HM3 := hide ((uh HM2).keepF (uh HKB))
 have HW := hide (fun (W : World) => ofTwo15_v U T W hU hT)
 unfold ValA.v at HW ⊢
 go_wp2_with fail
 refine ((uh HW) _).mono ?_
 rintro e w3 ⟨rfl, hk3⟩
 have m3 := (uh HM3).keepF hk3
 have HM4 := hide m3
 have HK3 := hide ((uh HK2).trans ((uh HKB).trans hk3).any)
 have HTL : (m.st.take k).length < 16 := by have := uh HL; have := uh HKK; simp; omega
 have HP := hide (push_v m3.run (twoV 15 U T) HTL)
 clear HM2 HM3 HW HKB HX2 HK2 hk3 m3 y0 p1 HTL
 unfold ValA.v at HP
 go_wp2_with fail
 refine (uh HP).mono ?_
 rintro e w4 ⟨rfl, hr4, hk4⟩
 have HR4 := hide hr4
 have HK4 := hide hk4
 clear hr4 hk4 HP
 go_wp2_with fail
 go_end0
 exact ⟨rfl, (uh HM4).stack (uh HR4) (uh HK4), (uh HK3).trans (uh HK4)⟩
theorem step16_v {w0 w : World} {b : Nat} {sv rv : Value} {m : MS} (h : MR w0 w b sv rv m) (n : Int) (s : Txt) {k : Nat} (hk : m.st.length = k + 1 + 1) (hU : (secV m.st).s.length ≤ 20) (hT : (topV m.st).s.length ≤ 20) :
  Calls Tryz.prog 69 #[.pointer (some ⟨b, 0, none⟩), ValA.v ⟨16, n, s⟩] w fun e w' => e = .returned (.tuple #[]) ∧ MR w0 w' b sv rv ⟨m.st.take k ++ [twoV 16 (secV m.st) (topV m.st)], m.here, m.vals⟩ ∧ Keeps (fun q => q = b) w w' := by
 have HKA := hide (kAlloc w (.cells #[.int .i64 16, .int .i64 n, str s] 106))
 have HM := hide (h.keepF (uh HKA))
 have HX := hide (heap_alloc_new w (.cells #[.int .i64 16, .int .i64 n, str s] 106))
 have HB := hide h.run.lt
 have HL := hide h.run.len
 have HT := hide (top_get hk)
 have HS := hide (sec_get hk)
 have HKK := hide hk
 generalize topV m.st = T at *
 generalize secV m.st = U at *
 unfold ValA.v
 clear h hk
 go_enter Tryz.func69, Tryz.ntmps69
 go_wp2_with fail
 refine (pop_v (uh HM).run (uh HKK) (uh HT)).mono ?_
 rintro e w1 ⟨rfl, hr1, hk1⟩
 have m1 := (uh HM).stack hr1 hk1
 have HM1 := hide m1
 have HQ := hide (pop_v m1.run (uh HS).1 (uh HS).2.1)
 have HK1 := hide ((uh HKA).any.trans hk1)
 have HX1 := hide ((hk1.block _ (lt_of_block (uh HX)) (by have := uh HB; omega)).trans (uh HX))
 clear HM HKA HX hr1 hk1 m1
 go_wp2_with fail
 refine (uh HQ).mono ?_
 rintro e w2 ⟨rfl, hr2, hk2⟩
 rw [(uh HS).2.2] at hr2
 have m2 := (uh HM1).stack hr2 hk2
 have HM2 := hide m2
 have HK2 := hide ((uh HK1).trans hk2)
 have HX2 := hide ((hk2.block _ (lt_of_block (uh HX1)) (by have := uh HB; omega)).trans (uh HX1))
 clear HM1 HK1 HX1 hr2 hk2 m2 HQ
 have p1 : w.heap.size < w2.heap.size := lt_of_block (uh HX2)
 have y0 : w2.cell? ⟨w.heap.size, 0, none⟩ = some (.int .i64 16) := (cell_of_blk (uh HX2) _).trans rfl
 have HKB := hide ((kAlloc w2 (.cells #[.int .i64 T.kind, .int .i64 T.n, str T.s] 74)).alloc (.cells #[.int .i64 U.kind, .int .i64 U.n, str U.s] 74))
 have HM3 := hide ((uh HM2).keepF (uh HKB))
 have HW := hide (fun (W : World) => ofTwo16_v U T W hU hT)
 unfold ValA.v at HW ⊢
 go_wp2_with fail
 refine ((uh HW) _).mono ?_
 rintro e w3 ⟨rfl, hk3⟩
 have m3 := (uh HM3).keepF hk3
 have HM4 := hide m3
 have HK3 := hide ((uh HK2).trans ((uh HKB).trans hk3).any)
 have HTL : (m.st.take k).length < 16 := by have := uh HL; have := uh HKK; simp; omega
 have HP := hide (push_v m3.run (twoV 16 U T) HTL)
 clear HM2 HM3 HW HKB HX2 HK2 hk3 m3 y0 p1 HTL
 unfold ValA.v at HP
 go_wp2_with fail
 refine (uh HP).mono ?_
 rintro e w4 ⟨rfl, hr4, hk4⟩
 have HR4 := hide hr4
 have HK4 := hide hk4
 clear hr4 hk4 HP
 go_wp2_with fail
 go_end0
 exact ⟨rfl, (uh HM4).stack (uh HR4) (uh HK4), (uh HK3).trans (uh HK4)⟩
theorem step17_v {w0 w : World} {b : Nat} {sv rv : Value} {m : MS} (h : MR w0 w b sv rv m) (n : Int) (s : Txt) {k : Nat} (hk : m.st.length = k + 1 + 1) (hU : (secV m.st).s.length ≤ 20) (hT : (topV m.st).s.length ≤ 20) :
  Calls Tryz.prog 69 #[.pointer (some ⟨b, 0, none⟩), ValA.v ⟨17, n, s⟩] w fun e w' => e = .returned (.tuple #[]) ∧ MR w0 w' b sv rv ⟨m.st.take k ++ [twoV 17 (secV m.st) (topV m.st)], m.here, m.vals⟩ ∧ Keeps (fun q => q = b) w w' := by
 have HKA := hide (kAlloc w (.cells #[.int .i64 17, .int .i64 n, str s] 106))
 have HM := hide (h.keepF (uh HKA))
 have HX := hide (heap_alloc_new w (.cells #[.int .i64 17, .int .i64 n, str s] 106))
 have HB := hide h.run.lt
 have HL := hide h.run.len
 have HT := hide (top_get hk)
 have HS := hide (sec_get hk)
 have HKK := hide hk
 generalize topV m.st = T at *
 generalize secV m.st = U at *
 unfold ValA.v
 clear h hk
 go_enter Tryz.func69, Tryz.ntmps69
 go_wp2_with fail
 refine (pop_v (uh HM).run (uh HKK) (uh HT)).mono ?_
 rintro e w1 ⟨rfl, hr1, hk1⟩
 have m1 := (uh HM).stack hr1 hk1
 have HM1 := hide m1
 have HQ := hide (pop_v m1.run (uh HS).1 (uh HS).2.1)
 have HK1 := hide ((uh HKA).any.trans hk1)
 have HX1 := hide ((hk1.block _ (lt_of_block (uh HX)) (by have := uh HB; omega)).trans (uh HX))
 clear HM HKA HX hr1 hk1 m1
 go_wp2_with fail
 refine (uh HQ).mono ?_
 rintro e w2 ⟨rfl, hr2, hk2⟩
 rw [(uh HS).2.2] at hr2
 have m2 := (uh HM1).stack hr2 hk2
 have HM2 := hide m2
 have HK2 := hide ((uh HK1).trans hk2)
 have HX2 := hide ((hk2.block _ (lt_of_block (uh HX1)) (by have := uh HB; omega)).trans (uh HX1))
 clear HM1 HK1 HX1 hr2 hk2 m2 HQ
 have p1 : w.heap.size < w2.heap.size := lt_of_block (uh HX2)
 have y0 : w2.cell? ⟨w.heap.size, 0, none⟩ = some (.int .i64 17) := (cell_of_blk (uh HX2) _).trans rfl
 have HKB := hide ((kAlloc w2 (.cells #[.int .i64 T.kind, .int .i64 T.n, str T.s] 74)).alloc (.cells #[.int .i64 U.kind, .int .i64 U.n, str U.s] 74))
 have HM3 := hide ((uh HM2).keepF (uh HKB))
 have HW := hide (fun (W : World) => ofTwo17_v U T W hU hT)
 unfold ValA.v at HW ⊢
 go_wp2_with fail
 refine ((uh HW) _).mono ?_
 rintro e w3 ⟨rfl, hk3⟩
 have m3 := (uh HM3).keepF hk3
 have HM4 := hide m3
 have HK3 := hide ((uh HK2).trans ((uh HKB).trans hk3).any)
 have HTL : (m.st.take k).length < 16 := by have := uh HL; have := uh HKK; simp; omega
 have HP := hide (push_v m3.run (twoV 17 U T) HTL)
 clear HM2 HM3 HW HKB HX2 HK2 hk3 m3 y0 p1 HTL
 unfold ValA.v at HP
 go_wp2_with fail
 refine (uh HP).mono ?_
 rintro e w4 ⟨rfl, hr4, hk4⟩
 have HR4 := hide hr4
 have HK4 := hide hk4
 clear hr4 hk4 HP
 go_wp2_with fail
 go_end0
 exact ⟨rfl, (uh HM4).stack (uh HR4) (uh HK4), (uh HK3).trans (uh HK4)⟩
theorem step19_v {w0 w : World} {b : Nat} {sv rv : Value} {m : MS} (h : MR w0 w b sv rv m) (n : Int) (s : Txt) {k : Nat} (hk : m.st.length = k + 1 + 1) (hU : (secV m.st).s.length ≤ 20) (hT : (topV m.st).s.length ≤ 20) :
  Calls Tryz.prog 69 #[.pointer (some ⟨b, 0, none⟩), ValA.v ⟨19, n, s⟩] w fun e w' => e = .returned (.tuple #[]) ∧ MR w0 w' b sv rv ⟨m.st.take k ++ [twoV 19 (secV m.st) (topV m.st)], m.here, m.vals⟩ ∧ Keeps (fun q => q = b) w w' := by
 have HKA := hide (kAlloc w (.cells #[.int .i64 19, .int .i64 n, str s] 106))
 have HM := hide (h.keepF (uh HKA))
 have HX := hide (heap_alloc_new w (.cells #[.int .i64 19, .int .i64 n, str s] 106))
 have HB := hide h.run.lt
 have HL := hide h.run.len
 have HT := hide (top_get hk)
 have HS := hide (sec_get hk)
 have HKK := hide hk
 generalize topV m.st = T at *
 generalize secV m.st = U at *
 unfold ValA.v
 clear h hk
 go_enter Tryz.func69, Tryz.ntmps69
 go_wp2_with fail
 refine (pop_v (uh HM).run (uh HKK) (uh HT)).mono ?_
 rintro e w1 ⟨rfl, hr1, hk1⟩
 have m1 := (uh HM).stack hr1 hk1
 have HM1 := hide m1
 have HQ := hide (pop_v m1.run (uh HS).1 (uh HS).2.1)
 have HK1 := hide ((uh HKA).any.trans hk1)
 have HX1 := hide ((hk1.block _ (lt_of_block (uh HX)) (by have := uh HB; omega)).trans (uh HX))
 clear HM HKA HX hr1 hk1 m1
 go_wp2_with fail
 refine (uh HQ).mono ?_
 rintro e w2 ⟨rfl, hr2, hk2⟩
 rw [(uh HS).2.2] at hr2
 have m2 := (uh HM1).stack hr2 hk2
 have HM2 := hide m2
 have HK2 := hide ((uh HK1).trans hk2)
 have HX2 := hide ((hk2.block _ (lt_of_block (uh HX1)) (by have := uh HB; omega)).trans (uh HX1))
 clear HM1 HK1 HX1 hr2 hk2 m2 HQ
 have p1 : w.heap.size < w2.heap.size := lt_of_block (uh HX2)
 have y0 : w2.cell? ⟨w.heap.size, 0, none⟩ = some (.int .i64 19) := (cell_of_blk (uh HX2) _).trans rfl
 have HKB := hide ((kAlloc w2 (.cells #[.int .i64 T.kind, .int .i64 T.n, str T.s] 74)).alloc (.cells #[.int .i64 U.kind, .int .i64 U.n, str U.s] 74))
 have HM3 := hide ((uh HM2).keepF (uh HKB))
 have HW := hide (fun (W : World) => ofTwo19_v U T W hU hT)
 unfold ValA.v at HW ⊢
 go_wp2_with fail
 refine ((uh HW) _).mono ?_
 rintro e w3 ⟨rfl, hk3⟩
 have m3 := (uh HM3).keepF hk3
 have HM4 := hide m3
 have HK3 := hide ((uh HK2).trans ((uh HKB).trans hk3).any)
 have HTL : (m.st.take k).length < 16 := by have := uh HL; have := uh HKK; simp; omega
 have HP := hide (push_v m3.run (twoV 19 U T) HTL)
 clear HM2 HM3 HW HKB HX2 HK2 hk3 m3 y0 p1 HTL
 unfold ValA.v at HP
 go_wp2_with fail
 refine (uh HP).mono ?_
 rintro e w4 ⟨rfl, hr4, hk4⟩
 have HR4 := hide hr4
 have HK4 := hide hk4
 clear hr4 hk4 HP
 go_wp2_with fail
 go_end0
 exact ⟨rfl, (uh HM4).stack (uh HR4) (uh HK4), (uh HK3).trans (uh HK4)⟩
end Go.Proofs.YtbokbdcjpbnodaaGreatDoor
namespace Go.Proofs.YtbokbdcjpbnodaaGreatDoor
open Go.RowKit Go.Maps
set_option maxRecDepth 100000
set_option maxHeartbeats 4000000
theorem step20_v {w0 w : World} {b : Nat} {sv rv : Value} {m : MS} (h : MR w0 w b sv rv m) (N : Nat) (s : Txt) {k : Nat} (hk : m.st.length = k + 1) (hn : m.here = true → N < m.vals.length) :
  Calls Tryz.prog 69 #[.pointer (some ⟨b, 0, none⟩), ValA.v ⟨20, (N : Int), s⟩] w fun e w' => e = .returned (.tuple #[]) ∧ MR w0 w' b sv rv ⟨m.st.take k, (setR m N (topV m.st)).1, (setR m N (topV m.st)).2⟩ ∧ Keeps (Own b rv) w w' := by
 have HKA := hide (kAlloc w (.cells #[.int .i64 20, .int .i64 (N : Int), str s] 106))
 have HM := hide (h.keepF (uh HKA))
 have HX := hide (heap_alloc_new w (.cells #[.int .i64 20, .int .i64 (N : Int), str s] 106))
 have HB := hide h.run.lt
 have HT := hide (top_get hk)
 have HKK := hide hk
 have HRL := hide (fun q e => (h.rlt q e).2)
 generalize topV m.st = T at *
 have HQ2 := hide (fun (W : World) (m3 : MR w0 W b sv rv ⟨m.st.take k, m.here, m.vals⟩) => set_v m3 N T hn)
 unfold ValA.v
 clear h hk
 go_enter Tryz.func69, Tryz.ntmps69
 go_wp2_with fail
 generalize w.alloc (.cells #[.int .i64 20, .int .i64 (N : Int), str s] 106) = W at *
 have p1 : w.heap.size < W.heap.size := lt_of_block (uh HX)
 have y0 : W.cell? ⟨w.heap.size, 1, none⟩ = some (.int .i64 (N : Int)) := (cell_of_blk (uh HX) _).trans rfl
 have HD := hide (Keeps.refl (fun _ => False) W).drew
 have p2 := Nat.lt_of_lt_of_le p1 (uh HD).size
 have HY : Hid (W.drew.cell? ⟨w.heap.size, 1, none⟩ = some (.int .i64 (N : Int))) := ((uh HD).cell p1 id).trans y0
 have HMD := hide ((uh HM).keepF (uh HD))
 go_region_held3 (fun w' => w'.cell? ⟨w.heap.size, 1, none⟩ = some (.int .i64 (N : Int)))
  (first | with_reducible exact f4 | with_reducible exact f2 | (go_keep; done) | assumption)
  (first
    | (go_at_call 93; refine ((uh HQ2) _ m2).mono ?_; rintro e w4 ⟨rfl, hm4, hk4⟩; have f4 := (hk4.cell (o := 1) q2 (fun q => q.elim (fun q => by have := uh HB; omega) (fun q => by have := (uh HRL) _ q; omega))).trans f2)
    | (go_at_call 68; refine (pop_v (uh HMD).run (uh HKK) (uh HT)).mono ?_; rintro e w2 ⟨rfl, hr2, hk2⟩; have q2 := Nat.lt_of_lt_of_le p2 hk2.size; have f2 := (hk2.cell (o := 1) p2 (by have := uh HB; omega)).trans (uh HY); have m2 := (uh HMD).stack hr2 hk2))
 go_wp2_with fail
 go_end0
 exact ⟨rfl, hm4, ((((uh HKA).trans (uh HD)).any.trans (hk2.mono fun q _ e => Or.inl e))).trans hk4⟩
theorem step21_v {w0 w : World} {b : Nat} {sv rv : Value} {m : MS} (S : List FieldA) (h : MR w0 w b sv rv m) (hS : FldsAt w0 sv S) (N : Nat) (s : Txt) {k : Nat} (hk : m.st.length = k + 1) (hn : m.here = true → N < m.vals.length) (hns : N < S.length) :
  Calls Tryz.prog 69 #[.pointer (some ⟨b, 0, none⟩), ValA.v ⟨21, (N : Int), s⟩] w fun e w' => e = .returned (.tuple #[]) ∧ MR w0 w' b sv rv ⟨m.st.take k, (setR m N (numV (wrap64 ((loadV S m N).n + (topV m.st).n)))).1, (setR m N (numV (wrap64 ((loadV S m N).n + (topV m.st).n)))).2⟩ ∧ Keeps (Own b rv) w w' := by
 have HKA := hide (kAlloc w (.cells #[.int .i64 21, .int .i64 (N : Int), str s] 106))
 have HM := hide (h.keepF (uh HKA))
 have HX := hide (heap_alloc_new w (.cells #[.int .i64 21, .int .i64 (N : Int), str s] 106))
 have HB := hide h.run.lt
 have HT := hide (top_get hk)
 have HKK := hide hk
 have HRL := hide (fun q e => (h.rlt q e).2)
 generalize topV m.st = T at *
 have HQ2 := hide (fun (W : World) (m3 : MR w0 W b sv rv ⟨m.st.take k, m.here, m.vals⟩) => add_v S m3 hS N T hn hns)
 unfold ValA.v
 clear h hk
 go_enter Tryz.func69, Tryz.ntmps69
 go_wp2_with fail
 generalize w.alloc (.cells #[.int .i64 21, .int .i64 (N : Int), str s] 106) = W at *
 have p1 : w.heap.size < W.heap.size := lt_of_block (uh HX)
 have y0 : W.cell? ⟨w.heap.size, 1, none⟩ = some (.int .i64 (N : Int)) := (cell_of_blk (uh HX) _).trans rfl
 have HD := hide (Keeps.refl (fun _ => False) W).drew
 have p2 := Nat.lt_of_lt_of_le p1 (uh HD).size
 have HY : Hid (W.drew.cell? ⟨w.heap.size, 1, none⟩ = some (.int .i64 (N : Int))) := ((uh HD).cell p1 id).trans y0
 have HMD := hide ((uh HM).keepF (uh HD))
 go_region_held3 (fun w' => w'.cell? ⟨w.heap.size, 1, none⟩ = some (.int .i64 (N : Int)))
  (first | with_reducible exact f4 | with_reducible exact f2 | (go_keep; done) | assumption)
  (first
    | (go_at_call 94; refine ((uh HQ2) _ m2).mono ?_; rintro e w4 ⟨rfl, hm4, hk4⟩; have f4 := (hk4.cell (o := 1) q2 (fun q => q.elim (fun q => by have := uh HB; omega) (fun q => by have := (uh HRL) _ q; omega))).trans f2)
    | (go_at_call 68; refine (pop_v (uh HMD).run (uh HKK) (uh HT)).mono ?_; rintro e w2 ⟨rfl, hr2, hk2⟩; have q2 := Nat.lt_of_lt_of_le p2 hk2.size; have f2 := (hk2.cell (o := 1) p2 (by have := uh HB; omega)).trans (uh HY); have m2 := (uh HMD).stack hr2 hk2))
 go_wp2_with fail
 go_end0
 exact ⟨rfl, hm4, ((((uh HKA).trans (uh HD)).any.trans (hk2.mono fun q _ e => Or.inl e))).trans hk4⟩
theorem step22_v {w0 w : World} {b : Nat} {sv rv : Value} {m : MS} (h : MR w0 w b sv rv m) (N : Nat) (s : Txt) (hn : m.here = true → N < m.vals.length) :
  Calls Tryz.prog 69 #[.pointer (some ⟨b, 0, none⟩), ValA.v ⟨22, (N : Int), s⟩] w fun e w' => e = .returned (.tuple #[]) ∧ MR w0 w' b sv rv ⟨m.st, (setR m N zV).1, (setR m N zV).2⟩ ∧ Keeps (Own b rv) w w' := by
 have HKA := hide (kAlloc w (.cells #[.int .i64 22, .int .i64 (N : Int), str s] 106))
 have HQ := hide (set_v (h.keepF (uh HKA)) N zV hn)
 rw [show zV.v = .agg #[.int .i64 0, .int .i64 0, .string ⟨#[]⟩] from rfl] at HQ
 unfold ValA.v
 clear h
 go_enter Tryz.func69, Tryz.ntmps69
 go_wp2_with fail
 refine (uh HQ).mono ?_
 rintro e w1 ⟨rfl, hm1, hk1⟩
 have HM1 := hide hm1
 have HK1 := hide hk1
 clear hm1 hk1 HQ
 go_wp2_with fail
 go_end0
 exact ⟨rfl, uh HM1, (uh HKA).any.trans (uh HK1)⟩
theorem step23_v {w0 w : World} {b : Nat} {sv rv : Value} {m : MS} (S : List FieldA) (h : MR w0 w b sv rv m) (hT : Types w0) (hS : FldsAt w0 sv S) (hz : errS S = 0) (n : Int) (s : Txt) :
  Calls Tryz.prog 69 #[.pointer (some ⟨b, 0, none⟩), ValA.v ⟨23, n, s⟩] w fun e w' => e = .returned (.tuple #[]) ∧ (∃ rv', MR w0 w' b sv rv' (if m.here then m else ⟨m.st, true, S.map zeroV⟩)) ∧ Keeps (Own b rv) w w' := by
 have HKA := hide (kAlloc w (.cells #[.int .i64 23, .int .i64 n, str s] 106))
 have HQ := hide (create_v S (h.keepF (uh HKA)) hT hS hz)
 generalize (if m.here = true then m else (⟨m.st, true, S.map zeroV⟩ : MS)) = G at *
 unfold ValA.v
 clear h
 go_enter Tryz.func69, Tryz.ntmps69
 go_wp2_with fail
 refine (uh HQ).mono ?_
 rintro e w1 ⟨rfl, hm1, hk1⟩
 have HM1 := hide hm1
 have HK1 := hide hk1
 clear hm1 hk1 HQ
 go_wp2_with fail
 go_end0
 exact ⟨rfl, uh HM1, (uh HKA).any.trans (uh HK1)⟩
theorem RunAt.rowed {w : World} {b : Nat} {sv rv : Value} {m : MS} (h : RunAt w b sv rv m) (hh : Bool) (rv' : Value) (vals : List ValA) : RunAt ((w.setCell ⟨b, 1, none⟩ (.bool hh)).setCell ⟨b, 2, none⟩ rv') b sv rv' ⟨m.st, hh, vals⟩ := by
 obtain ⟨cur, hB, hs⟩ := h.blk
 have hE := heap_setCell_at (o := 2) (heap_setCell_at (o := 1) hB (.bool hh)) rv'
 have hq : ∀ o, o ≠ 1 → o ≠ 2 → ((w.setCell ⟨b, 1, none⟩ (.bool hh)).setCell ⟨b, 2, none⟩ rv').cell? ⟨b, o, none⟩ = w.cell? ⟨b, o, none⟩ := fun o h1 h2 => by
  rw [cell_of_blk hE, cell_of_blk hB, Array.getElem?_setIfInBounds_ne (Ne.symm h2), Array.getElem?_setIfInBounds_ne (Ne.symm h1)]
 refine ⟨⟨_, hE, by simpa using hs⟩, (hq 0 (by omega) (by omega)).trans h.c0, ?_, ?_, (hq 51 (by omega) (by omega)).trans h.ch, fun i v hv => ⟨(hq _ (by omega) (by omega)).trans (h.stk i v hv).1, (hq _ (by omega) (by omega)).trans (h.stk i v hv).2.1, (hq _ (by omega) (by omega)).trans (h.stk i v hv).2.2⟩, h.len⟩
 ·rw [cell_of_blk hE, Array.getElem?_setIfInBounds_ne (by omega)]; simp [hs]
 ·rw [cell_of_blk hE]; simp [hs]
theorem step24_v {w0 w : World} {b : Nat} {sv rv : Value} {m : MS} (h : MR w0 w b sv rv m) (n : Int) (s : Txt) :
  Calls Tryz.prog 69 #[.pointer (some ⟨b, 0, none⟩), ValA.v ⟨24, n, s⟩] w fun e w' => e = .returned (.tuple #[]) ∧ (∃ rv', MR w0 w' b sv rv' ⟨m.st, false, []⟩) ∧ Keeps (Own b rv) w w' := by
 have HKA := hide (kAlloc w (.cells #[.int .i64 24, .int .i64 n, str s] 106))
 have hM := h.keepF (uh HKA)
 have HM := hide hM
 obtain ⟨cur, hB, hs⟩ := hM.run.blk
 have z1 := frozen_of_blk hB 1
 have z2 := frozen_of_blk hB 2
 have c1 := hM.run.c1
 have c2 := hM.run.c2
 have hb1 := hM.run.lt
 unfold ValA.v
 clear h hM hB hs
 go_enter Tryz.func69, Tryz.ntmps69
 go_wp2_with fail
 go_end0
 have hM := uh HM
 have ko : Keeps (fun q => q = b) (w.alloc (.cells #[.int .i64 24, .int .i64 n, str s] 106)) (((w.alloc (.cells #[.int .i64 24, .int .i64 n, str s] 106)).setCell ⟨b, 1, none⟩ (.bool false)).setCell ⟨b, 2, none⟩ (.slice none 0 0)) := Keeps.setCell (F := fun q => q = b) (p := ⟨b, 2, none⟩) (Keeps.setCell (F := fun q => q = b) (p := ⟨b, 1, none⟩) (Keeps.refl (fun q => q = b) _) (fun _ => rfl) _) (fun _ => rfl) _
 refine ⟨rfl, ⟨.slice none 0 0, ⟨hM.run.rowed false (.slice none 0 0) [], hM.kept.then ko (fun i hi e => by have := hM.new; omega), hM.new, fun q => (by cases q), fun _ => ⟨rfl, ⟨⟨_, _, rfl⟩, fun h0 => by simp at h0, fun ao m cap e => by simp at e; omega⟩⟩, fun q e => by simp [Value.ownBlock] at e⟩⟩, (uh HKA).any.trans (ko.mono fun q _ e => Or.inl e)⟩
end Go.Proofs.YtbokbdcjpbnodaaGreatDoor
