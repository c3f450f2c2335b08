import Derived.Test.YtiinohibmcefkaaGreatDoorJai
import Derived.Test.YtiinohibmcefkaaGreatDoorJaz
import Derived.Test.YtiinohibmcefkaaGreatDoorJaw
import Derived.Deep.RegionLaw
import Derived.Deep.AppendLies
import Derived.Test.YtiinohibmcefkaaGreatDoorJam
import Derived.Test.YtiinohibmcefkaaGreatDoorKy
import Derived.Test.YtiinohibmcefkaaGreatDoorJab
import Derived.Test.YtiinohibmcefkaaGreatDoorKq
import Derived.Test.YtiinohibmcefkaaGreatDoorKm
import Derived.Test.YtiinohibmcefkaaGreatDoorJao
import Derived.Test.YtiinohibmcefkaaGreatDoorJae
import Derived.Test.YtiinohibmcefkaaGreatDoorJag
import Derived.Deep.RegionHeld3
namespace Go.Proofs.YtiinohibmcefkaaGreatDoor
open Go.RowKit Go.Maps
set_option maxRecDepth 100000 in
set_option maxHeartbeats 800000 in
theorem deepExprs (B up : Nat) (l : EL) (v : Value) (w : World) (hB : B ≤ w.heap.size) (hS : SlE (argZ B) w up v l) : Calls Tryz.prog 22 #[v] w (DPost l.size w) := by
  have HS := hide (hS.keepF ((Keeps.refl _ w).alloc (.cells #[.int .i64 0] 80)))
  have HK : Hid (Keeps (fun _ => False) w (w.alloc (.cells #[.int .i64 0] 80))) := hide ((Keeps.refl _ w).alloc _)
  obtain ⟨ao, cap, rfl, hc⟩ := hS.head
  clear hS
  go_enter Tryz.func22, Tryz.ntmps22
  go_wp2_with (go_at_call 37; refine (parts_exprs B w.heap.size hB (l.size + 1) l (by omega) _ up _ 0 65536 (unhide HS) (heap_alloc_new w _) (by omega) (by omega) (by omega) (by omega)).mono ?_; rintro e w1 ⟨r, n1, rfl, hc1, hk1, hn1, hr1⟩)
  go_ret
  exact ⟨r, rfl, keeps_new (unhide HK) hk1, fun h => by have := hr1 h; omega⟩

end Go.Proofs.YtiinohibmcefkaaGreatDoor
namespace Go.Proofs.YtiinohibmcefkaaGreatDoor
open Go.RowKit Go.Maps

/-- These cells hold these expressions. -/
def EsIn (Z : Zone) (w : World) : EL → List Value → Prop
  | .nil, xs => xs = []
  | .cons op n s kids r, xs => ∃ kv xs', xs = .int .i64 op :: .int .i64 n :: str s :: kv :: xs' ∧ SlE Z w 0 kv kids ∧ EsIn Z w r xs'
theorem EsIn.argKeep {B : Nat} {F : Nat → Prop} {w w' : World} (hk : Keeps F w w') (hF : ∀ k, F k → B ≤ k) : ∀ {l : EL} {xs : List Value}, EsIn (argZ B) w l xs → EsIn (argZ B) w' l xs
  | .nil, _, h => h
  | .cons _ _ _ _ _, _, ⟨kv, xs', e, h1, h⟩ => ⟨kv, xs', e, h1.argKeep hk hF, h.argKeep hk hF⟩
theorem SlE.argUp {w : World} {up A : Nat} {Z : Zone} {v : Value} {l : EL} (hA : w.heap.size ≤ A) (up' : Nat) (h : SlE Z w up v l) : SlE (argZ A) w up' v l := by
  obtain ⟨ao, cap, e, hc, hr⟩ := h
  refine ⟨ao, cap, e, hc, fun h0 => ?_⟩
  obtain ⟨b, o, e1, _, hx⟩ := hr h0
  exact ⟨b, o, e1, trivial, hx.arg hA⟩
/-- The cells as expressions in a block. -/
theorem EsIn.exIn {Z : Zone} {w : World} {A b : Nat} (hb : b < w.heap.size) (hA : w.heap.size ≤ A) : ∀ {l : EL} {xs : List Value} {o : Nat}, EsIn Z w l xs → (∀ j x, xs[j]? = some x → w.cell? ⟨b, o + j, none⟩ = some x) → ExIn (argZ A) w l b o
  | .nil, _, _, _, _ => trivial
  | .cons op n s kids r, _, o, ⟨kv, xs', ee, h1, h4⟩, hc => by
    subst ee
    obtain ⟨ao, cap, et, hcap, hr⟩ := h1.argUp hA b
    refine ⟨hb, Nat.lt_of_lt_of_le hb hA, hc 0 _ rfl, hc 1 _ rfl, hc 2 _ rfl, ⟨ao, cap, by rw [← et]; exact hc 3 _ rfl, hcap, hr⟩, EsIn.exIn hb hA h4 (fun j x hx => ?_)⟩
    rw [show o + 4 + j = o + (j + 4) by omega]
    exact hc (j + 4) x (by simpa using hx)
theorem app_oneX (pre : EL) (op n : Int) (s : Txt) (kids rest : EL) : (pre.app (.cons op n s kids .nil)).app rest = pre.app (.cons op n s kids rest) := by rw [EL.app_assoc]; rfl
theorem EL.lenApp : ∀ l m : EL, (l.app m).len = l.len + m.len
  | .nil, _ => by simp [EL.app, EL.len]
  | .cons o n s k r, m => by simp [EL.app, EL.len, EL.lenApp r m]; omega
theorem EL.appNil : ∀ l : EL, l.app .nil = l
  | .nil => rfl
  | .cons o n s k r => by simp [EL.app, EL.appNil r]
end Go.Proofs.YtiinohibmcefkaaGreatDoor
namespace Go.Proofs.YtiinohibmcefkaaGreatDoor
open Go.ChangeShapes Go.WideShapes Go.ChangeAt Go.RowKit Go.Deep

theorem e31 : Tryz.prog.cellsOf 31 = 2 := by kernel_rfl
theorem e29 : Tryz.prog.cellsOf 29 = 1 := by kernel_rfl
/-- Ints of 64 bits. -/
def I64 (n : Int) : Prop := -9223372036854775808 ≤ n ∧ n ≤ 9223372036854775807
theorem i64_of {n : Int} (h : (Lit.int .i64 n).wf = true) : I64 n := by
  have h2 : IntKind.i64.min ≤ n ∧ n ≤ IntKind.i64.max := by simpa [Lit.wf] using h
  have a : IntKind.i64.min = -9223372036854775808 := by decide +kernel
  have b : IntKind.i64.max = 9223372036854775807 := by decide +kernel
  rw [a, b] at h2
  exact h2
theorem e40 : Tryz.prog.cellsOf 41 = 3 := by kernel_rfl
instance : Inhabited ValA := ⟨⟨0, 0, []⟩⟩
theorem vcs_at : ∀ (l : List ValA) (j : Nat), (vcs l)[j]? = (l[j / 3]?).bind fun x => x.cs[j % 3]?
  | [], j => by simp [vcs]
  | y :: r, j => by
    have e : vcs (y :: r) = y.cs ++ vcs r := rfl
    have hy : y.cs.length = 3 := rfl
    rw [e]
    by_cases h : j < 3
    · rw [List.getElem?_append_left (by rw [hy]; exact h), Nat.div_eq_of_lt h, Nat.mod_eq_of_lt h]
      rfl
    · rw [List.getElem?_append_right (by rw [hy]; omega), hy, vcs_at r (j - 3)]
      have h1 : j / 3 = (j - 3) / 3 + 1 := by omega
      have h2 : j % 3 = (j - 3) % 3 := by omega
      rw [h1, h2]
      rfl
section
variable {H : Type} {enc : TypeId × Value → H} {W : World}
set_option maxRecDepth 100000 in
theorem val_read {fuel : Nat} {cs : List Value} {x : DataW H × List MemPlace} (h : DataW.trod enc Tryz.prog W 0 (fun _ => true) true fuel 41 cs = some x) : ∃ f : ValA, cs = f.cs ∧ I64 f.n := by
  obtain ⟨xs, m, hm, _, hl, hlen, hf⟩ := DataW.trod_struct Tryz.underlying41 h
  have hl' : cs.length = 3 := hl.trans e40
  match xs, hlen, cs, hl' with
  | [y0, y1, y2], _, [c0, c1, c2], _ =>
    have h0 : DataW.trod enc Tryz.prog W 0 (fun _ => true) true m 3 (([c0, c1, c2].drop 0).take (Tryz.prog.cellsOf 3)) = some y0 := hf 0 _ rfl
    have h1 : DataW.trod enc Tryz.prog W 0 (fun _ => true) true m 2 (([c0, c1, c2].drop 1).take (Tryz.prog.cellsOf 2)) = some y1 := hf 1 _ rfl
    have h2 : DataW.trod enc Tryz.prog W 0 (fun _ => true) true m 9 (([c0, c1, c2].drop 2).take (Tryz.prog.cellsOf 9)) = some y2 := hf 2 _ rfl
    rw [e3] at h0
    rw [e2] at h1
    rw [e9] at h2
    simp only [List.drop_zero, List.take_succ_cons, List.take_zero, List.drop_succ_cons] at h0 h1 h2
    obtain ⟨k, q0, _, _⟩ := DataW.trod_int Tryz.underlying3 h0
    obtain ⟨i, q1, _, w1⟩ := DataW.trod_int Tryz.underlying2 h1
    obtain ⟨s, q2, _, _⟩ := DataW.trod_string Tryz.underlying9 h2
    simp at q0 q1 q2
    exact ⟨⟨k, i, s.data.toList⟩, by rw [q0, q1, q2, str_of]; rfl, i64_of w1⟩
set_option maxRecDepth 100000 in
/-- The values that came in. -/
theorem vals_in {fuel : Nat} {c0 : Value} {x : DataW H × List MemPlace} (h0 : DataW.trod enc Tryz.prog W 0 (fun _ => true) true fuel 29 [c0] = some x) : ∃ l : List ValA, ValsAt W c0 l ∧ ∀ x ∈ l, I64 x.n := by
  rcases slice_read Tryz.underlying29 e40 (by omega) h0 with rfl | ⟨b, off, len, cap, n', spot, rfl, hlc, _, hels⟩
  · exact ⟨[], ⟨⟨_, _, rfl⟩, fun h0 => by simp at h0, fun ao m cap e => by simp at e; omega⟩, by simp⟩
  · have hev : ∀ i, i < len → ∃ f : ValA, (∀ j v, f.cs[j]? = some v → W.cell? ⟨b, off + i * 3 + j, none⟩ = some v) ∧ I64 f.n := fun i hi => by
      obtain ⟨_, _, cs, y, hc, ht, _⟩ := hels i hi
      obtain ⟨f, rfl, hi6⟩ := val_read ht
      exact ⟨f, hc, hi6⟩
    obtain ⟨f, hff⟩ := choose_lt hev
    refine ⟨(List.range len).map f, ⟨⟨_, _, by simp; exact ⟨rfl, rfl⟩⟩, fun h0 => ?_, fun ao m cap e => by simp at e; omega⟩, fun x hx => ?_⟩
    rotate_left
    · simp only [List.mem_map, List.mem_range] at hx
      obtain ⟨i, hi, rfl⟩ := hx
      exact (hff i hi).2
    simp at h0
    obtain ⟨rfl, hb, _⟩ := hels 0 h0
    refine ⟨b, off, cap, by simp, hb, fun j v hv => ?_⟩
    rw [vcs_at] at hv
    cases hi : ((List.range len).map f)[j / 3]? with
    | none => rw [hi] at hv; cases hv
    | some p =>
      rw [hi] at hv
      have hil : j / 3 < len := by
        have := (List.getElem?_eq_some_iff.1 hi).1
        simpa using this
      have hpe : f (j / 3) = p := by simpa [hil] using hi
      have := (hff (j / 3) hil).1 (j % 3) v (by rw [hpe]; exact hv)
      rw [show off + j = off + j / 3 * 3 + j % 3 by omega]
      exact this
set_option maxRecDepth 100000 in
/-- The row that came in. -/
theorem row_in {fuel : Nat} {cs : List Value} {x : DataW H × List MemPlace} (h : DataW.trod enc Tryz.prog W 0 (fun _ => true) true fuel 31 cs = some x) :
    ∃ (hh : Bool) (u : Value) (vals : List ValA), cs = [.bool hh, u] ∧ ValsAt W u vals ∧ ∀ x ∈ vals, I64 x.n := by
  obtain ⟨xs, m, hm, hx, hl, hlen, hf⟩ := DataW.trod_struct Tryz.underlying31 h
  have hl' : cs.length = 2 := hl.trans e31
  match xs, hlen, cs, hl' with
  | [y0, y1], _, [c0, c1], _ =>
    have h0 : DataW.trod enc Tryz.prog W 0 (fun _ => true) true m 4 (([c0, c1].drop 0).take (Tryz.prog.cellsOf 4)) = some y0 := hf 0 _ rfl
    have h1 : DataW.trod enc Tryz.prog W 0 (fun _ => true) true m 29 (([c0, c1].drop 1).take (Tryz.prog.cellsOf 29)) = some y1 := hf 1 _ rfl
    rw [e4] at h0
    rw [e29] at h1
    simp only [List.drop_zero, List.take_succ_cons, List.take_zero, List.drop_succ_cons] at h0 h1
    obtain ⟨o, q0, _⟩ := DataW.trod_bool Tryz.underlying4 h0
    simp at q0
    obtain ⟨l, hl, hi⟩ := vals_in h1
    exact ⟨o, c1, l, by rw [q0], hl, hi⟩
end
end Go.Proofs.YtiinohibmcefkaaGreatDoor
namespace Go.Proofs.YtiinohibmcefkaaGreatDoor
open Go.RowKit Go.Maps

/-- An expression. -/
structure XE where
  op : Int
  n : Int
  s : Txt
  kids : EL
def XE.kind (S : List FieldA) (e : XE) : KA := (kindP S e.op e.s e.kids).1
def XE.el (e : XE) (r : EL) : EL := .cons e.op e.n e.s e.kids r
theorem kinds_el {S : List FieldA} {e : XE} {r : EL} (h : (kindsP S (e.el r)).2 = 0) : (kindP S e.op e.s e.kids).2 = 0 ∧ (kindsP S r).2 = 0 ∧ (kindsP S (e.el r)).1 = e.kind S :: (kindsP S r).1 := by
  unfold XE.el at h ⊢
  rw [kindsP_cons] at h ⊢
  by_cases h1 : (kindP S e.op e.s e.kids).2 = 0
  · by_cases h2 : (kindsP S r).2 = 0
    · refine ⟨h1, h2, ?_⟩
      simp [h1, h2, XE.kind]
    · simp [h1, h2] at h
  · simp [h1] at h
theorem kind_rule {S : List FieldA} {op : Int} {s : Txt} {kids : EL} (h : (kindP S op s kids).2 = 0) : (kindsP S kids).2 = 0 ∧ kindP S op s kids = ruleP S op s (kindsP S kids).1 := by
  unfold kindP at h ⊢
  by_cases h1 : (kindsP S kids).2 = 0
  · rw [if_neg (by simpa using h1)]
    exact ⟨h1, rfl⟩
  · rw [if_pos h1] at h
    exact absurd h h1
end Go.Proofs.YtiinohibmcefkaaGreatDoor
namespace Go.Proofs.YtiinohibmcefkaaGreatDoor
open Go.ChangeShapes Go.WideShapes Go.ChangeAt Go.RowKit Go.Deep
section
variable {H : Type} {enc : TypeId × Value → H} {W : World}
end
end Go.Proofs.YtiinohibmcefkaaGreatDoor
namespace Go.Proofs.YtiinohibmcefkaaGreatDoor
open Go.RowKit Go.Maps

theorem less_asym : ∀ (a b : Txt), Op.bytesLess a b = true → Op.bytesLess b a = false
  | [], [], h => by simp [Op.bytesLess] at h
  | [], _ :: _, _ => by simp [Op.bytesLess]
  | _ :: _, [], h => by simp [Op.bytesLess] at h
  | x :: a, y :: b, h => by
    simp only [Op.bytesLess, Bool.or_eq_true, Bool.and_eq_true, decide_eq_true_eq, beq_iff_eq] at h
    simp only [Op.bytesLess, Bool.or_eq_false_iff, Bool.and_eq_false_iff, decide_eq_false_iff_not, beq_eq_false_iff_ne]
    rcases h with h | ⟨rfl, h⟩
    · refine ⟨fun q => ?_, Or.inl fun q => ?_⟩
      · have h1 := UInt8.lt_iff_toNat_lt.1 h
        have h2 := UInt8.lt_iff_toNat_lt.1 q
        omega
      · have h1 := UInt8.lt_iff_toNat_lt.1 h
        rw [q] at h1
        omega
    · refine ⟨fun q => ?_, Or.inr (less_asym a b h)⟩
      have h2 := UInt8.lt_iff_toNat_lt.1 q
      omega
theorem less_tri : ∀ (a b : Txt), Op.bytesLess a b = false → Op.bytesLess b a = false → a = b
  | [], [], _, _ => rfl
  | [], _ :: _, h, _ => by simp [Op.bytesLess] at h
  | _ :: _, [], _, h => by simp [Op.bytesLess] at h
  | x :: a, y :: b, h, h' => by
    simp only [Op.bytesLess, Bool.or_eq_false_iff, Bool.and_eq_false_iff, decide_eq_false_iff_not, beq_eq_false_iff_ne] at h h'
    have hxy : x = y := by
      apply UInt8.toNat_inj.1
      have h1 : ¬ x.toNat < y.toNat := fun q => h.1 (UInt8.lt_iff_toNat_lt.2 q)
      have h2 : ¬ y.toNat < x.toNat := fun q => h'.1 (UInt8.lt_iff_toNat_lt.2 q)
      omega
    subst hxy
    have h1 := h.2.resolve_left (fun q => q rfl)
    have h2 := h'.2.resolve_left (fun q => q rfl)
    rw [less_tri a b h1 h2]
theorem less_irr (a : Txt) : Op.bytesLess a a = false := by
  cases h : Op.bytesLess a a with
  | false => rfl
  | true => have := less_asym a a h; rw [h] at this; cases this
end Go.Proofs.YtiinohibmcefkaaGreatDoor
namespace Go.Proofs.YtiinohibmcefkaaGreatDoor
open Go.RowKit Go.Maps

/-- How many of the first n are not done. -/
def undone (d : Nat → Bool) : Nat → Nat
  | 0 => 0
  | n + 1 => undone d n + if d n then 0 else 1
def mark (d : Nat → Bool) (i : Nat) : Nat → Bool := fun j => if j = i then true else d j
theorem undone_ge (d : Nat → Bool) {i : Nat} : ∀ {n : Nat}, n ≤ i → undone (mark d i) n = undone d n
  | 0, _ => rfl
  | n + 1, h => by
    have : mark d i n = d n := by unfold mark; rw [if_neg (by omega)]
    simp only [undone, this, undone_ge d (show n ≤ i by omega)]
theorem undone_mark {d : Nat → Bool} {i : Nat} (hd : d i = false) : ∀ {n : Nat}, i < n → undone (mark d i) n + 1 = undone d n
  | 0, h => by omega
  | n + 1, h => by
    by_cases hn : n = i
    · subst hn
      have : mark d n n = true := by unfold mark; rw [if_pos rfl]
      simp only [undone, this, hd, undone_ge d (Nat.le_refl n)]
      simp
    · have : mark d i n = d n := by unfold mark; rw [if_neg hn]
      have ih := undone_mark hd (show i < n by omega)
      simp only [undone, this]
      omega
theorem undone_zero {d : Nat → Bool} : ∀ {n : Nat}, undone d n = 0 → ∀ i, i < n → d i = true
  | 0, _, i, h => by omega
  | n + 1, h, i, hi => by
    simp only [undone] at h
    by_cases hn : i = n
    · subst hn
      cases hd : d i with
      | true => rfl
      | false => rw [hd] at h; simp at h
    · exact undone_zero (n := n) (by omega) i (by omega)
section
variable {P : Program} {ops : Array Oper} {Q : Exit → Act → World → Prop}
/-- A region whose edges go back alone, and in which none is ready: all are done. -/
theorem all_done (hac : ∀ (i : Nat) (o : Oper), ops[i]? = some o → ∀ e ∈ o.after, e.on < i) {listed : Array Bool} (hl : listed.size = ops.size) (hr : Region.ready .any ops listed = []) : ∀ i, i < ops.size → listed.getD i false = true := by
  intro i
  induction i using Nat.strongRecOn with
  | ind i ih =>
    intro hi
    cases hd : listed.getD i false with
    | true => rfl
    | false =>
      have hm : i ∈ Region.ready .any ops listed := by
        refine mem_ready.2 ⟨?_, ops[i], Array.getElem?_eq_getElem hi, fun e he _ => ih e.on (hac i _ (Array.getElem?_eq_getElem hi) e he) (Nat.lt_trans (hac i _ (Array.getElem?_eq_getElem hi) e he) hi)⟩
        rw [Array.getD_eq_getD_getElem?, Array.getElem?_eq_getElem (by omega)] at hd ⊢
        exact hd
      rw [hr] at hm
      cases hm
theorem wpAny_inv (hac : ∀ (i : Nat) (o : Oper), ops[i]? = some o → ∀ e ∈ o.after, e.on < i) (I : (Nat → Bool) → Act → World → Prop)
    (hs : ∀ (d : Nat → Bool) (a : Act) (w : World) (i : Nat) (o : Oper), I d a w → d i = false → ops[i]? = some o → (∀ e ∈ o.after, Region.binds .any e = true → d e.on = true) → wpOp P ops Q i (fun a' w' => I (mark d i) a' w') a w)
    (he : ∀ (d : Nat → Bool) (a : Act) (w : World), I d a w → (∀ i, i < ops.size → d i = true) → Q .normal a w) :
    ∀ (fuel : Nat) (listed : Array Bool) (a : Act) (w : World), listed.size = ops.size → undone (fun j => listed.getD j false) ops.size ≤ fuel → I (fun j => listed.getD j false) a w → wpAny P .any ops Q fuel listed a w
  | 0, listed, a, w, hl, hf, hI => by
    have hd := undone_zero (Nat.le_zero.1 hf)
    refine ⟨?_, he _ a w hI hd⟩
    cases hr : Region.ready .any ops listed with
    | nil => rfl
    | cons i r =>
      have hm : i ∈ Region.ready .any ops listed := by rw [hr]; exact List.mem_cons_self ..
      obtain ⟨h1, o, ho, _⟩ := mem_ready.1 hm
      have hi : i < ops.size := (Array.getElem?_eq_some_iff.1 ho).1
      have h2 := hd i hi
      rw [Array.getD_eq_getD_getElem?, Array.getElem?_eq_getElem (by omega)] at h1
      simp only [Array.getD_eq_getD_getElem?, Array.getElem?_eq_getElem (show i < listed.size by omega)] at h2
      have h1' : listed[i] = false := h1
      have h2' : listed[i] = true := h2
      rw [h1'] at h2'
      cases h2'
  | fuel + 1, listed, a, w, hl, hf, hI => by
    refine ⟨fun hr => he _ a w hI (all_done hac hl hr), fun i hm => ?_⟩
    obtain ⟨h1, o, ho, hall⟩ := mem_ready.1 hm
    have hi : i < ops.size := (Array.getElem?_eq_some_iff.1 ho).1
    have hd : listed.getD i false = false := by
      rw [Array.getD_eq_getD_getElem?, Array.getElem?_eq_getElem (by omega)] at h1 ⊢
      exact h1
    have heq : (fun j => (listed.setIfInBounds i true).getD j false) = mark (fun j => listed.getD j false) i := by
      funext j
      unfold mark
      by_cases hj : j = i
      · subst hj
        rw [if_pos rfl, Array.getD_eq_getD_getElem?, Array.getElem?_setIfInBounds_self_of_lt (by omega)]
        rfl
      · rw [if_neg hj]
        show (listed.setIfInBounds i true).getD j false = listed.getD j false
        rw [Array.getD_eq_getD_getElem?, Array.getD_eq_getD_getElem?, Array.getElem?_setIfInBounds_ne (fun e => hj e.symm)]
    refine wpOp_mono (fun a' w' hI' => ?_) (hs _ a w i o hI hd ho hall)
    refine wpAny_inv hac I hs he fuel (listed.setIfInBounds i true) a' w' (by simpa using hl) ?_ ?_
    · rw [heq]
      have := undone_mark (d := fun j => listed.getD j false) hd hi
      omega
    · rw [heq]
      exact hI'
/-- A region that draws its order, by what holds of those that are done. -/
theorem wp_region_inv {id : Nat} {a : Act} {w : World} (hm : P.follows .mixedOrders = true) (hac : ∀ (i : Nat) (o : Oper), ops[i]? = some o → ∀ e ∈ o.after, e.on < i) (I : (Nat → Bool) → Act → World → Prop)
    (h0 : I (fun _ => false) a w.drew)
    (hs : ∀ (d : Nat → Bool) (a : Act) (w : World) (i : Nat) (o : Oper), I d a w → d i = false → ops[i]? = some o → (∀ e ∈ o.after, Region.binds .any e = true → d e.on = true) → wpOp P ops Q i (fun a' w' => I (mark d i) a' w') a w)
    (he : ∀ (d : Nat → Bool) (a : Act) (w : World), I d a w → (∀ i, i < ops.size → d i = true) → Q .normal a w) : (Code.region id ops true).wp P Q a w := by
  refine wp_region_any hm ?_
  have e : (fun j => (Array.replicate ops.size false).getD j false) = fun _ => false := by
    funext j
    rw [Array.getD_eq_getD_getElem?, Array.getElem?_replicate]
    split <;> rfl
  have hu : ∀ n, undone (fun _ => false) n = n := fun n => by
    induction n with
    | zero => rfl
    | succ n ih => simp [undone, ih]
  refine wpAny_inv hac I hs he _ _ _ _ (by simp) ?_ ?_
  · rw [e, hu]
    exact Nat.le_refl _
  · rw [e]
    exact h0
end
end Go.Proofs.YtiinohibmcefkaaGreatDoor
namespace Go.Proofs.YtiinohibmcefkaaGreatDoor
open Go.RowKit Go.Maps

theorem put_get (a : Act) (d : Nat) (v : Value) (h : d < a.tmps.size) : (a.put (some d) v).tmps.getD d undef = v := by
  unfold Act.put
  rw [Array.getD_eq_getD_getElem?, Array.getElem?_setIfInBounds_self_of_lt h]
  rfl
theorem put_get_ne (a : Act) {d t : Nat} (v : Value) (h : d ≠ t) : (a.put (some d) v).tmps.getD t undef = a.tmps.getD t undef := by
  unfold Act.put
  simp only
  rw [Array.getD_eq_getD_getElem?, Array.getD_eq_getD_getElem?, Array.getElem?_setIfInBounds_ne h]
/-- The slots that a region doesn't write are as they were. -/
structure Same (a0 : Act) (n : Nat) (dst : Nat → Nat) (a : Act) : Prop where
  size : a.tmps.size = a0.tmps.size
  defers : a.defers = a0.defers
  slot : ∀ t, (∀ i, i < n → dst i ≠ t) → a.tmps.getD t undef = a0.tmps.getD t undef
theorem Same.put {a0 a : Act} {n : Nat} {dst : Nat → Nat} (h : Same a0 n dst a) {i : Nat} (hi : i < n) (v : Value) : Same a0 n dst (a.put (some (dst i)) v) :=
  ⟨by unfold Act.put; simpa using h.size, h.defers, fun t ht => (put_get_ne a v (ht i hi)).trans (h.slot t ht)⟩
section
variable {P : Program} {ops : Array Oper} {Q : Exit → Act → World → Prop}
/-- A region that draws its order and keeps all that was there, by what each of its slots holds, however its operations are drawn: F i v w says what the slot of the i-th holds once it is done. -/
theorem wp_region_slots {id : Nat} {a0 : Act} {w0 X : World} (hm : P.follows .mixedOrders = true) (hac : ∀ (i : Nat) (o : Oper), ops[i]? = some o → ∀ e ∈ o.after, e.on < i)
    (dst : Nat → Nat) (hdst : ∀ (i : Nat) (o : Oper), ops[i]? = some o → o.dst = some (dst i) ∧ o.guard = none ∧ dst i < a0.tmps.size) (hinj : ∀ i j, i < ops.size → j < ops.size → dst i = dst j → i = j)
    (hX : Keeps (fun _ => False) X w0)
    (F : Nat → Value → World → Prop) (hF : ∀ i v w w', F i v w → Keeps (fun _ => False) w w' → F i v w')
    (hs : ∀ (i : Nat) (o : Oper) (a : Act) (w : World), ops[i]? = some o → Same a0 ops.size dst a → Keeps (fun _ => False) X w → (∀ e ∈ o.after, Region.binds .any e = true → F e.on (a.tmps.getD (dst e.on) undef) w) →
      ∀ K' : Act → World → Prop, (∀ v w', F i v w' → Keeps (fun _ => False) w w' → K' (a.put (some (dst i)) v) w') → Oper.wp P o a w K' Q)
    (he : ∀ (a : Act) (w : World), Same a0 ops.size dst a → Keeps (fun _ => False) X w → (∀ i, i < ops.size → F i (a.tmps.getD (dst i) undef) w) → Q .normal a w) : (Code.region id ops true).wp P Q a0 w0 := by
  refine wp_region_inv hm hac (fun d a w => Same a0 ops.size dst a ∧ Keeps (fun _ => False) X w ∧ ∀ i, i < ops.size → d i = true → F i (a.tmps.getD (dst i) undef) w) ?_ ?_ ?_
  · exact ⟨⟨rfl, rfl, fun _ _ => rfl⟩, hX.drew, fun i _ h => by cases h⟩
  · rintro d a w i o ⟨h1, h2, h3⟩ hd ho hall
    have hi : i < ops.size := (Array.getElem?_eq_some_iff.1 ho).1
    obtain ⟨q1, q2, q3⟩ := hdst i o ho
    refine wpOp_step ho (fun K' hK => ?_)
    have hw : Region.wanted o (yielded ops a.tmps) = true := by simp [Region.wanted, q2]
    rw [if_pos hw]
    refine hs i o a w ho h1 h2 (fun e he hb => h3 e.on (Nat.lt_trans (hac i o ho e he) hi) (hall e he hb)) K' fun v w' hv hk => hK _ _ ⟨h1.put hi v, h2.trans hk, fun j hj hm => ?_⟩
    by_cases hij : j = i
    · subst hij
      rw [put_get a (dst j) v (by rw [h1.size]; exact q3)]
      exact hv
    · rw [put_get_ne a v (fun e => hij (hinj j i hj hi e.symm))]
      refine hF _ _ _ _ (h3 j hj ?_) hk
      unfold mark at hm
      rwa [if_neg hij] at hm
  · rintro d a w ⟨h1, h2, h3⟩ hd
    exact he a w h1 h2 (fun i hi => h3 i hi (hd i hi))
end
end Go.Proofs.YtiinohibmcefkaaGreatDoor
