import Derived.Test.YtiinohibmcefkaaGreatDoorXr
import Derived.Test.YtiinohibmcefkaaGreatDoorJbb
import Derived.Test.YtiinohibmcefkaaGreatDoorJae
import Derived.Deep.RegionHeld3
import Derived.Laws.Rows
import Derived.Laws.Tables
import Derived.Test.YtiinohibmcefkaaGreatDoorJzac
namespace Go.Proofs.YtiinohibmcefkaaGreatDoor
open Go.RowKit Go.Maps
theorem app_oneX (pre : EL) (op n : Int) (s : Txt) (kids rest : EL) : (pre.app (.cons op n s kids .nil)).app rest = pre.app (.cons op n s kids rest) := by rw [EL.app_assoc]; rfl
theorem EL.lenApp : ∀ l m : EL, (l.app m).len = l.len + m.len
 | .nil, _ => by simp [EL.app, EL.len]
 | .cons o n s k r, m => by simp [EL.app, EL.len, EL.lenApp r m]; omega
theorem EL.appNil : ∀ l : EL, l.app .nil = l
 | .nil => rfl
 | .cons o n s k r => by simp [EL.app, EL.appNil r]
end Go.Proofs.YtiinohibmcefkaaGreatDoor
namespace Go.Proofs.YtiinohibmcefkaaGreatDoor
open Go.ChangeShapes Go.WideShapes Go.ChangeAt Go.RowKit Go.Deep
set_option maxRecDepth 100000
theorem e31 : Tryz.prog.cellsOf 31 = 2 := by kernel_rfl
theorem e29 : Tryz.prog.cellsOf 29 = 1 := by kernel_rfl
def I64 (n : Int) : Prop := -9223372036854775808 ≤ n ∧ n ≤ 9223372036854775807
theorem i64_of {n : Int} (h : (Lit.int .i64 n).wf = true) : I64 n := by
 have h2 : IntKind.i64.min ≤ n ∧ n ≤ IntKind.i64.max := by simpa [Lit.wf] using h
 have a : IntKind.i64.min = -9223372036854775808 := by decide +kernel
 have b : IntKind.i64.max = 9223372036854775807 := by decide +kernel
 rw [a, b] at h2
 exact h2
theorem e40 : Tryz.prog.cellsOf 41 = 3 := by kernel_rfl
instance : Inhabited ValA := ⟨⟨0, 0, []⟩⟩
theorem vcs_at : ∀ (l : List ValA) (j : Nat), (vcs l)[j]? = (l[j / 3]?).bind fun x => x.cs[j % 3]?
 | [], j => by simp [vcs]
 | y :: r, j => by
  have e : vcs (y :: r) = y.cs ++ vcs r := rfl
  have hy : y.cs.length = 3 := rfl
  rw [e]
  by_cases h : j < 3
  ·rw [List.getElem?_append_left (by rw [hy]; exact h), Nat.div_eq_of_lt h, Nat.mod_eq_of_lt h]
   rfl
  ·rw [List.getElem?_append_right (by rw [hy]; omega), hy, vcs_at r (j - 3)]
   have h1 : j / 3 = (j - 3) / 3 + 1 := by omega
   have h2 : j % 3 = (j - 3) % 3 := by omega
   rw [h1, h2]
   rfl
section
variable {H : Type} {enc : TypeId × Value → H} {W : World}
theorem val_read {fuel : Nat} {cs : List Value} {x : DataW H × List MemPlace} (h : DataW.trod enc Tryz.prog W 0 (fun _ => true) true fuel 41 cs = some x) : ∃ f : ValA, cs = f.cs ∧ I64 f.n := by
 obtain ⟨xs, m, hm, _, hl, hlen, hf⟩ := DataW.trod_struct Tryz.underlying41 h
 have hl' : cs.length = 3 := hl.trans e40
 match xs, hlen, cs, hl' with
 | [y0, y1, y2], _, [c0, c1, c2], _ =>
  have h0 : DataW.trod enc Tryz.prog W 0 (fun _ => true) true m 3 (([c0, c1, c2].drop 0).take (Tryz.prog.cellsOf 3)) = some y0 := hf 0 _ rfl
  have h1 : DataW.trod enc Tryz.prog W 0 (fun _ => true) true m 2 (([c0, c1, c2].drop 1).take (Tryz.prog.cellsOf 2)) = some y1 := hf 1 _ rfl
  have h2 : DataW.trod enc Tryz.prog W 0 (fun _ => true) true m 9 (([c0, c1, c2].drop 2).take (Tryz.prog.cellsOf 9)) = some y2 := hf 2 _ rfl
  rw [e3] at h0
  rw [e2] at h1
  rw [e9] at h2
  simp only [List.drop_zero, List.take_succ_cons, List.take_zero, List.drop_succ_cons] at h0 h1 h2
  obtain ⟨k, q0, _, _⟩ := DataW.trod_int Tryz.underlying3 h0
  obtain ⟨i, q1, _, w1⟩ := DataW.trod_int Tryz.underlying2 h1
  obtain ⟨s, q2, _, _⟩ := DataW.trod_string Tryz.underlying9 h2
  simp at q0 q1 q2
  exact ⟨⟨k, i, s.data.toList⟩, by rw [q0, q1, q2, str_of]; rfl, i64_of w1⟩
theorem vals_in {fuel : Nat} {c0 : Value} {x : DataW H × List MemPlace} (h0 : DataW.trod enc Tryz.prog W 0 (fun _ => true) true fuel 29 [c0] = some x) : ∃ l : List ValA, ValsAt W c0 l ∧ ∀ x ∈ l, I64 x.n := by
 rcases slice_read Tryz.underlying29 e40 (by omega) h0 with rfl | ⟨b, off, len, cap, n', spot, rfl, hlc, _, hels⟩
 ·exact ⟨[], ⟨⟨_, _, rfl⟩, fun h0 => by simp at h0, fun ao m cap e => by simp at e; omega⟩, by simp⟩
 ·have hev : ∀ i, i < len → ∃ f : ValA, (∀ j v, f.cs[j]? = some v → W.cell? ⟨b, off + i * 3 + j, none⟩ = some v) ∧ I64 f.n := fun i hi => by
   obtain ⟨_, _, cs, y, hc, ht, _⟩ := hels i hi
   obtain ⟨f, rfl, hi6⟩ := val_read ht
   exact ⟨f, hc, hi6⟩
  obtain ⟨f, hff⟩ := choose_lt hev
  refine ⟨(List.range len).map f, ⟨⟨_, _, by simp; exact ⟨rfl, rfl⟩⟩, fun h0 => ?_, fun ao m cap e => by simp at e; omega⟩, fun x hx => ?_⟩
  rotate_left
  ·simp only [List.mem_map, List.mem_range] at hx
   obtain ⟨i, hi, rfl⟩ := hx
   exact (hff i hi).2
  simp at h0
  obtain ⟨rfl, hb, _⟩ := hels 0 h0
  refine ⟨b, off, cap, by simp, hb, fun j v hv => ?_⟩
  rw [vcs_at] at hv
  cases hi : ((List.range len).map f)[j / 3]? with
  | none => rw [hi] at hv; cases hv
  | some p =>
   rw [hi] at hv
   have hil : j / 3 < len := by
    have := (List.getElem?_eq_some_iff.1 hi).1
    simpa using this
   have hpe : f (j / 3) = p := by simpa [hil] using hi
   have := (hff (j / 3) hil).1 (j % 3) v (by rw [hpe]; exact hv)
   rw [show off + j = off + j / 3 * 3 + j % 3 by omega]
   exact this
theorem row_in {fuel : Nat} {cs : List Value} {x : DataW H × List MemPlace} (h : DataW.trod enc Tryz.prog W 0 (fun _ => true) true fuel 31 cs = some x) :
  ∃ (hh : Bool) (u : Value) (vals : List ValA), cs = [.bool hh, u] ∧ ValsAt W u vals ∧ ∀ x ∈ vals, I64 x.n := by
 obtain ⟨xs, m, hm, hx, hl, hlen, hf⟩ := DataW.trod_struct Tryz.underlying31 h
 have hl' : cs.length = 2 := hl.trans e31
 match xs, hlen, cs, hl' with
 | [y0, y1], _, [c0, c1], _ =>
  have h0 : DataW.trod enc Tryz.prog W 0 (fun _ => true) true m 4 (([c0, c1].drop 0).take (Tryz.prog.cellsOf 4)) = some y0 := hf 0 _ rfl
  have h1 : DataW.trod enc Tryz.prog W 0 (fun _ => true) true m 29 (([c0, c1].drop 1).take (Tryz.prog.cellsOf 29)) = some y1 := hf 1 _ rfl
  rw [e4] at h0
  rw [e29] at h1
  simp only [List.drop_zero, List.take_succ_cons, List.take_zero, List.drop_succ_cons] at h0 h1
  obtain ⟨o, q0, _⟩ := DataW.trod_bool Tryz.underlying4 h0
  simp at q0
  obtain ⟨l, hl, hi⟩ := vals_in h1
  exact ⟨o, c1, l, by rw [q0], hl, hi⟩
end
end Go.Proofs.YtiinohibmcefkaaGreatDoor
namespace Go.Proofs.YtiinohibmcefkaaGreatDoor
open Go.RowKit Go.Maps
structure XE where
 op : Int
 n : Int
 s : Txt
 kids : EL
def XE.kind (S : List FieldA) (e : XE) : KA := (kindP S e.op e.s e.kids).1
def XE.el (e : XE) (r : EL) : EL := .cons e.op e.n e.s e.kids r
theorem kinds_el {S : List FieldA} {e : XE} {r : EL} (h : (kindsP S (e.el r)).2 = 0) : (kindP S e.op e.s e.kids).2 = 0 ∧ (kindsP S r).2 = 0 ∧ (kindsP S (e.el r)).1 = e.kind S :: (kindsP S r).1 := by
 unfold XE.el at h ⊢
 rw [kindsP_cons] at h ⊢
 by_cases h1 : (kindP S e.op e.s e.kids).2 = 0
 ·by_cases h2 : (kindsP S r).2 = 0
  ·refine ⟨h1, h2, ?_⟩
   simp [h1, h2, XE.kind]
  ·simp [h1, h2] at h
 ·simp [h1] at h
theorem kind_rule {S : List FieldA} {op : Int} {s : Txt} {kids : EL} (h : (kindP S op s kids).2 = 0) : (kindsP S kids).2 = 0 ∧ kindP S op s kids = ruleP S op s (kindsP S kids).1 := by
 unfold kindP at h ⊢
 by_cases h1 : (kindsP S kids).2 = 0
 ·rw [if_neg (by simpa using h1)]
  exact ⟨h1, rfl⟩
 ·rw [if_pos h1] at h
  exact absurd h h1
theorem wrap_i64 {x : Int} (h : I64 x) : wrap64 x = x := by
 unfold I64 at h
 unfold wrap64
 omega
theorem wrap_in (x : Int) : I64 (wrap64 x) := by
 unfold I64 wrap64
 omega
def intE : EL → Prop
 | .nil => True
 | .cons _ n _ k r => I64 n ∧ intE k ∧ intE r
theorem tru_in (b : Bool) : I64 (truV b).n := by unfold truV I64; cases b <;> simp
theorem z_in : I64 zV.n := by unfold zV I64; simp
theorem kV_in {l : List ValA} (h : ∀ v ∈ l, I64 v.n) (i : Nat) : I64 (kV l i).n := by
 unfold kV
 rw [List.getD_eq_getElem?_getD]
 cases hi : l[i]? with
 | none => exact z_in
 | some v => exact h v (List.mem_of_getElem? hi)
theorem ite_in {c : Prop} [Decidable c] {a b : ValA} (ha : I64 a.n) (hb : I64 b.n) : I64 (if c then a else b).n := by
 split
 ·exact ha
 ·exact hb
theorem opV_in (op : Int) {ks : List ValA} (h : ∀ v ∈ ks, I64 v.n) (hs : ∀ v ∈ ks, v.s.length ≤ 20) : I64 (opV op ks).n := by
 have h0 := kV_in h 0
 have h1 := kV_in h 1
 have h2 := kV_in h 2
 have hl := kV_short hs 0
 unfold opV
 repeat' first
  | exact tru_in _
  | exact wrap_in _
  | exact h0
  | exact h1
  | exact h2
  | (show I64 (min _ _); unfold I64 at *; omega)
  | (show I64 (max _ _); unfold I64 at *; omega)
  | (show I64 ((kV ks 0).s.length : Int); unfold I64; omega)
  | (show I64 0; unfold I64; omega)
  | refine ite_in ?_ ?_
theorem zeros_in {S : List FieldA} : ∀ v ∈ zeros S, I64 v.n := by
 intro v hv
 unfold zeros at hv
 obtain ⟨f, _, rfl⟩ := List.mem_map.1 hv
 unfold zeroV I64
 split <;> simp
theorem field_in {S : List FieldA} {h : Bool} {vals : List ValA} (hv : ∀ v ∈ vals, I64 v.n) (nm : Txt) : I64 (fieldV S h vals nm).n := by
 unfold fieldV
 have key : ∀ l : List ValA, (∀ v ∈ l, I64 v.n) → I64 ((l[placeP S nm]?).getD zV).n := fun l hl => by
  cases hi : l[placeP S nm]? with
  | none => exact z_in
  | some v => exact hl v (List.mem_of_getElem? hi)
 cases h with
 | true => exact key vals hv
 | false => exact key (zeros S) zeros_in
theorem leaf_in {S : List FieldA} {h : Bool} {vals : List ValA} (hv : ∀ v ∈ vals, I64 v.n) (op : Int) {n : Int} (hn : I64 n) (s : Txt) : I64 (leafV S h vals op n s).n := by
 unfold leafV
 repeat' split
 all_goals first
  | exact hn
  | exact tru_in _
  | exact field_in hv s
  | (unfold I64 bytV; simp)
theorem vals_in64 {S : List FieldA} {h : Bool} {vals : List ValA} (hr : Rw S h vals) (hv : ∀ v ∈ vals, I64 v.n) : ∀ l : EL, wellE l = true → intE l → ∀ v ∈ valsP S h vals l, I64 v.n
 | .nil, _, _, v, hm => by simp [valsP] at hm
 | .cons op n s kids rest, hw, ⟨hn, hk, hrest⟩, v, hm => by
  simp only [wellE, Bool.and_eq_true] at hw
  rw [valsP_cons] at hm
  rcases List.mem_cons.1 hm with rfl | hm
  ·unfold nodeV
   split
   ·exact leaf_in hv op hn s
   ·exact opV_in op (vals_in64 hr hv kids hw.2.1 hk) (valsP_short hr kids hw.2.1)
  ·exact vals_in64 hr hv rest hw.2.2 hrest v hm
end Go.Proofs.YtiinohibmcefkaaGreatDoor
namespace Go.Proofs.YtiinohibmcefkaaGreatDoor
open Go.ChangeShapes Go.WideShapes Go.ChangeAt Go.RowKit Go.Deep
set_option maxRecDepth 100000
section
variable {H : Type} {enc : TypeId × Value → H} {W : World}
theorem expr_readI {fuel : Nat} {cs : List Value} {x : DataW H × List MemPlace} (h : DataW.trod enc Tryz.prog W 0 (fun _ => true) true fuel 27 cs = some x) :
  ∃ (op n : Int) (s : Txt) (kv : Value) (m : Nat) (y : DataW H × List MemPlace), fuel = m + 1 ∧ I64 n ∧ cs = [.int .i64 op, .int .i64 n, str s, kv] ∧ DataW.trod enc Tryz.prog W 0 (fun _ => true) true m 25 [kv] = some y := by
 obtain ⟨xs, m, hm, _, hl, hlen, hf⟩ := DataW.trod_struct Tryz.underlying27 h
 have hl' : cs.length = 4 := hl.trans Tryz.cells27
 match xs, hlen, cs, hl' with
 | [y0, y1, y2, y3], _, [c0, c1, c2, c3], _ =>
  have h0 : DataW.trod enc Tryz.prog W 0 (fun _ => true) true m 3 (([c0, c1, c2, c3].drop 0).take (Tryz.prog.cellsOf 3)) = some y0 := hf 0 _ rfl
  have h1 : DataW.trod enc Tryz.prog W 0 (fun _ => true) true m 2 (([c0, c1, c2, c3].drop 1).take (Tryz.prog.cellsOf 2)) = some y1 := hf 1 _ rfl
  have h2 : DataW.trod enc Tryz.prog W 0 (fun _ => true) true m 9 (([c0, c1, c2, c3].drop 2).take (Tryz.prog.cellsOf 9)) = some y2 := hf 2 _ rfl
  have h3 : DataW.trod enc Tryz.prog W 0 (fun _ => true) true m 25 (([c0, c1, c2, c3].drop 3).take (Tryz.prog.cellsOf 25)) = some y3 := hf 3 _ rfl
  rw [e3] at h0
  rw [e2] at h1
  rw [e9] at h2
  rw [e23] at h3
  simp only [List.drop_zero, List.take_succ_cons, List.take_zero, List.drop_succ_cons] at h0 h1 h2 h3
  obtain ⟨k, q0, _, _⟩ := DataW.trod_int Tryz.underlying3 h0
  obtain ⟨i, q1, _, w1⟩ := DataW.trod_int Tryz.underlying2 h1
  obtain ⟨s, q2, _, _⟩ := DataW.trod_string Tryz.underlying9 h2
  simp at q0 q1 q2
  exact ⟨k, i, s.data.toList, c3, m, y3, hm, i64_of w1, by rw [q0, q1, q2, str_of], h3⟩
theorem exprs_inI (F : Nat) : ∀ (fuel : Nat) (c : Value) (x : DataW H × List MemPlace), fuel < F → DataW.trod enc Tryz.prog W 0 (fun _ => true) true fuel 25 [c] = some x → ∃ l : EL, intE l ∧ ∀ up, SlE (argZ W.heap.size) W up c l := by
 induction F with
 | zero => intro fuel c x h; omega
 | succ F ih =>
  intro fuel c x hF h
  rcases slice_read Tryz.underlying25 Tryz.cells27 (by omega) h with rfl | ⟨b, off, len, cap, n, spot, rfl, hl, hn, hel⟩
  ·exact ⟨.nil, trivial, fun up => ⟨none, 0, rfl, Nat.le_refl _, fun h => absurd rfl h⟩⟩
  ·have key : ∀ k i, i + k = len → ∃ l : EL, l.len = k ∧ intE l ∧ ExIn (argZ W.heap.size) W l b (off + i * 4) := by
    intro k
    induction k with
    | zero => exact fun i _ => ⟨.nil, rfl, trivial, trivial⟩
    | succ k ihk =>
     intro i hi
     obtain ⟨r, hr1, hri, hr2⟩ := ihk (i + 1) (by omega)
     obtain ⟨_, hb, cs, y, hc, ht, _⟩ := hel i (by omega)
     obtain ⟨op, nn, s, kv, m, z, hm, hnn, rfl, hk⟩ := expr_readI ht
     obtain ⟨kids, hki, hkids⟩ := ih m kv z (by omega) hk
     obtain ⟨ao, kc, rfl, hkc, hkx⟩ := hkids b
     refine ⟨.cons op nn s kids r, by simp [EL.len, hr1], ⟨hnn, hki, hri⟩, hb, hb, hc 0 _ rfl, hc 1 _ rfl, hc 2 _ rfl, ⟨ao, kc, hc 3 _ rfl, hkc, hkx⟩, ?_⟩
     rw [show off + i * 4 + 4 = off + (i + 1) * 4 by omega]
     exact hr2
   obtain ⟨l, hl1, hli, hl2⟩ := key len 0 (by omega)
   subst hl1
   refine ⟨l, hli, fun up => ⟨_, cap, rfl, hl, fun h0 => ?_⟩⟩
   obtain ⟨rfl, _⟩ := hel 0 (by omega)
   exact ⟨b, off, rfl, trivial, by simpa using hl2⟩
end
end Go.Proofs.YtiinohibmcefkaaGreatDoor
namespace Go.Proofs.YtiinohibmcefkaaGreatDoor
open Go.RowKit Go.Maps
theorem less_asym : ∀ (a b : Txt), Op.bytesLess a b = true → Op.bytesLess b a = false
 | [], [], h => by simp [Op.bytesLess] at h
 | [], _ :: _, _ => by simp [Op.bytesLess]
 | _ :: _, [], h => by simp [Op.bytesLess] at h
 | x :: a, y :: b, h => by
  simp only [Op.bytesLess, Bool.or_eq_true, Bool.and_eq_true, decide_eq_true_eq, beq_iff_eq] at h
  simp only [Op.bytesLess, Bool.or_eq_false_iff, Bool.and_eq_false_iff, decide_eq_false_iff_not, beq_eq_false_iff_ne]
  rcases h with h | ⟨rfl, h⟩
  ·refine ⟨fun q => ?_, Or.inl fun q => ?_⟩
   ·have h1 := UInt8.lt_iff_toNat_lt.1 h
    have h2 := UInt8.lt_iff_toNat_lt.1 q
    omega
   ·have h1 := UInt8.lt_iff_toNat_lt.1 h
    rw [q] at h1
    omega
  ·refine ⟨fun q => ?_, Or.inr (less_asym a b h)⟩
   have h2 := UInt8.lt_iff_toNat_lt.1 q
   omega
theorem less_tri : ∀ (a b : Txt), Op.bytesLess a b = false → Op.bytesLess b a = false → a = b
 | [], [], _, _ => rfl
 | [], _ :: _, h, _ => by simp [Op.bytesLess] at h
 | _ :: _, [], _, h => by simp [Op.bytesLess] at h
 | x :: a, y :: b, h, h' => by
  simp only [Op.bytesLess, Bool.or_eq_false_iff, Bool.and_eq_false_iff, decide_eq_false_iff_not, beq_eq_false_iff_ne] at h h'
  have hxy : x = y := by
   apply UInt8.toNat_inj.1
   have h1 : ¬ x.toNat < y.toNat := fun q => h.1 (UInt8.lt_iff_toNat_lt.2 q)
   have h2 : ¬ y.toNat < x.toNat := fun q => h'.1 (UInt8.lt_iff_toNat_lt.2 q)
   omega
  subst hxy
  have h1 := h.2.resolve_left (fun q => q rfl)
  have h2 := h'.2.resolve_left (fun q => q rfl)
  rw [less_tri a b h1 h2]
theorem less_irr (a : Txt) : Op.bytesLess a a = false := by
 cases h : Op.bytesLess a a with
 | false => rfl
 | true => have := less_asym a a h; rw [h] at this; cases this
end Go.Proofs.YtiinohibmcefkaaGreatDoor
namespace Go.Proofs.YtiinohibmcefkaaGreatDoor
open Go.RowKit Go.Maps
def undone (d : Nat → Bool) : Nat → Nat
 | 0 => 0
 | n + 1 => undone d n + if d n then 0 else 1
def mark (d : Nat → Bool) (i : Nat) : Nat → Bool := fun j => if j = i then true else d j
theorem undone_ge (d : Nat → Bool) {i : Nat} : ∀ {n : Nat}, n ≤ i → undone (mark d i) n = undone d n
 | 0, _ => rfl
 | n + 1, h => by
  have : mark d i n = d n := by unfold mark; rw [if_neg (by omega)]
  simp only [undone, this, undone_ge d (show n ≤ i by omega)]
theorem undone_mark {d : Nat → Bool} {i : Nat} (hd : d i = false) : ∀ {n : Nat}, i < n → undone (mark d i) n + 1 = undone d n
 | 0, h => by omega
 | n + 1, h => by
  by_cases hn : n = i
  ·subst hn
   have : mark d n n = true := by unfold mark; rw [if_pos rfl]
   simp only [undone, this, hd, undone_ge d (Nat.le_refl n)]
   simp
  ·have : mark d i n = d n := by unfold mark; rw [if_neg hn]
   have ih := undone_mark hd (show i < n by omega)
   simp only [undone, this]
   omega
theorem undone_zero {d : Nat → Bool} : ∀ {n : Nat}, undone d n = 0 → ∀ i, i < n → d i = true
 | 0, _, i, h => by omega
 | n + 1, h, i, hi => by
  simp only [undone] at h
  by_cases hn : i = n
  ·subst hn
   cases hd : d i with
   | true => rfl
   | false => rw [hd] at h; simp at h
  ·exact undone_zero (n := n) (by omega) i (by omega)
section
variable {P : Program} {ops : Array Oper} {Q : Exit → Act → World → Prop}
theorem all_done (hac : ∀ (i : Nat) (o : Oper), ops[i]? = some o → ∀ e ∈ o.after, e.on < i) {listed : Array Bool} (hl : listed.size = ops.size) (hr : Region.ready .any ops listed = []) : ∀ i, i < ops.size → listed.getD i false = true := by
 intro i
 induction i using Nat.strongRecOn with
 | ind i ih =>
  intro hi
  cases hd : listed.getD i false with
  | true => rfl
  | false =>
   have hm : i ∈ Region.ready .any ops listed := by
    refine mem_ready.2 ⟨?_, ops[i], Array.getElem?_eq_getElem hi, fun e he _ => ih e.on (hac i _ (Array.getElem?_eq_getElem hi) e he) (Nat.lt_trans (hac i _ (Array.getElem?_eq_getElem hi) e he) hi)⟩
    rw [Array.getD_eq_getD_getElem?, Array.getElem?_eq_getElem (by omega)] at hd ⊢
    exact hd
   rw [hr] at hm
   cases hm
theorem wpAny_inv (hac : ∀ (i : Nat) (o : Oper), ops[i]? = some o → ∀ e ∈ o.after, e.on < i) (I : (Nat → Bool) → Act → World → Prop)
  (hs : ∀ (d : Nat → Bool) (a : Act) (w : World) (i : Nat) (o : Oper), I d a w → d i = false → ops[i]? = some o → (∀ e ∈ o.after, Region.binds .any e = true → d e.on = true) → wpOp P ops Q i (fun a' w' => I (mark d i) a' w') a w)
  (he : ∀ (d : Nat → Bool) (a : Act) (w : World), I d a w → (∀ i, i < ops.size → d i = true) → Q .normal a w) :
  ∀ (fuel : Nat) (listed : Array Bool) (a : Act) (w : World), listed.size = ops.size → undone (fun j => listed.getD j false) ops.size ≤ fuel → I (fun j => listed.getD j false) a w → wpAny P .any ops Q fuel listed a w
 | 0, listed, a, w, hl, hf, hI => by
  have hd := undone_zero (Nat.le_zero.1 hf)
  refine ⟨?_, he _ a w hI hd⟩
  cases hr : Region.ready .any ops listed with
  | nil => rfl
  | cons i r =>
   have hm : i ∈ Region.ready .any ops listed := by rw [hr]; exact List.mem_cons_self ..
   obtain ⟨h1, o, ho, _⟩ := mem_ready.1 hm
   have hi : i < ops.size := (Array.getElem?_eq_some_iff.1 ho).1
   have h2 := hd i hi
   rw [Array.getD_eq_getD_getElem?, Array.getElem?_eq_getElem (by omega)] at h1
   simp only [Array.getD_eq_getD_getElem?, Array.getElem?_eq_getElem (show i < listed.size by omega)] at h2
   have h1' : listed[i] = false := h1
   have h2' : listed[i] = true := h2
   rw [h1'] at h2'
   cases h2'
 | fuel + 1, listed, a, w, hl, hf, hI => by
  refine ⟨fun hr => he _ a w hI (all_done hac hl hr), fun i hm => ?_⟩
  obtain ⟨h1, o, ho, hall⟩ := mem_ready.1 hm
  have hi : i < ops.size := (Array.getElem?_eq_some_iff.1 ho).1
  have hd : listed.getD i false = false := by
   rw [Array.getD_eq_getD_getElem?, Array.getElem?_eq_getElem (by omega)] at h1 ⊢
   exact h1
  have heq : (fun j => (listed.setIfInBounds i true).getD j false) = mark (fun j => listed.getD j false) i := by
   funext j
   unfold mark
   by_cases hj : j = i
   ·subst hj
    rw [if_pos rfl, Array.getD_eq_getD_getElem?, Array.getElem?_setIfInBounds_self_of_lt (by omega)]
    rfl
   ·rw [if_neg hj]
    show (listed.setIfInBounds i true).getD j false = listed.getD j false
    rw [Array.getD_eq_getD_getElem?, Array.getD_eq_getD_getElem?, Array.getElem?_setIfInBounds_ne (fun e => hj e.symm)]
  refine wpOp_mono (fun a' w' hI' => ?_) (hs _ a w i o hI hd ho hall)
  refine wpAny_inv hac I hs he fuel (listed.setIfInBounds i true) a' w' (by simpa using hl) ?_ ?_
  ·rw [heq]
   have := undone_mark (d := fun j => listed.getD j false) hd hi
   omega
  ·rw [heq]
   exact hI'
theorem wp_region_inv {id : Nat} {a : Act} {w : World} (hm : P.follows .mixedOrders = true) (hac : ∀ (i : Nat) (o : Oper), ops[i]? = some o → ∀ e ∈ o.after, e.on < i) (I : (Nat → Bool) → Act → World → Prop)
  (h0 : I (fun _ => false) a w.drew)
  (hs : ∀ (d : Nat → Bool) (a : Act) (w : World) (i : Nat) (o : Oper), I d a w → d i = false → ops[i]? = some o → (∀ e ∈ o.after, Region.binds .any e = true → d e.on = true) → wpOp P ops Q i (fun a' w' => I (mark d i) a' w') a w)
  (he : ∀ (d : Nat → Bool) (a : Act) (w : World), I d a w → (∀ i, i < ops.size → d i = true) → Q .normal a w) : (Code.region id ops true).wp P Q a w := by
 refine wp_region_any hm ?_
 have e : (fun j => (Array.replicate ops.size false).getD j false) = fun _ => false := by
  funext j
  rw [Array.getD_eq_getD_getElem?, Array.getElem?_replicate]
  split <;> rfl
 have hu : ∀ n, undone (fun _ => false) n = n := fun n => by
  induction n with
  | zero => rfl
  | succ n ih => simp [undone, ih]
 refine wpAny_inv hac I hs he _ _ _ _ (by simp) ?_ ?_
 ·rw [e, hu]
  exact Nat.le_refl _
 ·rw [e]
  exact h0
end
end Go.Proofs.YtiinohibmcefkaaGreatDoor
namespace Go.Proofs.YtiinohibmcefkaaGreatDoor
open Go.RowKit Go.Maps
theorem put_get (a : Act) (d : Nat) (v : Value) (h : d < a.tmps.size) : (a.put (some d) v).tmps.getD d undef = v := by
 unfold Act.put
 rw [Array.getD_eq_getD_getElem?, Array.getElem?_setIfInBounds_self_of_lt h]
 rfl
theorem put_get_ne (a : Act) {d t : Nat} (v : Value) (h : d ≠ t) : (a.put (some d) v).tmps.getD t undef = a.tmps.getD t undef := by
 unfold Act.put
 simp only
 rw [Array.getD_eq_getD_getElem?, Array.getD_eq_getD_getElem?, Array.getElem?_setIfInBounds_ne h]
structure Same (a0 : Act) (n : Nat) (dst : Nat → Nat) (a : Act) : Prop where
 size : a.tmps.size = a0.tmps.size
 defers : a.defers = a0.defers
 slot : ∀ t, (∀ i, i < n → dst i ≠ t) → a.tmps.getD t undef = a0.tmps.getD t undef
theorem Same.put {a0 a : Act} {n : Nat} {dst : Nat → Nat} (h : Same a0 n dst a) {i : Nat} (hi : i < n) (v : Value) : Same a0 n dst (a.put (some (dst i)) v) :=
 ⟨by unfold Act.put; simpa using h.size, h.defers, fun t ht => (put_get_ne a v (ht i hi)).trans (h.slot t ht)⟩
section
variable {P : Program} {ops : Array Oper} {Q : Exit → Act → World → Prop}
theorem wp_region_slots {id : Nat} {a0 : Act} {w0 X : World} (hm : P.follows .mixedOrders = true) (hac : ∀ (i : Nat) (o : Oper), ops[i]? = some o → ∀ e ∈ o.after, e.on < i)
  (dst : Nat → Nat) (hdst : ∀ (i : Nat) (o : Oper), ops[i]? = some o → o.dst = some (dst i) ∧ o.guard = none ∧ dst i < a0.tmps.size) (hinj : ∀ i j, i < ops.size → j < ops.size → dst i = dst j → i = j)
  (hX : Keeps (fun _ => False) X w0)
  (F : Nat → Value → World → Prop) (hF : ∀ i v w w', F i v w → Keeps (fun _ => False) w w' → F i v w')
  (hs : ∀ (i : Nat) (o : Oper) (a : Act) (w : World), ops[i]? = some o → Same a0 ops.size dst a → Keeps (fun _ => False) X w → (∀ e ∈ o.after, Region.binds .any e = true → F e.on (a.tmps.getD (dst e.on) undef) w) →
    ∀ K' : Act → World → Prop, (∀ v w', F i v w' → Keeps (fun _ => False) w w' → K' (a.put (some (dst i)) v) w') → Oper.wp P o a w K' Q)
  (he : ∀ (a : Act) (w : World), Same a0 ops.size dst a → Keeps (fun _ => False) X w → (∀ i, i < ops.size → F i (a.tmps.getD (dst i) undef) w) → Q .normal a w) : (Code.region id ops true).wp P Q a0 w0 := by
 refine wp_region_inv hm hac (fun d a w => Same a0 ops.size dst a ∧ Keeps (fun _ => False) X w ∧ ∀ i, i < ops.size → d i = true → F i (a.tmps.getD (dst i) undef) w) ?_ ?_ ?_
 ·exact ⟨⟨rfl, rfl, fun _ _ => rfl⟩, hX.drew, fun i _ h => by cases h⟩
 ·rintro d a w i o ⟨h1, h2, h3⟩ hd ho hall
  have hi : i < ops.size := (Array.getElem?_eq_some_iff.1 ho).1
  obtain ⟨q1, q2, q3⟩ := hdst i o ho
  refine wpOp_step ho (fun K' hK => ?_)
  have hw : Region.wanted o (yielded ops a.tmps) = true := by simp [Region.wanted, q2]
  rw [if_pos hw]
  refine hs i o a w ho h1 h2 (fun e he hb => h3 e.on (Nat.lt_trans (hac i o ho e he) hi) (hall e he hb)) K' fun v w' hv hk => hK _ _ ⟨h1.put hi v, h2.trans hk, fun j hj hm => ?_⟩
  by_cases hij : j = i
  ·subst hij
   rw [put_get a (dst j) v (by rw [h1.size]; exact q3)]
   exact hv
  ·rw [put_get_ne a v (fun e => hij (hinj j i hj hi e.symm))]
   refine hF _ _ _ _ (h3 j hj ?_) hk
   unfold mark at hm
   rwa [if_neg hij] at hm
 ·rintro d a w ⟨h1, h2, h3⟩ hd
  exact he a w h1 h2 (fun i hi => h3 i hi (hd i hi))
end
end Go.Proofs.YtiinohibmcefkaaGreatDoor
namespace Go.Proofs.YtiinohibmcefkaaGreatDoor
open Go.RowKit Go.Maps
section
variable {Q : Exit → Act → World → Prop} {K : Act → World → Prop} {o : Oper} {a : Act} {w : World}
theorem slot_of {a : Act} {t : Nat} {v : Value} (h : a.tmps.getD t undef = v) : a.tmps[t]?.getD undef = v := by rw [← Array.getD_eq_getD_getElem?]; exact h
theorem step_assign {t : Nat} {v : Value} (ho : o.op = .assign (.tmp t)) (ht : a.tmps.getD t undef = v) (hk : K (a.put o.dst v) w) : Oper.wp Tryz.prog o a w K Q := by
 have he : a.eval (.tmp t) = v := ht
 unfold Oper.wp
 simp only [execOp, ho, he]
 exact hk
theorem step_load24 {t g : Nat} {x : Value} (ho : o.op = .load 24 (.tmp t)) (ht : a.tmps.getD t undef = .pointer (some ⟨g, 0, none⟩)) (hg : w.heap[g]? = some (.cells #[x] 24 (0, 0))) (hk : K (a.put o.dst (.agg #[x])) w) : Oper.wp Tryz.prog o a w K Q :=
 wp_load_row 24 (.tmp t) ho g ht 24 #[x] (0, 0) _ hg Tryz.underlying24 rfl (by kernel_rfl) hk
theorem step_load31 {t g : Nat} {x y : Value} (ho : o.op = .load 31 (.tmp t)) (ht : a.tmps.getD t undef = .pointer (some ⟨g, 0, none⟩)) (hg : w.heap[g]? = some (.cells #[x, y] 31 (0, 0))) (hk : K (a.put o.dst (.agg #[x, y])) w) : Oper.wp Tryz.prog o a w K Q :=
 wp_load_row 31 (.tmp t) ho g ht 31 #[x, y] (0, 0) _ hg Tryz.underlying31 rfl (by kernel_rfl) hk
end
end Go.Proofs.YtiinohibmcefkaaGreatDoor
namespace Go.Proofs.YtiinohibmcefkaaGreatDoor
open Go.RowKit Go.Maps
def opsB (dl : List Nat) (sz : Nat) : Nat → List Oper → Bool
 | _, [] => true
 | i, o :: r => decide (o.dst = some (dl.getD i 0)) && o.guard.isNone && decide (dl.getD i 0 < sz) && o.after.toList.all (fun e => decide (e.on < i)) && opsB dl sz (i + 1) r
theorem opsB_at {dl : List Nat} {sz : Nat} : ∀ {l : List Oper} {k : Nat}, opsB dl sz k l = true → ∀ (j : Nat) (o : Oper), l[j]? = some o → o.dst = some (dl.getD (k + j) 0) ∧ o.guard = none ∧ dl.getD (k + j) 0 < sz ∧ ∀ e ∈ o.after, e.on < k + j
 | [], _, _, j, o, h => by simp at h
 | x :: r, k, hB, 0, o, h => by
  simp at h
  subst h
  simp only [opsB, Bool.and_eq_true, decide_eq_true_eq, Option.isNone_iff_eq_none] at hB
  obtain ⟨⟨⟨⟨h1, h2⟩, h3⟩, h4⟩, _⟩ := hB
  refine ⟨h1, h2, h3, fun e he => ?_⟩
  have := List.all_eq_true.1 h4 e (by simpa using he)
  simpa using this
 | x :: r, k, hB, j + 1, o, h => by
  simp only [opsB, Bool.and_eq_true] at hB
  have := opsB_at hB.2 j o (by simpa using h)
  rw [show k + 1 + j = k + (j + 1) by omega] at this
  exact this
section
variable {P : Program} {ops : Array Oper} {Q : Exit → Act → World → Prop}
theorem wp_region_table {id : Nat} {a0 : Act} {w0 X : World} (hm : P.follows .mixedOrders = true) (dl : List Nat) (hn : dl.Nodup) (hlen : dl.length = ops.size) (hB : opsB dl a0.tmps.size 0 ops.toList = true)
  (hX : Keeps (fun _ => False) X w0)
  (F : Nat → Value → World → Prop) (hF : ∀ i v w w', F i v w → Keeps (fun _ => False) w w' → F i v w')
  (hs : ∀ (i : Nat) (o : Oper) (a : Act) (w : World), ops[i]? = some o → Same a0 ops.size (fun i => dl.getD i 0) a → Keeps (fun _ => False) X w → (∀ e ∈ o.after, Region.binds .any e = true → F e.on (a.tmps.getD (dl.getD e.on 0) undef) w) →
    ∀ K' : Act → World → Prop, (∀ v w', F i v w' → Keeps (fun _ => False) w w' → K' (a.put o.dst v) w') → Oper.wp P o a w K' Q)
  (he : ∀ (a : Act) (w : World), Same a0 ops.size (fun i => dl.getD i 0) a → Keeps (fun _ => False) X w → (∀ i, i < ops.size → F i (a.tmps.getD (dl.getD i 0) undef) w) → Q .normal a w) : (Code.region id ops true).wp P Q a0 w0 := by
 have hat : ∀ (i : Nat) (o : Oper), ops[i]? = some o → o.dst = some (dl.getD i 0) ∧ o.guard = none ∧ dl.getD i 0 < a0.tmps.size ∧ ∀ e ∈ o.after, e.on < i := fun i o ho => by
  have := opsB_at hB i o (by simpa using ho)
  rwa [Nat.zero_add] at this
 refine wp_region_slots hm (fun i o ho => (hat i o ho).2.2.2) (fun i => dl.getD i 0) (fun i o ho => ⟨(hat i o ho).1, (hat i o ho).2.1, (hat i o ho).2.2.1⟩) (fun i j hi hj e => ?_) hX F hF (fun i o a w ho h1 h2 h3 K' hK => ?_) he
 ·have hi' : i < dl.length := by omega
  have hj' : j < dl.length := by omega
  have e' : dl[i] = dl[j] := by
   have := e
   simp only [List.getD_eq_getElem?_getD, List.getElem?_eq_getElem hi', List.getElem?_eq_getElem hj'] at this
   exact this
  exact (List.getElem?_inj hi' hn).1 (by rw [List.getElem?_eq_getElem hi', List.getElem?_eq_getElem hj', e'])
 ·exact hs i o a w ho h1 h2 h3 K' (fun v w' hv hk => by rw [(hat i o ho).1]; exact hK v w' hv hk)
end
end Go.Proofs.YtiinohibmcefkaaGreatDoor
namespace Go.Proofs.YtiinohibmcefkaaGreatDoor
open Go.RowKit Go.Maps
def waitsL (o : Oper) : List Nat := (o.after.toList.filter (Region.binds .any)).map (·.on)
def coverB (ops : Array Oper) : Nat → List Nat → Bool
 | 0, _ => true
 | i + 1, need => need.contains i && coverB ops i (need ++ (match ops[i]? with | some o => waitsL o | none => []))
theorem waitsL_mem {o : Oper} {j : Nat} (h : j ∈ waitsL o) : ∃ e ∈ o.after, Region.binds .any e = true ∧ e.on = j := by
 unfold waitsL at h
 obtain ⟨e, he, rfl⟩ := List.mem_map.1 h
 obtain ⟨h1, h2⟩ := List.mem_filter.1 he
 exact ⟨e, by simpa using h1, h2, rfl⟩
theorem coverB_all {ops : Array Oper} {d : Nat → Bool} (hc : ∀ (i : Nat) (o : Oper), ops[i]? = some o → d i = true → ∀ e ∈ o.after, Region.binds .any e = true → d e.on = true) : ∀ (n : Nat) (need : List Nat), coverB ops n need = true → (∀ j ∈ need, d j = true) → ∀ i, i < n → d i = true
 | 0, _, _, _, i, h => by omega
 | n + 1, need, h, hn, i, hi => by
  simp only [coverB, Bool.and_eq_true] at h
  have hdn : d n = true := hn n (by simpa using h.1)
  by_cases e : i = n
  ·rw [e]; exact hdn
  ·refine coverB_all hc n _ h.2 (fun j hj => ?_) i (by omega)
   rcases List.mem_append.1 hj with hj | hj
   ·exact hn j hj
   ·cases ho : ops[n]? with
    | none => rw [ho] at hj; simp at hj
    | some o =>
     rw [ho] at hj
     obtain ⟨e, he, hb, rfl⟩ := waitsL_mem hj
     exact hc n o ho hdn e he hb
section
variable {P : Program} {ops : Array Oper} {Q : Exit → Act → World → Prop}
theorem wp_region_last {id : Nat} {a0 : Act} {w0 X : World} (hm : P.follows .mixedOrders = true) (m : Nat) (hsz : ops.size = m + 1) (os : Oper) (hos : ops[m]? = some os) (hog : os.guard = none) (hoa : ∀ e ∈ os.after, e.on < m) (hcov : coverB ops m (waitsL os) = true)
  (dl : List Nat) (hn : dl.Nodup) (hlen : dl.length = m) (hB : opsB dl a0.tmps.size 0 (ops.toList.take m) = true)
  (hX : Keeps (fun _ => False) X w0)
  (F : Nat → Value → World → Prop) (hF : ∀ i v w w', F i v w → Keeps (fun _ => False) w w' → F i v w')
  (hs : ∀ (i : Nat) (o : Oper) (a : Act) (w : World), i < m → ops[i]? = some o → Same a0 m (fun i => dl.getD i 0) a → Keeps (fun _ => False) X w → (∀ e ∈ o.after, Region.binds .any e = true → F e.on (a.tmps.getD (dl.getD e.on 0) undef) w) →
    ∀ K' : Act → World → Prop, (∀ v w', F i v w' → Keeps (fun _ => False) w w' → K' (a.put o.dst v) w') → Oper.wp P o a w K' Q)
  (he : ∀ (a : Act) (w : World), Same a0 m (fun i => dl.getD i 0) a → Keeps (fun _ => False) X w → (∀ i, i < m → F i (a.tmps.getD (dl.getD i 0) undef) w) →
    ∀ K' : Act → World → Prop, (∀ a' w', Q .normal a' w' → K' a' w') → Oper.wp P os a w K' Q) : (Code.region id ops true).wp P Q a0 w0 := by
 have hat : ∀ (i : Nat) (o : Oper), i < m → ops[i]? = some o → o.dst = some (dl.getD i 0) ∧ o.guard = none ∧ dl.getD i 0 < a0.tmps.size ∧ ∀ e ∈ o.after, e.on < i := fun i o hi ho => by
  have := opsB_at hB i o (by rw [List.getElem?_take_of_lt hi]; simpa using ho)
  rwa [Nat.zero_add] at this
 have hinj : ∀ i j, i < m → j < m → dl.getD i 0 = dl.getD j 0 → i = j := fun i j hi hj e => by
  have hi' : i < dl.length := by omega
  have hj' : j < dl.length := by omega
  have e' : dl[i] = dl[j] := by
   have := e
   simp only [List.getD_eq_getElem?_getD, List.getElem?_eq_getElem hi', List.getElem?_eq_getElem hj'] at this
   exact this
  exact (List.getElem?_inj hi' hn).1 (by rw [List.getElem?_eq_getElem hi', List.getElem?_eq_getElem hj', e'])
 have hlt : ∀ (i : Nat) (o : Oper), ops[i]? = some o → i < m ∨ i = m := fun i o ho => by
  have := (Array.getElem?_eq_some_iff.1 ho).1
  omega
 have hac : ∀ (i : Nat) (o : Oper), ops[i]? = some o → ∀ e ∈ o.after, e.on < i := fun i o ho => by
  rcases hlt i o ho with hi | rfl
  ·exact (hat i o hi ho).2.2.2
  ·rw [hos] at ho
   obtain rfl := Option.some.inj ho
   exact hoa
 refine wp_region_inv hm hac (fun d a w => (∀ (i : Nat) (o : Oper), ops[i]? = some o → d i = true → ∀ e ∈ o.after, Region.binds .any e = true → d e.on = true) ∧ ((d m = false ∧ Same a0 m (fun i => dl.getD i 0) a ∧ Keeps (fun _ => False) X w ∧ ∀ i, i < m → d i = true → F i (a.tmps.getD (dl.getD i 0) undef) w) ∨ (d m = true ∧ Q .normal a w))) ?_ ?_ ?_
 ·exact ⟨(fun i o _ h => by cases h), Or.inl ⟨rfl, ⟨rfl, rfl, fun _ _ => rfl⟩, hX.drew, (fun i _ h => by cases h)⟩⟩
 ·rintro d a w i o ⟨hcl, hI⟩ hd ho hall
  have hcl' : ∀ (j : Nat) (o' : Oper), ops[j]? = some o' → mark d i j = true → ∀ e ∈ o'.after, Region.binds .any e = true → mark d i e.on = true := fun j o' ho' hj e he' hb => by
   unfold mark at hj ⊢
   by_cases hei : e.on = i
   ·rw [if_pos hei]
   ·rw [if_neg hei]
    by_cases hji : j = i
    ·subst hji
     rw [ho] at ho'
     obtain rfl := Option.some.inj ho'
     exact hall e he' hb
    ·rw [if_neg hji] at hj
     exact hcl j o' ho' hj e he' hb
  refine wpOp_step ho (fun K' hK => ?_)
  rcases hI with ⟨hdm, h1, h2, h3⟩ | ⟨hdm, _⟩
  ·rcases hlt i o ho with hi | rfl
   ·obtain ⟨q1, q2, q3, q4⟩ := hat i o hi ho
    have hw : Region.wanted o (yielded ops a.tmps) = true := by simp [Region.wanted, q2]
    rw [if_pos hw]
    refine hs i o a w hi ho h1 h2 (fun e he' hb => h3 e.on (Nat.lt_trans (q4 e he') hi) (hall e he' hb)) K' fun v w' hv hk => hK _ _ ⟨hcl', Or.inl ⟨?_, ?_, h2.trans hk, fun j hj hmk => ?_⟩⟩
    ·unfold mark
     rw [if_neg (by omega)]
     exact hdm
    ·rw [q1]
     exact h1.put hi v
    ·by_cases hij : j = i
     ·subst hij
      rw [q1, put_get a _ v (by rw [h1.size]; exact q3)]
      exact hv
     ·rw [q1, put_get_ne a v (fun e => hij (hinj j i hj hi e.symm))]
      refine hF _ _ _ _ (h3 j hj ?_) hk
      unfold mark at hmk
      rwa [if_neg hij] at hmk
   ·rw [hos] at ho
    obtain rfl := Option.some.inj ho
    have hw : Region.wanted os (yielded ops a.tmps) = true := by simp [Region.wanted, hog]
    rw [if_pos hw]
    have hdone := coverB_all hcl i (waitsL os) hcov (fun j hj => by
     obtain ⟨e, he', hb, rfl⟩ := waitsL_mem hj
     exact hall e he' hb)
    refine he a w h1 h2 (fun j hj => h3 j hj (hdone j hj)) K' fun a' w' hq => hK _ _ ⟨hcl', Or.inr ⟨?_, hq⟩⟩
    unfold mark
    rw [if_pos rfl]
  ·exfalso
   rcases hlt i o ho with hi | rfl
   ·have hdone := coverB_all hcl m (waitsL os) hcov (fun j hj => by
     obtain ⟨e, he', hb, rfl⟩ := waitsL_mem hj
     exact hcl m os hos hdm e he' hb) i hi
    rw [hd] at hdone
    cases hdone
   ·rw [hd] at hdm
    cases hdm
 ·rintro d a w ⟨_, hI⟩ hd
  rcases hI with ⟨hdm, _⟩ | ⟨_, hq⟩
  ·have := hd m (by omega)
   rw [hdm] at this
   cases this
  ·exact hq
end
end Go.Proofs.YtiinohibmcefkaaGreatDoor
namespace Go.Proofs.YtiinohibmcefkaaGreatDoor
open Go.RowKit Go.Maps
set_option maxRecDepth 100000
theorem Same.at {a0 a : Act} {n : Nat} {dl : List Nat} (h : Same a0 n (fun i => dl.getD i 0) a) (hn : dl.length = n) (t : Nat) (ht : t ∉ dl) : a.tmps.getD t undef = a0.tmps.getD t undef :=
 h.slot t fun i hi e => ht (by rw [← e]; subst hn; rw [List.getD_eq_getElem?_getD, List.getElem?_eq_getElem hi]; exact List.getElem_mem hi)
theorem wrap_eq64 (x : Int) : IntKind.i64.wrap x = wrap64 x := by unfold wrap64; exact IntKind.wrap_i64 x
theorem keeps_row (w : World) (g : Nat) (cs : Array Value) : Keeps (fun q => q = g) w (w.setRow g cs) := ⟨rfl, rfl, rfl, by simp, fun k _ hk => setRow_other w g k _ hk⟩
section
variable {Q : Exit → Act → World → Prop} {K : Act → World → Prop} {o : Oper} {a : Act} {w : World}
theorem step_move {t : Nat} {v : Value} (ho : o.op = .move (.tmp t)) (ht : a.tmps.getD t undef = v) (hk : K (a.put o.dst v) w) : Oper.wp Tryz.prog o a w K Q := by
 have he : a.eval (.tmp t) = v := ht
 unfold Oper.wp
 simp only [execOp, ho, he]
 exact hk
theorem step_index29 {t kb ko n cap : Nat} (j : Nat) (ho : o.op = .indexAddr 29 (.tmp t) (.const (.int .i64 (j : Int)))) (ht : a.tmps.getD t undef = .slice (some ⟨kb, ko, none⟩) n cap) (hj : j < n) (hk : K (a.put o.dst (.pointer (some ⟨kb, ko + j * 3, none⟩))) w) : Oper.wp Tryz.prog o a w K Q := by
 have he := slot_of ht
 have h1 : (j : Int) < (n : Int) := by omega
 have h0 : (0 : Int) ≤ (j : Int) := by omega
 unfold Oper.wp
 simp [execOp, ho, he, go_sem, h1, h0]
 exact hk
theorem step_field1 {t b off : Nat} (ho : o.op = .fieldAddr 41 (.tmp t) 1) (ht : a.tmps.getD t undef = .pointer (some ⟨b, off, none⟩)) (hk : K (a.put o.dst (.pointer (some ⟨b, off + 1, none⟩))) w) : Oper.wp Tryz.prog o a w K Q := by
 have he := slot_of ht
 unfold Oper.wp
 simp [execOp, ho, he, go_sem]
 exact hk
theorem step_field2 {t b off : Nat} (ho : o.op = .fieldAddr 41 (.tmp t) 2) (ht : a.tmps.getD t undef = .pointer (some ⟨b, off, none⟩)) (hk : K (a.put o.dst (.pointer (some ⟨b, off + 2, none⟩))) w) : Oper.wp Tryz.prog o a w K Q := by
 have he := slot_of ht
 unfold Oper.wp
 simp [execOp, ho, he, go_sem]
 exact hk
theorem step_load2 {t b off : Nat} {v : Value} (ho : o.op = .load 2 (.tmp t)) (ht : a.tmps.getD t undef = .pointer (some ⟨b, off, none⟩)) (hc : w.cell? ⟨b, off, none⟩ = some v) (hk : K (a.put o.dst v) w) : Oper.wp Tryz.prog o a w K Q := by
 have he := slot_of ht
 unfold Oper.wp
 simp [execOp, ho, he, go_sem, hc]
 exact hk
theorem step_load9 {t b off : Nat} {v : Value} (ho : o.op = .load 9 (.tmp t)) (ht : a.tmps.getD t undef = .pointer (some ⟨b, off, none⟩)) (hc : w.cell? ⟨b, off, none⟩ = some v) (hk : K (a.put o.dst v) w) : Oper.wp Tryz.prog o a w K Q := by
 have he := slot_of ht
 unfold Oper.wp
 simp [execOp, ho, he, go_sem, hc]
 exact hk
theorem step_load41 {t b off : Nat} {v0 v1 v2 : Value} (ho : o.op = .load 41 (.tmp t)) (ht : a.tmps.getD t undef = .pointer (some ⟨b, off, none⟩)) (h0 : w.cell? ⟨b, off, none⟩ = some v0) (h1 : w.cell? ⟨b, off + 1, none⟩ = some v1) (h2 : w.cell? ⟨b, off + 2, none⟩ = some v2) (hk : K (a.put o.dst (.agg #[v0, v1, v2])) w) : Oper.wp Tryz.prog o a w K Q := by
 have he := slot_of ht
 unfold Oper.wp
 simp [execOp, ho, he, go_sem, h0, h1, h2]
 exact hk
theorem step_add {t u : Nat} {x y : Int} (ho : o.op = .binOp .add 2 (.tmp t) (.tmp u) 2) (ht : a.tmps.getD t undef = .int .i64 x) (hu : a.tmps.getD u undef = .int .i64 y) (hk : K (a.put o.dst (.int .i64 (wrap64 (x + y)))) w) : Oper.wp Tryz.prog o a w K Q := by
 have he := slot_of ht
 have he2 := slot_of hu
 unfold Oper.wp
 simp [execOp, ho, he, he2, go_sem]
 rw [show IntKind.i64.wrap (x + y) = wrap64 (x + y) from wrap_eq64 _]
 exact hk
theorem step_sub {t u : Nat} {x y : Int} (ho : o.op = .binOp .sub 2 (.tmp t) (.tmp u) 2) (ht : a.tmps.getD t undef = .int .i64 x) (hu : a.tmps.getD u undef = .int .i64 y) (hk : K (a.put o.dst (.int .i64 (wrap64 (x - y)))) w) : Oper.wp Tryz.prog o a w K Q := by
 have he := slot_of ht
 have he2 := slot_of hu
 unfold Oper.wp
 simp [execOp, ho, he, he2, go_sem]
 rw [show IntKind.i64.wrap (x - y) = wrap64 (x - y) from wrap_eq64 _]
 exact hk
theorem step_mul {t u : Nat} {x y : Int} (ho : o.op = .binOp .mul 2 (.tmp t) (.tmp u) 2) (ht : a.tmps.getD t undef = .int .i64 x) (hu : a.tmps.getD u undef = .int .i64 y) (hk : K (a.put o.dst (.int .i64 (wrap64 (x * y)))) w) : Oper.wp Tryz.prog o a w K Q := by
 have he := slot_of ht
 have he2 := slot_of hu
 unfold Oper.wp
 simp [execOp, ho, he, he2, go_sem]
 rw [show IntKind.i64.wrap (x * y) = wrap64 (x * y) from wrap_eq64 _]
 exact hk
theorem step_min {t u : Nat} {x y : Int} (ho : o.op = .call { callee := .builtin .min, args := #[.tmp t, .tmp u], argTypes := #[2, 2] }) (ht : a.tmps.getD t undef = .int .i64 x) (hu : a.tmps.getD u undef = .int .i64 y) (hk : K (a.put o.dst (.int .i64 (min x y))) w) : Oper.wp Tryz.prog o a w K Q := by
 have he := slot_of ht
 have he2 := slot_of hu
 unfold Oper.wp
 simp [execOp, ho, he, he2, go_sem]
 rw [show (if y < x then y else x) = min x y by split <;> omega]
 exact hk
theorem step_max {t u : Nat} {x y : Int} (ho : o.op = .call { callee := .builtin .max, args := #[.tmp t, .tmp u], argTypes := #[2, 2] }) (ht : a.tmps.getD t undef = .int .i64 x) (hu : a.tmps.getD u undef = .int .i64 y) (hk : K (a.put o.dst (.int .i64 (max x y))) w) : Oper.wp Tryz.prog o a w K Q := by
 have he := slot_of ht
 have he2 := slot_of hu
 unfold Oper.wp
 simp [execOp, ho, he, he2, go_sem]
 rw [show (if x < y then y else x) = max x y by split <;> omega]
 exact hk
theorem step_c89 {t : Nat} {v : Value} {r : Value} (ho : o.op = .call { callee := .value (.func 89), args := #[.tmp t], argTypes := #[2] }) (ht : a.tmps.getD t undef = v) (hc : Calls Tryz.prog 89 #[v] w fun e w' => e = .returned r ∧ Keeps (fun _ => False) w w')
  (hk : ∀ w', Keeps (fun _ => False) w w' → K (a.put o.dst r) w') : Oper.wp Tryz.prog o a w K Q := by
 have et := slot_of ht
 unfold Oper.wp
 simp [execOp, ho, et, go_sem]
 refine hc.mono ?_
 rintro e w' ⟨rfl, h⟩
 exact hk _ h
theorem step_c90 {t : Nat} {v : Value} {r : Value} (ho : o.op = .call { callee := .value (.func 90), args := #[.tmp t], argTypes := #[4] }) (ht : a.tmps.getD t undef = v) (hc : Calls Tryz.prog 90 #[v] w fun e w' => e = .returned r ∧ Keeps (fun _ => False) w w')
  (hk : ∀ w', Keeps (fun _ => False) w w' → K (a.put o.dst r) w') : Oper.wp Tryz.prog o a w K Q := by
 have et := slot_of ht
 unfold Oper.wp
 simp [execOp, ho, et, go_sem]
 refine hc.mono ?_
 rintro e w' ⟨rfl, h⟩
 exact hk _ h
theorem step_c91 {t : Nat} {v : Value} {r : Value} (ho : o.op = .call { callee := .value (.func 91), args := #[.tmp t], argTypes := #[9] }) (ht : a.tmps.getD t undef = v) (hc : Calls Tryz.prog 91 #[v] w fun e w' => e = .returned r ∧ Keeps (fun _ => False) w w')
  (hk : ∀ w', Keeps (fun _ => False) w w' → K (a.put o.dst r) w') : Oper.wp Tryz.prog o a w K Q := by
 have et := slot_of ht
 unfold Oper.wp
 simp [execOp, ho, et, go_sem]
 refine hc.mono ?_
 rintro e w' ⟨rfl, h⟩
 exact hk _ h
theorem step_c154 {t u : Nat} {v v2 : Value} {r : Value} (ho : o.op = .call { callee := .value (.func 154), args := #[.tmp t, .tmp u], argTypes := #[9, 9] }) (ht : a.tmps.getD t undef = v) (hu : a.tmps.getD u undef = v2) (hc : Calls Tryz.prog 154 #[v, v2] w fun e w' => e = .returned r ∧ Keeps (fun _ => False) w w')
  (hk : ∀ w', Keeps (fun _ => False) w w' → K (a.put o.dst r) w') : Oper.wp Tryz.prog o a w K Q := by
 have et := slot_of ht
 have eu := slot_of hu
 unfold Oper.wp
 simp [execOp, ho, et, eu, go_sem]
 refine hc.mono ?_
 rintro e w' ⟨rfl, h⟩
 exact hk _ h
theorem step_c155 {t u q : Nat} {v v2 v3 : Value} {r : Value} (ho : o.op = .call { callee := .value (.func 155), args := #[.tmp t, .tmp u, .tmp q], argTypes := #[3, 41, 41] }) (ht : a.tmps.getD t undef = v) (hu : a.tmps.getD u undef = v2) (hq : a.tmps.getD q undef = v3) (hc : Calls Tryz.prog 155 #[v, v2, v3] w fun e w' => e = .returned r ∧ Keeps (fun _ => False) w w')
  (hk : ∀ w', Keeps (fun _ => False) w w' → K (a.put o.dst r) w') : Oper.wp Tryz.prog o a w K Q := by
 have et := slot_of ht
 have eu := slot_of hu
 have eq := slot_of hq
 unfold Oper.wp
 simp [execOp, ho, et, eu, eq, go_sem]
 refine hc.mono ?_
 rintro e w' ⟨rfl, h⟩
 exact hk _ h
theorem step_c93 {t u : Nat} {v v2 : Value} {r : Value} (ho : o.op = .call { callee := .value (.func 93), args := #[.tmp t, .tmp u], argTypes := #[24, 9] }) (ht : a.tmps.getD t undef = v) (hu : a.tmps.getD u undef = v2) (hc : Calls Tryz.prog 93 #[v, v2] w fun e w' => e = .returned r ∧ Keeps (fun _ => False) w w')
  (hk : ∀ w', Keeps (fun _ => False) w w' → K (a.put o.dst r) w') : Oper.wp Tryz.prog o a w K Q := by
 have et := slot_of ht
 have eu := slot_of hu
 unfold Oper.wp
 simp [execOp, ho, et, eu, go_sem]
 refine hc.mono ?_
 rintro e w' ⟨rfl, h⟩
 exact hk _ h
theorem step_c92 {t u q : Nat} {v v2 v3 : Value} {r : Value} (ho : o.op = .call { callee := .value (.func 92), args := #[.tmp t, .tmp u, .tmp q], argTypes := #[24, 3, 31] }) (ht : a.tmps.getD t undef = v) (hu : a.tmps.getD u undef = v2) (hq : a.tmps.getD q undef = v3) (hc : Calls Tryz.prog 92 #[v, v2, v3] w fun e w' => e = .returned r ∧ Keeps (fun _ => False) w w')
  (hk : ∀ w', Keeps (fun _ => False) w w' → K (a.put o.dst r) w') : Oper.wp Tryz.prog o a w K Q := by
 have et := slot_of ht
 have eu := slot_of hu
 have eq := slot_of hq
 unfold Oper.wp
 simp [execOp, ho, et, eu, eq, go_sem]
 refine hc.mono ?_
 rintro e w' ⟨rfl, h⟩
 exact hk _ h
theorem step_c54 {t u q : Nat} {v v2 v3 : Value} {r : Value} (ho : o.op = .call { callee := .value (.func 54), args := #[.tmp t, .tmp u, .tmp q], argTypes := #[24, 27, 31] }) (ht : a.tmps.getD t undef = v) (hu : a.tmps.getD u undef = v2) (hq : a.tmps.getD q undef = v3) (hc : Calls Tryz.prog 54 #[v, v2, v3] w fun e w' => e = .returned r ∧ Keeps (fun _ => False) w w')
  (hk : ∀ w', Keeps (fun _ => False) w w' → K (a.put o.dst r) w') : Oper.wp Tryz.prog o a w K Q := by
 have et := slot_of ht
 have eu := slot_of hu
 have eq := slot_of hq
 unfold Oper.wp
 simp [execOp, ho, et, eu, eq, go_sem]
 refine hc.mono ?_
 rintro e w' ⟨rfl, h⟩
 exact hk _ h
end
end Go.Proofs.YtiinohibmcefkaaGreatDoor
namespace Go.Proofs.YtiinohibmcefkaaGreatDoor
open Go.RowKit Go.Maps
set_option maxRecDepth 100000
set_option maxHeartbeats 2000000
def lessR (a b : ValA) : Bool := if a.kind = 3 then Op.bytesLess a.s b.s else decide (a.n < b.n)
theorem cmpT_lt (a b : Txt) : decide (cmpT a b < 0) = Op.bytesLess a b := by
 unfold cmpT
 cases h : Op.bytesLess a b with
 | true => rfl
 | false => by_cases q : a = b <;> simp [q]
theorem cmpT_le (a b : Txt) : decide (cmpT a b ≤ 0) = !Op.bytesLess b a := by
 unfold cmpT
 cases h : Op.bytesLess a b with
 | true => rw [less_asym a b h]; rfl
 | false =>
  by_cases q : a = b
  ·subst q; rw [less_irr]; simp
  ·cases h' : Op.bytesLess b a with
   | true => simp [q]
   | false => exact absurd (less_tri a b h h') q
theorem good_less {a b : ValA} (ha : goodV a) (hb : goodV b) (hk : a.kind = b.kind) : lessR a b = decide (ordV a b < 0) ∧ (!lessR b a) = decide (ordV a b ≤ 0) := by
 obtain ⟨k, n, s⟩ := a
 obtain ⟨k', n', s'⟩ := b
 simp only at hk
 subst hk
 unfold lessR ordV
 unfold goodV at ha hb
 simp only at ha hb ⊢
 by_cases h3 : k = 3
 ·subst h3
  have e1 : n = 0 := by omega
  have e2 : n' = 0 := by omega
  subst e1
  subst e2
  rw [if_pos rfl, if_pos rfl, if_pos (show cmpI 0 0 = 0 from rfl), cmpT_lt, cmpT_le]
  exact ⟨rfl, rfl⟩
 ·have e1 : s = [] := by rcases ha with h | h | h <;> simp_all
  have e2 : s' = [] := by rcases hb with h | h | h <;> simp_all
  subst e1
  subst e2
  rw [if_neg h3, if_neg h3]
  unfold cmpI
  have hT : cmpT ([] : Txt) [] = 0 := rfl
  constructor
  ·by_cases h1 : n < n'
   ·rw [if_pos h1]; simp [h1]
   ·by_cases h2 : n' < n
    ·rw [if_neg h1, if_pos h2]; simp [h1]
    ·rw [if_neg h1, if_neg h2]; simp [h1, hT]
  ·by_cases h1 : n < n'
   ·rw [if_pos h1]; simp; omega
   ·by_cases h2 : n' < n
    ·rw [if_neg h1, if_pos h2]; simp [h2]
    ·rw [if_neg h1, if_neg h2]; simp [h2, hT]
theorem less_step {a b : Txt} {k : Nat} {x y : UInt8} (ha : a[k]? = some x) (hb : b[k]? = some y) : Op.bytesLess (a.drop k) (b.drop k) = (decide (x < y) || (x == y && Op.bytesLess (a.drop (k + 1)) (b.drop (k + 1)))) := by
 obtain ⟨h1, e1⟩ := List.getElem?_eq_some_iff.1 ha
 obtain ⟨h2, e2⟩ := List.getElem?_eq_some_iff.1 hb
 rw [List.drop_eq_getElem_cons h1, List.drop_eq_getElem_cons h2, e1, e2]
 rfl
theorem less_end {a b : Txt} {k : Nat} (h : a.length ≤ k ∨ b.length ≤ k) (hk : k ≤ a.length ∧ k ≤ b.length) : Op.bytesLess (a.drop k) (b.drop k) = decide (a.length < b.length) := by
 rcases h with h | h
 ·rw [List.drop_eq_nil_of_le h]
  cases q : b.drop k with
  | nil => have := List.drop_eq_nil_iff.1 q; simp [Op.bytesLess]; omega
  | cons y t => have := congrArg List.length q; simp at this; simp [Op.bytesLess]; omega
 ·rw [List.drop_eq_nil_of_le h]
  cases q : a.drop k with
  | nil => have := List.drop_eq_nil_iff.1 q; simp [Op.bytesLess]; omega
  | cons y t => simp [Op.bytesLess]; omega
theorem below_v (a b : Txt) (w : World) (hla : a.length ≤ 1024) : Calls Tryz.prog 219 #[str a, str b] w fun e w' => e = .returned (.bool (Op.bytesLess a b)) ∧ Keeps (fun _ => False) w w' := by
 have H0 : Hid (Op.bytesLess (a.drop 0) (b.drop 0) = Op.bytesLess a b) := rfl
 generalize Op.bytesLess a b = R at *
 go_enter Tryz.func219, Tryz.ntmps219
 go_wp2_with fail
 go_loopw [5] (fun i wr => ∃ k : Nat, k ≤ a.length ∧ k ≤ b.length ∧ i = .int .i64 k ∧ Hid (Op.bytesLess (a.drop k) (b.drop k) = R) ∧ Keeps (fun _ => False) w wr) (fun i _ => a.length - (intOf i).toNat)
 case atStart => exact ⟨0, Nat.zero_le _, Nat.zero_le _, rfl, H0, Keeps.refl _ _⟩
 case round =>
  obtain ⟨k, hk, hk2, rfl, HS, hkeep⟩ := hrel
  have HK := hide hkeep
  clear hkeep
  by_cases h1 : k < a.length
  ·by_cases h2 : k < b.length
   ·obtain ⟨x, hx⟩ : ∃ x, a[k]? = some x := ⟨_, List.getElem?_eq_getElem h1⟩
    obtain ⟨y, hy⟩ : ∃ y, b[k]? = some y := ⟨_, List.getElem?_eq_getElem h2⟩
    have i1 : (k : Int) < (a.length : Int) := by omega
    have i2 : (k : Int) < (b.length : Int) := by omega
    have i0 : (0 : Int) ≤ (k : Int) := by omega
    have a1 := str_at hx
    have b1 := str_at hy
    have HE := hide (less_step hx hy)
    clear hx hy
    by_cases hxy : x = y
    ·subst hxy
     have HN : Hid (Op.bytesLess (a.drop (k + 1)) (b.drop (k + 1)) = R) := by
      show _ = _
      rw [← uh HS, uh HE]
      simp
     clear HS HE
     go_wp2_with fail
     go_region
     go_wp2_with fail
     go_roundw
     case rel => exact ⟨k + 1, by omega, by omega, by go_num, HN, (uh HK).drew⟩
     case measure => simp [intOf]; omega
    ·have HR : Hid (R = decide (x < y)) := by
      show _ = _
      rw [← uh HS, uh HE]
      simp [hxy]
     have hne0 : ¬ (x.toNat : Int) = (y.toNat : Int) := fun q => hxy (UInt8.toNat_inj.1 (by omega))
     have hne1 : ((x.toNat : Int) != (y.toNat : Int)) = true := by rw [bne_iff_ne]; exact hne0
     have hne2 : ((x.toNat : Int) == (y.toNat : Int)) = false := by simpa using hne0
     clear HS HE
     go_wp2_with fail
     go_region
     go_wp2_with fail
     go_region
     go_wp2_with fail
     go_ret
     refine ⟨ret_bool ?_, (uh HK).drew.drew⟩
     rw [uh HR]
     apply Bool.eq_iff_iff.2
     simp only [decide_eq_true_eq, UInt8.lt_iff_toNat_lt]
   ·have i1 : (k : Int) < (a.length : Int) := by omega
    have i2 : ¬ (k : Int) < (b.length : Int) := by omega
    have HE : Hid (R = decide (a.length < b.length)) := by show _ = _; rw [← uh HS]; exact less_end (Or.inr (by omega)) ⟨hk, hk2⟩
    clear HS
    go_wp2_with fail
    go_ret
    exact ⟨ret_bool (uh HE).symm, uh HK⟩
  ·have i1 : ¬ (k : Int) < (a.length : Int) := by omega
   have HE : Hid (R = decide (a.length < b.length)) := by show _ = _; rw [← uh HS]; exact less_end (Or.inl (by omega)) ⟨hk, hk2⟩
   clear HS
   go_wp2_with fail
   go_ret
   exact ⟨ret_bool (uh HE).symm, uh HK⟩
theorem lessB_v (a b : ValA) (w : World) (ha : a.s.length ≤ 20) : Calls Tryz.prog 199 #[a.v, b.v] w fun e w' => e = .returned (.bool (lessR a b)) ∧ Keeps (fun _ => False) w w' := by
 have HKA := hide ((kAlloc w (.cells #[.int .i64 a.kind, .int .i64 a.n, str a.s] 41)).alloc (.cells #[.int .i64 b.kind, .int .i64 b.n, str b.s] 41))
 have HB := hide (fun (W : World) => below_v a.s b.s W (by omega))
 have HE : Hid (lessR a b = if a.kind = 3 then Op.bytesLess a.s b.s else decide (a.n < b.n)) := rfl
 generalize lessR a b = R at *
 generalize Op.bytesLess a.s b.s = Q at *
 obtain ⟨k, n, s⟩ := a
 obtain ⟨k', n', s'⟩ := b
 unfold ValA.v
 simp only at *
 by_cases h3 : k = 3
 ·rw [if_pos h3] at HE
  subst h3
  go_enter Tryz.func199, Tryz.ntmps199
  go_wp2_with fail
  refine ((uh HB) _).mono ?_
  rintro e w0 ⟨rfl, hk0⟩
  go_wp2_with fail
  go_ret
  exact ⟨ret_bool (uh HE).symm, (uh HKA).trans hk0⟩
 ·rw [if_neg h3] at HE
  have h3' : (k == 3) = false := by simpa using h3
  clear HB
  go_enter Tryz.func199, Tryz.ntmps199
  go_wp2_with fail
  go_ret
  exact ⟨ret_bool (uh HE).symm, uh HKA⟩
theorem catR_v (ax bx : Txt) (w : World) (ha : ax.length ≤ 20) (hb : bx.length ≤ 20) : Calls Tryz.prog 154 #[str ax, str bx] w fun e w' => e = .returned (str (catT ax bx)) ∧ Keeps (fun _ => False) w w' := by
 have HC : Hid (catT ax bx = (ax ++ bx).take 20) := rfl
 generalize catT ax bx = C at *
 have i0 : ¬ 9223372036854775807 < ax.length + bx.length := by omega
 have ext : ∀ k : Nat, ((⟨ax.toArray⟩ : ByteArray) ++ ⟨bx.toArray⟩).extract 0 k = ⟨((ax ++ bx).take k).toArray⟩ := fun k => by
  apply ByteArray.ext
  rw [ByteArray.data_extract]
  show (ax ++ bx).toArray.extract 0 k = _
  simp
 have HE1 : Hid (((⟨ax.toArray⟩ : ByteArray) ++ ⟨bx.toArray⟩).extract 0 20 = ⟨C.toArray⟩) := by show _ = _; rw [ext, ← uh HC]
 have HE2 : Hid ((ax.length : Int) + (bx.length : Int) ≤ 20 → ((⟨ax.toArray⟩ : ByteArray) ++ ⟨bx.toArray⟩) = ⟨C.toArray⟩) := fun h => by
  rw [uh HC, List.take_of_length_le (by simp; omega)]
  apply ByteArray.ext
  simp
 clear ext
 go_enter Tryz.func154, Tryz.ntmps154
 go_wp2_with fail
 all_goals
  go_ret
  refine ⟨?_, Keeps.refl _ _⟩
  first
   | (rw [uh HE1]; rfl)
   | (rw [(uh HE2) (by omega)]; rfl)
end Go.Proofs.YtiinohibmcefkaaGreatDoor
