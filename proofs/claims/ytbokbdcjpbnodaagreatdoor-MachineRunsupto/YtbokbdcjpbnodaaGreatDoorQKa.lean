import Derived.Test.YtbokbdcjpbnodaaGreatDoorQJq
import Derived.Test.YtbokbdcjpbnodaaGreatDoorQJf
import Derived.Test.YtbokbdcjpbnodaaGreatDoorQJk
import Derived.Test.YtbokbdcjpbnodaaGreatDoorQJh
import Derived.Handy
import Derived.Test.YtbokbdcjpbnodaaGreatDoorQJm
import Derived.Test.YtbokbdcjpbnodaaGreatDoorQJn
namespace Go.Proofs.YtbokbdcjpbnodaaGreatDoor
open Go.RowKit Go.Maps
structure MS where
 st : List ValA
 here : Bool
 vals : List ValA
def numV (n : Int) : ValA := ⟨1, n, []⟩
def truV (b : Bool) : ValA := ⟨2, if b then 1 else 0, []⟩
def bytV (s : Txt) : ValA := ⟨3, 0, s⟩
def zV : ValA := ⟨0, 0, []⟩
def topV (l : List ValA) : ValA := (l[l.length - 1]?).getD zV
def secV (l : List ValA) : ValA := (l[l.length - 2]?).getD zV
def hasB (m : MS) (n : Nat) : Bool := m.here && !decide (((m.vals[n]?).getD zV).kind = 0)
def loadV (S : List FieldA) (m : MS) (n : Nat) : ValA := if hasB m n then (m.vals[n]?).getD zV else ⟨((S[n]?).map FieldA.type).getD 0, 0, []⟩
def cmpI (a b : Int) : Int := if a < b then -1 else if b < a then 1 else 0
def cmpT (a b : Txt) : Int := if Op.bytesLess a b then -1 else if a = b then 0 else 1
def ordV (a b : ValA) : Int := if cmpI a.n b.n = 0 then cmpT a.s b.s else cmpI a.n b.n
def toldV (S : List FieldA) (x : ValA) (m : MS) : ValA :=
 if x.kind = 1 then numV x.n else if x.kind = 4 then bytV x.s else if x.kind = 5 then loadV S m x.n.toNat
 else if x.kind = 6 then truV (hasB m x.n.toNat) else if x.kind = 7 then truV m.here else truV (decide (x.kind = 2))
def oneV (o : Int) (a : ValA) : ValA := if o = 8 then truV (!decide (a.n = 1)) else if o = 9 then numV (wrap64 (-a.n)) else numV a.s.length
def catT (a b : Txt) : Txt := (a ++ b).take 20
def twoV (o : Int) (a b : ValA) : ValA :=
 if o = 10 then numV (wrap64 (a.n + b.n)) else if o = 11 then numV (wrap64 (a.n - b.n)) else if o = 12 then numV (wrap64 (a.n * b.n))
 else if o = 13 then numV (min a.n b.n) else if o = 14 then numV (max a.n b.n) else if o = 15 then truV (decide (ordV a b < 0)) else if o = 16 then truV (decide (ordV a b ≤ 0))
 else if o = 17 then truV (decide (a = b)) else bytV (catT a.s b.s)
def giveM (S : List FieldA) (x : ValA) (m : MS) : List ValA :=
 if x.kind ≤ 7 then [toldV S x m] else if x.kind = 8 ∨ x.kind = 9 ∨ x.kind = 18 then [oneV x.kind (topV m.st)]
 else if x.kind ≤ 19 then [twoV x.kind (secV m.st) (topV m.st)] else []
def setR (m : MS) (n : Nat) (v : ValA) : Bool × List ValA := if m.here then (true, m.vals.set n v) else (m.here, m.vals)
def rowM (S : List FieldA) (x : ValA) (m : MS) : Bool × List ValA :=
 if x.kind = 20 then setR m x.n.toNat (topV m.st)
 else if x.kind = 21 then setR m x.n.toNat (numV (wrap64 ((loadV S m x.n.toNat).n + (topV m.st).n)))
 else if x.kind = 22 then setR m x.n.toNat zV
 else if x.kind = 23 then (if m.here then (m.here, m.vals) else (true, S.map zeroV))
 else if x.kind = 24 then (false, []) else (m.here, m.vals)
def stepM (S : List FieldA) (x : ValA) (m : MS) : MS :=
 ⟨m.st.take (m.st.length - (opA x.kind).takes) ++ giveM S x m, (rowM S x m).1, (rowM S x m).2⟩
def nextM (x : ValA) (k : Nat) (m : MS) : Nat := if x.kind = 25 ∨ (x.kind = 26 ∧ (topV m.st).n ≠ 1) then k + 1 + x.n.toNat else k + 1
def playM (S : List FieldA) (l : List ValA) : Nat → Nat → MS → List (Nat × List ValA) × MS
 | 0, _, m => ([], m)
 | f + 1, k, m => match l[k]? with
  | none => ([], m)
  | some x => ((k, m.st) :: (playM S l f (nextM x k m) (stepM S x m)).1, (playM S l f (nextM x k m) (stepM S x m)).2)
def goodV (v : ValA) : Prop := (v.kind = 1 ∧ v.s = []) ∨ (v.kind = 2 ∧ (v.n = 0 ∨ v.n = 1) ∧ v.s = []) ∨ (v.kind = 3 ∧ v.n = 0 ∧ v.s.length ≤ 20)
def rowOK (S : List FieldA) (h : Bool) (vals : List ValA) : Prop := if h then vals.length = S.length ∧ ∀ (k : Nat) (f : FieldA) (v : ValA), S[k]? = some f → vals[k]? = some v → fitsB f v = true else vals = []
structure TyM (S : List FieldA) (m : MS) (ts : List Int) : Prop where
 ty : m.st.map ValA.kind = ts
 good : ∀ v ∈ m.st, goodV v
 row : rowOK S m.here m.vals
theorem goodV_fits {v : ValA} (h : goodV v) {f : FieldA} (hk : v.kind = f.type) : fitsB f v = true := by
 obtain ⟨k, n, s⟩ := v
 unfold fitsB
 rcases h with ⟨h1, h2⟩ | ⟨h1, h2, h3⟩ | ⟨h1, h2, h3⟩ <;> simp only at h1 h2 hk ⊢ <;> subst h1
 ·simp [h2, ← hk]
 ·simp only at h3; simp [h2, h3, ← hk]
 ·simp only at h3; simp [h2, h3, ← hk]
theorem fits_good {v : ValA} {f : FieldA} (h : fitsB f v = true) (h0 : v.kind ≠ 0) : goodV v ∧ v.kind = f.type := by
 obtain ⟨k, n, s⟩ := v
 unfold fitsB at h
 unfold goodV
 simp only at h h0 ⊢
 rw [if_neg h0] at h
 by_cases h1 : k = f.type
 ·rw [if_neg (fun q => q h1)] at h
  refine ⟨?_, h1⟩
  split at h
  ·exact Or.inl ⟨‹_›, by simpa using h⟩
  ·split at h
   ·simp at h; exact Or.inr (Or.inl ⟨‹_›, h.1, h.2⟩)
   ·split at h
    ·simp at h; exact Or.inr (Or.inr ⟨‹_›, h.1, h.2⟩)
    ·cases h
 ·rw [if_pos h1] at h; cases h
theorem good_num (n : Int) : goodV (numV n) := Or.inl ⟨rfl, rfl⟩
theorem good_tru (b : Bool) : goodV (truV b) := Or.inr (Or.inl ⟨rfl, by cases b <;> simp [truV], rfl⟩)
theorem good_byt {s : Txt} (h : s.length ≤ 20) : goodV (bytV s) := Or.inr (Or.inr ⟨rfl, rfl, h⟩)
theorem good_zero {t : Int} (h : isK t) : goodV ⟨t, 0, []⟩ := by
 unfold isK at h
 rcases h with rfl | rfl | rfl
 ·exact Or.inl ⟨rfl, rfl⟩
 ·exact Or.inr (Or.inl ⟨rfl, Or.inl rfl, rfl⟩)
 ·exact Or.inr (Or.inr ⟨rfl, rfl, by simp⟩)
theorem cat_len (a b : Txt) : (catT a b).length ≤ 20 := by unfold catT; simp; omega
theorem top_mem {l : List ValA} {t : Nat} (h1 : 1 ≤ t) (h2 : t ≤ l.length) : topV l ∈ l ∧ (topV l).kind ∈ (l.map ValA.kind).drop (l.length - t) := by
 have h : l.length - 1 < l.length := by omega
 have e : topV l = l[l.length - 1] := by unfold topV; rw [List.getElem?_eq_getElem h]; rfl
 refine ⟨e ▸ List.getElem_mem h, ?_⟩
 rw [List.mem_iff_getElem?]
 refine ⟨t - 1, ?_⟩
 rw [List.getElem?_drop, List.getElem?_map, show l.length - t + (t - 1) = l.length - 1 by omega, List.getElem?_eq_getElem h, e]
 rfl
theorem sec_mem {l : List ValA} {t : Nat} (h1 : 2 ≤ t) (h2 : t ≤ l.length) : secV l ∈ l := by
 have h : l.length - 2 < l.length := by omega
 have e : secV l = l[l.length - 2] := by unfold secV; rw [List.getElem?_eq_getElem h]; rfl
 exact e ▸ List.getElem_mem h
theorem beh_parts {S : List FieldA} {x : ValA} {ts ts' : List Int} (h : behB S x ts = some ts') : (opA x.kind).takes ≤ ts.length ∧ takesB S x (ts.drop (ts.length - (opA x.kind).takes)) = true ∧ ts' = afterB S x ts ∧ ts'.length ≤ 16 := by
 unfold behB at h
 split at h
 ·cases h
 ·split at h
  ·cases h
  ·split at h
   ·simp only [Option.some.injEq] at h
    subst h
    refine ⟨by omega, ?_, rfl, ‹_›⟩
    rename_i q _
    simpa using q
   ·cases h
theorem row_at {S : List FieldA} {m : MS} (hr : rowOK S m.here m.vals) (hh : m.here = true) {n : Nat} (hn : n < S.length) : ∃ f v, S[n]? = some f ∧ m.vals[n]? = some v ∧ fitsB f v = true := by
 unfold rowOK at hr
 rw [if_pos hh] at hr
 obtain ⟨h1, h2⟩ := hr
 have a : n < m.vals.length := by omega
 exact ⟨_, _, List.getElem?_eq_getElem hn, List.getElem?_eq_getElem a, h2 n _ _ (List.getElem?_eq_getElem hn) (List.getElem?_eq_getElem a)⟩
theorem load_good {S : List FieldA} {m : MS} (hr : rowOK S m.here m.vals) (hS : ∀ f ∈ S, isK f.type) {n : Nat} (hn : n < S.length) : goodV (loadV S m n) ∧ (loadV S m n).kind = ((S[n]?).map FieldA.type).getD 0 := by
 unfold loadV
 split
 ·rename_i hb
  unfold hasB at hb
  simp only [Bool.and_eq_true, Bool.not_eq_true', decide_eq_false_iff_not] at hb
  obtain ⟨f, v, h1, h2, h3⟩ := row_at hr hb.1 hn
  have hb2 := hb.2
  rw [h2] at hb2 ⊢
  rw [h1]
  simp only [Option.getD_some, Option.map_some] at hb2 ⊢
  obtain ⟨g1, g2⟩ := fits_good h3 hb2
  exact ⟨g1, g2⟩
 ·have h1 := List.getElem?_eq_getElem hn
  rw [h1]
  exact ⟨good_zero (hS _ (List.getElem_mem hn)), rfl⟩
theorem set_row {S : List FieldA} {m : MS} (hr : rowOK S m.here m.vals) {n : Nat} {v : ValA} (hv : ∀ f, S[n]? = some f → fitsB f v = true) : rowOK S (setR m n v).1 (setR m n v).2 := by
 unfold setR
 cases hh : m.here with
 | false => simp only [hh, Bool.false_eq_true, if_false] at hr ⊢; exact hr
 | true =>
  unfold rowOK at hr ⊢
  rw [hh, if_pos rfl] at hr
  simp only [if_true]
  refine ⟨by simp [hr.1], fun k f u h1 h2 => ?_⟩
  by_cases hk : n = k
  ·subst hk
   rw [List.getElem?_set_self (by have := (List.getElem?_eq_some_iff.1 h1).1; omega)] at h2
   cases h2
   exact hv f h1
  ·rw [List.getElem?_set_ne hk] at h2
   exact hr.2 k f u h1 h2
theorem zero_row {S : List FieldA} (hS : ∀ f ∈ S, isK f.type) : rowOK S true (S.map zeroV) := by
 unfold rowOK
 rw [if_pos rfl]
 refine ⟨by simp, fun k f v h1 h2 => ?_⟩
 rw [List.getElem?_map, h1] at h2
 simp only [Option.map_some, Option.some.injEq] at h2
 subst h2
 unfold zeroV
 split
 ·simp [fitsB, *]
 ·exact goodV_fits (good_zero (hS f (List.mem_of_getElem? h1))) rfl
theorem fldT_at {S : List FieldA} {x : ValA} {f : FieldA} (h : S[x.n.toNat]? = some f) : fldT S x = f.type := by unfold fldT; rw [h]; rfl
theorem give_ty {S : List FieldA} {x : ValA} {m : MS} (hS : ∀ f ∈ S, isK f.type) (hf : formB x = 0) (hr : rightF S x = true) (hR : rowOK S m.here m.vals) :
  (giveM S x m).map ValA.kind = (if (opA x.kind).gives ≠ 0 then [ofF S x (opA x.kind).gives] else []) ∧ ∀ v ∈ giveM S x m, goodV v := by
 obtain ⟨h1, h2⟩ := formB_zero hf
 have hc := op_cases h1
 obtain ⟨o, n, s⟩ := x
 simp only at hc h1 h2
 simp only [List.mem_cons, List.not_mem_nil, or_false] at hc
 rcases hc with rfl | rfl | rfl | rfl | rfl | rfl | rfl | rfl | rfl | rfl | rfl | rfl | rfl | rfl | rfl | rfl | rfl | rfl | rfl | rfl | rfl | rfl | rfl | rfl | rfl | rfl
 case inr.inr.inr.inr.inl =>
  have hn : n < S.length := by
   have : rightF S ⟨5, n, s⟩ = decide (n < S.length) := rfl
   rw [this] at hr
   simpa using hr
  have h0 : 0 ≤ n ∧ n < 8 := form_field hf (Or.inl rfl)
  have hl := load_good hR hS (n := n.toNat) (by omega)
  have e : giveM S ⟨5, n, s⟩ m = [loadV S m n.toNat] := rfl
  rw [e]
  refine ⟨?_, fun v hv => by simp at hv; subst hv; exact hl.1⟩
  show [(loadV S m n.toNat).kind] = [((S[n.toNat]?).map FieldA.type).getD 0]
  rw [hl.2]
 case inr.inr.inr.inl =>
  have hs : s.length ≤ 20 := by
   have : rightB ⟨4, n, s⟩ = (decide (n = 0) && decide (s.length ≤ 20)) := rfl
   rw [this] at h2
   simp at h2
   exact h2.2
  exact ⟨rfl, fun v hv => by have e : giveM S ⟨4, n, s⟩ m = [bytV s] := rfl; rw [e] at hv; simp at hv; subst hv; exact good_byt hs⟩
 all_goals
  refine ⟨rfl, fun v hv => ?_⟩
  first
   | exact absurd hv List.not_mem_nil
   | (rcases List.mem_singleton.1 hv with rfl; first | exact good_num _ | exact good_tru _ | exact good_byt (cat_len _ _))
theorem row_ty {S : List FieldA} {x : ValA} {m : MS} {ts ts' : List Int} (hS : ∀ f ∈ S, isK f.type) (hr : rightF S x = true) (hM : TyM S m ts) (hb : behB S x ts = some ts') : rowOK S (rowM S x m).1 (rowM S x m).2 := by
 obtain ⟨b1, b2, _, _⟩ := beh_parts hb
 have hR := hM.row
 have hlen : ts.length = m.st.length := by rw [← hM.ty]; simp
 unfold rowM
 split
 ·rename_i ho
  have htk : (opA x.kind).takes = 1 := by rw [ho]; rfl
  have hof : (opA x.kind).of = 4 := by rw [ho]; rfl
  rw [htk] at b1 b2
  obtain ⟨g1, g2⟩ := top_mem (l := m.st) (t := 1) (Nat.le_refl _) (by omega)
  rw [hM.ty, ← hlen] at g2
  have hall := List.all_eq_true.1 b2 _ g2
  simp only [Bool.and_eq_true] at hall
  have ha := hall.2
  rw [hof] at ha
  refine set_row hR fun f hfd => goodV_fits (hM.good _ g1) ?_
  have e := fldT_at hfd
  have hk := hS f (List.mem_of_getElem? hfd)
  unfold ofF allowsB at ha
  rw [if_pos rfl, e] at ha
  rw [if_neg (by rcases hk with h | h | h <;> omega), if_neg (by rcases hk with h | h | h <;> omega)] at ha
  simpa using (of_decide_eq_true ha).symm
 ·split
  ·rename_i _ ho
   have : rightF S x = (decide (x.n < S.length) && decide (fldT S x = 1)) := by unfold rightF; rw [ho]; rfl
   rw [this] at hr
   simp only [Bool.and_eq_true, decide_eq_true_eq] at hr
   exact set_row hR fun f hfd => goodV_fits (good_num _) (by rw [← fldT_at hfd, hr.2]; rfl)
  ·split
   ·rename_i _ _ ho
    have : rightF S x = (decide (x.n < S.length) && ((S[x.n.toNat]?).map FieldA.opt).getD false) := by unfold rightF; rw [ho]; rfl
    rw [this] at hr
    simp only [Bool.and_eq_true, decide_eq_true_eq] at hr
    exact set_row hR fun f hfd => by
     have := hr.2
     rw [hfd] at this
     simp at this
     simp [fitsB, zV, this]
   ·split
    ·split
     ·rename_i hh; rw [hh] at hR ⊢; exact hR
     ·exact zero_row hS
    ·split
     ·show rowOK S false []
      unfold rowOK
      rw [if_neg (by decide)]
     ·exact hR
theorem step_ty {S : List FieldA} {x : ValA} {m : MS} {ts ts' : List Int} (hS : ∀ f ∈ S, isK f.type) (hf : formB x = 0) (hr : rightF S x = true) (hM : TyM S m ts) (hb : behB S x ts = some ts') : TyM S (stepM S x m) ts' := by
 obtain ⟨b1, b2, b3, b4⟩ := beh_parts hb
 obtain ⟨g1, g2⟩ := give_ty (m := m) hS hf hr hM.row
 have hlen : ts.length = m.st.length := by rw [← hM.ty]; simp
 refine ⟨?_, fun v hv => ?_, row_ty hS hr hM hb⟩
 ·unfold stepM
  simp only [List.map_append, g1, b3, afterB, ← hM.ty, List.map_take, List.length_map]
 ·unfold stepM at hv
  rcases List.mem_append.1 hv with h | h
  ·exact hM.good v (List.mem_of_mem_take h)
  ·exact g2 v h
end Go.Proofs.YtbokbdcjpbnodaaGreatDoor
namespace Go.Proofs.YtbokbdcjpbnodaaGreatDoor
open Go.RowKit Go.Maps
set_option maxRecDepth 100000
set_option maxHeartbeats 1000000
theorem isTrue_v (v : ValA) (w : World) : Calls Tryz.prog 67 #[v.v] w fun e w' => e = .returned (.bool (decide (v.n = 1))) ∧ Keeps (fun _ => False) w w' := by
 obtain ⟨k, n, s⟩ := v
 unfold ValA.v
 go_enter Tryz.func67, Tryz.ntmps67
 go_wp2
 all_goals (go_ret; refine ⟨ret_bool ?_, kAlloc _ _⟩; first | rfl | simp_all)
theorem number_v (n : Int) (w : World) : Calls Tryz.prog 122 #[.int .i64 n] w fun e w' => e = .returned (numV n).v ∧ Keeps (fun _ => False) w w' := by
 go_enter Tryz.func122, Tryz.ntmps122
 go_wp2_with fail
 go_returns
 exact ⟨rfl, kAlloc _ _⟩
theorem text_v (s : Txt) (w : World) : Calls Tryz.prog 127 #[str s] w fun e w' => e = .returned (bytV s).v ∧ Keeps (fun _ => False) w w' := by
 go_enter Tryz.func127, Tryz.ntmps127
 go_wp2_with fail
 go_returns
 exact ⟨rfl, kAlloc _ _⟩
theorem truth_v (b : Bool) (w : World) : Calls Tryz.prog 121 #[.bool b] w fun e w' => e = .returned (truV b).v ∧ Keeps (fun _ => False) w w' := by
 cases b
 all_goals
  go_enter Tryz.func121, Tryz.ntmps121
  go_wp2_with fail
  go_returns
  exact ⟨rfl, kAlloc _ _⟩
theorem nanI_v (n : Int) (w : World) : Calls Tryz.prog 180 #[.int .i64 n] w fun e w' => e = .returned (.bool false) ∧ w' = w := by
 go_enter Tryz.func180, Tryz.ntmps180
 go_wp2
 all_goals (go_ret; exact ⟨by simp, rfl⟩)
theorem nanT_v (s : Txt) (w : World) : Calls Tryz.prog 181 #[str s] w fun e w' => e = .returned (.bool false) ∧ w' = w := by
 go_enter Tryz.func181, Tryz.ntmps181
 go_wp2
 all_goals (go_ret; exact ⟨by simp, rfl⟩)
theorem compareI_v (a b : Int) (w : World) : Calls Tryz.prog 160 #[.int .i64 a, .int .i64 b] w fun e w' => e = .returned (.int .i64 (cmpI a b)) ∧ Keeps (fun _ => False) w w' := by
 have HA := hide (fun (W : World) => nanI_v a W)
 have HB := hide (fun (W : World) => nanI_v b W)
 go_enter Tryz.func160, Tryz.ntmps160
 go_wp2_with fail
 refine ((uh HA) _).mono ?_
 rintro e w1 ⟨rfl, rfl⟩
 go_wp2_with fail
 refine ((uh HB) _).mono ?_
 rintro e w2 ⟨rfl, rfl⟩
 go_wp2_with fail
 all_goals (go_ret; exact ⟨ret_int (by unfold cmpI; repeat' split <;> omega), Keeps.refl _ _⟩)
theorem compareT_v (a b : Txt) (w : World) : Calls Tryz.prog 161 #[str a, str b] w fun e w' => e = .returned (.int .i64 (cmpT a b)) ∧ Keeps (fun _ => False) w w' := by
 have HA := hide (fun (W : World) => nanT_v a W)
 have HB := hide (fun (W : World) => nanT_v b W)
 go_enter Tryz.func161, Tryz.ntmps161
 go_wp2_with fail
 refine ((uh HA) _).mono ?_
 rintro e w1 ⟨rfl, rfl⟩
 go_wp2_with fail
 refine ((uh HB) _).mono ?_
 rintro e w2 ⟨rfl, rfl⟩
 go_wp2_with fail
 all_goals (go_ret; exact ⟨ret_int (by unfold cmpT; repeat' split <;> simp_all), Keeps.refl _ _⟩)
def orL : List Int → Int
 | [] => 0
 | a :: r => if a = 0 then orL r else a
theorem or_v (es : List Int) (v : Value) (w : World) (h : KsAt w v es) (hl : es.length ≤ 1000) :
  Calls Tryz.prog 159 #[v] w fun e w' => e = .returned (.int .i64 (orL es)) ∧ w' = w := by
 obtain ⟨ao, cap, rfl⟩ := RowAt.form h
 have HF := hide h
 clear h
 go_enter Tryz.func159, Tryz.ntmps159
 go_wp2_with fail
 go_loopw [8] (fun i wr => ∃ k : Nat, k ≤ es.length ∧ i = .int .i64 k ∧ Hid (orL (es.drop k) = orL es) ∧ wr = w) (fun i _ => es.length - (intOf i).toNat)
 case atStart => exact ⟨0, Nat.zero_le _, rfl, by simp [Hid], rfl⟩
 case round =>
  obtain ⟨k, hk, rfl, HS, rfl⟩ := hrel
  cases h : es[k]? with
  | none =>
   have h1 := get_ge h
   obtain rfl : k = es.length := by omega
   clear h h1
   rw [List.drop_length] at HS
   have i1 : ¬ (es.length : Int) < (es.length : Int) := by omega
   go_wp2_with fail
   go_ret
   exact ⟨ret_int (uh HS), rfl⟩
  | some x =>
   have h1 := get_lt h
   obtain ⟨b, off, c, e, hbl, hc⟩ := (uh HF).cells (by omega)
   simp at e
   obtain ⟨rfl, rfl⟩ := e
   have c0 := hc k x h
   have HO : Hid (orL (es.drop k) = if x = 0 then orL (es.drop (k + 1)) else x) := by
    obtain ⟨hk', hx⟩ := List.getElem?_eq_some_iff.1 h
    show _ = _
    rw [List.drop_eq_getElem_cons hk', hx]
    rfl
   clear h hc
   have i1 : (k : Int) < (es.length : Int) := by omega
   have i0 : (0 : Int) ≤ (k : Int) := by omega
   by_cases hx : x = 0
   ·subst hx
    rw [if_pos rfl] at HO
    go_wp2_with fail
    go_roundw
    case rel => exact ⟨k + 1, by omega, by go_num, (uh HO).symm.trans (uh HS), by trivial⟩
    case measure => simp [intOf]; omega
   ·rw [if_neg hx] at HO
    go_wp2_with fail
    go_ret
    exact ⟨ret_int ((uh HO).symm.trans (uh HS)), rfl⟩
end Go.Proofs.YtbokbdcjpbnodaaGreatDoor
namespace Go.Proofs.YtbokbdcjpbnodaaGreatDoor
open Go.RowKit Go.Maps
set_option maxRecDepth 100000
set_option maxHeartbeats 2000000
theorem ks_two (w : World) (X Y : Int) : KsAt (w.alloc (.cells #[.int .i64 X, .int .i64 Y] 3)) (.slice (some ⟨w.heap.size, 0, none⟩) 2 2) [X, Y] :=
 rowAt_own (World.ownsRow_lit (base := 0) (e := 3) (size := 1) w #[.int .i64 X, .int .i64 Y] 2 (Nat.zero_le _) (by unfold maxLen; omega) rfl)
theorem order_v (a b : ValA) (w : World) : Calls Tryz.prog 123 #[a.v, b.v] w fun e w' => e = .returned (.int .i64 (ordV a b)) ∧ Keeps (fun _ => False) w w' := by
 have HA := hide (fun (W : World) => compareI_v a.n b.n W)
 have HB := hide (fun (W : World) => compareT_v a.s b.s W)
 have HO : Hid (ordV a b = orL [cmpI a.n b.n, cmpT a.s b.s]) := by
  show _ = _
  unfold ordV orL orL orL
  split
  ·split
   ·simp_all
   ·rfl
  ·rfl
 generalize ordV a b = R at *
 generalize cmpI a.n b.n = X at *
 generalize cmpT a.s b.s = Y at *
 obtain ⟨ak, an, ax⟩ := a
 obtain ⟨bk, bn, bx⟩ := b
 unfold ValA.v
 simp only at *
 have HA1 := hide (kAlloc w (.cells #[.int .i64 ak, .int .i64 an, str ax] 74))
 have HA2 := hide (kAlloc (w.alloc (.cells #[.int .i64 ak, .int .i64 an, str ax] 74)) (.cells #[.int .i64 bk, .int .i64 bn, str bx] 74))
 have hX2 := heap_alloc_new (w.alloc (.cells #[.int .i64 ak, .int .i64 an, str ax] 74)) (.cells #[.int .i64 bk, .int .i64 bn, str bx] 74)
 rw [show (w.alloc (.cells #[.int .i64 ak, .int .i64 an, str ax] 74)).heap.size = w.heap.size + 1 by simp] at hX2
 have hX1 := heap_alloc_new w (.cells #[.int .i64 ak, .int .i64 an, str ax] 74)
 have hX3 := ((uh HA2).block w.heap.size (lt_of_block hX1) id).trans hX1
 have HKA := hide ((uh HA1).trans (uh HA2))
 clear HA1 HA2 hX1
 go_enter Tryz.func123, Tryz.ntmps123
 go_wp2_with fail
 generalize (w.alloc (.cells #[.int .i64 ak, .int .i64 an, str ax] 74)).alloc (.cells #[.int .i64 bk, .int .i64 bn, str bx] 74) = W at *
 have p1 : w.heap.size < W.heap.size := lt_of_block hX3
 have p2 : w.heap.size + 1 < W.heap.size := lt_of_block hX2
 have a1 : W.cell? ⟨w.heap.size, 1, none⟩ = some (.int .i64 an) := (cell_of_blk hX3 _).trans rfl
 have a2 : W.cell? ⟨w.heap.size, 2, none⟩ = some (str ax) := (cell_of_blk hX3 _).trans rfl
 have b1 : W.cell? ⟨w.heap.size + 1, 1, none⟩ = some (.int .i64 bn) := (cell_of_blk hX2 _).trans rfl
 have b2 : W.cell? ⟨w.heap.size + 1, 2, none⟩ = some (str bx) := (cell_of_blk hX2 _).trans rfl
 have HD := hide (Keeps.refl (fun _ => False) W).drew
 clear hX3 hX2
 go_region_held3 (fun w' => w'.cell? ⟨w.heap.size, 1, none⟩ = some (.int .i64 an) ∧ w'.cell? ⟨w.heap.size, 2, none⟩ = some (str ax) ∧ w'.cell? ⟨w.heap.size + 1, 1, none⟩ = some (.int .i64 bn) ∧ w'.cell? ⟨w.heap.size + 1, 2, none⟩ = some (str bx))
  (first | with_reducible exact c31 | with_reducible exact c32 | with_reducible exact d31 | with_reducible exact d32 | with_reducible exact c21 | with_reducible exact c22 | with_reducible exact d21 | with_reducible exact d22 | (go_keep; done) | assumption)
  (first
    | (go_at_call 159; refine (or_v [X, Y] _ _ (ks_two w3 X Y) (by simp)).mono ?_; rintro e w4 ⟨rfl, rfl⟩)
    | (go_at_call 161; refine ((uh HB) _).mono ?_; rintro e w3 ⟨rfl, hk3⟩; have r1 := Nat.lt_of_lt_of_le q1 hk3.size; have r2 := Nat.lt_of_lt_of_le q2 hk3.size; have c31 := (hk3.cell (o := 1) q1 id).trans c21; have c32 := (hk3.cell (o := 2) q1 id).trans c22; have d31 := (hk3.cell (o := 1) q2 id).trans d21; have d32 := (hk3.cell (o := 2) q2 id).trans d22)
    | (go_at_call 160; refine ((uh HA) _).mono ?_; rintro e w2 ⟨rfl, hk2⟩; have q1 := Nat.lt_of_lt_of_le (Nat.lt_of_lt_of_le p1 (uh HD).size) hk2.size; have q2 := Nat.lt_of_lt_of_le (Nat.lt_of_lt_of_le p2 (uh HD).size) hk2.size; have c21 := (hk2.cell (o := 1) (Nat.lt_of_lt_of_le p1 (uh HD).size) id).trans (((uh HD).cell (o := 1) p1 id).trans a1); have c22 := (hk2.cell (o := 2) (Nat.lt_of_lt_of_le p1 (uh HD).size) id).trans (((uh HD).cell (o := 2) p1 id).trans a2); have d21 := (hk2.cell (o := 1) (Nat.lt_of_lt_of_le p2 (uh HD).size) id).trans (((uh HD).cell (o := 1) p2 id).trans b1); have d22 := (hk2.cell (o := 2) (Nat.lt_of_lt_of_le p2 (uh HD).size) id).trans (((uh HD).cell (o := 2) p2 id).trans b2)))
 go_wp2_with fail
 go_ret
 exact ⟨ret_int (uh HO).symm, ((((uh HKA).trans (uh HD)).trans hk2).trans hk3).alloc _⟩
theorem cat_v (a b : ValA) (w : World) (ha : a.s.length ≤ 20) (hb : b.s.length ≤ 20) : Calls Tryz.prog 124 #[a.v, b.v] w fun e w' => e = .returned (bytV (catT a.s b.s)).v ∧ Keeps (fun _ => False) w w' := by
 have HT := hide (fun (W : World) => text_v (catT a.s b.s) W)
 have HC : Hid (catT a.s b.s = (a.s ++ b.s).take 20) := rfl
 generalize catT a.s b.s = C at *
 obtain ⟨ak, an, ax⟩ := a
 obtain ⟨bk, bn, bx⟩ := b
 unfold ValA.v
 simp only at *
 have i0 : ¬ 9223372036854775807 < ax.length + bx.length := by omega
 have ext : ∀ k : Nat, ((⟨ax.toArray⟩ : ByteArray) ++ ⟨bx.toArray⟩).extract 0 k = ⟨((ax ++ bx).take k).toArray⟩ := fun k => by
  apply ByteArray.ext
  rw [ByteArray.data_extract]
  show (ax ++ bx).toArray.extract 0 k = _
  simp
 have HE1 : Hid (((⟨ax.toArray⟩ : ByteArray) ++ ⟨bx.toArray⟩).extract 0 20 = ⟨C.toArray⟩) := by show _ = _; rw [ext, ← uh HC]
 have HE2 : Hid ((ax.length : Int) + (bx.length : Int) ≤ 20 → ((⟨ax.toArray⟩ : ByteArray) ++ ⟨bx.toArray⟩).extract 0 ((ax.length : Int) + (bx.length : Int)).toNat = ⟨C.toArray⟩) := fun h => by
  rw [ext, uh HC, show ((ax.length : Int) + (bx.length : Int)).toNat = (ax ++ bx).length by simp; omega, List.take_length, List.take_of_length_le (by simp; omega)]
 have HKA := hide (((kAlloc w (.cells #[.int .i64 ak, .int .i64 an, str ax] 74)).alloc (.cells #[.int .i64 bk, .int .i64 bn, str bx] 74)).alloc (.cells #[.int .i64 0, .int .i64 0, .string ⟨#[]⟩] 74))
 have hX := heap_alloc_new ((w.alloc (.cells #[.int .i64 ak, .int .i64 an, str ax] 74)).alloc (.cells #[.int .i64 bk, .int .i64 bn, str bx] 74)) (.cells #[.int .i64 0, .int .i64 0, .string ⟨#[]⟩] 74)
 rw [show ((w.alloc (.cells #[.int .i64 ak, .int .i64 an, str ax] 74)).alloc (.cells #[.int .i64 bk, .int .i64 bn, str bx] 74)).heap.size = w.heap.size + 1 + 1 by simp] at hX
 have HX := hide hX
 clear ext hX
 go_enter Tryz.func124, Tryz.ntmps124
 go_wp2_with fail
 case' inr => rw [(uh HE2) (by omega)]
 case' inl => rw [uh HE1]
 all_goals
  refine ((uh HT) _).mono ?_
  rintro e w1 ⟨rfl, hk1⟩
  generalize ((w.alloc (.cells #[.int .i64 ak, .int .i64 an, str ax] 74)).alloc (.cells #[.int .i64 bk, .int .i64 bn, str bx] 74)).alloc (.cells #[.int .i64 0, .int .i64 0, .string ⟨#[]⟩] 74) = W at *
  have hX3 := (hk1.block _ (lt_of_block (uh HX)) id).trans (uh HX)
  have z0 := frozen_of_blk hX3 0
  have z1 := frozen_of_blk hX3 1
  have z2 := frozen_of_blk hX3 2
  have y0 : w1.cell? ⟨w.heap.size + 1 + 1, 0, none⟩ = some (.int .i64 0) := (cell_of_blk hX3 _).trans rfl
  have y1 : w1.cell? ⟨w.heap.size + 1 + 1, 1, none⟩ = some (.int .i64 0) := (cell_of_blk hX3 _).trans rfl
  have y2 : w1.cell? ⟨w.heap.size + 1 + 1, 2, none⟩ = some (.string ⟨#[]⟩) := (cell_of_blk hX3 _).trans rfl
  obtain ⟨s0, s1, s2⟩ := set3 hX3 (.int .i64 3) (.int .i64 0) (str C)
  have HK := hide (((uh HKA).trans hk1).fresh (by omega) (keeps_set3 w1 (w.heap.size + 1 + 1) (.int .i64 3) (.int .i64 0) (str C)))
  have eb : (bytV C).v = .agg #[.int .i64 3, .int .i64 0, str C] := rfl
  rw [eb]
  clear hX3 hk1
  go_wp2_with fail
  trace_state
  refine bodyPost_ret (v := .agg #[.int .i64 3, .int .i64 0, str C]) (by simp [results, go_sem, s0, s1, s2]) rfl ?_
  exact ⟨rfl, uh HK⟩
end Go.Proofs.YtbokbdcjpbnodaaGreatDoor
namespace Go.Proofs.YtbokbdcjpbnodaaGreatDoor
open Go.RowKit Go.Maps
set_option maxRecDepth 100000
set_option maxHeartbeats 2000000
structure RunAt (w : World) (b : Nat) (sv rv : Value) (m : MS) : Prop where
 blk : ∃ cur : Array Value, w.heap[b]? = some (.cells cur 77 (0, 0)) ∧ cur.size = 52
 c0 : w.cell? ⟨b, 0, none⟩ = some sv
 c1 : w.cell? ⟨b, 1, none⟩ = some (.bool m.here)
 c2 : w.cell? ⟨b, 2, none⟩ = some rv
 ch : w.cell? ⟨b, 51, none⟩ = some (.int .i64 (m.st.length : Int))
 stk : ∀ (i : Nat) (v : ValA), m.st[i]? = some v → w.cell? ⟨b, 3 + i * 3, none⟩ = some (.int .i64 v.kind) ∧ w.cell? ⟨b, 3 + i * 3 + 1, none⟩ = some (.int .i64 v.n) ∧ w.cell? ⟨b, 3 + i * 3 + 2, none⟩ = some (str v.s)
 len : m.st.length ≤ 16
theorem RunAt.lt {w : World} {b : Nat} {sv rv : Value} {m : MS} (h : RunAt w b sv rv m) : b < w.heap.size := by
 obtain ⟨cur, hb, _⟩ := h.blk
 exact lt_of_block hb
theorem RunAt.keep {F : Nat → Prop} {w w' : World} {b : Nat} {sv rv : Value} {m : MS} (h : RunAt w b sv rv m) (hk : Keeps F w w') (hF : ¬ F b) : RunAt w' b sv rv m := by
 obtain ⟨cur, hb, hs⟩ := h.blk
 have q := fun (o : Nat) => hk.cell (o := o) h.lt hF
 exact ⟨⟨cur, (hk.block b h.lt hF).trans hb, hs⟩, (q 0).trans h.c0, (q 1).trans h.c1, (q 2).trans h.c2, (q 51).trans h.ch, fun i v hv => ⟨(q _).trans (h.stk i v hv).1, (q _).trans (h.stk i v hv).2.1, (q _).trans (h.stk i v hv).2.2⟩, h.len⟩
theorem RunAt.keepF {w w' : World} {b : Nat} {sv rv : Value} {m : MS} (h : RunAt w b sv rv m) (hk : Keeps (fun _ => False) w w') : RunAt w' b sv rv m := h.keep hk id
theorem take_get {α : Type} {l : List α} {n i : Nat} {v : α} (h : (l.take n)[i]? = some v) : i < n ∧ l[i]? = some v := by
 rw [List.getElem?_take] at h
 split at h
 ·exact ⟨‹_›, h⟩
 ·cases h
theorem RunAt.popped {w : World} {b : Nat} {sv rv : Value} {m : MS} (h : RunAt w b sv rv m) {n : Nat} (hn : m.st.length = n + 1) :
  RunAt (w.setCell ⟨b, 51, none⟩ (.int .i64 (n : Int))) b sv rv ⟨m.st.take n, m.here, m.vals⟩ := by
 obtain ⟨cur, hB, hs⟩ := h.blk
 have hE := heap_setCell_at (o := 51) hB (.int .i64 (n : Int))
 have q : ∀ o, o ≠ 51 → (w.setCell ⟨b, 51, none⟩ (.int .i64 (n : Int))).cell? ⟨b, o, none⟩ = w.cell? ⟨b, o, none⟩ := fun o ho => by
  rw [cell_of_blk hE, cell_of_blk hB, Array.getElem?_setIfInBounds_ne (Ne.symm ho)]
 have hl := h.len
 have hlen : (m.st.take n).length = n := by simp; omega
 refine ⟨⟨_, hE, by simpa using hs⟩, (q 0 (by omega)).trans h.c0, (q 1 (by omega)).trans h.c1, (q 2 (by omega)).trans h.c2, ?_, fun i v hv => ?_, ?_⟩
 ·rw [hlen, cell_of_blk hE]
  simp [hs]
 ·obtain ⟨h1, h2⟩ := take_get hv
  have := h.stk i v h2
  exact ⟨(q _ (by omega)).trans this.1, (q _ (by omega)).trans this.2.1, (q _ (by omega)).trans this.2.2⟩
 ·show (m.st.take n).length ≤ 16
  omega
theorem keeps_one (w : World) (b o : Nat) (x : Value) : Keeps (fun q => q = b) w (w.setCell ⟨b, o, none⟩ x) :=
 Keeps.setCell (F := fun q => q = b) (p := ⟨b, o, none⟩) (Keeps.refl (fun q => q = b) w) (fun _ => rfl) x
theorem pop_v {w : World} {b : Nat} {sv rv : Value} {m : MS} (h : RunAt w b sv rv m) {n : Nat} {a : ValA} (hn : m.st.length = n + 1) (ha : m.st[n]? = some a) :
  Calls Tryz.prog 68 #[.pointer (some ⟨b, 0, none⟩)] w fun e w' => e = .returned a.v ∧ RunAt w' b sv rv ⟨m.st.take n, m.here, m.vals⟩ ∧ Keeps (fun q => q = b) w w' := by
 have hb : b < w.heap.size := h.lt
 have hl := h.len
 have h1 := h.keepF (kAlloc w (.cells #[.int .i64 0, .int .i64 0, .string ⟨#[]⟩] 74))
 obtain ⟨cur, hB, hs⟩ := h1.blk
 have ch := h1.ch
 rw [hn, show ((n + 1 : Nat) : Int) = (n : Int) + 1 by omega] at ch
 have z := frozen_of_blk hB 51
 have i0 : (0 : Int) ≤ (n : Int) := by omega
 have i1 : (n : Int) < 16 := by omega
 have HP := hide ((h.popped hn).keepF (kAlloc _ (.cells #[.int .i64 0, .int .i64 0, .string ⟨#[]⟩] 74)))
 have hX2 := heap_alloc_new (w.setCell ⟨b, 51, none⟩ (.int .i64 (n : Int))) (.cells #[.int .i64 0, .int .i64 0, .string ⟨#[]⟩] 74)
 rw [show (w.setCell ⟨b, 51, none⟩ (.int .i64 (n : Int))).heap.size = w.heap.size by simp] at hX2
 have HX2 := hide hX2
 have HK2 := hide ((keeps_one w b 51 (.int .i64 (n : Int))).alloc (.cells #[.int .i64 0, .int .i64 0, .string ⟨#[]⟩] 74))
 obtain ⟨cur2, hB2, hs2⟩ := h.blk
 have hE := heap_setCell_at (o := 51) hB2 (.int .i64 (n : Int))
 have q : ∀ o, o ≠ 51 → ((w.setCell ⟨b, 51, none⟩ (.int .i64 (n : Int))).alloc (.cells #[.int .i64 0, .int .i64 0, .string ⟨#[]⟩] 74)).cell? ⟨b, o, none⟩ = w.cell? ⟨b, o, none⟩ := fun o ho => by
  rw [(kAlloc _ _).cell (by simpa using hb) id, cell_of_blk hE, cell_of_blk hB2, Array.getElem?_setIfInBounds_ne (Ne.symm ho)]
 have hst := h.stk n a ha
 have d0 := (q _ (by omega)).trans hst.1
 have d1 := (q _ (by omega)).trans hst.2.1
 have d2 := (q _ (by omega)).trans hst.2.2
 have dh : ((w.setCell ⟨b, 51, none⟩ (.int .i64 (n : Int))).alloc (.cells #[.int .i64 0, .int .i64 0, .string ⟨#[]⟩] 74)).cell? ⟨b, 51, none⟩ = some (.int .i64 (n : Int)) := by
  rw [(kAlloc _ _).cell (by simpa using hb) id, cell_of_blk hE]; simp [hs2]
 unfold ValA.v
 clear q hE hB hs hn ha h hX2 hst h1 hB2 hs2
 go_enter Tryz.func68, Tryz.ntmps68
 go_wp2_with fail
 generalize (w.setCell ⟨b, 51, none⟩ (.int .i64 (n : Int))).alloc (.cells #[.int .i64 0, .int .i64 0, .string ⟨#[]⟩] 74) = W at *
 have hX3 := uh HX2
 have z0 := frozen_of_blk hX3 0
 have z1 := frozen_of_blk hX3 1
 have z2 := frozen_of_blk hX3 2
 have y0 : W.cell? ⟨w.heap.size, 0, none⟩ = some (.int .i64 0) := (cell_of_blk hX3 _).trans rfl
 have y1 : W.cell? ⟨w.heap.size, 1, none⟩ = some (.int .i64 0) := (cell_of_blk hX3 _).trans rfl
 have y2 : W.cell? ⟨w.heap.size, 2, none⟩ = some (.string ⟨#[]⟩) := (cell_of_blk hX3 _).trans rfl
 obtain ⟨s0, s1, s2⟩ := set3 hX3 (.int .i64 a.kind) (.int .i64 a.n) (str a.s)
 have HK3 := hide (keeps_set3 W w.heap.size (.int .i64 a.kind) (.int .i64 a.n) (str a.s))
 clear hX3 ch z
 go_region
 go_wp2_with fail
 refine bodyPost_ret (v := .agg #[.int .i64 a.kind, .int .i64 a.n, str a.s]) (by simp [results, go_sem, s0, s1, s2]) rfl ?_
 have hne : ¬ b = w.heap.size := by omega
 refine ⟨rfl, ((uh HP).keep (uh HK3) hne).keepF (Keeps.refl _ _).drew, ?_⟩
 exact ((uh HK2).then (uh HK3) (fun i hi e => by omega)).drew
theorem RunAt.pushed {w : World} {b : Nat} {sv rv : Value} {m : MS} (h : RunAt w b sv rv m) (v : ValA) (hn : m.st.length < 16) :
  RunAt ((((w.setCell ⟨b, 3 + m.st.length * 3, none⟩ (.int .i64 v.kind)).setCell ⟨b, 3 + m.st.length * 3 + 1, none⟩ (.int .i64 v.n)).setCell ⟨b, 3 + m.st.length * 3 + 2, none⟩ (str v.s)).setCell ⟨b, 51, none⟩ (.int .i64 ((m.st.length : Int) + 1))) b sv rv ⟨m.st ++ [v], m.here, m.vals⟩ := by
 obtain ⟨cur, hB, hs⟩ := h.blk
 generalize hN : m.st.length = n at *
 have hE := heap_setCell_at (o := 51) (heap_setCell_at (o := 3 + n * 3 + 2) (heap_setCell_at (o := 3 + n * 3 + 1) (heap_setCell_at (o := 3 + n * 3) hB (.int .i64 v.kind)) (.int .i64 v.n)) (str v.s)) (.int .i64 ((n : Int) + 1))
 have q : ∀ o, o ≠ 51 → o ≠ 3 + n * 3 → o ≠ 3 + n * 3 + 1 → o ≠ 3 + n * 3 + 2 → ((((w.setCell ⟨b, 3 + n * 3, none⟩ (.int .i64 v.kind)).setCell ⟨b, 3 + n * 3 + 1, none⟩ (.int .i64 v.n)).setCell ⟨b, 3 + n * 3 + 2, none⟩ (str v.s)).setCell ⟨b, 51, none⟩ (.int .i64 ((n : Int) + 1))).cell? ⟨b, o, none⟩ = w.cell? ⟨b, o, none⟩ := fun o h0 h1 h2 h3 => by
  rw [cell_of_blk hE, cell_of_blk hB, Array.getElem?_setIfInBounds_ne (Ne.symm h0), Array.getElem?_setIfInBounds_ne (Ne.symm h3), Array.getElem?_setIfInBounds_ne (Ne.symm h2), Array.getElem?_setIfInBounds_ne (Ne.symm h1)]
 refine ⟨⟨_, hE, by simpa using hs⟩, (q 0 (by omega) (by omega) (by omega) (by omega)).trans h.c0, (q 1 (by omega) (by omega) (by omega) (by omega)).trans h.c1, (q 2 (by omega) (by omega) (by omega) (by omega)).trans h.c2, ?_, fun i u hu => ?_, ?_⟩
 ·rw [cell_of_blk hE]
  simp [hs, hN]
 ·by_cases hi : i < n
  ·rw [List.getElem?_append_left (by omega)] at hu
   have := h.stk i u hu
   exact ⟨(q _ (by omega) (by omega) (by omega) (by omega)).trans this.1, (q _ (by omega) (by omega) (by omega) (by omega)).trans this.2.1, (q _ (by omega) (by omega) (by omega) (by omega)).trans this.2.2⟩
  ·rw [List.getElem?_append_right (by omega), hN] at hu
   obtain ⟨h1, h2⟩ := List.getElem?_eq_some_iff.1 hu
   simp only [List.length_cons, List.length_nil] at h1
   obtain rfl : i = n := by omega
   simp at h2
   subst h2
   refine ⟨?_, ?_, ?_⟩
   ·rw [cell_of_blk hE, Array.getElem?_setIfInBounds_ne (by omega), Array.getElem?_setIfInBounds_ne (by omega), Array.getElem?_setIfInBounds_ne (by omega)]; simp [Array.getElem?_setIfInBounds]; omega
   ·rw [cell_of_blk hE, Array.getElem?_setIfInBounds_ne (by omega), Array.getElem?_setIfInBounds_ne (by omega)]; simp [Array.getElem?_setIfInBounds]; omega
   ·rw [cell_of_blk hE, Array.getElem?_setIfInBounds_ne (by omega)]; simp [Array.getElem?_setIfInBounds]; omega
 ·show (m.st ++ [v]).length ≤ 16
  simp
  omega
theorem push_v {w : World} {b : Nat} {sv rv : Value} {m : MS} (h : RunAt w b sv rv m) (v : ValA) (hn : m.st.length < 16) :
  Calls Tryz.prog 90 #[.pointer (some ⟨b, 0, none⟩), v.v] w fun e w' => e = .returned (.tuple #[]) ∧ RunAt w' b sv rv ⟨m.st ++ [v], m.here, m.vals⟩ ∧ Keeps (fun q => q = b) w w' := by
 have hX := heap_alloc_new w (.cells #[.int .i64 v.kind, .int .i64 v.n, str v.s] 74)
 have HK := hide (kAlloc w (.cells #[.int .i64 v.kind, .int .i64 v.n, str v.s] 74))
 have hW := h.keepF (uh HK)
 unfold ValA.v
 go_enter Tryz.func90, Tryz.ntmps90
 go_wp2_with fail
 generalize w.alloc (.cells #[.int .i64 v.kind, .int .i64 v.n, str v.s] 74) = W at *
 have y5 : W.cell? ⟨w.heap.size, 0, none⟩ = some (.int .i64 v.kind) := (cell_of_blk hX _).trans rfl
 have y6 : W.cell? ⟨w.heap.size, 1, none⟩ = some (.int .i64 v.n) := (cell_of_blk hX _).trans rfl
 have y7 : W.cell? ⟨w.heap.size, 2, none⟩ = some (str v.s) := (cell_of_blk hX _).trans rfl
 obtain ⟨cur, hB, hs⟩ := hW.blk
 have HU := hide (hW.pushed v hn)
 have ch := hW.ch
 have zh := frozen_of_blk hB 51
 generalize hN : m.st.length = n at *
 have z0 := frozen_of_blk hB (3 + n * 3)
 have z1 := frozen_of_blk hB (3 + n * 3 + 1)
 have z2 := frozen_of_blk hB (3 + n * 3 + 2)
 have ex : ∀ o, o < 52 → ∃ x, W.cell? ⟨b, o, none⟩ = some x := fun o ho => ⟨cur[o]'(by omega), by rw [cell_of_blk hB]; exact Array.getElem?_eq_getElem _⟩
 obtain ⟨x0, y0⟩ := ex (3 + n * 3) (by omega)
 obtain ⟨x1, y1⟩ := ex (3 + n * 3 + 1) (by omega)
 obtain ⟨x2, y2⟩ := ex (3 + n * 3 + 2) (by omega)
 have i0 : (0 : Int) ≤ (n : Int) := by omega
 have i1 : (n : Int) < 16 := by omega
 have j0 : 3 + n * 3 ≠ 51 := by omega
 have j1 : 3 + n * 3 + 1 ≠ 51 := by omega
 have j2 : 3 + n * 3 + 2 ≠ 51 := by omega
 clear ex hB hs h hN hW hX
 go_region
 go_wp2_with fail
 go_end0
 refine ⟨rfl, (uh HU).keepF (Keeps.refl _ _).drew, ?_⟩
 have k0 : Keeps (fun q => q = b) w W := (uh HK).any
 exact (Keeps.setCell (p := ⟨b, 51, none⟩) (Keeps.setCell (p := ⟨b, 3 + n * 3 + 2, none⟩) (Keeps.setCell (p := ⟨b, 3 + n * 3 + 1, none⟩) (Keeps.setCell (p := ⟨b, 3 + n * 3, none⟩) k0 (fun _ => rfl) _) (fun _ => rfl) _) (fun _ => rfl) _) (fun _ => rfl) _).drew
end Go.Proofs.YtbokbdcjpbnodaaGreatDoor
namespace Go.Proofs.YtbokbdcjpbnodaaGreatDoor
open Go.RowKit Go.Maps
set_option maxRecDepth 100000
set_option maxHeartbeats 2000000
theorem res_facts {W w1 : World} {r : Nat} (HX : W.heap[r]? = some (.cells #[.int .i64 0, .int .i64 0, .string ⟨#[]⟩] 74 (0, 0))) (hk : Keeps (fun _ => False) W w1) (x : ValA) :
  w1.frozen? ⟨r, 0, none⟩ = false ∧ w1.frozen? ⟨r, 1, none⟩ = false ∧ w1.frozen? ⟨r, 2, none⟩ = false ∧ w1.cell? ⟨r, 0, none⟩ = some (.int .i64 0) ∧ w1.cell? ⟨r, 1, none⟩ = some (.int .i64 0) ∧ w1.cell? ⟨r, 2, none⟩ = some (.string ⟨#[]⟩) ∧
  (((w1.setCell ⟨r, 0, none⟩ (.int .i64 x.kind)).setCell ⟨r, 1, none⟩ (.int .i64 x.n)).setCell ⟨r, 2, none⟩ (str x.s)).cell? ⟨r, 0, none⟩ = some (.int .i64 x.kind) ∧ (((w1.setCell ⟨r, 0, none⟩ (.int .i64 x.kind)).setCell ⟨r, 1, none⟩ (.int .i64 x.n)).setCell ⟨r, 2, none⟩ (str x.s)).cell? ⟨r, 1, none⟩ = some (.int .i64 x.n) ∧ (((w1.setCell ⟨r, 0, none⟩ (.int .i64 x.kind)).setCell ⟨r, 1, none⟩ (.int .i64 x.n)).setCell ⟨r, 2, none⟩ (str x.s)).cell? ⟨r, 2, none⟩ = some (str x.s) := by
 have hX3 := (hk.block _ (lt_of_block HX) id).trans HX
 obtain ⟨s0, s1, s2⟩ := set3 hX3 (.int .i64 x.kind) (.int .i64 x.n) (str x.s)
 exact ⟨frozen_of_blk hX3 0, frozen_of_blk hX3 1, frozen_of_blk hX3 2, (cell_of_blk hX3 _).trans rfl, (cell_of_blk hX3 _).trans rfl, (cell_of_blk hX3 _).trans rfl, s0, s1, s2⟩
theorem ofOne_v (o : Int) (a : ValA) (w : World) (ho : o = 8 ∨ o = 9 ∨ o = 18) : Calls Tryz.prog 91 #[.int .i64 o, a.v] w fun e w' => e = .returned (oneV o a).v ∧ Keeps (fun _ => False) w w' := by
 have HKA := hide ((kAlloc w (.cells #[.int .i64 a.kind, .int .i64 a.n, str a.s] 74)).alloc (.cells #[.int .i64 0, .int .i64 0, .string ⟨#[]⟩] 74))
 have hX := heap_alloc_new (w.alloc (.cells #[.int .i64 a.kind, .int .i64 a.n, str a.s] 74)) (.cells #[.int .i64 0, .int .i64 0, .string ⟨#[]⟩] 74)
 rw [show (w.alloc (.cells #[.int .i64 a.kind, .int .i64 a.n, str a.s] 74)).heap.size = w.heap.size + 1 by simp] at hX
 have HX := hide hX
 clear hX
 have HI := hide (fun (W : World) => isTrue_v a W)
 rw [show a.v = .agg #[.int .i64 a.kind, .int .i64 a.n, str a.s] from rfl] at *
 rcases ho with rfl | rfl | rfl
 ·rw [show oneV 8 a = truV (!decide (a.n = 1)) from rfl]
  have HT := hide (fun (W : World) => truth_v (!decide (a.n = 1)) W)
  go_enter Tryz.func91, Tryz.ntmps91
  go_wp2_with fail
  refine ((uh HI) _).mono ?_
  rintro e w0 ⟨rfl, hk0⟩
  replace HX := hide ((hk0.block _ (lt_of_block (uh HX)) id).trans (uh HX))
  replace HKA := hide ((uh HKA).trans hk0)
  clear hk0
  go_wp2_with fail
  refine ((uh HT) _).mono ?_
  clear HT HI
  rintro e w1 ⟨rfl, hk1⟩
  generalize hx : truV (!decide (a.n = 1)) = x at *
  have HXE := hide hx
  clear hx
  obtain ⟨z0, z1, z2, y0, y1, y2, s0, s1, s2⟩ := res_facts (uh HX) hk1 x
  have HK := hide (((uh HKA).trans hk1).fresh (by omega) (keeps_set3 w1 (w.heap.size + 1) (.int .i64 x.kind) (.int .i64 x.n) (str x.s)))
  unfold ValA.v
  clear hk1
  go_wp2_with fail
  refine bodyPost_ret (v := .agg #[.int .i64 x.kind, .int .i64 x.n, str x.s]) (by simp [results, go_sem, s0, s1, s2]) rfl ?_
  exact ⟨by rw [uh HXE]; rfl, uh HK⟩
 ·rw [show oneV 9 a = numV (wrap64 (-a.n)) from rfl]
  go_enter Tryz.func91, Tryz.ntmps91
  go_wp2_with fail
  refine (number_v (wrap64 (-a.n)) _).mono ?_
  clear HI
  rintro e w1 ⟨rfl, hk1⟩
  generalize hx : numV (wrap64 (-a.n)) = x at *
  have HXE := hide hx
  clear hx
  obtain ⟨z0, z1, z2, y0, y1, y2, s0, s1, s2⟩ := res_facts (uh HX) hk1 x
  have HK := hide (((uh HKA).trans hk1).fresh (by omega) (keeps_set3 w1 (w.heap.size + 1) (.int .i64 x.kind) (.int .i64 x.n) (str x.s)))
  unfold ValA.v
  clear hk1
  go_wp2_with fail
  refine bodyPost_ret (v := .agg #[.int .i64 x.kind, .int .i64 x.n, str x.s]) (by simp [results, go_sem, s0, s1, s2]) rfl ?_
  exact ⟨by rw [uh HXE]; rfl, uh HK⟩
 ·rw [show oneV 18 a = numV a.s.length from rfl]
  go_enter Tryz.func91, Tryz.ntmps91
  go_wp2_with fail
  refine (number_v a.s.length _).mono ?_
  clear HI
  rintro e w1 ⟨rfl, hk1⟩
  generalize hx : numV a.s.length = x at *
  have HXE := hide hx
  clear hx
  obtain ⟨z0, z1, z2, y0, y1, y2, s0, s1, s2⟩ := res_facts (uh HX) hk1 x
  have HK := hide (((uh HKA).trans hk1).fresh (by omega) (keeps_set3 w1 (w.heap.size + 1) (.int .i64 x.kind) (.int .i64 x.n) (str x.s)))
  unfold ValA.v
  clear hk1
  go_wp2_with fail
  refine bodyPost_ret (v := .agg #[.int .i64 x.kind, .int .i64 x.n, str x.s]) (by simp [results, go_sem, s0, s1, s2]) rfl ?_
  exact ⟨by rw [uh HXE]; rfl, uh HK⟩
end Go.Proofs.YtbokbdcjpbnodaaGreatDoor
namespace Go.Proofs.YtbokbdcjpbnodaaGreatDoor
open Go.RowKit Go.Maps
set_option maxRecDepth 100000
set_option maxHeartbeats 2000000
theorem ofTwo10_v (a b : ValA) (w : World) (ha : a.s.length ≤ 20) (hb : b.s.length ≤ 20) : Calls Tryz.prog 92 #[.int .i64 10, a.v, b.v] w fun e w' => e = .returned (twoV 10 a b).v ∧ Keeps (fun _ => False) w w' := by
 have HKA := hide (((kAlloc w (.cells #[.int .i64 a.kind, .int .i64 a.n, str a.s] 74)).alloc (.cells #[.int .i64 b.kind, .int .i64 b.n, str b.s] 74)).alloc (.cells #[.int .i64 0, .int .i64 0, .string ⟨#[]⟩] 74))
 have hX := heap_alloc_new ((w.alloc (.cells #[.int .i64 a.kind, .int .i64 a.n, str a.s] 74)).alloc (.cells #[.int .i64 b.kind, .int .i64 b.n, str b.s] 74)) (.cells #[.int .i64 0, .int .i64 0, .string ⟨#[]⟩] 74)
 rw [show ((w.alloc (.cells #[.int .i64 a.kind, .int .i64 a.n, str a.s] 74)).alloc (.cells #[.int .i64 b.kind, .int .i64 b.n, str b.s] 74)).heap.size = w.heap.size + 1 + 1 by simp] at hX
 have HX := hide hX
 clear hX
 have HO := hide (fun (W : World) => order_v a b W)
 have HC := hide (fun (W : World) => cat_v a b W ha hb)
 rw [show twoV 10 a b = numV (wrap64 (a.n + b.n)) from rfl]
 rw [show a.v = .agg #[.int .i64 a.kind, .int .i64 a.n, str a.s] from rfl, show b.v = .agg #[.int .i64 b.kind, .int .i64 b.n, str b.s] from rfl] at *
 clear HO HC
 go_enter Tryz.func92, Tryz.ntmps92
 go_wp2_with fail
 refine (number_v _ _).mono ?_
 rintro e w1 ⟨rfl, hk1⟩
 generalize hx : numV (wrap64 (a.n + b.n)) = x at *
 have HXE := hide hx
 clear hx
 obtain ⟨z0, z1, z2, y0, y1, y2, s0, s1, s2⟩ := res_facts (uh HX) hk1 x
 have HK := hide (((uh HKA).trans hk1).fresh (by omega) (keeps_set3 w1 (w.heap.size + 1 + 1) (.int .i64 x.kind) (.int .i64 x.n) (str x.s)))
 unfold ValA.v
 clear hk1
 go_wp2_with fail
 refine bodyPost_ret (v := .agg #[.int .i64 x.kind, .int .i64 x.n, str x.s]) (by simp [results, go_sem, s0, s1, s2]) rfl ?_
 exact ⟨by rw [uh HXE]; rfl, uh HK⟩
theorem ofTwo11_v (a b : ValA) (w : World) (ha : a.s.length ≤ 20) (hb : b.s.length ≤ 20) : Calls Tryz.prog 92 #[.int .i64 11, a.v, b.v] w fun e w' => e = .returned (twoV 11 a b).v ∧ Keeps (fun _ => False) w w' := by
 have HKA := hide (((kAlloc w (.cells #[.int .i64 a.kind, .int .i64 a.n, str a.s] 74)).alloc (.cells #[.int .i64 b.kind, .int .i64 b.n, str b.s] 74)).alloc (.cells #[.int .i64 0, .int .i64 0, .string ⟨#[]⟩] 74))
 have hX := heap_alloc_new ((w.alloc (.cells #[.int .i64 a.kind, .int .i64 a.n, str a.s] 74)).alloc (.cells #[.int .i64 b.kind, .int .i64 b.n, str b.s] 74)) (.cells #[.int .i64 0, .int .i64 0, .string ⟨#[]⟩] 74)
 rw [show ((w.alloc (.cells #[.int .i64 a.kind, .int .i64 a.n, str a.s] 74)).alloc (.cells #[.int .i64 b.kind, .int .i64 b.n, str b.s] 74)).heap.size = w.heap.size + 1 + 1 by simp] at hX
 have HX := hide hX
 clear hX
 have HO := hide (fun (W : World) => order_v a b W)
 have HC := hide (fun (W : World) => cat_v a b W ha hb)
 rw [show twoV 11 a b = numV (wrap64 (a.n - b.n)) from rfl]
 rw [show a.v = .agg #[.int .i64 a.kind, .int .i64 a.n, str a.s] from rfl, show b.v = .agg #[.int .i64 b.kind, .int .i64 b.n, str b.s] from rfl] at *
 clear HO HC
 go_enter Tryz.func92, Tryz.ntmps92
 go_wp2_with fail
 refine (number_v _ _).mono ?_
 rintro e w1 ⟨rfl, hk1⟩
 generalize hx : numV (wrap64 (a.n - b.n)) = x at *
 have HXE := hide hx
 clear hx
 obtain ⟨z0, z1, z2, y0, y1, y2, s0, s1, s2⟩ := res_facts (uh HX) hk1 x
 have HK := hide (((uh HKA).trans hk1).fresh (by omega) (keeps_set3 w1 (w.heap.size + 1 + 1) (.int .i64 x.kind) (.int .i64 x.n) (str x.s)))
 unfold ValA.v
 clear hk1
 go_wp2_with fail
 refine bodyPost_ret (v := .agg #[.int .i64 x.kind, .int .i64 x.n, str x.s]) (by simp [results, go_sem, s0, s1, s2]) rfl ?_
 exact ⟨by rw [uh HXE]; rfl, uh HK⟩
theorem ofTwo12_v (a b : ValA) (w : World) (ha : a.s.length ≤ 20) (hb : b.s.length ≤ 20) : Calls Tryz.prog 92 #[.int .i64 12, a.v, b.v] w fun e w' => e = .returned (twoV 12 a b).v ∧ Keeps (fun _ => False) w w' := by
 have HKA := hide (((kAlloc w (.cells #[.int .i64 a.kind, .int .i64 a.n, str a.s] 74)).alloc (.cells #[.int .i64 b.kind, .int .i64 b.n, str b.s] 74)).alloc (.cells #[.int .i64 0, .int .i64 0, .string ⟨#[]⟩] 74))
 have hX := heap_alloc_new ((w.alloc (.cells #[.int .i64 a.kind, .int .i64 a.n, str a.s] 74)).alloc (.cells #[.int .i64 b.kind, .int .i64 b.n, str b.s] 74)) (.cells #[.int .i64 0, .int .i64 0, .string ⟨#[]⟩] 74)
 rw [show ((w.alloc (.cells #[.int .i64 a.kind, .int .i64 a.n, str a.s] 74)).alloc (.cells #[.int .i64 b.kind, .int .i64 b.n, str b.s] 74)).heap.size = w.heap.size + 1 + 1 by simp] at hX
 have HX := hide hX
 clear hX
 have HO := hide (fun (W : World) => order_v a b W)
 have HC := hide (fun (W : World) => cat_v a b W ha hb)
 rw [show twoV 12 a b = numV (wrap64 (a.n * b.n)) from rfl]
 rw [show a.v = .agg #[.int .i64 a.kind, .int .i64 a.n, str a.s] from rfl, show b.v = .agg #[.int .i64 b.kind, .int .i64 b.n, str b.s] from rfl] at *
 clear HO HC
 go_enter Tryz.func92, Tryz.ntmps92
 go_wp2_with fail
 refine (number_v _ _).mono ?_
 rintro e w1 ⟨rfl, hk1⟩
 generalize hx : numV (wrap64 (a.n * b.n)) = x at *
 have HXE := hide hx
 clear hx
 obtain ⟨z0, z1, z2, y0, y1, y2, s0, s1, s2⟩ := res_facts (uh HX) hk1 x
 have HK := hide (((uh HKA).trans hk1).fresh (by omega) (keeps_set3 w1 (w.heap.size + 1 + 1) (.int .i64 x.kind) (.int .i64 x.n) (str x.s)))
 unfold ValA.v
 clear hk1
 go_wp2_with fail
 refine bodyPost_ret (v := .agg #[.int .i64 x.kind, .int .i64 x.n, str x.s]) (by simp [results, go_sem, s0, s1, s2]) rfl ?_
 exact ⟨by rw [uh HXE]; rfl, uh HK⟩
theorem ofTwo13_v (a b : ValA) (w : World) (ha : a.s.length ≤ 20) (hb : b.s.length ≤ 20) : Calls Tryz.prog 92 #[.int .i64 13, a.v, b.v] w fun e w' => e = .returned (twoV 13 a b).v ∧ Keeps (fun _ => False) w w' := by
 have HKA := hide (((kAlloc w (.cells #[.int .i64 a.kind, .int .i64 a.n, str a.s] 74)).alloc (.cells #[.int .i64 b.kind, .int .i64 b.n, str b.s] 74)).alloc (.cells #[.int .i64 0, .int .i64 0, .string ⟨#[]⟩] 74))
 have hX := heap_alloc_new ((w.alloc (.cells #[.int .i64 a.kind, .int .i64 a.n, str a.s] 74)).alloc (.cells #[.int .i64 b.kind, .int .i64 b.n, str b.s] 74)) (.cells #[.int .i64 0, .int .i64 0, .string ⟨#[]⟩] 74)
 rw [show ((w.alloc (.cells #[.int .i64 a.kind, .int .i64 a.n, str a.s] 74)).alloc (.cells #[.int .i64 b.kind, .int .i64 b.n, str b.s] 74)).heap.size = w.heap.size + 1 + 1 by simp] at hX
 have HX := hide hX
 clear hX
 have HO := hide (fun (W : World) => order_v a b W)
 have HC := hide (fun (W : World) => cat_v a b W ha hb)
 rw [show twoV 13 a b = numV (min a.n b.n) from rfl]
 rw [show a.v = .agg #[.int .i64 a.kind, .int .i64 a.n, str a.s] from rfl, show b.v = .agg #[.int .i64 b.kind, .int .i64 b.n, str b.s] from rfl] at *
 clear HO HC
 go_enter Tryz.func92, Tryz.ntmps92
 go_wp2_with fail
 all_goals
  refine (number_v _ _).mono ?_
  first
   | rw [show numV a.n = numV (min a.n b.n) from congrArg numV (by omega)]
   | rw [show numV b.n = numV (min a.n b.n) from congrArg numV (by omega)]
  rintro e w1 ⟨rfl, hk1⟩
  generalize hx : numV (min a.n b.n) = x at *
  have HXE := hide hx
  clear hx
  obtain ⟨z0, z1, z2, y0, y1, y2, s0, s1, s2⟩ := res_facts (uh HX) hk1 x
  have HK := hide (((uh HKA).trans hk1).fresh (by omega) (keeps_set3 w1 (w.heap.size + 1 + 1) (.int .i64 x.kind) (.int .i64 x.n) (str x.s)))
  unfold ValA.v
  clear hk1
  go_wp2_with fail
  refine bodyPost_ret (v := .agg #[.int .i64 x.kind, .int .i64 x.n, str x.s]) (by simp [results, go_sem, s0, s1, s2]) rfl ?_
  exact ⟨by rw [uh HXE]; rfl, uh HK⟩
theorem ofTwo14_v (a b : ValA) (w : World) (ha : a.s.length ≤ 20) (hb : b.s.length ≤ 20) : Calls Tryz.prog 92 #[.int .i64 14, a.v, b.v] w fun e w' => e = .returned (twoV 14 a b).v ∧ Keeps (fun _ => False) w w' := by
 have HKA := hide (((kAlloc w (.cells #[.int .i64 a.kind, .int .i64 a.n, str a.s] 74)).alloc (.cells #[.int .i64 b.kind, .int .i64 b.n, str b.s] 74)).alloc (.cells #[.int .i64 0, .int .i64 0, .string ⟨#[]⟩] 74))
 have hX := heap_alloc_new ((w.alloc (.cells #[.int .i64 a.kind, .int .i64 a.n, str a.s] 74)).alloc (.cells #[.int .i64 b.kind, .int .i64 b.n, str b.s] 74)) (.cells #[.int .i64 0, .int .i64 0, .string ⟨#[]⟩] 74)
 rw [show ((w.alloc (.cells #[.int .i64 a.kind, .int .i64 a.n, str a.s] 74)).alloc (.cells #[.int .i64 b.kind, .int .i64 b.n, str b.s] 74)).heap.size = w.heap.size + 1 + 1 by simp] at hX
 have HX := hide hX
 clear hX
 have HO := hide (fun (W : World) => order_v a b W)
 have HC := hide (fun (W : World) => cat_v a b W ha hb)
 rw [show twoV 14 a b = numV (max a.n b.n) from rfl]
 rw [show a.v = .agg #[.int .i64 a.kind, .int .i64 a.n, str a.s] from rfl, show b.v = .agg #[.int .i64 b.kind, .int .i64 b.n, str b.s] from rfl] at *
 clear HO HC
 go_enter Tryz.func92, Tryz.ntmps92
 go_wp2_with fail
 all_goals
  refine (number_v _ _).mono ?_
  first
   | rw [show numV a.n = numV (max a.n b.n) from congrArg numV (by omega)]
   | rw [show numV b.n = numV (max a.n b.n) from congrArg numV (by omega)]
  rintro e w1 ⟨rfl, hk1⟩
  generalize hx : numV (max a.n b.n) = x at *
  have HXE := hide hx
  clear hx
  obtain ⟨z0, z1, z2, y0, y1, y2, s0, s1, s2⟩ := res_facts (uh HX) hk1 x
  have HK := hide (((uh HKA).trans hk1).fresh (by omega) (keeps_set3 w1 (w.heap.size + 1 + 1) (.int .i64 x.kind) (.int .i64 x.n) (str x.s)))
  unfold ValA.v
  clear hk1
  go_wp2_with fail
  refine bodyPost_ret (v := .agg #[.int .i64 x.kind, .int .i64 x.n, str x.s]) (by simp [results, go_sem, s0, s1, s2]) rfl ?_
  exact ⟨by rw [uh HXE]; rfl, uh HK⟩
theorem ofTwo15_v (a b : ValA) (w : World) (ha : a.s.length ≤ 20) (hb : b.s.length ≤ 20) : Calls Tryz.prog 92 #[.int .i64 15, a.v, b.v] w fun e w' => e = .returned (twoV 15 a b).v ∧ Keeps (fun _ => False) w w' := by
 have HKA := hide (((kAlloc w (.cells #[.int .i64 a.kind, .int .i64 a.n, str a.s] 74)).alloc (.cells #[.int .i64 b.kind, .int .i64 b.n, str b.s] 74)).alloc (.cells #[.int .i64 0, .int .i64 0, .string ⟨#[]⟩] 74))
 have hX := heap_alloc_new ((w.alloc (.cells #[.int .i64 a.kind, .int .i64 a.n, str a.s] 74)).alloc (.cells #[.int .i64 b.kind, .int .i64 b.n, str b.s] 74)) (.cells #[.int .i64 0, .int .i64 0, .string ⟨#[]⟩] 74)
 rw [show ((w.alloc (.cells #[.int .i64 a.kind, .int .i64 a.n, str a.s] 74)).alloc (.cells #[.int .i64 b.kind, .int .i64 b.n, str b.s] 74)).heap.size = w.heap.size + 1 + 1 by simp] at hX
 have HX := hide hX
 clear hX
 have HO := hide (fun (W : World) => order_v a b W)
 have HC := hide (fun (W : World) => cat_v a b W ha hb)
 rw [show twoV 15 a b = truV (decide (ordV a b < 0)) from rfl]
 rw [show a.v = .agg #[.int .i64 a.kind, .int .i64 a.n, str a.s] from rfl, show b.v = .agg #[.int .i64 b.kind, .int .i64 b.n, str b.s] from rfl] at *
 go_enter Tryz.func92, Tryz.ntmps92
 go_wp2_with fail
 refine ((uh HO) _).mono ?_
 rintro e w0 ⟨rfl, hk0⟩
 replace HX := hide ((hk0.block _ (lt_of_block (uh HX)) id).trans (uh HX))
 replace HKA := hide ((uh HKA).trans hk0)
 clear HO HC hk0
 go_wp2_with fail
 refine (truth_v _ _).mono ?_
 rintro e w1 ⟨rfl, hk1⟩
 generalize hx : truV (decide (ordV a b < 0)) = x at *
 have HXE := hide hx
 clear hx
 obtain ⟨z0, z1, z2, y0, y1, y2, s0, s1, s2⟩ := res_facts (uh HX) hk1 x
 have HK := hide (((uh HKA).trans hk1).fresh (by omega) (keeps_set3 w1 (w.heap.size + 1 + 1) (.int .i64 x.kind) (.int .i64 x.n) (str x.s)))
 unfold ValA.v
 clear hk1
 go_wp2_with fail
 refine bodyPost_ret (v := .agg #[.int .i64 x.kind, .int .i64 x.n, str x.s]) (by simp [results, go_sem, s0, s1, s2]) rfl ?_
 exact ⟨by rw [uh HXE]; rfl, uh HK⟩
theorem ofTwo16_v (a b : ValA) (w : World) (ha : a.s.length ≤ 20) (hb : b.s.length ≤ 20) : Calls Tryz.prog 92 #[.int .i64 16, a.v, b.v] w fun e w' => e = .returned (twoV 16 a b).v ∧ Keeps (fun _ => False) w w' := by
 have HKA := hide (((kAlloc w (.cells #[.int .i64 a.kind, .int .i64 a.n, str a.s] 74)).alloc (.cells #[.int .i64 b.kind, .int .i64 b.n, str b.s] 74)).alloc (.cells #[.int .i64 0, .int .i64 0, .string ⟨#[]⟩] 74))
 have hX := heap_alloc_new ((w.alloc (.cells #[.int .i64 a.kind, .int .i64 a.n, str a.s] 74)).alloc (.cells #[.int .i64 b.kind, .int .i64 b.n, str b.s] 74)) (.cells #[.int .i64 0, .int .i64 0, .string ⟨#[]⟩] 74)
 rw [show ((w.alloc (.cells #[.int .i64 a.kind, .int .i64 a.n, str a.s] 74)).alloc (.cells #[.int .i64 b.kind, .int .i64 b.n, str b.s] 74)).heap.size = w.heap.size + 1 + 1 by simp] at hX
 have HX := hide hX
 clear hX
 have HO := hide (fun (W : World) => order_v a b W)
 have HC := hide (fun (W : World) => cat_v a b W ha hb)
 rw [show twoV 16 a b = truV (decide (ordV a b ≤ 0)) from rfl]
 rw [show a.v = .agg #[.int .i64 a.kind, .int .i64 a.n, str a.s] from rfl, show b.v = .agg #[.int .i64 b.kind, .int .i64 b.n, str b.s] from rfl] at *
 go_enter Tryz.func92, Tryz.ntmps92
 go_wp2_with fail
 refine ((uh HO) _).mono ?_
 rintro e w0 ⟨rfl, hk0⟩
 replace HX := hide ((hk0.block _ (lt_of_block (uh HX)) id).trans (uh HX))
 replace HKA := hide ((uh HKA).trans hk0)
 clear HO HC hk0
 go_wp2_with fail
 refine (truth_v _ _).mono ?_
 rintro e w1 ⟨rfl, hk1⟩
 generalize hx : truV (decide (ordV a b ≤ 0)) = x at *
 have HXE := hide hx
 clear hx
 obtain ⟨z0, z1, z2, y0, y1, y2, s0, s1, s2⟩ := res_facts (uh HX) hk1 x
 have HK := hide (((uh HKA).trans hk1).fresh (by omega) (keeps_set3 w1 (w.heap.size + 1 + 1) (.int .i64 x.kind) (.int .i64 x.n) (str x.s)))
 unfold ValA.v
 clear hk1
 go_wp2_with fail
 refine bodyPost_ret (v := .agg #[.int .i64 x.kind, .int .i64 x.n, str x.s]) (by simp [results, go_sem, s0, s1, s2]) rfl ?_
 exact ⟨by rw [uh HXE]; rfl, uh HK⟩
theorem ofTwo17_v (a b : ValA) (w : World) (ha : a.s.length ≤ 20) (hb : b.s.length ≤ 20) : Calls Tryz.prog 92 #[.int .i64 17, a.v, b.v] w fun e w' => e = .returned (twoV 17 a b).v ∧ Keeps (fun _ => False) w w' := by
 have HKA := hide (((kAlloc w (.cells #[.int .i64 a.kind, .int .i64 a.n, str a.s] 74)).alloc (.cells #[.int .i64 b.kind, .int .i64 b.n, str b.s] 74)).alloc (.cells #[.int .i64 0, .int .i64 0, .string ⟨#[]⟩] 74))
 have hX := heap_alloc_new ((w.alloc (.cells #[.int .i64 a.kind, .int .i64 a.n, str a.s] 74)).alloc (.cells #[.int .i64 b.kind, .int .i64 b.n, str b.s] 74)) (.cells #[.int .i64 0, .int .i64 0, .string ⟨#[]⟩] 74)
 rw [show ((w.alloc (.cells #[.int .i64 a.kind, .int .i64 a.n, str a.s] 74)).alloc (.cells #[.int .i64 b.kind, .int .i64 b.n, str b.s] 74)).heap.size = w.heap.size + 1 + 1 by simp] at hX
 have HX := hide hX
 clear hX
 have HO := hide (fun (W : World) => order_v a b W)
 have HC := hide (fun (W : World) => cat_v a b W ha hb)
 rw [show twoV 17 a b = truV (decide (a = b)) from rfl]
 rw [show a.v = .agg #[.int .i64 a.kind, .int .i64 a.n, str a.s] from rfl, show b.v = .agg #[.int .i64 b.kind, .int .i64 b.n, str b.s] from rfl] at *
 clear HO HC
 obtain ⟨ak, an, ax⟩ := a
 obtain ⟨bk, bn, bx⟩ := b
 simp only at *
 by_cases h1 : ak = bk
 ·subst h1
  by_cases h2 : an = bn
  ·subst h2
   by_cases h3 : ax = bx
   ·subst h3
    rw [show decide ((⟨ak, an, ax⟩ : ValA) = (⟨ak, an, ax⟩ : ValA)) = true from decide_eq_true rfl]
    go_enter Tryz.func92, Tryz.ntmps92
    go_wp2_with fail
    refine (truth_v true _).mono ?_
    rintro e w1 ⟨rfl, hk1⟩
    generalize hx : truV true = x at *
    have HXE := hide hx
    clear hx
    obtain ⟨z0, z1, z2, y0, y1, y2, s0, s1, s2⟩ := res_facts (uh HX) hk1 x
    have HK := hide (((uh HKA).trans hk1).fresh (by omega) (keeps_set3 w1 (w.heap.size + 1 + 1) (.int .i64 x.kind) (.int .i64 x.n) (str x.s)))
    unfold ValA.v
    clear hk1
    go_wp2_with fail
    refine bodyPost_ret (v := .agg #[.int .i64 x.kind, .int .i64 x.n, str x.s]) (by simp [results, go_sem, s0, s1, s2]) rfl ?_
    exact ⟨by rw [uh HXE]; rfl, uh HK⟩
   ·
    rw [show decide ((⟨ak, an, ax⟩ : ValA) = (⟨ak, an, bx⟩ : ValA)) = false from decide_eq_false (fun h => by simp only [ValA.mk.injEq] at h; simp_all)]
    go_enter Tryz.func92, Tryz.ntmps92
    go_wp2_with fail
    refine (truth_v false _).mono ?_
    rintro e w1 ⟨rfl, hk1⟩
    generalize hx : truV false = x at *
    have HXE := hide hx
    clear hx
    obtain ⟨z0, z1, z2, y0, y1, y2, s0, s1, s2⟩ := res_facts (uh HX) hk1 x
    have HK := hide (((uh HKA).trans hk1).fresh (by omega) (keeps_set3 w1 (w.heap.size + 1 + 1) (.int .i64 x.kind) (.int .i64 x.n) (str x.s)))
    unfold ValA.v
    clear hk1
    go_wp2_with fail
    refine bodyPost_ret (v := .agg #[.int .i64 x.kind, .int .i64 x.n, str x.s]) (by simp [results, go_sem, s0, s1, s2]) rfl ?_
    exact ⟨by rw [uh HXE]; rfl, uh HK⟩
  ·
   rw [show decide ((⟨ak, an, ax⟩ : ValA) = (⟨ak, bn, bx⟩ : ValA)) = false from decide_eq_false (fun h => by simp only [ValA.mk.injEq] at h; simp_all)]
   go_enter Tryz.func92, Tryz.ntmps92
   go_wp2_with fail
   refine (truth_v false _).mono ?_
   rintro e w1 ⟨rfl, hk1⟩
   generalize hx : truV false = x at *
   have HXE := hide hx
   clear hx
   obtain ⟨z0, z1, z2, y0, y1, y2, s0, s1, s2⟩ := res_facts (uh HX) hk1 x
   have HK := hide (((uh HKA).trans hk1).fresh (by omega) (keeps_set3 w1 (w.heap.size + 1 + 1) (.int .i64 x.kind) (.int .i64 x.n) (str x.s)))
   unfold ValA.v
   clear hk1
   go_wp2_with fail
   refine bodyPost_ret (v := .agg #[.int .i64 x.kind, .int .i64 x.n, str x.s]) (by simp [results, go_sem, s0, s1, s2]) rfl ?_
   exact ⟨by rw [uh HXE]; rfl, uh HK⟩
 ·
  rw [show decide ((⟨ak, an, ax⟩ : ValA) = (⟨bk, bn, bx⟩ : ValA)) = false from decide_eq_false (fun h => by simp only [ValA.mk.injEq] at h; simp_all)]
  go_enter Tryz.func92, Tryz.ntmps92
  go_wp2_with fail
  refine (truth_v false _).mono ?_
  rintro e w1 ⟨rfl, hk1⟩
  generalize hx : truV false = x at *
  have HXE := hide hx
  clear hx
  obtain ⟨z0, z1, z2, y0, y1, y2, s0, s1, s2⟩ := res_facts (uh HX) hk1 x
  have HK := hide (((uh HKA).trans hk1).fresh (by omega) (keeps_set3 w1 (w.heap.size + 1 + 1) (.int .i64 x.kind) (.int .i64 x.n) (str x.s)))
  unfold ValA.v
  clear hk1
  go_wp2_with fail
  refine bodyPost_ret (v := .agg #[.int .i64 x.kind, .int .i64 x.n, str x.s]) (by simp [results, go_sem, s0, s1, s2]) rfl ?_
  exact ⟨by rw [uh HXE]; rfl, uh HK⟩
theorem ofTwo19_v (a b : ValA) (w : World) (ha : a.s.length ≤ 20) (hb : b.s.length ≤ 20) : Calls Tryz.prog 92 #[.int .i64 19, a.v, b.v] w fun e w' => e = .returned (twoV 19 a b).v ∧ Keeps (fun _ => False) w w' := by
 have HKA := hide (((kAlloc w (.cells #[.int .i64 a.kind, .int .i64 a.n, str a.s] 74)).alloc (.cells #[.int .i64 b.kind, .int .i64 b.n, str b.s] 74)).alloc (.cells #[.int .i64 0, .int .i64 0, .string ⟨#[]⟩] 74))
 have hX := heap_alloc_new ((w.alloc (.cells #[.int .i64 a.kind, .int .i64 a.n, str a.s] 74)).alloc (.cells #[.int .i64 b.kind, .int .i64 b.n, str b.s] 74)) (.cells #[.int .i64 0, .int .i64 0, .string ⟨#[]⟩] 74)
 rw [show ((w.alloc (.cells #[.int .i64 a.kind, .int .i64 a.n, str a.s] 74)).alloc (.cells #[.int .i64 b.kind, .int .i64 b.n, str b.s] 74)).heap.size = w.heap.size + 1 + 1 by simp] at hX
 have HX := hide hX
 clear hX
 have HO := hide (fun (W : World) => order_v a b W)
 have HC := hide (fun (W : World) => cat_v a b W ha hb)
 rw [show twoV 19 a b = bytV (catT a.s b.s) from rfl]
 rw [show a.v = .agg #[.int .i64 a.kind, .int .i64 a.n, str a.s] from rfl, show b.v = .agg #[.int .i64 b.kind, .int .i64 b.n, str b.s] from rfl] at *
 go_enter Tryz.func92, Tryz.ntmps92
 go_wp2_with fail
 refine ((uh HC) _).mono ?_
 clear HO HC
 rintro e w1 ⟨rfl, hk1⟩
 generalize hx : bytV (catT a.s b.s) = x at *
 have HXE := hide hx
 clear hx
 obtain ⟨z0, z1, z2, y0, y1, y2, s0, s1, s2⟩ := res_facts (uh HX) hk1 x
 have HK := hide (((uh HKA).trans hk1).fresh (by omega) (keeps_set3 w1 (w.heap.size + 1 + 1) (.int .i64 x.kind) (.int .i64 x.n) (str x.s)))
 unfold ValA.v
 clear hk1
 go_wp2_with fail
 refine bodyPost_ret (v := .agg #[.int .i64 x.kind, .int .i64 x.n, str x.s]) (by simp [results, go_sem, s0, s1, s2]) rfl ?_
 exact ⟨by rw [uh HXE]; rfl, uh HK⟩
end Go.Proofs.YtbokbdcjpbnodaaGreatDoor
namespace Go.Proofs.YtbokbdcjpbnodaaGreatDoor
open Go.RowKit Go.Maps
set_option maxRecDepth 100000
theorem vcs_one (G : List ValA) : ∀ u ∈ vcs G, u.oneCell' = true := by
 intro u hu
 unfold vcs at hu
 obtain ⟨x, _, hx⟩ := List.mem_flatMap.1 hu
 simp only [ValA.cs, List.mem_cons, List.not_mem_nil, or_false] at hx
 rcases hx with rfl | rfl | rfl <;> rfl
theorem run_appendV_none (w : World) (ty : TypeId) (ao : Option Addr) (n c xc : Nat) (hnc : n ≤ c) : (Builtin.append_ #[26, 26] ty #[.slice ao n c, .slice none 0 xc]).run Tryz.prog w = .ok (.slice ao n c) w := by
 obtain ⟨i0, hi, hz0, hz1, hz2⟩ := info_parts Tryz.info74
 cases ao <;> simp [Builtin.append_, Builtin.lenOf, Builtin.firstCells, storeCells, go_sem, sizeOf, typeInfo, hi, hnc]
theorem run_appendV_any (w : World) (ty : TypeId) (base : Nat) (v : Value) (n : Nat) (xs : List Value) (hown : w.ownsRow base 74 3 v n xs) (u : Value) (G : List ValA) (hu : ValsAt w u G) (h63 : n + G.length ≤ maxLen) (hbytes : n + G.length ≤ 4398046511104) (hbase : base ≤ w.heap.size) :
  ∃ v' w', (Builtin.append_ #[26, 26] ty #[v, u]).run Tryz.prog w = .ok v' w' ∧ w'.ownsRow base 74 3 v' (n + G.length) (xs ++ vcs G) ∧ w.grownBy w' v.ownBlock := by
 obtain ⟨i0, hi, hz0, hz1, hz2⟩ := info_parts Tryz.info74
 obtain ⟨uo, uc, rfl⟩ := RowAt.form hu
 cases uo with
 | none =>
  have h0 : G.length = 0 := by
   rcases Nat.eq_zero_or_pos G.length with h | h
   ·exact h
   ·obtain ⟨b, off, cap, e, _⟩ := RowAt.cells hu h
    simp at e
  have hG : G = [] := List.eq_nil_of_length_eq_zero h0
  subst hG
  obtain ⟨ao, c, rfl⟩ := (rowAt_own hown).form
  have hnc := (rowAt_own hown).room _ _ _ rfl
  exact ⟨_, w, run_appendV_none w ty ao n c uc hnc, by simpa [vcs] using hown, grownBy_refl _ _⟩
 | some ad =>
  obtain ⟨v', w', hr, h2, h3, _⟩ := run_append_own_at (P := Tryz.prog) w base 26 ty 74 i0 _ 3 32 Tryz.underlying26 hi hz0 hz1 hz2 rfl (by omega) v n xs hown ad G.length uc (vcs G) (vcs_length G) (fun j x hx => by
   have h0 : 0 < G.length := by
    have := (List.getElem?_eq_some_iff.1 hx).1
    rw [vcs_length] at this
    omega
   obtain ⟨b, off, cap, e, _, hc⟩ := RowAt.cells hu h0
   simp at e
   obtain ⟨rfl, rfl⟩ := e
   have := hc j x hx
   rw [show (⟨b, off, none⟩ : Addr).add j = ⟨b, off + j, none⟩ by simp only [Addr.add_lit]]
   exact this) (vcs_one G) h63 (by omega) hbase
  exact ⟨v', w', hr, h2, h3⟩
end Go.Proofs.YtbokbdcjpbnodaaGreatDoor
