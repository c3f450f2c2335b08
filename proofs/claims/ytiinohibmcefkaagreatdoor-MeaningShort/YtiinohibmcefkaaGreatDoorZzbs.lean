import Derived.Test.YtiinohibmcefkaaGreatDoorZzad
import Derived.Test.YtiinohibmcefkaaGreatDoorZzay
namespace Go.Proofs.YtiinohibmcefkaaGreatDoor
open Go.RowKit Go.Maps

/-- A row as the closures take it. -/
def Rw (S : List FieldA) (h : Bool) (vals : List ValA) : Prop := (h = true → vals.length = S.length) ∧ ∀ v ∈ vals, v.s.length ≤ 20
/-- Where a field stands in the records. -/
def placeP (S : List FieldA) (nm : Txt) : Nat := (idxF S nm).getD 0
/-- What a field is worth on a row. -/
def fieldV (S : List FieldA) (h : Bool) (vals : List ValA) (nm : Txt) : ValA := ((if h then vals else zeros S)[placeP S nm]?).getD zV
def kV (ks : List ValA) (i : Nat) : ValA := ks.getD i zV
/-- An operation on the values of its kids. -/
def opV (op : Int) (ks : List ValA) : ValA :=
  if op = 7 then truV (decide ((kV ks 0).n = 0)) else if op = 8 then numV (wrap64 (-(kV ks 0).n))
  else if op = 9 then numV (wrap64 ((kV ks 0).n + (kV ks 1).n)) else if op = 10 then numV (wrap64 ((kV ks 0).n - (kV ks 1).n)) else if op = 11 then numV (wrap64 ((kV ks 0).n * (kV ks 1).n))
  else if op = 12 then truV (decide (ordV (kV ks 0) (kV ks 1) < 0)) else if op = 13 then truV (decide (ordV (kV ks 0) (kV ks 1) ≤ 0))
  else if op = 14 then truV (decide (0 < ordV (kV ks 0) (kV ks 1))) else if op = 15 then truV (decide (0 ≤ ordV (kV ks 0) (kV ks 1)))
  else if op = 16 then truV (decide (kV ks 0 = kV ks 1)) else if op = 17 then truV (!decide (kV ks 0 = kV ks 1))
  else if op = 18 then truV (decide ((kV ks 0).n = 1) && decide ((kV ks 1).n = 1)) else if op = 19 then truV (decide ((kV ks 0).n = 1) || decide ((kV ks 1).n = 1))
  else if op = 20 then (if (kV ks 0).kind = 0 then kV ks 1 else kV ks 0)
  else if op = 21 then numV (min (kV ks 0).n (kV ks 1).n) else if op = 22 then numV (max (kV ks 0).n (kV ks 1).n)
  else if op = 23 then numV ((kV ks 0).s.length : Int) else if op = 24 then bytV (catT (kV ks 0).s (kV ks 1).s)
  else if (kV ks 0).n = 1 then kV ks 1 else kV ks 2
def leafV (S : List FieldA) (h : Bool) (vals : List ValA) (op n : Int) (s : Txt) : ValA :=
  if op = 1 then numV n else if op = 2 then truV (decide (n = 1)) else if op = 3 then bytV s else if op = 4 then fieldV S h vals s
  else if op = 5 then truV (!decide ((fieldV S h vals s).kind = 0)) else truV h
/-- The values of expressions on a row. -/
def valsP (S : List FieldA) (h : Bool) (vals : List ValA) : EL → List ValA
  | .nil => []
  | .cons op n s kids rest => (if op ≤ 6 then leafV S h vals op n s else opV op (valsP S h vals kids)) :: valsP S h vals rest
def nodeV (S : List FieldA) (op n : Int) (s : Txt) (kids : EL) (h : Bool) (vals : List ValA) : ValA := if op ≤ 6 then leafV S h vals op n s else opV op (valsP S h vals kids)
theorem valsP_cons (S : List FieldA) (h : Bool) (vals : List ValA) (op n : Int) (s : Txt) (kids rest : EL) : valsP S h vals (.cons op n s kids rest) = nodeV S op n s kids h vals :: valsP S h vals rest := rfl
/-- The row with another value of a field. -/
def setV (r : Bool × List ValA) (i : Nat) (v : ValA) : Bool × List ValA := if r.1 then (true, r.2.set i v) else r
/-- What += (2), min= (3) and max= (4) make. -/
def joinV (op : Int) (f e : ValA) : ValA := if f.kind = 0 then e else if op = 2 then numV (wrap64 (f.n + e.n)) else if op = 3 then numV (min f.n e.n) else numV (max f.n e.n)
def headV (S : List FieldA) (r : Bool × List ValA) (ex : EL) : ValA := kV (valsP S r.1 r.2 ex) 0
def runS (S : List FieldA) : SL → Bool × List ValA → Bool × List ValA
  | .nil, r => r
  | .cons op f ex th el rest, r => runS S rest
      (if op = 6 then (if r.1 then r else (true, zeros S)) else if op = 7 then (false, []) else if op = 5 then setV r (placeP S f) zV
       else if op = 1 then setV r (placeP S f) (headV S r ex) else if op = 2 ∨ op = 3 ∨ op = 4 then setV r (placeP S f) (joinV op (fieldV S r.1 r.2 f) (headV S r ex))
       else if (headV S r ex).n = 1 then runS S th r else runS S el r)
/-- What one statement makes of a row. -/
def stmtS (S : List FieldA) (op : Int) (f : Txt) (ex : EL) (th el : SL) (r : Bool × List ValA) : Bool × List ValA :=
  if op = 6 then (if r.1 then r else (true, zeros S)) else if op = 7 then (false, []) else if op = 5 then setV r (placeP S f) zV
  else if op = 1 then setV r (placeP S f) (headV S r ex) else if op = 2 ∨ op = 3 ∨ op = 4 then setV r (placeP S f) (joinV op (fieldV S r.1 r.2 f) (headV S r ex))
  else if (headV S r ex).n = 1 then runS S th r else runS S el r
theorem runS_cons (S : List FieldA) (op : Int) (f : Txt) (ex : EL) (th el rest : SL) (r : Bool × List ValA) : runS S (.cons op f ex th el rest) r = runS S rest (stmtS S op f ex th el r) := rfl
theorem idxF_lt {S : List FieldA} {nm : Txt} {i : Nat} (h : idxF S nm = some i) : i < S.length := by
  unfold idxF at h
  have := List.findIdx?_eq_some_iff_getElem.1 h
  exact this.1
theorem placeP_lt {S : List FieldA} (nm : Txt) (h : 0 < S.length) : placeP S nm < S.length := by
  unfold placeP
  cases hi : idxF S nm with
  | none => simpa using h
  | some i => exact idxF_lt hi
theorem zeros_short {S : List FieldA} : ∀ v ∈ zeros S, v.s.length ≤ 20 := by
  intro v hv
  obtain ⟨f, _, rfl⟩ := List.mem_map.1 hv
  unfold zeroV
  split <;> simp
theorem get_short {l : List ValA} (h : ∀ v ∈ l, v.s.length ≤ 20) (i : Nat) : ((l[i]?).getD zV).s.length ≤ 20 := by
  cases hi : l[i]? with
  | none => simp [zV]
  | some v => exact h v (List.mem_of_getElem? hi)
theorem kV_short {l : List ValA} (h : ∀ v ∈ l, v.s.length ≤ 20) (i : Nat) : (kV l i).s.length ≤ 20 := by
  unfold kV
  rw [List.getD_eq_getElem?_getD]
  exact get_short h i
theorem fieldV_short {S : List FieldA} {h : Bool} {vals : List ValA} (hr : Rw S h vals) (nm : Txt) : (fieldV S h vals nm).s.length ≤ 20 := by
  unfold fieldV
  cases h with
  | true => exact get_short hr.2 _
  | false => exact get_short zeros_short _
theorem tru_short (b : Bool) : (truV b).s.length ≤ 20 := by simp [truV]
theorem num_short (n : Int) : (numV n).s.length ≤ 20 := by simp [numV]
theorem byt_short {s : Txt} (h : s.length ≤ 20) : (bytV s).s.length ≤ 20 := h
theorem ite_short {c : Prop} [Decidable c] {a b : ValA} (ha : c → a.s.length ≤ 20) (hb : ¬ c → b.s.length ≤ 20) : (if c then a else b).s.length ≤ 20 := by
  split
  · exact ha ‹_›
  · exact hb ‹_›
theorem opV_short (op : Int) {ks : List ValA} (h : ∀ v ∈ ks, v.s.length ≤ 20) : (opV op ks).s.length ≤ 20 := by
  have k0 := kV_short h 0
  have k1 := kV_short h 1
  have k2 := kV_short h 2
  unfold opV
  repeat' first | exact tru_short _ | exact num_short _ | exact byt_short (cat_len _ _) | exact k0 | exact k1 | exact k2 | (refine ite_short (fun _ => ?_) (fun _ => ?_))
theorem leafV_short {S : List FieldA} {h : Bool} {vals : List ValA} (hr : Rw S h vals) (op n : Int) {s : Txt} (hs : op = 3 → s.length ≤ 20) : (leafV S h vals op n s).s.length ≤ 20 := by
  unfold leafV
  repeat' first | exact tru_short _ | exact num_short _ | exact byt_short (hs ‹_›) | exact fieldV_short hr _ | (refine ite_short (fun _ => ?_) (fun _ => ?_))
theorem root_text {op n : Int} {s : Txt} {k : Nat} (h : rootB op n s k = true) : op = 3 → s.length ≤ 20 := by
  rintro rfl
  unfold rootB at h
  simp only [Bool.and_eq_true] at h
  have := h.2.2
  unfold leafB at this
  simp only [show ¬ (3 : Int) = 1 by decide, show ¬ (3 : Int) = 2 by decide, if_false, if_true, Bool.and_eq_true, decide_eq_true_eq] at this
  exact this.2
theorem valsP_short {S : List FieldA} {h : Bool} {vals : List ValA} (hr : Rw S h vals) : ∀ l : EL, wellE l = true → ∀ v ∈ valsP S h vals l, v.s.length ≤ 20
  | .nil, _ => by intro v hv; simp [valsP] at hv
  | .cons op n s kids rest, hw => by
    simp only [wellE, Bool.and_eq_true] at hw
    intro v hv
    rw [valsP_cons] at hv
    rcases List.mem_cons.1 hv with rfl | hv
    · unfold nodeV
      split
      · exact leafV_short hr _ _ (root_text hw.1)
      · exact opV_short _ (valsP_short hr kids hw.2.1)
    · exact valsP_short hr rest hw.2.2 v hv
theorem headV_short {S : List FieldA} {r : Bool × List ValA} (hr : Rw S r.1 r.2) {ex : EL} (hw : wellE ex = true) : (headV S r ex).s.length ≤ 20 := kV_short (valsP_short hr ex hw) 0
theorem setV_rw {S : List FieldA} {r : Bool × List ValA} (hr : Rw S r.1 r.2) (i : Nat) {v : ValA} (hv : v.s.length ≤ 20) : Rw S (setV r i v).1 (setV r i v).2 := by
  unfold setV
  split
  · rename_i h
    refine ⟨fun _ => by simpa using hr.1 h, fun x hx => ?_⟩
    rcases List.mem_or_eq_of_mem_set hx with h1 | rfl
    · exact hr.2 x h1
    · exact hv
  · exact hr
theorem joinV_short {op : Int} {f e : ValA} (he : e.s.length ≤ 20) : (joinV op f e).s.length ≤ 20 := by
  unfold joinV
  repeat' first | exact he | exact num_short _ | (refine ite_short (fun _ => ?_) (fun _ => ?_))
theorem new_rw (S : List FieldA) : Rw S true (zeros S) := ⟨fun _ => zeros_length S, zeros_short⟩
theorem gone_rw (S : List FieldA) : Rw S false [] := ⟨by simp, by simp⟩
theorem runS_rw {S : List FieldA} : ∀ (l : SL) (r : Bool × List ValA), wellS l = true → Rw S r.1 r.2 → Rw S (runS S l r).1 (runS S l r).2
  | .nil, _, _, hr => hr
  | .cons op f ex th el rest, r, hw, hr => by
    simp only [wellS, Bool.and_eq_true] at hw
    rw [runS_cons]
    refine runS_rw rest _ hw.2.2.2.2 ?_
    unfold stmtS
    have hh := headV_short hr hw.2.1
    repeat' split
    all_goals first | exact hr | exact new_rw S | exact gone_rw S | exact setV_rw hr _ (by simp [zV]) | exact setV_rw hr _ hh | exact setV_rw hr _ (joinV_short hh) | exact runS_rw th r hw.2.2.1 hr | exact runS_rw el r hw.2.2.2.1 hr
end Go.Proofs.YtiinohibmcefkaaGreatDoor
