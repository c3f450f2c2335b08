import Derived.Test.YtiinohibmcefkaaGreatDoorJac
import Derived.Test.YtiinohibmcefkaaGreatDoorJaj
import Derived.Test.YtiinohibmcefkaaGreatDoorKh
import Derived.Test.YtiinohibmcefkaaGreatDoorJae
import Derived.Test.YtiinohibmcefkaaGreatDoorJab
import Derived.Test.YtiinohibmcefkaaGreatDoorJad
import Derived.Test.YtiinohibmcefkaaGreatDoorJaa
namespace Go.Proofs.YtiinohibmcefkaaGreatDoor
open Go.RowKit Go.Maps

def RuleA.named : RuleA → Bool
  | .field => true
  | .has => true
  | _ => false
end Go.Proofs.YtiinohibmcefkaaGreatDoor
namespace Go.Proofs.YtiinohibmcefkaaGreatDoor
open Go.RowKit Go.Maps

theorem name_short {s : Txt} (h : nameB s = true) : s.length ≤ 8 := by
  unfold nameB at h
  simp only [Bool.and_eq_true, decide_eq_true_eq] at h
  exact h.1.1.1.2
theorem kidsB_range (op : Int) (h : 0 ≤ kidsB op) : ∃ m : Nat, op = m ∧ 1 ≤ m ∧ m ≤ 25 ∧ kidsB op ≤ 3 := by
  have h3 : kidsB op ≤ 3 := by
    unfold kidsB
    repeat' split
    all_goals omega
  unfold kidsB at h
  have h25 : 1 ≤ op ∧ op ≤ 25 := by
    repeat' split at h
    all_goals omega
  exact ⟨op.toNat, by omega, by omega, by omega, h3⟩
theorem kindsP_err (S : List FieldA) : ∀ l : EL, (kindsP S l).2 ≠ 0 → kindsP S l = ([], (kindsP S l).2)
  | .nil, h => absurd rfl h
  | .cons op n s kids rest, h => by
    rw [kindsP_cons] at h ⊢
    by_cases h1 : (kindP S op s kids).2 = 0
    · by_cases h2 : (kindsP S rest).2 = 0
      · simp [h1, h2] at h
      · simp [h1, h2]
    · simp [h1]
theorem root_open {op n : Int} {s : Txt} {k : Nat} (h : rootB op n s k = true) : ∃ (m : Nat) (r : RuleA), op = m ∧ m ≤ 25 ∧ (ruleL[m]?).join = some r ∧ r.kids = k ∧ k ≤ 3 ∧ (r.named = true → s.length ≤ 8) := by
  unfold rootB at h
  simp only [Bool.and_eq_true, decide_eq_true_eq] at h
  obtain ⟨h1, h2, h3⟩ := h
  obtain ⟨m, rfl, hm1, hm2, hm3⟩ := kidsB_range op h1
  obtain ⟨r, hr, hk⟩ := ruleL_kids m hm1 hm2
  refine ⟨m, r, rfl, hm2, hr, by omega, by omega, fun hn => ?_⟩
  have hq : ∀ i : Fin 26, ((ruleL[i.val]?).join).map RuleA.named = some true → i.val = 4 ∨ i.val = 5 := by decide
  have h45 := hq ⟨m, by omega⟩ (by show ((ruleL[m]?).join).map RuleA.named = some true; rw [hr]; exact congrArg some hn)
  have h45' : (m : Int) = 4 ∨ (m : Int) = 5 := by
    rcases h45 with h | h
    · exact Or.inl (by have : m = 4 := h; omega)
    · exact Or.inr (by have : m = 5 := h; omega)
  unfold leafB at h3
  rw [if_neg (by omega), if_neg (by omega), if_neg (by omega), if_pos h45'] at h3
  simp only [Bool.and_eq_true, decide_eq_true_eq] at h3
  exact name_short h3.2
/-- One kind more in its place. -/
theorem ks_step {w1 : World} {b : Nat} {c : Array Value} {k n : Nat} {done : List KA} (T : Int) (O : Bool) (hb : w1.heap[b]? = some (.cells c 113 (0, 0))) (hc : c.size = n * 2) (hk : k < n) (hl : done.length = k)
    (hd : ∀ (i : Nat) (f : KA), done[i]? = some f → c[i * 2]? = some (.int .i64 f.t) ∧ c[i * 2 + 1]? = some (.bool f.o)) :
    ∃ c2 : Array Value, ((w1.setCell ⟨b, k * 2, none⟩ (.int .i64 T)).setCell ⟨b, k * 2 + 1, none⟩ (.bool O)).heap[b]? = some (.cells c2 113 (0, 0)) ∧ c2.size = n * 2 ∧ ∀ (i : Nat) (f : KA), (done ++ [⟨T, O⟩])[i]? = some f → c2[i * 2]? = some (.int .i64 f.t) ∧ c2[i * 2 + 1]? = some (.bool f.o) := by
  refine ⟨_, heap_setCell_at (heap_setCell_at hb _) _, by simp [hc], fun i f hf => ?_⟩
  rw [List.getElem?_append] at hf
  split at hf
  · rename_i hi
    obtain ⟨h1, h2⟩ := hd i f hf
    exact ⟨by rw [Array.getElem?_setIfInBounds_ne (by omega), Array.getElem?_setIfInBounds_ne (by omega)]; exact h1, by rw [Array.getElem?_setIfInBounds_ne (by omega), Array.getElem?_setIfInBounds_ne (by omega)]; exact h2⟩
  · rename_i hi
    have hik : i = k := by
      have := (List.getElem?_eq_some_iff.1 hf).1
      simp at this
      omega
    subst hik
    rw [hl, Nat.sub_self] at hf
    simp at hf
    subst hf
    exact ⟨by simp [hc, show i * 2 < n * 2 by omega], by simp [hc, show i * 2 + 1 < n * 2 by omega]⟩
theorem ks_all {w1 : World} {b : Nat} {c : Array Value} {n : Nat} {ks : List KA} (hb : w1.heap[b]? = some (.cells c 113 (0, 0))) (hl : ks.length = n)
    (hd : ∀ (i : Nat) (f : KA), ks[i]? = some f → c[i * 2]? = some (.int .i64 f.t) ∧ c[i * 2 + 1]? = some (.bool f.o)) : KsAt w1 (.slice (some ⟨b, 0, none⟩) n n) ks := by
  subst hl
  refine ⟨⟨_, _, rfl⟩, fun _ => ⟨b, 0, _, rfl, lt_of_block hb, fun j x hx => ?_⟩, fun ao m cap e => by simp at e; omega⟩
  rw [cell_of_blk hb, Nat.zero_add]
  have hj := (List.getElem?_eq_some_iff.1 hx).1
  rw [kcs_length] at hj
  obtain ⟨f, hf⟩ : ∃ f, ks[j / 2]? = some f := ⟨_, List.getElem?_eq_getElem (by omega)⟩
  obtain ⟨h1, h2⟩ := hd _ _ hf
  rcases Nat.mod_two_eq_zero_or_one j with h | h
  · have e : j = j / 2 * 2 := by omega
    rw [e] at hx ⊢
    have := kcs_get ks (j / 2) f 0 hf (by omega)
    rw [Nat.add_zero, hx] at this
    rw [h1, this]; rfl
  · have e : j = j / 2 * 2 + 1 := by omega
    rw [e] at hx ⊢
    have := kcs_get ks (j / 2) f 1 hf (by omega)
    rw [hx] at this
    rw [h2, this]; rfl
theorem list2 {ks : List KA} (h : ks.length = 2) : ∃ a b, ks = [a, b] := by
  match ks, h with
  | [a, b], _ => exact ⟨a, b, rfl⟩
theorem list3 {ks : List KA} (h : ks.length = 3) : ∃ a b c, ks = [a, b, c] := by
  match ks, h with
  | [a, b, c], _ => exact ⟨a, b, c, rfl⟩
theorem ruleP_fit {S : List FieldA} {m : Nat} {r : RuleA} {s : Txt} {ks : List KA} (h : (ruleL[m]?).join = some r) : ruleP S (m : Int) s ks = r.fit S s ks := by
  unfold ruleP
  rw [Int.toNat_natCast, h]

end Go.Proofs.YtiinohibmcefkaaGreatDoor
namespace Go.Proofs.YtiinohibmcefkaaGreatDoor
open Go.RowKit Go.Maps

/-- The number of a field. -/
def idxF (S : List FieldA) (nm : Txt) : Option Nat := S.findIdx? fun f => decide (f.name = nm)
end Go.Proofs.YtiinohibmcefkaaGreatDoor
namespace Go.Proofs.YtiinohibmcefkaaGreatDoor
open Go.RowKit Go.Maps

/-- A row as the closures take it. -/
def Rw (S : List FieldA) (h : Bool) (vals : List ValA) : Prop := (h = true → vals.length = S.length) ∧ ∀ v ∈ vals, v.s.length ≤ 20
/-- Where a field stands in the records. -/
def placeP (S : List FieldA) (nm : Txt) : Nat := (idxF S nm).getD 0
/-- What a field is worth on a row. -/
def fieldV (S : List FieldA) (h : Bool) (vals : List ValA) (nm : Txt) : ValA := ((if h then vals else zeros S)[placeP S nm]?).getD zV
def kV (ks : List ValA) (i : Nat) : ValA := ks.getD i zV
/-- An operation on the values of its kids. -/
def opV (op : Int) (ks : List ValA) : ValA :=
  if op = 7 then truV (decide ((kV ks 0).n = 0)) else if op = 8 then numV (wrap64 (-(kV ks 0).n))
  else if op = 9 then numV (wrap64 ((kV ks 0).n + (kV ks 1).n)) else if op = 10 then numV (wrap64 ((kV ks 0).n - (kV ks 1).n)) else if op = 11 then numV (wrap64 ((kV ks 0).n * (kV ks 1).n))
  else if op = 12 then truV (decide (ordV (kV ks 0) (kV ks 1) < 0)) else if op = 13 then truV (decide (ordV (kV ks 0) (kV ks 1) ≤ 0))
  else if op = 14 then truV (decide (0 < ordV (kV ks 0) (kV ks 1))) else if op = 15 then truV (decide (0 ≤ ordV (kV ks 0) (kV ks 1)))
  else if op = 16 then truV (decide (kV ks 0 = kV ks 1)) else if op = 17 then truV (!decide (kV ks 0 = kV ks 1))
  else if op = 18 then truV (decide ((kV ks 0).n = 1) && decide ((kV ks 1).n = 1)) else if op = 19 then truV (decide ((kV ks 0).n = 1) || decide ((kV ks 1).n = 1))
  else if op = 20 then (if (kV ks 0).kind = 0 then kV ks 1 else kV ks 0)
  else if op = 21 then numV (min (kV ks 0).n (kV ks 1).n) else if op = 22 then numV (max (kV ks 0).n (kV ks 1).n)
  else if op = 23 then numV ((kV ks 0).s.length : Int) else if op = 24 then bytV (catT (kV ks 0).s (kV ks 1).s)
  else if (kV ks 0).n = 1 then kV ks 1 else kV ks 2
def leafV (S : List FieldA) (h : Bool) (vals : List ValA) (op n : Int) (s : Txt) : ValA :=
  if op = 1 then numV n else if op = 2 then truV (decide (n = 1)) else if op = 3 then bytV s else if op = 4 then fieldV S h vals s
  else if op = 5 then truV (!decide ((fieldV S h vals s).kind = 0)) else truV h
/-- The values of expressions on a row. -/
def valsP (S : List FieldA) (h : Bool) (vals : List ValA) : EL → List ValA
  | .nil => []
  | .cons op n s kids rest => (if op ≤ 6 then leafV S h vals op n s else opV op (valsP S h vals kids)) :: valsP S h vals rest
def nodeV (S : List FieldA) (op n : Int) (s : Txt) (kids : EL) (h : Bool) (vals : List ValA) : ValA := if op ≤ 6 then leafV S h vals op n s else opV op (valsP S h vals kids)
theorem valsP_cons (S : List FieldA) (h : Bool) (vals : List ValA) (op n : Int) (s : Txt) (kids rest : EL) : valsP S h vals (.cons op n s kids rest) = nodeV S op n s kids h vals :: valsP S h vals rest := rfl
/-- The row with another value of a field. -/
def setV (r : Bool × List ValA) (i : Nat) (v : ValA) : Bool × List ValA := if r.1 then (true, r.2.set i v) else r
/-- What += (2), min= (3) and max= (4) make. -/
def joinV (op : Int) (f e : ValA) : ValA := if f.kind = 0 then e else if op = 2 then numV (wrap64 (f.n + e.n)) else if op = 3 then numV (min f.n e.n) else numV (max f.n e.n)
def headV (S : List FieldA) (r : Bool × List ValA) (ex : EL) : ValA := kV (valsP S r.1 r.2 ex) 0
def runS (S : List FieldA) : SL → Bool × List ValA → Bool × List ValA
  | .nil, r => r
  | .cons op f ex th el rest, r => runS S rest
      (if op = 6 then (if r.1 then r else (true, zeros S)) else if op = 7 then (false, []) else if op = 5 then setV r (placeP S f) zV
       else if op = 1 then setV r (placeP S f) (headV S r ex) else if op = 2 ∨ op = 3 ∨ op = 4 then setV r (placeP S f) (joinV op (fieldV S r.1 r.2 f) (headV S r ex))
       else if (headV S r ex).n = 1 then runS S th r else runS S el r)
/-- What one statement makes of a row. -/
def stmtS (S : List FieldA) (op : Int) (f : Txt) (ex : EL) (th el : SL) (r : Bool × List ValA) : Bool × List ValA :=
  if op = 6 then (if r.1 then r else (true, zeros S)) else if op = 7 then (false, []) else if op = 5 then setV r (placeP S f) zV
  else if op = 1 then setV r (placeP S f) (headV S r ex) else if op = 2 ∨ op = 3 ∨ op = 4 then setV r (placeP S f) (joinV op (fieldV S r.1 r.2 f) (headV S r ex))
  else if (headV S r ex).n = 1 then runS S th r else runS S el r
theorem runS_cons (S : List FieldA) (op : Int) (f : Txt) (ex : EL) (th el rest : SL) (r : Bool × List ValA) : runS S (.cons op f ex th el rest) r = runS S rest (stmtS S op f ex th el r) := rfl
theorem idxF_lt {S : List FieldA} {nm : Txt} {i : Nat} (h : idxF S nm = some i) : i < S.length := by
  unfold idxF at h
  have := List.findIdx?_eq_some_iff_getElem.1 h
  exact this.1
theorem placeP_lt {S : List FieldA} (nm : Txt) (h : 0 < S.length) : placeP S nm < S.length := by
  unfold placeP
  cases hi : idxF S nm with
  | none => simpa using h
  | some i => exact idxF_lt hi
theorem zeros_short {S : List FieldA} : ∀ v ∈ zeros S, v.s.length ≤ 20 := by
  intro v hv
  obtain ⟨f, _, rfl⟩ := List.mem_map.1 hv
  unfold zeroV
  split <;> simp
theorem get_short {l : List ValA} (h : ∀ v ∈ l, v.s.length ≤ 20) (i : Nat) : ((l[i]?).getD zV).s.length ≤ 20 := by
  cases hi : l[i]? with
  | none => simp [zV]
  | some v => exact h v (List.mem_of_getElem? hi)
theorem kV_short {l : List ValA} (h : ∀ v ∈ l, v.s.length ≤ 20) (i : Nat) : (kV l i).s.length ≤ 20 := by
  unfold kV
  rw [List.getD_eq_getElem?_getD]
  exact get_short h i
theorem fieldV_short {S : List FieldA} {h : Bool} {vals : List ValA} (hr : Rw S h vals) (nm : Txt) : (fieldV S h vals nm).s.length ≤ 20 := by
  unfold fieldV
  cases h with
  | true => exact get_short hr.2 _
  | false => exact get_short zeros_short _
theorem tru_short (b : Bool) : (truV b).s.length ≤ 20 := by simp [truV]
theorem num_short (n : Int) : (numV n).s.length ≤ 20 := by simp [numV]
theorem byt_short {s : Txt} (h : s.length ≤ 20) : (bytV s).s.length ≤ 20 := h
theorem ite_short {c : Prop} [Decidable c] {a b : ValA} (ha : c → a.s.length ≤ 20) (hb : ¬ c → b.s.length ≤ 20) : (if c then a else b).s.length ≤ 20 := by
  split
  · exact ha ‹_›
  · exact hb ‹_›
theorem opV_short (op : Int) {ks : List ValA} (h : ∀ v ∈ ks, v.s.length ≤ 20) : (opV op ks).s.length ≤ 20 := by
  have k0 := kV_short h 0
  have k1 := kV_short h 1
  have k2 := kV_short h 2
  unfold opV
  repeat' first | exact tru_short _ | exact num_short _ | exact byt_short (cat_len _ _) | exact k0 | exact k1 | exact k2 | (refine ite_short (fun _ => ?_) (fun _ => ?_))
theorem leafV_short {S : List FieldA} {h : Bool} {vals : List ValA} (hr : Rw S h vals) (op n : Int) {s : Txt} (hs : op = 3 → s.length ≤ 20) : (leafV S h vals op n s).s.length ≤ 20 := by
  unfold leafV
  repeat' first | exact tru_short _ | exact num_short _ | exact byt_short (hs ‹_›) | exact fieldV_short hr _ | (refine ite_short (fun _ => ?_) (fun _ => ?_))
theorem root_text {op n : Int} {s : Txt} {k : Nat} (h : rootB op n s k = true) : op = 3 → s.length ≤ 20 := by
  rintro rfl
  unfold rootB at h
  simp only [Bool.and_eq_true] at h
  have := h.2.2
  unfold leafB at this
  simp only [show ¬ (3 : Int) = 1 by decide, show ¬ (3 : Int) = 2 by decide, if_false, if_true, Bool.and_eq_true, decide_eq_true_eq] at this
  exact this.2
theorem valsP_short {S : List FieldA} {h : Bool} {vals : List ValA} (hr : Rw S h vals) : ∀ l : EL, wellE l = true → ∀ v ∈ valsP S h vals l, v.s.length ≤ 20
  | .nil, _ => by intro v hv; simp [valsP] at hv
  | .cons op n s kids rest, hw => by
    simp only [wellE, Bool.and_eq_true] at hw
    intro v hv
    rw [valsP_cons] at hv
    rcases List.mem_cons.1 hv with rfl | hv
    · unfold nodeV
      split
      · exact leafV_short hr _ _ (root_text hw.1)
      · exact opV_short _ (valsP_short hr kids hw.2.1)
    · exact valsP_short hr rest hw.2.2 v hv
theorem headV_short {S : List FieldA} {r : Bool × List ValA} (hr : Rw S r.1 r.2) {ex : EL} (hw : wellE ex = true) : (headV S r ex).s.length ≤ 20 := kV_short (valsP_short hr ex hw) 0
theorem setV_rw {S : List FieldA} {r : Bool × List ValA} (hr : Rw S r.1 r.2) (i : Nat) {v : ValA} (hv : v.s.length ≤ 20) : Rw S (setV r i v).1 (setV r i v).2 := by
  unfold setV
  split
  · rename_i h
    refine ⟨fun _ => by simpa using hr.1 h, fun x hx => ?_⟩
    rcases List.mem_or_eq_of_mem_set hx with h1 | rfl
    · exact hr.2 x h1
    · exact hv
  · exact hr
theorem joinV_short {op : Int} {f e : ValA} (he : e.s.length ≤ 20) : (joinV op f e).s.length ≤ 20 := by
  unfold joinV
  repeat' first | exact he | exact num_short _ | (refine ite_short (fun _ => ?_) (fun _ => ?_))
theorem new_rw (S : List FieldA) : Rw S true (zeros S) := ⟨fun _ => zeros_length S, zeros_short⟩
theorem gone_rw (S : List FieldA) : Rw S false [] := ⟨by simp, by simp⟩
theorem runS_rw {S : List FieldA} : ∀ (l : SL) (r : Bool × List ValA), wellS l = true → Rw S r.1 r.2 → Rw S (runS S l r).1 (runS S l r).2
  | .nil, _, _, hr => hr
  | .cons op f ex th el rest, r, hw, hr => by
    simp only [wellS, Bool.and_eq_true] at hw
    rw [runS_cons]
    refine runS_rw rest _ hw.2.2.2.2 ?_
    unfold stmtS
    have hh := headV_short hr hw.2.1
    repeat' split
    all_goals first | exact hr | exact new_rw S | exact gone_rw S | exact setV_rw hr _ (by simp [zV]) | exact setV_rw hr _ hh | exact setV_rw hr _ (joinV_short hh) | exact runS_rw th r hw.2.2.1 hr | exact runS_rw el r hw.2.2.2.1 hr
end Go.Proofs.YtiinohibmcefkaaGreatDoor



namespace Go.Proofs.YtiinohibmcefkaaGreatDoor
open Go.RowKit Go.Maps

theorem vcs_setk {R Z : List ValA} {t : Int} : (vcs (R ++ zeroVal :: Z)).toArray.setIfInBounds (R.length * 3) (.int .i64 t) = (vcs (R ++ ⟨t, 0, []⟩ :: Z)).toArray := by
  have hv : ∀ y : ValA, vcs (R ++ y :: Z) = vcs R ++ (y.cs ++ vcs Z) := fun y => by simp [vcs]
  have hl := vcs_length R
  rw [hv, hv, ← hl]
  apply Array.ext'
  simp [ValA.cs, zeroVal]
def zeroTo (l : List FieldA) (k : Nat) : List ValA := zeros (l.take k) ++ List.replicate (l.length - k) zeroVal
theorem zeroTo_zero (l : List FieldA) : zeroTo l 0 = List.replicate l.length zeroVal := by simp [zeroTo, zeros]
theorem zeroTo_full (l : List FieldA) : zeroTo l l.length = zeros l := by simp [zeroTo]
theorem zeroTo_at {l : List FieldA} {k : Nat} {f : FieldA} (h : l[k]? = some f) : zeroTo l k = zeros (l.take k) ++ zeroVal :: List.replicate (l.length - (k + 1)) zeroVal ∧ zeroTo l (k + 1) = zeros (l.take k) ++ zeroV f :: List.replicate (l.length - (k + 1)) zeroVal := by
  have hl := get_lt h
  unfold zeroTo
  constructor
  · rw [show l.length - k = (l.length - (k + 1)) + 1 by omega, List.replicate_succ]
  · rw [take_snoc _ _ _ h, zeros_snoc, List.append_assoc]
    rfl
theorem zeros_take_len {l : List FieldA} {k : Nat} (h : k ≤ l.length) : (zeros (l.take k)).length = k := by rw [zeros_length, List.length_take, Nat.min_eq_left h]

set_option maxRecDepth 100000 in
set_option maxHeartbeats 2000000 in
theorem zero_v (l : List FieldA) (v : Value) (w : World) (h : FldsAt w v l) (hl8 : l.length ≤ 8) :
    Calls Tryz.prog 116 #[.agg #[v]] w fun e w' => ∃ g, e = .returned (.slice (some ⟨g, 0, none⟩) l.length l.length) ∧ w.heap.size ≤ g ∧ w'.heap[g]? = some (.cells (vcs (zeros l)).toArray 41 (0, 0)) ∧ Keeps (fun _ => False) w w' := by
  obtain ⟨ao, cap, rfl⟩ := RowAt.form h
  obtain ⟨HB, hb, hbc⟩ := boxed w #[.slice ao l.length cap] 24
  have hp := hbc 0 (.slice ao l.length cap) rfl
  have HF := hide (h.keepF (unhide HB))
  clear hbc h
  have hmk := run_mkv l.length (by omega) (w.alloc (.cells #[.slice ao l.length cap] 24))
  have HG := hide (heap_alloc_new (w.alloc (.cells #[.slice ao l.length cap] 24)) (.cells (vcs (List.replicate l.length zeroVal)).toArray 41))
  have HA : Hid (Keeps (fun q => w.heap.size + 1 ≤ q) (w.alloc (.cells #[.slice ao l.length cap] 24)) ((w.alloc (.cells #[.slice ao l.length cap] 24)).alloc (.cells (vcs (List.replicate l.length zeroVal)).toArray 41))) := (Keeps.refl _ _).alloc _
  have hS3 : (w.alloc (.cells #[.slice ao l.length cap] 24)).heap.size = w.heap.size + 1 := by simp
  have hS4 : w.heap.size + 1 < ((w.alloc (.cells #[.slice ao l.length cap] 24)).alloc (.cells (vcs (List.replicate l.length zeroVal)).toArray 41)).heap.size := by simp
  have hp4 := ((unhide HA).cell (o := 0) hb (by omega)).trans hp
  rw [hS3] at hmk HG
  have HS3 := hide hS3
  clear hS3
  go_enter Tryz.func116, Tryz.ntmps116
  go_wp2_with fail
  generalize (w.alloc (.cells #[.slice ao l.length cap] 24)).alloc (.cells (vcs (List.replicate l.length zeroVal)).toArray 41) = w4 at *
  generalize w.alloc (.cells #[.slice ao l.length cap] 24) = w3 at *
  clear hmk
  go_loopw [13] (fun i wr => ∃ (k : Nat), k ≤ l.length ∧ i = .int .i64 k ∧ Hid (wr.heap[w.heap.size + 1]? = some (.cells (vcs (zeroTo l k)).toArray 41 (0, 0))) ∧ Keeps (fun q => w.heap.size + 1 ≤ q) w4 wr) (fun i _ => l.length - (intOf i).toNat)
  case atStart => exact ⟨0, Nat.zero_le _, rfl, by show _ = _; rw [zeroTo_zero]; exact unhide HG, Keeps.refl _ _⟩
  case round =>
    obtain ⟨k, hk, rfl, HBk, hkp⟩ := hrel
    have HK := hide ((unhide HA).trans hkp)
    have HKP := hide hkp
    have hS5 : w.heap.size + 1 < wr.heap.size := Nat.lt_of_lt_of_le hS4 hkp.size
    clear hkp
    by_cases hlt : k < l.length
    · obtain ⟨f, hf⟩ : ∃ f, l[k]? = some f := ⟨_, List.getElem?_eq_getElem hlt⟩
      obtain ⟨b5, off5, c5, e5, hbl, hc⟩ := (unhide HF).cells (by omega)
      have hbl2 : ¬ w.heap.size + 1 ≤ b5 := by have := unhide HS3; omega
      simp at e5
      obtain ⟨rfl, rfl⟩ := e5
      have c0 := ((unhide HK).cell hbl hbl2).trans (hc k f hf).1
      have c1 := ((unhide HK).cell hbl hbl2).trans (hc k f hf).2.1
      have c2 := ((unhide HK).cell hbl hbl2).trans (hc k f hf).2.2
      have HZ := hide (zeroTo_at hf)
      have HKN := hide ((unhide HKP).alloc (.cells #[str f.name, .int .i64 f.type, .bool f.opt] 47))
      have HBN : (wr.alloc (.cells #[str f.name, .int .i64 f.type, .bool f.opt] 47)).heap[w.heap.size + 1]? = some (.cells (vcs (zeros (l.take k) ++ zeroVal :: List.replicate (l.length - (k + 1)) zeroVal)).toArray 41 (0, 0)) := by
        rw [← (unhide HZ).1]
        exact (Below.heap_alloc _ _ _ hS5).trans (unhide HBk)
      have HRL := hide (zeros_take_len hk)
      obtain ⟨d0, d1, d2, g0, g1, g2⟩ := cells3 HBN (unhide HRL)
      have HN := hide HBN
      have i5 : (k : Int) < (l.length : Int) := by omega
      have s0 : w.heap.size + 1 < (wr.alloc (.cells #[str f.name, .int .i64 f.type, .bool f.opt] 47)).heap.size := lt_of_block HBN
      clear hc hf HBN
      cases hfo : f.opt with
      | true =>
        rw [hfo] at c2 HKN HN d0 d1 d2 g0 g1 g2 s0
        have HE : Hid (zeroV f = zeroVal) := by show _ = _; unfold zeroV; rw [if_pos hfo]; rfl
        go_wp2_with fail
        go_roundw
        case rel => exact ⟨k + 1, by omega, by go_num, by show _ = _; rw [(unhide HZ).2, unhide HE]; exact unhide HN, unhide HKN⟩
        case measure => simp [intOf]; omega
      | false =>
        rw [hfo] at c2 HKN HN d0 d1 d2 g0 g1 g2 s0
        have HE : Hid (zeroV f = ⟨f.type, 0, []⟩) := by show _ = _; unfold zeroV; rw [if_neg (by simp [hfo])]
        go_wp2_with fail
        go_roundw
        case rel =>
          refine ⟨k + 1, by omega, by go_num, ?_, ((unhide HKP).then (keeps_set _ _ _ _) (fun i _ e => by omega)).alloc _⟩
          show _ = _
          rw [(unhide HZ).2, unhide HE, ← vcs_setk, unhide HRL, Below.heap_alloc _ _ _ (by simpa using hS5), ← (unhide HZ).1]
          exact heap_setCell_at (unhide HBk) _
        case measure => simp [intOf]; omega
    · obtain rfl : k = l.length := by omega
      go_wp2_with fail
      go_ret
      refine ⟨_, rfl, by omega, ?_, (unhide HB).narrow (F := fun q => w.heap.size + 1 ≤ q) (unhide HK) (fun q hq => by omega)⟩
      have := unhide HBk
      rw [zeroTo_full] at this
      exact this

set_option maxRecDepth 100000 in
theorem val_zero (l : List FieldA) (v : Value) (w : World) (hT : Types w) (h : FldsAt w v l) :
    Calls Tryz.prog 74 #[.agg #[v]] w fun e w' => ∃ v', e = .returned v' ∧ w'.ownsRow w.heap.size 41 3 v' (zeroB l).length (vcs (zeroB l)) ∧ Keeps (fun _ => False) w w' := by
  obtain ⟨ao, cap, rfl⟩ := RowAt.form h
  obtain ⟨HB, hb, hbc⟩ := boxed w #[.slice ao l.length cap] 24
  have hp := hbc 0 (.slice ao l.length cap) rfl
  have HF := hide (h.keepF (unhide HB))
  have HS := hide (checkSchema_v l _ _ (hT.keepF (unhide HB)) (unhide HF))
  clear hbc h hT
  go_enter Tryz.func74, Tryz.ntmps74
  go_wp2_with fail
  refine (unhide HS).mono ?_
  rintro e w2 ⟨rfl, hk2⟩
  have hp2 := (hk2.cell (o := 0) hb id).trans hp
  have HF2 := hide ((unhide HF).keepF hk2)
  have HB2 := hide ((unhide HB).trans hk2)
  clear HS HF HB hk2 hp
  rcases errS_eq l with ⟨hs, he⟩ | ⟨hs, he⟩
  · rw [he]
    have HZ : Hid (zeroB l = zeros l) := by show _ = _; simp [zeroB, hs]
    have HQ := hide (zero_v l _ _ (unhide HF2) (schemaB_len hs).2)
    have hl8 := (schemaB_len hs).2
    clear hs he
    go_wp2_with fail
    refine (unhide HQ).mono ?_
    rintro e w4 ⟨g, rfl, hg, hblk, hk4⟩
    have HG := hide hg
    have HBL := hide hblk
    have HK4 := hide hk4
    clear hg hblk hk4 HQ
    go_wp2_with fail
    go_ret
    refine ⟨_, rfl, ?_, (unhide HB2).trans (unhide HK4)⟩
    rw [unhide HZ]
    exact owns_vals (Nat.le_trans (unhide HB2).size (unhide HG)) (by omega) (zeros_length l) (unhide HBL)
  · rw [he]
    have HZ : Hid (zeroB l = []) := by show _ = _; simp [zeroB, hs]
    clear hs he
    go_wp2_with fail
    go_ret
    refine ⟨_, rfl, ?_, unhide HB2⟩
    rw [unhide HZ]
    exact World.ownsRow_nil _ w.heap.size 41 3
end Go.Proofs.YtiinohibmcefkaaGreatDoor
