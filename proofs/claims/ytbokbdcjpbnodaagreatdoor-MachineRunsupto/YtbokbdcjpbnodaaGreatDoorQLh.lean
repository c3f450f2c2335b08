import Derived.Test.YtbokbdcjpbnodaaGreatDoorQLc
import Derived.Test.YtbokbdcjpbnodaaGreatDoorQLd
import Derived.Test.YtbokbdcjpbnodaaGreatDoorQLk
import Derived.Test.YtbokbdcjpbnodaaGreatDoorQLe
import Derived.Test.YtbokbdcjpbnodaaGreatDoorQLf
import Derived.Test.YtbokbdcjpbnodaaGreatDoorQLg
import Derived.Test.YtbokbdcjpbnodaaGreatDoorQKg
import Derived.Test.YtbokbdcjpbnodaaGreatDoorQLa
import Derived.Test.YtbokbdcjpbnodaaGreatDoorQJt
import Derived.Test.YtbokbdcjpbnodaaGreatDoorQJv
import Derived.Test.YtbokbdcjpbnodaaGreatDoorQKd
import Derived.Test.YtbokbdcjpbnodaaGreatDoorQKf
import Derived.Test.YtbokbdcjpbnodaaGreatDoorQKc
import Derived.Test.YtbokbdcjpbnodaaGreatDoorQXa
import Derived.Test.YtbokbdcjpbnodaaGreatDoorQMs
import Derived.Test.YtbokbdcjpbnodaaGreatDoorQJu
namespace Go.Proofs.YtbokbdcjpbnodaaGreatDoor
open Go.RowKit Go.Maps
theorem top_at {l : List ValA} (h : 1 ≤ l.length) : l[l.length - 1]? = some (topV l) := by
 unfold topV
 rw [List.getElem?_eq_getElem (by omega)]
 rfl
theorem sec_at {l : List ValA} (h : 2 ≤ l.length) : l[l.length - 2]? = some (secV l) := by
 unfold secV
 rw [List.getElem?_eq_getElem (by omega)]
 rfl
theorem sec_kind {l : List ValA} (h : 2 ≤ l.length) : (secV l).kind ∈ (l.map ValA.kind).drop (l.length - 2) := by
 rw [List.mem_iff_getElem?]
 refine ⟨0, ?_⟩
 rw [List.getElem?_drop, List.getElem?_map, Nat.add_zero, sec_at h]
 rfl
theorem one_allows {S : List FieldA} {x : ValA} {m : MS} {ts ts' : List Int} (hM : TyM S m ts) (hb : behB S x ts = some ts') (ht : (opA x.kind).takes = 1) : 1 ≤ m.st.length ∧ goodV (topV m.st) ∧ allowsB (ofF S x (opA x.kind).of) (topV m.st).kind = true := by
 obtain ⟨b1, b2, _, _⟩ := beh_parts hb
 have hlen : ts.length = m.st.length := by rw [← hM.ty]; simp
 rw [ht] at b1 b2
 obtain ⟨g1, g2⟩ := top_mem (l := m.st) (t := 1) (Nat.le_refl _) (by omega)
 rw [hM.ty, ← hlen] at g2
 have hall := List.all_eq_true.1 b2 _ g2
 simp only [Bool.and_eq_true] at hall
 exact ⟨by omega, hM.good _ g1, hall.2⟩
theorem two_allows {S : List FieldA} {x : ValA} {m : MS} {ts ts' : List Int} (hM : TyM S m ts) (hb : behB S x ts = some ts') (ht : (opA x.kind).takes = 2) : 2 ≤ m.st.length ∧ goodV (topV m.st) ∧ goodV (secV m.st) ∧ (secV m.st).kind = (topV m.st).kind := by
 obtain ⟨b1, b2, _, _⟩ := beh_parts hb
 have hlen : ts.length = m.st.length := by rw [← hM.ty]; simp
 rw [ht] at b1 b2
 obtain ⟨g1, g2⟩ := top_mem (l := m.st) (t := 2) (by omega) (by omega)
 have g3 := sec_kind (l := m.st) (by omega)
 rw [hM.ty, ← hlen] at g2 g3
 have h1 := List.all_eq_true.1 b2 _ g2
 have h2 := List.all_eq_true.1 b2 _ g3
 simp only [Bool.and_eq_true, decide_eq_true_eq] at h1 h2
 exact ⟨by omega, hM.good _ g1, hM.good _ (sec_mem (t := 2) (Nat.le_refl _) (by omega)), h2.1.trans h1.1.symm⟩
theorem stepB_any (S : List FieldA) (sv lv tv rv : Value) (l : List ValA) (k : Nat) (m : MS) (x : ValA) (z : ValA) (w : World) (hS : FldsAt w sv S) (hl : ValsAt w lv l) (hst : ValsAt w tv m.st) (hr : ValsAt w rv m.vals) (hx : l[k]? = some x) (hk : k ≤ 1024) (h16 : m.st.length ≤ 16) (h1 : 1 ≤ m.st.length) (hP : ∀ (W : World) (sv rv : Value), FldsAt W sv S → ValsAt W rv m.vals → Calls Tryz.prog 99 #[.agg #[sv], x.v, .agg #[.bool m.here, rv]] W fun e w' => e = .returned (.tuple #[zV.v, .bool false]) ∧ Keeps (fun _ => False) W w') (hT : ∀ W : World, Calls Tryz.prog 101 #[.int .i64 x.kind, (topV m.st).v] W fun e w' => e = .returned (.tuple #[z.v, .bool true]) ∧ Keeps (fun _ => False) W w') :
  Calls Tryz.prog 72 #[.agg #[sv], lv, .agg #[.int .i64 (k : Int), tv, .bool m.here, rv]] w fun e w' => StatesTo w tv rv (k + 1) ⟨m.st.take (m.st.length - 1) ++ [z], m.here, m.vals⟩ e w' := by
 have ht := top_at h1
 by_cases h2 : m.st.length = 1
 ·rw [h2] at ht
  exact stepRB1_v S sv lv tv rv l k m x z w hS hl hst hr hx hk h16 (topV m.st) h2 ht hP hT
 ·exact stepRB2_v S sv lv tv rv l k m x z w hS hl hst hr hx hk h16 (topV m.st) (secV m.st) (m.st.length - 1) (m.st.length - 2) (by omega) (by omega) ht (sec_at (by omega)) hP hT
theorem stepC_any (S : List FieldA) (sv lv tv rv : Value) (l : List ValA) (k : Nat) (m : MS) (x : ValA) (z : ValA) (w : World) (hS : FldsAt w sv S) (hl : ValsAt w lv l) (hst : ValsAt w tv m.st) (hr : ValsAt w rv m.vals) (hx : l[k]? = some x) (hk : k ≤ 1024) (h16 : m.st.length ≤ 16) (h1 : 2 ≤ m.st.length) (hP : ∀ (W : World) (sv rv : Value), FldsAt W sv S → ValsAt W rv m.vals → Calls Tryz.prog 99 #[.agg #[sv], x.v, .agg #[.bool m.here, rv]] W fun e w' => e = .returned (.tuple #[zV.v, .bool false]) ∧ Keeps (fun _ => False) W w') (hT : ∀ (W : World) (a : ValA), Calls Tryz.prog 101 #[.int .i64 x.kind, a.v] W fun e w' => e = .returned (.tuple #[zV.v, .bool false]) ∧ Keeps (fun _ => False) W w') (hJ : ∀ W : World, Calls Tryz.prog 102 #[.int .i64 x.kind, (secV m.st).v, (topV m.st).v] W fun e w' => e = .returned (.tuple #[z.v, .bool true]) ∧ Keeps (fun _ => False) W w') :
  Calls Tryz.prog 72 #[.agg #[sv], lv, .agg #[.int .i64 (k : Int), tv, .bool m.here, rv]] w fun e w' => StatesTo w tv rv (k + 1) ⟨m.st.take (m.st.length - 2) ++ [z], m.here, m.vals⟩ e w' :=
 stepRC2_v S sv lv tv rv l k m x z w hS hl hst hr hx hk h16 (topV m.st) (secV m.st) (m.st.length - 1) (m.st.length - 2) (by omega) (by omega) (top_at (by omega)) (sec_at h1) hP (fun W => hT W _) hJ
theorem stepJ_any (S : List FieldA) (sv lv tv rv : Value) (l : List ValA) (k : Nat) (m : MS) (x : ValA) (w : World) (hS : FldsAt w sv S) (hl : ValsAt w lv l) (hst : ValsAt w tv m.st) (hr : ValsAt w rv m.vals) (hx : l[k]? = some x) (hk : k ≤ 1024) (h16 : m.st.length ≤ 16) (hP : ∀ (W : World) (sv rv : Value), FldsAt W sv S → ValsAt W rv m.vals → Calls Tryz.prog 99 #[.agg #[sv], x.v, .agg #[.bool m.here, rv]] W fun e w' => e = .returned (.tuple #[zV.v, .bool false]) ∧ Keeps (fun _ => False) W w') (hT : ∀ (W : World) (a : ValA), Calls Tryz.prog 101 #[.int .i64 x.kind, a.v] W fun e w' => e = .returned (.tuple #[zV.v, .bool false]) ∧ Keeps (fun _ => False) W w') (hJ : ∀ (W : World) (a b : ValA), Calls Tryz.prog 102 #[.int .i64 x.kind, a.v, b.v] W fun e w' => e = .returned (.tuple #[zV.v, .bool false]) ∧ Keeps (fun _ => False) W w') (o25 : (x.kind == 25) = true) (hxn : 0 ≤ x.n) (hxm : x.n ≤ 4096) :
  Calls Tryz.prog 72 #[.agg #[sv], lv, .agg #[.int .i64 (k : Int), tv, .bool m.here, rv]] w fun e w' => StatesTo w tv rv (k + 1 + x.n.toNat) ⟨m.st, m.here, m.vals⟩ e w' := by
 by_cases h0 : m.st.length = 0
 ·exact stepRJ0_v S sv lv tv rv l k m x w hS hl hst hr hx hk h16 h0 hP (fun W => hT W zV) (fun W => hJ W zV zV) o25 hxn hxm
 ·have ht := top_at (l := m.st) (by omega)
  by_cases h2 : m.st.length = 1
  ·rw [h2] at ht
   exact stepRJ1_v S sv lv tv rv l k m x w hS hl hst hr hx hk h16 (topV m.st) h2 ht hP (fun W => hT W _) (fun W => hJ W zV _) o25 hxn hxm
  ·exact stepRJ2_v S sv lv tv rv l k m x w hS hl hst hr hx hk h16 (topV m.st) (secV m.st) (m.st.length - 1) (m.st.length - 2) (by omega) (by omega) ht (sec_at (by omega)) hP (fun W => hT W _) (fun W => hJ W _ _) o25 hxn hxm
theorem stepQ_any (S : List FieldA) (sv lv tv rv : Value) (l : List ValA) (k : Nat) (m : MS) (x : ValA) (w : World) (hS : FldsAt w sv S) (hl : ValsAt w lv l) (hst : ValsAt w tv m.st) (hr : ValsAt w rv m.vals) (hx : l[k]? = some x) (hk : k ≤ 1024) (h16 : m.st.length ≤ 16) (hP : ∀ (W : World) (sv rv : Value), FldsAt W sv S → ValsAt W rv m.vals → Calls Tryz.prog 99 #[.agg #[sv], x.v, .agg #[.bool m.here, rv]] W fun e w' => e = .returned (.tuple #[zV.v, .bool false]) ∧ Keeps (fun _ => False) W w') (hT : ∀ (W : World) (a : ValA), Calls Tryz.prog 101 #[.int .i64 x.kind, a.v] W fun e w' => e = .returned (.tuple #[zV.v, .bool false]) ∧ Keeps (fun _ => False) W w') (hJ : ∀ (W : World) (a b : ValA), Calls Tryz.prog 102 #[.int .i64 x.kind, a.v, b.v] W fun e w' => e = .returned (.tuple #[zV.v, .bool false]) ∧ Keeps (fun _ => False) W w') (RR : Bool × List ValA) (hK : ∀ (W : World) (sv rv : Value) (a : ValA), FldsAt W sv S → ValsAt W rv m.vals → Calls Tryz.prog 103 #[.agg #[sv], x.v, .agg #[.bool m.here, rv], a.v] W fun e w' => ∃ ro rc, e = .returned (.agg #[.bool RR.1, .slice ro RR.2.length rc]) ∧ ValsAt w' (.slice ro RR.2.length rc) RR.2 ∧ New W rv (.slice ro RR.2.length rc) ∧ Keeps (fun _ => False) W w') (o25 : (x.kind == 25) = false) (o26 : (x.kind == 26) = false) (o20 : (x.kind == 20) = false) (o21 : (x.kind == 21) = false) :
  Calls Tryz.prog 72 #[.agg #[sv], lv, .agg #[.int .i64 (k : Int), tv, .bool m.here, rv]] w fun e w' => StatesTo w tv rv (k + 1) ⟨m.st, RR.1, RR.2⟩ e w' := by
 by_cases h0 : m.st.length = 0
 ·exact stepRQ0_v S sv lv tv rv l k m x w hS hl hst hr hx hk h16 h0 hP (fun W => hT W zV) (fun W => hJ W zV zV) RR (fun W sv rv h1 h2 => hK W sv rv zV h1 h2) o25 o26 o20 o21
 ·have ht := top_at (l := m.st) (by omega)
  by_cases h2 : m.st.length = 1
  ·rw [h2] at ht
   exact stepRQ1_v S sv lv tv rv l k m x w hS hl hst hr hx hk h16 (topV m.st) h2 ht hP (fun W => hT W _) (fun W => hJ W zV _) RR (fun W sv rv h1 h2 => hK W sv rv _ h1 h2) o25 o26 o20 o21
  ·exact stepRQ2_v S sv lv tv rv l k m x w hS hl hst hr hx hk h16 (topV m.st) (secV m.st) (m.st.length - 1) (m.st.length - 2) (by omega) (by omega) ht (sec_at (by omega)) hP (fun W => hT W _) (fun W => hJ W _ _) RR (fun W sv rv h1 h2 => hK W sv rv _ h1 h2) o25 o26 o20 o21
theorem stepU_any (S : List FieldA) (sv lv tv rv : Value) (l : List ValA) (k : Nat) (m : MS) (x : ValA) (w : World) (hS : FldsAt w sv S) (hl : ValsAt w lv l) (hst : ValsAt w tv m.st) (hr : ValsAt w rv m.vals) (hx : l[k]? = some x) (hk : k ≤ 1024) (h16 : m.st.length ≤ 16) (h1 : 1 ≤ m.st.length) (hP : ∀ (W : World) (sv rv : Value), FldsAt W sv S → ValsAt W rv m.vals → Calls Tryz.prog 99 #[.agg #[sv], x.v, .agg #[.bool m.here, rv]] W fun e w' => e = .returned (.tuple #[zV.v, .bool false]) ∧ Keeps (fun _ => False) W w') (hT : ∀ (W : World) (a : ValA), Calls Tryz.prog 101 #[.int .i64 x.kind, a.v] W fun e w' => e = .returned (.tuple #[zV.v, .bool false]) ∧ Keeps (fun _ => False) W w') (hJ : ∀ (W : World) (a b : ValA), Calls Tryz.prog 102 #[.int .i64 x.kind, a.v, b.v] W fun e w' => e = .returned (.tuple #[zV.v, .bool false]) ∧ Keeps (fun _ => False) W w') (o25 : (x.kind == 25) = false) (o26 : (x.kind == 26) = true) (hxn : 0 ≤ x.n) (hxm : x.n ≤ 4096) (bz : Bool) (hb0 : ((topV m.st).n == 0) = bz) :
  Calls Tryz.prog 72 #[.agg #[sv], lv, .agg #[.int .i64 (k : Int), tv, .bool m.here, rv]] w fun e w' => StatesTo w tv rv (if bz then k + 1 + x.n.toNat else k + 1) ⟨m.st.take (m.st.length - 1), m.here, m.vals⟩ e w' := by
 have ht := top_at h1
 by_cases h2 : m.st.length = 1
 ·rw [h2] at ht
  exact stepRU1_v S sv lv tv rv l k m x w hS hl hst hr hx hk h16 (topV m.st) h2 ht hP (fun W => hT W _) (fun W => hJ W zV _) o25 o26 hxn hxm bz hb0
 ·exact stepRU2_v S sv lv tv rv l k m x w hS hl hst hr hx hk h16 (topV m.st) (secV m.st) (m.st.length - 1) (m.st.length - 2) (by omega) (by omega) ht (sec_at (by omega)) hP (fun W => hT W _) (fun W => hJ W _ _) o25 o26 hxn hxm bz hb0
theorem stepP_any (S : List FieldA) (sv lv tv rv : Value) (l : List ValA) (k : Nat) (m : MS) (x : ValA) (w : World) (hS : FldsAt w sv S) (hl : ValsAt w lv l) (hst : ValsAt w tv m.st) (hr : ValsAt w rv m.vals) (hx : l[k]? = some x) (hk : k ≤ 1024) (h16 : m.st.length ≤ 16) (h1 : 1 ≤ m.st.length) (hP : ∀ (W : World) (sv rv : Value), FldsAt W sv S → ValsAt W rv m.vals → Calls Tryz.prog 99 #[.agg #[sv], x.v, .agg #[.bool m.here, rv]] W fun e w' => e = .returned (.tuple #[zV.v, .bool false]) ∧ Keeps (fun _ => False) W w') (hT : ∀ (W : World) (a : ValA), Calls Tryz.prog 101 #[.int .i64 x.kind, a.v] W fun e w' => e = .returned (.tuple #[zV.v, .bool false]) ∧ Keeps (fun _ => False) W w') (hJ : ∀ (W : World) (a b : ValA), Calls Tryz.prog 102 #[.int .i64 x.kind, a.v, b.v] W fun e w' => e = .returned (.tuple #[zV.v, .bool false]) ∧ Keeps (fun _ => False) W w') (RR : Bool × List ValA) (hK : ∀ (W : World) (sv rv : Value), FldsAt W sv S → ValsAt W rv m.vals → Calls Tryz.prog 103 #[.agg #[sv], x.v, .agg #[.bool m.here, rv], (topV m.st).v] W fun e w' => ∃ ro rc, e = .returned (.agg #[.bool RR.1, .slice ro RR.2.length rc]) ∧ ValsAt w' (.slice ro RR.2.length rc) RR.2 ∧ New W rv (.slice ro RR.2.length rc) ∧ Keeps (fun _ => False) W w') (o25 : (x.kind == 25) = false) (o26 : (x.kind == 26) = false) (oP : (x.kind == 20) = true ∨ ((x.kind == 20) = false ∧ (x.kind == 21) = true)) :
  Calls Tryz.prog 72 #[.agg #[sv], lv, .agg #[.int .i64 (k : Int), tv, .bool m.here, rv]] w fun e w' => StatesTo w tv rv (k + 1) ⟨m.st.take (m.st.length - 1), RR.1, RR.2⟩ e w' := by
 have ht := top_at h1
 by_cases h2 : m.st.length = 1
 ·rw [h2] at ht
  exact stepRP1_v S sv lv tv rv l k m x w hS hl hst hr hx hk h16 (topV m.st) h2 ht hP (fun W => hT W _) (fun W => hJ W zV _) RR hK o25 o26 oP
 ·exact stepRP2_v S sv lv tv rv l k m x w hS hl hst hr hx hk h16 (topV m.st) (secV m.st) (m.st.length - 1) (m.st.length - 2) (by omega) (by omega) ht (sec_at (by omega)) hP (fun W => hT W _) (fun W => hJ W _ _) RR hK o25 o26 oP
end Go.Proofs.YtbokbdcjpbnodaaGreatDoor
namespace Go.Proofs.YtbokbdcjpbnodaaGreatDoor
open Go.RowKit Go.Maps
set_option maxRecDepth 100000
set_option maxHeartbeats 4000000
theorem bool_n {v : ValA} (h : goodV v) (hk : v.kind = 2) : v.n = 0 ∨ v.n = 1 := by
 rcases h with ⟨h, _⟩ | ⟨_, h, _⟩ | ⟨h, _⟩
 ·rw [hk] at h; cases h
 ·exact h
 ·rw [hk] at h; cases h
theorem row_lt {S : List FieldA} {m : MS} (hR : rowOK S m.here m.vals) {n : Nat} (hn : n < S.length) (hh : m.here = true) : n < m.vals.length := by
 unfold rowOK at hR
 rw [if_pos hh] at hR
 omega
theorem load_n (S : List FieldA) (m : MS) (n : Nat) : (if hasB m n then (m.vals[n]?).getD zV else zV).n = (loadV S m n).n := by
 unfold loadV
 split <;> rfl
theorem stepR_v (S : List FieldA) (sv lv tv rv : Value) (l : List ValA) (k : Nat) (m : MS) (x : ValA) (w : World) (hS : FldsAt w sv S) (hl : ValsAt w lv l) (hst : ValsAt w tv m.st) (hr : ValsAt w rv m.vals) (hx : l[k]? = some x) (hk : k ≤ 1024) (h16 : m.st.length ≤ 16) (ts ts' : List Int) (hsch : errS S = 0) (hf : formB x = 0) (hrf : rightF S x = true) (hM : TyM S m ts) (hb : behB S x ts = some ts') :
  Calls Tryz.prog 72 #[.agg #[sv], lv, .agg #[.int .i64 (k : Int), tv, .bool m.here, rv]] w fun e w' => StatesTo w tv rv (nextM x k m) (stepM S x m) e w' := by
 obtain ⟨h1, h2⟩ := formB_zero hf
 have hc := op_cases h1
 have hvl : m.vals.length ≤ 1024 := by have := rowOK_len hsch hM.row; omega
 obtain ⟨o, n, s⟩ := x
 simp only at hc h1 h2
 clear h1 h2
 simp only [List.mem_cons, List.not_mem_nil, or_false] at hc
 rcases hc with rfl | rfl | rfl | rfl | rfl | rfl | rfl | rfl | rfl | rfl | rfl | rfl | rfl | rfl | rfl | rfl | rfl | rfl | rfl | rfl | rfl | rfl | rfl | rfl | rfl | rfl
 ·exact stepRA_v S sv lv tv rv l k m ⟨1, n, s⟩ (toldV S ⟨1, n, s⟩ m) w hS hl hst hr hx hk h16 (fun W sv rv q1 q2 => pushes1_v S sv rv ⟨1, n, s⟩ m W q1 q2 rfl)
 ·exact stepRA_v S sv lv tv rv l k m ⟨2, n, s⟩ (toldV S ⟨2, n, s⟩ m) w hS hl hst hr hx hk h16 (fun W sv rv q1 q2 => pushes2_v S sv rv ⟨2, n, s⟩ m W q1 q2 rfl)
 ·exact stepRA_v S sv lv tv rv l k m ⟨3, n, s⟩ (toldV S ⟨3, n, s⟩ m) w hS hl hst hr hx hk h16 (fun W sv rv q1 q2 => pushes3_v S sv rv ⟨3, n, s⟩ m W q1 q2 rfl)
 ·exact stepRA_v S sv lv tv rv l k m ⟨4, n, s⟩ (toldV S ⟨4, n, s⟩ m) w hS hl hst hr hx hk h16 (fun W sv rv q1 q2 => pushes4_v S sv rv ⟨4, n, s⟩ m W q1 q2 rfl)
 ·have hn : n < S.length := by
   have e : rightF S ⟨5, n, s⟩ = decide (n < S.length) := rfl
   rw [e] at hrf
   simpa using hrf
  have h0 : 0 ≤ n ∧ n < 8 := form_field hf (Or.inl rfl)
  have hlt : n.toNat < S.length := by omega
  exact stepRA_v S sv lv tv rv l k m ⟨5, n, s⟩ (toldV S ⟨5, n, s⟩ m) w hS hl hst hr hx hk h16 (fun W sv rv q1 q2 => pushes5_v S sv rv ⟨5, n, s⟩ m W q1 q2 rfl h0.1 hlt (row_lt hM.row hlt))
 ·have hn : n < S.length := by
   have e : rightF S ⟨6, n, s⟩ = (decide (n < S.length) && ((S[n.toNat]?).map FieldA.opt).getD false) := rfl
   rw [e] at hrf
   simp only [Bool.and_eq_true, decide_eq_true_eq] at hrf; exact hrf.1
  have h0 : 0 ≤ n ∧ n < 8 := form_field hf (Or.inr (Or.inl rfl))
  have hlt : n.toNat < S.length := by omega
  exact stepRA_v S sv lv tv rv l k m ⟨6, n, s⟩ (toldV S ⟨6, n, s⟩ m) w hS hl hst hr hx hk h16 (fun W sv rv q1 q2 => pushes6_v S sv rv ⟨6, n, s⟩ m W q1 q2 rfl h0.1 hlt (row_lt hM.row hlt))
 ·exact stepRA_v S sv lv tv rv l k m ⟨7, n, s⟩ (toldV S ⟨7, n, s⟩ m) w hS hl hst hr hx hk h16 (fun W sv rv q1 q2 => pushes7_v S sv rv ⟨7, n, s⟩ m W q1 q2 rfl)
 ·obtain ⟨q, g, a⟩ := one_allows hM hb rfl
  exact stepB_any S sv lv tv rv l k m ⟨8, n, s⟩ (oneV 8 (topV m.st)) w hS hl hst hr hx hk h16 q (fun W sv rv q1 q2 => pushesN_v S sv rv ⟨8, n, s⟩ m W q1 q2 rfl rfl rfl rfl rfl rfl rfl) (fun W => turns_yes 8 (topV m.st) W (Or.inl rfl) (fun _ => bool_n g (of_decide_eq_true a).symm))
 ·obtain ⟨q, g, a⟩ := one_allows hM hb rfl
  exact stepB_any S sv lv tv rv l k m ⟨9, n, s⟩ (oneV 9 (topV m.st)) w hS hl hst hr hx hk h16 q (fun W sv rv q1 q2 => pushesN_v S sv rv ⟨9, n, s⟩ m W q1 q2 rfl rfl rfl rfl rfl rfl rfl) (fun W => turns_yes 9 (topV m.st) W (Or.inr (Or.inl rfl)) (fun q => by cases q))
 ·obtain ⟨q, g1, g2, gk⟩ := two_allows hM hb rfl
  exact stepC_any S sv lv tv rv l k m ⟨10, n, s⟩ (twoV 10 (secV m.st) (topV m.st)) w hS hl hst hr hx hk h16 q (fun W sv rv q1 q2 => pushesN_v S sv rv ⟨10, n, s⟩ m W q1 q2 rfl rfl rfl rfl rfl rfl rfl) (fun W a => turns_no 10 a W rfl rfl rfl) (fun W => joins10_v (secV m.st) (topV m.st) W)
 ·obtain ⟨q, g1, g2, gk⟩ := two_allows hM hb rfl
  exact stepC_any S sv lv tv rv l k m ⟨11, n, s⟩ (twoV 11 (secV m.st) (topV m.st)) w hS hl hst hr hx hk h16 q (fun W sv rv q1 q2 => pushesN_v S sv rv ⟨11, n, s⟩ m W q1 q2 rfl rfl rfl rfl rfl rfl rfl) (fun W a => turns_no 11 a W rfl rfl rfl) (fun W => joins11_v (secV m.st) (topV m.st) W)
 ·obtain ⟨q, g1, g2, gk⟩ := two_allows hM hb rfl
  exact stepC_any S sv lv tv rv l k m ⟨12, n, s⟩ (twoV 12 (secV m.st) (topV m.st)) w hS hl hst hr hx hk h16 q (fun W sv rv q1 q2 => pushesN_v S sv rv ⟨12, n, s⟩ m W q1 q2 rfl rfl rfl rfl rfl rfl rfl) (fun W a => turns_no 12 a W rfl rfl rfl) (fun W => joins12_v (secV m.st) (topV m.st) W)
 ·obtain ⟨q, g1, g2, gk⟩ := two_allows hM hb rfl
  exact stepC_any S sv lv tv rv l k m ⟨13, n, s⟩ (twoV 13 (secV m.st) (topV m.st)) w hS hl hst hr hx hk h16 q (fun W sv rv q1 q2 => pushesN_v S sv rv ⟨13, n, s⟩ m W q1 q2 rfl rfl rfl rfl rfl rfl rfl) (fun W a => turns_no 13 a W rfl rfl rfl) (fun W => joins13_v (secV m.st) (topV m.st) W)
 ·obtain ⟨q, g1, g2, gk⟩ := two_allows hM hb rfl
  exact stepC_any S sv lv tv rv l k m ⟨14, n, s⟩ (twoV 14 (secV m.st) (topV m.st)) w hS hl hst hr hx hk h16 q (fun W sv rv q1 q2 => pushesN_v S sv rv ⟨14, n, s⟩ m W q1 q2 rfl rfl rfl rfl rfl rfl rfl) (fun W a => turns_no 14 a W rfl rfl rfl) (fun W => joins14_v (secV m.st) (topV m.st) W)
 ·obtain ⟨q, g1, g2, gk⟩ := two_allows hM hb rfl
  exact stepC_any S sv lv tv rv l k m ⟨15, n, s⟩ (twoV 15 (secV m.st) (topV m.st)) w hS hl hst hr hx hk h16 q (fun W sv rv q1 q2 => pushesN_v S sv rv ⟨15, n, s⟩ m W q1 q2 rfl rfl rfl rfl rfl rfl rfl) (fun W a => turns_no 15 a W rfl rfl rfl) (fun W => joins15_v (secV m.st) (topV m.st) W g2 g1 gk)
 ·obtain ⟨q, g1, g2, gk⟩ := two_allows hM hb rfl
  exact stepC_any S sv lv tv rv l k m ⟨16, n, s⟩ (twoV 16 (secV m.st) (topV m.st)) w hS hl hst hr hx hk h16 q (fun W sv rv q1 q2 => pushesN_v S sv rv ⟨16, n, s⟩ m W q1 q2 rfl rfl rfl rfl rfl rfl rfl) (fun W a => turns_no 16 a W rfl rfl rfl) (fun W => joins16_v (secV m.st) (topV m.st) W g2 g1 gk)
 ·obtain ⟨q, g1, g2, gk⟩ := two_allows hM hb rfl
  exact stepC_any S sv lv tv rv l k m ⟨17, n, s⟩ (twoV 17 (secV m.st) (topV m.st)) w hS hl hst hr hx hk h16 q (fun W sv rv q1 q2 => pushesN_v S sv rv ⟨17, n, s⟩ m W q1 q2 rfl rfl rfl rfl rfl rfl rfl) (fun W a => turns_no 17 a W rfl rfl rfl) (fun W => joins17_v (secV m.st) (topV m.st) W)
 ·obtain ⟨q, g, a⟩ := one_allows hM hb rfl
  exact stepB_any S sv lv tv rv l k m ⟨18, n, s⟩ (oneV 18 (topV m.st)) w hS hl hst hr hx hk h16 q (fun W sv rv q1 q2 => pushesN_v S sv rv ⟨18, n, s⟩ m W q1 q2 rfl rfl rfl rfl rfl rfl rfl) (fun W => turns_yes 18 (topV m.st) W (Or.inr (Or.inr rfl)) (fun q => by cases q))
 ·obtain ⟨q, g1, g2, gk⟩ := two_allows hM hb rfl
  exact stepC_any S sv lv tv rv l k m ⟨19, n, s⟩ (twoV 19 (secV m.st) (topV m.st)) w hS hl hst hr hx hk h16 q (fun W sv rv q1 q2 => pushesN_v S sv rv ⟨19, n, s⟩ m W q1 q2 rfl rfl rfl rfl rfl rfl rfl) (fun W a => turns_no 19 a W rfl rfl rfl) (fun W => joins19_v (secV m.st) (topV m.st) W (good_len g2) (good_len g1))
 ·obtain ⟨q, g, a⟩ := one_allows hM hb rfl
  have h0 : 0 ≤ n ∧ n < 8 := form_field hf (Or.inl rfl)
  have hn : n < S.length := by
   have e : rightF S ⟨20, n, s⟩ = decide (n < S.length) := rfl
   rw [e] at hrf
   simpa using hrf
  obtain ⟨i, hi⟩ : ∃ i : Nat, n.toNat = i := ⟨_, rfl⟩
  have hni : n = (i : Int) := by omega
  subst hni
  have hlt : i < S.length := by omega
  have e : stepM S ⟨20, (i : Int), s⟩ m = ⟨m.st.take (m.st.length - 1), (setR m i (topV m.st)).1, (setR m i (topV m.st)).2⟩ := by
   show (⟨m.st.take (m.st.length - 1) ++ [], _, _⟩ : MS) = _
   rw [List.append_nil]
   rfl
  rw [e]
  exact stepP_any S sv lv tv rv l k m ⟨20, (i : Int), s⟩ w hS hl hst hr hx hk h16 q (fun W sv rv q1 q2 => pushesN_v S sv rv ⟨20, (i : Int), s⟩ m W q1 q2 rfl rfl rfl rfl rfl rfl rfl) (fun W a => turns_no 20 a W rfl rfl rfl) (fun W a b => joins_no 20 a b W rfl rfl rfl rfl rfl rfl rfl rfl rfl) (setR m i (topV m.st)) (fun W sv rv q1 q2 => sinks20_v S sv rv s m (topV m.st) W q1 q2 i (row_lt hM.row hlt) hvl) rfl rfl (Or.inl rfl)
 ·obtain ⟨q, g, a⟩ := one_allows hM hb rfl
  have h0 : 0 ≤ n ∧ n < 8 := form_field hf (Or.inr (Or.inr rfl))
  have hn : n < S.length := by
   have e : rightF S ⟨21, n, s⟩ = (decide (n < S.length) && decide (fldT S ⟨21, n, s⟩ = 1)) := rfl
   rw [e] at hrf
   simp only [Bool.and_eq_true, decide_eq_true_eq] at hrf; exact hrf.1
  obtain ⟨i, hi⟩ : ∃ i : Nat, n.toNat = i := ⟨_, rfl⟩
  have hni : n = (i : Int) := by omega
  subst hni
  have hlt : i < S.length := by omega
  have e : stepM S ⟨21, (i : Int), s⟩ m = ⟨m.st.take (m.st.length - 1), (setR m i (numV (wrap64 ((if hasB m i then (m.vals[i]?).getD zV else zV).n + (topV m.st).n)))).1, (setR m i (numV (wrap64 ((if hasB m i then (m.vals[i]?).getD zV else zV).n + (topV m.st).n)))).2⟩ := by
   rw [load_n S m i]
   show (⟨m.st.take (m.st.length - 1) ++ [], _, _⟩ : MS) = _
   rw [List.append_nil]
   rfl
  rw [e]
  exact stepP_any S sv lv tv rv l k m ⟨21, (i : Int), s⟩ w hS hl hst hr hx hk h16 q (fun W sv rv q1 q2 => pushesN_v S sv rv ⟨21, (i : Int), s⟩ m W q1 q2 rfl rfl rfl rfl rfl rfl rfl) (fun W a => turns_no 21 a W rfl rfl rfl) (fun W a b => joins_no 21 a b W rfl rfl rfl rfl rfl rfl rfl rfl rfl) (setR m i (numV (wrap64 ((if hasB m i then (m.vals[i]?).getD zV else zV).n + (topV m.st).n)))) (fun W sv rv q1 q2 => sinks21_v S sv rv s m (topV m.st) W q1 q2 i (row_lt hM.row hlt) hvl) rfl rfl (Or.inr ⟨rfl, rfl⟩)
 ·
  have h0 : 0 ≤ n ∧ n < 8 := form_field hf (Or.inr (Or.inl rfl))
  have hn : n < S.length := by
   have e : rightF S ⟨22, n, s⟩ = (decide (n < S.length) && ((S[n.toNat]?).map FieldA.opt).getD false) := rfl
   rw [e] at hrf
   simp only [Bool.and_eq_true, decide_eq_true_eq] at hrf; exact hrf.1
  obtain ⟨i, hi⟩ : ∃ i : Nat, n.toNat = i := ⟨_, rfl⟩
  have hni : n = (i : Int) := by omega
  subst hni
  have hlt : i < S.length := by omega
  have e : stepM S ⟨22, (i : Int), s⟩ m = ⟨m.st, (setR m i zV).1, (setR m i zV).2⟩ := by
   show (⟨m.st.take (m.st.length - 0) ++ [], _, _⟩ : MS) = _
   rw [List.append_nil, Nat.sub_zero, List.take_length]
   rfl
  rw [e]
  exact stepQ_any S sv lv tv rv l k m ⟨22, (i : Int), s⟩ w hS hl hst hr hx hk h16 (fun W sv rv q1 q2 => pushesN_v S sv rv ⟨22, (i : Int), s⟩ m W q1 q2 rfl rfl rfl rfl rfl rfl rfl) (fun W a => turns_no 22 a W rfl rfl rfl) (fun W a b => joins_no 22 a b W rfl rfl rfl rfl rfl rfl rfl rfl rfl) (setR m i zV) (fun W sv rv a q1 q2 => sinks22_v S sv rv s m a W q1 q2 i (row_lt hM.row hlt) hvl) rfl rfl rfl rfl
 ·cases hh : m.here with
  | true =>
   have e : stepM S ⟨23, n, s⟩ m = ⟨m.st, m.here, m.vals⟩ := by
    show (⟨m.st.take (m.st.length - 0) ++ [], (if m.here then (m.here, m.vals) else (true, S.map zeroV)).1, (if m.here then (m.here, m.vals) else (true, S.map zeroV)).2⟩ : MS) = _
    rw [List.append_nil, Nat.sub_zero, List.take_length, if_pos hh]
   rw [e, ← hh]
   exact stepQ_any S sv lv tv rv l k m ⟨23, n, s⟩ w hS hl hst hr hx hk h16 (fun W sv rv q1 q2 => pushesN_v S sv rv ⟨23, n, s⟩ m W q1 q2 rfl rfl rfl rfl rfl rfl rfl) (fun W a => turns_no 23 a W rfl rfl rfl) (fun W a b => joins_no 23 a b W rfl rfl rfl rfl rfl rfl rfl rfl rfl) (m.here, m.vals) (fun W sv rv a q1 q2 => sinks23T_v S sv rv s m a W q1 q2 n hh) rfl rfl rfl rfl
  | false =>
   have e : stepM S ⟨23, n, s⟩ m = ⟨m.st, true, S.map zeroV⟩ := by
    show (⟨m.st.take (m.st.length - 0) ++ [], (if m.here then (m.here, m.vals) else (true, S.map zeroV)).1, (if m.here then (m.here, m.vals) else (true, S.map zeroV)).2⟩ : MS) = _
    rw [List.append_nil, Nat.sub_zero, List.take_length, if_neg (by rw [hh]; decide)]
   rw [e, ← hh]
   exact stepQ_any S sv lv tv rv l k m ⟨23, n, s⟩ w hS hl hst hr hx hk h16 (fun W sv rv q1 q2 => pushesN_v S sv rv ⟨23, n, s⟩ m W q1 q2 rfl rfl rfl rfl rfl rfl rfl) (fun W a => turns_no 23 a W rfl rfl rfl) (fun W a b => joins_no 23 a b W rfl rfl rfl rfl rfl rfl rfl rfl rfl) (true, S.map zeroV) (fun W sv rv a q1 q2 => sinks23F_v S sv rv s m a W q1 q2 n hh hsch) rfl rfl rfl rfl
 ·have e : stepM S ⟨24, n, s⟩ m = ⟨m.st, false, []⟩ := by
   show (⟨m.st.take (m.st.length - 0) ++ [], _, _⟩ : MS) = _
   rw [List.append_nil, Nat.sub_zero, List.take_length]
   rfl
  rw [e]
  exact stepQ_any S sv lv tv rv l k m ⟨24, n, s⟩ w hS hl hst hr hx hk h16 (fun W sv rv q1 q2 => pushesN_v S sv rv ⟨24, n, s⟩ m W q1 q2 rfl rfl rfl rfl rfl rfl rfl) (fun W a => turns_no 24 a W rfl rfl rfl) (fun W a b => joins_no 24 a b W rfl rfl rfl rfl rfl rfl rfl rfl rfl) (false, []) (fun W sv rv a q1 q2 => sinks24_v S sv rv s m a W q1 q2 n) rfl rfl rfl rfl
 ·have h0 := form_jump hf rfl
  simp only at h0
  have e : stepM S ⟨25, n, s⟩ m = ⟨m.st, m.here, m.vals⟩ := by
   show (⟨m.st.take (m.st.length - 0) ++ [], _, _⟩ : MS) = _
   rw [List.append_nil, Nat.sub_zero, List.take_length]
   rfl
  rw [e]
  exact stepJ_any S sv lv tv rv l k m ⟨25, n, s⟩ w hS hl hst hr hx hk h16 (fun W sv rv q1 q2 => pushesN_v S sv rv ⟨25, n, s⟩ m W q1 q2 rfl rfl rfl rfl rfl rfl rfl) (fun W a => turns_no 25 a W rfl rfl rfl) (fun W a b => joins_no 25 a b W rfl rfl rfl rfl rfl rfl rfl rfl rfl) rfl h0.1 (by show n ≤ 4096; omega)
 ·obtain ⟨q, g, a⟩ := one_allows hM hb rfl
  have hbn := bool_n g (of_decide_eq_true a).symm
  have h0 := form_jump hf rfl
  simp only at h0
  have e : stepM S ⟨26, n, s⟩ m = ⟨m.st.take (m.st.length - 1), m.here, m.vals⟩ := by
   show (⟨m.st.take (m.st.length - 1) ++ [], _, _⟩ : MS) = _
   rw [List.append_nil]
   rfl
  rw [e]
  rcases hbn with hz | hz
  ·have en : nextM ⟨26, n, s⟩ k m = k + 1 + n.toNat := by
    unfold nextM
    rw [if_pos (Or.inr ⟨rfl, by rw [hz]; decide⟩)]
   rw [en]
   exact stepU_any S sv lv tv rv l k m ⟨26, n, s⟩ w hS hl hst hr hx hk h16 q (fun W sv rv q1 q2 => pushesN_v S sv rv ⟨26, n, s⟩ m W q1 q2 rfl rfl rfl rfl rfl rfl rfl) (fun W a => turns_no 26 a W rfl rfl rfl) (fun W a b => joins_no 26 a b W rfl rfl rfl rfl rfl rfl rfl rfl rfl) rfl rfl h0.1 (by show n ≤ 4096; omega) true (by rw [hz]; rfl)
  ·have en : nextM ⟨26, n, s⟩ k m = k + 1 := by
    unfold nextM
    rw [if_neg (by rw [hz]; simp)]
   rw [en]
   exact stepU_any S sv lv tv rv l k m ⟨26, n, s⟩ w hS hl hst hr hx hk h16 q (fun W sv rv q1 q2 => pushesN_v S sv rv ⟨26, n, s⟩ m W q1 q2 rfl rfl rfl rfl rfl rfl rfl) (fun W a => turns_no 26 a W rfl rfl rfl) (fun W a b => joins_no 26 a b W rfl rfl rfl rfl rfl rfl rfl rfl rfl) rfl rfl h0.1 (by show n ≤ 4096; omega) false (by rw [hz]; rfl)
end Go.Proofs.YtbokbdcjpbnodaaGreatDoor
namespace Go.Proofs.YtbokbdcjpbnodaaGreatDoor
open Go.RowKit Go.Maps
set_option maxRecDepth 100000
set_option maxHeartbeats 2000000
theorem copyRowR_v (w : World) (hh : Bool) (u : Value) (vals : List ValA) (hr : ValsAt w u vals) (hl : vals.length ≤ 4398046511104) :
  Calls Tryz.prog 71 #[.agg #[.bool hh, u]] w fun e w' => ∃ ro rc, e = .returned (.agg #[.bool hh, .slice ro vals.length rc]) ∧ w'.ownsRow w.heap.size 74 3 (.slice ro vals.length rc) vals.length (vcs vals) ∧ Keeps (fun _ => False) w w' := by
 obtain ⟨uo, uc, rfl⟩ := RowAt.form hr
 obtain ⟨W, hW, hkW, g0, g1⟩ := boxes2 w #[.bool hh, .slice uo vals.length uc] #[.bool false, .slice none 0 0] 28 28
 have HCV := hide (fun (W2 : World) (h : Keeps (fun _ => False) W W2) => copyVals_any W2 _ vals ((hr.keepF hkW).keepF h) hl)
 have HSK : Hid (∀ w', Keeps (fun q => q = w.heap.size + 1) W w' → w'.cell? ⟨w.heap.size, 0, none⟩ = some (.bool hh) ∧ w'.cell? ⟨w.heap.size, 1, none⟩ = some (.slice uo vals.length uc)) := fun w' hk => by
  have x1 := (hk.block _ (lt_of_block g0) (by omega)).trans g0
  exact ⟨(cell_of_blk x1 _).trans rfl, (cell_of_blk x1 _).trans rfl⟩
 have HKX := hide (Keeps.refl (fun _ => False) W)
 have HWX := hide hkW
 have H2 := hide g1
 obtain ⟨a0, a1⟩ := uh HSK W (Keeps.refl _ _)
 clear g0 g1 hkW hr
 go_enter Tryz.func71, Tryz.ntmps71
 go_wp2_with fail
 go_region_held3 (fun w' => w'.cell? ⟨w.heap.size, 0, none⟩ = some (.bool hh) ∧ w'.cell? ⟨w.heap.size, 1, none⟩ = some (.slice uo vals.length uc))
  (first | with_reducible exact uh HSK _ (uh HKX).any | with_reducible exact uh HSK _ (uh HKX).drew.any | with_reducible exact uh HSK _ ((uh HKX).any.trans (keeps_set2 _ _ _ _)))
  ((first
  | (go_at_call 29; (with_reducible refine (uh HCV _ (uh HKX).drew).mono ?_); rintro e w3 ⟨v', rfl, hown, hk⟩; obtain ⟨ao, c, rfl⟩ := RowAt.form (rowAt_own hown); have HOW := hide (ownsRow_lower hown (Nat.le_trans (uh HWX).size (by simp : W.heap.size ≤ W.drew.heap.size))); have HKX := hide ((uh HKX).drew.trans hk); have hb5 := blk_keep (uh H2) (uh HKX); have m0 := (cell_of_blk hb5 0).trans rfl; have m1 := (cell_of_blk hb5 1).trans rfl; have z0 := frozen_of_blk hb5 0; have z1 := frozen_of_blk hb5 1; have HB5 := hide hb5; clear hb5 hk hown)))
 all_goals go_wp2_with fail
 all_goals
  obtain ⟨s0, s1⟩ := set2c (uh HB5) (.bool hh) (.slice ao vals.length c)
  refine bodyPost_ret (v := .agg #[.bool hh, .slice ao vals.length c]) (by simp [results, go_sem, s0, s1]) rfl ?_
  have k2 := keeps_set2 w3 (w.heap.size + 1) (.bool hh) (.slice ao vals.length c)
  exact ⟨_, _, rfl, ownsRow_kept (uh HOW) k2 (own_off (uh HOW) (uh HB5) (by decide)), ((uh HWX).trans (uh HKX)).fresh (by omega) k2⟩
end Go.Proofs.YtbokbdcjpbnodaaGreatDoor
namespace Go.Proofs.YtbokbdcjpbnodaaGreatDoor
open Go.RowKit Go.Maps
def runS (S : List FieldA) (l : List ValA) : Nat → Nat → MS → List (Nat × MS)
 | 0, k, m => [(k, m)]
 | f + 1, k, m => match l[k]? with
  | none => [(k, m)]
  | some x => (k, m) :: runS S l f (nextM x k m) (stepM S x m)
theorem runS_step {S : List FieldA} {l : List ValA} {f k : Nat} {m : MS} {x : ValA} (hx : l[k]? = some x) : runS S l (f + 1) k m = (k, m) :: runS S l f (nextM x k m) (stepM S x m) := by
 rw [runS, hx]
theorem runS_end {S : List FieldA} {l : List ValA} {f k : Nat} {m : MS} (hk : l.length ≤ k) : runS S l f k m = [(k, m)] := by
 cases f with
 | zero => rfl
 | succ f => rw [runS, List.getElem?_eq_none hk]
theorem runS_play (S : List FieldA) (l : List ValA) : ∀ (f k : Nat) (m : MS), ∃ (D : List (Nat × MS)) (j : Nat), runS S l f k m = D ++ [(j, (playM S l f k m).2)] ∧ D.map (fun z => (z.1, z.2.st)) = (playM S l f k m).1
 | 0, k, m => ⟨[], k, rfl, rfl⟩
 | f + 1, k, m => by
  cases hx : l[k]? with
  | none =>
   rw [runS_end (List.getElem?_eq_none_iff.1 hx), playM_end (List.getElem?_eq_none_iff.1 hx)]
   exact ⟨[], k, rfl, rfl⟩
  | some x =>
   obtain ⟨D, j, h1, h2⟩ := runS_play S l f (nextM x k m) (stepM S x m)
   rw [runS_step hx, playM_step hx, h1]
   exact ⟨(k, m) :: D, j, rfl, by rw [List.map_cons, h2]⟩
structure StC where
 k : Nat
 tv : Value
 rv : Value
 m : MS
instance : Inhabited StC := ⟨⟨0, .slice none 0 0, .slice none 0 0, ⟨[], false, []⟩⟩⟩
def StC.cs (c : StC) : List Value := [.int .i64 (c.k : Int), c.tv, .bool c.m.here, c.rv]
def StC.pair (c : StC) : Nat × MS := (c.k, c.m)
def fullBlock : Value → Option Nat
 | .slice (some a) (_ + 1) _ => some a.block
 | _ => none
def Apart (o v : Value) : Prop := ∀ q, fullBlock v = some q → o.ownBlock ≠ some q
theorem vals_full {w : World} {v : Value} {l : List ValA} (h : ValsAt w v l) {q : Nat} (hq : fullBlock v = some q) : q < w.heap.size ∧ v.ownBlock = some q := by
 obtain ⟨ao, c, rfl⟩ := RowAt.form h
 cases l with
 | nil => simp [fullBlock] at hq
 | cons x r =>
  obtain ⟨g, off, cap, e, hg, _⟩ := h.cells (by simp)
  simp only [Value.slice.injEq] at e
  obtain ⟨rfl, _, _⟩ := e
  simp only [fullBlock, List.length_cons, Option.some.injEq] at hq
  subst hq
  exact ⟨hg, rfl⟩
theorem vals_kept {F : Nat → Prop} {w w' : World} {v : Value} {l : List ValA} (h : ValsAt w v l) (hk : Keeps F w w') (hF : ∀ q, fullBlock v = some q → ¬ F q) : ValsAt w' v l := by
 cases l with
 | nil => exact valsAt_nil h
 | cons x r =>
  refine RowAt.kept h hk (fun q e hq => hF q ?_ hq)
  obtain ⟨ao, c, rfl⟩ := RowAt.form h
  cases ao with
  | none => cases e
  | some a => simp only [Value.ownBlock, Option.some.injEq] at e; rw [← e]; rfl
structure StOK (w : World) (o : Value) (c : StC) : Prop where
 st : ValsAt w c.tv c.m.st
 row : ValsAt w c.rv c.m.vals
 nt : Apart o c.tv
 nr : Apart o c.rv
theorem StOK.keepF {w w' : World} {o : Value} {c : StC} (h : StOK w o c) (hk : Keeps (fun _ => False) w w') : StOK w' o c := ⟨h.st.keepF hk, h.row.keepF hk, h.nt, h.nr⟩
theorem StOK.box {w w' : World} {o : Value} {c : StC} (h : StOK w o c) {b : Nat} {a : Int} {y z : Value} {hh : Bool} {t : TypeId} {fr : Nat × Nat} (hb : w.heap[b]? = some (.cells #[.int .i64 a, y, .bool hh, z] t fr)) (hy : ∀ n, y ≠ .int .i64 n) (hk : Keeps (fun q => q = b) w w') : StOK w' o c :=
 ⟨vals_off h.st hb (off4 hy) hk, vals_off h.row hb (off4 hy) hk, h.nt, h.nr⟩
theorem StOK.grown {w w' : World} {o : Value} {g n cap : Nat} {c : StC} (h : StOK w o c) (hg : w.grownBy w' o.ownBlock) (hat : o.ownBlock = some g ∨ g = w.heap.size) : StOK w' (.slice (some ⟨g, 0, none⟩) n cap) c := by
 have hk : Keeps (fun q => o.ownBlock = some q) w w' := (Keeps.refl _ _).grown hg (fun k e _ => e)
 have ap : ∀ {v : Value} {l : List ValA}, ValsAt w v l → Apart o v → Apart (.slice (some ⟨g, 0, none⟩) n cap) v := fun {v l} hv ha q hq e => by
  simp only [Value.ownBlock, Option.some.injEq] at e
  subst e
  rcases hat with h1 | h1
  ·exact ha _ hq h1
  ·have := (vals_full hv hq).1; omega
 exact ⟨vals_kept h.st hk (fun q hq e => h.nt q hq e), vals_kept h.row hk (fun q hq e => h.nr q hq e), ap h.st h.nt, ap h.row h.nr⟩
theorem apart_new {w : World} {o v0 v : Value} {B e s n : Nat} {xs : List Value} (ho : w.ownsRow B e s o n xs) (h0 : Apart o v0) (hn : New w v0 v) (hv : ∀ q, fullBlock v = some q → v.ownBlock = some q) : Apart o v := by
 rcases hn with rfl | hn
 ·exact h0
 ·intro q hq e
  have h1 := hn q (hv q hq)
  have h2 := (ho.lt q e).2
  omega
end Go.Proofs.YtbokbdcjpbnodaaGreatDoor
namespace Go.Proofs.YtbokbdcjpbnodaaGreatDoor
open Go.RowKit Go.Maps
set_option maxRecDepth 100000
set_option maxHeartbeats 8000000
theorem Tryz.info83 : (Tryz.prog.info? 83).map (fun i => (i.zero, i.size, i.bytes)) = some (some (.agg #[.int .i64 0, .slice none 0 0, .bool false, .slice none 0 0]), 4, 64) := by kernel_rfl
theorem stored4 {Y : World} {b : Nat} {c0 c1 c2 c3 : Value} {t : TypeId} (h : Y.heap[b]? = some (.cells #[c0, c1, c2, c3] t (0, 0))) (x y z u : Value) : ∃ Y1, (((Y.setCell ⟨b, 0, none⟩ x).setCell ⟨b, 1, none⟩ y).setCell ⟨b, 2, none⟩ z).setCell ⟨b, 3, none⟩ u = Y1 ∧ Y1.heap[b]? = some (.cells #[x, y, z, u] t (0, 0)) ∧ Keeps (fun q => q = b) Y Y1 :=
 ⟨_, rfl, heap_setCell_at (o := 3) (heap_setCell_at (o := 2) (heap_setCell_at (o := 1) (heap_setCell_at (o := 0) h _) _) _) _, keeps_set4 _ _ _ _ _ _⟩
def StsTo (w : World) (R : List (Nat × MS)) (e : Ending) (w' : World) : Prop :=
 ∃ (v : Value) (C : List StC), e = .returned v ∧ RowAt w' v C.length (C.flatMap StC.cs) ∧ (∀ c ∈ C, ValsAt w' c.tv c.m.st ∧ ValsAt w' c.rv c.m.vals) ∧ C.map StC.pair = R ∧ Keeps (fun _ => False) w w'
theorem cs_snoc (C : List StC) (c : StC) : (C ++ [c]).flatMap StC.cs = C.flatMap StC.cs ++ c.cs := by simp
theorem stcs_one {o1 o2 : Option Addr} {k : Int} {n1 c1 n2 c2 : Nat} {b : Bool} : ∀ u ∈ [Value.int .i64 k, .slice o1 n1 c1, .bool b, .slice o2 n2 c2], u.oneCell' = true := by
 intro u hu
 simp only [List.mem_cons, List.not_mem_nil, or_false] at hu
 rcases hu with rfl | rfl | rfl | rfl <;> rfl
theorem statesR_v (S : List FieldA) (sv lv rv : Value) (l : List ValA) (hh : Bool) (vals : List ValA) (hv : List (Bool × List Int)) (w : World) (hS : FldsAt w sv S) (hl : ValsAt w lv l) (hr : ValsAt w rv vals) (hsch : errS S = 0) (hL : l.length ≤ 96) (hF : ∀ i ∈ l, formB i = 0 ∧ rightF S i = true) (hJ : ∀ k i, l[k]? = some i → (opA i.kind).opd = 6 → k + 1 + i.n.toNat ≤ l.length) (hH : HvOK S l hv) (hM : TyM S ⟨[], hh, vals⟩ []) :
  Calls Tryz.prog 41 #[.agg #[sv], lv, .agg #[.bool hh, rv]] w fun e w' => StsTo w (runS S l l.length 0 ⟨[], hh, vals⟩) e w' := by
 obtain ⟨i0, hi, hz0, hz1, hz2⟩ := info_parts Tryz.info83
 obtain ⟨so, sc, rfl⟩ := RowAt.form hS
 obtain ⟨lo, lc, rfl⟩ := RowAt.form hl
 obtain ⟨uo, uc, rfl⟩ := RowAt.form hr
 have hvl : vals.length ≤ 1024 := by have := rowOK_len hsch hM.row; simp only at this; omega
 obtain ⟨W, hW, hkW, g0, g1⟩ := boxes2 w #[.slice so S.length sc] #[.bool hh, .slice uo vals.length uc] 24 28
 have HCR := hide (copyRowR_v W hh _ vals (hr.keepF hkW) (by omega))
 have HSK := hide (schema_isK hsch)
 obtain ⟨RR, HRR⟩ : ∃ RR, Hid (runS S l l.length 0 ⟨[], hh, vals⟩ = RR) := ⟨_, rfl⟩
 rw [uh HRR]
 have HF := hide hF
 have HJ := hide hJ
 have HH := hide hH
 have HMT := hide hM
 have HS := hide hS
 have HL := hide hl
 have HKW := hide hkW
 have G0 := hide g0
 obtain ⟨r0, r1⟩ := cl2 g1
 clear hS hl hr hF hJ hH hM hkW g0 g1
 go_enter Tryz.func41, Tryz.ntmps41
 go_wp2_with fail
 refine (uh HCR).mono ?_
 rintro e w1 ⟨ro, rc, rfl, hown, hk1⟩
 obtain ⟨Y, hY, kY, gx, gl⟩ := boxes2 w1 #[.int .i64 0, .slice none 0 0, .bool hh, .slice ro vals.length rc] #[.int .i64 0, .slice none 0 0, .bool hh, .slice ro vals.length rc] 83 83
 have hs1 : w.heap.size + 1 < w1.heap.size := by
  have h1 := (uh HKW).size
  have h2 := hk1.size
  have h3 : W.heap.size = w.heap.size + 1 + 1 := by rw [← hW]; simp
  omega
 have HKY := hide (((uh HKW).trans hk1).trans kY)
 have GY := hide (blk_keep (blk_keep (uh G0) hk1) kY)
 have HGX := hide gx
 have HOY : Hid (Y.ownsRow w.heap.size 83 4 (.slice (some ⟨w1.heap.size + 1, 0, none⟩) 1 1) 1 [.int .i64 0, .slice none 0 0, .bool hh, .slice ro vals.length rc]) := ⟨rfl, Or.inr ⟨w1.heap.size + 1, 1, _, rfl, by omega, gl, Nat.le_refl _, by unfold maxLen; omega, rfl, rfl⟩⟩
 have HOK0 : Hid (StOK Y (.slice (some ⟨w1.heap.size + 1, 0, none⟩) 1 1) ⟨0, .slice none 0 0, .slice ro vals.length rc, ⟨[], hh, vals⟩⟩) := by
  refine ⟨nil_vals _, (rowAt_own hown).keepF kY, fun q hq => (by cases hq), fun q hq e => ?_⟩
  have hv0 : ValsAt w1 (.slice ro vals.length rc) vals := rowAt_own hown
  have h1 := (vals_full hv0 hq).1
  simp only [Value.ownBlock, Option.some.injEq] at e
  omega
 clear HCR hown hk1 kY gx gl
 go_wp2_with fail
 go_loopw [8, 9] (fun o i wr => ∃ (n : Nat) (pre : List StC) (c : StC) (ts : List Int), n ≤ c.k ∧ c.k ≤ l.length ∧ i = .int .i64 (n : Int) ∧ pre.length ≤ n ∧ Hid (hv[c.k]? = some (true, ts)) ∧ Hid (TyM S c.m ts) ∧ Hid (wr.ownsRow w.heap.size 83 4 o (pre.length + 1) ((pre ++ [c]).flatMap StC.cs)) ∧ Hid (∀ d ∈ pre ++ [c], StOK wr o d) ∧ Hid (¬ o.ownBlock = some (w1.heap.size)) ∧ Hid (wr.heap[w1.heap.size]? = some (.cells #[.int .i64 (c.k : Int), c.tv, .bool c.m.here, c.rv] 83 (0, 0))) ∧ Hid (wr.heap[w.heap.size]? = some (.cells #[.slice so S.length sc] 24 (0, 0))) ∧ Hid (pre.map StC.pair ++ runS S l (l.length - n) c.k c.m = RR) ∧ Hid (Keeps (fun _ => False) w wr)) (fun _ i _ => l.length - (intOf i).toNat)
 case atStart =>
  refine ⟨0, [], ⟨0, .slice none 0 0, .slice ro vals.length rc, ⟨[], hh, vals⟩⟩, [], Nat.le_refl _, Nat.zero_le _, rfl, Nat.le_refl _, pullA_first (uh HH), uh HMT, uh HOY, fun d hd => ?_, ?_, uh HGX, uh GY, uh HRR, uh HKY⟩
  ·simp only [List.nil_append, List.mem_singleton] at hd
   subst hd
   exact uh HOK0
  ·intro q
   simp only [Value.ownBlock, Option.some.injEq] at q
   omega
 case round =>
  obtain ⟨n, pre, c, ts, h1, h2, rfl, h3, HHV, HTY, HOW, HOK, HOB, HBX, HB0, HRU, HKP⟩ := hrel
  have okc := (uh HOK) c (by simp)
  have h16 : c.m.st.length ≤ 16 := by
   have := ((uh HH).small c.k _ (uh HHV)).1
   rw [← (uh HTY).ty] at this
   simpa using this
  obtain ⟨ck, ctv, crv, cm⟩ := c
  obtain ⟨to, tc, e1⟩ := RowAt.form okc.st
  obtain ⟨qo, qc, e2⟩ := RowAt.form okc.row
  simp only at *
  subst e1
  subst e2
  have x0 : wr.cell? ⟨w1.heap.size, 0, none⟩ = some (.int .i64 (ck : Int)) := (cell_of_blk (uh HBX) _).trans rfl
  have x1 : wr.cell? ⟨w1.heap.size, 1, none⟩ = some (.slice to cm.st.length tc) := (cell_of_blk (uh HBX) _).trans rfl
  have x2 : wr.cell? ⟨w1.heap.size, 2, none⟩ = some (.bool cm.here) := (cell_of_blk (uh HBX) _).trans rfl
  have x3 : wr.cell? ⟨w1.heap.size, 3, none⟩ = some (.slice qo cm.vals.length qc) := (cell_of_blk (uh HBX) _).trans rfl
  have y0 : wr.cell? ⟨w.heap.size, 0, none⟩ = some (.slice so S.length sc) := (cell_of_blk (uh HB0) _).trans rfl
  have i0' : (0 : Int) ≤ (n : Int) := by omega
  by_cases hlt : ck < l.length
  ·obtain ⟨x, ts', hx, hb⟩ := (uh HH).beh ck ts hlt (uh HHV)
   obtain ⟨hff, hrr⟩ := (uh HF) x (List.mem_of_getElem? hx)
   obtain ⟨n1, n2, n3⟩ := next_ok (m := cm) (uh HH) (uh HJ) hx (uh HHV) hb
   have HST := hide (stepR_v S _ _ _ _ l ck cm x wr ((uh HS).keepF (uh HKP)) ((uh HL).keepF (uh HKP)) okc.st okc.row hx (by omega) h16 ts ts' hsch hff hrr (uh HTY) hb)
   have HTN := hide (step_ty (uh HSK) hff hrr (uh HTY) hb)
   have HN3 := hide n3
   have HRN : Hid ((pre ++ [⟨ck, .slice to cm.st.length tc, .slice qo cm.vals.length qc, cm⟩] : List StC).map StC.pair ++ runS S l (l.length - (n + 1)) (nextM x ck cm) (stepM S x cm) = RR) := by
    show _ = _
    rw [← uh HRU, show l.length - n = l.length - (n + 1) + 1 by omega, runS_step hx]
    simp [StC.pair]
   generalize nextM x ck cm = nk at *
   generalize stepM S x cm = nm at *
   have i1 : (n : Int) < (l.length : Int) := by omega
   have i2 : (ck : Int) < (l.length : Int) := by omega
   have HNT := hide okc.nt
   have HNR := hide okc.nr
   clear hx hb hff hrr n3 HHV HTY HRU okc
   go_wp2_with fail
   refine (uh HST).mono ?_
   rintro e w2 ⟨to', tc', ro', rc', rfl, hv1, hv2, hn1, hn2, hk2⟩
   have hbx2 := blk_keep (uh HBX) hk2
   have hb02 := blk_keep (uh HB0) hk2
   have how2 := ownsRow_kept (uh HOW) hk2 (fun _ _ => id)
   have c0 : w2.cell? ⟨w1.heap.size, 0, none⟩ = some (.int .i64 (ck : Int)) := (cell_of_blk hbx2 _).trans rfl
   have c1 : w2.cell? ⟨w1.heap.size, 1, none⟩ = some (.slice to cm.st.length tc) := (cell_of_blk hbx2 _).trans rfl
   have c2 : w2.cell? ⟨w1.heap.size, 2, none⟩ = some (.bool cm.here) := (cell_of_blk hbx2 _).trans rfl
   have c3 : w2.cell? ⟨w1.heap.size, 3, none⟩ = some (.slice qo cm.vals.length qc) := (cell_of_blk hbx2 _).trans rfl
   have f0 := frozen_of_blk hbx2 0
   have f1 := frozen_of_blk hbx2 1
   have f2 := frozen_of_blk hbx2 2
   have f3 := frozen_of_blk hbx2 3
   obtain ⟨Y1, hY1, hbx3, k3⟩ := stored4 hbx2 (.int .i64 (nk : Int)) (.slice to' nm.st.length tc') (.bool nm.here) (.slice ro' nm.vals.length rc')
   have d0 : Y1.cell? ⟨w1.heap.size, 0, none⟩ = some (.int .i64 (nk : Int)) := (cell_of_blk hbx3 _).trans rfl
   have d1 : Y1.cell? ⟨w1.heap.size, 1, none⟩ = some (.slice to' nm.st.length tc') := (cell_of_blk hbx3 _).trans rfl
   have d2 : Y1.cell? ⟨w1.heap.size, 2, none⟩ = some (.bool nm.here) := (cell_of_blk hbx3 _).trans rfl
   have d3 : Y1.cell? ⟨w1.heap.size, 3, none⟩ = some (.slice ro' nm.vals.length rc') := (cell_of_blk hbx3 _).trans rfl
   have hlt1 : w.heap.size < w2.heap.size := lt_of_block hb02
   have how3 := ownsRow_kept how2 k3 (fun q e hq => uh HOB (hq ▸ e))
   have HO3 := hide how3
   have hlt3 : w.heap.size < Y1.heap.size := Nat.lt_of_lt_of_le hlt1 k3.size
   have HB3 := hide ((k3.block _ hlt1 (by omega)).trans hb02)
   have HX3 := hide hbx3
   have HK3 := hide (((uh HKP).trans hk2).fresh (by omega) k3)
   have HOK3 : Hid (∀ d ∈ pre ++ [(⟨ck, .slice to cm.st.length tc, .slice qo cm.vals.length qc, cm⟩ : StC)], StOK Y1 u8 d) := fun d hd => (((uh HOK) d hd).keepF hk2).box hbx2 (by simp) k3
   have HNEW : Hid (StOK Y1 u8 (⟨nk, .slice to' nm.st.length tc', .slice ro' nm.vals.length rc', nm⟩ : StC)) := ⟨vals_off hv1 hbx2 (off4 (by simp)) k3, vals_off hv2 hbx2 (off4 (by simp)) k3, apart_new (uh HOW) (uh HNT) hn1 (fun q hq => (vals_full hv1 hq).2), apart_new (uh HOW) (uh HNR) hn2 (fun q hq => (vals_full hv2 hq).2)⟩
   have hbxs : w1.heap.size < Y1.heap.size := lt_of_block hbx3
   have hpn : pre.length ≤ 96 := by omega
   clear hv1 hv2 hn1 hn2 hk2 hbx2 hb02 how2 how3 hbx3 k3 HST HOK HOW HNT HNR HBX HB0 HKP x0 x1 x2 x3 y0
   go_wp2_with (at_builtin; refine wpList_append_lies _ rfl _ _ _ rfl w.heap.size 83 i0 _ 4 64 Tryz.underlying80 hi hz0 hz1 hz2 rfl (by omega) u8 (pre.length + 1) ((pre ++ [(⟨ck, .slice to cm.st.length tc, .slice qo cm.vals.length qc, cm⟩ : StC)]).flatMap StC.cs) rfl ((uh HO3).alloc _) ⟨Y1.heap.size, 0, none⟩ 1 1 [.int .i64 (nk : Int), .slice to' nm.st.length tc', .bool nm.here, .slice ro' nm.vals.length rc'] rfl rfl (World.news_of_block (cs := #[.int .i64 (nk : Int), .slice to' nm.st.length tc', .bool nm.here, .slice ro' nm.vals.length rc']) (t := 83) (fr := (0, 0)) (heap_alloc_new Y1 _)) stcs_one (by omega) (by unfold maxLen; omega) (by omega) (by have := (uh HK3).size; simp; omega) (Y1.heap.size + 1) (by simp) ?_; intro g cap w5 hown5 hgr5 hat5 hlt5)
   go_roundw
   case rel =>
    have hob : ¬ (Value.slice (some ⟨g, 0, none⟩) (pre.length + 1 + 1) cap).ownBlock = some (w1.heap.size) := fun e => by
     simp only [Value.ownBlock, Option.some.injEq] at e
     subst e
     rcases hat5 with h | h
     ·exact uh HOB h
     ·omega
    have k5 := kAlloc Y1 (.cells #[.int .i64 (nk : Int), .slice to' nm.st.length tc', .bool nm.here, .slice ro' nm.vals.length rc'] 83)
    have h0b : ¬ u8.ownBlock = some (w.heap.size) := fun e => by have := ((uh HO3).lt _ e).1; exact own_off (uh HO3) (uh HB3) (by decide) _ e rfl
    refine ⟨n + 1, pre ++ [⟨ck, .slice to cm.st.length tc, .slice qo cm.vals.length qc, cm⟩], ⟨nk, .slice to' nm.st.length tc', .slice ro' nm.vals.length rc', nm⟩, ts', by simp only; omega, n2, by go_num, by simp; omega, HN3, HTN, ?_, ?_, hob, ?_, ?_, HRN, ?_⟩
    ·show World.ownsRow _ _ _ _ _ _ _
     rw [cs_snoc, show (pre ++ [(⟨ck, .slice to cm.st.length tc, .slice qo cm.vals.length qc, cm⟩ : StC)]).length = pre.length + 1 by simp]
     exact hown5
    ·intro d hd
     rcases List.mem_append.1 hd with hd | hd
     ·exact (((uh HOK3) d hd).keepF k5).grown hgr5 (by simpa using hat5)
     ·rcases List.mem_singleton.1 hd with rfl
      exact ((uh HNEW).keepF k5).grown hgr5 (by simpa using hat5)
    ·exact (hgr5.block _ (by simp; omega) (Ne.symm (uh HOB))).trans (blk_keep (uh HX3) k5)
    ·exact (hgr5.block _ (by simp; omega) (Ne.symm h0b)).trans (blk_keep (uh HB3) k5)
    ·exact ((uh HK3).alloc _).grown hgr5 (fun q e hq => by have := ((uh HO3).lt q e).1; omega)
   case measure => simp [intOf]; omega
  ·have hce : ck = l.length := by omega
   have HEND : Hid ((pre ++ [(⟨ck, .slice to cm.st.length tc, .slice qo cm.vals.length qc, cm⟩ : StC)]).map StC.pair = RR) := by
    show _ = _
    rw [← uh HRU, runS_end (by omega)]
    simp [StC.pair]
   have HROW : Hid (RowAt wr u8 (pre ++ [(⟨ck, .slice to cm.st.length tc, .slice qo cm.vals.length qc, cm⟩ : StC)]).length ((pre ++ [(⟨ck, .slice to cm.st.length tc, .slice qo cm.vals.length qc, cm⟩ : StC)]).flatMap StC.cs)) := by
    have h := rowAt_own (uh HOW)
    show RowAt _ _ _ _
    rw [show (pre ++ [(⟨ck, .slice to cm.st.length tc, .slice qo cm.vals.length qc, cm⟩ : StC)]).length = pre.length + 1 by simp]
    exact h
   have HALL : Hid (∀ c ∈ pre ++ [(⟨ck, .slice to cm.st.length tc, .slice qo cm.vals.length qc, cm⟩ : StC)], ValsAt wr c.tv c.m.st ∧ ValsAt wr c.rv c.m.vals) := fun c hc => ⟨((uh HOK) c hc).st, ((uh HOK) c hc).row⟩
   have i2 : ¬ (ck : Int) < (l.length : Int) := by omega
   clear HOK HOW HHV HTY HRU okc hce
   by_cases hn : n < l.length
   ·have i1 : (n : Int) < (l.length : Int) := by omega
    go_wp2_with fail
    go_ret
    exact ⟨_, _, rfl, uh HROW, uh HALL, uh HEND, uh HKP⟩
   ·have i1 : ¬ (n : Int) < (l.length : Int) := by omega
    go_wp2_with fail
    go_ret
    exact ⟨_, _, rfl, uh HROW, uh HALL, uh HEND, uh HKP⟩
end Go.Proofs.YtbokbdcjpbnodaaGreatDoor
namespace Go.Proofs.YtbokbdcjpbnodaaGreatDoor
open Go.RowKit Go.Maps
set_option maxRecDepth 100000
set_option maxHeartbeats 2000000
theorem checkRowR_v (S : List FieldA) (sv u : Value) (hh : Bool) (vals : List ValA) (w : World) (hS : FldsAt w sv S) (hr : ValsAt w u vals) :
  Calls Tryz.prog 60 #[.agg #[sv], .agg #[.bool hh, u]] w fun e w' => e = .returned (.int .i64 (if errS S ≠ 0 then errS S else rowE S hh vals)) ∧ Keeps (fun _ => False) w w' := by
 obtain ⟨so, sc, rfl⟩ := RowAt.form hS
 obtain ⟨uo, uc, rfl⟩ := RowAt.form hr
 obtain ⟨W, hW, hkW, g0, g1⟩ := boxes2 w #[.slice so S.length sc] #[.bool hh, .slice uo vals.length uc] 24 28
 have p0 := cl1 g0
 have HQ := hide (checkSchema_any S _ W (hS.keepF hkW))
 have HC := hide (fun (W2 : World) (h : Keeps (fun _ => False) W W2) => check_any S _ vals _ W2 ((hS.keepF hkW).keepF h) ((hr.keepF hkW).keepF h))
 obtain ⟨RES, HRES⟩ : ∃ RES, Hid ((if errS S ≠ 0 then errS S else rowE S hh vals) = RES) := ⟨_, rfl⟩
 rw [uh HRES]
 have HE : Hid (rowE S hh vals = if hh then errR S vals else if vals = [] then 0 else 61) := rfl
 generalize rowE S hh vals = RO at *
 generalize errR S vals = ER at *
 generalize errS S = ES at *
 have HV0 : Hid (vals = [] ↔ vals.length = 0) := List.length_eq_zero_iff.symm
 have HKW := hide hkW
 have G0 := hide g0
 have G1 := hide g1
 clear g0 g1 hkW hS hr
 go_enter Tryz.func60, Tryz.ntmps60
 go_wp2_with fail
 refine (uh HQ).mono ?_
 rintro e w1 ⟨rfl, hk1⟩
 have h0 := blk_keep (uh G0) hk1
 have h1 := blk_keep (uh G1) hk1
 have a0 := cl1 h0
 obtain ⟨c0, c1⟩ := cl2 h1
 have HK1 := hide ((uh HKW).trans hk1)
 have HKX := hide hk1
 clear hk1 h0 h1 HQ
 by_cases hes : ES = 0
 ·subst hes
  rw [if_neg (by simp)] at HRES
  cases hh with
  | false =>
   rw [if_neg (by decide)] at HE
   by_cases hv : vals = []
   ·have hlen : vals.length = 0 := (uh HV0).1 hv
    have i1 : ¬ (0 : Int) < (vals.length : Int) := by omega
    have HZ : Hid (RES = 0) := by show _ = _; rw [← uh HRES, uh HE, if_pos hv]
    clear HE HRES HV0 hv hlen HC
    go_wp2_with fail
    go_ret
    exact ⟨ret_int (uh HZ).symm, uh HK1⟩
   ·have hlen : ¬ vals.length = 0 := fun q => hv ((uh HV0).2 q)
    have i1 : (0 : Int) < (vals.length : Int) := by omega
    have i2 : 0 < vals.length := by omega
    have HZ : Hid (RES = 61) := by show _ = _; rw [← uh HRES, uh HE, if_neg hv]
    clear HE HRES HV0 hv hlen HC
    go_wp2_with fail
    go_ret
    exact ⟨ret_int (uh HZ).symm, uh HK1⟩
  | true =>
   rw [if_pos rfl] at HE
   have HZ : Hid (RES = ER) := by show _ = _; rw [← uh HRES, uh HE]
   have HQ2 := hide ((uh HC) w1 (uh HKX))
   clear HE HRES HV0 HC
   go_wp2_with fail
   refine (uh HQ2).mono ?_
   rintro e w2 ⟨rfl, hk2⟩
   go_wp2_with fail
   go_ret
   exact ⟨ret_int (uh HZ).symm, (uh HK1).trans hk2⟩
 ·rw [if_pos hes] at HRES
  have hes' : (ES == 0) = false := by simpa using hes
  have hes2 : (ES != 0) = true := by simpa using hes
  clear HC HE HV0
  go_wp2_with fail
  go_ret
  exact ⟨ret_int (uh HRES), uh HK1⟩
theorem checkR_v (S : List FieldA) (sv u v : Value) (l : List ValA) (hh : Bool) (vals : List ValA) (w : World) (hS : FldsAt w sv S) (hl : ValsAt w v l) (hI : InR l) (hr : ValsAt w u vals) :
  Calls Tryz.prog 40 #[.agg #[sv], v, .agg #[.bool hh, u]] w fun e w' => e = .returned (.int .i64 (if (verifyA S l).2.2 ≠ 0 then (verifyA S l).2.2 else rowE S hh vals)) ∧ Keeps (fun _ => False) w w' := by
 obtain ⟨so, sc, rfl⟩ := RowAt.form hS
 obtain ⟨lo, lc, rfl⟩ := RowAt.form hl
 obtain ⟨uo, uc, rfl⟩ := RowAt.form hr
 obtain ⟨W, hW, hkW, g0, g1⟩ := boxes2 w #[.slice so S.length sc] #[.bool hh, .slice uo vals.length uc] 24 28
 have p0 := cl1 g0
 have HQ := hide (refVerify_v S so sc l _ W (hS.keepF hkW) (hl.keepF hkW) hI)
 rw [← verify_ref] at HQ
 have HC := hide (fun (W2 : World) (h : Keeps (fun _ => False) W W2) => checkRowR_v S _ _ hh vals W2 ((hS.keepF hkW).keepF h) ((hr.keepF hkW).keepF h))
 have HES : Hid ((verifyA S l).2.2 = 0 → errS S = 0) := ver_schema
 obtain ⟨RES, HRES⟩ : ∃ RES, Hid ((if (verifyA S l).2.2 ≠ 0 then (verifyA S l).2.2 else rowE S hh vals) = RES) := ⟨_, rfl⟩
 rw [uh HRES]
 obtain ⟨CR, HCR⟩ : ∃ CR, Hid ((if errS S ≠ 0 then errS S else rowE S hh vals) = CR) := ⟨_, rfl⟩
 simp only [uh HCR] at HC
 generalize (verifyA S l).2.2 = V at *
 generalize (verifyA S l).1 = V1 at *
 generalize (verifyA S l).2.1 = V2 at *
 have HKW := hide hkW
 have G0 := hide g0
 have G1 := hide g1
 clear g0 g1 hkW hS hr hl
 go_enter Tryz.func40, Tryz.ntmps40
 go_wp2_with fail
 refine (uh HQ).mono ?_
 rintro e w1 ⟨rfl, hk1⟩
 have h0 := blk_keep (uh G0) hk1
 have h1 := blk_keep (uh G1) hk1
 have a0 := cl1 h0
 obtain ⟨c0, c1⟩ := cl2 h1
 have HK1 := hide ((uh HKW).trans hk1)
 have HQ2 := hide ((uh HC) w1 hk1)
 clear hk1 h0 h1 HQ HC
 by_cases hV : V = 0
 ·have hs := (uh HES) hV
  have HZ : Hid (CR = RES) := by show _ = _; rw [← uh HRES, ← uh HCR, hs, hV]
  clear HRES HCR HES hs
  subst hV
  go_wp2_with fail
  refine (uh HQ2).mono ?_
  rintro e w2 ⟨rfl, hk2⟩
  go_wp2_with fail
  go_ret
  exact ⟨ret_int (uh HZ), (uh HK1).trans hk2⟩
 ·rw [if_pos hV] at HRES
  have hV' : (V == 0) = false := by simpa using hV
  have hV2 : (V != 0) = true := by simpa using hV
  clear HQ2 HES HCR
  go_wp2_with fail
  go_ret
  exact ⟨ret_int (uh HRES), uh HK1⟩
end Go.Proofs.YtbokbdcjpbnodaaGreatDoor
namespace Go.Proofs.YtbokbdcjpbnodaaGreatDoor
open Go.RowKit Go.Maps
theorem flatC_get {α : Type} (f : α → List Value) (sz : Nat) (hf : ∀ x, (f x).length = sz) : ∀ (C : List α) (i j : Nat) (c : α) (v : Value), C[i]? = some c → (f c)[j]? = some v → (C.flatMap f)[i * sz + j]? = some v
 | [], i, j, c, v, h, _ => by simp at h
 | x :: r, 0, j, c, v, h, hv => by
  simp at h
  subst h
  rw [List.flatMap_cons, Nat.zero_mul, Nat.zero_add, List.getElem?_append_left (List.getElem?_eq_some_iff.1 hv).1]
  exact hv
 | x :: r, i + 1, j, c, v, h, hv => by
  have ih := flatC_get f sz hf r i j c v (by simpa using h) hv
  rw [List.flatMap_cons, List.getElem?_append_right (by rw [hf]; have : (i + 1) * sz = i * sz + sz := Nat.succ_mul i sz; omega), hf, show (i + 1) * sz + j - sz = i * sz + j by have : (i + 1) * sz = i * sz + sz := Nat.succ_mul i sz; omega]
  exact ih
theorem sts_cells {w : World} {v : Value} {C : List StC} (h : RowAt w v C.length (C.flatMap StC.cs)) (h0 : 0 < C.length) :
  ∃ b off cap, v = .slice (some ⟨b, off, none⟩) C.length cap ∧ b < w.heap.size ∧ ∀ i c, C[i]? = some c → w.cell? ⟨b, off + i * 4, none⟩ = some (.int .i64 (c.k : Int)) ∧ w.cell? ⟨b, off + i * 4 + 1, none⟩ = some c.tv ∧ w.cell? ⟨b, off + i * 4 + 2, none⟩ = some (.bool c.m.here) ∧ w.cell? ⟨b, off + i * 4 + 3, none⟩ = some c.rv := by
 obtain ⟨b, off, cap, e, hb, hc⟩ := RowAt.cells h h0
 refine ⟨b, off, cap, e, hb, fun i c hi => ?_⟩
 have g := fun j x hj => hc _ x (flatC_get StC.cs 4 (fun _ => rfl) C i j c x hi hj)
 have g0 := g 0 _ rfl
 have g1 := g 1 _ rfl
 have g2 := g 2 _ rfl
 have g3 := g 3 _ rfl
 rw [Nat.add_zero] at g0
 rw [← Nat.add_assoc] at g1 g2 g3
 exact ⟨g0, g1, g2, g3⟩
def deepC (C : List StC) : Nat := C.foldl (fun d c => max d c.m.st.length) 0
theorem deepC_snoc (C : List StC) (c : StC) : deepC (C ++ [c]) = max (deepC C) c.m.st.length := by simp [deepC, List.foldl_append]
theorem deepC_map (C : List StC) : ∀ d, C.foldl (fun d c => max d c.m.st.length) d = (C.map StC.pair).foldl (fun d z => max d z.2.st.length) d := by
 induction C with
 | nil => intro d; rfl
 | cons c r ih => intro d; rw [List.map_cons, List.foldl_cons, List.foldl_cons, ih]; rfl
theorem deepM_map (D : List (Nat × MS)) : ∀ d, D.foldl (fun d z => max d z.2.st.length) d = (D.map (fun z => (z.1, z.2.st))).foldl (fun d z => max d z.2.length) d := by
 induction D with
 | nil => intro d; rfl
 | cons c r ih => intro d; rw [List.map_cons, List.foldl_cons, List.foldl_cons, ih]
theorem sts_tell {S : List FieldA} {l : List ValA} {m : MS} {C : List StC} (hC : C.map StC.pair = runS S l l.length 0 m) (hst : (playM S l l.length 0 m).2.st = []) :
  C.length = (playM S l l.length 0 m).1.length + 1 ∧ deepC C = deepD (playM S l l.length 0 m).1 ∧ (∃ c, C[C.length - 1]? = some c ∧ c.m = (playM S l l.length 0 m).2) ∧ (∀ (i : Nat) c, C[i]? = some c → i + 1 < C.length → (playM S l l.length 0 m).1[i]? = some (c.k, c.m.st)) := by
 obtain ⟨D, j, h1, h2⟩ := runS_play S l l.length 0 m
 rw [h1] at hC
 have hlen : C.length = D.length + 1 := by have := congrArg List.length hC; simpa using this
 have hD : D.length = (playM S l l.length 0 m).1.length := by rw [← h2]; simp
 refine ⟨by omega, ?_, ?_, ?_⟩
 ·unfold deepC deepD
  rw [deepC_map, hC, List.foldl_append, deepM_map D, h2]
  simp [hst]
 ·obtain ⟨c, hc⟩ : ∃ c, C[C.length - 1]? = some c := ⟨_, List.getElem?_eq_getElem (by omega)⟩
  refine ⟨c, hc, ?_⟩
  have h3 : (C.map StC.pair)[C.length - 1]? = some c.pair := by rw [List.getElem?_map, hc]; rfl
  rw [hC, hlen, Nat.add_sub_cancel, List.getElem?_append_right (Nat.le_refl _), Nat.sub_self] at h3
  simp only [List.getElem?_cons_zero, Option.some.injEq] at h3
  exact (congrArg Prod.snd h3).symm
 ·intro i c hi hlt
  have h3 : (C.map StC.pair)[i]? = some c.pair := by rw [List.getElem?_map, hi]; rfl
  rw [hC, List.getElem?_append_left (by omega)] at h3
  rw [← h2, List.getElem?_map, h3]
  rfl
theorem set4o {w : World} {b : Nat} {c0 c1 c2 c3 : Value} {t : TypeId} (h : w.heap[b]? = some (.cells #[c0, c1, c2, c3] t (0, 0))) : w.frozen? ⟨b, 0, none⟩ = false ∧ w.frozen? ⟨b, 1, none⟩ = false ∧ w.frozen? ⟨b, 2, none⟩ = false ∧ w.frozen? ⟨b, 3, none⟩ = false ∧ w.cell? ⟨b, 0, none⟩ = some c0 ∧ w.cell? ⟨b, 1, none⟩ = some c1 ∧ w.cell? ⟨b, 2, none⟩ = some c2 ∧ w.cell? ⟨b, 3, none⟩ = some c3 :=
 ⟨frozen_of_blk h 0, frozen_of_blk h 1, frozen_of_blk h 2, frozen_of_blk h 3, (cell_of_blk h _).trans rfl, (cell_of_blk h _).trans rfl, (cell_of_blk h _).trans rfl, (cell_of_blk h _).trans rfl⟩
theorem offO {b : Bool} {y : Value} {c d : Int} (hy : ∀ n, y ≠ .int .i64 n) (i : Nat) (a n : Int) (s : Txt) (h1 : (#[.bool b, y, .int .i64 c, .int .i64 d] : Array Value)[i]? = some (.int .i64 a)) (h2 : (#[.bool b, y, .int .i64 c, .int .i64 d] : Array Value)[i + 1]? = some (.int .i64 n)) (h3 : (#[.bool b, y, .int .i64 c, .int .i64 d] : Array Value)[i + 2]? = some (str s)) : False := by
 rcases i with _ | _ | _ | _ | i
 ·simp at h1
 ·simp at h1; exact hy _ h1
 ·simp at h3
 ·simp at h2
 ·simp at h1
end Go.Proofs.YtbokbdcjpbnodaaGreatDoor
namespace Go.Proofs.YtbokbdcjpbnodaaGreatDoor
open Go.RowKit Go.Maps
set_option maxRecDepth 100000
set_option maxHeartbeats 6000000
theorem runR_v (S : List FieldA) (sv u v : Value) (l : List ValA) (hh : Bool) (vals : List ValA) (w : World) (hS : FldsAt w sv S) (hl : ValsAt w v l) (hI : InR l) (hr : ValsAt w u vals) :
  Calls Tryz.prog 11 #[.agg #[sv], v, .agg #[.bool hh, u]] w fun e w' => ∃ ro rc, e = .returned (.tuple #[.agg #[.bool (runO S l hh vals).here, .slice ro (runO S l hh vals).vals.length rc, .int .i64 ((runO S l hh vals).steps : Int), .int .i64 ((runO S l hh vals).deep : Int)], .int .i64 (runO S l hh vals).e]) ∧ ValsAt w' (.slice ro (runO S l hh vals).vals.length rc) (runO S l hh vals).vals ∧ Keeps (fun _ => False) w w' := by
 obtain ⟨so, sc, rfl⟩ := RowAt.form hS
 obtain ⟨lo, lc, rfl⟩ := RowAt.form hl
 obtain ⟨uo, uc, rfl⟩ := RowAt.form hr
 obtain ⟨W, hW, hkW, g0, g1, g2⟩ := boxes3 w #[.slice so S.length sc] #[.bool hh, .slice uo vals.length uc] #[.bool false, .slice none 0 0, .int .i64 0, .int .i64 0] 24 28 32
 have p0 := cl1 g0
 obtain ⟨r0, r1⟩ := cl2 g1
 have HQ := hide (checkR_v S _ _ _ l hh vals W (hS.keepF hkW) (hl.keepF hkW) hI (hr.keepF hkW))
 have HKW := hide hkW
 have G0 := hide g0
 have G1 := hide g1
 have G2 := hide g2
 by_cases hok : (verifyA S l).2.2 = 0 ∧ rowE S hh vals = 0
 ·obtain ⟨hV, hR⟩ := hok
  obtain ⟨ps, _, _, l96, _, _, _, _, _, hst0, _, hJ⟩ := run_bounds hV hR
  have hTy : TyM S ⟨[], hh, vals⟩ [] := ⟨rfl, fun v hv => by simp at hv, rowE_ok hR⟩
  have hs := ver_schema hV
  have h' : (lookA S l).2.2 = 0 := hV
  obtain ⟨hv, hH, hF⟩ : ∃ hv, HvOK S l hv ∧ ∀ i ∈ l, formB i = 0 ∧ rightF S i = true := by
   rcases look_tells S l with ⟨_, _, q, r⟩ | ⟨ps, qa, _, ok, ln, l96, hSK, hF, hT⟩
   ·rw [q] at h'; exact absurd h' r
   ·exact ⟨_, ok, hF⟩
  have hro : runO S l hh vals = ⟨0, (playM S l l.length 0 ⟨[], hh, vals⟩).2.here, (playM S l l.length 0 ⟨[], hh, vals⟩).2.vals, (playM S l l.length 0 ⟨[], hh, vals⟩).1.length, deepD (playM S l l.length 0 ⟨[], hh, vals⟩).1⟩ := by
   unfold runO outO
   rw [hV, hR, if_neg (by simp), if_neg (by simp)]
  rw [hro]
  rw [hV, hR, if_neg (by simp)] at HQ
  have HSTS := hide (fun (W2 : World) (h : Keeps (fun _ => False) W W2) => statesR_v S _ _ _ l hh vals hv W2 ((hS.keepF hkW).keepF h) ((hl.keepF hkW).keepF h) ((hr.keepF hkW).keepF h) hs l96 hF hJ hH hTy)
  have HTELL : Hid (∀ C : List StC, C.map StC.pair = runS S l l.length 0 ⟨[], hh, vals⟩ → C.length = (playM S l l.length 0 ⟨[], hh, vals⟩).1.length + 1 ∧ deepC C = deepD (playM S l l.length 0 ⟨[], hh, vals⟩).1 ∧ (∃ c, C[C.length - 1]? = some c ∧ c.m = (playM S l l.length 0 ⟨[], hh, vals⟩).2)) := fun C hC => by
   obtain ⟨a, b, c, _⟩ := sts_tell hC hst0
   exact ⟨a, b, c⟩
  have HT96 : Hid ((playM S l l.length 0 ⟨[], hh, vals⟩).1.length ≤ 96) := Nat.le_trans (playM_len _ _ _) l96
  obtain ⟨TT, HTT⟩ : ∃ TT, Hid (playM S l l.length 0 ⟨[], hh, vals⟩ = TT) := ⟨_, rfl⟩
  rw [uh HTT] at HTELL HT96
  rw [uh HTT]
  obtain ⟨T1, Tst, TH, TV⟩ := TT
  simp only at HTELL HT96 ⊢
  clear hV hR hst0 hJ hTy hs h' hH hF hro g0 g1 g2 hkW hS hl hr HTT
  go_enter Tryz.func11, Tryz.ntmps11
  go_wp2_with fail
  refine (uh HQ).mono ?_
  rintro e w1 ⟨rfl, hk1⟩
  have h0 := blk_keep (uh G0) hk1
  have h1 := blk_keep (uh G1) hk1
  have HQ2 := hide ((uh HSTS) w1 hk1)
  have HK1 := hide hk1
  have a0 := cl1 h0
  obtain ⟨c0, c1⟩ := cl2 h1
  clear hk1 h0 h1 HQ HSTS
  go_wp2_with fail
  refine (uh HQ2).mono ?_
  rintro e w2 ⟨sv2, C, rfl, hrow, hall, hmap, hk2⟩
  obtain ⟨t1, t2, cl, t3, t4⟩ := (uh HTELL) C hmap
  obtain ⟨sb, sof, scp, e, hsb, hcl⟩ := sts_cells hrow (by omega)
  subst e
  have HK2 := hide ((uh HK1).trans hk2)
  have HALL := hide hall
  have HCL := hide hcl
  have hclen : C.length ≤ 97 := by have := uh HT96; omega
  have hcpos : 0 < C.length := by omega
  have HT1 := hide t1
  have HT2 := hide t2
  have HT3 := hide t3
  have HT4 := hide t4
  clear HQ2 HTELL hmap hk2 hrow hall hcl t1 t2 t3 t4
  go_wp2_with fail
  go_loopw [10, 11] (fun d i wr => ∃ k : Nat, k ≤ C.length ∧ i = .int .i64 (k : Int) ∧ d = .int .i64 (deepC (C.take k) : Int) ∧ wr = w2) (fun _ i _ => C.length - (intOf i).toNat)
  case atStart => exact ⟨0, Nat.zero_le _, rfl, rfl, rfl⟩
  case round =>
   obtain ⟨k, hk, rfl, rfl, rfl⟩ := hrel
   by_cases hlt : k < C.length
   ·obtain ⟨c, hc⟩ : ∃ c, C[k]? = some c := ⟨_, List.getElem?_eq_getElem hlt⟩
    obtain ⟨to, tc, e1⟩ := RowAt.form ((uh HALL) c (List.mem_of_getElem? hc)).1
    have c1 := ((uh HCL) k c hc).2.1
    rw [e1] at c1
    have HN : Hid (deepC (C.take (k + 1)) = max (deepC (C.take k)) c.m.st.length) := by show _ = _; rw [take_snoc _ _ _ hc, deepC_snoc]
    have i1 : (k : Int) < (C.length : Int) := by omega
    have i0 : (0 : Int) ≤ (k : Int) := by omega
    generalize deepC (C.take k) = DK at *
    generalize c.m.st.length = SL at *
    clear hc e1
    go_wp2_with fail
    all_goals go_roundw
    all_goals first
     | (exact ⟨k + 1, by omega, by go_num, by rw [uh HN]; congr 1; split <;> omega, trivial⟩)
     | (simp [intOf]; omega)
   ·have hke : k = C.length := by omega
    have i1 : ¬ (k : Int) < (C.length : Int) := by omega
    obtain ⟨qo, qc, e2⟩ := RowAt.form ((uh HALL) cl (List.mem_of_getElem? (uh HT3))).2
    obtain ⟨p, hp⟩ : ∃ p : Nat, C.length - 1 = p := ⟨_, rfl⟩
    have d2 := ((uh HCL) p cl (hp ▸ uh HT3)).2.2.1
    have d3 := ((uh HCL) p cl (hp ▸ uh HT3)).2.2.2
    rw [e2] at d3
    have HLV := hide ((uh HALL) cl (List.mem_of_getElem? (uh HT3))).2
    rw [e2] at HLV
    rw [uh HT4] at d2 d3 HLV
    simp only at d2 d3 HLV
    have ep : (C.length : Int) - 1 = (p : Int) := by omega
    have ip : (p : Int) < (C.length : Int) := by omega
    have ip0 : (0 : Int) ≤ (p : Int) := by omega
    have HPE : Hid ((p : Int) = (T1.length : Int)) := by have := uh HT1; show _ = _; omega
    have HDE : Hid (deepC (C.take k) = deepD T1) := by show _ = _; rw [hke, List.take_length]; exact uh HT2
    have h2b := blk_keep (uh G2) (uh HK2)
    obtain ⟨f0, f1, f2, f3, y0, y1, y2, y3⟩ := set4o h2b
    have HB2 := hide h2b
    rw [uh HDE]
    clear hke hp HCL HALL h2b
    go_wp2_with fail
    rw [uh HPE]
    obtain ⟨s0, s1, s2, s3⟩ := set4c (uh HB2) (.bool TH) (.slice qo TV.length qc) (.int .i64 (T1.length : Int)) (.int .i64 (deepD T1 : Int))
    refine bodyPost_ret (v := .tuple #[.agg #[.bool TH, .slice qo TV.length qc, .int .i64 (T1.length : Int), .int .i64 (deepD T1 : Int)], .int .i64 0]) (by simp [results, go_sem, s0, s1, s2, s3]) rfl ?_
    have k4 := keeps_set4 wr (w.heap.size + 1 + 1) (.bool TH) (.slice qo TV.length qc) (.int .i64 (T1.length : Int)) (.int .i64 (deepD T1 : Int))
    exact ⟨qo, qc, rfl, vals_off (uh HLV) (uh HB2) (offO (by simp)) k4, ((uh HKW).trans (uh HK2)).fresh (by omega) k4⟩
 ·have hE : (if (verifyA S l).2.2 ≠ 0 then (verifyA S l).2.2 else rowE S hh vals) ≠ 0 := by
   by_cases hV : (verifyA S l).2.2 = 0
   ·rw [if_neg (by simp [hV])]
    exact fun q => hok ⟨hV, q⟩
   ·rw [if_pos hV]; exact hV
  have hro : runO S l hh vals = ⟨if (verifyA S l).2.2 ≠ 0 then (verifyA S l).2.2 else rowE S hh vals, false, [], 0, 0⟩ := by
   unfold runO outO
   by_cases hV : (verifyA S l).2.2 = 0
   ·have hR : ¬ rowE S hh vals = 0 := fun q => hok ⟨hV, q⟩
    simp [hV, hR]
   ·simp [hV]
  rw [hro]
  simp only [List.length_nil]
  generalize (if (verifyA S l).2.2 ≠ 0 then (verifyA S l).2.2 else rowE S hh vals) = EE at *
  have e1 : (EE == 0) = false := by simpa using hE
  have e2 : (EE != 0) = true := by simpa using hE
  clear hok hro hE g0 g1 g2 hkW hS hl hr
  go_enter Tryz.func11, Tryz.ntmps11
  go_wp2_with fail
  refine (uh HQ).mono ?_
  rintro e w1 ⟨rfl, hk1⟩
  have h2b := blk_keep (uh G2) hk1
  obtain ⟨f0, f1, f2, f3, y0, y1, y2, y3⟩ := set4o h2b
  obtain ⟨s0, s1, s2, s3⟩ := set4c h2b (.bool false) (.slice none 0 0) (.int .i64 0) (.int .i64 0)
  have HK := hide (((uh HKW).trans hk1).fresh (by omega) (keeps_set4 w1 (w.heap.size + 1 + 1) (.bool false) (.slice none 0 0) (.int .i64 0) (.int .i64 0)))
  clear hk1 h2b HQ
  go_wp2_with fail
  refine bodyPost_ret (v := .tuple #[.agg #[.bool false, .slice none 0 0, .int .i64 0, .int .i64 0], .int .i64 EE]) (by simp [results, go_sem, s0, s1, s2, s3]) rfl ?_
  exact ⟨none, 0, rfl, nil_vals _, uh HK⟩
end Go.Proofs.YtbokbdcjpbnodaaGreatDoor
namespace Go.Proofs.YtbokbdcjpbnodaaGreatDoor
open Go.RowKit Go.Maps
set_option maxRecDepth 100000
set_option maxHeartbeats 6000000
theorem execR_v (S : List FieldA) (sv u v : Value) (t : Txt) (hh : Bool) (vals : List ValA) (w : World) (hS : FldsAt w sv S) (hb : BytesAt w v t) (hr : ValsAt w u vals) :
  Calls Tryz.prog 18 #[.agg #[sv], v, .agg #[.bool hh, u]] w fun e w' => ∃ ro rc, e = .returned (.tuple #[.agg #[.bool (execO S t hh vals).here, .slice ro (execO S t hh vals).vals.length rc], .int .i64 (execO S t hh vals).e]) ∧ ValsAt w' (.slice ro (execO S t hh vals).vals.length rc) (execO S t hh vals).vals ∧ Keeps (fun _ => False) w w' := by
 obtain ⟨so, sc, rfl⟩ := RowAt.form hS
 obtain ⟨bo, bc, rfl⟩ := RowAt.form hb
 obtain ⟨uo, uc, rfl⟩ := RowAt.form hr
 obtain ⟨W, hW, hkW, g0, g1, g2⟩ := boxes3 w #[.slice so S.length sc] #[.bool hh, .slice uo vals.length uc] #[.bool false, .slice none 0 0] 24 28 28
 have p0 := cl1 g0
 have HQ := hide (checkSchema_any S _ W (hS.keepF hkW))
 have HD := hide (fun (W2 : World) (h : Keeps (fun _ => False) W W2) => refDecode_v t _ W2 ((hb.keepF hkW).keepF h))
 simp only [← dec_eq] at HD
 have HRUN := hide (fun (W2 : World) (vv : Value) (h : Keeps (fun _ => False) W W2) (hv : ValsAt W2 vv (decC t).1) (hi : InR (decC t).1) => runR_v S _ _ vv (decC t).1 hh vals W2 ((hS.keepF hkW).keepF h) hv hi ((hr.keepF hkW).keepF h))
 have HIN : Hid ((decC t).2 = 0 → InR (decC t).1) := dec_inR t
 have HEX : Hid (execO S t hh vals = if errS S ≠ 0 then ⟨errS S, false, [], 0, 0⟩ else if (decC t).2 ≠ 0 then ⟨(decC t).2, false, [], 0, 0⟩ else runO S (decC t).1 hh vals) := by
  show _ = _
  by_cases h : errS S = 0
  ·simp [execO, decE, h]
  ·simp [execO, decE, h]
 generalize execO S t hh vals = EO at *
 generalize runO S (decC t).1 hh vals = RO at *
 generalize decC t = DC at *
 generalize errS S = ES at *
 obtain ⟨D1, D2⟩ := DC
 simp only at HD HRUN HIN HEX
 have HKW := hide hkW
 have G0 := hide g0
 have G1 := hide g1
 have G2 := hide g2
 clear g0 g1 g2 hkW hS hb hr
 by_cases hes : ES = 0
 ·rw [if_neg (by simp [hes])] at HEX
  rw [hes] at HQ
  by_cases hd : D2 = 0
  ·rw [if_neg (by simp [hd])] at HEX
   subst hd
   have hEO : EO = RO := uh HEX
   subst hEO
   obtain ⟨Re, Rh, Rv, Rs, Rd⟩ := EO
   simp only at HRUN ⊢
   clear HEX hes
   go_enter Tryz.func18, Tryz.ntmps18
   go_wp2_with fail
   refine (uh HQ).mono ?_
   rintro e w1 ⟨rfl, hk1⟩
   have HK1 := hide hk1
   have HQ2 := hide ((uh HD) w1 hk1)
   clear HQ HD hk1
   go_wp2_with fail
   refine (uh HQ2).mono ?_
   rintro e w2 ⟨r', rfl, hown, hk2⟩
   have hv2 : ValsAt w2 r' D1 := rowAt_own hown
   obtain ⟨io, ic, rfl⟩ := RowAt.form hv2
   have k12 := (uh HK1).trans hk2
   have h0 := blk_keep (uh G0) k12
   have h1 := blk_keep (uh G1) k12
   have a0 := cl1 h0
   obtain ⟨c0, c1⟩ := cl2 h1
   have HQ3 := hide ((uh HRUN) w2 _ k12 hv2 ((uh HIN) (by trivial)))
   have HK2 := hide k12
   clear HQ2 HRUN hown hk2 hv2 k12 h0 h1
   go_wp2_with fail
   refine (uh HQ3).mono ?_
   rintro e w3 ⟨ro, rc, rfl, hv3, hk3⟩
   have k13 := (uh HK2).trans hk3
   have kz := kAlloc w3 (.cells #[.bool Rh, .slice ro Rv.length rc, .int .i64 (Rs : Int), .int .i64 (Rd : Int)] 32)
   have hN := heap_alloc_new w3 (.cells #[.bool Rh, .slice ro Rv.length rc, .int .i64 (Rs : Int), .int .i64 (Rd : Int)] 32)
   generalize hX : w3.alloc (.cells #[.bool Rh, .slice ro Rv.length rc, .int .i64 (Rs : Int), .int .i64 (Rd : Int)] 32) = X at *
   have n0 : X.cell? ⟨w3.heap.size, 0, none⟩ = some (.bool Rh) := (cell_of_blk hN _).trans rfl
   have n1 : X.cell? ⟨w3.heap.size, 1, none⟩ = some (.slice ro Rv.length rc) := (cell_of_blk hN _).trans rfl
   have h2 := blk_keep (uh G2) (k13.trans kz)
   obtain ⟨y0, y1⟩ := cl2 h2
   obtain ⟨z0, z1⟩ := fz2 h2
   obtain ⟨s0, s1⟩ := set2c h2 (.bool Rh) (.slice ro Rv.length rc)
   have k2 := keeps_set2 X (w.heap.size + 1 + 1) (.bool Rh) (.slice ro Rv.length rc)
   have HV := hide (vals_off (hv3.keepF kz) h2 (off2 (by simp)) k2)
   have HK := hide ((((uh HKW).trans k13).trans kz).fresh (by omega) k2)
   clear HQ3 hv3 hk3 k13 kz k2 h2 hN
   go_wp2_with fail
   refine bodyPost_ret (v := .tuple #[.agg #[.bool Rh, .slice ro Rv.length rc], .int .i64 Re]) (by simp [results, go_sem, s0, s1]) rfl ?_
   exact ⟨_, _, rfl, uh HV, uh HK⟩
  ·rw [if_pos hd] at HEX
   rw [uh HEX]
   simp only [List.length_nil]
   have e1 : (D2 == 0) = false := by simpa using hd
   have e2 : (D2 != 0) = true := by simpa using hd
   clear HEX hes HRUN HIN
   go_enter Tryz.func18, Tryz.ntmps18
   go_wp2_with fail
   refine (uh HQ).mono ?_
   rintro e w1 ⟨rfl, hk1⟩
   have HK1 := hide hk1
   have HQ2 := hide ((uh HD) w1 hk1)
   clear HQ HD hk1
   go_wp2_with fail
   refine (uh HQ2).mono ?_
   rintro e w2 ⟨r', rfl, hown, hk2⟩
   have hv2 : ValsAt w2 r' D1 := rowAt_own hown
   obtain ⟨io, ic, rfl⟩ := RowAt.form hv2
   have k12 := (uh HK1).trans hk2
   have h2 := blk_keep (uh G2) k12
   obtain ⟨y0, y1⟩ := cl2 h2
   obtain ⟨z0, z1⟩ := fz2 h2
   obtain ⟨s0, s1⟩ := set2c h2 (.bool false) (.slice none 0 0)
   have HK := hide (((uh HKW).trans k12).fresh (by omega) (keeps_set2 w2 (w.heap.size + 1 + 1) (.bool false) (.slice none 0 0)))
   clear HQ2 hown hk2 hv2 k12 h2
   go_wp2_with fail
   refine bodyPost_ret (v := .tuple #[.agg #[.bool false, .slice none 0 0], .int .i64 D2]) (by simp [results, go_sem, s0, s1]) rfl ?_
   exact ⟨none, 0, rfl, nil_vals _, uh HK⟩
 ·rw [if_pos hes] at HEX
  rw [uh HEX]
  simp only [List.length_nil]
  have e1 : (ES == 0) = false := by simpa using hes
  have e2 : (ES != 0) = true := by simpa using hes
  clear HEX HRUN HIN HD
  go_enter Tryz.func18, Tryz.ntmps18
  go_wp2_with fail
  refine (uh HQ).mono ?_
  rintro e w1 ⟨rfl, hk1⟩
  have h2 := blk_keep (uh G2) hk1
  obtain ⟨y0, y1⟩ := cl2 h2
  obtain ⟨z0, z1⟩ := fz2 h2
  obtain ⟨s0, s1⟩ := set2c h2 (.bool false) (.slice none 0 0)
  have HK := hide (((uh HKW).trans hk1).fresh (by omega) (keeps_set2 w1 (w.heap.size + 1 + 1) (.bool false) (.slice none 0 0)))
  clear HQ hk1 h2
  go_wp2_with fail
  refine bodyPost_ret (v := .tuple #[.agg #[.bool false, .slice none 0 0], .int .i64 ES]) (by simp [results, go_sem, s0, s1]) rfl ?_
  exact ⟨none, 0, rfl, nil_vals _, uh HK⟩
end Go.Proofs.YtbokbdcjpbnodaaGreatDoor
