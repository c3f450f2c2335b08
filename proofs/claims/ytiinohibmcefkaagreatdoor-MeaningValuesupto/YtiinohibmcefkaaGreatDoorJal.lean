import Derived.Test.YtiinohibmcefkaaGreatDoorJzab
import Derived.Test.YtiinohibmcefkaaGreatDoorJzac
import Derived.Shelf.Abstract
import Derived.Test.YtiinohibmcefkaaGreatDoorJae
import Derived.Maps.AppendAt
namespace Go.Proofs.YtiinohibmcefkaaGreatDoor
open Go.RowKit Go.Maps

/-- A function value that turns a value. -/
def OneF (tv : Value) (g : ValA → ValA) : Prop := ∃ k, tv = .func (.func k) #[] #[] ∧ Enters Tryz.prog k ∧ (∀ a, a.s.length ≤ 20 → (g a).s.length ≤ 20) ∧
  ∀ (W : World) (a : ValA), a.s.length ≤ 20 → Calls Tryz.prog k #[a.v] W fun e W' => e = .returned (g a).v ∧ Keeps (fun _ => False) W W'
/-- A function value that joins two values. -/
def TwoF (tv : Value) (g : ValA → ValA → ValA) : Prop := ∃ k, tv = .func (.func k) #[] #[] ∧ Enters Tryz.prog k ∧ (∀ a b, a.s.length ≤ 20 → b.s.length ≤ 20 → (g a b).s.length ≤ 20) ∧
  ∀ (W : World) (a b : ValA), a.s.length ≤ 20 → b.s.length ≤ 20 → Calls Tryz.prog k #[a.v, b.v] W fun e W' => e = .returned (g a b).v ∧ Keeps (fun _ => False) W W'
/-- A function value that gives f of a row. -/
def Wth (S : List FieldA) (F : Nat → Prop) (w : World) (fv : Value) (f : Bool → List ValA → ValA) : Prop :=
  ∃ k cap, fv = .func (.func k) #[] cap ∧ Enters Tryz.prog k ∧ (∀ h vals, Rw S h vals → (f h vals).s.length ≤ 20) ∧
    ∀ (W : World) (h : Bool) (u : Value) (vals : List ValA), Keeps F w W → ValsAt W u vals → Rw S h vals → Calls Tryz.prog k (#[.agg #[.bool h, u]] ++ cap) W fun e W' => e = .returned (f h vals).v ∧ Keeps (fun _ => False) W W'
theorem Wth.keepF {S : List FieldA} {F : Nat → Prop} {w w' : World} {fv : Value} {f : Bool → List ValA → ValA} (h : Wth S F w fv f) (hk : Keeps (fun _ => False) w w') : Wth S F w' fv f := by
  obtain ⟨k, cap, e, h1, h2, h3⟩ := h
  exact ⟨k, cap, e, h1, h2, fun W b u vals hW => h3 W b u vals (hk.any.trans hW)⟩
theorem Wth.congr {S : List FieldA} {F : Nat → Prop} {w : World} {fv : Value} {f g : Bool → List ValA → ValA} (h : Wth S F w fv f) (e : ∀ b vals, f b vals = g b vals) : Wth S F w fv g := by
  obtain rfl : f = g := funext fun b => funext fun v => e b v
  exact h
/-- The world as a closure over a row finds it: the row in a box, the result in another. -/
structure Pro (W X : World) (h : Bool) (uo : Option Addr) (n uc : Nat) : Prop where
  kept : Keeps (fun _ => False) W X
  row : X.heap[W.heap.size]? = some (.cells #[.bool h, .slice uo n uc] 31 (0, 0))
  res : X.heap[W.heap.size + 1]? = some (.cells #[.int .i64 0, .int .i64 0, .string ⟨#[]⟩] 41 (0, 0))
theorem pro_of (W : World) (h : Bool) (uo : Option Addr) (n uc : Nat) : ∃ X, (W.alloc (.cells #[.bool h, .slice uo n uc] 31)).alloc (.cells #[.int .i64 0, .int .i64 0, .string ⟨#[]⟩] 41) = X ∧ Pro W X h uo n uc := by
  refine ⟨_, rfl, ((Keeps.refl _ W).alloc _).alloc _, (((Keeps.refl (fun _ => False) _).alloc _).block _ (by simp) id).trans (heap_alloc_new W _), ?_⟩
  have := heap_alloc_new (W.alloc (.cells #[.bool h, .slice uo n uc] 31)) (.cells #[.int .i64 0, .int .i64 0, .string ⟨#[]⟩] 41)
  rwa [show (W.alloc (.cells #[.bool h, .slice uo n uc] 31)).heap.size = W.heap.size + 1 by simp] at this
theorem Pro.cells {W X w' : World} {h : Bool} {uo : Option Addr} {n uc : Nat} (p : Pro W X h uo n uc) (hq : Keeps (fun q => q = W.heap.size + 1) X w') :
    w'.cell? ⟨W.heap.size, 0, none⟩ = some (.bool h) ∧ w'.cell? ⟨W.heap.size, 1, none⟩ = some (.slice uo n uc) := by
  have e := (hq.block _ (lt_of_block p.row) (by omega)).trans p.row
  exact ⟨(cell_of_blk e _).trans rfl, (cell_of_blk e _).trans rfl⟩
/-- A cell that was there before the closure was called. -/
theorem Pro.old {W X w' w : World} {F : Nat → Prop} {h : Bool} {uo : Option Addr} {n uc b o : Nat} {v : Value} (p : Pro W X h uo n uc) (hk : Keeps F w W) (lb : b < w.heap.size) (nb : ¬ F b) (hb : w.cell? ⟨b, o, none⟩ = some v) (hq : Keeps (fun q => q = W.heap.size + 1) X w') : w'.cell? ⟨b, o, none⟩ = some v := by
  have l1 := Nat.lt_of_lt_of_le lb hk.size
  exact (hq.cell (Nat.lt_of_lt_of_le l1 p.kept.size) (by omega)).trans ((p.kept.cell l1 id).trans ((hk.cell lb nb).trans hb))
/-- The result's cells, as they stand when it is stored. -/
theorem Pro.out {W X w2 : World} {h : Bool} {uo : Option Addr} {n uc : Nat} (p : Pro W X h uo n uc) (hk : Keeps (fun _ => False) X w2) : w2.heap[W.heap.size + 1]? = some (.cells #[.int .i64 0, .int .i64 0, .string ⟨#[]⟩] 41 (0, 0)) :=
  (hk.block _ (lt_of_block p.res) id).trans p.res
theorem Pro.done {W X w2 : World} {h : Bool} {uo : Option Addr} {n uc : Nat} (p : Pro W X h uo n uc) (hk : Keeps (fun _ => False) X w2) (x y z : Value) : Keeps (fun _ => False) W (((w2.setCell ⟨W.heap.size + 1, 0, none⟩ x).setCell ⟨W.heap.size + 1, 1, none⟩ y).setCell ⟨W.heap.size + 1, 2, none⟩ z) :=
  (p.kept.trans hk).narrow (keeps_set3 _ _ _ _ _) (fun q e => by omega)

end Go.Proofs.YtiinohibmcefkaaGreatDoor
namespace Go.Proofs.YtiinohibmcefkaaGreatDoor
open Go.RowKit Go.Maps

set_option maxRecDepth 100000 in
theorem isPresent_v (v : ValA) (w : World) : Calls Tryz.prog 143 #[v.v] w fun e w' => e = .returned (.bool (!decide (v.kind = 0))) ∧ Keeps (fun _ => False) w w' := by
  obtain ⟨k, n, s⟩ := v
  unfold ValA.v
  go_enter Tryz.func143, Tryz.ntmps143
  go_wp2
  all_goals (go_ret; refine ⟨ret_bool ?_, kAlloc _ _⟩; first | rfl | simp_all)
set_option maxRecDepth 100000 in
theorem always1_v (S : List FieldA) (F : Nat → Prop) (w : World) (v : ValA) (vb : Nat) (hv : w.cell? ⟨vb, 0, none⟩ = some (.int .i64 v.kind)) (hv1 : w.cell? ⟨vb, 1, none⟩ = some (.int .i64 v.n)) (hv2 : w.cell? ⟨vb, 2, none⟩ = some (str v.s)) (lv : vb < w.heap.size) (nv : ¬ F vb) (hs : v.s.length ≤ 20) :
    Wth S F w (.func (.func 140) #[] #[.pointer (some ⟨vb, 0, none⟩)]) (fun _ _ => v) := by
  obtain ⟨vk, vn, vx⟩ := v
  refine ⟨140, _, rfl, enters_of Tryz.func140 (by kernel_rfl) rfl, fun _ _ _ => hs, fun W h u vals hk hu hr => ?_⟩
  obtain ⟨uo, uc, rfl⟩ := RowAt.form hu
  obtain ⟨X, hX, P⟩ := pro_of W h uo vals.length uc
  have c0 := P.old hk lv nv hv (Keeps.refl _ _)
  have c1 := P.old hk lv nv hv1 (Keeps.refl _ _)
  have c2 := P.old hk lv nv hv2 (Keeps.refl _ _)
  have HP := hide P
  have HKA := hide (Keeps.refl (fun _ => False) X)
  show Calls _ _ _ _ (fun e W' => e = .returned (.agg #[.int .i64 vk, .int .i64 vn, str vx]) ∧ _)
  have hz := (unhide HP).out (unhide HKA)
  have m0 := cell_of_blk hz 0
  have m1 := cell_of_blk hz 1
  have m2 := cell_of_blk hz 2
  simp at m0 m1 m2
  have g0 := frozen_of_blk hz 0
  have g1 := frozen_of_blk hz 1
  have g2 := frozen_of_blk hz 2
  obtain ⟨o0, o1, o2⟩ := set3v hz (.int .i64 vk) (.int .i64 vn) (str vx)
  clear hz
  simp only at c0 c1 c2
  clear hv hv1 hv2 P hu
  go_enter Tryz.func140, Tryz.ntmps140
  go_wp2_with fail
  refine bodyPost_ret (v := .agg #[.int .i64 vk, .int .i64 vn, str vx]) (by simp [results, go_sem, o0, o1, o2]) rfl ?_
  exact ⟨rfl, (unhide HP).done (unhide HKA) _ _ _⟩
set_option maxRecDepth 100000 in
theorem here1_v (S : List FieldA) (F : Nat → Prop) (w : World) : Wth S F w (.func (.func 82) #[] #[]) (fun h _ => truV h) := by
  refine ⟨82, _, rfl, enters_of Tryz.func82 (by kernel_rfl) rfl, fun _ _ _ => tru_short _, fun W h u vals hk hu hr => ?_⟩
  obtain ⟨uo, uc, rfl⟩ := RowAt.form hu
  obtain ⟨X, hX, P⟩ := pro_of W h uo vals.length uc
  have c0 := (P.cells (Keeps.refl _ _)).1
  have HP := hide P
  have HT := hide (truth_v h X)
  show Calls _ _ _ _ (fun e W' => e = .returned (truV h).v ∧ _)
  generalize truV h = B at *
  obtain ⟨Bk, Bn, Bx⟩ := B
  simp only [ValA.v] at HT ⊢
  clear P hu
  go_enter Tryz.func82, Tryz.ntmps82
  go_wp2_with fail
  refine (unhide HT).mono ?_
  rintro e w1 ⟨rfl, hk1⟩
  have HKA := hide hk1
  have hz := (unhide HP).out (unhide HKA)
  have m0 := cell_of_blk hz 0
  have m1 := cell_of_blk hz 1
  have m2 := cell_of_blk hz 2
  simp at m0 m1 m2
  have g0 := frozen_of_blk hz 0
  have g1 := frozen_of_blk hz 1
  have g2 := frozen_of_blk hz 2
  obtain ⟨o0, o1, o2⟩ := set3v hz (.int .i64 Bk) (.int .i64 Bn) (str Bx)
  clear hz hk1
  go_wp2_with fail
  refine bodyPost_ret (v := .agg #[.int .i64 Bk, .int .i64 Bn, str Bx]) (by simp [results, go_sem, o0, o1, o2]) rfl ?_
  exact ⟨rfl, (unhide HP).done (unhide HKA) _ _ _⟩
set_option maxRecDepth 100000 in
theorem has1_v (S : List FieldA) (F : Nat → Prop) (w : World) (fv : Value) (f : Bool → List ValA → ValA) (fb : Nat) (hA : Wth S F w fv f) (ha : w.cell? ⟨fb, 0, none⟩ = some fv) (la : fb < w.heap.size) (na : ¬ F fb) :
    Wth S F w (.func (.func 142) #[] #[.pointer (some ⟨fb, 0, none⟩)]) (fun h vals => truV (!decide ((f h vals).kind = 0))) := by
  obtain ⟨k, cap, rfl, ek, hl, hA⟩ := hA
  refine ⟨142, _, rfl, enters_of Tryz.func142 (by kernel_rfl) rfl, fun _ _ _ => tru_short _, fun W h u vals hk hu hr => ?_⟩
  obtain ⟨uo, uc, rfl⟩ := RowAt.form hu
  obtain ⟨X, hX, P⟩ := pro_of W h uo vals.length uc
  have c0 := P.old hk la na ha (Keeps.refl _ _)
  have c1 := (P.cells (Keeps.refl _ _)).1
  have c2 := (P.cells (Keeps.refl _ _)).2
  have HP := hide P
  have HC := hide (hA X h (.slice uo vals.length uc) vals (hk.trans P.kept.any) (hu.keepF P.kept) hr)
  show Calls _ _ _ _ (fun e W' => e = .returned (truV (!decide ((f h vals).kind = 0))).v ∧ _)
  generalize f h vals = A at *
  have HI := fun W' => hide (isPresent_v A W')
  have HT := fun W' => hide (truth_v (!decide (A.kind = 0)) W')
  generalize (!decide (A.kind = 0)) = Z at *
  generalize truV Z = B at *
  obtain ⟨Ak, An, Ax⟩ := A
  obtain ⟨Bk, Bn, Bx⟩ := B
  simp only [ValA.v] at HC HI HT ⊢
  unfold Enters at ek
  clear P hu hA hl ha
  go_enter Tryz.func142, Tryz.ntmps142
  go_wp2_with fail
  refine (unhide HC).mono ?_
  rintro e w1 ⟨rfl, hk1⟩
  go_wp2_with fail
  refine (unhide (HI _)).mono ?_
  rintro e w2 ⟨rfl, hk2⟩
  go_wp2_with fail
  refine (unhide (HT _)).mono ?_
  rintro e w3 ⟨rfl, hk3⟩
  have HKA := hide ((hk1.trans hk2).trans hk3)
  have hz := (unhide HP).out (unhide HKA)
  have m0 := cell_of_blk hz 0
  have m1 := cell_of_blk hz 1
  have m2 := cell_of_blk hz 2
  simp at m0 m1 m2
  have g0 := frozen_of_blk hz 0
  have g1 := frozen_of_blk hz 1
  have g2 := frozen_of_blk hz 2
  obtain ⟨o0, o1, o2⟩ := set3v hz (.int .i64 Bk) (.int .i64 Bn) (str Bx)
  clear hz hk1 hk2 hk3
  go_wp2_with fail
  refine bodyPost_ret (v := .agg #[.int .i64 Bk, .int .i64 Bn, str Bx]) (by simp [results, go_sem, o0, o1, o2]) rfl ?_
  exact ⟨rfl, (unhide HP).done (unhide HKA) _ _ _⟩
end Go.Proofs.YtiinohibmcefkaaGreatDoor
namespace Go.Proofs.YtiinohibmcefkaaGreatDoor
open Go.RowKit Go.Maps

theorem ExIn.arg {Z : Zone} {w : World} {A : Nat} (hA : w.heap.size ≤ A) : ∀ {l : EL} {b o : Nat}, ExIn Z w l b o → ExIn (argZ A) w l b o
  | .nil, _, _, _ => trivial
  | .cons op n s kids rest, b, o, ⟨h1, h2, h3, h4, h5, ⟨ao, cap, h6, h7, h8⟩, h9⟩ =>
    ⟨h1, Nat.lt_of_lt_of_le h1 hA, h3, h4, h5, ⟨ao, cap, h6, h7, fun h0 => by
      obtain ⟨b', o', e, _, hr⟩ := h8 h0
      exact ⟨b', o', e, trivial, hr.arg hA⟩⟩, h9.arg hA⟩
end Go.Proofs.YtiinohibmcefkaaGreatDoor
