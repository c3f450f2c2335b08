import Derived.Test.YtiinohibmcefkaaGreatDoorZzbs
import Derived.Test.YtiinohibmcefkaaGreatDoorZzau
import Derived.Shelf.Abstract
import Derived.Test.YtiinohibmcefkaaGreatDoorZzad
import Derived.Test.YtiinohibmcefkaaGreatDoorZzax
import Derived.Test.YtiinohibmcefkaaGreatDoorZzat
import Derived.Test.YtiinohibmcefkaaGreatDoorZzae
import Derived.Maps.AppendAt
namespace Go.Proofs.YtiinohibmcefkaaGreatDoor
open Go.RowKit Go.Maps

/-- A function value that turns a value. -/
def OneF (tv : Value) (g : ValA → ValA) : Prop := ∃ k, tv = .func (.func k) #[] #[] ∧ Enters Tryz.prog k ∧ (∀ a, a.s.length ≤ 20 → (g a).s.length ≤ 20) ∧
  ∀ (W : World) (a : ValA), a.s.length ≤ 20 → Calls Tryz.prog k #[a.v] W fun e W' => e = .returned (g a).v ∧ Keeps (fun _ => False) W W'
/-- A function value that joins two values. -/
def TwoF (tv : Value) (g : ValA → ValA → ValA) : Prop := ∃ k, tv = .func (.func k) #[] #[] ∧ Enters Tryz.prog k ∧ (∀ a b, a.s.length ≤ 20 → b.s.length ≤ 20 → (g a b).s.length ≤ 20) ∧
  ∀ (W : World) (a b : ValA), a.s.length ≤ 20 → b.s.length ≤ 20 → Calls Tryz.prog k #[a.v, b.v] W fun e W' => e = .returned (g a b).v ∧ Keeps (fun _ => False) W W'
/-- A function value that gives f of a row. -/
def Wth (S : List FieldA) (F : Nat → Prop) (w : World) (fv : Value) (f : Bool → List ValA → ValA) : Prop :=
  ∃ k cap, fv = .func (.func k) #[] cap ∧ Enters Tryz.prog k ∧ (∀ h vals, Rw S h vals → (f h vals).s.length ≤ 20) ∧
    ∀ (W : World) (h : Bool) (u : Value) (vals : List ValA), Keeps F w W → ValsAt W u vals → Rw S h vals → Calls Tryz.prog k (#[.agg #[.bool h, u]] ++ cap) W fun e W' => e = .returned (f h vals).v ∧ Keeps (fun _ => False) W W'
theorem Wth.keepF {S : List FieldA} {F : Nat → Prop} {w w' : World} {fv : Value} {f : Bool → List ValA → ValA} (h : Wth S F w fv f) (hk : Keeps (fun _ => False) w w') : Wth S F w' fv f := by
  obtain ⟨k, cap, e, h1, h2, h3⟩ := h
  exact ⟨k, cap, e, h1, h2, fun W b u vals hW => h3 W b u vals (hk.any.trans hW)⟩
theorem Wth.congr {S : List FieldA} {F : Nat → Prop} {w : World} {fv : Value} {f g : Bool → List ValA → ValA} (h : Wth S F w fv f) (e : ∀ b vals, f b vals = g b vals) : Wth S F w fv g := by
  obtain rfl : f = g := funext fun b => funext fun v => e b v
  exact h
/-- The world as a closure over a row finds it: the row in a box, the result in another. -/
structure Pro (W X : World) (h : Bool) (uo : Option Addr) (n uc : Nat) : Prop where
  kept : Keeps (fun _ => False) W X
  row : X.heap[W.heap.size]? = some (.cells #[.bool h, .slice uo n uc] 31 (0, 0))
  res : X.heap[W.heap.size + 1]? = some (.cells #[.int .i64 0, .int .i64 0, .string ⟨#[]⟩] 41 (0, 0))
theorem pro_of (W : World) (h : Bool) (uo : Option Addr) (n uc : Nat) : ∃ X, (W.alloc (.cells #[.bool h, .slice uo n uc] 31)).alloc (.cells #[.int .i64 0, .int .i64 0, .string ⟨#[]⟩] 41) = X ∧ Pro W X h uo n uc := by
  refine ⟨_, rfl, ((Keeps.refl _ W).alloc _).alloc _, (((Keeps.refl (fun _ => False) _).alloc _).block _ (by simp) id).trans (heap_alloc_new W _), ?_⟩
  have := heap_alloc_new (W.alloc (.cells #[.bool h, .slice uo n uc] 31)) (.cells #[.int .i64 0, .int .i64 0, .string ⟨#[]⟩] 41)
  rwa [show (W.alloc (.cells #[.bool h, .slice uo n uc] 31)).heap.size = W.heap.size + 1 by simp] at this
theorem Pro.cells {W X w' : World} {h : Bool} {uo : Option Addr} {n uc : Nat} (p : Pro W X h uo n uc) (hq : Keeps (fun q => q = W.heap.size + 1) X w') :
    w'.cell? ⟨W.heap.size, 0, none⟩ = some (.bool h) ∧ w'.cell? ⟨W.heap.size, 1, none⟩ = some (.slice uo n uc) := by
  have e := (hq.block _ (lt_of_block p.row) (by omega)).trans p.row
  exact ⟨(cell_of_blk e _).trans rfl, (cell_of_blk e _).trans rfl⟩
/-- A cell that was there before the closure was called. -/
theorem Pro.old {W X w' w : World} {F : Nat → Prop} {h : Bool} {uo : Option Addr} {n uc b o : Nat} {v : Value} (p : Pro W X h uo n uc) (hk : Keeps F w W) (lb : b < w.heap.size) (nb : ¬ F b) (hb : w.cell? ⟨b, o, none⟩ = some v) (hq : Keeps (fun q => q = W.heap.size + 1) X w') : w'.cell? ⟨b, o, none⟩ = some v := by
  have l1 := Nat.lt_of_lt_of_le lb hk.size
  exact (hq.cell (Nat.lt_of_lt_of_le l1 p.kept.size) (by omega)).trans ((p.kept.cell l1 id).trans ((hk.cell lb nb).trans hb))
/-- The result's cells, as they stand when it is stored. -/
theorem Pro.out {W X w2 : World} {h : Bool} {uo : Option Addr} {n uc : Nat} (p : Pro W X h uo n uc) (hk : Keeps (fun _ => False) X w2) : w2.heap[W.heap.size + 1]? = some (.cells #[.int .i64 0, .int .i64 0, .string ⟨#[]⟩] 41 (0, 0)) :=
  (hk.block _ (lt_of_block p.res) id).trans p.res
theorem Pro.done {W X w2 : World} {h : Bool} {uo : Option Addr} {n uc : Nat} (p : Pro W X h uo n uc) (hk : Keeps (fun _ => False) X w2) (x y z : Value) : Keeps (fun _ => False) W (((w2.setCell ⟨W.heap.size + 1, 0, none⟩ x).setCell ⟨W.heap.size + 1, 1, none⟩ y).setCell ⟨W.heap.size + 1, 2, none⟩ z) :=
  (p.kept.trans hk).narrow (keeps_set3 _ _ _ _ _) (fun q e => by omega)

end Go.Proofs.YtiinohibmcefkaaGreatDoor
namespace Go.Proofs.YtiinohibmcefkaaGreatDoor
open Go.RowKit Go.Maps

set_option maxRecDepth 100000 in
theorem isPresent_v (v : ValA) (w : World) : Calls Tryz.prog 143 #[v.v] w fun e w' => e = .returned (.bool (!decide (v.kind = 0))) ∧ Keeps (fun _ => False) w w' := by
  obtain ⟨k, n, s⟩ := v
  unfold ValA.v
  go_enter Tryz.func143, Tryz.ntmps143
  go_wp2
  all_goals (go_ret; refine ⟨ret_bool ?_, kAlloc _ _⟩; first | rfl | simp_all)
set_option maxRecDepth 100000 in
theorem always1_v (S : List FieldA) (F : Nat → Prop) (w : World) (v : ValA) (vb : Nat) (hv : w.cell? ⟨vb, 0, none⟩ = some (.int .i64 v.kind)) (hv1 : w.cell? ⟨vb, 1, none⟩ = some (.int .i64 v.n)) (hv2 : w.cell? ⟨vb, 2, none⟩ = some (str v.s)) (lv : vb < w.heap.size) (nv : ¬ F vb) (hs : v.s.length ≤ 20) :
    Wth S F w (.func (.func 140) #[] #[.pointer (some ⟨vb, 0, none⟩)]) (fun _ _ => v) := by
  obtain ⟨vk, vn, vx⟩ := v
  refine ⟨140, _, rfl, enters_of Tryz.func140 (by kernel_rfl) rfl, fun _ _ _ => hs, fun W h u vals hk hu hr => ?_⟩
  obtain ⟨uo, uc, rfl⟩ := RowAt.form hu
  obtain ⟨X, hX, P⟩ := pro_of W h uo vals.length uc
  have c0 := P.old hk lv nv hv (Keeps.refl _ _)
  have c1 := P.old hk lv nv hv1 (Keeps.refl _ _)
  have c2 := P.old hk lv nv hv2 (Keeps.refl _ _)
  have HP := hide P
  have HKA := hide (Keeps.refl (fun _ => False) X)
  show Calls _ _ _ _ (fun e W' => e = .returned (.agg #[.int .i64 vk, .int .i64 vn, str vx]) ∧ _)
  have hz := (unhide HP).out (unhide HKA)
  have m0 := cell_of_blk hz 0
  have m1 := cell_of_blk hz 1
  have m2 := cell_of_blk hz 2
  simp at m0 m1 m2
  have g0 := frozen_of_blk hz 0
  have g1 := frozen_of_blk hz 1
  have g2 := frozen_of_blk hz 2
  obtain ⟨o0, o1, o2⟩ := set3v hz (.int .i64 vk) (.int .i64 vn) (str vx)
  clear hz
  simp only at c0 c1 c2
  clear hv hv1 hv2 P hu
  go_enter Tryz.func140, Tryz.ntmps140
  go_wp2_with fail
  refine bodyPost_ret (v := .agg #[.int .i64 vk, .int .i64 vn, str vx]) (by simp [results, go_sem, o0, o1, o2]) rfl ?_
  exact ⟨rfl, (unhide HP).done (unhide HKA) _ _ _⟩
set_option maxRecDepth 100000 in
theorem here1_v (S : List FieldA) (F : Nat → Prop) (w : World) : Wth S F w (.func (.func 82) #[] #[]) (fun h _ => truV h) := by
  refine ⟨82, _, rfl, enters_of Tryz.func82 (by kernel_rfl) rfl, fun _ _ _ => tru_short _, fun W h u vals hk hu hr => ?_⟩
  obtain ⟨uo, uc, rfl⟩ := RowAt.form hu
  obtain ⟨X, hX, P⟩ := pro_of W h uo vals.length uc
  have c0 := (P.cells (Keeps.refl _ _)).1
  have HP := hide P
  have HT := hide (truth_v h X)
  show Calls _ _ _ _ (fun e W' => e = .returned (truV h).v ∧ _)
  generalize truV h = B at *
  obtain ⟨Bk, Bn, Bx⟩ := B
  simp only [ValA.v] at HT ⊢
  clear P hu
  go_enter Tryz.func82, Tryz.ntmps82
  go_wp2_with fail
  refine (unhide HT).mono ?_
  rintro e w1 ⟨rfl, hk1⟩
  have HKA := hide hk1
  have hz := (unhide HP).out (unhide HKA)
  have m0 := cell_of_blk hz 0
  have m1 := cell_of_blk hz 1
  have m2 := cell_of_blk hz 2
  simp at m0 m1 m2
  have g0 := frozen_of_blk hz 0
  have g1 := frozen_of_blk hz 1
  have g2 := frozen_of_blk hz 2
  obtain ⟨o0, o1, o2⟩ := set3v hz (.int .i64 Bk) (.int .i64 Bn) (str Bx)
  clear hz hk1
  go_wp2_with fail
  refine bodyPost_ret (v := .agg #[.int .i64 Bk, .int .i64 Bn, str Bx]) (by simp [results, go_sem, o0, o1, o2]) rfl ?_
  exact ⟨rfl, (unhide HP).done (unhide HKA) _ _ _⟩
set_option maxRecDepth 100000 in
theorem has1_v (S : List FieldA) (F : Nat → Prop) (w : World) (fv : Value) (f : Bool → List ValA → ValA) (fb : Nat) (hA : Wth S F w fv f) (ha : w.cell? ⟨fb, 0, none⟩ = some fv) (la : fb < w.heap.size) (na : ¬ F fb) :
    Wth S F w (.func (.func 142) #[] #[.pointer (some ⟨fb, 0, none⟩)]) (fun h vals => truV (!decide ((f h vals).kind = 0))) := by
  obtain ⟨k, cap, rfl, ek, hl, hA⟩ := hA
  refine ⟨142, _, rfl, enters_of Tryz.func142 (by kernel_rfl) rfl, fun _ _ _ => tru_short _, fun W h u vals hk hu hr => ?_⟩
  obtain ⟨uo, uc, rfl⟩ := RowAt.form hu
  obtain ⟨X, hX, P⟩ := pro_of W h uo vals.length uc
  have c0 := P.old hk la na ha (Keeps.refl _ _)
  have c1 := (P.cells (Keeps.refl _ _)).1
  have c2 := (P.cells (Keeps.refl _ _)).2
  have HP := hide P
  have HC := hide (hA X h (.slice uo vals.length uc) vals (hk.trans P.kept.any) (hu.keepF P.kept) hr)
  show Calls _ _ _ _ (fun e W' => e = .returned (truV (!decide ((f h vals).kind = 0))).v ∧ _)
  generalize f h vals = A at *
  have HI := fun W' => hide (isPresent_v A W')
  have HT := fun W' => hide (truth_v (!decide (A.kind = 0)) W')
  generalize (!decide (A.kind = 0)) = Z at *
  generalize truV Z = B at *
  obtain ⟨Ak, An, Ax⟩ := A
  obtain ⟨Bk, Bn, Bx⟩ := B
  simp only [ValA.v] at HC HI HT ⊢
  unfold Enters at ek
  clear P hu hA hl ha
  go_enter Tryz.func142, Tryz.ntmps142
  go_wp2_with fail
  refine (unhide HC).mono ?_
  rintro e w1 ⟨rfl, hk1⟩
  go_wp2_with fail
  refine (unhide (HI _)).mono ?_
  rintro e w2 ⟨rfl, hk2⟩
  go_wp2_with fail
  refine (unhide (HT _)).mono ?_
  rintro e w3 ⟨rfl, hk3⟩
  have HKA := hide ((hk1.trans hk2).trans hk3)
  have hz := (unhide HP).out (unhide HKA)
  have m0 := cell_of_blk hz 0
  have m1 := cell_of_blk hz 1
  have m2 := cell_of_blk hz 2
  simp at m0 m1 m2
  have g0 := frozen_of_blk hz 0
  have g1 := frozen_of_blk hz 1
  have g2 := frozen_of_blk hz 2
  obtain ⟨o0, o1, o2⟩ := set3v hz (.int .i64 Bk) (.int .i64 Bn) (str Bx)
  clear hz hk1 hk2 hk3
  go_wp2_with fail
  refine bodyPost_ret (v := .agg #[.int .i64 Bk, .int .i64 Bn, str Bx]) (by simp [results, go_sem, o0, o1, o2]) rfl ?_
  exact ⟨rfl, (unhide HP).done (unhide HKA) _ _ _⟩
end Go.Proofs.YtiinohibmcefkaaGreatDoor
namespace Go.Proofs.YtiinohibmcefkaaGreatDoor
open Go.RowKit Go.Maps

/-- A program's statements by their numbers. -/
def flatS : SL → SL
  | .nil => .nil
  | .cons op f x t e r => .cons op f x t e ((flatS t).app ((flatS e).app (flatS r)))
theorem flatS_len : ∀ l : SL, (flatS l).len = countS l
  | .nil => rfl
  | .cons op f x t e r => by simp only [flatS, SL.len, SL.len_app, countS, flatS_len t, flatS_len e, flatS_len r]; omega
theorem flatS_app : ∀ l m : SL, flatS (l.app m) = (flatS l).app (flatS m)
  | .nil, _ => rfl
  | .cons op f x t e r, m => by simp only [SL.app, flatS, flatS_app r m, SL.app_assoc]
theorem ExIn.arg {Z : Zone} {w : World} {A : Nat} (hA : w.heap.size ≤ A) : ∀ {l : EL} {b o : Nat}, ExIn Z w l b o → ExIn (argZ A) w l b o
  | .nil, _, _, _ => trivial
  | .cons op n s kids rest, b, o, ⟨h1, h2, h3, h4, h5, ⟨ao, cap, h6, h7, h8⟩, h9⟩ =>
    ⟨h1, Nat.lt_of_lt_of_le h1 hA, h3, h4, h5, ⟨ao, cap, h6, h7, fun h0 => by
      obtain ⟨b', o', e, _, hr⟩ := h8 h0
      exact ⟨b', o', e, trivial, hr.arg hA⟩⟩, h9.arg hA⟩
theorem SlE.arg {Z : Zone} {w : World} {A up : Nat} (hA : w.heap.size ≤ A) (up' : Nat) {v : Value} {l : EL} (h : SlE Z w up v l) : SlE (argZ A) w up' v l := by
  obtain ⟨ao, cap, e, hc, hr⟩ := h
  refine ⟨ao, cap, e, hc, fun h0 => ?_⟩
  obtain ⟨b, o, e1, _, hx⟩ := hr h0
  exact ⟨b, o, e1, trivial, hx.arg hA⟩
theorem StIn.arg {Z : Zone} {w : World} {A : Nat} (hA : w.heap.size ≤ A) : ∀ {l : SL} {b o : Nat}, StIn Z w l b o → StIn (argZ A) w l b o
  | .nil, _, _, _ => trivial
  | .cons op f ex th el rest, b, o, ⟨h1, h2, h3, h4, ⟨v, h5, h5'⟩, ⟨ao, cap, h6, h7, h8⟩, ⟨ao2, cap2, k6, k7, k8⟩, h9⟩ =>
    ⟨h1, Nat.lt_of_lt_of_le h1 hA, h3, h4, ⟨v, h5, h5'.arg hA b⟩, ⟨ao, cap, h6, h7, fun h0 => by
      obtain ⟨b', o', e, _, hr⟩ := h8 h0
      exact ⟨b', o', e, trivial, hr.arg hA⟩⟩, ⟨ao2, cap2, k6, k7, fun h0 => by
      obtain ⟨b', o', e, _, hr⟩ := k8 h0
      exact ⟨b', o', e, trivial, hr.arg hA⟩⟩, h9.arg hA⟩
theorem SlS.arg {Z : Zone} {w : World} {A up : Nat} (hA : w.heap.size ≤ A) (up' : Nat) {v : Value} {l : SL} (h : SlS Z w up v l) : SlS (argZ A) w up' v l := by
  obtain ⟨ao, cap, e, hc, hr⟩ := h
  refine ⟨ao, cap, e, hc, fun h0 => ?_⟩
  obtain ⟨b, o, e1, _, hx⟩ := hr h0
  exact ⟨b, o, e1, trivial, hx.arg hA⟩
/-- These cells hold these statements. -/
def SsIn (Z : Zone) (w : World) : SL → List Value → Prop
  | .nil, xs => xs = []
  | .cons op f x t e r, xs => ∃ xv tv ev xs', xs = .int .i64 op :: str f :: xv :: tv :: ev :: xs' ∧ SlE Z w 0 xv x ∧ SlS Z w 0 tv t ∧ SlS Z w 0 ev e ∧ SsIn Z w r xs'
theorem SsIn.len {Z : Zone} {w : World} : ∀ {l : SL} {xs : List Value}, SsIn Z w l xs → xs.length = l.len * 5
  | .nil, _, h => by have h' : _ = _ := h; subst h'; rfl
  | .cons _ _ _ _ _ _, _, ⟨xv, tv, ev, xs', e, _, _, _, h⟩ => by rw [e]; simp [SL.len, h.len]; omega
theorem SsIn.one {Z : Zone} {w : World} : ∀ {l : SL} {xs : List Value}, SsIn Z w l xs → ∀ u ∈ xs, u.oneCell' = true
  | .nil, _, h => by have h' : _ = _ := h; subst h'; simp
  | .cons _ _ _ _ _ _, _, ⟨xv, tv, ev, xs', e, h1, h2, h3, h⟩ => by
    obtain ⟨_, _, rfl, _⟩ := h1.head
    obtain ⟨_, _, rfl, _⟩ := h2.head
    obtain ⟨_, _, rfl, _⟩ := h3.head
    subst e
    intro u hu
    simp only [List.mem_cons] at hu
    rcases hu with rfl | rfl | rfl | rfl | rfl | hu
    all_goals first | rfl | exact h.one u hu
theorem SsIn.argKeep {B : Nat} {F : Nat → Prop} {w w' : World} (hk : Keeps F w w') (hF : ∀ k, F k → B ≤ k) : ∀ {l : SL} {xs : List Value}, SsIn (argZ B) w l xs → SsIn (argZ B) w' l xs
  | .nil, _, h => h
  | .cons _ _ _ _ _ _, _, ⟨xv, tv, ev, xs', e, h1, h2, h3, h⟩ => ⟨xv, tv, ev, xs', e, h1.argKeep hk hF, h2.argKeep hk hF, h3.argKeep hk hF, h.argKeep hk hF⟩
theorem SsIn.app {Z : Zone} {w : World} : ∀ {l m : SL} {xs ys : List Value}, SsIn Z w l xs → SsIn Z w m ys → SsIn Z w (l.app m) (xs ++ ys)
  | .nil, _, _, _, h, h2 => by have h' : _ = _ := h; subst h'; exact h2
  | .cons _ _ _ _ _ _, _, _, ys, ⟨xv, tv, ev, xs', e, h1, h2, h3, h⟩, hm => ⟨xv, tv, ev, xs' ++ ys, by rw [e]; rfl, h1, h2, h3, h.app hm⟩
theorem SlE.anyUp {w : World} {up : Nat} {B : Nat} (up' : Nat) {v : Value} {l : EL} (h : SlE (argZ B) w up v l) : SlE (argZ B) w up' v l := by
  obtain ⟨ao, cap, e, hc, hr⟩ := h
  refine ⟨ao, cap, e, hc, fun h0 => ?_⟩
  obtain ⟨b, o, e1, _, hx⟩ := hr h0
  exact ⟨b, o, e1, trivial, hx⟩
theorem SlS.anyUp {w : World} {up : Nat} {B : Nat} (up' : Nat) {v : Value} {l : SL} (h : SlS (argZ B) w up v l) : SlS (argZ B) w up' v l := by
  obtain ⟨ao, cap, e, hc, hr⟩ := h
  refine ⟨ao, cap, e, hc, fun h0 => ?_⟩
  obtain ⟨b, o, e1, _, hx⟩ := hr h0
  exact ⟨b, o, e1, trivial, hx⟩
/-- The cells as statements in a block. -/
theorem SsIn.stIn {B : Nat} {w : World} {A b : Nat} (hb : b < w.heap.size) (hA : w.heap.size ≤ A) : ∀ {l : SL} {xs : List Value} {o : Nat}, SsIn (argZ B) w l xs → (∀ j x, xs[j]? = some x → w.cell? ⟨b, o + j, none⟩ = some x) → StIn (argZ A) w l b o
  | .nil, _, _, _, _ => trivial
  | .cons op f x t e r, _, o, ⟨xv, tv, ev, xs', ee, h1, h2, h3, h4⟩, hc => by
    subst ee
    obtain ⟨ao, cap, et, hcap, hr⟩ := h2.arg hA b
    obtain ⟨ao2, cap2, ee2, hcap2, hr2⟩ := h3.arg hA b
    refine ⟨hb, Nat.lt_of_lt_of_le hb hA, hc 0 _ rfl, hc 1 _ rfl, ⟨xv, hc 2 _ rfl, h1.arg hA b⟩, ⟨ao, cap, by rw [← et]; exact hc 3 _ rfl, hcap, hr⟩, ⟨ao2, cap2, by rw [← ee2]; exact hc 4 _ rfl, hcap2, hr2⟩, SsIn.stIn hb hA h4 (fun j x hx => ?_)⟩
    rw [show o + 5 + j = o + (j + 5) by omega]
    exact hc (j + 5) x (by simpa using hx)
theorem Tryz.info39 : (Tryz.prog.info? 39).map (fun i => (i.zero, i.size, i.bytes)) = some (some (.agg #[.int .i64 0, .string ⟨#[]⟩, .slice none 0 0, .slice none 0 0, .slice none 0 0]), 5, 96) := by kernel_rfl
set_option maxRecDepth 100000 in
theorem run_appendS_no (w : World) (ty : TypeId) (ao : Option Addr) (n c xc : Nat) (hnc : n ≤ c) : (Builtin.append_ #[28, 28] ty #[.slice ao n c, .slice none 0 xc]).run Tryz.prog w = .ok (.slice ao n c) w := by
  obtain ⟨i0, hi, hz0, hz1, hz2⟩ := info_parts Tryz.info39
  cases ao <;> simp [Builtin.append_, Builtin.lenOf, Builtin.firstCells, storeCells, go_sem, sizeOf, typeInfo, hi, hnc]
theorem grownBy_same (w : World) (row : Option Nat) : w.grownBy w row := ⟨rfl, rfl, rfl, Nat.le_refl _, fun _ _ _ => rfl⟩
/-- A row appended to a row of one's own, however long, nil too. -/
theorem run_append_row {P : Program} (w : World) (base : Nat) (t ty e : TypeId) (i : TypeInfo) (z : Value) (size bytes : Nat) (ht : P.underlying t = some (.slice e)) (hi : P.info? e = some i) (hz : i.zero = some z)
    (hsize : i.size = size) (hby : i.bytes = bytes) (hzs : z.cells.size = size) (hsz : 0 < size)
    (v : Value) (n : Nat) (xs : List Value) (hown : w.ownsRow base e size v n xs) (u : Value) (m : Nat) (ys : List Value) (hu : RowAt w u m ys) (hl : ys.length = m * size) (h1 : ∀ u ∈ ys, u.oneCell' = true)
    (h63 : n + m ≤ maxLen) (hbytes : (n + m) * bytes ≤ 140737488355328) (hbase : base ≤ w.heap.size)
    (hno : ∀ (ao : Option Addr) (n c xc : Nat), n ≤ c → (Builtin.append_ #[t, t] ty #[.slice ao n c, .slice none 0 xc]).run P w = .ok (.slice ao n c) w) :
    ∃ v' w', (Builtin.append_ #[t, t] ty #[v, u]).run P w = .ok v' w' ∧ w'.ownsRow base e size v' (n + m) (xs ++ ys) ∧ w.grownBy w' v.ownBlock ∧ (v'.ownBlock = v.ownBlock ∨ v'.ownBlock = some w.heap.size) := by
  obtain ⟨uo, uc, rfl⟩ := RowAt.form hu
  cases uo with
  | none =>
    have h0 : m = 0 := by
      rcases Nat.eq_zero_or_pos m with h | h
      · exact h
      · obtain ⟨b, off, cap, e, _⟩ := RowAt.cells hu h
        simp at e
    subst h0
    obtain rfl : ys = [] := List.eq_nil_of_length_eq_zero (by rw [hl]; simp)
    obtain ⟨ao, c, rfl⟩ := (rowAt_own hown).form
    have hnc := (rowAt_own hown).room _ _ _ rfl
    exact ⟨_, w, hno ao n c uc hnc, by simpa using hown, grownBy_same _ _, Or.inl rfl⟩
  | some ad =>
    obtain ⟨v', w', hr, h2, h3, _, h5⟩ := run_append_own_at (P := P) w base t ty e i z size bytes ht hi hz hsize hby hzs hsz v n xs hown ad m uc ys hl (fun j x hx => by
      have h0 : 0 < m := by
        have h := (List.getElem?_eq_some_iff.1 hx).1
        rw [hl] at h
        rcases Nat.eq_zero_or_pos m with h' | h'
        · rw [h', Nat.zero_mul] at h; omega
        · exact h'
      obtain ⟨b, off, cap, e, _, hc⟩ := RowAt.cells hu h0
      simp at e
      obtain ⟨rfl, rfl⟩ := e
      have := hc j x hx
      rw [show (⟨b, off, none⟩ : Addr).add j = ⟨b, off + j, none⟩ by simp only [Addr.add_lit]]
      exact this) h1 h63 hbytes hbase
    exact ⟨v', w', hr, h2, h3, h5⟩
theorem wpList_append_row {P : Program} {w : World} {ops : Array Oper} {rest : List Oper} {o : Oper} {a : Act} {Q : Exit → Act → World → Prop} (hgd : o.guard = none) (s x : Operand) (t : TypeId)
    (ho : o.op = .call { callee := .builtin .append, args := #[s, x], argTypes := #[t, t] }) (base : Nat) (e : TypeId) (i : TypeInfo) (z : Value) (size bytes : Nat) (ht : P.underlying t = some (.slice e)) (hi : P.info? e = some i) (hz : i.zero = some z)
    (hsize : i.size = size) (hby : i.bytes = bytes) (hzs : z.cells.size = size) (hsz : 0 < size)
    (v : Value) (n : Nat) (xs : List Value) (hs : a.eval s = v) (hown : w.ownsRow base e size v n xs) (u : Value) (m : Nat) (ys : List Value) (hx : a.eval x = u) (hu : RowAt w u m ys) (hl : ys.length = m * size) (h1 : ∀ u ∈ ys, u.oneCell' = true)
    (h63 : n + m ≤ maxLen) (hbytes : (n + m) * bytes ≤ 140737488355328) (hbase : base ≤ w.heap.size)
    (hno : ∀ (ty : TypeId) (ao : Option Addr) (n c xc : Nat), n ≤ c → (Builtin.append_ #[t, t] ty #[.slice ao n c, .slice none 0 xc]).run P w = .ok (.slice ao n c) w)
    (h : ∀ v' w', w'.ownsRow base e size v' (n + m) (xs ++ ys) → w.grownBy w' v.ownBlock → (v'.ownBlock = v.ownBlock ∨ v'.ownBlock = some w.heap.size) → wpList P ops Q rest (a.put o.dst v') w') : wpList P ops Q (o :: rest) a w :=
  wpList_plain hgd fun _ hK => by
    obtain ⟨v', w', hr, h2, h3, h4⟩ := run_append_row w base t o.type e i z size bytes ht hi hz hsize hby hzs hsz v n xs hown u m ys hu hl h1 h63 hbytes hbase (hno o.type)
    unfold Oper.wp execOp
    simp only [ho, resolve, invoke, builtin, Sem.run_bind, Sem.run_pure, Result.andThen_ok, List.map_toArray, List.map_cons, List.map_nil, hs, hx, hr]
    exact hK _ _ (h v' w' h2 h3 h4)
end Go.Proofs.YtiinohibmcefkaaGreatDoor
