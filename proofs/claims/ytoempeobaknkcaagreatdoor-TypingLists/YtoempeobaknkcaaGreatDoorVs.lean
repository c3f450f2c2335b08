import Derived.Test.YtoempeobaknkcaaGreatDoorVr
import Derived.Test.YtoempeobaknkcaaGreatDoorJyao
import Derived.Test.YtoempeobaknkcaaGreatDoorUh
namespace Go.Proofs.YtoempeobaknkcaaGreatDoor
open Go.RowKit Go.Maps

theorem fieldsP_le (S : List FieldA) (l : SL) : (fieldsP S l).1.length ≤ 8 ∧ (fieldsP S l).2.1.length ≤ 8 := by
  unfold fieldsP
  split
  · simp
  · rename_i h
    have h := (checkP_zero (by simpa using h)).1
    unfold schemaB at h
    simp only [Bool.and_eq_true, decide_eq_true_eq] at h
    have hl8 := h.1.1.1.2
    exact ⟨Nat.le_trans (pick_le S _) hl8, Nat.le_trans (pick_le S _) hl8⟩
theorem sl_last : ∀ l : SL, l.len ≠ 0 → ∃ (pre : SL) (op : Int) (f : Txt) (x : EL) (t e : SL), l = pre.app (.cons op f x t e .nil) ∧ pre.len + 1 = l.len
  | .nil, h => absurd rfl h
  | .cons op f x t e .nil, _ => ⟨.nil, op, f, x, t, e, rfl, rfl⟩
  | .cons op f x t e (.cons op2 f2 x2 t2 e2 r), _ => by
    obtain ⟨pre, o, g, y, a, b, h1, h2⟩ := sl_last (.cons op2 f2 x2 t2 e2 r) (by simp [SL.len])
    refine ⟨.cons op f x t e pre, o, g, y, a, b, by rw [h1]; rfl, ?_⟩
    simp only [SL.len] at h2 ⊢
    omega
theorem SsIn.split {Z : Zone} {w : World} : ∀ {l m : SL} {xs : List Value}, SsIn Z w (l.app m) xs → ∃ ys zs, xs = ys ++ zs ∧ ys.length = l.len * 5 ∧ SsIn Z w l ys ∧ SsIn Z w m zs
  | .nil, _, xs, h => ⟨[], xs, rfl, by simp [SL.len], rfl, h⟩
  | .cons op f x t e r, m, xs, ⟨xv, tv, ev, xs', he, h1, h2, h3, h⟩ => by
    obtain ⟨ys, zs, e1, e2, h4, h5⟩ := SsIn.split h
    exact ⟨.int .i64 op :: str f :: xv :: tv :: ev :: ys, zs, by rw [he, e1]; rfl, by simp [SL.len, e2]; omega, ⟨xv, tv, ev, ys, rfl, h1, h2, h3, h4⟩, h5⟩
/-- The first item of a row of statements is written over. -/
theorem row_put0 {w : World} {B n c g : Nat} {a b d e f a' b' d' e' f' : Value} {ys : List Value} (h : w.ownsRow B 53 5 (.slice (some ⟨g, 0, none⟩) n c) n (a :: b :: d :: e :: f :: ys)) :
    (((((w.setCell ⟨g, 0, none⟩ a').setCell ⟨g, 1, none⟩ b').setCell ⟨g, 2, none⟩ d').setCell ⟨g, 3, none⟩ e').setCell ⟨g, 4, none⟩ f').ownsRow B 53 5 (.slice (some ⟨g, 0, none⟩) n c) n (a' :: b' :: d' :: e' :: f' :: ys) := by
  have q := (((((h.stored 0 a').1.stored 1 b').1.stored 2 d').1.stored 3 e').1.stored 4 f').1
  simpa using q
/-- A row of statements as a tree. -/
theorem row_slS {A : Nat → Prop} {w : World} {B : Nat} {v : Value} {l : SL} {xs : List Value} (h : w.ownsRow B 53 5 v l.len xs) (hc : SsIn (inZ A) w l xs) (up : Nat) : SlS (inZ (fun _ => True)) w up v l := by
  have hrow := rowAt_own h
  obtain ⟨ao, cap, rfl⟩ := hrow.form
  refine ⟨ao, cap, rfl, hrow.room _ _ _ rfl, fun h0 => ?_⟩
  obtain ⟨g, goff, gc, e, hg, hgc⟩ := hrow.cells (by omega)
  simp at e
  obtain ⟨rfl, rfl⟩ := e
  exact ⟨g, goff, rfl, trivial, SsIn.stInZ hg trivial (fun _ _ _ => trivial) hc hgc⟩
theorem ssIn_nil3 {A : Nat → Prop} {w : World} {op : Int} {f : Txt} {r : SL} {ys : List Value} (h : SsIn (inZ A) w r ys) : SsIn (inZ A) w (.cons op f .nil .nil .nil r) (.int .i64 op :: str f :: .slice none 0 0 :: .slice none 0 0 :: .slice none 0 0 :: ys) :=
  ⟨_, _, _, ys, rfl, ⟨none, 0, rfl, Nat.le_refl _, fun h => absurd rfl h⟩, ⟨none, 0, rfl, Nat.le_refl _, fun h => absurd rfl h⟩, ⟨none, 0, rfl, Nat.le_refl _, fun h => absurd rfl h⟩, h⟩
/-- The first statement is the last one. -/
theorem put_last {A : Nat → Prop} {w : World} {B n c g : Nat} {L : SL} {xs : List Value} (hn : L.len = n) (h0 : 0 < n) (h : w.ownsRow B 53 5 (.slice (some ⟨g, 0, none⟩) n c) n xs) (hc : SsIn (inZ A) w L xs) :
    ∃ (op : Int) (s : Txt) (xo : Option Addr) (xn xc : Nat) (so : Option Addr) (sn sc : Nat) (eo : Option Addr) (en ec : Nat) (L' : SL), (∀ k x, [Value.int .i64 op, str s, .slice xo xn xc, .slice so sn sc, .slice eo en ec][k]? = some x → xs[(n - 1) * 5 + k]? = some x) ∧ L'.len = n ∧ L'.size ≤ 2 * L.size ∧
      ∀ w', Keeps (fun q => q = g) w w' → (∀ q, A q → q ≠ g) → ∃ ys, SsIn (inZ A) w' L' (.int .i64 op :: str s :: .slice xo xn xc :: .slice so sn sc :: .slice eo en ec :: ys) ∧ ∃ a0 b0 d0 e0 f0, xs = a0 :: b0 :: d0 :: e0 :: f0 :: ys := by
  obtain ⟨pre, op, s, x, t, e, rfl, hp⟩ := sl_last L (by omega)
  obtain ⟨ys, zs, rfl, hl, h1, h2⟩ := SsIn.split hc
  obtain ⟨xv, tv, ev, xs', rfl, a1, a2, a3, h4⟩ := h2
  have h4' : xs' = [] := h4
  subst h4'
  obtain ⟨xo, xc, rfl, _⟩ := a1.head
  obtain ⟨so, sc, rfl, _⟩ := a2.head
  obtain ⟨eo, ec, rfl, _⟩ := a3.head
  have hk : ∀ k v, [Value.int .i64 op, str s, .slice xo x.len xc, .slice so t.len sc, .slice eo e.len ec][k]? = some v → (ys ++ [Value.int .i64 op, str s, .slice xo x.len xc, .slice so t.len sc, .slice eo e.len ec])[(n - 1) * 5 + k]? = some v := by
    intro k v hv
    rw [show (n - 1) * 5 + k = ys.length + k by rw [hl]; omega, List.getElem?_append_right (by omega), Nat.add_sub_cancel_left]
    exact hv
  cases pre with
  | nil =>
    have hy : ys = [] := h1
    subst hy
    refine ⟨_, _, _, _, _, _, _, _, _, _, _, .cons op s x t e .nil, hk, hn, by simp only [SL.app]; omega, fun w' hw hA => ⟨[], ?_, _, _, _, _, _, rfl⟩⟩
    exact ⟨_, _, _, [], rfl, a1.inKeep hw (fun q _ h e => hA q h e), a2.inKeep hw (fun q _ h e => hA q h e), a3.inKeep hw (fun q _ h e => hA q h e), rfl⟩
  | cons op0 s0 x0 t0 e0 pre =>
    obtain ⟨xv0, tv0, ev0, ys', rfl, _, _, _, h5⟩ := h1
    refine ⟨_, _, _, _, _, _, _, _, _, _, _, .cons op s x t e (pre.app (.cons op s x t e .nil)), hk, by simp only [SL.app, SL.len] at hn ⊢; exact hn, by simp only [SL.app, SL.size, SL.size_app]; omega, fun w' hw hA => ⟨ys' ++ [.int .i64 op, str s, .slice xo x.len xc, .slice so t.len sc, .slice eo e.len ec], ?_, _, _, _, _, _, rfl⟩⟩
    have k1 := a1.inKeep hw (fun q _ h e => hA q h e)
    have k2 := a2.inKeep hw (fun q _ h e => hA q h e)
    have k3 := a3.inKeep hw (fun q _ h e => hA q h e)
    exact ⟨_, _, _, _, rfl, k1, k2, k3, (h5.inKeep hw (fun q _ h e => hA q h e)).app ⟨_, _, _, [], rfl, k1, k2, k3, rfl⟩⟩
/-- The first statement is of no kind. -/
theorem put_none {A : Nat → Prop} {w : World} {n : Nat} {L : SL} {xs : List Value} (hn : L.len = n) (h0 : 0 < n) (hc : SsIn (inZ A) w L xs) :
    ∃ L', L'.len = n ∧ L'.size ≤ L.size ∧ ∃ a0 b0 d0 e0 f0 ys, xs = a0 :: b0 :: d0 :: e0 :: f0 :: ys ∧
      ∀ w' g, Keeps (fun q => q = g) w w' → (∀ q, A q → q ≠ g) → SsIn (inZ A) w' L' (.int .i64 99 :: str [] :: .slice none 0 0 :: .slice none 0 0 :: .slice none 0 0 :: ys) := by
  cases L with
  | nil => simp [SL.len] at hn; omega
  | cons op s x t e r =>
    obtain ⟨xv, tv, ev, ys, rfl, _, _, _, h⟩ := hc
    exact ⟨.cons 99 [] .nil .nil .nil r, hn, by simp only [SL.size, EL.size]; omega, _, _, _, _, _, ys, rfl, fun w' g hw hA => ssIn_nil3 (h.inKeep hw (fun q _ h e => hA q h e))⟩
end Go.Proofs.YtoempeobaknkcaaGreatDoor
