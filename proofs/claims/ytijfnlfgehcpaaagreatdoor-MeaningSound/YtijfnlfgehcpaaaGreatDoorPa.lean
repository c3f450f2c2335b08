import Derived.Test.YtijfnlfgehcpaaaGreatDoorJak
import Derived.Test.YtijfnlfgehcpaaaGreatDoorJaa
import Derived.Test.YtijfnlfgehcpaaaGreatDoorJaf
import Derived.Maps.AppendAt
namespace Go.Proofs.YtijfnlfgehcpaaaGreatDoor
open Go.RowKit Go.Maps

/-- A program's statements by their numbers. -/
def flatS : SL → SL
  | .nil => .nil
  | .cons op f x t e r => .cons op f x t e ((flatS t).app ((flatS e).app (flatS r)))
theorem flatS_len : ∀ l : SL, (flatS l).len = countS l
  | .nil => rfl
  | .cons op f x t e r => by simp only [flatS, SL.len, SL.len_app, countS, flatS_len t, flatS_len e, flatS_len r]; omega
theorem flatS_app : ∀ l m : SL, flatS (l.app m) = (flatS l).app (flatS m)
  | .nil, _ => rfl
  | .cons op f x t e r, m => by simp only [SL.app, flatS, flatS_app r m, SL.app_assoc]
theorem ExIn.arg {Z : Zone} {w : World} {A : Nat} (hA : w.heap.size ≤ A) : ∀ {l : EL} {b o : Nat}, ExIn Z w l b o → ExIn (argZ A) w l b o
  | .nil, _, _, _ => trivial
  | .cons op n s kids rest, b, o, ⟨h1, h2, h3, h4, h5, ⟨ao, cap, h6, h7, h8⟩, h9⟩ =>
    ⟨h1, Nat.lt_of_lt_of_le h1 hA, h3, h4, h5, ⟨ao, cap, h6, h7, fun h0 => by
      obtain ⟨b', o', e, _, hr⟩ := h8 h0
      exact ⟨b', o', e, trivial, hr.arg hA⟩⟩, h9.arg hA⟩
theorem SlE.arg {Z : Zone} {w : World} {A up : Nat} (hA : w.heap.size ≤ A) (up' : Nat) {v : Value} {l : EL} (h : SlE Z w up v l) : SlE (argZ A) w up' v l := by
  obtain ⟨ao, cap, e, hc, hr⟩ := h
  refine ⟨ao, cap, e, hc, fun h0 => ?_⟩
  obtain ⟨b, o, e1, _, hx⟩ := hr h0
  exact ⟨b, o, e1, trivial, hx.arg hA⟩
theorem StIn.arg {Z : Zone} {w : World} {A : Nat} (hA : w.heap.size ≤ A) : ∀ {l : SL} {b o : Nat}, StIn Z w l b o → StIn (argZ A) w l b o
  | .nil, _, _, _ => trivial
  | .cons op f ex th el rest, b, o, ⟨h1, h2, h3, h4, ⟨v, h5, h5'⟩, ⟨ao, cap, h6, h7, h8⟩, ⟨ao2, cap2, k6, k7, k8⟩, h9⟩ =>
    ⟨h1, Nat.lt_of_lt_of_le h1 hA, h3, h4, ⟨v, h5, h5'.arg hA b⟩, ⟨ao, cap, h6, h7, fun h0 => by
      obtain ⟨b', o', e, _, hr⟩ := h8 h0
      exact ⟨b', o', e, trivial, hr.arg hA⟩⟩, ⟨ao2, cap2, k6, k7, fun h0 => by
      obtain ⟨b', o', e, _, hr⟩ := k8 h0
      exact ⟨b', o', e, trivial, hr.arg hA⟩⟩, h9.arg hA⟩
theorem SlS.arg {Z : Zone} {w : World} {A up : Nat} (hA : w.heap.size ≤ A) (up' : Nat) {v : Value} {l : SL} (h : SlS Z w up v l) : SlS (argZ A) w up' v l := by
  obtain ⟨ao, cap, e, hc, hr⟩ := h
  refine ⟨ao, cap, e, hc, fun h0 => ?_⟩
  obtain ⟨b, o, e1, _, hx⟩ := hr h0
  exact ⟨b, o, e1, trivial, hx.arg hA⟩
/-- These cells hold these statements. -/
def SsIn (Z : Zone) (w : World) : SL → List Value → Prop
  | .nil, xs => xs = []
  | .cons op f x t e r, xs => ∃ xv tv ev xs', xs = .int .i64 op :: str f :: xv :: tv :: ev :: xs' ∧ SlE Z w 0 xv x ∧ SlS Z w 0 tv t ∧ SlS Z w 0 ev e ∧ SsIn Z w r xs'
theorem SsIn.len {Z : Zone} {w : World} : ∀ {l : SL} {xs : List Value}, SsIn Z w l xs → xs.length = l.len * 5
  | .nil, _, h => by have h' : _ = _ := h; subst h'; rfl
  | .cons _ _ _ _ _ _, _, ⟨xv, tv, ev, xs', e, _, _, _, h⟩ => by rw [e]; simp [SL.len, h.len]; omega
theorem SsIn.one {Z : Zone} {w : World} : ∀ {l : SL} {xs : List Value}, SsIn Z w l xs → ∀ u ∈ xs, u.oneCell' = true
  | .nil, _, h => by have h' : _ = _ := h; subst h'; simp
  | .cons _ _ _ _ _ _, _, ⟨xv, tv, ev, xs', e, h1, h2, h3, h⟩ => by
    obtain ⟨_, _, rfl, _⟩ := h1.head
    obtain ⟨_, _, rfl, _⟩ := h2.head
    obtain ⟨_, _, rfl, _⟩ := h3.head
    subst e
    intro u hu
    simp only [List.mem_cons] at hu
    rcases hu with rfl | rfl | rfl | rfl | rfl | hu
    all_goals first | rfl | exact h.one u hu
theorem SsIn.argKeep {B : Nat} {F : Nat → Prop} {w w' : World} (hk : Keeps F w w') (hF : ∀ k, F k → B ≤ k) : ∀ {l : SL} {xs : List Value}, SsIn (argZ B) w l xs → SsIn (argZ B) w' l xs
  | .nil, _, h => h
  | .cons _ _ _ _ _ _, _, ⟨xv, tv, ev, xs', e, h1, h2, h3, h⟩ => ⟨xv, tv, ev, xs', e, h1.argKeep hk hF, h2.argKeep hk hF, h3.argKeep hk hF, h.argKeep hk hF⟩
theorem SsIn.app {Z : Zone} {w : World} : ∀ {l m : SL} {xs ys : List Value}, SsIn Z w l xs → SsIn Z w m ys → SsIn Z w (l.app m) (xs ++ ys)
  | .nil, _, _, _, h, h2 => by have h' : _ = _ := h; subst h'; exact h2
  | .cons _ _ _ _ _ _, _, _, ys, ⟨xv, tv, ev, xs', e, h1, h2, h3, h⟩, hm => ⟨xv, tv, ev, xs' ++ ys, by rw [e]; rfl, h1, h2, h3, h.app hm⟩
theorem SlE.anyUp {w : World} {up : Nat} {B : Nat} (up' : Nat) {v : Value} {l : EL} (h : SlE (argZ B) w up v l) : SlE (argZ B) w up' v l := by
  obtain ⟨ao, cap, e, hc, hr⟩ := h
  refine ⟨ao, cap, e, hc, fun h0 => ?_⟩
  obtain ⟨b, o, e1, _, hx⟩ := hr h0
  exact ⟨b, o, e1, trivial, hx⟩
theorem SlS.anyUp {w : World} {up : Nat} {B : Nat} (up' : Nat) {v : Value} {l : SL} (h : SlS (argZ B) w up v l) : SlS (argZ B) w up' v l := by
  obtain ⟨ao, cap, e, hc, hr⟩ := h
  refine ⟨ao, cap, e, hc, fun h0 => ?_⟩
  obtain ⟨b, o, e1, _, hx⟩ := hr h0
  exact ⟨b, o, e1, trivial, hx⟩
/-- The cells as statements in a block. -/
theorem SsIn.stIn {B : Nat} {w : World} {A b : Nat} (hb : b < w.heap.size) (hA : w.heap.size ≤ A) : ∀ {l : SL} {xs : List Value} {o : Nat}, SsIn (argZ B) w l xs → (∀ j x, xs[j]? = some x → w.cell? ⟨b, o + j, none⟩ = some x) → StIn (argZ A) w l b o
  | .nil, _, _, _, _ => trivial
  | .cons op f x t e r, _, o, ⟨xv, tv, ev, xs', ee, h1, h2, h3, h4⟩, hc => by
    subst ee
    obtain ⟨ao, cap, et, hcap, hr⟩ := h2.arg hA b
    obtain ⟨ao2, cap2, ee2, hcap2, hr2⟩ := h3.arg hA b
    refine ⟨hb, Nat.lt_of_lt_of_le hb hA, hc 0 _ rfl, hc 1 _ rfl, ⟨xv, hc 2 _ rfl, h1.arg hA b⟩, ⟨ao, cap, by rw [← et]; exact hc 3 _ rfl, hcap, hr⟩, ⟨ao2, cap2, by rw [← ee2]; exact hc 4 _ rfl, hcap2, hr2⟩, SsIn.stIn hb hA h4 (fun j x hx => ?_)⟩
    rw [show o + 5 + j = o + (j + 5) by omega]
    exact hc (j + 5) x (by simpa using hx)
theorem Tryz.info71 : (Tryz.prog.info? 71).map (fun i => (i.zero, i.size, i.bytes)) = some (some (.agg #[.int .i64 0, .string ⟨#[]⟩, .slice none 0 0, .slice none 0 0, .slice none 0 0]), 5, 96) := by kernel_rfl
set_option maxRecDepth 100000 in
theorem run_appendS_no (w : World) (ty : TypeId) (ao : Option Addr) (n c xc : Nat) (hnc : n ≤ c) : (Builtin.append_ #[28, 28] ty #[.slice ao n c, .slice none 0 xc]).run Tryz.prog w = .ok (.slice ao n c) w := by
  obtain ⟨i0, hi, hz0, hz1, hz2⟩ := info_parts Tryz.info71
  cases ao <;> simp [Builtin.append_, Builtin.lenOf, Builtin.firstCells, storeCells, go_sem, sizeOf, typeInfo, hi, hnc]
theorem grownBy_same (w : World) (row : Option Nat) : w.grownBy w row := ⟨rfl, rfl, rfl, Nat.le_refl _, fun _ _ _ => rfl⟩
/-- A row appended to a row of one's own, however long, nil too. -/
theorem run_append_row {P : Program} (w : World) (base : Nat) (t ty e : TypeId) (i : TypeInfo) (z : Value) (size bytes : Nat) (ht : P.underlying t = some (.slice e)) (hi : P.info? e = some i) (hz : i.zero = some z)
    (hsize : i.size = size) (hby : i.bytes = bytes) (hzs : z.cells.size = size) (hsz : 0 < size)
    (v : Value) (n : Nat) (xs : List Value) (hown : w.ownsRow base e size v n xs) (u : Value) (m : Nat) (ys : List Value) (hu : RowAt w u m ys) (hl : ys.length = m * size) (h1 : ∀ u ∈ ys, u.oneCell' = true)
    (h63 : n + m ≤ maxLen) (hbytes : (n + m) * bytes ≤ 140737488355328) (hbase : base ≤ w.heap.size)
    (hno : ∀ (ao : Option Addr) (n c xc : Nat), n ≤ c → (Builtin.append_ #[t, t] ty #[.slice ao n c, .slice none 0 xc]).run P w = .ok (.slice ao n c) w) :
    ∃ v' w', (Builtin.append_ #[t, t] ty #[v, u]).run P w = .ok v' w' ∧ w'.ownsRow base e size v' (n + m) (xs ++ ys) ∧ w.grownBy w' v.ownBlock ∧ (v'.ownBlock = v.ownBlock ∨ v'.ownBlock = some w.heap.size) := by
  obtain ⟨uo, uc, rfl⟩ := RowAt.form hu
  cases uo with
  | none =>
    have h0 : m = 0 := by
      rcases Nat.eq_zero_or_pos m with h | h
      · exact h
      · obtain ⟨b, off, cap, e, _⟩ := RowAt.cells hu h
        simp at e
    subst h0
    obtain rfl : ys = [] := List.eq_nil_of_length_eq_zero (by rw [hl]; simp)
    obtain ⟨ao, c, rfl⟩ := (rowAt_own hown).form
    have hnc := (rowAt_own hown).room _ _ _ rfl
    exact ⟨_, w, hno ao n c uc hnc, by simpa using hown, grownBy_same _ _, Or.inl rfl⟩
  | some ad =>
    obtain ⟨v', w', hr, h2, h3, _, h5⟩ := run_append_own_at (P := P) w base t ty e i z size bytes ht hi hz hsize hby hzs hsz v n xs hown ad m uc ys hl (fun j x hx => by
      have h0 : 0 < m := by
        have h := (List.getElem?_eq_some_iff.1 hx).1
        rw [hl] at h
        rcases Nat.eq_zero_or_pos m with h' | h'
        · rw [h', Nat.zero_mul] at h; omega
        · exact h'
      obtain ⟨b, off, cap, e, _, hc⟩ := RowAt.cells hu h0
      simp at e
      obtain ⟨rfl, rfl⟩ := e
      have := hc j x hx
      rw [show (⟨b, off, none⟩ : Addr).add j = ⟨b, off + j, none⟩ by simp only [Addr.add_lit]]
      exact this) h1 h63 hbytes hbase
    exact ⟨v', w', hr, h2, h3, h5⟩
theorem wpList_append_row {P : Program} {w : World} {ops : Array Oper} {rest : List Oper} {o : Oper} {a : Act} {Q : Exit → Act → World → Prop} (hgd : o.guard = none) (s x : Operand) (t : TypeId)
    (ho : o.op = .call { callee := .builtin .append, args := #[s, x], argTypes := #[t, t] }) (base : Nat) (e : TypeId) (i : TypeInfo) (z : Value) (size bytes : Nat) (ht : P.underlying t = some (.slice e)) (hi : P.info? e = some i) (hz : i.zero = some z)
    (hsize : i.size = size) (hby : i.bytes = bytes) (hzs : z.cells.size = size) (hsz : 0 < size)
    (v : Value) (n : Nat) (xs : List Value) (hs : a.eval s = v) (hown : w.ownsRow base e size v n xs) (u : Value) (m : Nat) (ys : List Value) (hx : a.eval x = u) (hu : RowAt w u m ys) (hl : ys.length = m * size) (h1 : ∀ u ∈ ys, u.oneCell' = true)
    (h63 : n + m ≤ maxLen) (hbytes : (n + m) * bytes ≤ 140737488355328) (hbase : base ≤ w.heap.size)
    (hno : ∀ (ty : TypeId) (ao : Option Addr) (n c xc : Nat), n ≤ c → (Builtin.append_ #[t, t] ty #[.slice ao n c, .slice none 0 xc]).run P w = .ok (.slice ao n c) w)
    (h : ∀ v' w', w'.ownsRow base e size v' (n + m) (xs ++ ys) → w.grownBy w' v.ownBlock → (v'.ownBlock = v.ownBlock ∨ v'.ownBlock = some w.heap.size) → wpList P ops Q rest (a.put o.dst v') w') : wpList P ops Q (o :: rest) a w :=
  wpList_plain hgd fun _ hK => by
    obtain ⟨v', w', hr, h2, h3, h4⟩ := run_append_row w base t o.type e i z size bytes ht hi hz hsize hby hzs hsz v n xs hown u m ys hu hl h1 h63 hbytes hbase (hno o.type)
    unfold Oper.wp execOp
    simp only [ho, resolve, invoke, builtin, Sem.run_bind, Sem.run_pure, Result.andThen_ok, List.map_toArray, List.map_cons, List.map_nil, hs, hx, hr]
    exact hK _ _ (h v' w' h2 h3 h4)
end Go.Proofs.YtijfnlfgehcpaaaGreatDoor
