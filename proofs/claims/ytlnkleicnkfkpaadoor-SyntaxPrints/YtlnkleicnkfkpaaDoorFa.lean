import Derived.Test.YtlnkleicnkfkpaaDoorEx
import Derived.Laws.MakeOwn
namespace Go.Proofs.YtlnkleicnkfkpaaDoor
open Go.RowKit Go.Maps

/-- The kind of a tree's block. -/
def kindT (s : Bool) : TypeId := if s then 51 else 25
/-- Copies: each list in a block of its own, below it only later blocks. -/
def cpyZ : Zone := ⟨fun w s k => ∃ c, w.heap[k]? = some (.cells c (kindT s) (0, 0)), fun b b' => b < b', fun hk hl ⟨c, h⟩ => ⟨c, (hk.block _ hl id).trans h⟩⟩
/-- A list lent out, with its marks behind it. -/
def slv (p : Nat × Nat) : Value := .slice (some ⟨p.1, 0, none⟩) (p.2 + 8) (p.2 + 8)
def behindT : Txt := [98, 101, 104, 105, 110, 100]
def MarkE (w : World) (p : Nat × Nat) : Prop := ∃ c, w.heap[p.1]? = some (.cells c 25 (0, 0)) ∧ (∀ k, p.2 ≤ k → k < p.2 + 8 → c[k * 4]? = some (.int .i64 (9000 + (k : Int))) ∧ c[k * 4 + 2]? = some (str behindT)) ∧ p.2 ≤ 2147483647
def MarkS (w : World) (p : Nat × Nat) : Prop := ∃ c, w.heap[p.1]? = some (.cells c 51 (0, 0)) ∧ (∀ k, p.2 ≤ k → k < p.2 + 8 → c[k * 5]? = some (.int .i64 (9000 + (k : Int))) ∧ c[k * 5 + 1]? = some (str behindT)) ∧ p.2 ≤ 2147483647
/-- What was lent out. -/
structure Bh (w : World) (B g : Nat) (LE LS : List (Nat × Nat)) (vS vE : Value) : Prop where
  lo : B ≤ g
  blk : w.heap[g]? = some (.cells #[vS, vE] 32 (0, 0))
  rowS : w.ownsRow B 22 1 vS LS.length (LS.map slv)
  rowE : w.ownsRow B 23 1 vE LE.length (LE.map slv)
  ex : ∀ p ∈ LE, MarkE w p
  st : ∀ p ∈ LS, MarkS w p
/-- What may be written: the book and its rows. -/
def BF (w : World) (B g k : Nat) : Prop := k = g ∨ (B ≤ k ∧ ∃ c t, (t = 22 ∨ t = 23) ∧ w.heap[k]? = some (.cells c t (0, 0)))

theorem own_block {w : World} {B e size n : Nat} {v : Value} {xs : List Value} (h : w.ownsRow B e size v n xs) {k : Nat} (hk : v.ownBlock = some k) : B ≤ k ∧ ∃ cur, w.heap[k]? = some (.cells cur e (0, 0)) := by
  rcases h.2 with ⟨hv, _⟩ | ⟨g, cap, cur, hv, hb, hg, rest⟩
  · rw [hv] at hk; cases hk
  · rw [hv] at hk
    simp [Value.ownBlock] at hk
    subst hk
    exact ⟨hb, cur, hg⟩
theorem own_kept {w w' : World} {B e sz n : Nat} {v : Value} {xs : List Value} {F : Nat → Prop} (h : w.ownsRow B e sz v n xs) (k : Keeps F w w') (hF : ∀ b, v.ownBlock = some b → ¬ F b) : w'.ownsRow B e sz v n xs :=
  ⟨h.1, h.2.imp id fun ⟨g, cap, cur, e1, e2, e3, e4⟩ => ⟨g, cap, cur, e1, e2, (k.block g (lt_of_block e3) (hF g (by rw [e1]; rfl))).trans e3, e4⟩⟩
theorem BF.lo {w : World} {B g k : Nat} (h : BF w B g k) (hg : B ≤ g) : B ≤ k := by
  rcases h with rfl | ⟨h, _⟩
  · exact hg
  · exact h
/-- One such writing behind another. -/
theorem bf_trans {a b c : World} {B g : Nat} (h : Keeps (BF a B g) a b) (k : Keeps (BF b B g) b c) : Keeps (BF a B g) a c :=
  h.then k fun i hi hf => by
    rcases hf with rfl | ⟨hB, x, t, ht, hx⟩
    · exact Or.inl rfl
    · by_cases hq : BF a B g i
      · exact hq
      · exact Or.inr ⟨hB, x, t, ht, (h.block i hi hq).symm.trans hx⟩
theorem bf_any {a b : World} {B g : Nat} (h : Keeps (fun _ => False) a b) : Keeps (BF a B g) a b := h.any
/-- A tree's block is none that may be written. -/
theorem cpy_bf {w : World} {B g : Nat} {LE LS : List (Nat × Nat)} {vS vE : Value} (h : Bh w B g LE LS vS vE) {s : Bool} {k : Nat} (hk : cpyZ.G w s k) : ¬ BF w B g k := by
  obtain ⟨c, hc⟩ := hk
  have hc' : w.heap[k]? = some (.cells c (if s then 51 else 25) (0, 0)) := hc
  rintro (rfl | ⟨_, x, t, ht, hx⟩)
  · rw [h.blk] at hc'
    simp at hc'
    obtain ⟨_, h2⟩ := hc'
    cases s <;> simp at h2
  · rw [hx] at hc'
    simp at hc'
    obtain ⟨_, h2⟩ := hc'
    rcases ht with rfl | rfl <;> cases s <;> simp at h2
theorem cpy_stay {w w' : World} {B g : Nat} {LE LS : List (Nat × Nat)} {vS vE : Value} (h : Bh w B g LE LS vS vE) (hk : Keeps (BF w B g) w w') {s : Bool} {k : Nat} (hG : cpyZ.G w s k) : ¬ BF w B g k ∧ cpyZ.G w' s k := by
  have hn := cpy_bf h hG
  obtain ⟨c, hc⟩ := hG
  exact ⟨hn, c, (hk.block k (lt_of_block hc) hn).trans hc⟩
theorem ExIn.bf {w w' : World} {B g : Nat} {LE LS : List (Nat × Nat)} {vS vE : Value} (h : Bh w B g LE LS vS vE) (hk : Keeps (BF w B g) w w') {l : EL} {b o : Nat} (hx : ExIn cpyZ w l b o) : ExIn cpyZ w' l b o :=
  ExIn.keep (Q := fun _ => True) (fun _ _ _ _ => trivial) hk (fun _ _ _ _ hG => cpy_stay h hk hG) trivial hx
theorem SlE.bf {w w' : World} {B g : Nat} {LE LS : List (Nat × Nat)} {vS vE : Value} (h : Bh w B g LE LS vS vE) (hk : Keeps (BF w B g) w w') {l : EL} {up : Nat} {v : Value} (hx : SlE cpyZ w up v l) : SlE cpyZ w' up v l :=
  SlE.keep (Q := fun _ => True) (fun _ _ _ _ => trivial) hk (fun _ _ _ _ hG => cpy_stay h hk hG) trivial hx
theorem StIn.bf {w w' : World} {B g : Nat} {LE LS : List (Nat × Nat)} {vS vE : Value} (h : Bh w B g LE LS vS vE) (hk : Keeps (BF w B g) w w') {l : SL} {b o : Nat} (hx : StIn cpyZ w l b o) : StIn cpyZ w' l b o :=
  StIn.keep (Q := fun _ => True) (fun _ _ _ _ => trivial) hk (fun _ _ _ _ hG => cpy_stay h hk hG) trivial hx
theorem SlS.bf {w w' : World} {B g : Nat} {LE LS : List (Nat × Nat)} {vS vE : Value} (h : Bh w B g LE LS vS vE) (hk : Keeps (BF w B g) w w') {l : SL} {up : Nat} {v : Value} (hx : SlS cpyZ w up v l) : SlS cpyZ w' up v l :=
  SlS.keep (Q := fun _ => True) (fun _ _ _ _ => trivial) hk (fun _ _ _ _ hG => cpy_stay h hk hG) trivial hx
theorem MarkE.keep {w w' : World} {p : Nat × Nat} {F : Nat → Prop} (h : MarkE w p) (hk : Keeps F w w') (hF : ¬ F p.1) : MarkE w' p := by
  obtain ⟨c, hc, hm⟩ := h
  exact ⟨c, (hk.block _ (lt_of_block hc) hF).trans hc, hm⟩
theorem MarkS.keep {w w' : World} {p : Nat × Nat} {F : Nat → Prop} (h : MarkS w p) (hk : Keeps F w w') (hF : ¬ F p.1) : MarkS w' p := by
  obtain ⟨c, hc, hm⟩ := h
  exact ⟨c, (hk.block _ (lt_of_block hc) hF).trans hc, hm⟩
/-- What is lent out stays, where neither the book nor a list of it is written. -/
theorem Bh.keep {w w' : World} {B g : Nat} {LE LS : List (Nat × Nat)} {vS vE : Value} {F : Nat → Prop} (h : Bh w B g LE LS vS vE) (hk : Keeps F w w') (hg : ¬ F g) (hS : ∀ b, vS.ownBlock = some b → ¬ F b) (hE : ∀ b, vE.ownBlock = some b → ¬ F b) (h1 : ∀ p ∈ LE, ¬ F p.1) (h2 : ∀ p ∈ LS, ¬ F p.1) : Bh w' B g LE LS vS vE :=
  ⟨h.lo, (hk.block g (lt_of_block h.blk) hg).trans h.blk, own_kept h.rowS hk hS, own_kept h.rowE hk hE, fun p hp => (h.ex p hp).keep hk (h1 p hp), fun p hp => (h.st p hp).keep hk (h2 p hp)⟩
theorem Bh.keepF {w w' : World} {B g : Nat} {LE LS : List (Nat × Nat)} {vS vE : Value} (h : Bh w B g LE LS vS vE) (hk : Keeps (fun _ => False) w w') : Bh w' B g LE LS vS vE :=
  h.keep hk id (fun _ _ => id) (fun _ _ => id) (fun _ _ => id) (fun _ _ => id)
/-- A block of trees that was not lent out yet is written. -/
theorem Bh.apart {w : World} {B g : Nat} {LE LS : List (Nat × Nat)} {vS vE : Value} (h : Bh w B g LE LS vS vE) {a : Nat} {s : Bool} (hG : cpyZ.G w s a) (h1 : ∀ p ∈ LE, p.1 ≠ a) (h2 : ∀ p ∈ LS, p.1 ≠ a) {w' : World} (hk : Keeps (fun k => k = a) w w') : Bh w' B g LE LS vS vE := by
  have hn := cpy_bf h hG
  refine h.keep hk (fun e => hn (Or.inl e.symm)) (fun b hb e => ?_) (fun b hb e => ?_) (fun p hp e => h1 p hp e) (fun p hp e => h2 p hp e)
  · obtain ⟨q1, c, q2⟩ := own_block h.rowS hb
    exact hn (Or.inr ⟨e ▸ q1, c, 22, Or.inl rfl, e ▸ q2⟩)
  · obtain ⟨q1, c, q2⟩ := own_block h.rowE hb
    exact hn (Or.inr ⟨e ▸ q1, c, 23, Or.inr rfl, e ▸ q2⟩)
theorem cell_set_ne {w : World} {a o p : Nat} {c : Array Value} {t : TypeId} {fr : Nat × Nat} (h : w.heap[a]? = some (.cells c t fr)) (hne : o ≠ p) (u : Value) : (w.setCell ⟨a, p, none⟩ u).cell? ⟨a, o, none⟩ = w.cell? ⟨a, o, none⟩ := by
  rw [cell_of_blk (heap_setCell_at h u), cell_of_blk h]
  simp [Ne.symm hne]
theorem keeps_set (w : World) (a p : Nat) (u : Value) : Keeps (fun k => k = a) w (w.setCell ⟨a, p, none⟩ u) := (Keeps.refl (fun k => k = a) w).setCell (fun _ => rfl) u
theorem cpy_set {w : World} {s : Bool} {k : Nat} (hG : cpyZ.G w s k) (a p : Nat) (u : Value) : cpyZ.G (w.setCell ⟨a, p, none⟩ u) s k := by
  obtain ⟨c, hc⟩ := hG
  by_cases hk : k = a
  · subst hk
    exact ⟨_, heap_setCell_at hc u⟩
  · exact ⟨c, ((keeps_set w a p u).block k (lt_of_block hc) hk).trans hc⟩
theorem SlE.set {w : World} {up a p : Nat} {v : Value} {l : EL} (hu : a ≤ up) (h : SlE cpyZ w up v l) (u : Value) : SlE cpyZ (w.setCell ⟨a, p, none⟩ u) up v l := by
  obtain ⟨ao, cap, e, hc, hr⟩ := h
  refine ⟨ao, cap, e, hc, fun h0 => ?_⟩
  obtain ⟨b, o, e1, hp, hx⟩ := hr h0
  have hp' : up < b := hp
  exact ⟨b, o, e1, hp, ExIn.keep (Q := fun k => a < k) (fun b b' h (h' : b < b') => Nat.lt_trans h h') (keeps_set w a p u) (fun s k hq _ hG => ⟨fun (e : k = a) => by omega, cpy_set hG a p u⟩) (by show a < b; omega) hx⟩
theorem SlS.set {w : World} {up a p : Nat} {v : Value} {l : SL} (hu : a ≤ up) (h : SlS cpyZ w up v l) (u : Value) : SlS cpyZ (w.setCell ⟨a, p, none⟩ u) up v l := by
  obtain ⟨ao, cap, e, hc, hr⟩ := h
  refine ⟨ao, cap, e, hc, fun h0 => ?_⟩
  obtain ⟨b, o, e1, hp, hx⟩ := hr h0
  have hp' : up < b := hp
  exact ⟨b, o, e1, hp, StIn.keep (Q := fun k => a < k) (fun b b' h (h' : b < b') => Nat.lt_trans h h') (keeps_set w a p u) (fun s k hq _ hG => ⟨fun (e : k = a) => by omega, cpy_set hG a p u⟩) (by show a < b; omega) hx⟩
/-- A cell behind the list is written. -/
theorem ExIn.high {w : World} {a p : Nat} (u : Value) : ∀ {l : EL} {o : Nat}, o + 4 * l.len ≤ p → ExIn cpyZ w l a o → ExIn cpyZ (w.setCell ⟨a, p, none⟩ u) l a o
  | .nil, _, _, _ => trivial
  | .cons op n s kids rest, o, hp, ⟨h1, ⟨c, hc⟩, h3, h4, h5, ⟨ao, cap, h6, h7, h8⟩, h9⟩ => by
    simp only [EL.len] at hp
    have hs : SlE cpyZ w a (.slice ao kids.len cap) kids := ⟨ao, cap, rfl, h7, h8⟩
    obtain ⟨ao', cap', e', q7, q8⟩ := hs.set (Nat.le_refl a) (p := p) u
    cases e'
    refine ⟨by simpa using h1, cpy_set ⟨c, hc⟩ a p u, ?_, ?_, ?_, ⟨ao, cap, ?_, q7, q8⟩, ExIn.high u (by omega) h9⟩
    · rw [cell_set_ne hc (by omega)]; exact h3
    · rw [cell_set_ne hc (by omega)]; exact h4
    · rw [cell_set_ne hc (by omega)]; exact h5
    · rw [cell_set_ne hc (by omega)]; exact h6
theorem StIn.high {w : World} {a p : Nat} (u : Value) : ∀ {l : SL} {o : Nat}, o + 5 * l.len ≤ p → StIn cpyZ w l a o → StIn cpyZ (w.setCell ⟨a, p, none⟩ u) l a o
  | .nil, _, _, _ => trivial
  | .cons op f ex th el rest, o, hp, ⟨h1, ⟨c, hc⟩, h3, h4, ⟨xv, h5, hxs⟩, ⟨ao, cap, h6, h7, h8⟩, ⟨ao2, cap2, k6, k7, k8⟩, h9⟩ => by
    simp only [SL.len] at hp
    have hs : SlS cpyZ w a (.slice ao th.len cap) th := ⟨ao, cap, rfl, h7, h8⟩
    have hs2 : SlS cpyZ w a (.slice ao2 el.len cap2) el := ⟨ao2, cap2, rfl, k7, k8⟩
    obtain ⟨ao', cap', e', q7, q8⟩ := hs.set (Nat.le_refl a) (p := p) u
    cases e'
    obtain ⟨ao', cap', e', r7, r8⟩ := hs2.set (Nat.le_refl a) (p := p) u
    cases e'
    refine ⟨by simpa using h1, cpy_set ⟨c, hc⟩ a p u, ?_, ?_, ⟨xv, ?_, hxs.set (Nat.le_refl a) u⟩, ⟨ao, cap, ?_, q7, q8⟩, ⟨ao2, cap2, ?_, r7, r8⟩, StIn.high u (by omega) h9⟩
    · rw [cell_set_ne hc (by omega)]; exact h3
    · rw [cell_set_ne hc (by omega)]; exact h4
    · rw [cell_set_ne hc (by omega)]; exact h5
    · rw [cell_set_ne hc (by omega)]; exact h6
    · rw [cell_set_ne hc (by omega)]; exact k6
/-- What is handed in to be copied: what came in, and lists that were laid ahead of the copying. -/
def mixZ (B A : Nat) : Zone := ⟨fun w s k => k < A ∧ (k < B ∨ ∃ c, w.heap[k]? = some (.cells c (kindT s) (0, 0))), fun _ _ => True, fun hk hl h => ⟨h.1, h.2.imp id fun ⟨c, hc⟩ => ⟨c, (hk.block _ hl id).trans hc⟩⟩⟩
theorem mix_bf {w : World} {B A g : Nat} {LE LS : List (Nat × Nat)} {vS vE : Value} (h : Bh w B g LE LS vS vE) {s : Bool} {k : Nat} (hk : (mixZ B A).G w s k) : ¬ BF w B g k := by
  obtain ⟨_, hk | hk⟩ := hk
  · intro f
    have := f.lo h.lo
    omega
  · exact cpy_bf h (s := s) hk
theorem mix_stay {w w' : World} {B A g : Nat} {LE LS : List (Nat × Nat)} {vS vE : Value} (h : Bh w B g LE LS vS vE) (hk : Keeps (BF w B g) w w') {s : Bool} {k : Nat} (hG : (mixZ B A).G w s k) : ¬ BF w B g k ∧ (mixZ B A).G w' s k := by
  refine ⟨mix_bf h hG, hG.1, hG.2.imp id fun hc => (cpy_stay h hk (s := s) hc).2⟩
theorem ExIn.mixBf {w w' : World} {B A g : Nat} {LE LS : List (Nat × Nat)} {vS vE : Value} (h : Bh w B g LE LS vS vE) (hk : Keeps (BF w B g) w w') {l : EL} {b o : Nat} (hx : ExIn (mixZ B A) w l b o) : ExIn (mixZ B A) w' l b o :=
  ExIn.keep (Q := fun _ => True) (fun _ _ _ _ => trivial) hk (fun _ _ _ _ hG => mix_stay h hk hG) trivial hx
theorem ExIn.mixSet {w w' : World} {B A a : Nat} (hA : A ≤ a) (hk : Keeps (fun k => k = a) w w') {l : EL} {b o : Nat} (hx : ExIn (mixZ B A) w l b o) : ExIn (mixZ B A) w' l b o :=
  ExIn.keep (Q := fun _ => True) (fun _ _ _ _ => trivial) hk (fun s k _ hl hG => by
    have hne : ¬ k = a := by have := hG.1; omega
    exact ⟨hne, hG.1, hG.2.imp id fun ⟨c, hc⟩ => ⟨c, (hk.block k hl hne).trans hc⟩⟩) trivial hx
theorem ExIn.mix {w : World} {B A : Nat} (hA : B ≤ A) : ∀ {l : EL} {b o : Nat}, ExIn (argZ B) w l b o → ExIn (mixZ B A) w l b o
  | .nil, _, _, _ => trivial
  | .cons op n s kids rest, b, o, ⟨h1, h2, h3, h4, h5, ⟨ao, cap, h6, h7, h8⟩, h9⟩ => by
    have hb : b < B := h2
    refine ⟨h1, ⟨by omega, Or.inl hb⟩, h3, h4, h5, ⟨ao, cap, h6, h7, fun h0 => ?_⟩, ExIn.mix hA h9⟩
    obtain ⟨b', o', e, _, hr⟩ := h8 h0
    exact ⟨b', o', e, trivial, ExIn.mix hA hr⟩
theorem SlE.mix {w : World} {B A up : Nat} {v : Value} {l : EL} (hA : B ≤ A) (h : SlE (argZ B) w up v l) (up' : Nat) : SlE (mixZ B A) w up' v l := by
  obtain ⟨ao, cap, e, hc, hr⟩ := h
  refine ⟨ao, cap, e, hc, fun h0 => ?_⟩
  obtain ⟨b, o, e1, _, hx⟩ := hr h0
  exact ⟨b, o, e1, trivial, ExIn.mix hA hx⟩
/-- A list of one expression that was laid ahead. -/
theorem one_mix {w : World} {B A g : Nat} {op n : Int} {s : Txt} {v : Value} {kids : EL} {up c : Nat} (hb : w.heap[g]? = some (.cells #[.int .i64 op, .int .i64 n, str s, v] 25 (0, 0))) (hg : g < A) (hBA : B ≤ A) (hS : SlE (argZ B) w up v kids) (hc : 1 ≤ c) (up' : Nat) :
    SlE (mixZ B A) w up' (.slice (some ⟨g, 0, none⟩) 1 c) (.cons op n s kids .nil) := by
  obtain ⟨ao, cap, rfl, hl, hr⟩ := hS.mix hBA g
  refine ⟨_, c, rfl, hc, fun _ => ⟨g, 0, rfl, trivial, lt_of_block hb, ⟨hg, Or.inr ⟨_, hb⟩⟩, ?_, ?_, ?_, ⟨ao, cap, ?_, hl, hr⟩, trivial⟩⟩
  all_goals (rw [cell_of_blk hb]; rfl)
end Go.Proofs.YtlnkleicnkfkpaaDoor
