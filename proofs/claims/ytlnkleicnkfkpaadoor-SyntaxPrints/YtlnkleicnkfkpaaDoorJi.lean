import Derived.Test.YtlnkleicnkfkpaaDoorEx
import Derived.Laws.MakeOwn
namespace Go.Proofs.YtlnkleicnkfkpaaDoor
open Go.RowKit Go.Maps

/-- The kind of a tree's block. -/
def kindT (s : Bool) : TypeId := if s then 51 else 25
/-- Copies: each list in a block of its own, below it only later blocks. -/
def cpyZ : Zone := ⟨fun w s k => ∃ c, w.heap[k]? = some (.cells c (kindT s) (0, 0)), fun b b' => b < b', fun hk hl ⟨c, h⟩ => ⟨c, (hk.block _ hl id).trans h⟩⟩
/-- A list lent out, with its marks behind it. -/
def slv (p : Nat × Nat) : Value := .slice (some ⟨p.1, 0, none⟩) (p.2 + 8) (p.2 + 8)
def behindT : Txt := [98, 101, 104, 105, 110, 100]
def MarkE (w : World) (p : Nat × Nat) : Prop := ∃ c, w.heap[p.1]? = some (.cells c 25 (0, 0)) ∧ (∀ k, p.2 ≤ k → k < p.2 + 8 → c[k * 4]? = some (.int .i64 (9000 + (k : Int))) ∧ c[k * 4 + 2]? = some (str behindT)) ∧ p.2 ≤ 2147483647
def MarkS (w : World) (p : Nat × Nat) : Prop := ∃ c, w.heap[p.1]? = some (.cells c 51 (0, 0)) ∧ (∀ k, p.2 ≤ k → k < p.2 + 8 → c[k * 5]? = some (.int .i64 (9000 + (k : Int))) ∧ c[k * 5 + 1]? = some (str behindT)) ∧ p.2 ≤ 2147483647
/-- What was lent out. -/
structure Bh (w : World) (B g : Nat) (LE LS : List (Nat × Nat)) (vS vE : Value) : Prop where
  lo : B ≤ g
  blk : w.heap[g]? = some (.cells #[vS, vE] 32 (0, 0))
  rowS : w.ownsRow B 22 1 vS LS.length (LS.map slv)
  rowE : w.ownsRow B 23 1 vE LE.length (LE.map slv)
  ex : ∀ p ∈ LE, MarkE w p
  st : ∀ p ∈ LS, MarkS w p
/-- What may be written: the book and its rows. -/
def BF (w : World) (B g k : Nat) : Prop := k = g ∨ (B ≤ k ∧ ∃ c t, (t = 22 ∨ t = 23) ∧ w.heap[k]? = some (.cells c t (0, 0)))

theorem own_block {w : World} {B e size n : Nat} {v : Value} {xs : List Value} (h : w.ownsRow B e size v n xs) {k : Nat} (hk : v.ownBlock = some k) : B ≤ k ∧ ∃ cur, w.heap[k]? = some (.cells cur e (0, 0)) := by
  rcases h.2 with ⟨hv, _⟩ | ⟨g, cap, cur, hv, hb, hg, rest⟩
  · rw [hv] at hk; cases hk
  · rw [hv] at hk
    simp [Value.ownBlock] at hk
    subst hk
    exact ⟨hb, cur, hg⟩
theorem own_kept {w w' : World} {B e sz n : Nat} {v : Value} {xs : List Value} {F : Nat → Prop} (h : w.ownsRow B e sz v n xs) (k : Keeps F w w') (hF : ∀ b, v.ownBlock = some b → ¬ F b) : w'.ownsRow B e sz v n xs :=
  ⟨h.1, h.2.imp id fun ⟨g, cap, cur, e1, e2, e3, e4⟩ => ⟨g, cap, cur, e1, e2, (k.block g (lt_of_block e3) (hF g (by rw [e1]; rfl))).trans e3, e4⟩⟩
theorem BF.lo {w : World} {B g k : Nat} (h : BF w B g k) (hg : B ≤ g) : B ≤ k := by
  rcases h with rfl | ⟨h, _⟩
  · exact hg
  · exact h
/-- One such writing behind another. -/
theorem bf_trans {a b c : World} {B g : Nat} (h : Keeps (BF a B g) a b) (k : Keeps (BF b B g) b c) : Keeps (BF a B g) a c :=
  h.then k fun i hi hf => by
    rcases hf with rfl | ⟨hB, x, t, ht, hx⟩
    · exact Or.inl rfl
    · by_cases hq : BF a B g i
      · exact hq
      · exact Or.inr ⟨hB, x, t, ht, (h.block i hi hq).symm.trans hx⟩
theorem bf_any {a b : World} {B g : Nat} (h : Keeps (fun _ => False) a b) : Keeps (BF a B g) a b := h.any
/-- A tree's block is none that may be written. -/
theorem cpy_bf {w : World} {B g : Nat} {LE LS : List (Nat × Nat)} {vS vE : Value} (h : Bh w B g LE LS vS vE) {s : Bool} {k : Nat} (hk : cpyZ.G w s k) : ¬ BF w B g k := by
  obtain ⟨c, hc⟩ := hk
  have hc' : w.heap[k]? = some (.cells c (if s then 51 else 25) (0, 0)) := hc
  rintro (rfl | ⟨_, x, t, ht, hx⟩)
  · rw [h.blk] at hc'
    simp at hc'
    obtain ⟨_, h2⟩ := hc'
    cases s <;> simp at h2
  · rw [hx] at hc'
    simp at hc'
    obtain ⟨_, h2⟩ := hc'
    rcases ht with rfl | rfl <;> cases s <;> simp at h2
theorem cpy_stay {w w' : World} {B g : Nat} {LE LS : List (Nat × Nat)} {vS vE : Value} (h : Bh w B g LE LS vS vE) (hk : Keeps (BF w B g) w w') {s : Bool} {k : Nat} (hG : cpyZ.G w s k) : ¬ BF w B g k ∧ cpyZ.G w' s k := by
  have hn := cpy_bf h hG
  obtain ⟨c, hc⟩ := hG
  exact ⟨hn, c, (hk.block k (lt_of_block hc) hn).trans hc⟩
theorem ExIn.bf {w w' : World} {B g : Nat} {LE LS : List (Nat × Nat)} {vS vE : Value} (h : Bh w B g LE LS vS vE) (hk : Keeps (BF w B g) w w') {l : EL} {b o : Nat} (hx : ExIn cpyZ w l b o) : ExIn cpyZ w' l b o :=
  ExIn.keep (Q := fun _ => True) (fun _ _ _ _ => trivial) hk (fun _ _ _ _ hG => cpy_stay h hk hG) trivial hx
theorem SlE.bf {w w' : World} {B g : Nat} {LE LS : List (Nat × Nat)} {vS vE : Value} (h : Bh w B g LE LS vS vE) (hk : Keeps (BF w B g) w w') {l : EL} {up : Nat} {v : Value} (hx : SlE cpyZ w up v l) : SlE cpyZ w' up v l :=
  SlE.keep (Q := fun _ => True) (fun _ _ _ _ => trivial) hk (fun _ _ _ _ hG => cpy_stay h hk hG) trivial hx
theorem StIn.bf {w w' : World} {B g : Nat} {LE LS : List (Nat × Nat)} {vS vE : Value} (h : Bh w B g LE LS vS vE) (hk : Keeps (BF w B g) w w') {l : SL} {b o : Nat} (hx : StIn cpyZ w l b o) : StIn cpyZ w' l b o :=
  StIn.keep (Q := fun _ => True) (fun _ _ _ _ => trivial) hk (fun _ _ _ _ hG => cpy_stay h hk hG) trivial hx
theorem SlS.bf {w w' : World} {B g : Nat} {LE LS : List (Nat × Nat)} {vS vE : Value} (h : Bh w B g LE LS vS vE) (hk : Keeps (BF w B g) w w') {l : SL} {up : Nat} {v : Value} (hx : SlS cpyZ w up v l) : SlS cpyZ w' up v l :=
  SlS.keep (Q := fun _ => True) (fun _ _ _ _ => trivial) hk (fun _ _ _ _ hG => cpy_stay h hk hG) trivial hx
theorem MarkE.keep {w w' : World} {p : Nat × Nat} {F : Nat → Prop} (h : MarkE w p) (hk : Keeps F w w') (hF : ¬ F p.1) : MarkE w' p := by
  obtain ⟨c, hc, hm⟩ := h
  exact ⟨c, (hk.block _ (lt_of_block hc) hF).trans hc, hm⟩
theorem MarkS.keep {w w' : World} {p : Nat × Nat} {F : Nat → Prop} (h : MarkS w p) (hk : Keeps F w w') (hF : ¬ F p.1) : MarkS w' p := by
  obtain ⟨c, hc, hm⟩ := h
  exact ⟨c, (hk.block _ (lt_of_block hc) hF).trans hc, hm⟩
/-- What is lent out stays, where neither the book nor a list of it is written. -/
theorem Bh.keep {w w' : World} {B g : Nat} {LE LS : List (Nat × Nat)} {vS vE : Value} {F : Nat → Prop} (h : Bh w B g LE LS vS vE) (hk : Keeps F w w') (hg : ¬ F g) (hS : ∀ b, vS.ownBlock = some b → ¬ F b) (hE : ∀ b, vE.ownBlock = some b → ¬ F b) (h1 : ∀ p ∈ LE, ¬ F p.1) (h2 : ∀ p ∈ LS, ¬ F p.1) : Bh w' B g LE LS vS vE :=
  ⟨h.lo, (hk.block g (lt_of_block h.blk) hg).trans h.blk, own_kept h.rowS hk hS, own_kept h.rowE hk hE, fun p hp => (h.ex p hp).keep hk (h1 p hp), fun p hp => (h.st p hp).keep hk (h2 p hp)⟩
theorem Bh.keepF {w w' : World} {B g : Nat} {LE LS : List (Nat × Nat)} {vS vE : Value} (h : Bh w B g LE LS vS vE) (hk : Keeps (fun _ => False) w w') : Bh w' B g LE LS vS vE :=
  h.keep hk id (fun _ _ => id) (fun _ _ => id) (fun _ _ => id) (fun _ _ => id)
/-- A block of trees that was not lent out yet is written. -/
theorem Bh.apart {w : World} {B g : Nat} {LE LS : List (Nat × Nat)} {vS vE : Value} (h : Bh w B g LE LS vS vE) {a : Nat} {s : Bool} (hG : cpyZ.G w s a) (h1 : ∀ p ∈ LE, p.1 ≠ a) (h2 : ∀ p ∈ LS, p.1 ≠ a) {w' : World} (hk : Keeps (fun k => k = a) w w') : Bh w' B g LE LS vS vE := by
  have hn := cpy_bf h hG
  refine h.keep hk (fun e => hn (Or.inl e.symm)) (fun b hb e => ?_) (fun b hb e => ?_) (fun p hp e => h1 p hp e) (fun p hp e => h2 p hp e)
  · obtain ⟨q1, c, q2⟩ := own_block h.rowS hb
    exact hn (Or.inr ⟨e ▸ q1, c, 22, Or.inl rfl, e ▸ q2⟩)
  · obtain ⟨q1, c, q2⟩ := own_block h.rowE hb
    exact hn (Or.inr ⟨e ▸ q1, c, 23, Or.inr rfl, e ▸ q2⟩)
theorem cell_set_ne {w : World} {a o p : Nat} {c : Array Value} {t : TypeId} {fr : Nat × Nat} (h : w.heap[a]? = some (.cells c t fr)) (hne : o ≠ p) (u : Value) : (w.setCell ⟨a, p, none⟩ u).cell? ⟨a, o, none⟩ = w.cell? ⟨a, o, none⟩ := by
  rw [cell_of_blk (heap_setCell_at h u), cell_of_blk h]
  simp [Ne.symm hne]
theorem keeps_set (w : World) (a p : Nat) (u : Value) : Keeps (fun k => k = a) w (w.setCell ⟨a, p, none⟩ u) := (Keeps.refl (fun k => k = a) w).setCell (fun _ => rfl) u
theorem cpy_set {w : World} {s : Bool} {k : Nat} (hG : cpyZ.G w s k) (a p : Nat) (u : Value) : cpyZ.G (w.setCell ⟨a, p, none⟩ u) s k := by
  obtain ⟨c, hc⟩ := hG
  by_cases hk : k = a
  · subst hk
    exact ⟨_, heap_setCell_at hc u⟩
  · exact ⟨c, ((keeps_set w a p u).block k (lt_of_block hc) hk).trans hc⟩
theorem SlE.set {w : World} {up a p : Nat} {v : Value} {l : EL} (hu : a ≤ up) (h : SlE cpyZ w up v l) (u : Value) : SlE cpyZ (w.setCell ⟨a, p, none⟩ u) up v l := by
  obtain ⟨ao, cap, e, hc, hr⟩ := h
  refine ⟨ao, cap, e, hc, fun h0 => ?_⟩
  obtain ⟨b, o, e1, hp, hx⟩ := hr h0
  have hp' : up < b := hp
  exact ⟨b, o, e1, hp, ExIn.keep (Q := fun k => a < k) (fun b b' h (h' : b < b') => Nat.lt_trans h h') (keeps_set w a p u) (fun s k hq _ hG => ⟨fun (e : k = a) => by omega, cpy_set hG a p u⟩) (by show a < b; omega) hx⟩
theorem SlS.set {w : World} {up a p : Nat} {v : Value} {l : SL} (hu : a ≤ up) (h : SlS cpyZ w up v l) (u : Value) : SlS cpyZ (w.setCell ⟨a, p, none⟩ u) up v l := by
  obtain ⟨ao, cap, e, hc, hr⟩ := h
  refine ⟨ao, cap, e, hc, fun h0 => ?_⟩
  obtain ⟨b, o, e1, hp, hx⟩ := hr h0
  have hp' : up < b := hp
  exact ⟨b, o, e1, hp, StIn.keep (Q := fun k => a < k) (fun b b' h (h' : b < b') => Nat.lt_trans h h') (keeps_set w a p u) (fun s k hq _ hG => ⟨fun (e : k = a) => by omega, cpy_set hG a p u⟩) (by show a < b; omega) hx⟩
/-- A cell behind the list is written. -/
theorem ExIn.high {w : World} {a p : Nat} (u : Value) : ∀ {l : EL} {o : Nat}, o + 4 * l.len ≤ p → ExIn cpyZ w l a o → ExIn cpyZ (w.setCell ⟨a, p, none⟩ u) l a o
  | .nil, _, _, _ => trivial
  | .cons op n s kids rest, o, hp, ⟨h1, ⟨c, hc⟩, h3, h4, h5, ⟨ao, cap, h6, h7, h8⟩, h9⟩ => by
    simp only [EL.len] at hp
    have hs : SlE cpyZ w a (.slice ao kids.len cap) kids := ⟨ao, cap, rfl, h7, h8⟩
    obtain ⟨ao', cap', e', q7, q8⟩ := hs.set (Nat.le_refl a) (p := p) u
    cases e'
    refine ⟨by simpa using h1, cpy_set ⟨c, hc⟩ a p u, ?_, ?_, ?_, ⟨ao, cap, ?_, q7, q8⟩, ExIn.high u (by omega) h9⟩
    · rw [cell_set_ne hc (by omega)]; exact h3
    · rw [cell_set_ne hc (by omega)]; exact h4
    · rw [cell_set_ne hc (by omega)]; exact h5
    · rw [cell_set_ne hc (by omega)]; exact h6
theorem StIn.high {w : World} {a p : Nat} (u : Value) : ∀ {l : SL} {o : Nat}, o + 5 * l.len ≤ p → StIn cpyZ w l a o → StIn cpyZ (w.setCell ⟨a, p, none⟩ u) l a o
  | .nil, _, _, _ => trivial
  | .cons op f ex th el rest, o, hp, ⟨h1, ⟨c, hc⟩, h3, h4, ⟨xv, h5, hxs⟩, ⟨ao, cap, h6, h7, h8⟩, ⟨ao2, cap2, k6, k7, k8⟩, h9⟩ => by
    simp only [SL.len] at hp
    have hs : SlS cpyZ w a (.slice ao th.len cap) th := ⟨ao, cap, rfl, h7, h8⟩
    have hs2 : SlS cpyZ w a (.slice ao2 el.len cap2) el := ⟨ao2, cap2, rfl, k7, k8⟩
    obtain ⟨ao', cap', e', q7, q8⟩ := hs.set (Nat.le_refl a) (p := p) u
    cases e'
    obtain ⟨ao', cap', e', r7, r8⟩ := hs2.set (Nat.le_refl a) (p := p) u
    cases e'
    refine ⟨by simpa using h1, cpy_set ⟨c, hc⟩ a p u, ?_, ?_, ⟨xv, ?_, hxs.set (Nat.le_refl a) u⟩, ⟨ao, cap, ?_, q7, q8⟩, ⟨ao2, cap2, ?_, r7, r8⟩, StIn.high u (by omega) h9⟩
    · rw [cell_set_ne hc (by omega)]; exact h3
    · rw [cell_set_ne hc (by omega)]; exact h4
    · rw [cell_set_ne hc (by omega)]; exact h5
    · rw [cell_set_ne hc (by omega)]; exact h6
    · rw [cell_set_ne hc (by omega)]; exact k6
/-- What is handed in to be copied: what came in, and lists that were laid ahead of the copying. -/
def mixZ (B A : Nat) : Zone := ⟨fun w s k => k < A ∧ (k < B ∨ ∃ c, w.heap[k]? = some (.cells c (kindT s) (0, 0))), fun _ _ => True, fun hk hl h => ⟨h.1, h.2.imp id fun ⟨c, hc⟩ => ⟨c, (hk.block _ hl id).trans hc⟩⟩⟩
theorem mix_bf {w : World} {B A g : Nat} {LE LS : List (Nat × Nat)} {vS vE : Value} (h : Bh w B g LE LS vS vE) {s : Bool} {k : Nat} (hk : (mixZ B A).G w s k) : ¬ BF w B g k := by
  obtain ⟨_, hk | hk⟩ := hk
  · intro f
    have := f.lo h.lo
    omega
  · exact cpy_bf h (s := s) hk
theorem mix_stay {w w' : World} {B A g : Nat} {LE LS : List (Nat × Nat)} {vS vE : Value} (h : Bh w B g LE LS vS vE) (hk : Keeps (BF w B g) w w') {s : Bool} {k : Nat} (hG : (mixZ B A).G w s k) : ¬ BF w B g k ∧ (mixZ B A).G w' s k := by
  refine ⟨mix_bf h hG, hG.1, hG.2.imp id fun hc => (cpy_stay h hk (s := s) hc).2⟩
theorem ExIn.mixBf {w w' : World} {B A g : Nat} {LE LS : List (Nat × Nat)} {vS vE : Value} (h : Bh w B g LE LS vS vE) (hk : Keeps (BF w B g) w w') {l : EL} {b o : Nat} (hx : ExIn (mixZ B A) w l b o) : ExIn (mixZ B A) w' l b o :=
  ExIn.keep (Q := fun _ => True) (fun _ _ _ _ => trivial) hk (fun _ _ _ _ hG => mix_stay h hk hG) trivial hx
theorem ExIn.mixSet {w w' : World} {B A a : Nat} (hA : A ≤ a) (hk : Keeps (fun k => k = a) w w') {l : EL} {b o : Nat} (hx : ExIn (mixZ B A) w l b o) : ExIn (mixZ B A) w' l b o :=
  ExIn.keep (Q := fun _ => True) (fun _ _ _ _ => trivial) hk (fun s k _ hl hG => by
    have hne : ¬ k = a := by have := hG.1; omega
    exact ⟨hne, hG.1, hG.2.imp id fun ⟨c, hc⟩ => ⟨c, (hk.block k hl hne).trans hc⟩⟩) trivial hx
theorem ExIn.mix {w : World} {B A : Nat} (hA : B ≤ A) : ∀ {l : EL} {b o : Nat}, ExIn (argZ B) w l b o → ExIn (mixZ B A) w l b o
  | .nil, _, _, _ => trivial
  | .cons op n s kids rest, b, o, ⟨h1, h2, h3, h4, h5, ⟨ao, cap, h6, h7, h8⟩, h9⟩ => by
    have hb : b < B := h2
    refine ⟨h1, ⟨by omega, Or.inl hb⟩, h3, h4, h5, ⟨ao, cap, h6, h7, fun h0 => ?_⟩, ExIn.mix hA h9⟩
    obtain ⟨b', o', e, _, hr⟩ := h8 h0
    exact ⟨b', o', e, trivial, ExIn.mix hA hr⟩
theorem SlE.mix {w : World} {B A up : Nat} {v : Value} {l : EL} (hA : B ≤ A) (h : SlE (argZ B) w up v l) (up' : Nat) : SlE (mixZ B A) w up' v l := by
  obtain ⟨ao, cap, e, hc, hr⟩ := h
  refine ⟨ao, cap, e, hc, fun h0 => ?_⟩
  obtain ⟨b, o, e1, _, hx⟩ := hr h0
  exact ⟨b, o, e1, trivial, ExIn.mix hA hx⟩
/-- A list of one expression that was laid ahead. -/
theorem one_mix {w : World} {B A g : Nat} {op n : Int} {s : Txt} {v : Value} {kids : EL} {up c : Nat} (hb : w.heap[g]? = some (.cells #[.int .i64 op, .int .i64 n, str s, v] 25 (0, 0))) (hg : g < A) (hBA : B ≤ A) (hS : SlE (argZ B) w up v kids) (hc : 1 ≤ c) (up' : Nat) :
    SlE (mixZ B A) w up' (.slice (some ⟨g, 0, none⟩) 1 c) (.cons op n s kids .nil) := by
  obtain ⟨ao, cap, rfl, hl, hr⟩ := hS.mix hBA g
  refine ⟨_, c, rfl, hc, fun _ => ⟨g, 0, rfl, trivial, lt_of_block hb, ⟨hg, Or.inr ⟨_, hb⟩⟩, ?_, ?_, ?_, ⟨ao, cap, ?_, hl, hr⟩, trivial⟩⟩
  all_goals (rw [cell_of_blk hb]; rfl)
end Go.Proofs.YtlnkleicnkfkpaaDoor
namespace Go.Proofs.YtlnkleicnkfkpaaDoor
open Go.RowKit Go.Maps

theorem Tryd.info25 : (Tryd.prog.info? 25).map (fun i => (i.zero, i.size, i.bytes)) = some (some (.agg #[.int .i64 0, .int .i64 0, .string ⟨#[]⟩, .slice none 0 0]), 4, 56) := by kernel_rfl
theorem Tryd.info51 : (Tryd.prog.info? 51).map (fun i => (i.zero, i.size, i.bytes)) = some (some (.agg #[.int .i64 0, .string ⟨#[]⟩, .slice none 0 0, .slice none 0 0, .slice none 0 0]), 5, 96) := by kernel_rfl
theorem Tryd.info22 : (Tryd.prog.info? 22).map (fun i => (i.zero, i.size, i.bytes)) = some (some (.slice none 0 0), 1, 24) := by kernel_rfl
theorem Tryd.info23 : (Tryd.prog.info? 23).map (fun i => (i.zero, i.size, i.bytes)) = some (some (.slice none 0 0), 1, 24) := by kernel_rfl
theorem info_parts {P : Program} {t : TypeId} {a : Option Value} {b c : Nat} (h : (P.info? t).map (fun i => (i.zero, i.size, i.bytes)) = some (a, b, c)) : ∃ i, P.info? t = some i ∧ i.zero = a ∧ i.size = b ∧ i.bytes = c := by
  cases hi : P.info? t with
  | none => rw [hi] at h; cases h
  | some i =>
    rw [hi] at h
    simp at h
    exact ⟨i, rfl, h.1, h.2.1, h.2.2⟩
/-- A list with room for marks, made new. -/
theorem run_mkE (n : Nat) (hn : n ≤ 2147483647) (w : World) : ∃ c : Array Value, c.size = (n + 8) * 4 ∧ (Instr.makeSlice 23 (.int .i64 ((n : Int) + 8)) (.int .i64 ((n : Int) + 8))).run Tryd.prog w = .ok (.slice (some ⟨w.heap.size, 0, none⟩) (n + 8) (n + 8)) (w.alloc (.cells c 25)) := by
  obtain ⟨i0, hi, hz0, hz1, hz2⟩ := info_parts Tryd.info25
  have q := run_make (P := Tryd.prog) w 23 25 i0 _ Tryd.underlying23 hi hz0 .i64 .i64 ((n : Int) + 8) ((n : Int) + 8) (by omega) (by omega) (by rw [hz2]; omega) (by omega)
  rw [hz1] at q
  have e : ((n : Int) + 8).toNat = n + 8 := by omega
  rw [e] at q
  exact ⟨_, by rw [size_madeCells], q⟩
theorem run_mkS (n : Nat) (hn : n ≤ 2147483647) (w : World) : ∃ c : Array Value, c.size = (n + 8) * 5 ∧ (Instr.makeSlice 22 (.int .i64 ((n : Int) + 8)) (.int .i64 ((n : Int) + 8))).run Tryd.prog w = .ok (.slice (some ⟨w.heap.size, 0, none⟩) (n + 8) (n + 8)) (w.alloc (.cells c 51)) := by
  obtain ⟨i0, hi, hz0, hz1, hz2⟩ := info_parts Tryd.info51
  have q := run_make (P := Tryd.prog) w 22 51 i0 _ Tryd.underlying22 hi hz0 .i64 .i64 ((n : Int) + 8) ((n : Int) + 8) (by omega) (by omega) (by rw [hz2]; omega) (by omega)
  rw [hz1] at q
  have e : ((n : Int) + 8).toNat = n + 8 := by omega
  rw [e] at q
  exact ⟨_, by rw [size_madeCells], q⟩
theorem cell_far {w : World} {a p b o : Nat} {u : Value} (h : a ≠ b) : (w.setCell ⟨a, p, none⟩ u).cell? ⟨b, o, none⟩ = w.cell? ⟨b, o, none⟩ := World.cell?_setCell_far w ⟨a, p, none⟩ ⟨b, o, none⟩ u h
/-- Four cells of a block are written, one behind the other. -/
abbrev set4 (w : World) (a i : Nat) (x0 x1 x2 x3 : Value) : World := (((w.setCell ⟨a, i * 4, none⟩ x0).setCell ⟨a, i * 4 + 1, none⟩ x1).setCell ⟨a, i * 4 + 2, none⟩ x2).setCell ⟨a, i * 4 + 3, none⟩ x3
theorem set4_blk {w : World} {a : Nat} {c : Array Value} {t : TypeId} (h : w.heap[a]? = some (.cells c t (0, 0))) (i : Nat) (x0 x1 x2 x3 : Value) (hi : i * 4 + 3 < c.size) :
    ∃ c', (set4 w a i x0 x1 x2 x3).heap[a]? = some (.cells c' t (0, 0)) ∧ c'.size = c.size ∧ c'[i * 4]? = some x0 ∧ c'[i * 4 + 1]? = some x1 ∧ c'[i * 4 + 2]? = some x2 ∧ c'[i * 4 + 3]? = some x3 ∧ ∀ j, j < i * 4 ∨ i * 4 + 4 ≤ j → c'[j]? = c[j]? := by
  refine ⟨_, heap_setCell_at (heap_setCell_at (heap_setCell_at (heap_setCell_at h x0) x1) x2) x3, by simp, ?_, ?_, ?_, ?_, fun j hj => ?_⟩
  · rw [Array.getElem?_setIfInBounds_ne (by omega), Array.getElem?_setIfInBounds_ne (by omega), Array.getElem?_setIfInBounds_ne (by omega), Array.getElem?_setIfInBounds_self_of_lt (by omega)]
  · rw [Array.getElem?_setIfInBounds_ne (by omega), Array.getElem?_setIfInBounds_ne (by omega), Array.getElem?_setIfInBounds_self_of_lt (by simp; omega)]
  · rw [Array.getElem?_setIfInBounds_ne (by omega), Array.getElem?_setIfInBounds_self_of_lt (by simp; omega)]
  · rw [Array.getElem?_setIfInBounds_self_of_lt (by simp; omega)]
  · rw [Array.getElem?_setIfInBounds_ne (by omega), Array.getElem?_setIfInBounds_ne (by omega), Array.getElem?_setIfInBounds_ne (by omega), Array.getElem?_setIfInBounds_ne (by omega)]
theorem set4_keeps (w : World) (a i : Nat) (x0 x1 x2 x3 : Value) : Keeps (fun k => k = a) w (set4 w a i x0 x1 x2 x3) :=
  (((keeps_set w a (i * 4) x0).trans (keeps_set _ a (i * 4 + 1) x1)).trans (keeps_set _ a (i * 4 + 2) x2)).trans (keeps_set _ a (i * 4 + 3) x3)
theorem set4_high {w : World} {a i : Nat} {pre : EL} (h : ExIn cpyZ w pre a 0) (hi : pre.len ≤ i) (x0 x1 x2 x3 : Value) : ExIn cpyZ (set4 w a i x0 x1 x2 x3) pre a 0 :=
  ExIn.high x3 (by omega) (ExIn.high x2 (by omega) (ExIn.high x1 (by omega) (ExIn.high x0 (by omega) h)))
/-- One more expression is copied. -/
theorem copyE_step {w : World} {a k : Nat} {c : Array Value} {pre kids : EL} {op n : Int} {s : Txt} {ao : Option Addr} {cap : Nat} (hb : w.heap[a]? = some (.cells c 25 (0, 0))) (hk : k = pre.len) (hc : k * 4 + 3 < c.size) (hp : ExIn cpyZ w pre a 0) (hs : SlE cpyZ w a (.slice ao kids.len cap) kids) :
    (∃ c', (set4 w a k (.int .i64 op) (.int .i64 n) (str s) (.slice ao kids.len cap)).heap[a]? = some (.cells c' 25 (0, 0)) ∧ c'.size = c.size) ∧ ExIn cpyZ (set4 w a k (.int .i64 op) (.int .i64 n) (str s) (.slice ao kids.len cap)) (pre.app (.cons op n s kids .nil)) a 0 := by
  obtain ⟨c', hc', hs', e0, e1, e2, e3, _⟩ := set4_blk hb k (.int .i64 op) (.int .i64 n) (str s) (.slice ao kids.len cap) hc
  refine ⟨⟨c', hc', hs'⟩, (set4_high hp (by omega) _ _ _ _).app ?_⟩
  have hs4 := (((hs.set (Nat.le_refl a) (p := k * 4) (.int .i64 op)).set (Nat.le_refl a) (p := k * 4 + 1) (.int .i64 n)).set (Nat.le_refl a) (p := k * 4 + 2) (str s)).set (Nat.le_refl a) (p := k * 4 + 3) (.slice ao kids.len cap)
  obtain ⟨ao', cap', e', q7, q8⟩ := hs4
  cases e'
  have eo : 0 + 4 * pre.len = k * 4 := by omega
  rw [eo]
  refine ⟨lt_of_block hc', ⟨c', hc'⟩, ?_, ?_, ?_, ⟨ao, cap, ?_, q7, q8⟩, trivial⟩
  · rw [cell_of_blk hc']; exact e0
  · rw [cell_of_blk hc']; exact e1
  · rw [cell_of_blk hc']; exact e2
  · rw [cell_of_blk hc']; exact e3
theorem app_one (pre : EL) (op n : Int) (s : Txt) (kids rest : EL) : (pre.app (.cons op n s kids .nil)).app rest = pre.app (.cons op n s kids rest) := by
  rw [EL.app_assoc]; rfl
theorem Bh.ltE {w : World} {B g : Nat} {LE LS : List (Nat × Nat)} {vS vE : Value} (h : Bh w B g LE LS vS vE) {p : Nat × Nat} (hp : p ∈ LE) : p.1 < w.heap.size := by
  obtain ⟨c, hc, _⟩ := h.ex p hp
  exact lt_of_block hc
theorem Bh.ltS {w : World} {B g : Nat} {LE LS : List (Nat × Nat)} {vS vE : Value} (h : Bh w B g LE LS vS vE) {p : Nat × Nat} (hp : p ∈ LS) : p.1 < w.heap.size := by
  obtain ⟨c, hc, _⟩ := h.st p hp
  exact lt_of_block hc
/-- A block keeps clear of another of another kind. -/
theorem kind_ne {w : World} {i j : Nat} {c d : Array Value} {t u : TypeId} {fr gr : Nat × Nat} (h : w.heap[i]? = some (.cells c t fr)) (k : w.heap[j]? = some (.cells d u gr)) (hne : t ≠ u) : i ≠ j := by
  rintro rfl
  rw [h] at k
  simp at k
  exact hne k.2.1
/-- One more list is lent out. -/
theorem Bh.lentE {wr w6 : World} {B g a n : Nat} {LE LS : List (Nat × Nat)} {vS vE : Value} (h : Bh wr B g LE LS vS vE) (hm : MarkE wr (a, n)) (X : Obj) {g' cap : Nat} (ho : w6.ownsRow B 23 1 (.slice (some ⟨g', 0, none⟩) (LE.length + 1) cap) (LE.length + 1) (LE.map slv ++ [slv (a, n)])) (hg : (wr.alloc X).grownBy w6 vE.ownBlock) :
    Bh (w6.setCell ⟨g, 1, none⟩ (.slice (some ⟨g', 0, none⟩) (LE.length + 1) cap)) B g (LE ++ [(a, n)]) LS vS (.slice (some ⟨g', 0, none⟩) (LE.length + 1) cap) ∧ Keeps (BF wr B g) wr (w6.setCell ⟨g, 1, none⟩ (.slice (some ⟨g', 0, none⟩) (LE.length + 1) cap)) := by
  have k6 : Keeps (fun q => vE.ownBlock = some q) wr w6 := ((Keeps.refl _ wr).alloc X).trans ((Keeps.refl (fun q => vE.ownBlock = some q) (wr.alloc X)).grown hg (fun q e _ => e))
  have kE : ∀ q, vE.ownBlock = some q → ∃ c, wr.heap[q]? = some (.cells c 23 (0, 0)) := fun q e => (own_block h.rowE e).2
  have hgE : ¬ vE.ownBlock = some g := fun e => by
    obtain ⟨c, hc⟩ := kE g e
    exact kind_ne hc h.blk (by decide) rfl
  have blk6 := (k6.block g (lt_of_block h.blk) hgE).trans h.blk
  have k7 : Keeps (fun q => vE.ownBlock = some q ∨ q = g) wr (w6.setCell ⟨g, 1, none⟩ (.slice (some ⟨g', 0, none⟩) (LE.length + 1) cap)) := Keeps.setCell (F := fun q => vE.ownBlock = some q ∨ q = g) (p := ⟨g, 1, none⟩) (k6.mono (fun _ _ e => Or.inl e)) (fun _ => Or.inr rfl) _
  have k67 := keeps_set w6 g 1 (.slice (some ⟨g', 0, none⟩) (LE.length + 1) cap)
  have far : ∀ {i : Nat} {c : Array Value} {t : TypeId}, wr.heap[i]? = some (.cells c t (0, 0)) → t ≠ 23 → t ≠ 32 → ¬ (vE.ownBlock = some i ∨ i = g) := fun {i c t} hi h1 h2 => by
    rintro (e | e)
    · obtain ⟨d, hd⟩ := kE i e
      exact kind_ne hi hd h1 rfl
    · exact kind_ne hi h.blk h2 e
  refine ⟨⟨h.lo, ?_, ?_, ?_, fun p hp => ?_, fun p hp => ?_⟩, k7.mono fun k _ hf => ?_⟩
  · have := heap_setCell_at blk6 (o := 1) (.slice (some ⟨g', 0, none⟩) (LE.length + 1) cap)
    simpa using this
  · refine own_kept h.rowS k7 (fun b hb => ?_)
    obtain ⟨_, c, hc⟩ := own_block h.rowS hb
    exact far hc (by decide) (by decide)
  · have ho' : w6.ownsRow B 23 1 (.slice (some ⟨g', 0, none⟩) (LE.length + 1) cap) (LE ++ [(a, n)]).length ((LE ++ [(a, n)]).map slv) := by simpa using ho
    refine own_kept ho' k67 (fun b hb e => ?_)
    obtain ⟨_, c, hc⟩ := own_block ho hb
    exact kind_ne hc blk6 (by decide) e
  · rcases List.mem_append.1 hp with hp | hp
    · obtain ⟨c, hc, _⟩ := h.ex p hp
      exact (h.ex p hp).keep k7 (far hc (by decide) (by decide))
    · obtain rfl : p = (a, n) := by simpa using hp
      have hm2 := hm
      obtain ⟨c, hc, _⟩ := hm2
      exact MarkE.keep (p := (a, n)) hm k7 (far hc (by decide) (by decide))
  · obtain ⟨c, hc, _⟩ := h.st p hp
    exact (h.st p hp).keep k7 (far hc (by decide) (by decide))
  · rcases hf with e | e
    · obtain ⟨h1, c, hc⟩ := own_block h.rowE e
      exact Or.inr ⟨h1, c, 23, Or.inr rfl, hc⟩
    · exact Or.inl e
/-- What a copy leaves. -/
def BPost (B g : Nat) (l : EL) (LE LS : List (Nat × Nat)) (vS : Value) (w : World) (e : Ending) (w' : World) : Prop :=
  ∃ LE' vE', e = .returned (.slice (some ⟨w.heap.size, 0, none⟩) l.len (l.len + 8)) ∧ (∀ up, up < w.heap.size → SlE cpyZ w' up (.slice (some ⟨w.heap.size, 0, none⟩) l.len (l.len + 8)) l) ∧ Bh w' B g LE' LS vS vE' ∧ LE'.length ≤ LE.length + l.size + 1 ∧ (∀ p ∈ LE', p ∈ LE ∨ w.heap.size ≤ p.1) ∧ Keeps (BF w B g) w w'

set_option maxRecDepth 100000 in
set_option maxHeartbeats 1600000 in
theorem bexprs_v (B A g : Nat) (N : Nat) : ∀ (l : EL), l.size < N → l.size ≤ 2147483647 → ∀ (w : World) (up : Nat) (v vS vE : Value) (LE LS : List (Nat × Nat)), B ≤ w.heap.size → A ≤ w.heap.size → SlE (mixZ B A) w up v l → Bh w B g LE LS vS vE → LE.length + l.size ≤ 1000000000000 →
    Calls Tryd.prog 8 #[.pointer (some ⟨g, 0, none⟩), v] w (BPost B g l LE LS vS w) := by
  induction N with
  | zero => intro l h; omega
  | succ N ih =>
    intro l hsz hlen' w up v vS vE LE LS hB hA hS hBh hbd
    have hlen : l.len ≤ 2147483647 := by have := EL.len_le l; omega
    obtain ⟨ao, cap, b, off, rfl, hcap, ha, hx⟩ := hS.open
    obtain ⟨c0, hc0, hrun⟩ := run_mkE l.len hlen w
    have IH := hide ih
    have HX := hide hx
    have HA := hide ha
    have HBH := hide hBh
    clear hS ih hx ha hBh
    go_enter Tryd.func8, Tryd.ntmps8
    go_wp2_with fail
    have HK0 : Hid (Keeps (fun _ => False) w (w.alloc (.cells c0 25))) := hide ((Keeps.refl _ w).alloc _)
    go_loopw [6] (fun i wr => ∃ (pre rest : EL) (k : Nat) (c : Array Value) (LE' : List (Nat × Nat)) (vE' : Value), i = .int .i64 k ∧ l = pre.app rest ∧ k = pre.len ∧ wr.heap[w.heap.size]? = some (.cells c 25 (0, 0)) ∧ c.size = (l.len + 8) * 4 ∧ ExIn cpyZ wr pre w.heap.size 0 ∧ Bh wr B g LE' LS vS vE' ∧ LE'.length ≤ LE.length + pre.size ∧ (∀ p ∈ LE', p ∈ LE ∨ w.heap.size + 1 ≤ p.1) ∧ Keeps (BF w B g) w wr ∧ ExIn (mixZ B A) wr rest b (off + k * 4)) (fun i _ => l.len - (intOf i).toNat)
    case atStart => exact ⟨.nil, l, 0, c0, LE, vE, rfl, rfl, rfl, heap_alloc_new w _, hc0, trivial, (unhide HBH).keepF (unhide HK0), by simp [EL.size], fun p hp => Or.inl hp, (unhide HK0).any, by simpa using (unhide HX).keepF (unhide HK0)⟩
    case round =>
      obtain ⟨pre, rest, k, c, LE', vE', rfl, happ, hkp, hblk, hcs, hpre, hbh, hle, hnew, hkeep, hr⟩ := hrel
      have hll := congrArg EL.len happ
      have hls := congrArg EL.size happ
      rw [EL.len_app] at hll
      rw [EL.size_app] at hls
      have HAPP := hide happ
      have happ' := happ
      have HKP := hide hkp
      clear happ
      cases rest with
      | nil =>
        rw [EL.app_nil] at happ'
        subst happ'
        simp only [EL.len, EL.size] at hll hls
        have i1 : ¬ (k : Int) < (l.len : Int) := by omega
        have i3 : (l.len : Int) ≤ 2147483647 := by omega
        have hkl : k = l.len := hkp
        have hsw : w.heap.size < wr.heap.size := lt_of_block hblk
        have HPRE := hide hpre
        have HBH1 := hide hbh
        have HNEW := hide hnew
        have HBLK := hide hblk
        have HK := hide hkeep
        have HLE := hide hle
        clear hr hpre hbh hnew hblk hkeep hle hkp hll hls
        go_wp2_with fail
        go_loopw [7] (fun i w2 => ∃ (j : Nat) (c : Array Value), i = .int .i64 j ∧ l.len ≤ j ∧ j ≤ l.len + 8 ∧ w2.heap[w.heap.size]? = some (.cells c 25 (0, 0)) ∧ c.size = (l.len + 8) * 4 ∧ (∀ q, l.len ≤ q → q < j → c[q * 4]? = some (.int .i64 (9000 + (q : Int))) ∧ c[q * 4 + 2]? = some (str behindT)) ∧ ExIn cpyZ w2 l w.heap.size 0 ∧ Bh w2 B g LE' LS vS vE' ∧ Keeps (BF w B g) w w2) (fun i _ => l.len + 8 - (intOf i).toNat)
        case atStart => exact ⟨l.len, c, rfl, Nat.le_refl _, by omega, unhide HBLK, hcs, fun q h1 h2 => by omega, unhide HPRE, unhide HBH1, unhide HK⟩
        case round =>
          obtain ⟨j, c2, rfl, hj1, hj2, hblk, hcs2, hmk, hpre, hbh, hkeep⟩ := hrel
          have HPRE2 := hide hpre
          have HBH2 := hide hbh
          have HBLK2 := hide hblk
          have HK2 := hide hkeep
          have HMK := hide hmk
          clear HPRE HBH1 HBLK HK
          by_cases hj8 : j < l.len + 8
          · have j1 : (j : Int) < (l.len : Int) + 8 := by omega
            have j0 : (0 : Int) ≤ (j : Int) := by omega
            obtain ⟨x0, hx0⟩ : ∃ x, c2[j * 4]? = some x := ⟨_, Array.getElem?_eq_getElem (by omega)⟩
            obtain ⟨x1, hx1⟩ : ∃ x, c2[j * 4 + 1]? = some x := ⟨_, Array.getElem?_eq_getElem (by omega)⟩
            obtain ⟨x2, hx2⟩ : ∃ x, c2[j * 4 + 2]? = some x := ⟨_, Array.getElem?_eq_getElem (by omega)⟩
            obtain ⟨x3, hx3⟩ : ∃ x, c2[j * 4 + 3]? = some x := ⟨_, Array.getElem?_eq_getElem (by omega)⟩
            have a0 := (cell_of_blk hblk (j * 4)).trans hx0
            have a1 := (cell_of_blk hblk (j * 4 + 1)).trans hx1
            have a2 := (cell_of_blk hblk (j * 4 + 2)).trans hx2
            have a3 := (cell_of_blk hblk (j * 4 + 3)).trans hx3
            have z0 := frozen_of_blk hblk (j * 4)
            have z1 := frozen_of_blk hblk (j * 4 + 1)
            have z2 := frozen_of_blk hblk (j * 4 + 2)
            have z3 := frozen_of_blk hblk (j * 4 + 3)
            clear hpre hbh hblk hkeep hmk
            go_wp2_with fail
            obtain ⟨c3, hc3, hs3, e0, e1, e2, e3, eo⟩ := set4_blk (unhide HBLK2) j (.int .i64 (9000 + (j : Int))) (.int .i64 0) (str behindT) (.slice none 0 0) (by omega)
            have hks := set4_keeps wr w.heap.size j (.int .i64 (9000 + (j : Int))) (.int .i64 0) (str behindT) (.slice none 0 0)
            have hbh0 := unhide HBH
            have hne : ∀ p ∈ LE', p.1 ≠ w.heap.size := fun p hp => by
              rcases (unhide HNEW) p hp with h | h
              · have := hbh0.ltE h; omega
              · omega
            go_roundw
            case rel =>
              refine ⟨j + 1, c3, by go_num, by omega, by omega, hc3, by omega, fun q h1 h2 => ?_, set4_high (unhide HPRE2) hj1 _ _ _ _, (unhide HBH2).apart (s := false) ⟨c2, unhide HBLK2⟩ hne (fun p hp => by have := hbh0.ltS hp; omega) hks, (unhide HK2).then hks (fun i hi e => by omega)⟩
              by_cases hq : q = j
              · subst hq
                exact ⟨e0, e2⟩
              · rw [eo (q * 4) (by omega), eo (q * 4 + 2) (by omega)]
                exact (unhide HMK) q h1 (by omega)
            case measure => simp [intOf]; omega
          · have j1 : ¬ (j : Int) < (l.len : Int) + 8 := by omega
            obtain rfl : j = l.len + 8 := by omega
            obtain ⟨i0, hi, hz0, hz1, hz2⟩ := info_parts Tryd.info23
            have cg := (cell_of_blk hbh.blk 1).trans (show (#[vS, vE'] : Array Value)[1]? = some vE' from rfl)
            have zg := frozen_of_blk hbh.blk 1
            have hgl := lt_of_block hbh.blk
            have hgE : ¬ vE'.ownBlock = some g := fun e => by
              obtain ⟨_, c, hc⟩ := own_block hbh.rowE e
              exact kind_ne hc hbh.blk (by decide) rfl
            have HL := hide (unhide HLE)
            have hl9 : LE'.length ≤ LE.length + l.size := unhide HLE
            have hBr : B ≤ wr.heap.size := by have := hkeep.size; omega
            have HMKE : Hid (MarkE wr (w.heap.size, l.len)) := hide ⟨c2, hblk, fun q h1 h2 => hmk q h1 h2, hlen⟩
            clear hpre hbh hblk hkeep hmk
            go_wp2_with (at_builtin; refine wpList_append_lies _ rfl _ _ _ rfl B 23 i0 _ 1 24 Tryd.underlying30 hi hz0 hz1 hz2 rfl (by omega) vE' LE'.length (LE'.map slv) rfl ((unhide HBH2).rowE.alloc _) ⟨wr.heap.size, 0, none⟩ 1 1 [slv (w.heap.size, l.len)] rfl rfl (World.news_of_block (cs := #[Value.slice (some ⟨w.heap.size, 0, none⟩) (l.len + 8) (l.len + 8)]) (t := 23) (fr := (0, 0)) (heap_alloc_new wr _)) (by simp [Value.oneCell', slv]) (by omega) (by unfold maxLen; omega) (by omega) (by simp; omega) (wr.heap.size + 1) (by simp) ?_; intro g' cap6 w6 hown6 hgrow hat hlt6; have k6 : Keeps (fun q => vE'.ownBlock = some q) wr w6 := ((Keeps.refl _ wr).alloc _).trans ((Keeps.refl (fun q => vE'.ownBlock = some q) _).grown hgrow (fun q e _ => e)); have cg6 := (k6.cell (o := 1) hgl hgE).trans cg; have zg6 := frozen_of_blk ((k6.block g hgl hgE).trans (unhide HBH2).blk) 1; have HO6 := hide hown6; have HGR := hide hgrow; clear hown6 hgrow hat k6)
            go_ret
            obtain ⟨hbh7, hk7⟩ := (unhide HBH2).lentE (unhide HMKE) _ (unhide HO6) (unhide HGR)
            refine ⟨LE' ++ [(w.heap.size, l.len)], _, rfl, fun up hup => ⟨_, _, rfl, by omega, fun _ => ⟨w.heap.size, 0, rfl, hup, ExIn.bf (unhide HBH2) hk7 (unhide HPRE2)⟩⟩, hbh7, by simp; omega, fun p hp => ?_, bf_trans (unhide HK2) hk7⟩
            rcases List.mem_append.1 hp with hp | hp
            · rcases (unhide HNEW) p hp with h | h
              · exact Or.inl h
              · exact Or.inr (by omega)
            · obtain rfl : p = (w.heap.size, l.len) := by simpa using hp
              exact Or.inr (Nat.le_refl _)
      | cons op n s kids rest =>
        obtain ⟨h1, h2, h3, h4, h5, ⟨kao, kcap, h6, h7, h8⟩, h9⟩ := hr
        simp only [EL.len, EL.size] at hll hls
        have hkl : k + (rest.len + 1) = l.len := by omega
        have hks : pre.size + (kids.size + rest.size + 1) = l.size := by omega
        clear hll hls hkp happ'
        obtain ⟨rfl, hp⟩ := (unhide HA) (by omega)
        have HKID : Hid (SlE (mixZ B A) wr b (.slice kao kids.len kcap) kids) := ⟨kao, kcap, rfl, h7, h8⟩
        have HR := hide h9
        have HK := hide hkeep
        have HPRE := hide hpre
        have HBH1 := hide hbh
        have HNEW := hide hnew
        have HBLK := hide hblk
        have hbA : b < A := h2.1
        have hnb : ¬ BF wr B g b := mix_bf hbh h2
        have i1 : (k : Int) < (l.len : Int) := by omega
        have i0 : (0 : Int) ≤ (k : Int) := by omega
        have i2 : (k : Int) < (l.len : Int) + 8 := by omega
        have hsw : w.heap.size < wr.heap.size := lt_of_block hblk
        have HCALL := hide (unhide IH kids (by omega) (by omega) wr.drew b (.slice kao kids.len kcap) vS vE' LE' LS (by show B ≤ wr.heap.size; omega) (by show A ≤ wr.heap.size; omega) ((unhide HKID).keepF (Keeps.refl _ wr).drew) ((unhide HBH1).keepF (Keeps.refl _ wr).drew) (by omega))
        obtain ⟨x0, hx0⟩ : ∃ x, c[k * 4]? = some x := ⟨_, Array.getElem?_eq_getElem (by omega)⟩
        obtain ⟨x1, hx1⟩ : ∃ x, c[k * 4 + 1]? = some x := ⟨_, Array.getElem?_eq_getElem (by omega)⟩
        obtain ⟨x2, hx2⟩ : ∃ x, c[k * 4 + 2]? = some x := ⟨_, Array.getElem?_eq_getElem (by omega)⟩
        obtain ⟨x3, hx3⟩ : ∃ x, c[k * 4 + 3]? = some x := ⟨_, Array.getElem?_eq_getElem (by omega)⟩
        have hnbf := cpy_bf hbh (s := false) ⟨c, hblk⟩
        have hab : w.heap.size ≠ b := by omega
        clear h2 h8 h9 hkeep hpre hbh hnew hblk
        go_wp2_with fail
        go_region_held3 (fun w' => w'.cell? ⟨b, off + k * 4, none⟩ = some (.int .i64 op) ∧ w'.cell? ⟨b, off + k * 4 + 1, none⟩ = some (.int .i64 n) ∧ w'.cell? ⟨b, off + k * 4 + 2, none⟩ = some (str s) ∧ w'.cell? ⟨b, off + k * 4 + 3, none⟩ = some (.slice kao kids.len kcap)) (first | (refine ⟨?_, ?_, ?_, ?_⟩ <;> (simp only [cell_far hab]; assumption)) | exact ⟨s3, s4, s5, s6⟩ | exact ⟨h3, h4, h5, h6⟩)
          ((go_at_call 8; refine (unhide HCALL).mono ?_; rintro e w1 ⟨LE1, vE1, rfl, hsl, hbh1, hle1, hnew1, hk1⟩; have s3 := (hk1.cell h1 hnb).trans h3; have s4 := (hk1.cell h1 hnb).trans h4; have s5 := (hk1.cell h1 hnb).trans h5; have s6 := (hk1.cell h1 hnb).trans h6; have hb1 := (hk1.block w.heap.size hsw hnbf).trans (unhide HBLK); have a0 := (cell_of_blk hb1 (k * 4)).trans hx0; have a1 := (cell_of_blk hb1 (k * 4 + 1)).trans hx1; have a2 := (cell_of_blk hb1 (k * 4 + 2)).trans hx2; have a3 := (cell_of_blk hb1 (k * 4 + 3)).trans hx3; have z0 := frozen_of_blk hb1 (k * 4); have z1 := frozen_of_blk hb1 (k * 4 + 1); have z2 := frozen_of_blk hb1 (k * 4 + 2); have z3 := frozen_of_blk hb1 (k * 4 + 3); have HB1 := hide hb1; have HSL := hide hsl; have HBH2 := hide hbh1; have HLE1 := hide hle1; have HNEW1 := hide hnew1; have HK1 := hide hk1; clear hb1 hsl hbh1 hle1 hnew1 hk1))
        go_wp2_with fail
        have hk := unhide HKP
        have hbh0 := unhide HBH
        have hbh2 := unhide HBH2
        have hk1 := unhide HK1
        obtain ⟨⟨c2, hc2, hcs2⟩, hx2⟩ := copyE_step (op := op) (n := n) (s := s) (unhide HB1) hk (by omega) (ExIn.bf ((unhide HBH1).keepF (Keeps.refl _ wr).drew) hk1 ((unhide HPRE).keepF (Keeps.refl _ wr).drew)) ((unhide HSL) w.heap.size (by show w.heap.size < wr.heap.size; omega))
        have hne : ∀ p ∈ LE1, p.1 ≠ w.heap.size := fun p hp => by
          rcases (unhide HNEW1) p hp with h | h
          · rcases (unhide HNEW) p h with h | h
            · have := hbh0.ltE h; omega
            · omega
          · have : wr.heap.size ≤ p.1 := h
            omega
        have hks2 := set4_keeps w1 w.heap.size k (.int .i64 op) (.int .i64 n) (str s) (.slice (some ⟨wr.heap.size, 0, none⟩) kids.len (kids.len + 8))
        go_roundw
        case rel =>
          refine ⟨pre.app (.cons op n s kids .nil), rest, k + 1, c2, LE1, vE1, by go_num, ?_, ?_, hc2, by omega, hx2, ?_, ?_, ?_, ?_, ?_⟩
          · rw [app_one]; exact unhide HAPP
          · rw [EL.len_app, hk]; rfl
          · exact hbh2.apart (s := false) ⟨c, unhide HB1⟩ hne (fun p hp => by have := hbh0.ltS hp; omega) hks2
          · have := unhide HLE1
            rw [EL.size_app]
            simp only [EL.size]
            omega
          · intro p hp
            rcases (unhide HNEW1) p hp with h | h
            · exact (unhide HNEW) p h
            · have : wr.heap.size ≤ p.1 := h
              exact Or.inr (by omega)
          · exact (bf_trans (unhide HK) (bf_trans (bf_any (Keeps.refl _ wr).drew) hk1)).then hks2 (fun i hi e => by omega)
          · rw [show off + (k + 1) * 4 = off + k * 4 + 4 by omega]
            exact ExIn.mixSet hA hks2 (ExIn.mixBf (unhide HBH1) (bf_trans (bf_any (Keeps.refl _ wr).drew) hk1) (unhide HR))
        case measure => simp [intOf]; omega
end Go.Proofs.YtlnkleicnkfkpaaDoor
