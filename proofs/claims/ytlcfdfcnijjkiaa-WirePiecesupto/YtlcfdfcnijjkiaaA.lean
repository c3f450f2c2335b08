import Derived.Test.YtlcfdfcnijjkiaaProg
import Derived.WalkKit
import Derived.WalkSpells
import Derived.WalkLawsBesides
import Derived.Laws.CopyOwn
import Derived.Maps.OwnSet
import Derived.Deep.AppendLies
import Derived.BigQuiet
import Derived.Deep.QuietTactic
import Derived.Deep.RegionHeld3
import Derived.Laws.IdiomStrings
import Derived.ArgAppend
import Derived.Deep.DeepAppendRoom
namespace Go.Proofs.Ytlcfdfcnijjkiaa
open Go.RowKit Go.Maps

theorem ret_int {k : IntKind} {a b : Int} (h : a = b) : Ending.returned (.int k a) = .returned (.int k b) := by rw [h]
theorem ret_bool {a b : Bool} (h : a = b) : Ending.returned (.bool a) = .returned (.bool b) := by rw [h]
theorem hide {p : Prop} (h : p) : Hid p := h
theorem unhide {p : Prop} (h : Hid p) : p := h

/-- All blocks that are there and are not named by F hold what they held. -/
structure Keeps (F : Nat → Prop) (w w' : World) : Prop where
  os : w'.os = w.os
  tape : w'.tape = w.tape
  output : w'.output = w.output
  size : w.heap.size ≤ w'.heap.size
  block : ∀ k, k < w.heap.size → ¬ F k → w'.heap[k]? = w.heap[k]?

theorem Keeps.refl (F : Nat → Prop) (w : World) : Keeps F w w := ⟨rfl, rfl, rfl, Nat.le_refl _, fun _ _ _ => rfl⟩
theorem Keeps.trans {F : Nat → Prop} {a b c : World} (h : Keeps F a b) (k : Keeps F b c) : Keeps F a c :=
  ⟨k.os.trans h.os, k.tape.trans h.tape, k.output.trans h.output, Nat.le_trans h.size k.size, fun i hi hF => (k.block i (Nat.lt_of_lt_of_le hi h.size) hF).trans (h.block i hi hF)⟩
theorem Keeps.mono {F G : Nat → Prop} {a b : World} (h : Keeps F a b) (hFG : ∀ k, k < a.heap.size → F k → G k) : Keeps G a b :=
  ⟨h.os, h.tape, h.output, h.size, fun k hk hG => h.block k hk (fun hf => hG (hFG k hk hf))⟩
theorem Keeps.any {G : Nat → Prop} {a b : World} (h : Keeps (fun _ => False) a b) : Keeps G a b := h.mono (fun _ _ f => f.elim)
theorem Keeps.drew {F : Nat → Prop} {a b : World} (h : Keeps F a b) : Keeps F a b.drew := ⟨h.os, h.tape, h.output, h.size, h.block⟩
theorem drewN_os (w : World) : ∀ n, (w.drewN n).os = w.os ∧ (w.drewN n).tape = w.tape ∧ (w.drewN n).output = w.output ∧ (w.drewN n).heap = w.heap
  | 0 => ⟨rfl, rfl, rfl, rfl⟩
  | n + 1 => by
    have := drewN_os w.drew n
    exact this
theorem Keeps.drewN {F : Nat → Prop} {a b : World} (h : Keeps F a b) (n : Nat) : Keeps F a (b.drewN n) := by
  obtain ⟨h1, h2, h3, h4⟩ := drewN_os b n
  exact ⟨h1.trans h.os, h2.trans h.tape, h3.trans h.output, by rw [h4]; exact h.size, by rw [h4]; exact h.block⟩
theorem Keeps.alloc {F : Nat → Prop} {a b : World} (h : Keeps F a b) (o : Obj) : Keeps F a (b.alloc o) :=
  h.trans ⟨rfl, rfl, rfl, by simp, fun k hk _ => Below.heap_alloc _ _ _ hk⟩
theorem Keeps.setCell {F : Nat → Prop} {a b : World} (h : Keeps F a b) {p : Addr} (hp : p.block < a.heap.size → F p.block) (u : Value) : Keeps F a (b.setCell p u) :=
  ⟨h.os, h.tape, h.output, by simpa using h.size, fun k hk hF => by
    have hne : k ≠ p.block := fun e => hF (by rw [e]; exact hp (by rw [← e]; exact hk))
    rw [Below.heap_setCell _ _ _ _ hne]; exact h.block k hk hF⟩
theorem Keeps.grown {F : Nat → Prop} {a b c : World} {row : Option Nat} (h : Keeps F a b) (hg : b.grownBy c row) (hr : ∀ k, row = some k → k < a.heap.size → F k) : Keeps F a c :=
  ⟨hg.os.trans h.os, hg.tape.trans h.tape, hg.output.trans h.output, Nat.le_trans h.size hg.size, fun k hk hF => by
    rw [hg.block k (Nat.lt_of_lt_of_le hk h.size) (fun e => hF (hr k e.symm hk))]; exact h.block k hk hF⟩
theorem Keeps.below {F : Nat → Prop} {a b : World} (h : Keeps F a b) {B : Nat} (hB : B ≤ a.heap.size) (hF : ∀ k, F k → B ≤ k) : Below B a b :=
  ⟨h.os, h.tape, h.output, h.size, fun k hk => h.block k (by omega) (fun f => by have := hF k f; omega)⟩
theorem Keeps.cell {F : Nat → Prop} {a b : World} (h : Keeps F a b) {k o : Nat} (hk : k < a.heap.size) (hF : ¬ F k) : b.cell? ⟨k, o, none⟩ = a.cell? ⟨k, o, none⟩ :=
  World.cell?_of_block (w := a) (h.block k hk hF)

theorem heap_setCell_at {w : World} {b o : Nat} {c : Array Value} {t : TypeId} {fr : Nat × Nat} (h : w.heap[b]? = some (.cells c t fr)) (v : Value) :
    (w.setCell ⟨b, o, none⟩ v).heap[b]? = some (.cells (c.setIfInBounds o v) t fr) := by
  simp [World.setCell, Array.getElem?_modify, h]
theorem lt_of_block {w : World} {b : Nat} {o : Obj} (h : w.heap[b]? = some o) : b < w.heap.size := (Array.getElem?_eq_some_iff.1 h).1
theorem cell_of_blk {w : World} {b : Nat} {c : Array Value} {t : TypeId} {fr : Nat × Nat} (h : w.heap[b]? = some (.cells c t fr)) (o : Nat) : w.cell? ⟨b, o, none⟩ = c[o]? := by
  simp [World.cell?, h]
theorem frozen_of_blk {w : World} {b : Nat} {c : Array Value} {t : TypeId} (h : w.heap[b]? = some (.cells c t (0, 0))) (o : Nat) : w.frozen? ⟨b, o, none⟩ = false := by
  simp [World.frozen?, h]


theorem Keeps.then {F G : Nat → Prop} {a b c : World} (h : Keeps G a b) (k : Keeps F b c) (hF : ∀ i, i < a.heap.size → F i → G i) : Keeps G a c :=
  ⟨k.os.trans h.os, k.tape.trans h.tape, k.output.trans h.output, Nat.le_trans h.size k.size, fun i hi hG => (k.block i (Nat.lt_of_lt_of_le hi h.size) (fun f => hG (hF i hi f))).trans (h.block i hi hG)⟩
theorem keeps_drewN (w : World) (n : Nat) : Keeps (fun _ => False) w (w.drewN n) := (Keeps.refl _ w).drewN n

theorem take_snoc {α : Type} (ws : List α) (k : Nat) (x : α) (h : ws[k]? = some x) : ws.take (k + 1) = ws.take k ++ [x] := by
  obtain ⟨hk, rfl⟩ := List.getElem?_eq_some_iff.1 h
  rw [List.take_succ_eq_append_getElem hk]

/-- A text. -/
abbrev Txt := List UInt8
abbrev str (l : Txt) : Value := .string ⟨l.toArray⟩
/-- A byte's number. -/
def num (c : UInt8) : Int := (c.toNat : Int)
theorem num_range (c : UInt8) : 0 ≤ num c ∧ num c ≤ 255 := by
  have := c.toNat_lt
  unfold num
  omega
/-- Bytes as cells. -/
def bs (l : Txt) : List Value := l.map fun c => Value.int .u8 (num c)
theorem bs_length (l : Txt) : (bs l).length = l.length := by simp [bs]
theorem bs_get (l : Txt) (j : Nat) : (bs l)[j]? = (l[j]?).map (fun c => Value.int .u8 (num c)) := by simp [bs]

/-- A slice of n elements whose cells read as xs. -/
structure RowAt (w : World) (v : Value) (n : Nat) (xs : List Value) : Prop where
  form : ∃ ao cap, v = .slice ao n cap
  cells : 0 < n → ∃ b off cap, v = .slice (some ⟨b, off, none⟩) n cap ∧ b < w.heap.size ∧ ∀ j x, xs[j]? = some x → w.cell? ⟨b, off + j, none⟩ = some x
  room : ∀ ao m cap, v = .slice ao m cap → m ≤ cap

theorem RowAt.kept {w w' : World} {v : Value} {n : Nat} {l : List Value} (h : RowAt w v n l) {F : Nat → Prop} (hk : Keeps F w w') (hF : ∀ k, v.ownBlock = some k → ¬ F k) : RowAt w' v n l := by
  refine ⟨h.form, fun h0 => ?_, h.room⟩
  obtain ⟨b, off, cap, e, hb, hc⟩ := h.cells h0
  refine ⟨b, off, cap, e, Nat.lt_of_lt_of_le hb hk.size, fun j x hx => ?_⟩
  rw [hk.cell hb (hF b (by rw [e]; rfl))]
  exact hc j x hx
theorem RowAt.keepF {w w' : World} {v : Value} {n : Nat} {l : List Value} (h : RowAt w v n l) (hk : Keeps (fun _ => False) w w') : RowAt w' v n l := h.kept hk (fun _ _ => id)
theorem RowAt.drewN {w : World} {v : Value} {n : Nat} {l : List Value} (h : RowAt w v n l) (k : Nat) : RowAt (w.drewN k) v n l := h.keepF (keeps_drewN w k)
theorem rowAt_own {w : World} {B t z n : Nat} {v : Value} {l : List Value} (h : w.ownsRow B t z v n l) : RowAt w v n l := by
  obtain ⟨hl, hh⟩ := h
  rcases hh with ⟨hv, hn⟩ | ⟨g, cap, cur, hv, hb, hg, h1, h2, h3, h4⟩
  · exact ⟨⟨none, 0, by rw [hn]; exact hv⟩, fun h0 => by omega, fun ao m cap e => by rw [hv] at e; simp at e; omega⟩
  · refine ⟨⟨_, _, hv⟩, fun _ => ⟨g, 0, cap, hv, lt_of_block hg, fun j x hx => ?_⟩, fun ao m cap' e => by rw [hv] at e; simp at e; omega⟩
    rw [cell_of_blk hg]
    rw [← h4, List.getElem?_take] at hx
    split at hx
    · simpa using hx
    · cases hx
theorem str_at {t : Txt} {k : Nat} {c : UInt8} (h : t[k]? = some c) : ∀ hk, (ByteArray.mk t.toArray)[k]'hk = c := by
  intro hk
  obtain ⟨_, rfl⟩ := List.getElem?_eq_some_iff.1 h
  rfl
theorem get_lt {α : Type} {t : List α} {k : Nat} {c : α} (h : t[k]? = some c) : k < t.length := (List.getElem?_eq_some_iff.1 h).1
theorem get_ge {α : Type} {t : List α} {k : Nat} (h : t[k]? = none) : t.length ≤ k := List.getElem?_eq_none_iff.1 h
theorem drop_at {α : Type} {t : List α} {a : Nat} {c : α} (h : t[a]? = some c) : t.drop a = c :: t.drop (a + 1) := by
  obtain ⟨ha, rfl⟩ := List.getElem?_eq_some_iff.1 h
  rw [List.drop_eq_getElem_cons ha]
theorem num_inj {a b : UInt8} (h : num a = num b) : a = b := by
  unfold num at h
  exact UInt8.toNat_inj.1 (by omega)
/-- Bytes in a slice. -/
def BytesAt (w : World) (v : Value) (l : Txt) : Prop := RowAt w v l.length (bs l)
theorem BytesAt.keepF {w w' : World} {v : Value} {l : Txt} (h : BytesAt w v l) (hk : Keeps (fun _ => False) w w') : BytesAt w' v l := RowAt.keepF h hk
theorem BytesAt.cells {w : World} {v : Value} {l : Txt} (h : BytesAt w v l) (h0 : 0 < l.length) :
    ∃ b off cap, v = .slice (some ⟨b, off, none⟩) l.length cap ∧ b < w.heap.size ∧ ∀ i c, l[i]? = some c → w.cell? ⟨b, off + i, none⟩ = some (.int .u8 (num c)) := by
  obtain ⟨b, off, cap, e, hb, hc⟩ := RowAt.cells h h0
  exact ⟨b, off, cap, e, hb, fun i c hi => hc i _ (by rw [bs_get, hi]; rfl)⟩
theorem ownsRow_kept {w w' : World} {B e size n : Nat} {v : Value} {xs : List Value} (h : w.ownsRow B e size v n xs) {F : Nat → Prop} (hk : Keeps F w w') (hF : ∀ k, v.ownBlock = some k → ¬ F k) : w'.ownsRow B e size v n xs := by
  obtain ⟨h1, h2⟩ := h
  refine ⟨h1, ?_⟩
  rcases h2 with h2 | ⟨g, cap, cur, hv, hb, hg, rest⟩
  · exact Or.inl h2
  · exact Or.inr ⟨g, cap, cur, hv, hb, by rw [hk.block g (lt_of_block hg) (hF g (by rw [hv]; rfl))]; exact hg, rest⟩
theorem ownsRow_lower {w : World} {B C e size n : Nat} {v : Value} {xs : List Value} (h : w.ownsRow B e size v n xs) (hC : C ≤ B) : w.ownsRow C e size v n xs := by
  obtain ⟨h1, h2⟩ := h
  refine ⟨h1, ?_⟩
  rcases h2 with h2 | ⟨g, cap, cur, hv, hb, rest⟩
  · exact Or.inl h2
  · exact Or.inr ⟨g, cap, cur, hv, Nat.le_trans hC hb, rest⟩
theorem keeps_set (w : World) (b o : Nat) (u : Value) : Keeps (fun q => q = b) w (w.setCell ⟨b, o, none⟩ u) :=
  (Keeps.refl (fun q => q = b) w).setCell (p := ⟨b, o, none⟩) (fun _ => rfl) u
theorem own_geO {w : World} {B e size n : Nat} {v : Value} {xs : List Value} (h : w.ownsRow B e size v n xs) {k : Nat} (hk : v.ownBlock = some k) : B ≤ k := by
  rcases h.2 with ⟨hv, _⟩ | ⟨g, cap, cur, hv, hb, hg, rest⟩
  · rw [hv] at hk; cases hk
  · rw [hv] at hk
    simp [Value.ownBlock] at hk
    subst hk
    exact hb
theorem ownsRow_low {w : World} {B C e size n : Nat} {v : Value} {xs : List Value} (h : w.ownsRow B e size v n xs) (hC : C ≤ B) : w.ownsRow C e size v n xs :=
  ⟨h.1, h.2.imp id fun ⟨g, cap, cur, a1, a2, a3⟩ => ⟨g, cap, cur, a1, Nat.le_trans hC a2, a3⟩⟩
/-- A struct in a box and a slot, handed back. -/
theorem results_cr {P : Program} {fn : Func} {p q : Tmp} {ty : TypeId} (h : fn.results = #[.cell p ty, .tmp q]) (tmps : Array Value) (w : World) (g : Nat) (t : TypeId) (cs : Array Value) (fr : Nat × Nat) (d : TypeDesc) (v : Value)
    (hp : tmps.getD p undef = .pointer (some ⟨g, 0, none⟩)) (hq : tmps.getD q undef = v) (hg : w.heap[g]? = some (.cells cs t fr))
    (hu : P.underlying ty = some d) (hd : (match d with | .struct _ | .array _ _ => true | _ => false) = true) (hi : (P.info? ty).map (·.size) = some cs.size) :
    (results fn tmps).run P w = .ok (.tuple #[.agg cs, v]) w := by
  have hp' : tmps[p]?.getD undef = .pointer (some ⟨g, 0, none⟩) := by simpa using hp
  have hq' : tmps[q]?.getD undef = v := by simpa using hq
  simp [results, h, hp', hq', asAddr, run_loadVar_row w g t ty cs fr d hg hu hd hi]
theorem narrowO {F : Nat → Prop} {a b c : World} (h : Keeps (fun _ => False) a b) (k : Keeps F b c) (hF : ∀ i, F i → a.heap.size ≤ i) : Keeps (fun _ => False) a c :=
  ⟨k.os.trans h.os, k.tape.trans h.tape, k.output.trans h.output, Nat.le_trans h.size k.size, fun i hi _ => (k.block i (Nat.lt_of_lt_of_le hi h.size) (fun e => by have := hF i e; omega)).trans (h.block i hi id)⟩
theorem own_lt {w : World} {B e z n : Nat} {v : Value} {xs : List Value} (h : w.ownsRow B e z v n xs) {k : Nat} (hk : v.ownBlock = some k) : k < w.heap.size := by
  rcases h.2 with ⟨rfl, _⟩ | ⟨g, cap, cur, rfl, _, hg, _⟩
  · cases hk
  · simp [Value.ownBlock] at hk
    subst hk
    exact lt_of_block hg
theorem own_typed {w : World} {B e z n : Nat} {v : Value} {xs : List Value} (h : w.ownsRow B e z v n xs) {k : Nat} (hk : v.ownBlock = some k) : B ≤ k ∧ ∃ c, w.heap[k]? = some (.cells c e (0, 0)) := by
  rcases h.2 with ⟨rfl, _⟩ | ⟨g, cap, cur, rfl, hb, hg, _⟩
  · cases hk
  · simp [Value.ownBlock] at hk
    subst hk
    exact ⟨hb, cur, hg⟩
/-- A row that was there lies in no block of a row that was born later. -/
theorem sep_new {w w' : World} {B e z n e' z' n' : Nat} {v v' : Value} {xs xs' : List Value} (h : w.ownsRow B e z v n xs) (h' : w'.ownsRow w.heap.size e' z' v' n' xs') (q : Nat) (hv : v.ownBlock = some q) (hv' : v'.ownBlock = some q) : False := by
  have := own_lt h hv
  have := own_geO h' hv'
  omega
theorem own_apart {w : World} {B e size n : Nat} {v : Value} {xs : List Value} {B' e' size' n' : Nat} {v' : Value} {xs' : List Value} (h : w.ownsRow B e size v n xs) (h' : w.ownsRow B' e' size' v' n' xs') (he : e ≠ e') (k : Nat) (hk : v.ownBlock = some k) (hk' : v'.ownBlock = some k) : False := by
  rcases h.2 with ⟨rfl, _⟩ | ⟨g, cap, cur, rfl, _, hg, _⟩
  · cases hk
  · rcases h'.2 with ⟨rfl, _⟩ | ⟨g', cap', cur', rfl, _, hg', _⟩
    · cases hk'
    · simp [Value.ownBlock] at hk hk'
      subst hk
      subst hk'
      rw [hg] at hg'
      simp only [Option.some.injEq, Obj.cells.injEq] at hg'
      exact he hg'.2.1
/-- append onto a row of one's own: in place, or into a new block with all old blocks as they were. -/
theorem append_two {P : Program} (w : World) {ops : Array Oper} {rest : List Oper} {o : Oper} {a : Act} {Q : Exit → Act → World → Prop} (hgd : o.guard = none) (s x : Operand) (t : TypeId)
    (ho : o.op = .call { callee := .builtin .append, args := #[s, x], argTypes := #[t, t] })
    (base : Nat) (e : TypeId) (i : TypeInfo) (z : Value) (size bytes : Nat) (ht : P.underlying t = some (.slice e)) (hi : P.info? e = some i) (hz : i.zero = some z)
    (hsize : i.size = size) (hby : i.bytes = bytes) (hzs : z.cells.size = size) (hsz : 0 < size)
    (v : Value) (n : Nat) (xs : List Value) (hs : a.eval s = v) (hown : w.ownsRow base e size v n xs)
    (ad : Addr) (m c : Nat) (news : List Value) (hx : a.eval x = .slice (some ad) m c) (hl : news.length = m * size) (hnews : ∀ j u, news[j]? = some u → w.cell? (ad.add j) = some u) (h1 : ∀ u ∈ news, u.oneCell' = true)
    (hm : 0 < m) (h63 : n + m ≤ maxLen) (hbytes : (n + m) * bytes ≤ 140737488355328) (hbase : base ≤ w.heap.size)
    (h : ∀ g cap w', w'.ownsRow base e size (.slice (some ⟨g, 0, none⟩) (n + m) cap) (n + m) (xs ++ news) → ((v = .slice (some ⟨g, 0, none⟩) n cap ∧ w.grownBy w' (some g)) ∨ (w.heap.size ≤ g ∧ w.grownBy w' none)) → wpList P ops Q rest (a.put o.dst (.slice (some ⟨g, 0, none⟩) (n + m) cap)) w') : wpList P ops Q (o :: rest) a w := by
  have grows : ∀ v' w', w'.ownsRow w.heap.size e size v' (n + m) (xs ++ news) → w.grownBy w' none → wpList P ops Q rest (a.put o.dst v') w' := by
    intro v' w' h2 h3
    obtain ⟨g, cap, rfl, hg, hlt⟩ := h2.form (by omega)
    exact h g cap w' (ownsRow_low h2 hbase) (Or.inr ⟨hg, h3⟩)
  rcases hown.2 with ⟨rfl, rfl⟩ | ⟨g, cap, cur, rfl, hbg, hg, hnc, hcm, hcs, htake⟩
  · have hx0 : xs = [] := List.eq_nil_of_length_eq_zero (by simpa using hown.1)
    subst hx0
    exact wpList_append_grows w hgd s x t ho e i z size bytes ht hi hz hsize hby hzs hsz none 0 0 [] hs (fun _ => ⟨rfl, rfl⟩) (by simp) (fun _ h => by cases h) ad m c news hx hl hnews h1 (by omega) h63 hbytes grows
  · by_cases hroom : n + m ≤ cap
    · refine wpList_append_own_spare w hgd s x t ho base e i size ht hi hsize g n cap xs hs hown ad m c news hx hl hnews h1 hroom (fun w' h2 h3 => ?_)
      exact h g cap w' h2 (Or.inl ⟨rfl, h3⟩)
    · refine wpList_append_grows w hgd s x t ho e i z size bytes ht hi hz hsize hby hzs hsz (some ⟨g, 0, none⟩) n cap xs hs (fun h => by cases h) hown.1 (fun b hb j u hu => ?_) ad m c news hx hl hnews h1 (by omega) h63 hbytes grows
      cases hb
      have hadd : (⟨g, 0, none⟩ : Addr).add j = ⟨g, j, none⟩ := by unfold Addr.add; split <;> simp_all
      rw [hadd, cell_of_row w g j cur e (0, 0) hg]
      rw [← htake] at hu
      rw [List.getElem?_take] at hu
      split at hu
      · simpa using hu
      · cases hu
/-- A shorter row at the head of a row, in the same block with the same room. -/
theorem own_head {w : World} {B e z n m g cap : Nat} {xs ys : List Value} (h : w.ownsRow B e z (.slice (some ⟨g, 0, none⟩) m cap) m (xs ++ ys)) (hn : xs.length = n * z) (hz : 0 < z) : w.ownsRow B e z (.slice (some ⟨g, 0, none⟩) n cap) n xs := by
  refine ⟨hn, Or.inr ?_⟩
  rcases h.2 with ⟨h0, _⟩ | ⟨g', cap', cur, hv, hbg, hg, hnc, hcm, hcs, htake⟩
  · cases h0
  · cases hv
    have hl := h.1
    rw [List.length_append, hn] at hl
    have hnm : n ≤ m := Nat.le_of_mul_le_mul_right (by omega : n * z ≤ m * z) hz
    refine ⟨g, cap, cur, rfl, hbg, hg, by omega, hcm, hcs, ?_⟩
    have : (cur.toList.take (m * z)).take (n * z) = xs := by rw [htake, ← hn]; exact List.take_left
    rwa [List.take_take, Nat.min_eq_left (by omega)] at this
theorem same_cap {w : World} {B C e z n m g c d : Nat} {xs ys : List Value} (h : w.ownsRow B e z (.slice (some ⟨g, 0, none⟩) n c) n xs) (h' : w.ownsRow C e z (.slice (some ⟨g, 0, none⟩) m d) m ys) (hz : 0 < z) : c = d := by
  rcases h.2 with ⟨h0, _⟩ | ⟨g', cap', cur, hv, _, hg, _, _, hcs, _⟩
  · cases h0
  · rcases h'.2 with ⟨h0, _⟩ | ⟨g2, cap2, cur2, hv2, _, hg2, _, _, hcs2, _⟩
    · cases h0
    · cases hv
      cases hv2
      rw [hg] at hg2
      simp only [Option.some.injEq, Obj.cells.injEq] at hg2
      obtain ⟨rfl, _⟩ := hg2
      exact Nat.eq_of_mul_eq_mul_right hz (hcs.symm.trans hcs2)
/-- A row, and a longer one that was grown out of it: the row stays while the longer one grows on. -/
theorem both_grow {w w' : World} {B C e z n m k g cap : Nat} {vx vm : Value} {xs ys zs : List Value} (hx : w.ownsRow B e z vx n xs) (hm : w.ownsRow C e z vm m (xs ++ ys)) (hz : 0 < z)
    (h' : w'.ownsRow C e z (.slice (some ⟨g, 0, none⟩) k cap) k (xs ++ ys ++ zs)) (hc : (vm = .slice (some ⟨g, 0, none⟩) m cap ∧ w.grownBy w' (some g)) ∨ (w.heap.size ≤ g ∧ w.grownBy w' none)) : w'.ownsRow B e z vx n xs := by
  rcases hc with ⟨rfl, hg⟩ | ⟨_, hg⟩
  · by_cases hb : vx.ownBlock = some g
    · have hb2 := own_geO hx hb
      rcases hx.2 with ⟨rfl, _⟩ | ⟨g1, c1, cur1, rfl, h1, h2, _⟩
      · cases hb
      · simp [Value.ownBlock] at hb
        subst hb
        obtain rfl := same_cap hx hm hz
        have hx1 := hx.1
        rw [List.append_assoc] at h'
        have := own_head h' hx1 hz
        exact ⟨this.1, this.2.imp id fun ⟨g, cap, cur, a1, a2, a3⟩ => ⟨g, cap, cur, a1, by simp only [Value.slice.injEq, Option.some.injEq, Addr.mk.injEq] at a1; omega, a3⟩⟩
    · exact ownsRow_kept hx ((Keeps.refl (fun q => q = g) w).grown hg (fun q e _ => by simpa using e.symm)) (fun q e e2 => hb (by rw [e, e2]))
  · exact ownsRow_kept hx ((Keeps.refl (fun _ => False) w).grown hg (fun q e _ => by cases e)) (fun _ _ => id)
theorem both_set {w w' : World} {B C e z n m g cap : Nat} {vx : Value} {xs ys zs : List Value} (hx : w.ownsRow B e z vx n xs) (hm : w.ownsRow C e z (.slice (some ⟨g, 0, none⟩) m cap) m (xs ++ ys)) (hz : 0 < z)
    (h' : w'.ownsRow C e z (.slice (some ⟨g, 0, none⟩) m cap) m (xs ++ zs)) (hk : Keeps (fun q => q = g) w w') : w'.ownsRow B e z vx n xs := by
  by_cases hb : vx.ownBlock = some g
  · have hb2 := own_geO hx hb
    rcases hx.2 with ⟨rfl, _⟩ | ⟨g1, c1, cur1, rfl, h1, h2, _⟩
    · cases hb
    · simp [Value.ownBlock] at hb
      subst hb
      obtain rfl := same_cap hx hm hz
      have := own_head h' hx.1 hz
      exact ⟨this.1, this.2.imp id fun ⟨g, cap, cur, a1, a2, a3⟩ => ⟨g, cap, cur, a1, by simp only [Value.slice.injEq, Option.some.injEq, Addr.mk.injEq] at a1; omega, a3⟩⟩
  · exact ownsRow_kept hx hk (fun q e e2 => hb (by rw [e, e2]))
/-- A list whose first items are written over. -/
def overL {α : Type} (l : List α) (c : α) (k : Nat) : List α := List.replicate k c ++ l.drop k
theorem overL_zero {α : Type} (l : List α) (c : α) : overL l c 0 = l := by simp [overL]
theorem overL_len {α : Type} {l : List α} {c : α} {k : Nat} (h : k ≤ l.length) : (overL l c k).length = l.length := by simp [overL]; omega
theorem overL_end {α : Type} (l : List α) (c : α) : overL l c l.length = List.replicate l.length c := by simp [overL]
theorem overL_set {α : Type} {l : List α} {c : α} {k : Nat} (h : k < l.length) : (overL l c k).set k c = overL l c (k + 1) := by
  unfold overL
  rw [List.set_append_right _ _ (by simp), List.replicate_succ', List.append_assoc]
  congr 1
  rw [List.length_replicate, Nat.sub_self, List.drop_eq_getElem_cons h]
  rfl
theorem own_some {w : World} {B e z n m c : Nat} {o : Option Addr} {xs : List Value} (h : w.ownsRow B e z (.slice o n c) m xs) (hn : 0 < n) : ∃ g, o = some ⟨g, 0, none⟩ ∧ n ≤ c := by
  rcases h.2 with ⟨h0, _⟩ | ⟨g, cap, cur, hv, _, _, hnc, _⟩
  · simp only [Value.slice.injEq] at h0; omega
  · simp only [Value.slice.injEq] at hv
    obtain ⟨rfl, rfl, rfl⟩ := hv
    exact ⟨g, rfl, hnc⟩
theorem grow_keeps {w w' : World} {v : Value} {g n cap H : Nat} (hc : (v = .slice (some ⟨g, 0, none⟩) n cap ∧ w.grownBy w' (some g)) ∨ (H ≤ g ∧ w.grownBy w' none)) : Keeps (fun q => v.ownBlock = some q) w w' := by
  rcases hc with ⟨rfl, h⟩ | ⟨_, h⟩
  · exact (Keeps.refl _ _).grown h (fun q e _ => by simpa [Value.ownBlock] using e)
  · exact (Keeps.refl _ _).grown h (fun q e _ => by cases e)
theorem bs_setL (l : Txt) (i : Nat) (c : UInt8) : bs (l.set i c) = (bs l).set i (.int .u8 (num c)) := by unfold bs; rw [List.map_set]
theorem take_succ_eq {α : Type} {a b : List α} {k : Nat} (h : a.take k = b.take k) {x : α} (ha : a[k]? = some x) (hb : b[k]? = some x) : a.take (k + 1) = b.take (k + 1) := by
  rw [take_snoc _ _ _ ha, take_snoc _ _ _ hb, h]
theorem take_end {α : Type} {a b : List α} (hl : a.length = b.length) {k : Nat} (hk : a.length ≤ k) (h : a.take k = b.take k) : a = b := by
  rwa [List.take_of_length_le hk, List.take_of_length_le (by omega)] at h
theorem get_ne {α : Type} {a b : List α} {k : Nat} {x y : α} (ha : a[k]? = some x) (hb : b[k]? = some y) (h : x ≠ y) : a ≠ b := by
  intro e
  rw [e, hb] at ha
  exact h (by simpa using ha.symm)
end Go.Proofs.Ytlcfdfcnijjkiaa
