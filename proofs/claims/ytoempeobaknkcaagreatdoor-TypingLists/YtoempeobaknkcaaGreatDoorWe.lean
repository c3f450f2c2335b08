import Derived.Test.YtoempeobaknkcaaGreatDoorWc
import Derived.Test.YtoempeobaknkcaaGreatDoorWd
namespace Go.Proofs.YtoempeobaknkcaaGreatDoor
open Go.RowKit Go.Maps

/-- Two rows share no block. -/
def Off (v x : Value) : Prop := ∀ q, v.ownBlock = some q → x.ownBlock ≠ some q
theorem Off.symm {v x : Value} (h : Off v x) : Off x v := fun q e f => h q f e
theorem Off.nil (v : Value) (n c : Nat) : Off v (.slice none n c) := fun q _ f => by cases f
theorem GrewL.off {w w' : World} {base e n m g cap C e' z k : Nat} {v x : Value} {xs news ys : List Value} (h : GrewL w w' base e n m v g cap xs news) (hx : w.ownsRow C e' z x k ys) (ho : Off v x) : Off (.slice (some ⟨g, 0, none⟩) (n + m) cap) x := by
  intro q e f
  have e' : g = q := by simpa [Value.ownBlock] using e
  subst e'
  rcases grown_at h.how with h1 | h1
  · exact ho _ h1 f
  · have := own_lt hx f
    omega
theorem GrewL.other {w w' : World} {base e n m g cap C e' z k : Nat} {v x : Value} {xs news ys : List Value} (h : GrewL w w' base e n m v g cap xs news) (hx : w.ownsRow C e' z x k ys) (ho : Off v x) : w'.ownsRow C e' z x k ys :=
  ownsRow_kept hx h.keeps (fun q e f => ho q f e)
/-- The lists of texts, and three rows of them. -/
structure Tre (w0 w : World) (B : Nat) (M : List Itm) (lv wv sv : Value) (nl nw ns : Nat) (LR WR SR : List Value) : Prop where
  bag : Bag w B M
  l : w.ownsRow B 29 1 lv nl LR
  w_ : w.ownsRow B 29 1 wv nw WR
  s : w.ownsRow B 29 1 sv ns SR
  lw : Off lv wv
  ls : Off lv sv
  ws : Off wv sv
  k : Keeps (fun _ => False) w0 w
  b : w0.heap.size ≤ B
  b2 : B ≤ w.heap.size
section
variable {w0 w w' : World} {B nl nw ns : Nat} {M N : List Itm} {lv wv sv : Value} {LR WR SR : List Value}
theorem Tre.keep (h : Tre w0 w B M lv wv sv nl nw ns LR WR SR) (hk : Keeps (fun _ => False) w w') : Tre w0 w' B M lv wv sv nl nw ns LR WR SR :=
  ⟨h.bag.keepF hk, ownsRow_kept h.l hk (fun _ _ => id), ownsRow_kept h.w_ hk (fun _ _ => id), ownsRow_kept h.s hk (fun _ _ => id), h.lw, h.ls, h.ws, h.k.trans hk, h.b, Nat.le_trans h.b2 hk.size⟩
theorem Tre.perm (h : Tre w0 w B M lv wv sv nl nw ns LR WR SR) (hp : M.Perm N) : Tre w0 w B N lv wv sv nl nw ns LR WR SR :=
  ⟨h.bag.perm hp, h.l, h.w_, h.s, h.lw, h.ls, h.ws, h.k, h.b, h.b2⟩
theorem Tre.item {p : Itm} (h : Tre w0 w B (p :: M) lv wv sv nl nw ns LR WR SR) {F : Nat → Prop} (hk : Keeps F w w') (hF : ∀ q, F q → p.has q) (hb : Bag w' B N) : Tre w0 w' B N lv wv sv nl nw ns LR WR SR := by
  have hp := h.bag.all p (List.mem_cons_self ..)
  exact ⟨hb, row_bag h.l hp hk (fun q e _ => hF q e), row_bag h.w_ hp hk (fun q e _ => hF q e), row_bag h.s hp hk (fun q e _ => hF q e), h.lw, h.ls, h.ws, narrowO h.k hk (fun q e => Nat.le_trans h.b (hp.lt (hF q e)).1), h.b, Nat.le_trans h.b2 hk.size⟩
theorem Tre.set {g n c j : Nat} {X : List Txt} {m : Txt} (h : Tre w0 w B (lone1 (.slice (some ⟨g, 0, none⟩) n c) X :: M) lv wv sv nl nw ns LR WR SR) : Tre w0 (w.setCell ⟨g, j, none⟩ (str m)) B (lone1 (.slice (some ⟨g, 0, none⟩) n c) (X.set j m) :: M) lv wv sv nl nw ns LR WR SR :=
  h.item (keeps_set w g j (str m)) (fun _ e => Or.inl (by rw [e]; rfl)) h.bag.set
theorem Tre.grow {n g cap : Nat} {vx vm : Value} {X Y : List Txt} {m : Txt} (h : Tre w0 w B (⟨vx, X, vm, Y⟩ :: M) lv wv sv nl nw ns LR WR SR) (hn : (X ++ Y).length = n) (hg : GrewL w w' B 9 n 1 vm g cap (nmC (X ++ Y)) [str m]) :
    Tre w0 w' B (⟨vx, X, .slice (some ⟨g, 0, none⟩) (n + 1) cap, Y ++ [m]⟩ :: M) lv wv sv nl nw ns LR WR SR :=
  h.item hg.keeps (fun _ e => Or.inr e) (h.bag.grow1 hn hg)
theorem Tre.growSelf {n g cap : Nat} {v : Value} {X : List Txt} {m : Txt} (h : Tre w0 w B (lone1 v X :: M) lv wv sv nl nw ns LR WR SR) (hn : X.length = n) (hg : GrewL w w' B 9 n 1 v g cap (nmC X) [str m]) :
    Tre w0 w' B (lone1 (.slice (some ⟨g, 0, none⟩) (n + 1) cap) (X ++ [m]) :: M) lv wv sv nl nw ns LR WR SR := by
  subst hn
  exact h.item hg.keeps (fun _ e => Or.inl e) (h.bag.growSelf (Z := [m]) hg.own hg.how)
theorem Tre.growL {m g cap : Nat} {news : List Value} (h : Tre w0 w B M lv wv sv nl nw ns LR WR SR) (hg : GrewL w w' B 29 nl m lv g cap LR news) : Tre w0 w' B M (.slice (some ⟨g, 0, none⟩) (nl + m) cap) wv sv (nl + m) nw ns (LR ++ news) WR SR :=
  ⟨h.bag.rowKeep h.l hg.keeps, hg.own, hg.other h.w_ h.lw, hg.other h.s h.ls, hg.off h.w_ h.lw, hg.off h.s h.ls, h.ws, narrowO h.k hg.keeps (fun _ e => Nat.le_trans h.b (own_geO h.l e)), h.b, Nat.le_trans h.b2 hg.keeps.size⟩
theorem Tre.growW {m g cap : Nat} {news : List Value} (h : Tre w0 w B M lv wv sv nl nw ns LR WR SR) (hg : GrewL w w' B 29 nw m wv g cap WR news) : Tre w0 w' B M lv (.slice (some ⟨g, 0, none⟩) (nw + m) cap) sv nl (nw + m) ns LR (WR ++ news) SR :=
  ⟨h.bag.rowKeep h.w_ hg.keeps, hg.other h.l h.lw.symm, hg.own, hg.other h.s h.ws, (hg.off h.l h.lw.symm).symm, h.ls, hg.off h.s h.ws, narrowO h.k hg.keeps (fun _ e => Nat.le_trans h.b (own_geO h.w_ e)), h.b, Nat.le_trans h.b2 hg.keeps.size⟩
theorem Tre.nilItm (h : Tre w0 w B M lv wv sv nl nw ns LR WR SR) : Tre w0 w B (lone1 (.slice none 0 0) [] :: M) lv wv sv nl nw ns LR WR SR :=
  ⟨⟨fun p hp => by
      rcases List.mem_cons.1 hp with rfl | hp
      · exact lone1_at (World.ownsRow_nil _ _ 9 1)
      · exact h.bag.all p hp, List.Pairwise.cons (fun q _ b hb => by have := lone1_has hb; cases this) h.bag.apart⟩, h.l, h.w_, h.s, h.lw, h.ls, h.ws, h.k, h.b, h.b2⟩
theorem Tre.new2 {r v : Value} {A C : List Txt} (h : Tre w0 w B M lv wv sv nl nw ns LR WR SR) (hk : Keeps (fun _ => False) w w') (h1 : NmAt w' w.heap.size r A) (h2 : NmAt w' w.heap.size v C) (hap : ∀ q, r.ownBlock = some q → v.ownBlock ≠ some q) :
    Tre w0 w' B (lone1 r A :: lone1 v C :: M) lv wv sv nl nw ns LR WR SR :=
  ⟨h.bag.new2 h.b2 hk h1 h2 hap, (h.keep hk).l, (h.keep hk).w_, (h.keep hk).s, h.lw, h.ls, h.ws, h.k.trans hk, h.b, Nat.le_trans h.b2 hk.size⟩
theorem Tre.setS {xv : Value} {n : Nat} {XR : List Value} (h : Tre w0 w B M lv wv sv nl nw ns LR WR SR) (hk : Keeps (fun _ => False) w w') (hx : w'.ownsRow w.heap.size 29 1 xv n XR) : Tre w0 w' B M lv wv xv nl nw n LR WR XR := by
  refine ⟨h.bag.keepF hk, (h.keep hk).l, (h.keep hk).w_, ownsRow_low hx h.b2, h.lw, fun q e f => ?_, fun q e f => ?_, h.k.trans hk, h.b, Nat.le_trans h.b2 hk.size⟩
  · have := own_lt h.l e
    have := own_geO hx f
    omega
  · have := own_lt h.w_ e
    have := own_geO hx f
    omega
theorem Tre.dropS (h : Tre w0 w B M lv wv sv nl nw ns LR WR SR) : Tre w0 w B M lv wv (.slice none 0 0) nl nw 0 LR WR [] :=
  ⟨h.bag, h.l, h.w_, World.ownsRow_nil _ _ 29 1, h.lw, Off.nil _ _ _, Off.nil _ _ _, h.k, h.b, h.b2⟩
/-- A list that a row hands on as an item that grows. -/
theorem Tre.asGrow {v : Value} {X : List Txt} (h : Tre w0 w B (lone1 v X :: M) lv wv sv nl nw ns LR WR SR) (m : Txt) : Tre w0 w B (⟨v, X, v, List.replicate 0 m⟩ :: M) lv wv sv nl nw ns LR WR SR := h
theorem Tre.row1 {n c : Nat} {o : Option Addr} {X : List Txt} (h : Tre w0 w B (lone1 (.slice o n c) X :: M) lv wv sv nl nw ns LR WR SR) (hn : X.length = n) : w.ownsRow B 9 1 (.slice o n c) n (nmC X) := one_row (h.bag.all _ (List.mem_cons_self ..)) hn
theorem Tre.rowM {n c : Nat} {o : Option Addr} {vx : Value} {X Y : List Txt} (h : Tre w0 w B (⟨vx, X, .slice o n c, Y⟩ :: M) lv wv sv nl nw ns LR WR SR) (hn : (X ++ Y).length = n) : w.ownsRow B 9 1 (.slice o n c) n (nmC (X ++ Y)) := by
  have := (h.bag.all _ (List.mem_cons_self ..)).2
  unfold NmAt at this
  subst hn
  exact this
end
/-- One list of a round: as it came and as it grew, and what is wanted of the two. -/
structure Rnd where
  vx : Value
  vm : Value
  v : Value
  u : Value
  X : List Txt
  Y : List Txt
def bagR : List Rnd → List Itm
  | [] => []
  | r :: R => ⟨r.vx, r.X, r.vm, r.Y⟩ :: lone1 r.v r.X :: lone1 r.u (r.X ++ r.Y) :: bagR R
def lrow : List Rnd → List Value
  | [] => []
  | r :: R => r.vx :: r.vm :: lrow R
def wrow : List Rnd → List Value
  | [] => []
  | r :: R => r.v :: r.u :: wrow R
theorem bagR_app : ∀ (R T : List Rnd), bagR (R ++ T) = bagR R ++ bagR T
  | [], _ => rfl
  | r :: R, T => by simp [bagR, bagR_app R T]
theorem lrow_app : ∀ (R T : List Rnd), lrow (R ++ T) = lrow R ++ lrow T
  | [], _ => rfl
  | r :: R, T => by simp [lrow, lrow_app R T]
theorem wrow_app : ∀ (R T : List Rnd), wrow (R ++ T) = wrow R ++ wrow T
  | [], _ => rfl
  | r :: R, T => by simp [wrow, wrow_app R T]
def SmallR (R : List Rnd) : Prop := ∀ r ∈ R, r.X.length ≤ 8 ∧ r.Y.length = 64
theorem rows_at {w : World} {B : Nat} : ∀ (R : List Rnd) (k : Nat), (∀ p ∈ bagR R, p.at_ w B) → SmallR R → k < 2 * R.length → ∃ a b T, (lrow R)[k]? = some a ∧ (wrow R)[k]? = some b ∧ NmAt w B a T ∧ NmAt w B b T ∧ T.length ≤ 72
  | [], k, _, _, h => by simp at h
  | r :: R, 0, ha, hs, _ => by
    have h1 := ha ⟨r.vx, r.X, r.vm, r.Y⟩ (by simp [bagR])
    have h2 := ha (lone1 r.v r.X) (by simp [bagR])
    have h3 := (hs r (by simp)).1
    exact ⟨_, _, r.X, rfl, rfl, h1.1, h2.1, by omega⟩
  | r :: R, 1, ha, hs, _ => by
    have h1 := ha ⟨r.vx, r.X, r.vm, r.Y⟩ (by simp [bagR])
    have h2 := ha (lone1 r.u (r.X ++ r.Y)) (by simp [bagR])
    have h3 := hs r (by simp)
    exact ⟨_, _, r.X ++ r.Y, rfl, rfl, h1.2, h2.1, by rw [List.length_append]; omega⟩
  | r :: R, k + 2, ha, hs, h => by
    obtain ⟨a, b, T, h1, h2, h3⟩ := rows_at R k (fun p hp => ha p (by simp [bagR, hp])) (fun q hq => hs q (by simp [hq])) (by simp at h; omega)
    exact ⟨a, b, T, by simpa [lrow] using h1, by simpa [wrow] using h2, h3⟩
/-- A text of two letters. -/
theorem conv2g (w : World) (g : Nat) (a b : UInt8) (x y : Int) (hx : x = num a) (hy : y = num b) (h : w.heap[g]? = some (.cells #[.int .u8 x, .int .u8 y] 5 (0, 0))) :
    (convert 34 9 (.slice (some ⟨g, 0, none⟩) 2 2)).run Tryz.prog w = .ok (.string ⟨#[a, b]⟩) w :=
  run_convert_bytes_back w 34 9 5 ⟨g, 0, none⟩ 2 [a, b] (by kernel_rfl) (by kernel_rfl) (by kernel_rfl) (fun j hj => by
    rw [Addr.add_lit, Nat.zero_add, cell_of_blk h j]
    match j, hj with
    | 0, _ => simp [hx, num]
    | 1, _ => simp [hy, num])
theorem one_sl (o : Option Addr) (n c : Nat) : ∀ u ∈ [Value.slice o n c], u.oneCell' = true := fun u hu => by
  obtain rfl := List.mem_singleton.1 hu
  rfl
theorem lit2_own (w : World) (a b : Value) : (w.alloc (.cells #[a, b] 29)).ownsRow w.heap.size 29 1 (.slice (some ⟨w.heap.size, 0, none⟩) 2 2) 2 [a, b] :=
  ⟨rfl, Or.inr ⟨w.heap.size, 2, #[a, b], rfl, Nat.le_refl _, heap_alloc_new w _, Nat.le_refl _, by decide, rfl, rfl⟩⟩
theorem plainZ {B C : Nat} (h : B ≤ C) : Plain (argZ B) C := fun _ _ _ _ h0 => ⟨Nat.lt_of_lt_of_le h0 h, h0⟩
end Go.Proofs.YtoempeobaknkcaaGreatDoor
