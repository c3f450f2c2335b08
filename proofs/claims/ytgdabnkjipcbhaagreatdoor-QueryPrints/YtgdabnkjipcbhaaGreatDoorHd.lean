import Derived.Test.YtgdabnkjipcbhaaGreatDoorHc
import Derived.Test.YtgdabnkjipcbhaaGreatDoorJzah
namespace Go.Proofs.YtgdabnkjipcbhaaGreatDoor
open Go.RowKit Go.Maps

theorem ib_blk {B b : Nat} {xs : List Value} {w : World} (h : Lib.IsBuilder 64 5 B b xs w) : ∃ c, w.heap[b]? = some (.cells c 64 (0, 0)) := by
  rcases h with h | h
  · obtain ⟨_, v, hbk, _⟩ := h; exact ⟨_, hbk⟩
  · obtain ⟨_, v, hbk, _⟩ := h; exact ⟨_, hbk⟩
/-- A block of another kind is not written. -/
theorem kb_not {B b k : Nat} {xs : List Value} {w : World} {c : Array Value} {T : TypeId} (hI : Lib.IsBuilder 64 5 B b xs w) (h : w.heap[k]? = some (.cells c T (0, 0))) (h5 : T ≠ 5) (h60 : T ≠ 64) : ¬ KB w B b k := by
  rintro (rfl | ⟨_, d, hd⟩)
  · obtain ⟨d, hd⟩ := ib_blk hI
    exact kind_ne h hd h60 rfl
  · exact kind_ne h hd h5 rfl
theorem bel_not {w : World} {B b k : Nat} {xs : List Value} (hI : Lib.IsBuilder 64 5 B b xs w) (h : k < B) : ¬ KB w B b k := by
  rintro (rfl | ⟨h', _⟩)
  · rcases hI with hI | hI <;> have := hI.1 <;> omega
  · omega
theorem cpy_kb {w w' : World} {B b : Nat} {xs : List Value} (hI : Lib.IsBuilder 64 5 B b xs w) (hk : Keeps (KB w B b) w w') {s : Bool} {k : Nat} (_hl : k < w.heap.size) (hG : (belZ B).G w s k) : ¬ KB w B b k ∧ (belZ B).G w' s k := by
  have hlt : k < B := hG
  refine ⟨?_, hG⟩
  rintro (rfl | ⟨h, _⟩)
  · rcases hI with hI | hI <;> have := hI.1 <;> omega
  · omega
theorem SlE.kb {w w' : World} {B b : Nat} {xs : List Value} (hI : Lib.IsBuilder 64 5 B b xs w) (hk : Keeps (KB w B b) w w') {l : EL} {up : Nat} {v : Value} (hx : SlE (belZ B) w up v l) : SlE (belZ B) w' up v l :=
  hx.keep (Q := fun _ => True) (fun _ _ _ _ => trivial) hk (fun _ _ _ hl hG => cpy_kb hI hk hl hG) trivial
/-- A builder stays while only new blocks are laid. -/
theorem ib_keepF {w w' : World} {B b : Nat} {xs : List Value} (h : Lib.IsBuilder 64 5 B b xs w) (hk : Keeps (fun _ => False) w w') : Lib.IsBuilder 64 5 B b xs w' := by
  have key : ∀ p, Lib.BuilderAt 64 5 B b p xs w → Lib.BuilderAt 64 5 B b p xs w' := by
    rintro p ⟨hB, v, hbk, hown, hne⟩
    exact ⟨hB, v, (hk.block b (lt_of_block hbk) id).trans hbk, own_kept hown hk (fun _ _ => id), hne⟩
  rcases h with h | h
  · exact Or.inl (key _ h)
  · exact Or.inr (key _ h)
/-- What a writer wants of the world. -/
structure Env (B b : Nat) (w : World) : Prop where
  pos : 4 < B
  lo : B ≤ b
  size : B ≤ w.heap.size
  forms : Forms w
  pow : ∀ w2, Below B w w2 → Pow w2
theorem Env.kb {B b : Nat} {w w' : World} (h : Env B b w) (hk : Keeps (KB w B b) w w') : Env B b w' := by
  have hb := below_kb hk h.lo h.size
  refine ⟨h.pos, h.lo, Nat.le_trans h.size hk.size, h.forms.keep hk ?_, fun w2 h2 => h.pow w2 (hb.trans h2)⟩
  rintro (e | ⟨e, _⟩)
  · have := h.pos; have := h.lo; omega
  · have := h.pos; omega
theorem Env.keepF {B b : Nat} {w w' : World} (h : Env B b w) (hk : Keeps (fun _ => False) w w') : Env B b w' := h.kb hk.any
theorem Env.pows {B b : Nat} {w : World} (h : Env B b w) : Pow w := h.pow w (Below.refl _ _)
/-- A place wants a rank that an expression may be held against. -/
def Want (op n want : Int) : Prop := (1 ≤ want ∧ want ≤ 8) ∨ (want = 10 ∧ op = 1 ∧ 0 ≤ n)
/-- writeExpr of this expression writes its text. -/
def WrE (op n : Int) (s : Txt) (k : EL) : Prop :=
  ∀ (B b : Nat) (t : Txt) (want : Int) (up : Nat) (kv : Value) (w : World), Want op n want → Env B b w → SlE (belZ B) w up kv k → Lib.IsBuilder 64 5 B b (bs t) w → t.length + 600 * (k.size + 1) ≤ 70368744177000 →
    Calls Tryz.prog 45 #[.pointer (some ⟨b, 0, none⟩), exV op n s kv, .int .i64 want] w fun e w' => e = .returned (.tuple #[]) ∧ Lib.IsBuilder 64 5 B b (bs (t ++ atT (op, n, textE op n s k) want)) w' ∧ Keeps (KB w B b) w w'
def KidsW : EL → Prop
  | .nil => True
  | .cons op n s k r => WrE op n s k ∧ (textE op n s k).length + 4 ≤ 300 * (k.size + 1) ∧ KidsW r
/-- A box of another kind stays. -/
theorem box_kb {w w' : World} {B b k o : Nat} {xs : List Value} {c : Array Value} {T : TypeId} {x : Value} (hI : Lib.IsBuilder 64 5 B b xs w) (hk : Keeps (KB w B b) w w') (h : w.heap[k]? = some (.cells c T (0, 0))) (h5 : T ≠ 5) (h60 : T ≠ 64) (hx : w.cell? ⟨k, o, none⟩ = some x) : w'.cell? ⟨k, o, none⟩ = some x :=
  (hk.cell (lt_of_block h) (kb_not hI h h5 h60)).trans hx
/-- The form of an operation. -/
abbrev formV (f : FormA) : Value := .agg #[.int .i64 f.shape, str f.text, .int .i64 f.kids, .int .i64 f.rank, .int .i64 f.left, .int .i64 f.right]
end Go.Proofs.YtgdabnkjipcbhaaGreatDoor
