import Derived.Test.YtgdabnkjipcbhaaGreatDoorQ5
import Derived.Test.YtgdabnkjipcbhaaGreatDoorQ6
import Derived.Test.YtgdabnkjipcbhaaGreatDoorQ7
import Derived.Test.YtgdabnkjipcbhaaGreatDoorIt
namespace Go.Proofs.YtgdabnkjipcbhaaGreatDoor
open Go.RowKit Go.Maps

/-- One expression with the words ahead of it, or none and no word. -/
def ahd (A : List Txt) : EL → List Txt
  | .nil => []
  | .cons op n s k _ => A ++ [printE op n s k]
/-- The first error so far. -/
def errA (r : Int) : EL → Int
  | .nil => r
  | .cons op n s k _ => if r = 0 then checkE (.cons op n s k .nil) else r
def whereT : Txt := [119, 104, 101, 114, 101]
def byT : Txt := [98, 121]
def downT : Txt := [100, 111, 119, 110]
def limitT : Txt := [108, 105, 109, 105, 116]
/-- The pieces of a query's text. -/
def piecesQ (k : Int) (W O B : EL) (d : Bool) (l : Int) : List Txt := ahd [whereT] W ++ [verbT k] ++ ahd [] O ++ ahd [byT] B ++ (if d then [downT] else []) ++ (if k = 1 ∧ 0 ≤ l then [limitT, decimal l] else [])
def errQ (W O B : EL) : Int := errA (errA (errA 0 W) O) B
/-- What Print answers. -/
def ansQ (k : Int) (W O B : EL) (d : Bool) (l : Int) : Txt × Int :=
  if wellQ k W.len O.len B.len d l = true then (if errQ W O B = 0 then (joinB (piecesQ k W O B d l), 0) else ([], errQ W O B)) else ([], 200)
/-- A list of expressions within the bounds. -/
def okE (l : EL) : Prop := l.size ≤ 2147483647 ∧ intE l
theorem wexprs_any (N b : Nat) (ps A : List Txt) (r : Int) (w : World) (av : Value) {Z : Zone} (up : Nat) (lv : Value) (l : EL) (hl1 : l.len ≤ 1) (hok : okE l) (hW : Wtr w N b ps r) (hA : Ahead w av A) (hS : SlE Z w up lv l) (hP : Pow w) (hF : Forms w) (hl : ps.length + A.length ≤ 900) (hN : N ≤ w.heap.size) :
    Calls Tryz.prog 13 #[.pointer (some ⟨b, 0, none⟩), lv, av] w fun e w' => e = .returned (.tuple #[]) ∧ Wtr w' N b (ps ++ ahd A l) (errA r l) ∧ Below N w w' := by
  cases l with
  | nil =>
    obtain ⟨ao, cap, rfl, _⟩ := hS.head
    show Calls Tryz.prog 13 _ w fun e w' => e = .returned (.tuple #[]) ∧ Wtr w' N b (ps ++ []) r ∧ Below N w w'
    rw [List.append_nil]
    exact wexprs_nil N b ps r w ao cap av hW
  | cons op n s k rest =>
    cases rest with
    | nil =>
      have h := wexprs_one N b ps A r w av up lv op n s k hW hA hS hP hF (by have := hok.1; simp [EL.size] at this; omega) hok.2.1.1 hok.2.1.2 hok.2.2.1 hl hN
      rw [List.append_assoc] at h
      exact h
    | cons op' n' s' k' rest' => simp [EL.len] at hl1
theorem ahd_len (A : List Txt) (l : EL) : (ahd A l).length ≤ A.length + 1 := by
  cases l <;> simp [ahd]
/-- A new writer. -/
theorem wtr_new (w : World) : Wtr (w.alloc (.cells #[.slice none 0 0, .int .i64 0] 46)) w.heap.size w.heap.size [] 0 :=
  ⟨Nat.le_refl _, .slice none 0 0, heap_alloc_new w _, ⟨rfl, Or.inl ⟨rfl, rfl⟩⟩, by simp [Value.ownBlock]⟩
/-- One word, or two, in a new row. -/
theorem ahead_one (w : World) (a : Txt) : Ahead (w.alloc (.cells #[str a] 9)) (.slice (some ⟨w.heap.size, 0, none⟩) 1 1) [a] := by
  refine Or.inr ⟨w.heap.size, 0, 1, by simp, rfl, by simp, ⟨_, _, heap_alloc_new w _⟩, fun i x hx => ?_⟩
  rcases i with _ | i
  · obtain rfl : a = x := by simpa using hx
    exact (cell_of_blk (heap_alloc_new w _) 0).trans rfl
  · simp at hx
theorem ahead_two (w : World) (a a' : Txt) : Ahead (w.alloc (.cells #[str a, str a'] 9)) (.slice (some ⟨w.heap.size, 0, none⟩) 2 2) [a, a'] := by
  refine Or.inr ⟨w.heap.size, 0, 2, by simp, rfl, by simp, ⟨_, _, heap_alloc_new w _⟩, fun i x hx => ?_⟩
  rcases i with _ | _ | i
  · obtain rfl : a = x := by simpa using hx
    exact (cell_of_blk (heap_alloc_new w _) 0).trans rfl
  · obtain rfl : a' = x := by simpa using hx
    exact (cell_of_blk (heap_alloc_new w _) 1).trans rfl
  · simp at hx
theorem Wtr.row {w : World} {N b : Nat} {ps : List Txt} {r : Int} (h : Wtr w N b ps r) (h0 : 0 < ps.length) : ∃ g cap, w.cell? ⟨b, 0, none⟩ = some (.slice (some ⟨g, 0, none⟩) ps.length cap) ∧ g < w.heap.size ∧ ps.length ≤ cap ∧ ∀ i x, ps[i]? = some x → w.cell? ⟨g, i, none⟩ = some (str x) := by
  obtain ⟨v, c0, _, _, _, ho⟩ := h.cells
  obtain ⟨g, cap, rfl, hc, hlt⟩ : ∃ g cap, v = .slice (some ⟨g, 0, none⟩) ps.length cap ∧ ps.length ≤ cap ∧ g < w.heap.size := by
    rcases ho.2 with ⟨_, h1⟩ | ⟨g, cp, cur, a1, a2, a3, a4, _⟩
    · omega
    · exact ⟨g, cp, a1, a4, lt_of_block a3⟩
  refine ⟨g, cap, c0, hlt, hc, fun i x hx => ?_⟩
  have := ho.cells (g := g) rfl i (str x) (by rw [List.getElem?_map, hx]; rfl)
  rwa [Addr.add_lit, Nat.zero_add] at this
/-- Join of one to eight pieces. -/
theorem join_any (ps : List Txt) (g cap : Nat) (w : World) (h0 : 0 < ps.length) (h8 : ps.length ≤ 8) (hg : g < w.heap.size) (hcap : ps.length ≤ cap) (h : ∀ i x, ps[i]? = some x → w.cell? ⟨g, i, none⟩ = some (str x)) (hl : ∀ x ∈ ps, x.length ≤ 700000000000) :
    Calls Tryz.prog 16 #[.slice (some ⟨g, 0, none⟩) ps.length cap, str [32]] w fun e w' => e = .returned (str (joinB ps)) ∧ Keeps (fun _ => False) w w' := by
  cases ps with
  | nil => simp at h0
  | cons a r =>
    cases r with
    | nil =>
      show Calls Tryz.prog 16 _ w fun e w' => e = .returned (str (a ++ [])) ∧ Keeps (fun _ => False) w w'
      rw [List.append_nil]
      exact join_one g 0 cap a w (h 0 a rfl)
    | cons a' r' =>
      have hl' : (a :: a' :: r').length = (a' :: r').length + 1 := rfl
      rw [hl'] at hcap ⊢
      refine join_more g 0 cap _ a (a' :: r') w rfl (by simp) (by simp at h8 ⊢; omega) hg hcap (h 0 a rfl) (fun i x hx => ?_) (hl a (by simp)) (fun x hx => hl x (List.mem_cons_of_mem _ hx))
      have := h (i + 1) x (by simpa using hx)
      rwa [show 0 + 1 + i = i + 1 by omega]
end Go.Proofs.YtgdabnkjipcbhaaGreatDoor
