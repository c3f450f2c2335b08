import Derived.Test.YtlnkleicnkfkpaaDoorGf
namespace Go.Proofs.YtlnkleicnkfkpaaDoor
open Go.RowKit Go.Maps

/-- Statements with a semicolon between them, behind so many others. -/
def tailS : Nat → List Txt → Txt
  | _, [] => []
  | k, t :: r => (if k = 0 then t else [59, 32] ++ t) ++ tailS (k + 1) r
def braceT (l : List Txt) : Txt := if l = [] then [123, 32, 125] else [123, 32] ++ tailS 0 l ++ [32, 125]
/-- The text of the first expression. -/
def headT : EL → Txt
  | .nil => []
  | .cons o n s k _ => textE o n s k
def writtenT (op : Int) (f X : Txt) (t e : List Txt) : Txt :=
  if op = 1 then f ++ [32, 61, 32] ++ X else if op = 2 then f ++ [32, 43, 61, 32] ++ X else if op = 3 then f ++ [32, 109, 105, 110, 61, 32] ++ X else if op = 4 then f ++ [32, 109, 97, 120, 61, 32] ++ X
  else if op = 5 then [99, 108, 101, 97, 114, 32] ++ f else if op = 6 then [110, 101, 119] else if op = 7 then [100, 101, 108, 101, 116, 101]
  else [105, 102, 32] ++ X ++ [32] ++ braceT t ++ (if e = [] then [] else [32, 101, 108, 115, 101, 32] ++ braceT e)
def sts : SL → List Txt
  | .nil => []
  | .cons op f x t e r => writtenT op f (headT x) (sts t) (sts e) :: sts r
theorem sts_len : ∀ l : SL, (sts l).length = l.len
  | .nil => rfl
  | .cons _ _ _ _ _ r => by simp [sts, SL.len, sts_len r]
theorem sts_nil (l : SL) : (sts l = []) = (l.len = 0) := by
  rw [← sts_len l]
  simp
def intS : SL → Prop
  | .nil => True
  | .cons _ _ x t e r => intE x ∧ intS t ∧ intS e ∧ intS r
/-- How long the texts of statements are together. -/
def tlS : SL → Nat
  | .nil => 0
  | .cons op f x t e r => (writtenT op f (headT x) (sts t) (sts e)).length + 2 + tlS r
theorem tail_le : ∀ (l : SL) (k : Nat), (tailS k (sts l)).length ≤ tlS l
  | .nil, _ => by simp [sts, tailS, tlS]
  | .cons op f x t e r, k => by
    have := tail_le r (k + 1)
    simp only [sts, tailS, tlS, List.length_append]
    split
    · omega
    · simp only [List.length_append, List.length_cons, List.length_nil]
      omega
theorem brace_le (l : SL) : (braceT (sts l)).length ≤ tlS l + 4 := by
  have := tail_le l 0
  unfold braceT
  split
  · simp
  · simp only [List.length_append, List.length_cons, List.length_nil]
    omega
theorem head_le (x : EL) (hw : wellE x = true) (hi : intE x) : (headT x).length ≤ 300 * x.size := by
  cases x with
  | nil => simp [headT]
  | cons o n s k r =>
    have := tl_le _ hw hi
    simp only [tl] at this
    show (textE o n s k).length ≤ _
    omega
theorem head_name {op : Int} {f : Txt} {x t e : Nat} (h : headB op f x t e = true) : f.length ≤ 8 := by
  unfold headB at h
  split at h
  · simp at h; exact nameB_len f h.1
  · split at h
    · simp at h; exact nameB_len f h.1
    · split at h
      · simp at h; simp [h.1]
      · split at h
        · simp at h; simp [h.1]
        · cases h
theorem written_le (op : Int) (f X : Txt) (t e : SL) (hf : f.length ≤ 8) : (writtenT op f X (sts t) (sts e)).length ≤ X.length + tlS t + tlS e + 60 := by
  have h1 := brace_le t
  have h2 := brace_le e
  unfold writtenT
  (repeat' split) <;> simp only [List.length_append, List.length_cons, List.length_nil] <;> omega
theorem tlS_le : ∀ l : SL, wellS l = true → intS l → tlS l ≤ 400 * l.size
  | .nil, _, _ => by simp [tlS]
  | .cons op f x t e r, h, hi => by
    simp only [wellS, Bool.and_eq_true] at h
    obtain ⟨h1, h2, h3, h4, h5⟩ := h
    obtain ⟨i1, i2, i3, i4⟩ := hi
    have a := tlS_le t h3 i2
    have b := tlS_le e h4 i3
    have c := tlS_le r h5 i4
    have d := head_le x h2 i1
    have g := written_le op f (headT x) t e (head_name h1)
    simp only [tlS, SL.size]
    omega

/-- The call of joined gives this, in all later worlds. -/
def JoinAt (w : World) (v : Value) (T : Txt) : Prop := ∀ w', Keeps (fun _ => False) w w' → Calls Tryd.prog 35 #[v] w' fun e w'' => e = .returned (str T) ∧ Keeps (fun _ => False) w' w''
theorem JoinAt.keepF {w w' : World} {v : Value} {T : Txt} (h : JoinAt w v T) (hk : Keeps (fun _ => False) w w') : JoinAt w' v T := fun w2 h2 => h w2 (hk.trans h2)

set_option maxRecDepth 100000 in
set_option maxHeartbeats 1600000 in
theorem braced_v (l : SL) (ao : Option Addr) (cap : Nat) (w : World) (hJ : JoinAt w (.slice ao l.len cap) (tailS 0 (sts l))) (hl : tlS l ≤ 10000000000000) :
    Calls Tryd.prog 60 #[.slice ao l.len cap] w fun e w' => e = .returned (str (braceT (sts l))) ∧ Keeps (fun _ => False) w w' := by
  have HJ := hide (hJ w (Keeps.refl _ w))
  have hlen := tail_le l 0
  unfold braceT
  by_cases h0 : l.len = 0
  · rw [if_pos ((sts_nil l).mpr h0), h0]
    clear hJ HJ
    go_enter Tryd.func60, Tryd.ntmps60
    go_wp2_with fail
    go_ret
    exact ⟨rfl, Keeps.refl _ w⟩
  · rw [if_neg (fun h => h0 ((sts_nil l).mp h))]
    have d0 : ((l.len : Int) == 0) = false := by simp; omega
    generalize tailS 0 (sts l) = T at HJ hlen ⊢
    have hT : T.length ≤ 10000000000000 := by omega
    clear hJ h0
    go_enter Tryd.func60, Tryd.ntmps60
    go_wp2_with fail
    refine (unhide HJ).mono ?_
    rintro e w1 ⟨rfl, hk1⟩
    go_wp2_with fail
    go_ret
    refine ⟨congrArg Ending.returned ?_, hk1⟩
    show Value.string (ByteArray.mk [123, 32].toArray ++ ByteArray.mk T.toArray ++ ByteArray.mk [32, 125].toArray) = _
    simp only [cat2]
    rfl
end Go.Proofs.YtlnkleicnkfkpaaDoor
