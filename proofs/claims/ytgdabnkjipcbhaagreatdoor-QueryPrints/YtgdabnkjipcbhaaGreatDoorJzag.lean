import Derived.Test.YtgdabnkjipcbhaaGreatDoorGf
import Derived.Test.YtgdabnkjipcbhaaGreatDoorJzae
import Derived.Laws.MakeOwn
import Derived.Test.YtgdabnkjipcbhaaGreatDoorShelf
import Derived.Lib.ConvBytes
import Derived.Lib.LaidTab
import Derived.Test.YtgdabnkjipcbhaaGreatDoorJzaf
namespace Go.Proofs.YtgdabnkjipcbhaaGreatDoor
open Go.RowKit Go.Maps

/-- Statements with a semicolon between them, behind so many others. -/
def tailS : Nat → List Txt → Txt
  | _, [] => []
  | k, t :: r => (if k = 0 then t else [59, 32] ++ t) ++ tailS (k + 1) r
def braceT (l : List Txt) : Txt := if l = [] then [123, 32, 125] else [123, 32] ++ tailS 0 l ++ [32, 125]
/-- The text of the first expression. -/
def headT : EL → Txt
  | .nil => []
  | .cons o n s k _ => textE o n s k
def writtenT (op : Int) (f X : Txt) (t e : List Txt) : Txt :=
  if op = 1 then f ++ [32, 61, 32] ++ X else if op = 2 then f ++ [32, 43, 61, 32] ++ X else if op = 3 then f ++ [32, 109, 105, 110, 61, 32] ++ X else if op = 4 then f ++ [32, 109, 97, 120, 61, 32] ++ X
  else if op = 5 then [99, 108, 101, 97, 114, 32] ++ f else if op = 6 then [110, 101, 119] else if op = 7 then [100, 101, 108, 101, 116, 101]
  else [105, 102, 32] ++ X ++ [32] ++ braceT t ++ (if e = [] then [] else [32, 101, 108, 115, 101, 32] ++ braceT e)
def sts : SL → List Txt
  | .nil => []
  | .cons op f x t e r => writtenT op f (headT x) (sts t) (sts e) :: sts r
theorem sts_len : ∀ l : SL, (sts l).length = l.len
  | .nil => rfl
  | .cons _ _ _ _ _ r => by simp [sts, SL.len, sts_len r]
theorem sts_nil (l : SL) : (sts l = []) = (l.len = 0) := by
  rw [← sts_len l]
  simp
def intS : SL → Prop
  | .nil => True
  | .cons _ _ x t e r => intE x ∧ intS t ∧ intS e ∧ intS r
/-- How long the texts of statements are together. -/
def tlS : SL → Nat
  | .nil => 0
  | .cons op f x t e r => (writtenT op f (headT x) (sts t) (sts e)).length + 2 + tlS r
theorem tail_le : ∀ (l : SL) (k : Nat), (tailS k (sts l)).length ≤ tlS l
  | .nil, _ => by simp [sts, tailS, tlS]
  | .cons op f x t e r, k => by
    have := tail_le r (k + 1)
    simp only [sts, tailS, tlS, List.length_append]
    split
    · omega
    · simp only [List.length_append, List.length_cons, List.length_nil]
      omega
theorem brace_le (l : SL) : (braceT (sts l)).length ≤ tlS l + 4 := by
  have := tail_le l 0
  unfold braceT
  split
  · simp
  · simp only [List.length_append, List.length_cons, List.length_nil]
    omega
theorem head_le (x : EL) (hw : wellE x = true) (hi : intE x) : (headT x).length ≤ 300 * x.size := by
  cases x with
  | nil => simp [headT]
  | cons o n s k r =>
    have := tl_le _ hw hi
    simp only [tl] at this
    show (textE o n s k).length ≤ _
    omega
theorem head_name {op : Int} {f : Txt} {x t e : Nat} (h : headB op f x t e = true) : f.length ≤ 8 := by
  unfold headB at h
  split at h
  · simp at h; exact nameB_len f h.1
  · split at h
    · simp at h; exact nameB_len f h.1
    · split at h
      · simp at h; simp [h.1]
      · split at h
        · simp at h; simp [h.1]
        · cases h
theorem written_le (op : Int) (f X : Txt) (t e : SL) (hf : f.length ≤ 8) : (writtenT op f X (sts t) (sts e)).length ≤ X.length + tlS t + tlS e + 60 := by
  have h1 := brace_le t
  have h2 := brace_le e
  unfold writtenT
  (repeat' split) <;> simp only [List.length_append, List.length_cons, List.length_nil] <;> omega
theorem tlS_le : ∀ l : SL, wellS l = true → intS l → tlS l ≤ 400 * l.size
  | .nil, _, _ => by simp [tlS]
  | .cons op f x t e r, h, hi => by
    simp only [wellS, Bool.and_eq_true] at h
    obtain ⟨h1, h2, h3, h4, h5⟩ := h
    obtain ⟨i1, i2, i3, i4⟩ := hi
    have a := tlS_le t h3 i2
    have b := tlS_le e h4 i3
    have c := tlS_le r h5 i4
    have d := head_le x h2 i1
    have g := written_le op f (headT x) t e (head_name h1)
    simp only [tlS, SL.size]
    omega

end Go.Proofs.YtgdabnkjipcbhaaGreatDoor
namespace Go.Proofs.YtgdabnkjipcbhaaGreatDoor
open Go.RowKit Go.Maps

end Go.Proofs.YtgdabnkjipcbhaaGreatDoor
namespace Go.Proofs.YtgdabnkjipcbhaaGreatDoor
open Go.RowKit Go.Maps

end Go.Proofs.YtgdabnkjipcbhaaGreatDoor
namespace Go.Proofs.YtgdabnkjipcbhaaGreatDoor
open Go.RowKit Go.Maps

theorem check_well (l : SL) (h : checkS l = 0) : wellS l = true := by
  unfold checkS at h
  cases hw : wellS l with
  | true => rfl
  | false => rw [hw] at h; simp at h
theorem check_wellE (l : EL) (h : checkE l = 0) : wellE l = true := by
  unfold checkE at h
  cases hw : wellE l with
  | true => rfl
  | false => rw [hw] at h; simp at h
/-- What Print answers. -/
def printS (l : SL) : Txt := if checkS l = 0 then tailS 0 (sts l) else []
def printE (op n : Int) (s : Txt) (kids : EL) : Txt := if checkE (.cons op n s kids .nil) = 0 then textE op n s kids else []

set_option maxRecDepth 100000 in
set_option maxHeartbeats 800000 in
theorem rPrintExpr_v {E : World → Prop} (hL : RLib E) (Z : Zone) (op n : Int) (s : Txt) (kids : EL) (hsz : kids.size + 1 ≤ 2147483647) (h0 : -9223372036854775808 ≤ n) (h1 : n ≤ 9223372036854775807) (hi : intE kids) (w : World) (up : Nat) (v : Value) (hE : E w) (hT : Tabs w) (hS : SlE Z w up v kids) :
    Calls Tryz.prog 19 #[exV op n s v] w fun e w' => e = .returned (.tuple #[str (printE op n s kids), .int .i64 (checkE (.cons op n s kids .nil))]) ∧ Keeps (fun _ => False) w w' := by
  obtain ⟨ao, cap, rfl, hc⟩ := hS.head
  obtain ⟨HB, hxb, hxc⟩ := boxedT w #[.int .i64 op, .int .i64 n, str s, .slice ao kids.len cap] 54
  have c0 := hxc 0 (.int .i64 op) rfl
  have c1 := hxc 1 (.int .i64 n) rfl
  have c2 := hxc 2 (str s) rfl
  have c3 := hxc 3 (.slice ao kids.len cap) rfl
  have HC := hide (rCheckExpr_v Z op n s kids hsz _ up _ (hS.keepF (unhide HB)))
  unfold printE
  by_cases hc0 : checkE (.cons op n s kids .nil) = 0
  · rw [if_pos hc0]
    have hw := check_wellE _ hc0
    simp only [wellE, Bool.and_eq_true] at hw
    have HJ := fun (w' : World) (hk : Keeps (fun _ => False) w w') => hide (text_v hL Z (kids.size + 1) kids (by omega) (by omega) op n s hw.1 hw.2.1 h0 h1 hi w' up _ (hL.keep hE hk) (hT.keepF hk) (hS.keepF hk))
    rw [hc0] at HC ⊢
    generalize textE op n s kids = T at HJ ⊢
    clear hS hE hT hi hc0 hw hxc
    go_enter Tryz.func19, Tryz.ntmps19
    go_wp2_with fail
    refine (unhide HC).mono ?_
    rintro e w1 ⟨rfl, hk1⟩
    have r0 := (hk1.cell (o := 0) hxb id).trans c0
    have r1 := (hk1.cell (o := 1) hxb id).trans c1
    have r2 := (hk1.cell (o := 2) hxb id).trans c2
    have r3 := (hk1.cell (o := 3) hxb id).trans c3
    have HK1 := hide ((unhide HB).trans hk1)
    clear hk1
    go_wp2_with fail
    refine (unhide (HJ w1 (unhide HK1))).mono ?_
    rintro e w2 ⟨rfl, hk2⟩
    go_wp2_with fail
    go_ret2
    exact ⟨rfl, (unhide HK1).trans hk2⟩
  · rw [if_neg hc0]
    have d0 : (checkE (.cons op n s kids .nil) != 0) = true := by simpa using hc0
    generalize checkE (.cons op n s kids .nil) = C at HC d0 ⊢
    clear hS hE hT hi hc0 hxc
    go_enter Tryz.func19, Tryz.ntmps19
    go_wp2_with fail
    refine (unhide HC).mono ?_
    rintro e w1 ⟨rfl, hk1⟩
    go_wp2_with fail
    go_ret2
    exact ⟨rfl, (unhide HB).trans hk1⟩
end Go.Proofs.YtgdabnkjipcbhaaGreatDoor
namespace Go.Proofs.YtgdabnkjipcbhaaGreatDoor
open Go.RowKit Go.Maps

theorem own_block {w : World} {B e size n : Nat} {v : Value} {xs : List Value} (h : w.ownsRow B e size v n xs) {k : Nat} (hk : v.ownBlock = some k) : B ≤ k ∧ ∃ cur, w.heap[k]? = some (.cells cur e (0, 0)) := by
  rcases h.2 with ⟨hv, _⟩ | ⟨g, cap, cur, hv, hb, hg, rest⟩
  · rw [hv] at hk; cases hk
  · rw [hv] at hk
    simp [Value.ownBlock] at hk
    subst hk
    exact ⟨hb, cur, hg⟩
theorem own_kept {w w' : World} {B e sz n : Nat} {v : Value} {xs : List Value} {F : Nat → Prop} (h : w.ownsRow B e sz v n xs) (k : Keeps F w w') (hF : ∀ b, v.ownBlock = some b → ¬ F b) : w'.ownsRow B e sz v n xs :=
  ⟨h.1, h.2.imp id fun ⟨g, cap, cur, e1, e2, e3, e4⟩ => ⟨g, cap, cur, e1, e2, (k.block g (lt_of_block e3) (hF g (by rw [e1]; rfl))).trans e3, e4⟩⟩
theorem keeps_set (w : World) (a p : Nat) (u : Value) : Keeps (fun k => k = a) w (w.setCell ⟨a, p, none⟩ u) := (Keeps.refl (fun k => k = a) w).setCell (fun _ => rfl) u
end Go.Proofs.YtgdabnkjipcbhaaGreatDoor
namespace Go.Proofs.YtgdabnkjipcbhaaGreatDoor
open Go.RowKit Go.Maps

theorem Tryz.info54 : (Tryz.prog.info? 54).map (fun i => (i.zero, i.size, i.bytes)) = some (some (.agg #[.int .i64 0, .int .i64 0, .string ⟨#[]⟩, .slice none 0 0]), 4, 56) := by kernel_rfl
theorem info_parts {P : Program} {t : TypeId} {a : Option Value} {b c : Nat} (h : (P.info? t).map (fun i => (i.zero, i.size, i.bytes)) = some (a, b, c)) : ∃ i, P.info? t = some i ∧ i.zero = a ∧ i.size = b ∧ i.bytes = c := by
  cases hi : P.info? t with
  | none => rw [hi] at h; cases h
  | some i =>
    rw [hi] at h
    simp at h
    exact ⟨i, rfl, h.1, h.2.1, h.2.2⟩
theorem cell_far {w : World} {a p b o : Nat} {u : Value} (h : a ≠ b) : (w.setCell ⟨a, p, none⟩ u).cell? ⟨b, o, none⟩ = w.cell? ⟨b, o, none⟩ := World.cell?_setCell_far w ⟨a, p, none⟩ ⟨b, o, none⟩ u h
theorem app_one (pre : EL) (op n : Int) (s : Txt) (kids rest : EL) : (pre.app (.cons op n s kids .nil)).app rest = pre.app (.cons op n s kids rest) := by
  rw [EL.app_assoc]; rfl
/-- A block keeps clear of another of another kind. -/
theorem kind_ne {w : World} {i j : Nat} {c d : Array Value} {t u : TypeId} {fr gr : Nat × Nat} (h : w.heap[i]? = some (.cells c t fr)) (k : w.heap[j]? = some (.cells d u gr)) (hne : t ≠ u) : i ≠ j := by
  rintro rfl
  rw [h] at k
  simp at k
  exact hne k.2.1
end Go.Proofs.YtgdabnkjipcbhaaGreatDoor
namespace Go.Proofs.YtgdabnkjipcbhaaGreatDoor
open Go.RowKit Go.Maps

theorem Tryz.info5 : (Tryz.prog.info? 5).map (fun i => (i.zero, i.size, i.bytes)) = some (some (.int .u8 0), 1, 1) := by kernel_rfl
theorem strCells_bs (s : Txt) : Lib.strCells ⟨s.toArray⟩ = bs s := by simp [Lib.strCells, bs, num]
/-- A builder that has been written to: it knows its own address. -/
def Bld (B b : Nat) (t : Txt) (w : World) : Prop := Lib.BuilderAt 64 5 B b (.pointer (some ⟨b, 0, none⟩)) (bs t) w
/-- What writing to a builder may write: itself, and rows of bytes. -/
def KB (w : World) (B b k : Nat) : Prop := k = b ∨ (B ≤ k ∧ ∃ c, w.heap[k]? = some (.cells c 5 (0, 0)))
theorem kb_trans {x y z : World} {B b : Nat} (h : Keeps (KB x B b) x y) (k : Keeps (KB y B b) y z) : Keeps (KB x B b) x z :=
  h.then k fun i hi hf => by
    rcases hf with rfl | ⟨hB, c, hc⟩
    · exact Or.inl rfl
    · by_cases hq : KB x B b i
      · exact hq
      · exact Or.inr ⟨hB, c, (h.block i hi hq).symm.trans hc⟩

set_option maxRecDepth 100000 in
theorem copyCheck_v (b : Nat) (w : World) (h : w.cell? ⟨b, 0, none⟩ = some (.pointer (some ⟨b, 0, none⟩))) : Calls Tryz.prog 47 #[.pointer (some ⟨b, 0, none⟩)] w fun e w' => e = .returned (.tuple #[]) ∧ w' = w := by
  obtain ⟨j, hj, _⟩ := Option.map_eq_some_iff.1 Tryz.Builder_Extra_169.sizeBuilder
  go_enter Tryz.func47, Tryz.ntmps47
  go_wp2
  rw [Lib.run_neq_ptr_same w _ Tryz.underlying61 hj]
  go_wp2
  go_end0
  exact ⟨rfl, rfl⟩

set_option maxHeartbeats 1000000 in
set_option maxRecDepth 100000 in
/-- copyCheck of a Builder that was not written yet: it lays its own place. -/
theorem copyCheck_new (b : Nat) (w : World) (h0 : w.cell? ⟨b, 0, none⟩ = some (.pointer none)) (hsh : w.shape? b = some (64, 2)) (hfz : w.frozen? ⟨b, 0, none⟩ = false) :
    Calls Tryz.prog 47 #[.pointer (some ⟨b, 0, none⟩)] w fun e w' => e = .returned (.tuple #[]) ∧ w' = w.setCell ⟨b, 0, none⟩ (.pointer (some ⟨b, 0, none⟩)) := by
  obtain ⟨j, hj, hjs⟩ := Option.map_eq_some_iff.1 Tryz.Builder_Extra_169.sizeBuilder
  go_enter Tryz.func47, Tryz.ntmps47
  go_wp2
  rw [Lib.run_to_unsafe w ⟨b, 0, none⟩ Tryz.underlying61 Tryz.underlying120 hj (by rw [hjs]; decide) hsh (Nat.zero_lt_succ 1)]
  simp only [Result.andThen]
  rw [Oper.upon_value]
  go_wp2
  rw [run_callFunc_extern Tryz.func76 (by kernel_rfl) (by kernel_rfl) (by kernel_rfl) (e := Extern.AbiNoEscape.same) (by kernel_rfl)]
  rw [Lib.run_noEscape]
  simp only [Result.andThen]
  rw [Oper.upon_value]
  go_wp2
  rw [Lib.run_from_unsafe w ⟨b, 0, none⟩ Tryz.underlying120 Tryz.underlying61 hj hsh Tryz.Builder_Extra_169.liesBuilder]
  simp only [Result.andThen]
  rw [Oper.upon_value]
  go_wp2
  go_end0
  exact ⟨rfl, rfl⟩
theorem copyCheck_any (B b : Nat) (t : Txt) (w : World) (h : Lib.IsBuilder 64 5 B b (bs t) w) :
    Calls Tryz.prog 47 #[.pointer (some ⟨b, 0, none⟩)] w fun e w' => e = .returned (.tuple #[]) ∧ Bld B b t w' ∧ Keeps (fun k => k = b) w w' := by
  rcases h with h | h
  · refine (copyCheck_new b w h.cell0 h.shape h.frozen0).mono ?_
    rintro e w' ⟨rfl, rfl⟩
    exact ⟨rfl, h.used _, keeps_set w b 0 _⟩
  · refine (copyCheck_v b w h.cell0).mono ?_
    rintro e w' ⟨rfl, rfl⟩
    exact ⟨rfl, h, Keeps.refl _ _⟩
/-- The frame of a write: the builder's own block was marked, its row grew, its field was set. -/
theorem kb_frame {w w1 w2 : World} {B b : Nat} {t : Txt} {v u : Value} (h1 : Keeps (fun k => k = b) w w1) (hown : w1.ownsRow B 5 1 v t.length (bs t)) (hne : v.ownBlock ≠ some b) (hg : Keeps (fun q => v.ownBlock = some q) w1 w2) : Keeps (KB w B b) w (w2.setCell ⟨b, 1, none⟩ u) := by
  have k2 : Keeps (fun q => q = b ∨ v.ownBlock = some q) w w2 := (h1.mono (fun _ _ e => Or.inl e)).then hg (fun i _ e => Or.inr e)
  refine (Keeps.setCell (F := fun q => q = b ∨ v.ownBlock = some q) (p := ⟨b, 1, none⟩) k2 (fun _ => Or.inl rfl) u).mono fun k hk hf => ?_
  rcases hf with e | e
  · exact Or.inl e
  · obtain ⟨q1, c, q2⟩ := own_block hown e
    have hkb : ¬ k = b := fun e' => hne (e' ▸ e)
    exact Or.inr ⟨q1, c, (h1.block k hk hkb).symm.trans q2⟩

set_option maxRecDepth 100000 in
set_option maxHeartbeats 2000000 in
theorem writeString_v (B b : Nat) (t s : Txt) (w : World) (h : Lib.IsBuilder 64 5 B b (bs t) w) (hlen : t.length + s.length ≤ 70368744177664) (hBw : B ≤ w.heap.size) :
    Calls Tryz.prog 31 #[.pointer (some ⟨b, 0, none⟩), str s] w fun e w' => e = .returned (.tuple #[.int .i64 s.length, .nilIface]) ∧ Lib.IsBuilder 64 5 B b (bs (t ++ s)) w' ∧ Keeps (KB w B b) w w' := by
  obtain ⟨i0, hi, hz0, hz1, hz2⟩ := info_parts Tryz.info5
  have HQ := hide (copyCheck_any B b t w h)
  clear h
  have hl : (bs t).length = t.length := by simp [bs]
  have hsz : ByteArray.size ⟨s.toArray⟩ = s.length := by simp [ByteArray.size]
  go_enter Tryz.func31, Tryz.ntmps31
  go_wp2_with fail
  refine (unhide HQ).mono ?_
  rintro e w1 ⟨rfl, hb1, hl1⟩
  have HL1 := hide hl1
  have hBw1 : B ≤ w1.heap.size := Nat.le_trans hBw hl1.size
  obtain ⟨hB, v, hbk, hown, hne⟩ := hb1
  rw [hl] at hown
  have c0 : w1.cell? ⟨b, 0, none⟩ = some (.pointer (some ⟨b, 0, none⟩)) := by rw [Lib.cell_of_heap hbk]; rfl
  have c1 : w1.cell? ⟨b, 1, none⟩ = some v := by rw [Lib.cell_of_heap hbk]; rfl
  have hlt : b < w1.heap.size := lt_of_block hbk
  clear hl1 HQ
  go_wp2_with (at_builtin; refine Lib.wpList_append_own_string _ rfl _ _ 62 9 rfl B 5 i0 Tryz.underlying62 Tryz.underlying9 hi hz0 hz1 hz2 _ _ _ rfl hown ⟨s.toArray⟩ rfl ?c3 ?c4 ?c5 ?_)
  case c3 => rw [hsz]; unfold maxLen; omega
  case c4 => rw [hsz]; omega
  case c5 => omega
  intro v' w2 hown' hgrow _
  have hb2 : w2.heap[b]? = some (.cells #[.pointer (some ⟨b, 0, none⟩), v] 64 (0, 0)) := by
    rw [hgrow.block b hlt (fun e => hne e.symm)]
    exact hbk
  have d0 : w2.cell? ⟨b, 0, none⟩ = some (.pointer (some ⟨b, 0, none⟩)) := by rw [Lib.cell_of_heap hb2]; rfl
  have d1 : w2.cell? ⟨b, 1, none⟩ = some v := by rw [Lib.cell_of_heap hb2]; rfl
  have f1 : w2.frozen? ⟨b, 1, none⟩ = false := Lib.frozen_of_heap hb2 1
  obtain ⟨ao, n', cap, rfl⟩ : ∃ ao n' cap, v' = .slice ao n' cap := by
    rcases hown'.2 with ⟨hv, _⟩ | ⟨g, cap, cur, hv, _⟩
    · exact ⟨_, _, _, hv⟩
    · exact ⟨_, _, _, hv⟩
  go_wp2
  go_ret2
  refine ⟨rfl, Or.inr ?_, ?_⟩
  · refine Lib.BuilderAt.put (T := 64) (e := 5) hB hb2 (bs' := bs (t ++ s)) ?_ (by decide)
    rw [show (bs (t ++ s)).length = t.length + s.length by simp [bs], show bs (t ++ s) = bs t ++ bs s by simp [bs]]
    first | exact hown' | (rw [strCells_bs, hsz] at hown'; exact hown')
  · exact kb_frame (unhide HL1) hown hne ((Keeps.refl (fun q => v.ownBlock = some q) w1).grown hgrow (fun q e _ => e))
end Go.Proofs.YtgdabnkjipcbhaaGreatDoor
namespace Go.Proofs.YtgdabnkjipcbhaaGreatDoor
open Go.RowKit Go.Maps

set_option maxRecDepth 100000 in
set_option maxHeartbeats 2000000 in
theorem writeByte_v (B b : Nat) (t : Txt) (c : UInt8) (w : World) (h : Lib.IsBuilder 64 5 B b (bs t) w) (hlen : t.length ≤ 70368744177000) (hBw : B ≤ w.heap.size) :
    Calls Tryz.prog 68 #[.pointer (some ⟨b, 0, none⟩), .int .u8 (num c)] w fun e w' => e = .returned .nilIface ∧ Lib.IsBuilder 64 5 B b (bs (t ++ [c])) w' ∧ Keeps (KB w B b) w w' := by
  obtain ⟨i0, hi, hz0, hz1, hz2⟩ := info_parts Tryz.info5
  have HQ := hide (copyCheck_any B b t w h)
  clear h
  have hl : (bs t).length = t.length := by simp [bs]
  go_enter Tryz.func68, Tryz.ntmps68
  go_wp2_with fail
  refine (unhide HQ).mono ?_
  rintro e w1 ⟨rfl, hb1, hl1⟩
  have HL1 := hide hl1
  have hBw1 : B ≤ w1.heap.size := Nat.le_trans hBw hl1.size
  obtain ⟨hB, v, hbk, hown, hne⟩ := hb1
  rw [hl] at hown
  have c0 : w1.cell? ⟨b, 0, none⟩ = some (.pointer (some ⟨b, 0, none⟩)) := by rw [Lib.cell_of_heap hbk]; rfl
  have c1 : w1.cell? ⟨b, 1, none⟩ = some v := by rw [Lib.cell_of_heap hbk]; rfl
  have hlt : b < w1.heap.size := lt_of_block hbk
  clear hl1 HQ
  go_wp2_with (at_builtin; refine wpList_append_own _ rfl _ _ 62 rfl B 5 i0 (.int .u8 0) 1 1 Tryz.underlying62 hi hz0 hz1 hz2 rfl (by decide) _ _ _ rfl (hown.alloc _) ⟨w1.heap.size, 0, none⟩ 1 1 [.int .u8 (num c)] rfl rfl ?c1 ?c2 ?c3 ?c4 ?c5 ?_)
  case c1 =>
    intro j u hj
    match j, hj with
    | 0, hj => simp at hj; subst hj; simp [Addr.add]
  case c2 => intro u hu; simp at hu; subst hu; rfl
  case c3 => unfold maxLen; omega
  case c4 => omega
  case c5 => simp; omega
  intro v' w2 hown' hgrow _
  have hb2 : w2.heap[b]? = some (.cells #[.pointer (some ⟨b, 0, none⟩), v] 64 (0, 0)) := by
    rw [hgrow.block b (by simp; omega) (fun e => hne e.symm), Lib.alloc_old w1 _ b hlt]
    exact hbk
  have d0 : w2.cell? ⟨b, 0, none⟩ = some (.pointer (some ⟨b, 0, none⟩)) := by rw [Lib.cell_of_heap hb2]; rfl
  have d1 : w2.cell? ⟨b, 1, none⟩ = some v := by rw [Lib.cell_of_heap hb2]; rfl
  have f1 : w2.frozen? ⟨b, 1, none⟩ = false := Lib.frozen_of_heap hb2 1
  obtain ⟨g, cap, rfl⟩ : ∃ g cap, v' = .slice (some ⟨g, 0, none⟩) (t.length + 1) cap := by
    rcases hown'.2 with ⟨_, h0⟩ | ⟨g, cap, cur, hv, _⟩
    · omega
    · exact ⟨g, cap, hv⟩
  go_wp2
  go_ret
  refine ⟨rfl, Or.inr ?_, ?_⟩
  · refine Lib.BuilderAt.put (T := 64) (e := 5) hB hb2 (bs' := bs (t ++ [c])) ?_ (by decide)
    rw [show (bs (t ++ [c])).length = t.length + 1 by simp [bs], show bs (t ++ [c]) = bs t ++ [.int .u8 (num c)] by simp [bs]]
    exact hown'
  · exact kb_frame (unhide HL1) hown hne (((Keeps.refl _ w1).alloc _).trans ((Keeps.refl (fun q => v.ownBlock = some q) _).grown hgrow (fun q e _ => e)))
theorem byteCells_bs (t : Txt) : Lib.byteCells t = bs t := by simp [Lib.byteCells, bs, num]
theorem string_v (B b : Nat) (t : Txt) (w : World) (h : Lib.IsBuilder 64 5 B b (bs t) w) (hBw : B ≤ w.heap.size) :
    Calls Tryz.prog 32 #[.pointer (some ⟨b, 0, none⟩)] w fun e w' => e = .returned (str t) ∧ Below B w w' :=
  (Any.Builder_String_any Tryz.lays169 Tryz.Builder_Extra_169 B b t w (by rw [byteCells_bs]; exact h) hBw).mono fun _ _ h => ⟨h.1, by first | exact h.2 | exact h.2.2 | exact h.2.1⟩

/-- The table of powers of ten stands as its text lays it. -/
def Pow (w : World) : Prop := Lib.TabIs Tryz.prog w "internal/strconv.uint64pow10" .u64 Lib.pow10Tab
theorem Pow.keepF {w w' : World} (h : Pow w) (k : Keeps (fun _ => False) w w') : Pow w' := by
  unfold Pow Lib.TabIs World.var? at h ⊢
  cases hg : Tryz.prog.globalNamed "internal/strconv.uint64pow10" with
  | none => simp [hg] at h
  | some g =>
    simp only [hg, Option.bind_some] at h ⊢
    have hlt : g < w.heap.size := by
      rcases Nat.lt_or_ge g w.heap.size with h' | h'
      · exact h'
      · simp [Array.getElem?_eq_none h'] at h
    rw [k.block g hlt id]
    exact h
theorem keeps_grow (w : World) (n : Nat) (os : Array Obj) : Keeps (fun _ => False) w (Go.Sort.grow (w.drewN n) os) := by
  obtain ⟨h1, h2, h3, h4⟩ := drewN_os w n
  refine ⟨h1, h2, h3, ?_, fun k hk _ => ?_⟩
  · unfold Go.Sort.grow; simp only [Array.size_append, h4]; omega
  · unfold Go.Sort.grow; simp only [h4]; exact Array.getElem?_append_left hk
theorem decN_zero : decN 0 = [] := by unfold decN; simp
theorem decN_pos {u : Nat} (h : 0 < u) : decN u = decN (u / 10) ++ [UInt8.ofNat (48 + u % 10)] := by
  rw [decN, dif_neg (by omega)]
theorem dec_eq : ∀ u : Nat, 0 < u → Lib.decDigits u = decN u := by
  intro u
  induction u using Nat.strongRecOn with
  | ind u ih =>
    intro h
    rw [Lib.decDigits, decN_pos h]
    split
    · rename_i h10
      rw [show u / 10 = 0 by omega, decN_zero, show u % 10 = u by omega]
      rfl
    · rw [ih (u / 10) (by omega) (by omega)]
theorem itoa_eq (n : Int) : Lib.itoa n = decimal n := by
  unfold Lib.itoa decimal
  by_cases h0 : n = 0
  · subst h0
    rw [if_neg (by omega), if_pos rfl, Lib.decDigits]
    rfl
  · rw [if_neg h0]
    by_cases h : n < 0
    · rw [if_pos h, if_pos h, dec_eq _ (by omega)]
    · rw [if_neg h, if_neg h, show n.toNat = n.natAbs by omega, dec_eq _ (by omega)]

set_option maxRecDepth 100000 in
theorem formatInt_v (n : Int) (h0 : -9223372036854775808 ≤ n) (h1 : n ≤ 9223372036854775807) (w : World) (hP : Pow w) :
    Calls Tryz.prog 81 #[.int .i64 n, .int .i64 10] w fun e w' => e = .returned (str (decimal n)) ∧ Keeps (fun _ => False) w w' := by
  have HQ := hide (Tryz.internal_strconv_FormatInt_10 n h0 h1 w hP)
  rw [itoa_eq] at HQ
  clear hP h0 h1
  go_enter Tryz.func81, Tryz.ntmps81
  go_wp2_with fail
  refine (unhide HQ).mono ?_
  rintro e w2 ⟨rfl, k, os, rfl⟩
  have HK := hide (keeps_grow w k os)
  generalize Go.Sort.grow (w.drewN k) os = w2 at *
  go_wp2_with fail
  go_ret
  exact ⟨rfl, unhide HK⟩

set_option maxRecDepth 100000 in
theorem formatBool_v (x : Bool) (w : World) :
    Calls Tryz.prog 92 #[.bool x] w fun e w' => e = .returned (str (if x then [116, 114, 117, 101] else [102, 97, 108, 115, 101])) ∧ Keeps (fun _ => False) w w' := by
  cases x
  all_goals
    go_enter Tryz.func92, Tryz.ntmps92
    go_wp2
    go_ret
    exact ⟨rfl, Keeps.refl _ w⟩
end Go.Proofs.YtgdabnkjipcbhaaGreatDoor
namespace Go.Proofs.YtgdabnkjipcbhaaGreatDoor
open Go.ChangeShapes Go.WideShapes Go.ChangeAt Go.RowKit Go.Deep

theorem pow_of {W : World} (h : laidMetH Tryz.prog Rows.queryPrintsRow.laid W) : Pow W := by
  have hpow := h.filter (fun x => x.1 == "internal/strconv.uint64pow10")
  rw [show Rows.queryPrintsRow.laid.filter (fun x => x.1 == "internal/strconv.uint64pow10") = [("internal/strconv.uint64pow10", Rows.laid_internal_strconv_uint64pow10)] by rfl, MakeChecks.laidMetH_plain _ _ _ (by kernel_rfl)] at hpow
  have e : (Rows.laid_internal_strconv_uint64pow10 : DataW Unit) = Lib.tabData .u64 Lib.pow10Tab := by kernel_rfl
  rw [e] at hpow
  exact Lib.tabIs_of_head (rest := []) (g := 5) (t := 133) (e := 73) (n := 20) (by kernel_rfl) (by kernel_rfl) Tryz.underlying133 Tryz.underlying73 (by kernel_rfl) (by kernel_rfl) hpow
theorem forms_of {W : World} (h : laidMetH Tryz.prog Rows.queryPrintsRow.laid W) : Forms W := by
  have hf := h.filter (fun x => x.1 == "arbor/syntax.forms")
  rw [show Rows.queryPrintsRow.laid.filter (fun x => x.1 == "arbor/syntax.forms") = [("arbor/syntax.forms", Rows.laid_arbor_syntax_forms)] by rfl] at hf
  exact forms_met hf
theorem ops_of {W : World} (h : laidMetH Tryz.prog Rows.queryPrintsRow.laid W) : Lib.TabIs Tryz.prog W "arbor/arborref8.comparisonOps" .i64 cmpOps := by
  have hf := h.filter (fun x => x.1 == "arbor/arborref8.comparisonOps")
  rw [show Rows.queryPrintsRow.laid.filter (fun x => x.1 == "arbor/arborref8.comparisonOps") = [("arbor/arborref8.comparisonOps", Rows.laid_arbor_arborref8_comparisonOps)] by rfl, MakeChecks.laidMetH_plain _ _ _ (by kernel_rfl)] at hf
  have e : (Rows.laid_arbor_arborref8_comparisonOps : DataW Unit) = Lib.tabData .i64 cmpOps := by kernel_rfl
  rw [e] at hf
  exact Lib.tabIs_of_head (rest := []) (g := 0) (t := 82) (e := 3) (n := 6) (by kernel_rfl) (by kernel_rfl) Tryz.underlying82 Tryz.underlying3 (by kernel_rfl) (by kernel_rfl) hf
theorem calls_of {W : World} (h : laidMetH Tryz.prog Rows.queryPrintsRow.laid W) : Lib.TabIs Tryz.prog W "arbor/arborref8.callOps" .i64 callOps := by
  have hf := h.filter (fun x => x.1 == "arbor/arborref8.callOps")
  rw [show Rows.queryPrintsRow.laid.filter (fun x => x.1 == "arbor/arborref8.callOps") = [("arbor/arborref8.callOps", Rows.laid_arbor_arborref8_callOps)] by rfl, MakeChecks.laidMetH_plain _ _ _ (by kernel_rfl)] at hf
  have e : (Rows.laid_arbor_arborref8_callOps : DataW Unit) = Lib.tabData .i64 callOps := by kernel_rfl
  rw [e] at hf
  exact Lib.tabIs_of_head (rest := []) (g := 2) (t := 85) (e := 3) (n := 5) (by kernel_rfl) (by kernel_rfl) Tryz.underlying85 Tryz.underlying3 (by kernel_rfl) (by kernel_rfl) hf
set_option maxRecDepth 100000 in
theorem strs_met {W : World} {name : String} {g t n : Nat} (l : List Txt) (hg : Tryz.prog.globalNamed name = some g) (hty : (Tryz.prog.globals[g]?).map (·.type) = some t) (ht : Tryz.prog.underlying t = some (.array n 9)) (hn : l.length = n)
    (h : laidMet Tryz.prog [(name, .agg (l.map fun s => .lit (.string s)))] W) : ∀ (i : Nat) (x : Txt), l[i]? = some x → W.cell? ⟨g, i, none⟩ = some (str x) := by
  obtain ⟨ps, ⟨g0, t0, cs0, f0, p0, q0, hg0, ht0, hv0, hd0, _, _⟩, _, _⟩ := h
  obtain rfl := Option.some.inj (hg.symm.trans hg0)
  obtain rfl := Option.some.inj (hty.symm.trans ht0)
  obtain ⟨xs, m1, rfl, hx1, hlen, hn3, hel⟩ := DataW.trod_array ht hd0
  have q := fun j => World.var?_cell hg0 hv0 j
  obtain ⟨cl⟩ := cs0
  have hxs : xs.map (·.1) = l.map fun s => (.lit (.string s) : DataW Unit) := (DataW.agg.inj (Prod.mk.inj hx1).1).symm
  intro i x hx
  have hi : i < n := by rw [← hn]; exact (List.getElem?_eq_some_iff.1 hx).1
  have h1 : (xs.map (·.1))[i]? = some (.lit (.string x)) := by rw [hxs]; simp [hx]
  cases hxi : xs[i]? with
  | none => rw [List.getElem?_map, hxi] at h1; cases h1
  | some y =>
    rw [List.getElem?_map, hxi] at h1
    have h2 := hel i hi
    rw [e9, hxi] at h2
    obtain ⟨s, q1, w1, _⟩ := DataW.trod_string Tryz.underlying9 h2
    have h3 := Option.some.inj h1
    rw [w1] at h3
    simp at h3
    rw [q i]
    have := congrArg (fun z => z[0]?) q1
    simp [List.getElem?_drop] at this
    simp [this, str_of, h3]
theorem tabs_of {W : World} (h : laidMetH Tryz.prog Rows.queryPrintsRow.laid W) : Tabs W := by
  have k1 := ops_of h
  have k3 := calls_of h
  have h2 := h.filter (fun x => x.1 == "arbor/arborref8.comparisonMarks")
  rw [show Rows.queryPrintsRow.laid.filter (fun x => x.1 == "arbor/arborref8.comparisonMarks") = [("arbor/arborref8.comparisonMarks", Rows.laid_arbor_arborref8_comparisonMarks)] by rfl, MakeChecks.laidMetH_plain _ _ _ (by kernel_rfl)] at h2
  have h4 := h.filter (fun x => x.1 == "arbor/arborref8.callWords")
  rw [show Rows.queryPrintsRow.laid.filter (fun x => x.1 == "arbor/arborref8.callWords") = [("arbor/arborref8.callWords", Rows.laid_arbor_arborref8_callWords)] by rfl, MakeChecks.laidMetH_plain _ _ _ (by kernel_rfl)] at h4
  have m2 := strs_met (g := 1) (t := 84) (n := 6) cmpMarks (by kernel_rfl) (by kernel_rfl) Tryz.underlying84 rfl h2
  have m4 := strs_met (g := 3) (t := 87) (n := 5) callWords (by kernel_rfl) (by kernel_rfl) Tryz.underlying87 rfl h4
  refine ⟨World.block_lt_of_cell? W ⟨3, 0, none⟩ (m4 0 _ rfl), fun i x hx => ?_, m2, fun i x hx => ?_, m4⟩
  · have := k1.cell (g := 0) (by kernel_rfl) i (List.getElem?_eq_some_iff.1 hx).1
    rw [this]; simp [List.getD, hx]
  · have := k3.cell (g := 2) (by kernel_rfl) i (List.getElem?_eq_some_iff.1 hx).1
    rw [this]; simp [List.getD, hx]
end Go.Proofs.YtgdabnkjipcbhaaGreatDoor
