import Derived.Test.YtafniangljmjeabDoorQa
import Derived.Test.YtafniangljmjeabDoorShelf
import Derived.Test.YtafniangljmjeabDoorFd
import Derived.Lib.ConvBytes
namespace Go.Proofs.YtafniangljmjeabDoor
open Go.RowKit Go.Maps

/-- A builder that has been written to: it knows its own address. -/
def Bld (B b : Nat) (t : Txt) (w : World) : Prop := Lib.BuilderAt 65 5 B b (.pointer (some ⟨b, 0, none⟩)) (bs t) w
/-- What writing to a builder may write: itself, and rows of bytes. -/
def KB (w : World) (B b k : Nat) : Prop := k = b ∨ (B ≤ k ∧ ∃ c, w.heap[k]? = some (.cells c 5 (0, 0)))
theorem kb_trans {x y z : World} {B b : Nat} (h : Keeps (KB x B b) x y) (k : Keeps (KB y B b) y z) : Keeps (KB x B b) x z :=
  h.then k fun i hi hf => by
    rcases hf with rfl | ⟨hB, c, hc⟩
    · exact Or.inl rfl
    · by_cases hq : KB x B b i
      · exact hq
      · exact Or.inr ⟨hB, c, (h.block i hi hq).symm.trans hc⟩

set_option maxRecDepth 100000 in
theorem copyCheck_v (b : Nat) (w : World) (h : w.cell? ⟨b, 0, none⟩ = some (.pointer (some ⟨b, 0, none⟩))) : Calls Tryd.prog 44 #[.pointer (some ⟨b, 0, none⟩)] w fun e w' => e = .returned (.tuple #[]) ∧ w' = w := by
  obtain ⟨j, hj, _⟩ := Option.map_eq_some_iff.1 Tryd.Builder_Extra_169.sizeBuilder
  go_enter Tryd.func44, Tryd.ntmps44
  go_wp2
  rw [Lib.run_neq_ptr_same w _ Tryd.underlying63 hj]
  go_wp2
  go_end0
  exact ⟨rfl, rfl⟩

set_option maxHeartbeats 1000000 in
set_option maxRecDepth 100000 in
/-- copyCheck of a Builder that was not written yet: it lays its own place. -/
theorem copyCheck_new (b : Nat) (w : World) (h0 : w.cell? ⟨b, 0, none⟩ = some (.pointer none)) (hsh : w.shape? b = some (65, 2)) (hfz : w.frozen? ⟨b, 0, none⟩ = false) :
    Calls Tryd.prog 44 #[.pointer (some ⟨b, 0, none⟩)] w fun e w' => e = .returned (.tuple #[]) ∧ w' = w.setCell ⟨b, 0, none⟩ (.pointer (some ⟨b, 0, none⟩)) := by
  obtain ⟨j, hj, hjs⟩ := Option.map_eq_some_iff.1 Tryd.Builder_Extra_169.sizeBuilder
  go_enter Tryd.func44, Tryd.ntmps44
  go_wp2
  rw [Lib.run_to_unsafe w ⟨b, 0, none⟩ Tryd.underlying63 Tryd.underlying107 hj (by rw [hjs]; decide) hsh (Nat.zero_lt_succ 1)]
  simp only [Result.andThen]
  rw [Oper.upon_value]
  go_wp2
  rw [run_callFunc_extern Tryd.func67 (by kernel_rfl) (by kernel_rfl) (by kernel_rfl) (e := Extern.AbiNoEscape.same) (by kernel_rfl)]
  rw [Lib.run_noEscape]
  simp only [Result.andThen]
  rw [Oper.upon_value]
  go_wp2
  rw [Lib.run_from_unsafe w ⟨b, 0, none⟩ Tryd.underlying107 Tryd.underlying63 hj hsh Tryd.Builder_Extra_169.liesBuilder]
  simp only [Result.andThen]
  rw [Oper.upon_value]
  go_wp2
  go_end0
  exact ⟨rfl, rfl⟩
theorem copyCheck_any (B b : Nat) (t : Txt) (w : World) (h : Lib.IsBuilder 65 5 B b (bs t) w) :
    Calls Tryd.prog 44 #[.pointer (some ⟨b, 0, none⟩)] w fun e w' => e = .returned (.tuple #[]) ∧ Bld B b t w' ∧ Keeps (fun k => k = b) w w' := by
  rcases h with h | h
  · refine (copyCheck_new b w h.cell0 h.shape h.frozen0).mono ?_
    rintro e w' ⟨rfl, rfl⟩
    exact ⟨rfl, h.used _, keeps_set w b 0 _⟩
  · refine (copyCheck_v b w h.cell0).mono ?_
    rintro e w' ⟨rfl, rfl⟩
    exact ⟨rfl, h, Keeps.refl _ _⟩
/-- The frame of a write: the builder's own block was marked, its row grew, its field was set. -/
theorem kb_frame {w w1 w2 : World} {B b : Nat} {t : Txt} {v u : Value} (h1 : Keeps (fun k => k = b) w w1) (hown : w1.ownsRow B 5 1 v t.length (bs t)) (hne : v.ownBlock ≠ some b) (hg : Keeps (fun q => v.ownBlock = some q) w1 w2) : Keeps (KB w B b) w (w2.setCell ⟨b, 1, none⟩ u) := by
  have k2 : Keeps (fun q => q = b ∨ v.ownBlock = some q) w w2 := (h1.mono (fun _ _ e => Or.inl e)).then hg (fun i _ e => Or.inr e)
  refine (Keeps.setCell (F := fun q => q = b ∨ v.ownBlock = some q) (p := ⟨b, 1, none⟩) k2 (fun _ => Or.inl rfl) u).mono fun k hk hf => ?_
  rcases hf with e | e
  · exact Or.inl e
  · obtain ⟨q1, c, q2⟩ := own_block hown e
    have hkb : ¬ k = b := fun e' => hne (e' ▸ e)
    exact Or.inr ⟨q1, c, (h1.block k hk hkb).symm.trans q2⟩

set_option maxRecDepth 100000 in
set_option maxHeartbeats 2000000 in
theorem writeString_v (B b : Nat) (t s : Txt) (w : World) (h : Lib.IsBuilder 65 5 B b (bs t) w) (hlen : t.length + s.length ≤ 70368744177664) (hBw : B ≤ w.heap.size) :
    Calls Tryd.prog 24 #[.pointer (some ⟨b, 0, none⟩), str s] w fun e w' => e = .returned (.tuple #[.int .i64 s.length, .nilIface]) ∧ Lib.IsBuilder 65 5 B b (bs (t ++ s)) w' ∧ Keeps (KB w B b) w w' := by
  obtain ⟨i0, hi, hz0, hz1, hz2⟩ := info_parts Tryd.info5
  have HQ := hide (copyCheck_any B b t w h)
  clear h
  have hl : (bs t).length = t.length := by simp [bs]
  have hsz : ByteArray.size ⟨s.toArray⟩ = s.length := by simp [ByteArray.size]
  go_enter Tryd.func24, Tryd.ntmps24
  go_wp2_with fail
  refine (unhide HQ).mono ?_
  rintro e w1 ⟨rfl, hb1, hl1⟩
  have HL1 := hide hl1
  have hBw1 : B ≤ w1.heap.size := Nat.le_trans hBw hl1.size
  obtain ⟨hB, v, hbk, hown, hne⟩ := hb1
  rw [hl] at hown
  have c0 : w1.cell? ⟨b, 0, none⟩ = some (.pointer (some ⟨b, 0, none⟩)) := by rw [Lib.cell_of_heap hbk]; rfl
  have c1 : w1.cell? ⟨b, 1, none⟩ = some v := by rw [Lib.cell_of_heap hbk]; rfl
  have hlt : b < w1.heap.size := lt_of_block hbk
  clear hl1 HQ
  go_wp2_with (at_builtin; refine Lib.wpList_append_own_string _ rfl _ _ 38 9 rfl B 5 i0 Tryd.underlying38 Tryd.underlying9 hi hz0 hz1 hz2 _ _ _ rfl hown ⟨s.toArray⟩ rfl ?c3 ?c4 ?c5 ?_)
  case c3 => rw [hsz]; unfold maxLen; omega
  case c4 => rw [hsz]; omega
  case c5 => omega
  intro v' w2 hown' hgrow _
  have hb2 : w2.heap[b]? = some (.cells #[.pointer (some ⟨b, 0, none⟩), v] 65 (0, 0)) := by
    rw [hgrow.block b hlt (fun e => hne e.symm)]
    exact hbk
  have d0 : w2.cell? ⟨b, 0, none⟩ = some (.pointer (some ⟨b, 0, none⟩)) := by rw [Lib.cell_of_heap hb2]; rfl
  have d1 : w2.cell? ⟨b, 1, none⟩ = some v := by rw [Lib.cell_of_heap hb2]; rfl
  have f1 : w2.frozen? ⟨b, 1, none⟩ = false := Lib.frozen_of_heap hb2 1
  obtain ⟨ao, n', cap, rfl⟩ : ∃ ao n' cap, v' = .slice ao n' cap := by
    rcases hown'.2 with ⟨hv, _⟩ | ⟨g, cap, cur, hv, _⟩
    · exact ⟨_, _, _, hv⟩
    · exact ⟨_, _, _, hv⟩
  go_wp2
  go_ret2
  refine ⟨rfl, Or.inr ?_, ?_⟩
  · refine Lib.BuilderAt.put (T := 65) (e := 5) hB hb2 (bs' := bs (t ++ s)) ?_ (by decide)
    rw [show (bs (t ++ s)).length = t.length + s.length by simp [bs], show bs (t ++ s) = bs t ++ bs s by simp [bs]]
    first | exact hown' | (rw [strCells_bs, hsz] at hown'; exact hown')
  · exact kb_frame (unhide HL1) hown hne ((Keeps.refl (fun q => v.ownBlock = some q) w1).grown hgrow (fun q e _ => e))
end Go.Proofs.YtafniangljmjeabDoor
