import Derived.Test.YtafniangljmjeabDoorQb
import Derived.Lib.LaidTab
namespace Go.Proofs.YtafniangljmjeabDoor
open Go.RowKit Go.Maps

set_option maxRecDepth 100000 in
set_option maxHeartbeats 2000000 in
theorem writeByte_v (B b : Nat) (t : Txt) (c : UInt8) (w : World) (h : Lib.IsBuilder 65 5 B b (bs t) w) (hlen : t.length ≤ 70368744177000) (hBw : B ≤ w.heap.size) :
    Calls Tryd.prog 69 #[.pointer (some ⟨b, 0, none⟩), .int .u8 (num c)] w fun e w' => e = .returned .nilIface ∧ Lib.IsBuilder 65 5 B b (bs (t ++ [c])) w' ∧ Keeps (KB w B b) w w' := by
  obtain ⟨i0, hi, hz0, hz1, hz2⟩ := info_parts Tryd.info5
  have HQ := hide (copyCheck_any B b t w h)
  clear h
  have hl : (bs t).length = t.length := by simp [bs]
  go_enter Tryd.func69, Tryd.ntmps69
  go_wp2_with fail
  refine (unhide HQ).mono ?_
  rintro e w1 ⟨rfl, hb1, hl1⟩
  have HL1 := hide hl1
  have hBw1 : B ≤ w1.heap.size := Nat.le_trans hBw hl1.size
  obtain ⟨hB, v, hbk, hown, hne⟩ := hb1
  rw [hl] at hown
  have c0 : w1.cell? ⟨b, 0, none⟩ = some (.pointer (some ⟨b, 0, none⟩)) := by rw [Lib.cell_of_heap hbk]; rfl
  have c1 : w1.cell? ⟨b, 1, none⟩ = some v := by rw [Lib.cell_of_heap hbk]; rfl
  have hlt : b < w1.heap.size := lt_of_block hbk
  clear hl1 HQ
  go_wp2_with (at_builtin; refine wpList_append_own _ rfl _ _ 38 rfl B 5 i0 (.int .u8 0) 1 1 Tryd.underlying38 hi hz0 hz1 hz2 rfl (by decide) _ _ _ rfl (hown.alloc _) ⟨w1.heap.size, 0, none⟩ 1 1 [.int .u8 (num c)] rfl rfl ?c1 ?c2 ?c3 ?c4 ?c5 ?_)
  case c1 =>
    intro j u hj
    match j, hj with
    | 0, hj => simp at hj; subst hj; simp [Addr.add]
  case c2 => intro u hu; simp at hu; subst hu; rfl
  case c3 => unfold maxLen; omega
  case c4 => omega
  case c5 => simp; omega
  intro v' w2 hown' hgrow _
  have hb2 : w2.heap[b]? = some (.cells #[.pointer (some ⟨b, 0, none⟩), v] 65 (0, 0)) := by
    rw [hgrow.block b (by simp; omega) (fun e => hne e.symm), Lib.alloc_old w1 _ b hlt]
    exact hbk
  have d0 : w2.cell? ⟨b, 0, none⟩ = some (.pointer (some ⟨b, 0, none⟩)) := by rw [Lib.cell_of_heap hb2]; rfl
  have d1 : w2.cell? ⟨b, 1, none⟩ = some v := by rw [Lib.cell_of_heap hb2]; rfl
  have f1 : w2.frozen? ⟨b, 1, none⟩ = false := Lib.frozen_of_heap hb2 1
  obtain ⟨g, cap, rfl⟩ : ∃ g cap, v' = .slice (some ⟨g, 0, none⟩) (t.length + 1) cap := by
    rcases hown'.2 with ⟨_, h0⟩ | ⟨g, cap, cur, hv, _⟩
    · omega
    · exact ⟨g, cap, hv⟩
  go_wp2
  go_ret
  refine ⟨rfl, Or.inr ?_, ?_⟩
  · refine Lib.BuilderAt.put (T := 65) (e := 5) hB hb2 (bs' := bs (t ++ [c])) ?_ (by decide)
    rw [show (bs (t ++ [c])).length = t.length + 1 by simp [bs], show bs (t ++ [c]) = bs t ++ [.int .u8 (num c)] by simp [bs]]
    exact hown'
  · exact kb_frame (unhide HL1) hown hne (((Keeps.refl _ w1).alloc _).trans ((Keeps.refl (fun q => v.ownBlock = some q) _).grown hgrow (fun q e _ => e)))
theorem byteCells_bs (t : Txt) : Lib.byteCells t = bs t := by simp [Lib.byteCells, bs, num]
theorem string_v (B b : Nat) (t : Txt) (w : World) (h : Lib.IsBuilder 65 5 B b (bs t) w) (hBw : B ≤ w.heap.size) :
    Calls Tryd.prog 27 #[.pointer (some ⟨b, 0, none⟩)] w fun e w' => e = .returned (str t) ∧ Below B w w' :=
  (Any.Builder_String_any Tryd.lays169 Tryd.Builder_Extra_169 B b t w (by rw [byteCells_bs]; exact h) hBw).mono fun _ _ h => ⟨h.1, by first | exact h.2 | exact h.2.2 | exact h.2.1⟩

/-- The table of powers of ten stands as its text lays it. -/
def Pow (w : World) : Prop := Lib.TabIs Tryd.prog w "internal/strconv.uint64pow10" .u64 Lib.pow10Tab
theorem Pow.keepF {w w' : World} (h : Pow w) (k : Keeps (fun _ => False) w w') : Pow w' := by
  unfold Pow Lib.TabIs World.var? at h ⊢
  cases hg : Tryd.prog.globalNamed "internal/strconv.uint64pow10" with
  | none => simp [hg] at h
  | some g =>
    simp only [hg, Option.bind_some] at h ⊢
    have hlt : g < w.heap.size := by
      rcases Nat.lt_or_ge g w.heap.size with h' | h'
      · exact h'
      · simp [Array.getElem?_eq_none h'] at h
    rw [k.block g hlt id]
    exact h
theorem keeps_grow (w : World) (n : Nat) (os : Array Obj) : Keeps (fun _ => False) w (Go.Sort.grow (w.drewN n) os) := by
  obtain ⟨h1, h2, h3, h4⟩ := drewN_os w n
  refine ⟨h1, h2, h3, ?_, fun k hk _ => ?_⟩
  · unfold Go.Sort.grow; simp only [Array.size_append, h4]; omega
  · unfold Go.Sort.grow; simp only [h4]; exact Array.getElem?_append_left hk
theorem decD_eq : ∀ u : Nat, 0 < u → Lib.decDigits u = decN u := by
  intro u
  induction u using Nat.strongRecOn with
  | ind u ih =>
    intro h
    rw [Lib.decDigits, decN_pos h]
    split
    · rename_i h10
      rw [show u / 10 = 0 by omega, decN_zero, show u % 10 = u by omega]
      rfl
    · rw [ih (u / 10) (by omega) (by omega)]
theorem itoa_eq (n : Int) : Lib.itoa n = decimal n := by
  unfold Lib.itoa decimal
  by_cases h0 : n = 0
  · subst h0
    rw [if_neg (by omega), if_pos rfl, Lib.decDigits]
    rfl
  · rw [if_neg h0]
    by_cases h : n < 0
    · rw [if_pos h, if_pos h, decD_eq _ (by omega)]
    · rw [if_neg h, if_neg h, show n.toNat = n.natAbs by omega, decD_eq _ (by omega)]

set_option maxRecDepth 100000 in
theorem formatInt_v (n : Int) (h0 : -9223372036854775808 ≤ n) (h1 : n ≤ 9223372036854775807) (w : World) (hP : Pow w) :
    Calls Tryd.prog 30 #[.int .i64 n, .int .i64 10] w fun e w' => e = .returned (str (decimal n)) ∧ Keeps (fun _ => False) w w' := by
  have HQ := hide (Tryd.internal_strconv_FormatInt_10 n h0 h1 w hP)
  rw [itoa_eq] at HQ
  clear hP h0 h1
  go_enter Tryd.func30, Tryd.ntmps30
  go_wp2_with fail
  refine (unhide HQ).mono ?_
  rintro e w2 ⟨rfl, k, os, rfl⟩
  have HK := hide (keeps_grow w k os)
  generalize Go.Sort.grow (w.drewN k) os = w2 at *
  go_wp2_with fail
  go_ret
  exact ⟨rfl, unhide HK⟩

end Go.Proofs.YtafniangljmjeabDoor
