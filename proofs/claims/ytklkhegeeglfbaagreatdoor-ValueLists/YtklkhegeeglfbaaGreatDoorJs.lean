import Derived.Test.YtklkhegeeglfbaaGreatDoorJzad
import Derived.Test.YtklkhegeeglfbaaGreatDoorRe
import Derived.Test.YtklkhegeeglfbaaGreatDoorJc
namespace Go.Proofs.YtklkhegeeglfbaaGreatDoor
open Go.RowKit Go.Maps

def endB (t : Txt) (a : Nat) : Nat := scan t (fun x => x != 44 && x != 125) a
/-- The value of a field's type that stands at a place of a text, and the place behind it (-1: none does). -/
def valueAtB (f : FieldA) (t : Txt) (a : Nat) : ValA × Int :=
  if f.type = 3 then (if (unquoteB (t.drop a)).2.2 ≠ 0 then (⟨0, 0, []⟩, -1) else (⟨3, 0, (unquoteB (t.drop a)).1⟩, (a + (unquoteB (t.drop a)).2.1 : Nat)))
  else if f.type = 2 then
    (if (t.drop a).take (endB t a - a) = [116, 114, 117, 101] then (⟨2, 1, []⟩, (endB t a : Int))
    else if (t.drop a).take (endB t a - a) = [102, 97, 108, 115, 101] then (⟨2, 0, []⟩, (endB t a : Int)) else (⟨0, 0, []⟩, -1))
  else (if (numberB ((t.drop a).take (endB t a - a))).2 then (⟨1, (numberB ((t.drop a).take (endB t a - a))).1, []⟩, (endB t a : Int)) else (⟨0, 0, []⟩, -1))

theorem unqLoop_n {f : Nat} : ∀ {t b : Txt} {a : Nat} {r : Txt × Nat}, unqLoop f t b a = some r → r.2 ≤ t.length := by
  induction f with
  | zero => intro t b a r h; simp [unqLoop] at h
  | succ f ih =>
    intro t b a r h
    rw [unqLoop] at h
    split at h
    · cases hc : t[a]? with
      | none => rw [hc] at h; simp at h
      | some c =>
        have := get_lt hc
        rw [hc] at h
        simp only at h
        split at h
        · simp at h; subst h; simp; omega
        · split at h
          · cases h
          · exact ih h
    · cases h
theorem unquoteB_n (t : Txt) : (unquoteB t).2.1 ≤ t.length ∧ (unquoteB t).2.2 = 0 ∨ (unquoteB t).2.1 = 0 ∧ (unquoteB t).2.2 = 63 := by
  unfold unquoteB
  split
  · cases h : unqLoop t.length t [] 1 with
    | none => simp
    | some r => have := unqLoop_n h; obtain ⟨b, n⟩ := r; simp; exact this
  · simp

/-- A struct of three cells is written over. -/
theorem set3 {w4 : World} {b : Nat} {c0 c1 c2 : Value} {t : TypeId} (h : w4.heap[b]? = some (.cells #[c0, c1, c2] t (0, 0))) (x y z : Value) :
    ((((w4.setCell ⟨b, 0, none⟩ x).setCell ⟨b, 1, none⟩ y).setCell ⟨b, 2, none⟩ z).cell? ⟨b, 0, none⟩ = some x ∧ (((w4.setCell ⟨b, 0, none⟩ x).setCell ⟨b, 1, none⟩ y).setCell ⟨b, 2, none⟩ z).cell? ⟨b, 1, none⟩ = some y ∧ (((w4.setCell ⟨b, 0, none⟩ x).setCell ⟨b, 1, none⟩ y).setCell ⟨b, 2, none⟩ z).cell? ⟨b, 2, none⟩ = some z) ∧ Keeps (fun q => q = b) w4 (((w4.setCell ⟨b, 0, none⟩ x).setCell ⟨b, 1, none⟩ y).setCell ⟨b, 2, none⟩ z) := by
  have hb := heap_setCell_at (o := 2) (heap_setCell_at (o := 1) (heap_setCell_at (o := 0) h x) y) z
  refine ⟨⟨?_, ?_, ?_⟩, ((keeps_set w4 b 0 x).trans (keeps_set _ b 1 y)).trans (keeps_set _ b 2 z)⟩
  · rw [cell_of_blk hb]; rfl
  · rw [cell_of_blk hb]; rfl
  · rw [cell_of_blk hb]; rfl
theorem ret_vn {x : ValA} {D : ValA × Int} {n : Int} (h : D = (x, n)) : Ending.returned (.tuple #[.agg #[.int .i64 x.kind, .int .i64 x.n, str x.s], .int .i64 n]) = .returned (.tuple #[.agg #[.int .i64 D.1.kind, .int .i64 D.1.n, str D.1.s], .int .i64 D.2]) := by rw [h]

end Go.Proofs.YtklkhegeeglfbaaGreatDoor
namespace Go.Proofs.YtklkhegeeglfbaaGreatDoor
open Go.RowKit Go.Maps

theorem cutPrefix_v (s q : Txt) (w : World) : Calls Tryz.prog 64 #[str s, str q] w fun e w' => e = .returned (.tuple #[str (Lib.trimPrefix s q), .bool (Lib.hasPrefix s q)]) ∧ w' = w := by
  simpa using Tryz.strings_CutPrefix ⟨s.toArray⟩ ⟨q.toArray⟩ w
theorem cutSuffix_v (s q : Txt) (w : World) (hs : s.length ≤ 9223372036854775807) : Calls Tryz.prog 70 #[str s, str q] w fun e w' => e = .returned (.tuple #[str (Lib.trimSuffix s q), .bool (Lib.hasSuffix s q)]) ∧ w' = w := by
  simpa using Tryz.strings_CutSuffix ⟨s.toArray⟩ ⟨q.toArray⟩ w hs
theorem cut_v (s q : Txt) (w : World) (hs : s.length < 4294967281) (hE : ∃ m, w.cell? ⟨1, 0, none⟩ = some (.int .i64 m)) : Calls Tryz.prog 44 #[str s, str q] w fun e w' => e = .returned (.tuple #[str (Lib.cut s q).1, str (Lib.cut s q).2.1, .bool (Lib.cut s q).2.2]) ∧ ∃ n, w' = w.drewN n := by
  obtain ⟨m, hm⟩ := hE
  simpa using Tryz.strings_Cut ⟨s.toArray⟩ ⟨q.toArray⟩ m w hs hm

set_option maxRecDepth 100000 in
set_option maxHeartbeats 2000000 in
theorem parseField_v (p : Txt) (w : World) (hp : p.length ≤ 4294967280) (hT : Types w) :
    Calls Tryz.prog 45 #[str p] w fun e w' => ∃ x : FieldA, e = .returned (.tuple #[.agg #[str x.name, .int .i64 x.type, .bool x.opt], .bool (sfieldB p).isSome]) ∧ (∀ y, sfieldB p = some y → x = y) ∧ Keeps (fun _ => False) w w' := by
  obtain ⟨D, HD⟩ : ∃ D, Hid (sfieldB p = D) := ⟨_, rfl⟩
  have HSF := hide (sfield_eq p)
  rw [unhide HD] at HSF
  rw [unhide HD]
  obtain ⟨k, HKK⟩ : ∃ k, Hid (runB p = k) := ⟨_, rfl⟩
  have hkl : k ≤ p.length := by rw [← unhide HKK]; exact scan_le _ _ _ (by omega)
  have HR := hide (run_v p (by omega) (w.alloc (.cells #[str [], .int .i64 0, .bool false] 69)))
  rw [unhide HKK] at HR
  have HKB : Hid (Keeps (fun _ => False) w (w.alloc (.cells #[str [], .int .i64 0, .bool false] 69))) := (Keeps.refl _ _).alloc _
  have HT1 := hide (hT.keepF (unhide HKB))
  have hblk : (w.alloc (.cells #[str [], .int .i64 0, .bool false] 69)).heap[w.heap.size]? = some (.cells #[str [], .int .i64 0, .bool false] 69 (0, 0)) := heap_alloc_new w _
  have HBLK := hide hblk
  have hx1 : (ByteArray.mk p.toArray).extract k p.length = ⟨(p.drop k).toArray⟩ := by rw [ext_str, List.take_of_length_le (by simp)]
  have HCP := hide (cutPrefix_v (p.drop k) [58] (w.alloc (.cells #[str [], .int .i64 0, .bool false] 69)))
  have HP8 := hide (pre58 p k)
  rw [(unhide HP8).1] at HCP
  have hk0' : (k : Int) ≤ (p.length : Int) := by omega
  clear hT hblk
  go_enter Tryz.func45, Tryz.ntmps45
  go_wp2_with fail
  refine (unhide HR).mono ?_
  rintro e w1 ⟨rfl, rfl⟩
  go_wp2_with fail
  refine (unhide HCP).mono ?_
  rintro e w1 ⟨rfl, rfl⟩
  clear HR HCP
  by_cases h58 : p[k]? = some 58
  · rw [(unhide HP8).2 h58, decide_eq_true h58]
    by_cases hk0 : k = 0
    · have HE : Hid (D = none) := by show _ = _; rw [← unhide HSF]; unfold sfieldP; rw [unhide HKK, if_pos (.inl hk0)]
      subst hk0
      clear h58
      go_wp2_with fail
      refine bodyPost_ret (v := .tuple #[.agg #[str [], .int .i64 0, .bool false], .bool false]) (by simp [results, go_sem]) rfl ?_
      exact ⟨noField, by rw [unhide HE]; rfl, fun y hy => (by rw [unhide HE] at hy; cases hy), unhide HKB⟩
    · obtain ⟨T, HTT⟩ : ∃ T : Txt, Hid (p.drop (k + 1) = T) := ⟨_, hide rfl⟩
      obtain ⟨W, HWW⟩ : ∃ W : Txt, Hid ((if isOpt T then T.dropLast else T) = W) := ⟨_, hide rfl⟩
      have HE : Hid (D = match typeW W with | none => none | some ty => some ⟨p.take k, ty, isOpt T⟩) := by
        show _ = _
        rw [← unhide HSF]
        unfold sfieldP
        rw [unhide HKK, if_neg (by simp [hk0, h58]), unhide HTT, unhide HWW]
        rfl
      have hTl : T.length ≤ 4294967280 := by rw [← unhide HTT]; simp; omega
      have HCS := hide (cutSuffix_v T [63] (w.alloc (.cells #[str [], .int .i64 0, .bool false] 69)) (by omega))
      rw [(suf63 T).1, (suf63 T).2, unhide HWW] at HCS
      have HTC := hide (typeCalled_v W _ (unhide HT1))
      obtain ⟨nm, HNM⟩ : ∃ nm : Txt, Hid (p.take k = nm) := ⟨_, hide rfl⟩
      rw [unhide HNM] at HE
      have hnl : nm.length ≤ 4294967280 := by rw [← unhide HNM]; simp; omega
      have hx2 : (ByteArray.mk p.toArray).extract 0 k = ⟨nm.toArray⟩ := by rw [ext_str, ← unhide HNM]; simp
      have HCL := hide (clone_v nm (by omega) (w.alloc (.cells #[str [], .int .i64 0, .bool false] 69)))
      have hk1 : ((k : Int) == 0) = false := by simp; omega
      have hk2 : (0 : Int) ≤ (k : Int) := by omega
      rw [unhide HTT]
      generalize isOpt T = O at *
      generalize typeW W = Y at *
      clear h58 hk0
      go_wp2_with fail
      refine (unhide HCS).mono ?_
      rintro e w1 ⟨rfl, rfl⟩
      go_wp2_with fail
      refine (unhide HTC).mono ?_
      rintro e w1 ⟨rfl, rfl⟩
      go_wp2_with fail
      refine (unhide HCL).mono ?_
      rintro e w4 ⟨rfl, hk4⟩
      have hb4 : w4.heap[w.heap.size]? = some (.cells #[str [], .int .i64 0, .bool false] 69 (0, 0)) := by rw [hk4.block _ (lt_of_block (unhide HBLK)) id]; exact unhide HBLK
      have hs := set3 hb4 (str nm) (.int .i64 (Y.getD 0)) (.bool O)
      have f0 := frozen_of_blk hb4 0
      have f1 := frozen_of_blk hb4 1
      have f2 := frozen_of_blk hb4 2
      have q0 : w4.cell? ⟨w.heap.size, 0, none⟩ = some (str []) := by rw [cell_of_blk hb4]; rfl
      have q1 : w4.cell? ⟨w.heap.size, 1, none⟩ = some (.int .i64 0) := by rw [cell_of_blk hb4]; rfl
      have q2 : w4.cell? ⟨w.heap.size, 2, none⟩ = some (.bool false) := by rw [cell_of_blk hb4]; rfl
      obtain ⟨⟨r0, r1, r2⟩, hks⟩ := hs
      have HK4 := hide (((unhide HKB).trans hk4).narrow (F := fun q => q = w.heap.size) hks (fun q e => by omega))
      have hlt4 := lt_of_block hb4
      clear hk4 hb4 hks HCS HTC HCL
      go_wp2_with fail
      refine bodyPost_ret (v := .tuple #[.agg #[str nm, .int .i64 (Y.getD 0), .bool O], .bool Y.isSome]) (by simp [results, go_sem, r0, r1, r2]) rfl ?_
      refine ⟨⟨nm, Y.getD 0, O⟩, ?_, fun y hy => ?_, unhide HK4⟩
      · rw [unhide HE]; cases Y <;> rfl
      · rw [unhide HE] at hy; cases Y with
        | none => cases hy
        | some ty => simpa using hy
  · rw [decide_eq_false h58]
    have HE : Hid (D = none) := by show _ = _; rw [← unhide HSF]; unfold sfieldP; rw [unhide HKK, if_pos (.inr h58)]
    clear h58
    go_wp2_with fail
    all_goals
      refine bodyPost_ret (v := .tuple #[.agg #[str [], .int .i64 0, .bool false], .bool false]) (by simp [results, go_sem]) rfl ?_
      exact ⟨noField, by rw [unhide HE]; rfl, fun y hy => (by rw [unhide HE] at hy; cases hy), unhide HKB⟩
end Go.Proofs.YtklkhegeeglfbaaGreatDoor
