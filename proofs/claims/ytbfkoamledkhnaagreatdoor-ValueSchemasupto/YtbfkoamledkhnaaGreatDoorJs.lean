import Derived.Test.YtbfkoamledkhnaaGreatDoorZ
import Derived.Test.YtbfkoamledkhnaaGreatDoorRe
import Derived.Test.YtbfkoamledkhnaaGreatDoorJc
namespace Go.Proofs.YtbfkoamledkhnaaGreatDoor
open Go.RowKit Go.Maps

def endB (t : Txt) (a : Nat) : Nat := scan t (fun x => x != 44 && x != 125) a
/-- The value of a field's type that stands at a place of a text, and the place behind it (-1: none does). -/
def valueAtB (f : FieldA) (t : Txt) (a : Nat) : ValA × Int :=
  if f.type = 3 then (if (unquoteB (t.drop a)).2.2 ≠ 0 then (⟨0, 0, []⟩, -1) else (⟨3, 0, (unquoteB (t.drop a)).1⟩, (a + (unquoteB (t.drop a)).2.1 : Nat)))
  else if f.type = 2 then
    (if (t.drop a).take (endB t a - a) = [116, 114, 117, 101] then (⟨2, 1, []⟩, (endB t a : Int))
    else if (t.drop a).take (endB t a - a) = [102, 97, 108, 115, 101] then (⟨2, 0, []⟩, (endB t a : Int)) else (⟨0, 0, []⟩, -1))
  else (if (numberB ((t.drop a).take (endB t a - a))).2 then (⟨1, (numberB ((t.drop a).take (endB t a - a))).1, []⟩, (endB t a : Int)) else (⟨0, 0, []⟩, -1))

theorem unqLoop_n {f : Nat} : ∀ {t b : Txt} {a : Nat} {r : Txt × Nat}, unqLoop f t b a = some r → r.2 ≤ t.length := by
  induction f with
  | zero => intro t b a r h; simp [unqLoop] at h
  | succ f ih =>
    intro t b a r h
    rw [unqLoop] at h
    split at h
    · cases hc : t[a]? with
      | none => rw [hc] at h; simp at h
      | some c =>
        have := get_lt hc
        rw [hc] at h
        simp only at h
        split at h
        · simp at h; subst h; simp; omega
        · split at h
          · cases h
          · exact ih h
    · cases h
theorem unquoteB_n (t : Txt) : (unquoteB t).2.1 ≤ t.length ∧ (unquoteB t).2.2 = 0 ∨ (unquoteB t).2.1 = 0 ∧ (unquoteB t).2.2 = 63 := by
  unfold unquoteB
  split
  · cases h : unqLoop t.length t [] 1 with
    | none => simp
    | some r => have := unqLoop_n h; obtain ⟨b, n⟩ := r; simp; exact this
  · simp

/-- A struct of three cells is written over. -/
theorem set3 {w4 : World} {b : Nat} {c0 c1 c2 : Value} {t : TypeId} (h : w4.heap[b]? = some (.cells #[c0, c1, c2] t (0, 0))) (x y z : Value) :
    ((((w4.setCell ⟨b, 0, none⟩ x).setCell ⟨b, 1, none⟩ y).setCell ⟨b, 2, none⟩ z).cell? ⟨b, 0, none⟩ = some x ∧ (((w4.setCell ⟨b, 0, none⟩ x).setCell ⟨b, 1, none⟩ y).setCell ⟨b, 2, none⟩ z).cell? ⟨b, 1, none⟩ = some y ∧ (((w4.setCell ⟨b, 0, none⟩ x).setCell ⟨b, 1, none⟩ y).setCell ⟨b, 2, none⟩ z).cell? ⟨b, 2, none⟩ = some z) ∧ Keeps (fun q => q = b) w4 (((w4.setCell ⟨b, 0, none⟩ x).setCell ⟨b, 1, none⟩ y).setCell ⟨b, 2, none⟩ z) := by
  have hb := heap_setCell_at (o := 2) (heap_setCell_at (o := 1) (heap_setCell_at (o := 0) h x) y) z
  refine ⟨⟨?_, ?_, ?_⟩, ((keeps_set w4 b 0 x).trans (keeps_set _ b 1 y)).trans (keeps_set _ b 2 z)⟩
  · rw [cell_of_blk hb]; rfl
  · rw [cell_of_blk hb]; rfl
  · rw [cell_of_blk hb]; rfl
theorem ret_vn {x : ValA} {D : ValA × Int} {n : Int} (h : D = (x, n)) : Ending.returned (.tuple #[.agg #[.int .i64 x.kind, .int .i64 x.n, str x.s], .int .i64 n]) = .returned (.tuple #[.agg #[.int .i64 D.1.kind, .int .i64 D.1.n, str D.1.s], .int .i64 D.2]) := by rw [h]

set_option maxRecDepth 100000 in
set_option maxHeartbeats 4000000 in
theorem valueAt_any (f : FieldA) (t : Txt) (a : Nat) (w : World) (ha : a ≤ t.length) (ht : t.length ≤ 1099511627776) :
    Calls Tryz.prog 71 #[f.v, str t, .int .i64 a] w fun e w' => e = .returned (.tuple #[(valueAtB f t a).1.v, .int .i64 (valueAtB f t a).2]) ∧ Keeps (fun _ => False) w w' := by
  unfold FieldA.v ValA.v
  obtain ⟨D, HD⟩ : ∃ D, Hid (valueAtB f t a = D) := ⟨_, rfl⟩
  rw [unhide HD]
  have HKB : Hid (Keeps (fun _ => False) w ((w.alloc (.cells #[str f.name, .int .i64 f.type, .bool f.opt] 56)).alloc (.cells #[.int .i64 0, .int .i64 0, str []] 69))) := ((Keeps.refl _ _).alloc _).alloc _
  by_cases h3 : f.type = 3
  · have hx1 : (ByteArray.mk t.toArray).extract a t.length = ⟨(t.drop a).toArray⟩ := by rw [ext_str, List.take_of_length_le (by simp)]
    have HQ := fun w => hide (unquote_any (t.drop a) w (by simp; omega))
    have hun := unquoteB_n (t.drop a)
    obtain ⟨q, HQQ⟩ : ∃ q, Hid (unquoteB (t.drop a) = q) := ⟨_, rfl⟩
    have HDE : Hid (D = if q.2.2 ≠ 0 then (⟨0, 0, []⟩, -1) else (⟨3, 0, q.1⟩, ((a + q.2.1 : Nat) : Int))) := by show _ = _; rw [← unhide HD, ← unhide HQQ]; unfold valueAtB; rw [if_pos h3]
    rw [unhide HQQ] at hun HQ
    obtain ⟨qs, qn, qe⟩ := q
    simp only at hun HDE HQ
    rw [List.length_drop] at hun
    rw [h3] at HKB ⊢
    go_enter Tryz.func71, Tryz.ntmps71
    go_wp2_with fail
    refine (unhide (HQ _)).mono ?_
    rintro e w4 ⟨rfl, hk4⟩
    have hb4 : w4.heap[w.heap.size + 1]? = some (.cells #[.int .i64 0, .int .i64 0, str []] 69 (0, 0)) := by
      rw [hk4.block _ (by simp) id]
      have q := heap_alloc_new (w.alloc (.cells #[str f.name, .int .i64 3, .bool f.opt] 56)) (.cells #[.int .i64 0, .int .i64 0, str []] 69)
      rw [World.size_alloc] at q
      exact q
    have m0 := cell_of_blk hb4 0
    have m1 := cell_of_blk hb4 1
    have m2 := cell_of_blk hb4 2
    simp at m0 m1 m2
    have g0 := frozen_of_blk hb4 0
    have g1 := frozen_of_blk hb4 1
    have g2 := frozen_of_blk hb4 2
    have HK4 := hide ((unhide HKB).trans hk4)
    have H4 := hide hb4
    clear hk4 hb4 HQ
    rcases hun with ⟨hn, rfl⟩ | ⟨rfl, rfl⟩
    · have HE9 : Hid (D = (⟨3, 0, qs⟩, ((a + qn : Nat) : Int))) := by show _ = _; rw [unhide HDE]; rfl
      obtain ⟨⟨s0, s1, s2⟩, hks⟩ := set3 (unhide H4) (.int .i64 3) (.int .i64 0) (str qs)
      have HKS := hide hks
      clear hks
      go_wp2_with fail
      refine bodyPost_ret (v := .tuple #[.agg #[.int .i64 3, .int .i64 0, str qs], .int .i64 ((a + qn : Nat) : Int)]) (by simp [results, go_sem, s0, s1, s2]) rfl ?_
      exact ⟨ret_vn (x := ⟨3, 0, qs⟩) (unhide HE9), (unhide HK4).narrow (unhide HKS) (fun q e => by omega)⟩
    · have HE9 : Hid (D = (⟨0, 0, []⟩, -1)) := by show _ = _; rw [unhide HDE]; rfl
      obtain ⟨⟨s0, s1, s2⟩, hks⟩ := set3 (unhide H4) (.int .i64 0) (.int .i64 0) (str [])
      have HKS := hide hks
      clear hks
      go_wp2_with fail
      refine bodyPost_ret (v := .tuple #[.agg #[.int .i64 0, .int .i64 0, str []], .int .i64 (-1)]) (by simp [results, go_sem, s0, s1, s2]) rfl ?_
      exact ⟨ret_vn (x := ⟨0, 0, []⟩) (unhide HE9), (unhide HK4).narrow (unhide HKS) (fun q e => by omega)⟩
  · have h3' : (f.type == 3) = false := by simpa using h3
    obtain ⟨en, HEN⟩ : ∃ en, Hid (endB t a = en) := ⟨_, rfl⟩
    have hen : a ≤ en ∧ en ≤ t.length := by rw [← unhide HEN]; exact ⟨scan_ge _ _ _, scan_le _ _ _ ha⟩
    have HQ := fun w => hide (ending_any t a ht w)
    rw [show scan t (fun x => x != 44 && x != 125) a = en from unhide HEN] at HQ
    have hx1 : (ByteArray.mk t.toArray).extract a en = ⟨((t.drop a).take (en - a)).toArray⟩ := ext_str t a en
    obtain ⟨s, HS⟩ : ∃ s, Hid ((t.drop a).take (en - a) = s) := ⟨_, rfl⟩
    rw [unhide HS] at hx1
    obtain ⟨he1, he2⟩ := hen
    have he1' : (a : Int) ≤ (en : Int) := by omega
    have he2' : (en : Int) ≤ (t.length : Int) := by omega
    by_cases h2 : f.type = 2
    · have HDE : Hid (D = if s = [116, 114, 117, 101] then (⟨2, 1, []⟩, (en : Int)) else if s = [102, 97, 108, 115, 101] then (⟨2, 0, []⟩, (en : Int)) else (⟨0, 0, []⟩, -1)) := by
        show _ = _; rw [← unhide HD]; unfold valueAtB; rw [if_neg h3, if_pos h2, unhide HEN, unhide HS]
      rw [h2] at HKB h3' ⊢
      clear h3 h2
      go_enter Tryz.func71, Tryz.ntmps71
      go_wp2_with fail
      refine (unhide (HQ _)).mono ?_
      rintro e w4 ⟨rfl, rfl⟩
      go_wp2_with fail
      · have hc : (s == [116, 114, 117, 101]) = true := by assumption
        have HE9 : Hid (D = (⟨2, 1, []⟩, (en : Int))) := by show _ = _; rw [unhide HDE, if_pos (by simpa using hc)]
        refine bodyPost_ret (v := .tuple #[.agg #[.int .i64 2, .int .i64 1, str []], .int .i64 (en : Int)]) (by simp [results, go_sem]) rfl ?_
        exact ⟨ret_vn (x := ⟨2, 1, []⟩) (unhide HE9), ((Keeps.refl _ _).alloc _).alloc _⟩
      · have hc : (s == [116, 114, 117, 101]) = false := by assumption
        have hc2 : (s == [102, 97, 108, 115, 101]) = true := by assumption
        have HE9 : Hid (D = (⟨2, 0, []⟩, (en : Int))) := by show _ = _; rw [unhide HDE, if_neg (by simpa using hc), if_pos (by simpa using hc2)]
        refine bodyPost_ret (v := .tuple #[.agg #[.int .i64 2, .int .i64 0, str []], .int .i64 (en : Int)]) (by simp [results, go_sem]) rfl ?_
        exact ⟨ret_vn (x := ⟨2, 0, []⟩) (unhide HE9), ((Keeps.refl _ _).alloc _).alloc _⟩
      · have hc : (s == [116, 114, 117, 101]) = false := by assumption
        have hc2 : (s == [102, 97, 108, 115, 101]) = false := by assumption
        have HE9 : Hid (D = (⟨0, 0, []⟩, -1)) := by show _ = _; rw [unhide HDE, if_neg (by simpa using hc), if_neg (by simpa using hc2)]
        refine bodyPost_ret (v := .tuple #[.agg #[.int .i64 0, .int .i64 0, str []], .int .i64 (-1)]) (by simp [results, go_sem]) rfl ?_
        exact ⟨ret_vn (x := ⟨0, 0, []⟩) (unhide HE9), ((Keeps.refl _ _).alloc _).alloc _⟩
    · have h2' : (f.type == 2) = false := by simpa using h2
      have HDE : Hid (D = if (numberB s).2 then (⟨1, (numberB s).1, []⟩, (en : Int)) else (⟨0, 0, []⟩, -1)) := by
        show _ = _; rw [← unhide HD]; unfold valueAtB; rw [if_neg h3, if_neg h2, unhide HEN, unhide HS]
      have HQ2 := fun w => hide (number_any s w)
      generalize numberB s = N at *
      clear h3 h2
      go_enter Tryz.func71, Tryz.ntmps71
      go_wp2_with fail
      refine (unhide (HQ _)).mono ?_
      rintro e w4 ⟨rfl, rfl⟩
      go_wp2_with fail
      refine (unhide (HQ2 _)).mono ?_
      rintro e w4 ⟨rfl, hk4⟩
      have hb4 : w4.heap[w.heap.size + 1]? = some (.cells #[.int .i64 0, .int .i64 0, str []] 69 (0, 0)) := by
        rw [hk4.block _ (by simp) id]
        have q := heap_alloc_new (w.alloc (.cells #[str f.name, .int .i64 f.type, .bool f.opt] 56)) (.cells #[.int .i64 0, .int .i64 0, str []] 69)
        rw [World.size_alloc] at q
        exact q
      have m0 := cell_of_blk hb4 0
      have m1 := cell_of_blk hb4 1
      have m2 := cell_of_blk hb4 2
      simp at m0 m1 m2
      have g0 := frozen_of_blk hb4 0
      have g1 := frozen_of_blk hb4 1
      have g2 := frozen_of_blk hb4 2
      have HK4 := hide ((unhide HKB).trans hk4)
      have H4 := hide hb4
      clear hk4 hb4 HQ HQ2
      obtain ⟨Nn, Nb⟩ := N
      simp only at HDE ⊢
      cases Nb with
      | true =>
        have HE9 : Hid (D = (⟨1, Nn, []⟩, (en : Int))) := by show _ = _; rw [unhide HDE]; rfl
        obtain ⟨⟨s0, s1, s2⟩, hks⟩ := set3 (unhide H4) (.int .i64 1) (.int .i64 Nn) (str [])
        have HKS := hide hks
        clear hks
        go_wp2_with fail
        refine bodyPost_ret (v := .tuple #[.agg #[.int .i64 1, .int .i64 Nn, str []], .int .i64 (en : Int)]) (by simp [results, go_sem, s0, s1, s2]) rfl ?_
        exact ⟨ret_vn (x := ⟨1, Nn, []⟩) (unhide HE9), (unhide HK4).narrow (unhide HKS) (fun q e => by omega)⟩
      | false =>
        have HE9 : Hid (D = (⟨0, 0, []⟩, -1)) := by show _ = _; rw [unhide HDE]; rfl
        obtain ⟨⟨s0, s1, s2⟩, hks⟩ := set3 (unhide H4) (.int .i64 0) (.int .i64 0) (str [])
        have HKS := hide hks
        clear hks
        go_wp2_with fail
        refine bodyPost_ret (v := .tuple #[.agg #[.int .i64 0, .int .i64 0, str []], .int .i64 (-1)]) (by simp [results, go_sem, s0, s1, s2]) rfl ?_
        exact ⟨ret_vn (x := ⟨0, 0, []⟩) (unhide HE9), (unhide HK4).narrow (unhide HKS) (fun q e => by omega)⟩

end Go.Proofs.YtbfkoamledkhnaaGreatDoor
namespace Go.Proofs.YtbfkoamledkhnaaGreatDoor
open Go.RowKit Go.Maps

theorem cutPrefix_v (s q : Txt) (w : World) : Calls Tryz.prog 90 #[str s, str q] w fun e w' => e = .returned (.tuple #[str (Lib.trimPrefix s q), .bool (Lib.hasPrefix s q)]) ∧ w' = w := by
  simpa using Tryz.strings_CutPrefix ⟨s.toArray⟩ ⟨q.toArray⟩ w
theorem cutSuffix_v (s q : Txt) (w : World) (hs : s.length ≤ 9223372036854775807) : Calls Tryz.prog 91 #[str s, str q] w fun e w' => e = .returned (.tuple #[str (Lib.trimSuffix s q), .bool (Lib.hasSuffix s q)]) ∧ w' = w := by
  simpa using Tryz.strings_CutSuffix ⟨s.toArray⟩ ⟨q.toArray⟩ w hs
theorem cut_v (s q : Txt) (w : World) (hs : s.length < 4294967281) (hE : ∃ m, w.cell? ⟨1, 0, none⟩ = some (.int .i64 m)) : Calls Tryz.prog 49 #[str s, str q] w fun e w' => e = .returned (.tuple #[str (Lib.cut s q).1, str (Lib.cut s q).2.1, .bool (Lib.cut s q).2.2]) ∧ ∃ n, w' = w.drewN n := by
  obtain ⟨m, hm⟩ := hE
  simpa using Tryz.strings_Cut ⟨s.toArray⟩ ⟨q.toArray⟩ m w hs hm

set_option maxRecDepth 100000 in
set_option maxHeartbeats 2000000 in
theorem parseField_v (p : Txt) (w : World) (hp : p.length ≤ 4294967280) (hT : Types w) :
    Calls Tryz.prog 50 #[str p] w fun e w' => ∃ x : FieldA, e = .returned (.tuple #[.agg #[str x.name, .int .i64 x.type, .bool x.opt], .bool (sfieldB p).isSome]) ∧ (∀ y, sfieldB p = some y → x = y) ∧ Keeps (fun _ => False) w w' := by
  obtain ⟨D, HD⟩ : ∃ D, Hid (sfieldB p = D) := ⟨_, rfl⟩
  have HSF := hide (sfield_eq p)
  rw [unhide HD] at HSF
  rw [unhide HD]
  obtain ⟨k, HKK⟩ : ∃ k, Hid (runB p = k) := ⟨_, rfl⟩
  have hkl : k ≤ p.length := by rw [← unhide HKK]; exact scan_le _ _ _ (by omega)
  have HR := hide (run_v p (by omega) (w.alloc (.cells #[str [], .int .i64 0, .bool false] 56)))
  rw [unhide HKK] at HR
  have HKB : Hid (Keeps (fun _ => False) w (w.alloc (.cells #[str [], .int .i64 0, .bool false] 56))) := (Keeps.refl _ _).alloc _
  have HT1 := hide (hT.keepF (unhide HKB))
  have hblk : (w.alloc (.cells #[str [], .int .i64 0, .bool false] 56)).heap[w.heap.size]? = some (.cells #[str [], .int .i64 0, .bool false] 56 (0, 0)) := heap_alloc_new w _
  have HBLK := hide hblk
  have hx1 : (ByteArray.mk p.toArray).extract k p.length = ⟨(p.drop k).toArray⟩ := by rw [ext_str, List.take_of_length_le (by simp)]
  have HCP := hide (cutPrefix_v (p.drop k) [58] (w.alloc (.cells #[str [], .int .i64 0, .bool false] 56)))
  have HP8 := hide (pre58 p k)
  rw [(unhide HP8).1] at HCP
  have hk0' : (k : Int) ≤ (p.length : Int) := by omega
  clear hT hblk
  go_enter Tryz.func50, Tryz.ntmps50
  go_wp2_with fail
  refine (unhide HR).mono ?_
  rintro e w1 ⟨rfl, rfl⟩
  go_wp2_with fail
  refine (unhide HCP).mono ?_
  rintro e w1 ⟨rfl, rfl⟩
  clear HR HCP
  by_cases h58 : p[k]? = some 58
  · rw [(unhide HP8).2 h58, decide_eq_true h58]
    by_cases hk0 : k = 0
    · have HE : Hid (D = none) := by show _ = _; rw [← unhide HSF]; unfold sfieldP; rw [unhide HKK, if_pos (.inl hk0)]
      subst hk0
      clear h58
      go_wp2_with fail
      refine bodyPost_ret (v := .tuple #[.agg #[str [], .int .i64 0, .bool false], .bool false]) (by simp [results, go_sem]) rfl ?_
      exact ⟨noField, by rw [unhide HE]; rfl, fun y hy => (by rw [unhide HE] at hy; cases hy), unhide HKB⟩
    · obtain ⟨T, HTT⟩ : ∃ T : Txt, Hid (p.drop (k + 1) = T) := ⟨_, hide rfl⟩
      obtain ⟨W, HWW⟩ : ∃ W : Txt, Hid ((if isOpt T then T.dropLast else T) = W) := ⟨_, hide rfl⟩
      have HE : Hid (D = match typeW W with | none => none | some ty => some ⟨p.take k, ty, isOpt T⟩) := by
        show _ = _
        rw [← unhide HSF]
        unfold sfieldP
        rw [unhide HKK, if_neg (by simp [hk0, h58]), unhide HTT, unhide HWW]
        rfl
      have hTl : T.length ≤ 4294967280 := by rw [← unhide HTT]; simp; omega
      have HCS := hide (cutSuffix_v T [63] (w.alloc (.cells #[str [], .int .i64 0, .bool false] 56)) (by omega))
      rw [(suf63 T).1, (suf63 T).2, unhide HWW] at HCS
      have HTC := hide (typeCalled_v W _ (unhide HT1))
      obtain ⟨nm, HNM⟩ : ∃ nm : Txt, Hid (p.take k = nm) := ⟨_, hide rfl⟩
      rw [unhide HNM] at HE
      have hnl : nm.length ≤ 4294967280 := by rw [← unhide HNM]; simp; omega
      have hx2 : (ByteArray.mk p.toArray).extract 0 k = ⟨nm.toArray⟩ := by rw [ext_str, ← unhide HNM]; simp
      have HCL := hide (clone_v nm (by omega) (w.alloc (.cells #[str [], .int .i64 0, .bool false] 56)))
      have hk1 : ((k : Int) == 0) = false := by simp; omega
      have hk2 : (0 : Int) ≤ (k : Int) := by omega
      rw [unhide HTT]
      generalize isOpt T = O at *
      generalize typeW W = Y at *
      clear h58 hk0
      go_wp2_with fail
      refine (unhide HCS).mono ?_
      rintro e w1 ⟨rfl, rfl⟩
      go_wp2_with fail
      refine (unhide HTC).mono ?_
      rintro e w1 ⟨rfl, rfl⟩
      go_wp2_with fail
      refine (unhide HCL).mono ?_
      rintro e w4 ⟨rfl, hk4⟩
      have hb4 : w4.heap[w.heap.size]? = some (.cells #[str [], .int .i64 0, .bool false] 56 (0, 0)) := by rw [hk4.block _ (lt_of_block (unhide HBLK)) id]; exact unhide HBLK
      have hs := set3 hb4 (str nm) (.int .i64 (Y.getD 0)) (.bool O)
      have f0 := frozen_of_blk hb4 0
      have f1 := frozen_of_blk hb4 1
      have f2 := frozen_of_blk hb4 2
      have q0 : w4.cell? ⟨w.heap.size, 0, none⟩ = some (str []) := by rw [cell_of_blk hb4]; rfl
      have q1 : w4.cell? ⟨w.heap.size, 1, none⟩ = some (.int .i64 0) := by rw [cell_of_blk hb4]; rfl
      have q2 : w4.cell? ⟨w.heap.size, 2, none⟩ = some (.bool false) := by rw [cell_of_blk hb4]; rfl
      obtain ⟨⟨r0, r1, r2⟩, hks⟩ := hs
      have HK4 := hide (((unhide HKB).trans hk4).narrow (F := fun q => q = w.heap.size) hks (fun q e => by omega))
      have hlt4 := lt_of_block hb4
      clear hk4 hb4 hks HCS HTC HCL
      go_wp2_with fail
      refine bodyPost_ret (v := .tuple #[.agg #[str nm, .int .i64 (Y.getD 0), .bool O], .bool Y.isSome]) (by simp [results, go_sem, r0, r1, r2]) rfl ?_
      refine ⟨⟨nm, Y.getD 0, O⟩, ?_, fun y hy => ?_, unhide HK4⟩
      · rw [unhide HE]; cases Y <;> rfl
      · rw [unhide HE] at hy; cases Y with
        | none => cases hy
        | some ty => simpa using hy
  · rw [decide_eq_false h58]
    have HE : Hid (D = none) := by show _ = _; rw [← unhide HSF]; unfold sfieldP; rw [unhide HKK, if_pos (.inr h58)]
    clear h58
    go_wp2_with fail
    all_goals
      refine bodyPost_ret (v := .tuple #[.agg #[str [], .int .i64 0, .bool false], .bool false]) (by simp [results, go_sem]) rfl ?_
      exact ⟨noField, by rw [unhide HE]; rfl, fun y hy => (by rw [unhide HE] at hy; cases hy), unhide HKB⟩
end Go.Proofs.YtbfkoamledkhnaaGreatDoor
