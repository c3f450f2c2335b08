import Derived.Test.YtonodcmbbgpjjaaDoorJs
namespace Go.Proofs.YtonodcmbbgpjjaaDoor
open Go.RowKit Go.Maps
set_option maxRecDepth 100000 in
set_option maxHeartbeats 4000000 in
theorem step20_v {w0 w : World} {b : Nat} {sv rv : Value} {m : MS} (h : MR w0 w b sv rv m) (N : Nat) (s : Txt) {k : Nat} (hk : m.st.length = k + 1) (hn : m.here = true → N < m.vals.length) :
    Calls Tryd.prog 44 #[.pointer (some ⟨b, 0, none⟩), ValA.v ⟨20, (N : Int), s⟩] w fun e w' => e = .returned (.tuple #[]) ∧ MR w0 w' b sv rv ⟨m.st.take k, (setR m N (topV m.st)).1, (setR m N (topV m.st)).2⟩ ∧ Keeps (Own b rv) w w' := by
  have HKA := hide (kAlloc w (.cells #[.int .i64 20, .int .i64 (N : Int), str s] 59))
  have HM := hide (h.keepF (unhide HKA))
  have HX := hide (heap_alloc_new w (.cells #[.int .i64 20, .int .i64 (N : Int), str s] 59))
  have HB := hide h.run.lt
  have HT := hide (top_get hk)
  have HKK := hide hk
  have HRL := hide (fun q e => (h.rlt q e).2)
  generalize topV m.st = T at *
  have HQ2 := hide (fun (W : World) (m3 : MR w0 W b sv rv ⟨m.st.take k, m.here, m.vals⟩) => set_v m3 N T hn)
  unfold ValA.v
  clear h hk
  go_enter Tryd.func44, Tryd.ntmps44
  go_wp2_with fail
  generalize w.alloc (.cells #[.int .i64 20, .int .i64 (N : Int), str s] 59) = W at *
  have p1 : w.heap.size < W.heap.size := lt_of_block (unhide HX)
  have y0 : W.cell? ⟨w.heap.size, 1, none⟩ = some (.int .i64 (N : Int)) := (cell_of_blk (unhide HX) _).trans rfl
  have HD := hide (Keeps.refl (fun _ => False) W).drew
  have p2 := Nat.lt_of_lt_of_le p1 (unhide HD).size
  have HY : Hid (W.drew.cell? ⟨w.heap.size, 1, none⟩ = some (.int .i64 (N : Int))) := ((unhide HD).cell p1 id).trans y0
  have HMD := hide ((unhide HM).keepF (unhide HD))
  go_region_held3 (fun w' => w'.cell? ⟨w.heap.size, 1, none⟩ = some (.int .i64 (N : Int)))
    (first | with_reducible exact f4 | with_reducible exact f2 | (go_keep; done) | assumption)
    (first
      | (go_at_call 66; refine ((unhide HQ2) _ m2).mono ?_; rintro e w4 ⟨rfl, hm4, hk4⟩; have f4 := (hk4.cell (o := 1) q2 (fun q => q.elim (fun q => by have := unhide HB; omega) (fun q => by have := (unhide HRL) _ q; omega))).trans f2)
      | (go_at_call 43; refine (pop_v (unhide HMD).run (unhide HKK) (unhide HT)).mono ?_; rintro e w2 ⟨rfl, hr2, hk2⟩; have q2 := Nat.lt_of_lt_of_le p2 hk2.size; have f2 := (hk2.cell (o := 1) p2 (by have := unhide HB; omega)).trans (unhide HY); have m2 := (unhide HMD).stack hr2 hk2))
  go_wp2_with fail
  go_end0
  exact ⟨rfl, hm4, ((((unhide HKA).trans (unhide HD)).any.trans (hk2.mono fun q _ e => Or.inl e))).trans hk4⟩
set_option maxRecDepth 100000 in
set_option maxHeartbeats 4000000 in
theorem step21_v {w0 w : World} {b : Nat} {sv rv : Value} {m : MS} (S : List FieldA) (h : MR w0 w b sv rv m) (hS : FldsAt w0 sv S) (N : Nat) (s : Txt) {k : Nat} (hk : m.st.length = k + 1) (hn : m.here = true → N < m.vals.length) (hns : N < S.length) :
    Calls Tryd.prog 44 #[.pointer (some ⟨b, 0, none⟩), ValA.v ⟨21, (N : Int), s⟩] w fun e w' => e = .returned (.tuple #[]) ∧ MR w0 w' b sv rv ⟨m.st.take k, (setR m N (numV (wrap64 ((loadV S m N).n + (topV m.st).n)))).1, (setR m N (numV (wrap64 ((loadV S m N).n + (topV m.st).n)))).2⟩ ∧ Keeps (Own b rv) w w' := by
  have HKA := hide (kAlloc w (.cells #[.int .i64 21, .int .i64 (N : Int), str s] 59))
  have HM := hide (h.keepF (unhide HKA))
  have HX := hide (heap_alloc_new w (.cells #[.int .i64 21, .int .i64 (N : Int), str s] 59))
  have HB := hide h.run.lt
  have HT := hide (top_get hk)
  have HKK := hide hk
  have HRL := hide (fun q e => (h.rlt q e).2)
  generalize topV m.st = T at *
  have HQ2 := hide (fun (W : World) (m3 : MR w0 W b sv rv ⟨m.st.take k, m.here, m.vals⟩) => add_v S m3 hS N T hn hns)
  unfold ValA.v
  clear h hk
  go_enter Tryd.func44, Tryd.ntmps44
  go_wp2_with fail
  generalize w.alloc (.cells #[.int .i64 21, .int .i64 (N : Int), str s] 59) = W at *
  have p1 : w.heap.size < W.heap.size := lt_of_block (unhide HX)
  have y0 : W.cell? ⟨w.heap.size, 1, none⟩ = some (.int .i64 (N : Int)) := (cell_of_blk (unhide HX) _).trans rfl
  have HD := hide (Keeps.refl (fun _ => False) W).drew
  have p2 := Nat.lt_of_lt_of_le p1 (unhide HD).size
  have HY : Hid (W.drew.cell? ⟨w.heap.size, 1, none⟩ = some (.int .i64 (N : Int))) := ((unhide HD).cell p1 id).trans y0
  have HMD := hide ((unhide HM).keepF (unhide HD))
  go_region_held3 (fun w' => w'.cell? ⟨w.heap.size, 1, none⟩ = some (.int .i64 (N : Int)))
    (first | with_reducible exact f4 | with_reducible exact f2 | (go_keep; done) | assumption)
    (first
      | (go_at_call 67; refine ((unhide HQ2) _ m2).mono ?_; rintro e w4 ⟨rfl, hm4, hk4⟩; have f4 := (hk4.cell (o := 1) q2 (fun q => q.elim (fun q => by have := unhide HB; omega) (fun q => by have := (unhide HRL) _ q; omega))).trans f2)
      | (go_at_call 43; refine (pop_v (unhide HMD).run (unhide HKK) (unhide HT)).mono ?_; rintro e w2 ⟨rfl, hr2, hk2⟩; have q2 := Nat.lt_of_lt_of_le p2 hk2.size; have f2 := (hk2.cell (o := 1) p2 (by have := unhide HB; omega)).trans (unhide HY); have m2 := (unhide HMD).stack hr2 hk2))
  go_wp2_with fail
  go_end0
  exact ⟨rfl, hm4, ((((unhide HKA).trans (unhide HD)).any.trans (hk2.mono fun q _ e => Or.inl e))).trans hk4⟩
set_option maxRecDepth 100000 in
set_option maxHeartbeats 4000000 in
theorem step22_v {w0 w : World} {b : Nat} {sv rv : Value} {m : MS} (h : MR w0 w b sv rv m) (N : Nat) (s : Txt) (hn : m.here = true → N < m.vals.length) :
    Calls Tryd.prog 44 #[.pointer (some ⟨b, 0, none⟩), ValA.v ⟨22, (N : Int), s⟩] w fun e w' => e = .returned (.tuple #[]) ∧ MR w0 w' b sv rv ⟨m.st, (setR m N zV).1, (setR m N zV).2⟩ ∧ Keeps (Own b rv) w w' := by
  have HKA := hide (kAlloc w (.cells #[.int .i64 22, .int .i64 (N : Int), str s] 59))
  have HQ := hide (set_v (h.keepF (unhide HKA)) N zV hn)
  rw [show zV.v = .agg #[.int .i64 0, .int .i64 0, .string ⟨#[]⟩] from rfl] at HQ
  unfold ValA.v
  clear h
  go_enter Tryd.func44, Tryd.ntmps44
  go_wp2_with fail
  refine (unhide HQ).mono ?_
  rintro e w1 ⟨rfl, hm1, hk1⟩
  have HM1 := hide hm1
  have HK1 := hide hk1
  clear hm1 hk1 HQ
  go_wp2_with fail
  go_end0
  exact ⟨rfl, unhide HM1, (unhide HKA).any.trans (unhide HK1)⟩
set_option maxRecDepth 100000 in
set_option maxHeartbeats 4000000 in
theorem step23_v {w0 w : World} {b : Nat} {sv rv : Value} {m : MS} (S : List FieldA) (h : MR w0 w b sv rv m) (hT : Types w0) (hS : FldsAt w0 sv S) (hz : errS S = 0) (n : Int) (s : Txt) :
    Calls Tryd.prog 44 #[.pointer (some ⟨b, 0, none⟩), ValA.v ⟨23, n, s⟩] w fun e w' => e = .returned (.tuple #[]) ∧ (∃ rv', MR w0 w' b sv rv' (if m.here then m else ⟨m.st, true, S.map zeroV⟩)) ∧ Keeps (Own b rv) w w' := by
  have HKA := hide (kAlloc w (.cells #[.int .i64 23, .int .i64 n, str s] 59))
  have HQ := hide (create_v S (h.keepF (unhide HKA)) hT hS hz)
  generalize (if m.here = true then m else (⟨m.st, true, S.map zeroV⟩ : MS)) = G at *
  unfold ValA.v
  clear h
  go_enter Tryd.func44, Tryd.ntmps44
  go_wp2_with fail
  refine (unhide HQ).mono ?_
  rintro e w1 ⟨rfl, hm1, hk1⟩
  have HM1 := hide hm1
  have HK1 := hide hk1
  clear hm1 hk1 HQ
  go_wp2_with fail
  go_end0
  exact ⟨rfl, unhide HM1, (unhide HKA).any.trans (unhide HK1)⟩
theorem RunAt.rowed {w : World} {b : Nat} {sv rv : Value} {m : MS} (h : RunAt w b sv rv m) (hh : Bool) (rv' : Value) (vals : List ValA) : RunAt ((w.setCell ⟨b, 1, none⟩ (.bool hh)).setCell ⟨b, 2, none⟩ rv') b sv rv' ⟨m.st, hh, vals⟩ := by
  obtain ⟨cur, hB, hs⟩ := h.blk
  have hE := heap_setCell_at (o := 2) (heap_setCell_at (o := 1) hB (.bool hh)) rv'
  have hq : ∀ o, o ≠ 1 → o ≠ 2 → ((w.setCell ⟨b, 1, none⟩ (.bool hh)).setCell ⟨b, 2, none⟩ rv').cell? ⟨b, o, none⟩ = w.cell? ⟨b, o, none⟩ := fun o h1 h2 => by
    rw [cell_of_blk hE, cell_of_blk hB, Array.getElem?_setIfInBounds_ne (Ne.symm h2), Array.getElem?_setIfInBounds_ne (Ne.symm h1)]
  refine ⟨⟨_, hE, by simpa using hs⟩, (hq 0 (by omega) (by omega)).trans h.c0, ?_, ?_, (hq 51 (by omega) (by omega)).trans h.ch, fun i v hv => ⟨(hq _ (by omega) (by omega)).trans (h.stk i v hv).1, (hq _ (by omega) (by omega)).trans (h.stk i v hv).2.1, (hq _ (by omega) (by omega)).trans (h.stk i v hv).2.2⟩, h.len⟩
  · rw [cell_of_blk hE, Array.getElem?_setIfInBounds_ne (by omega)]; simp [hs]
  · rw [cell_of_blk hE]; simp [hs]
set_option maxRecDepth 100000 in
set_option maxHeartbeats 4000000 in
theorem step24_v {w0 w : World} {b : Nat} {sv rv : Value} {m : MS} (h : MR w0 w b sv rv m) (n : Int) (s : Txt) :
    Calls Tryd.prog 44 #[.pointer (some ⟨b, 0, none⟩), ValA.v ⟨24, n, s⟩] w fun e w' => e = .returned (.tuple #[]) ∧ (∃ rv', MR w0 w' b sv rv' ⟨m.st, false, []⟩) ∧ Keeps (Own b rv) w w' := by
  have HKA := hide (kAlloc w (.cells #[.int .i64 24, .int .i64 n, str s] 59))
  have hM := h.keepF (unhide HKA)
  have HM := hide hM
  obtain ⟨cur, hB, hs⟩ := hM.run.blk
  have z1 := frozen_of_blk hB 1
  have z2 := frozen_of_blk hB 2
  have c1 := hM.run.c1
  have c2 := hM.run.c2
  have hb1 := hM.run.lt
  unfold ValA.v
  clear h hM hB hs
  go_enter Tryd.func44, Tryd.ntmps44
  go_wp2_with fail
  go_end0
  have hM := unhide HM
  have ko : Keeps (fun q => q = b) (w.alloc (.cells #[.int .i64 24, .int .i64 n, str s] 59)) (((w.alloc (.cells #[.int .i64 24, .int .i64 n, str s] 59)).setCell ⟨b, 1, none⟩ (.bool false)).setCell ⟨b, 2, none⟩ (.slice none 0 0)) := Keeps.setCell (F := fun q => q = b) (p := ⟨b, 2, none⟩) (Keeps.setCell (F := fun q => q = b) (p := ⟨b, 1, none⟩) (Keeps.refl (fun q => q = b) _) (fun _ => rfl) _) (fun _ => rfl) _
  refine ⟨rfl, ⟨.slice none 0 0, ⟨hM.run.rowed false (.slice none 0 0) [], hM.kept.then ko (fun i hi e => by have := hM.new; omega), hM.new, fun q => (by cases q), fun _ => ⟨rfl, ⟨⟨_, _, rfl⟩, fun h0 => by simp at h0, fun ao m cap e => by simp at e; omega⟩⟩, fun q e => by simp [Value.ownBlock] at e⟩⟩, (unhide HKA).any.trans (ko.mono fun q _ e => Or.inl e)⟩
end Go.Proofs.YtonodcmbbgpjjaaDoor
