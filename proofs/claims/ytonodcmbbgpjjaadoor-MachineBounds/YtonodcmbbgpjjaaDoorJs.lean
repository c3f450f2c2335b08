import Derived.Test.YtonodcmbbgpjjaaDoorJr
namespace Go.Proofs.YtonodcmbbgpjjaaDoor
open Go.RowKit Go.Maps
set_option maxRecDepth 100000 in
set_option maxHeartbeats 2000000 in
theorem told_v {w0 w : World} {b : Nat} {sv rv : Value} {m : MS} (S : List FieldA) (h : MR w0 w b sv rv m) (hS : FldsAt w0 sv S) (x : ValA) (hx : x.kind ∈ ([1, 2, 3, 4, 5, 6, 7] : List Int)) (hn : x.kind = 5 ∨ x.kind = 6 → 0 ≤ x.n ∧ x.n.toNat < S.length ∧ (m.here = true → x.n.toNat < m.vals.length)) :
    Calls Tryd.prog 69 #[.pointer (some ⟨b, 0, none⟩), x.v] w fun e w' => e = .returned (toldV S x m).v ∧ Keeps (fun _ => False) w w' := by
  obtain ⟨o, n, s⟩ := x
  simp only at hx hn
  have HKA := hide ((kAlloc w (.cells #[.int .i64 o, .int .i64 n, str s] 59)).alloc (.cells #[.int .i64 0, .int .i64 0, .string ⟨#[]⟩] 67))
  have hX := heap_alloc_new (w.alloc (.cells #[.int .i64 o, .int .i64 n, str s] 59)) (.cells #[.int .i64 0, .int .i64 0, .string ⟨#[]⟩] 67)
  rw [show (w.alloc (.cells #[.int .i64 o, .int .i64 n, str s] 59)).heap.size = w.heap.size + 1 by simp] at hX
  have HX := hide hX
  have HM := hide (h.keepF (unhide HKA))
  have hb := (unhide HM).run.lt
  have c1 := (unhide HM).run.c1
  have HB := hide h.run.lt
  clear hX h
  unfold ValA.v
  simp only [List.mem_cons, List.not_mem_nil, or_false] at hx
  rcases hx with rfl | rfl | rfl | rfl | rfl | rfl | rfl
  · rw [show toldV S ⟨1, n, s⟩ m = numV n from rfl]
    go_enter Tryd.func69, Tryd.ntmps69
    go_wp2_with fail
    refine (number_v n _).mono ?_
    rintro e w1 ⟨rfl, hk1⟩
    generalize hx : numV n = x at *
    have HXE := hide hx
    clear hx
    obtain ⟨z0, z1, z2, y0, y1, y2, s0, s1, s2⟩ := res_facts (unhide HX) hk1 x
    have HK := hide (((unhide HKA).trans hk1).fresh (by omega) (keeps_set3 w1 (w.heap.size + 1) (.int .i64 x.kind) (.int .i64 x.n) (str x.s)))
    unfold ValA.v
    clear hk1
    go_wp2_with fail
    refine bodyPost_ret (v := .agg #[.int .i64 x.kind, .int .i64 x.n, str x.s]) (by simp [results, go_sem, s0, s1, s2]) rfl ?_
    exact ⟨by rw [unhide HXE], unhide HK⟩
  · rw [show toldV S ⟨2, n, s⟩ m = truV true from rfl]
    go_enter Tryd.func69, Tryd.ntmps69
    go_wp2_with fail
    refine (truth_v true _).mono ?_
    rintro e w1 ⟨rfl, hk1⟩
    generalize hx : truV true = x at *
    have HXE := hide hx
    clear hx
    obtain ⟨z0, z1, z2, y0, y1, y2, s0, s1, s2⟩ := res_facts (unhide HX) hk1 x
    have HK := hide (((unhide HKA).trans hk1).fresh (by omega) (keeps_set3 w1 (w.heap.size + 1) (.int .i64 x.kind) (.int .i64 x.n) (str x.s)))
    unfold ValA.v
    clear hk1
    go_wp2_with fail
    refine bodyPost_ret (v := .agg #[.int .i64 x.kind, .int .i64 x.n, str x.s]) (by simp [results, go_sem, s0, s1, s2]) rfl ?_
    exact ⟨by rw [unhide HXE], unhide HK⟩
  · rw [show toldV S ⟨3, n, s⟩ m = truV false from rfl]
    go_enter Tryd.func69, Tryd.ntmps69
    go_wp2_with fail
    refine (truth_v false _).mono ?_
    rintro e w1 ⟨rfl, hk1⟩
    generalize hx : truV false = x at *
    have HXE := hide hx
    clear hx
    obtain ⟨z0, z1, z2, y0, y1, y2, s0, s1, s2⟩ := res_facts (unhide HX) hk1 x
    have HK := hide (((unhide HKA).trans hk1).fresh (by omega) (keeps_set3 w1 (w.heap.size + 1) (.int .i64 x.kind) (.int .i64 x.n) (str x.s)))
    unfold ValA.v
    clear hk1
    go_wp2_with fail
    refine bodyPost_ret (v := .agg #[.int .i64 x.kind, .int .i64 x.n, str x.s]) (by simp [results, go_sem, s0, s1, s2]) rfl ?_
    exact ⟨by rw [unhide HXE], unhide HK⟩
  · rw [show toldV S ⟨4, n, s⟩ m = bytV s from rfl]
    go_enter Tryd.func69, Tryd.ntmps69
    go_wp2_with fail
    refine (text_v s _).mono ?_
    rintro e w1 ⟨rfl, hk1⟩
    generalize hx : bytV s = x at *
    have HXE := hide hx
    clear hx
    obtain ⟨z0, z1, z2, y0, y1, y2, s0, s1, s2⟩ := res_facts (unhide HX) hk1 x
    have HK := hide (((unhide HKA).trans hk1).fresh (by omega) (keeps_set3 w1 (w.heap.size + 1) (.int .i64 x.kind) (.int .i64 x.n) (str x.s)))
    unfold ValA.v
    clear hk1
    go_wp2_with fail
    refine bodyPost_ret (v := .agg #[.int .i64 x.kind, .int .i64 x.n, str x.s]) (by simp [results, go_sem, s0, s1, s2]) rfl ?_
    exact ⟨by rw [unhide HXE], unhide HK⟩
  · rw [show toldV S ⟨5, n, s⟩ m = loadV S m n.toNat from rfl]
    obtain ⟨n0, n1, n2⟩ := hn (Or.inl rfl)
    obtain ⟨k, rfl⟩ := Int.eq_ofNat_of_zero_le n0
    rw [Int.toNat_natCast] at n1 n2 ⊢
    have HQ := hide (load_v S (unhide HM) hS k n2 n1)
    go_enter Tryd.func69, Tryd.ntmps69
    go_wp2_with fail
    refine (unhide HQ).mono ?_
    rintro e w1 ⟨rfl, hk1⟩
    clear HQ
    generalize hx : loadV S m k = x at *
    have HXE := hide hx
    clear hx
    obtain ⟨z0, z1, z2, y0, y1, y2, s0, s1, s2⟩ := res_facts (unhide HX) hk1 x
    have HK := hide (((unhide HKA).trans hk1).fresh (by omega) (keeps_set3 w1 (w.heap.size + 1) (.int .i64 x.kind) (.int .i64 x.n) (str x.s)))
    unfold ValA.v
    clear hk1
    go_wp2_with fail
    refine bodyPost_ret (v := .agg #[.int .i64 x.kind, .int .i64 x.n, str x.s]) (by simp [results, go_sem, s0, s1, s2]) rfl ?_
    exact ⟨by rw [unhide HXE], unhide HK⟩
  · rw [show toldV S ⟨6, n, s⟩ m = truV (hasB m n.toNat) from rfl]
    obtain ⟨n0, n1, n2⟩ := hn (Or.inr rfl)
    obtain ⟨k, rfl⟩ := Int.eq_ofNat_of_zero_le n0
    rw [Int.toNat_natCast] at n1 n2 ⊢
    have HQ := hide (has_v (unhide HM) k n2)
    go_enter Tryd.func69, Tryd.ntmps69
    go_wp2_with fail
    refine (unhide HQ).mono ?_
    rintro e w0' ⟨rfl, hk0⟩
    replace HX := hide ((hk0.block _ (lt_of_block (unhide HX)) id).trans (unhide HX))
    replace HKA := hide ((unhide HKA).trans hk0)
    clear HQ hk0
    go_wp2_with fail
    refine (truth_v (hasB m k) _).mono ?_
    rintro e w1 ⟨rfl, hk1⟩
    generalize hx : truV (hasB m k) = x at *
    have HXE := hide hx
    clear hx
    obtain ⟨z0, z1, z2, y0, y1, y2, s0, s1, s2⟩ := res_facts (unhide HX) hk1 x
    have HK := hide (((unhide HKA).trans hk1).fresh (by omega) (keeps_set3 w1 (w.heap.size + 1) (.int .i64 x.kind) (.int .i64 x.n) (str x.s)))
    unfold ValA.v
    clear hk1
    go_wp2_with fail
    refine bodyPost_ret (v := .agg #[.int .i64 x.kind, .int .i64 x.n, str x.s]) (by simp [results, go_sem, s0, s1, s2]) rfl ?_
    exact ⟨by rw [unhide HXE], unhide HK⟩
  · rw [show toldV S ⟨7, n, s⟩ m = truV m.here from rfl]
    go_enter Tryd.func69, Tryd.ntmps69
    go_wp2_with fail
    refine (truth_v m.here _).mono ?_
    rintro e w1 ⟨rfl, hk1⟩
    generalize hx : truV m.here = x at *
    have HXE := hide hx
    clear hx
    obtain ⟨z0, z1, z2, y0, y1, y2, s0, s1, s2⟩ := res_facts (unhide HX) hk1 x
    have HK := hide (((unhide HKA).trans hk1).fresh (by omega) (keeps_set3 w1 (w.heap.size + 1) (.int .i64 x.kind) (.int .i64 x.n) (str x.s)))
    unfold ValA.v
    clear hk1
    go_wp2_with fail
    refine bodyPost_ret (v := .agg #[.int .i64 x.kind, .int .i64 x.n, str x.s]) (by simp [results, go_sem, s0, s1, s2]) rfl ?_
    exact ⟨by rw [unhide HXE], unhide HK⟩
end Go.Proofs.YtonodcmbbgpjjaaDoor
namespace Go.Proofs.YtonodcmbbgpjjaaDoor
open Go.RowKit Go.Maps
theorem take_all (l : List ValA) : l.take (l.length - 0) = l := by simp
theorem top_get {l : List ValA} {n : Nat} (h : l.length = n + 1) : l[n]? = some (topV l) := by
  unfold topV
  rw [h, Nat.add_sub_cancel, List.getElem?_eq_getElem (by omega)]
  rfl
set_option maxRecDepth 100000 in
set_option maxHeartbeats 4000000 in
theorem stepA_v {w0 w : World} {b : Nat} {sv rv : Value} {m : MS} (S : List FieldA) (h : MR w0 w b sv rv m) (hS : FldsAt w0 sv S) (x : ValA) (hx : x.kind ∈ ([1, 2, 3, 4, 5, 6, 7] : List Int)) (hn : x.kind = 5 ∨ x.kind = 6 → 0 ≤ x.n ∧ x.n.toNat < S.length ∧ (m.here = true → x.n.toNat < m.vals.length)) (hl : m.st.length < 16) :
    Calls Tryd.prog 44 #[.pointer (some ⟨b, 0, none⟩), x.v] w fun e w' => e = .returned (.tuple #[]) ∧ MR w0 w' b sv rv ⟨m.st ++ [toldV S x m], m.here, m.vals⟩ ∧ Keeps (fun q => q = b) w w' := by
  have HKA := hide (kAlloc w (.cells #[.int .i64 x.kind, .int .i64 x.n, str x.s] 59))
  have HM := hide (h.keepF (unhide HKA))
  have HQ := hide (told_v S (unhide HM) hS x hx hn)
  have HP := hide (fun (W : World) (q : MR w0 W b sv rv m) => push_v q.run (toldV S x m) hl)
  generalize toldV S x m = T at *
  obtain ⟨o, n, s⟩ := x
  simp only at *
  unfold ValA.v at *
  clear h hn
  simp only [List.mem_cons, List.not_mem_nil, or_false] at hx
  rcases hx with rfl | rfl | rfl | rfl | rfl | rfl | rfl
  all_goals
    go_enter Tryd.func44, Tryd.ntmps44
    go_wp2_with fail
    refine (unhide HQ).mono ?_
    rintro e w1 ⟨rfl, hk1⟩
    have m1 := (unhide HM).keepF hk1
    have HQ2 := hide ((unhide HP) w1 m1)
    have HM1 := hide m1
    have HK1 := hide ((unhide HKA).trans hk1)
    clear HQ HP m1 hk1 HM HKA
    go_wp2_with fail
    refine (unhide HQ2).mono ?_
    rintro e w2 ⟨rfl, hr2, hk2⟩
    have HR2 := hide hr2
    have HK2 := hide hk2
    clear hr2 hk2 HQ2
    go_wp2_with fail
    go_end0
    exact ⟨rfl, (unhide HM1).stack (unhide HR2) (unhide HK2), (unhide HK1).any.trans (unhide HK2)⟩
end Go.Proofs.YtonodcmbbgpjjaaDoor
namespace Go.Proofs.YtonodcmbbgpjjaaDoor
open Go.RowKit Go.Maps
set_option maxRecDepth 100000 in
set_option maxHeartbeats 4000000 in
theorem step8_v {w0 w : World} {b : Nat} {sv rv : Value} {m : MS} (h : MR w0 w b sv rv m) (n : Int) (s : Txt) {k : Nat} (hk : m.st.length = k + 1) :
    Calls Tryd.prog 44 #[.pointer (some ⟨b, 0, none⟩), ValA.v ⟨8, n, s⟩] w fun e w' => e = .returned (.tuple #[]) ∧ MR w0 w' b sv rv ⟨m.st.take k ++ [oneV 8 (topV m.st)], m.here, m.vals⟩ ∧ Keeps (fun q => q = b) w w' := by
  have HKA := hide (kAlloc w (.cells #[.int .i64 8, .int .i64 n, str s] 59))
  have HM := hide (h.keepF (unhide HKA))
  have HX := hide (heap_alloc_new w (.cells #[.int .i64 8, .int .i64 n, str s] 59))
  have HB := hide h.run.lt
  have HL := hide h.run.len
  have HT := hide (top_get hk)
  have HKK := hide hk
  generalize topV m.st = T at *
  unfold ValA.v
  go_enter Tryd.func44, Tryd.ntmps44
  go_wp2_with fail
  generalize w.alloc (.cells #[.int .i64 8, .int .i64 n, str s] 59) = W at *
  have p1 : w.heap.size < W.heap.size := lt_of_block (unhide HX)
  have y0 : W.cell? ⟨w.heap.size, 0, none⟩ = some (.int .i64 8) := (cell_of_blk (unhide HX) _).trans rfl
  have HD := hide (Keeps.refl (fun _ => False) W).drew
  have p2 := Nat.lt_of_lt_of_le p1 (unhide HD).size
  have HY : Hid (W.drew.cell? ⟨w.heap.size, 0, none⟩ = some (.int .i64 8)) := ((unhide HD).cell p1 id).trans y0
  have HTL : Hid ((m.st.take k).length < 16) := by show _ < _; have := unhide HL; have := unhide HKK; simp; omega
  have HMD := hide ((unhide HM).keepF (unhide HD))
  clear h hk
  go_region_held3 (fun w' => w'.cell? ⟨w.heap.size, 0, none⟩ = some (.int .i64 8))
    (first | with_reducible exact f4 | with_reducible exact f3 | with_reducible exact f2 | (go_keep; done) | assumption)
    (first
      | (go_at_call 63; refine (push_v m3.run (oneV 8 T) (unhide HTL)).mono ?_; rintro e w4 ⟨rfl, hr4, hk4⟩; have f4 := (hk4.cell (o := 0) q3 (by have := unhide HB; omega)).trans f3)
      | (go_at_call 64; refine (ofOne_v 8 T _ (Or.inl rfl)).mono ?_; rintro e w3 ⟨rfl, hk3⟩; have q3 := Nat.lt_of_lt_of_le q2 hk3.size; have f3 := (hk3.cell (o := 0) q2 id).trans f2; have m3 := m2.keepF hk3)
      | (go_at_call 43; refine (pop_v (unhide HMD).run (unhide HKK) (unhide HT)).mono ?_; rintro e w2 ⟨rfl, hr2, hk2⟩; have q2 := Nat.lt_of_lt_of_le p2 hk2.size; have f2 := (hk2.cell (o := 0) p2 (by have := unhide HB; omega)).trans (unhide HY); have m2 := (unhide HMD).stack hr2 hk2))
  go_wp2_with fail
  go_end0
  exact ⟨rfl, m3.stack hr4 hk4, ((((unhide HKA).trans (unhide HD)).any.trans hk2).trans hk3.any).trans hk4⟩
set_option maxRecDepth 100000 in
set_option maxHeartbeats 4000000 in
theorem step9_v {w0 w : World} {b : Nat} {sv rv : Value} {m : MS} (h : MR w0 w b sv rv m) (n : Int) (s : Txt) {k : Nat} (hk : m.st.length = k + 1) :
    Calls Tryd.prog 44 #[.pointer (some ⟨b, 0, none⟩), ValA.v ⟨9, n, s⟩] w fun e w' => e = .returned (.tuple #[]) ∧ MR w0 w' b sv rv ⟨m.st.take k ++ [oneV 9 (topV m.st)], m.here, m.vals⟩ ∧ Keeps (fun q => q = b) w w' := by
  have HKA := hide (kAlloc w (.cells #[.int .i64 9, .int .i64 n, str s] 59))
  have HM := hide (h.keepF (unhide HKA))
  have HX := hide (heap_alloc_new w (.cells #[.int .i64 9, .int .i64 n, str s] 59))
  have HB := hide h.run.lt
  have HL := hide h.run.len
  have HT := hide (top_get hk)
  have HKK := hide hk
  generalize topV m.st = T at *
  unfold ValA.v
  go_enter Tryd.func44, Tryd.ntmps44
  go_wp2_with fail
  generalize w.alloc (.cells #[.int .i64 9, .int .i64 n, str s] 59) = W at *
  have p1 : w.heap.size < W.heap.size := lt_of_block (unhide HX)
  have y0 : W.cell? ⟨w.heap.size, 0, none⟩ = some (.int .i64 9) := (cell_of_blk (unhide HX) _).trans rfl
  have HD := hide (Keeps.refl (fun _ => False) W).drew
  have p2 := Nat.lt_of_lt_of_le p1 (unhide HD).size
  have HY : Hid (W.drew.cell? ⟨w.heap.size, 0, none⟩ = some (.int .i64 9)) := ((unhide HD).cell p1 id).trans y0
  have HTL : Hid ((m.st.take k).length < 16) := by show _ < _; have := unhide HL; have := unhide HKK; simp; omega
  have HMD := hide ((unhide HM).keepF (unhide HD))
  clear h hk
  go_region_held3 (fun w' => w'.cell? ⟨w.heap.size, 0, none⟩ = some (.int .i64 9))
    (first | with_reducible exact f4 | with_reducible exact f3 | with_reducible exact f2 | (go_keep; done) | assumption)
    (first
      | (go_at_call 63; refine (push_v m3.run (oneV 9 T) (unhide HTL)).mono ?_; rintro e w4 ⟨rfl, hr4, hk4⟩; have f4 := (hk4.cell (o := 0) q3 (by have := unhide HB; omega)).trans f3)
      | (go_at_call 64; refine (ofOne_v 9 T _ (Or.inr (Or.inl rfl))).mono ?_; rintro e w3 ⟨rfl, hk3⟩; have q3 := Nat.lt_of_lt_of_le q2 hk3.size; have f3 := (hk3.cell (o := 0) q2 id).trans f2; have m3 := m2.keepF hk3)
      | (go_at_call 43; refine (pop_v (unhide HMD).run (unhide HKK) (unhide HT)).mono ?_; rintro e w2 ⟨rfl, hr2, hk2⟩; have q2 := Nat.lt_of_lt_of_le p2 hk2.size; have f2 := (hk2.cell (o := 0) p2 (by have := unhide HB; omega)).trans (unhide HY); have m2 := (unhide HMD).stack hr2 hk2))
  go_wp2_with fail
  go_end0
  exact ⟨rfl, m3.stack hr4 hk4, ((((unhide HKA).trans (unhide HD)).any.trans hk2).trans hk3.any).trans hk4⟩
set_option maxRecDepth 100000 in
set_option maxHeartbeats 4000000 in
theorem step18_v {w0 w : World} {b : Nat} {sv rv : Value} {m : MS} (h : MR w0 w b sv rv m) (n : Int) (s : Txt) {k : Nat} (hk : m.st.length = k + 1) :
    Calls Tryd.prog 44 #[.pointer (some ⟨b, 0, none⟩), ValA.v ⟨18, n, s⟩] w fun e w' => e = .returned (.tuple #[]) ∧ MR w0 w' b sv rv ⟨m.st.take k ++ [oneV 18 (topV m.st)], m.here, m.vals⟩ ∧ Keeps (fun q => q = b) w w' := by
  have HKA := hide (kAlloc w (.cells #[.int .i64 18, .int .i64 n, str s] 59))
  have HM := hide (h.keepF (unhide HKA))
  have HX := hide (heap_alloc_new w (.cells #[.int .i64 18, .int .i64 n, str s] 59))
  have HB := hide h.run.lt
  have HL := hide h.run.len
  have HT := hide (top_get hk)
  have HKK := hide hk
  generalize topV m.st = T at *
  unfold ValA.v
  go_enter Tryd.func44, Tryd.ntmps44
  go_wp2_with fail
  generalize w.alloc (.cells #[.int .i64 18, .int .i64 n, str s] 59) = W at *
  have p1 : w.heap.size < W.heap.size := lt_of_block (unhide HX)
  have y0 : W.cell? ⟨w.heap.size, 0, none⟩ = some (.int .i64 18) := (cell_of_blk (unhide HX) _).trans rfl
  have HD := hide (Keeps.refl (fun _ => False) W).drew
  have p2 := Nat.lt_of_lt_of_le p1 (unhide HD).size
  have HY : Hid (W.drew.cell? ⟨w.heap.size, 0, none⟩ = some (.int .i64 18)) := ((unhide HD).cell p1 id).trans y0
  have HTL : Hid ((m.st.take k).length < 16) := by show _ < _; have := unhide HL; have := unhide HKK; simp; omega
  have HMD := hide ((unhide HM).keepF (unhide HD))
  clear h hk
  go_region_held3 (fun w' => w'.cell? ⟨w.heap.size, 0, none⟩ = some (.int .i64 18))
    (first | with_reducible exact f4 | with_reducible exact f3 | with_reducible exact f2 | (go_keep; done) | assumption)
    (first
      | (go_at_call 63; refine (push_v m3.run (oneV 18 T) (unhide HTL)).mono ?_; rintro e w4 ⟨rfl, hr4, hk4⟩; have f4 := (hk4.cell (o := 0) q3 (by have := unhide HB; omega)).trans f3)
      | (go_at_call 64; refine (ofOne_v 18 T _ (Or.inr (Or.inr rfl))).mono ?_; rintro e w3 ⟨rfl, hk3⟩; have q3 := Nat.lt_of_lt_of_le q2 hk3.size; have f3 := (hk3.cell (o := 0) q2 id).trans f2; have m3 := m2.keepF hk3)
      | (go_at_call 43; refine (pop_v (unhide HMD).run (unhide HKK) (unhide HT)).mono ?_; rintro e w2 ⟨rfl, hr2, hk2⟩; have q2 := Nat.lt_of_lt_of_le p2 hk2.size; have f2 := (hk2.cell (o := 0) p2 (by have := unhide HB; omega)).trans (unhide HY); have m2 := (unhide HMD).stack hr2 hk2))
  go_wp2_with fail
  go_end0
  exact ⟨rfl, m3.stack hr4 hk4, ((((unhide HKA).trans (unhide HD)).any.trans hk2).trans hk3.any).trans hk4⟩
end Go.Proofs.YtonodcmbbgpjjaaDoor
