import Derived.Test.YtonodcmbbgpjjaaDoorJs
namespace Go.Proofs.YtonodcmbbgpjjaaDoor
open Go.RowKit Go.Maps
theorem sec_get {l : List ValA} {k : Nat} (h : l.length = k + 1 + 1) : (l.take (k + 1)).length = k + 1 ∧ (l.take (k + 1))[k]? = some (secV l) ∧ (l.take (k + 1)).take k = l.take k := by
  refine ⟨by simp; omega, ?_, ?_⟩
  · rw [List.getElem?_take, if_pos (by omega)]
    unfold secV
    rw [h, show k + 1 + 1 - 2 = k by omega, List.getElem?_eq_getElem (by omega)]
    rfl
  · rw [List.take_take, Nat.min_eq_left (by omega)]
set_option maxRecDepth 100000 in
set_option maxHeartbeats 4000000 in
theorem step10_v {w0 w : World} {b : Nat} {sv rv : Value} {m : MS} (h : MR w0 w b sv rv m) (n : Int) (s : Txt) {k : Nat} (hk : m.st.length = k + 1 + 1) (hU : (secV m.st).s.length ≤ 20) (hT : (topV m.st).s.length ≤ 20) :
    Calls Tryd.prog 44 #[.pointer (some ⟨b, 0, none⟩), ValA.v ⟨10, n, s⟩] w fun e w' => e = .returned (.tuple #[]) ∧ MR w0 w' b sv rv ⟨m.st.take k ++ [twoV 10 (secV m.st) (topV m.st)], m.here, m.vals⟩ ∧ Keeps (fun q => q = b) w w' := by
  have HKA := hide (kAlloc w (.cells #[.int .i64 10, .int .i64 n, str s] 59))
  have HM := hide (h.keepF (unhide HKA))
  have HX := hide (heap_alloc_new w (.cells #[.int .i64 10, .int .i64 n, str s] 59))
  have HB := hide h.run.lt
  have HL := hide h.run.len
  have HT := hide (top_get hk)
  have HS := hide (sec_get hk)
  have HKK := hide hk
  generalize topV m.st = T at *
  generalize secV m.st = U at *
  unfold ValA.v
  clear h hk
  go_enter Tryd.func44, Tryd.ntmps44
  go_wp2_with fail
  refine (pop_v (unhide HM).run (unhide HKK) (unhide HT)).mono ?_
  rintro e w1 ⟨rfl, hr1, hk1⟩
  have m1 := (unhide HM).stack hr1 hk1
  have HM1 := hide m1
  have HQ := hide (pop_v m1.run (unhide HS).1 (unhide HS).2.1)
  have HK1 := hide ((unhide HKA).any.trans hk1)
  have HX1 := hide ((hk1.block _ (lt_of_block (unhide HX)) (by have := unhide HB; omega)).trans (unhide HX))
  clear HM HKA HX hr1 hk1 m1
  go_wp2_with fail
  refine (unhide HQ).mono ?_
  rintro e w2 ⟨rfl, hr2, hk2⟩
  rw [(unhide HS).2.2] at hr2
  have m2 := (unhide HM1).stack hr2 hk2
  have HM2 := hide m2
  have HK2 := hide ((unhide HK1).trans hk2)
  have HX2 := hide ((hk2.block _ (lt_of_block (unhide HX1)) (by have := unhide HB; omega)).trans (unhide HX1))
  clear HM1 HK1 HX1 hr2 hk2 m2 HQ
  have p1 : w.heap.size < w2.heap.size := lt_of_block (unhide HX2)
  have y0 : w2.cell? ⟨w.heap.size, 0, none⟩ = some (.int .i64 10) := (cell_of_blk (unhide HX2) _).trans rfl
  have HKB := hide ((kAlloc w2 (.cells #[.int .i64 T.kind, .int .i64 T.n, str T.s] 67)).alloc (.cells #[.int .i64 U.kind, .int .i64 U.n, str U.s] 67))
  have HM3 := hide ((unhide HM2).keepF (unhide HKB))
  have HW := hide (fun (W : World) => ofTwo10_v U T W hU hT)
  unfold ValA.v at HW ⊢
  go_wp2_with fail
  refine ((unhide HW) _).mono ?_
  rintro e w3 ⟨rfl, hk3⟩
  have m3 := (unhide HM3).keepF hk3
  have HM4 := hide m3
  have HK3 := hide ((unhide HK2).trans ((unhide HKB).trans hk3).any)
  have HTL : (m.st.take k).length < 16 := by have := unhide HL; have := unhide HKK; simp; omega
  have HP := hide (push_v m3.run (twoV 10 U T) HTL)
  clear HM2 HM3 HW HKB HX2 HK2 hk3 m3 y0 p1 HTL
  unfold ValA.v at HP
  go_wp2_with fail
  refine (unhide HP).mono ?_
  rintro e w4 ⟨rfl, hr4, hk4⟩
  have HR4 := hide hr4
  have HK4 := hide hk4
  clear hr4 hk4 HP
  go_wp2_with fail
  go_end0
  exact ⟨rfl, (unhide HM4).stack (unhide HR4) (unhide HK4), (unhide HK3).trans (unhide HK4)⟩
set_option maxRecDepth 100000 in
set_option maxHeartbeats 4000000 in
theorem step11_v {w0 w : World} {b : Nat} {sv rv : Value} {m : MS} (h : MR w0 w b sv rv m) (n : Int) (s : Txt) {k : Nat} (hk : m.st.length = k + 1 + 1) (hU : (secV m.st).s.length ≤ 20) (hT : (topV m.st).s.length ≤ 20) :
    Calls Tryd.prog 44 #[.pointer (some ⟨b, 0, none⟩), ValA.v ⟨11, n, s⟩] w fun e w' => e = .returned (.tuple #[]) ∧ MR w0 w' b sv rv ⟨m.st.take k ++ [twoV 11 (secV m.st) (topV m.st)], m.here, m.vals⟩ ∧ Keeps (fun q => q = b) w w' := by
  have HKA := hide (kAlloc w (.cells #[.int .i64 11, .int .i64 n, str s] 59))
  have HM := hide (h.keepF (unhide HKA))
  have HX := hide (heap_alloc_new w (.cells #[.int .i64 11, .int .i64 n, str s] 59))
  have HB := hide h.run.lt
  have HL := hide h.run.len
  have HT := hide (top_get hk)
  have HS := hide (sec_get hk)
  have HKK := hide hk
  generalize topV m.st = T at *
  generalize secV m.st = U at *
  unfold ValA.v
  clear h hk
  go_enter Tryd.func44, Tryd.ntmps44
  go_wp2_with fail
  refine (pop_v (unhide HM).run (unhide HKK) (unhide HT)).mono ?_
  rintro e w1 ⟨rfl, hr1, hk1⟩
  have m1 := (unhide HM).stack hr1 hk1
  have HM1 := hide m1
  have HQ := hide (pop_v m1.run (unhide HS).1 (unhide HS).2.1)
  have HK1 := hide ((unhide HKA).any.trans hk1)
  have HX1 := hide ((hk1.block _ (lt_of_block (unhide HX)) (by have := unhide HB; omega)).trans (unhide HX))
  clear HM HKA HX hr1 hk1 m1
  go_wp2_with fail
  refine (unhide HQ).mono ?_
  rintro e w2 ⟨rfl, hr2, hk2⟩
  rw [(unhide HS).2.2] at hr2
  have m2 := (unhide HM1).stack hr2 hk2
  have HM2 := hide m2
  have HK2 := hide ((unhide HK1).trans hk2)
  have HX2 := hide ((hk2.block _ (lt_of_block (unhide HX1)) (by have := unhide HB; omega)).trans (unhide HX1))
  clear HM1 HK1 HX1 hr2 hk2 m2 HQ
  have p1 : w.heap.size < w2.heap.size := lt_of_block (unhide HX2)
  have y0 : w2.cell? ⟨w.heap.size, 0, none⟩ = some (.int .i64 11) := (cell_of_blk (unhide HX2) _).trans rfl
  have HKB := hide ((kAlloc w2 (.cells #[.int .i64 T.kind, .int .i64 T.n, str T.s] 67)).alloc (.cells #[.int .i64 U.kind, .int .i64 U.n, str U.s] 67))
  have HM3 := hide ((unhide HM2).keepF (unhide HKB))
  have HW := hide (fun (W : World) => ofTwo11_v U T W hU hT)
  unfold ValA.v at HW ⊢
  go_wp2_with fail
  refine ((unhide HW) _).mono ?_
  rintro e w3 ⟨rfl, hk3⟩
  have m3 := (unhide HM3).keepF hk3
  have HM4 := hide m3
  have HK3 := hide ((unhide HK2).trans ((unhide HKB).trans hk3).any)
  have HTL : (m.st.take k).length < 16 := by have := unhide HL; have := unhide HKK; simp; omega
  have HP := hide (push_v m3.run (twoV 11 U T) HTL)
  clear HM2 HM3 HW HKB HX2 HK2 hk3 m3 y0 p1 HTL
  unfold ValA.v at HP
  go_wp2_with fail
  refine (unhide HP).mono ?_
  rintro e w4 ⟨rfl, hr4, hk4⟩
  have HR4 := hide hr4
  have HK4 := hide hk4
  clear hr4 hk4 HP
  go_wp2_with fail
  go_end0
  exact ⟨rfl, (unhide HM4).stack (unhide HR4) (unhide HK4), (unhide HK3).trans (unhide HK4)⟩
set_option maxRecDepth 100000 in
set_option maxHeartbeats 4000000 in
theorem step12_v {w0 w : World} {b : Nat} {sv rv : Value} {m : MS} (h : MR w0 w b sv rv m) (n : Int) (s : Txt) {k : Nat} (hk : m.st.length = k + 1 + 1) (hU : (secV m.st).s.length ≤ 20) (hT : (topV m.st).s.length ≤ 20) :
    Calls Tryd.prog 44 #[.pointer (some ⟨b, 0, none⟩), ValA.v ⟨12, n, s⟩] w fun e w' => e = .returned (.tuple #[]) ∧ MR w0 w' b sv rv ⟨m.st.take k ++ [twoV 12 (secV m.st) (topV m.st)], m.here, m.vals⟩ ∧ Keeps (fun q => q = b) w w' := by
  have HKA := hide (kAlloc w (.cells #[.int .i64 12, .int .i64 n, str s] 59))
  have HM := hide (h.keepF (unhide HKA))
  have HX := hide (heap_alloc_new w (.cells #[.int .i64 12, .int .i64 n, str s] 59))
  have HB := hide h.run.lt
  have HL := hide h.run.len
  have HT := hide (top_get hk)
  have HS := hide (sec_get hk)
  have HKK := hide hk
  generalize topV m.st = T at *
  generalize secV m.st = U at *
  unfold ValA.v
  clear h hk
  go_enter Tryd.func44, Tryd.ntmps44
  go_wp2_with fail
  refine (pop_v (unhide HM).run (unhide HKK) (unhide HT)).mono ?_
  rintro e w1 ⟨rfl, hr1, hk1⟩
  have m1 := (unhide HM).stack hr1 hk1
  have HM1 := hide m1
  have HQ := hide (pop_v m1.run (unhide HS).1 (unhide HS).2.1)
  have HK1 := hide ((unhide HKA).any.trans hk1)
  have HX1 := hide ((hk1.block _ (lt_of_block (unhide HX)) (by have := unhide HB; omega)).trans (unhide HX))
  clear HM HKA HX hr1 hk1 m1
  go_wp2_with fail
  refine (unhide HQ).mono ?_
  rintro e w2 ⟨rfl, hr2, hk2⟩
  rw [(unhide HS).2.2] at hr2
  have m2 := (unhide HM1).stack hr2 hk2
  have HM2 := hide m2
  have HK2 := hide ((unhide HK1).trans hk2)
  have HX2 := hide ((hk2.block _ (lt_of_block (unhide HX1)) (by have := unhide HB; omega)).trans (unhide HX1))
  clear HM1 HK1 HX1 hr2 hk2 m2 HQ
  have p1 : w.heap.size < w2.heap.size := lt_of_block (unhide HX2)
  have y0 : w2.cell? ⟨w.heap.size, 0, none⟩ = some (.int .i64 12) := (cell_of_blk (unhide HX2) _).trans rfl
  have HKB := hide ((kAlloc w2 (.cells #[.int .i64 T.kind, .int .i64 T.n, str T.s] 67)).alloc (.cells #[.int .i64 U.kind, .int .i64 U.n, str U.s] 67))
  have HM3 := hide ((unhide HM2).keepF (unhide HKB))
  have HW := hide (fun (W : World) => ofTwo12_v U T W hU hT)
  unfold ValA.v at HW ⊢
  go_wp2_with fail
  refine ((unhide HW) _).mono ?_
  rintro e w3 ⟨rfl, hk3⟩
  have m3 := (unhide HM3).keepF hk3
  have HM4 := hide m3
  have HK3 := hide ((unhide HK2).trans ((unhide HKB).trans hk3).any)
  have HTL : (m.st.take k).length < 16 := by have := unhide HL; have := unhide HKK; simp; omega
  have HP := hide (push_v m3.run (twoV 12 U T) HTL)
  clear HM2 HM3 HW HKB HX2 HK2 hk3 m3 y0 p1 HTL
  unfold ValA.v at HP
  go_wp2_with fail
  refine (unhide HP).mono ?_
  rintro e w4 ⟨rfl, hr4, hk4⟩
  have HR4 := hide hr4
  have HK4 := hide hk4
  clear hr4 hk4 HP
  go_wp2_with fail
  go_end0
  exact ⟨rfl, (unhide HM4).stack (unhide HR4) (unhide HK4), (unhide HK3).trans (unhide HK4)⟩
set_option maxRecDepth 100000 in
set_option maxHeartbeats 4000000 in
theorem step13_v {w0 w : World} {b : Nat} {sv rv : Value} {m : MS} (h : MR w0 w b sv rv m) (n : Int) (s : Txt) {k : Nat} (hk : m.st.length = k + 1 + 1) (hU : (secV m.st).s.length ≤ 20) (hT : (topV m.st).s.length ≤ 20) :
    Calls Tryd.prog 44 #[.pointer (some ⟨b, 0, none⟩), ValA.v ⟨13, n, s⟩] w fun e w' => e = .returned (.tuple #[]) ∧ MR w0 w' b sv rv ⟨m.st.take k ++ [twoV 13 (secV m.st) (topV m.st)], m.here, m.vals⟩ ∧ Keeps (fun q => q = b) w w' := by
  have HKA := hide (kAlloc w (.cells #[.int .i64 13, .int .i64 n, str s] 59))
  have HM := hide (h.keepF (unhide HKA))
  have HX := hide (heap_alloc_new w (.cells #[.int .i64 13, .int .i64 n, str s] 59))
  have HB := hide h.run.lt
  have HL := hide h.run.len
  have HT := hide (top_get hk)
  have HS := hide (sec_get hk)
  have HKK := hide hk
  generalize topV m.st = T at *
  generalize secV m.st = U at *
  unfold ValA.v
  clear h hk
  go_enter Tryd.func44, Tryd.ntmps44
  go_wp2_with fail
  refine (pop_v (unhide HM).run (unhide HKK) (unhide HT)).mono ?_
  rintro e w1 ⟨rfl, hr1, hk1⟩
  have m1 := (unhide HM).stack hr1 hk1
  have HM1 := hide m1
  have HQ := hide (pop_v m1.run (unhide HS).1 (unhide HS).2.1)
  have HK1 := hide ((unhide HKA).any.trans hk1)
  have HX1 := hide ((hk1.block _ (lt_of_block (unhide HX)) (by have := unhide HB; omega)).trans (unhide HX))
  clear HM HKA HX hr1 hk1 m1
  go_wp2_with fail
  refine (unhide HQ).mono ?_
  rintro e w2 ⟨rfl, hr2, hk2⟩
  rw [(unhide HS).2.2] at hr2
  have m2 := (unhide HM1).stack hr2 hk2
  have HM2 := hide m2
  have HK2 := hide ((unhide HK1).trans hk2)
  have HX2 := hide ((hk2.block _ (lt_of_block (unhide HX1)) (by have := unhide HB; omega)).trans (unhide HX1))
  clear HM1 HK1 HX1 hr2 hk2 m2 HQ
  have p1 : w.heap.size < w2.heap.size := lt_of_block (unhide HX2)
  have y0 : w2.cell? ⟨w.heap.size, 0, none⟩ = some (.int .i64 13) := (cell_of_blk (unhide HX2) _).trans rfl
  have HKB := hide ((kAlloc w2 (.cells #[.int .i64 T.kind, .int .i64 T.n, str T.s] 67)).alloc (.cells #[.int .i64 U.kind, .int .i64 U.n, str U.s] 67))
  have HM3 := hide ((unhide HM2).keepF (unhide HKB))
  have HW := hide (fun (W : World) => ofTwo13_v U T W hU hT)
  unfold ValA.v at HW ⊢
  go_wp2_with fail
  refine ((unhide HW) _).mono ?_
  rintro e w3 ⟨rfl, hk3⟩
  have m3 := (unhide HM3).keepF hk3
  have HM4 := hide m3
  have HK3 := hide ((unhide HK2).trans ((unhide HKB).trans hk3).any)
  have HTL : (m.st.take k).length < 16 := by have := unhide HL; have := unhide HKK; simp; omega
  have HP := hide (push_v m3.run (twoV 13 U T) HTL)
  clear HM2 HM3 HW HKB HX2 HK2 hk3 m3 y0 p1 HTL
  unfold ValA.v at HP
  go_wp2_with fail
  refine (unhide HP).mono ?_
  rintro e w4 ⟨rfl, hr4, hk4⟩
  have HR4 := hide hr4
  have HK4 := hide hk4
  clear hr4 hk4 HP
  go_wp2_with fail
  go_end0
  exact ⟨rfl, (unhide HM4).stack (unhide HR4) (unhide HK4), (unhide HK3).trans (unhide HK4)⟩
set_option maxRecDepth 100000 in
set_option maxHeartbeats 4000000 in
theorem step14_v {w0 w : World} {b : Nat} {sv rv : Value} {m : MS} (h : MR w0 w b sv rv m) (n : Int) (s : Txt) {k : Nat} (hk : m.st.length = k + 1 + 1) (hU : (secV m.st).s.length ≤ 20) (hT : (topV m.st).s.length ≤ 20) :
    Calls Tryd.prog 44 #[.pointer (some ⟨b, 0, none⟩), ValA.v ⟨14, n, s⟩] w fun e w' => e = .returned (.tuple #[]) ∧ MR w0 w' b sv rv ⟨m.st.take k ++ [twoV 14 (secV m.st) (topV m.st)], m.here, m.vals⟩ ∧ Keeps (fun q => q = b) w w' := by
  have HKA := hide (kAlloc w (.cells #[.int .i64 14, .int .i64 n, str s] 59))
  have HM := hide (h.keepF (unhide HKA))
  have HX := hide (heap_alloc_new w (.cells #[.int .i64 14, .int .i64 n, str s] 59))
  have HB := hide h.run.lt
  have HL := hide h.run.len
  have HT := hide (top_get hk)
  have HS := hide (sec_get hk)
  have HKK := hide hk
  generalize topV m.st = T at *
  generalize secV m.st = U at *
  unfold ValA.v
  clear h hk
  go_enter Tryd.func44, Tryd.ntmps44
  go_wp2_with fail
  refine (pop_v (unhide HM).run (unhide HKK) (unhide HT)).mono ?_
  rintro e w1 ⟨rfl, hr1, hk1⟩
  have m1 := (unhide HM).stack hr1 hk1
  have HM1 := hide m1
  have HQ := hide (pop_v m1.run (unhide HS).1 (unhide HS).2.1)
  have HK1 := hide ((unhide HKA).any.trans hk1)
  have HX1 := hide ((hk1.block _ (lt_of_block (unhide HX)) (by have := unhide HB; omega)).trans (unhide HX))
  clear HM HKA HX hr1 hk1 m1
  go_wp2_with fail
  refine (unhide HQ).mono ?_
  rintro e w2 ⟨rfl, hr2, hk2⟩
  rw [(unhide HS).2.2] at hr2
  have m2 := (unhide HM1).stack hr2 hk2
  have HM2 := hide m2
  have HK2 := hide ((unhide HK1).trans hk2)
  have HX2 := hide ((hk2.block _ (lt_of_block (unhide HX1)) (by have := unhide HB; omega)).trans (unhide HX1))
  clear HM1 HK1 HX1 hr2 hk2 m2 HQ
  have p1 : w.heap.size < w2.heap.size := lt_of_block (unhide HX2)
  have y0 : w2.cell? ⟨w.heap.size, 0, none⟩ = some (.int .i64 14) := (cell_of_blk (unhide HX2) _).trans rfl
  have HKB := hide ((kAlloc w2 (.cells #[.int .i64 T.kind, .int .i64 T.n, str T.s] 67)).alloc (.cells #[.int .i64 U.kind, .int .i64 U.n, str U.s] 67))
  have HM3 := hide ((unhide HM2).keepF (unhide HKB))
  have HW := hide (fun (W : World) => ofTwo14_v U T W hU hT)
  unfold ValA.v at HW ⊢
  go_wp2_with fail
  refine ((unhide HW) _).mono ?_
  rintro e w3 ⟨rfl, hk3⟩
  have m3 := (unhide HM3).keepF hk3
  have HM4 := hide m3
  have HK3 := hide ((unhide HK2).trans ((unhide HKB).trans hk3).any)
  have HTL : (m.st.take k).length < 16 := by have := unhide HL; have := unhide HKK; simp; omega
  have HP := hide (push_v m3.run (twoV 14 U T) HTL)
  clear HM2 HM3 HW HKB HX2 HK2 hk3 m3 y0 p1 HTL
  unfold ValA.v at HP
  go_wp2_with fail
  refine (unhide HP).mono ?_
  rintro e w4 ⟨rfl, hr4, hk4⟩
  have HR4 := hide hr4
  have HK4 := hide hk4
  clear hr4 hk4 HP
  go_wp2_with fail
  go_end0
  exact ⟨rfl, (unhide HM4).stack (unhide HR4) (unhide HK4), (unhide HK3).trans (unhide HK4)⟩
set_option maxRecDepth 100000 in
set_option maxHeartbeats 4000000 in
theorem step15_v {w0 w : World} {b : Nat} {sv rv : Value} {m : MS} (h : MR w0 w b sv rv m) (n : Int) (s : Txt) {k : Nat} (hk : m.st.length = k + 1 + 1) (hU : (secV m.st).s.length ≤ 20) (hT : (topV m.st).s.length ≤ 20) :
    Calls Tryd.prog 44 #[.pointer (some ⟨b, 0, none⟩), ValA.v ⟨15, n, s⟩] w fun e w' => e = .returned (.tuple #[]) ∧ MR w0 w' b sv rv ⟨m.st.take k ++ [twoV 15 (secV m.st) (topV m.st)], m.here, m.vals⟩ ∧ Keeps (fun q => q = b) w w' := by
  have HKA := hide (kAlloc w (.cells #[.int .i64 15, .int .i64 n, str s] 59))
  have HM := hide (h.keepF (unhide HKA))
  have HX := hide (heap_alloc_new w (.cells #[.int .i64 15, .int .i64 n, str s] 59))
  have HB := hide h.run.lt
  have HL := hide h.run.len
  have HT := hide (top_get hk)
  have HS := hide (sec_get hk)
  have HKK := hide hk
  generalize topV m.st = T at *
  generalize secV m.st = U at *
  unfold ValA.v
  clear h hk
  go_enter Tryd.func44, Tryd.ntmps44
  go_wp2_with fail
  refine (pop_v (unhide HM).run (unhide HKK) (unhide HT)).mono ?_
  rintro e w1 ⟨rfl, hr1, hk1⟩
  have m1 := (unhide HM).stack hr1 hk1
  have HM1 := hide m1
  have HQ := hide (pop_v m1.run (unhide HS).1 (unhide HS).2.1)
  have HK1 := hide ((unhide HKA).any.trans hk1)
  have HX1 := hide ((hk1.block _ (lt_of_block (unhide HX)) (by have := unhide HB; omega)).trans (unhide HX))
  clear HM HKA HX hr1 hk1 m1
  go_wp2_with fail
  refine (unhide HQ).mono ?_
  rintro e w2 ⟨rfl, hr2, hk2⟩
  rw [(unhide HS).2.2] at hr2
  have m2 := (unhide HM1).stack hr2 hk2
  have HM2 := hide m2
  have HK2 := hide ((unhide HK1).trans hk2)
  have HX2 := hide ((hk2.block _ (lt_of_block (unhide HX1)) (by have := unhide HB; omega)).trans (unhide HX1))
  clear HM1 HK1 HX1 hr2 hk2 m2 HQ
  have p1 : w.heap.size < w2.heap.size := lt_of_block (unhide HX2)
  have y0 : w2.cell? ⟨w.heap.size, 0, none⟩ = some (.int .i64 15) := (cell_of_blk (unhide HX2) _).trans rfl
  have HKB := hide ((kAlloc w2 (.cells #[.int .i64 T.kind, .int .i64 T.n, str T.s] 67)).alloc (.cells #[.int .i64 U.kind, .int .i64 U.n, str U.s] 67))
  have HM3 := hide ((unhide HM2).keepF (unhide HKB))
  have HW := hide (fun (W : World) => ofTwo15_v U T W hU hT)
  unfold ValA.v at HW ⊢
  go_wp2_with fail
  refine ((unhide HW) _).mono ?_
  rintro e w3 ⟨rfl, hk3⟩
  have m3 := (unhide HM3).keepF hk3
  have HM4 := hide m3
  have HK3 := hide ((unhide HK2).trans ((unhide HKB).trans hk3).any)
  have HTL : (m.st.take k).length < 16 := by have := unhide HL; have := unhide HKK; simp; omega
  have HP := hide (push_v m3.run (twoV 15 U T) HTL)
  clear HM2 HM3 HW HKB HX2 HK2 hk3 m3 y0 p1 HTL
  unfold ValA.v at HP
  go_wp2_with fail
  refine (unhide HP).mono ?_
  rintro e w4 ⟨rfl, hr4, hk4⟩
  have HR4 := hide hr4
  have HK4 := hide hk4
  clear hr4 hk4 HP
  go_wp2_with fail
  go_end0
  exact ⟨rfl, (unhide HM4).stack (unhide HR4) (unhide HK4), (unhide HK3).trans (unhide HK4)⟩
set_option maxRecDepth 100000 in
set_option maxHeartbeats 4000000 in
theorem step16_v {w0 w : World} {b : Nat} {sv rv : Value} {m : MS} (h : MR w0 w b sv rv m) (n : Int) (s : Txt) {k : Nat} (hk : m.st.length = k + 1 + 1) (hU : (secV m.st).s.length ≤ 20) (hT : (topV m.st).s.length ≤ 20) :
    Calls Tryd.prog 44 #[.pointer (some ⟨b, 0, none⟩), ValA.v ⟨16, n, s⟩] w fun e w' => e = .returned (.tuple #[]) ∧ MR w0 w' b sv rv ⟨m.st.take k ++ [twoV 16 (secV m.st) (topV m.st)], m.here, m.vals⟩ ∧ Keeps (fun q => q = b) w w' := by
  have HKA := hide (kAlloc w (.cells #[.int .i64 16, .int .i64 n, str s] 59))
  have HM := hide (h.keepF (unhide HKA))
  have HX := hide (heap_alloc_new w (.cells #[.int .i64 16, .int .i64 n, str s] 59))
  have HB := hide h.run.lt
  have HL := hide h.run.len
  have HT := hide (top_get hk)
  have HS := hide (sec_get hk)
  have HKK := hide hk
  generalize topV m.st = T at *
  generalize secV m.st = U at *
  unfold ValA.v
  clear h hk
  go_enter Tryd.func44, Tryd.ntmps44
  go_wp2_with fail
  refine (pop_v (unhide HM).run (unhide HKK) (unhide HT)).mono ?_
  rintro e w1 ⟨rfl, hr1, hk1⟩
  have m1 := (unhide HM).stack hr1 hk1
  have HM1 := hide m1
  have HQ := hide (pop_v m1.run (unhide HS).1 (unhide HS).2.1)
  have HK1 := hide ((unhide HKA).any.trans hk1)
  have HX1 := hide ((hk1.block _ (lt_of_block (unhide HX)) (by have := unhide HB; omega)).trans (unhide HX))
  clear HM HKA HX hr1 hk1 m1
  go_wp2_with fail
  refine (unhide HQ).mono ?_
  rintro e w2 ⟨rfl, hr2, hk2⟩
  rw [(unhide HS).2.2] at hr2
  have m2 := (unhide HM1).stack hr2 hk2
  have HM2 := hide m2
  have HK2 := hide ((unhide HK1).trans hk2)
  have HX2 := hide ((hk2.block _ (lt_of_block (unhide HX1)) (by have := unhide HB; omega)).trans (unhide HX1))
  clear HM1 HK1 HX1 hr2 hk2 m2 HQ
  have p1 : w.heap.size < w2.heap.size := lt_of_block (unhide HX2)
  have y0 : w2.cell? ⟨w.heap.size, 0, none⟩ = some (.int .i64 16) := (cell_of_blk (unhide HX2) _).trans rfl
  have HKB := hide ((kAlloc w2 (.cells #[.int .i64 T.kind, .int .i64 T.n, str T.s] 67)).alloc (.cells #[.int .i64 U.kind, .int .i64 U.n, str U.s] 67))
  have HM3 := hide ((unhide HM2).keepF (unhide HKB))
  have HW := hide (fun (W : World) => ofTwo16_v U T W hU hT)
  unfold ValA.v at HW ⊢
  go_wp2_with fail
  refine ((unhide HW) _).mono ?_
  rintro e w3 ⟨rfl, hk3⟩
  have m3 := (unhide HM3).keepF hk3
  have HM4 := hide m3
  have HK3 := hide ((unhide HK2).trans ((unhide HKB).trans hk3).any)
  have HTL : (m.st.take k).length < 16 := by have := unhide HL; have := unhide HKK; simp; omega
  have HP := hide (push_v m3.run (twoV 16 U T) HTL)
  clear HM2 HM3 HW HKB HX2 HK2 hk3 m3 y0 p1 HTL
  unfold ValA.v at HP
  go_wp2_with fail
  refine (unhide HP).mono ?_
  rintro e w4 ⟨rfl, hr4, hk4⟩
  have HR4 := hide hr4
  have HK4 := hide hk4
  clear hr4 hk4 HP
  go_wp2_with fail
  go_end0
  exact ⟨rfl, (unhide HM4).stack (unhide HR4) (unhide HK4), (unhide HK3).trans (unhide HK4)⟩
set_option maxRecDepth 100000 in
set_option maxHeartbeats 4000000 in
theorem step17_v {w0 w : World} {b : Nat} {sv rv : Value} {m : MS} (h : MR w0 w b sv rv m) (n : Int) (s : Txt) {k : Nat} (hk : m.st.length = k + 1 + 1) (hU : (secV m.st).s.length ≤ 20) (hT : (topV m.st).s.length ≤ 20) :
    Calls Tryd.prog 44 #[.pointer (some ⟨b, 0, none⟩), ValA.v ⟨17, n, s⟩] w fun e w' => e = .returned (.tuple #[]) ∧ MR w0 w' b sv rv ⟨m.st.take k ++ [twoV 17 (secV m.st) (topV m.st)], m.here, m.vals⟩ ∧ Keeps (fun q => q = b) w w' := by
  have HKA := hide (kAlloc w (.cells #[.int .i64 17, .int .i64 n, str s] 59))
  have HM := hide (h.keepF (unhide HKA))
  have HX := hide (heap_alloc_new w (.cells #[.int .i64 17, .int .i64 n, str s] 59))
  have HB := hide h.run.lt
  have HL := hide h.run.len
  have HT := hide (top_get hk)
  have HS := hide (sec_get hk)
  have HKK := hide hk
  generalize topV m.st = T at *
  generalize secV m.st = U at *
  unfold ValA.v
  clear h hk
  go_enter Tryd.func44, Tryd.ntmps44
  go_wp2_with fail
  refine (pop_v (unhide HM).run (unhide HKK) (unhide HT)).mono ?_
  rintro e w1 ⟨rfl, hr1, hk1⟩
  have m1 := (unhide HM).stack hr1 hk1
  have HM1 := hide m1
  have HQ := hide (pop_v m1.run (unhide HS).1 (unhide HS).2.1)
  have HK1 := hide ((unhide HKA).any.trans hk1)
  have HX1 := hide ((hk1.block _ (lt_of_block (unhide HX)) (by have := unhide HB; omega)).trans (unhide HX))
  clear HM HKA HX hr1 hk1 m1
  go_wp2_with fail
  refine (unhide HQ).mono ?_
  rintro e w2 ⟨rfl, hr2, hk2⟩
  rw [(unhide HS).2.2] at hr2
  have m2 := (unhide HM1).stack hr2 hk2
  have HM2 := hide m2
  have HK2 := hide ((unhide HK1).trans hk2)
  have HX2 := hide ((hk2.block _ (lt_of_block (unhide HX1)) (by have := unhide HB; omega)).trans (unhide HX1))
  clear HM1 HK1 HX1 hr2 hk2 m2 HQ
  have p1 : w.heap.size < w2.heap.size := lt_of_block (unhide HX2)
  have y0 : w2.cell? ⟨w.heap.size, 0, none⟩ = some (.int .i64 17) := (cell_of_blk (unhide HX2) _).trans rfl
  have HKB := hide ((kAlloc w2 (.cells #[.int .i64 T.kind, .int .i64 T.n, str T.s] 67)).alloc (.cells #[.int .i64 U.kind, .int .i64 U.n, str U.s] 67))
  have HM3 := hide ((unhide HM2).keepF (unhide HKB))
  have HW := hide (fun (W : World) => ofTwo17_v U T W hU hT)
  unfold ValA.v at HW ⊢
  go_wp2_with fail
  refine ((unhide HW) _).mono ?_
  rintro e w3 ⟨rfl, hk3⟩
  have m3 := (unhide HM3).keepF hk3
  have HM4 := hide m3
  have HK3 := hide ((unhide HK2).trans ((unhide HKB).trans hk3).any)
  have HTL : (m.st.take k).length < 16 := by have := unhide HL; have := unhide HKK; simp; omega
  have HP := hide (push_v m3.run (twoV 17 U T) HTL)
  clear HM2 HM3 HW HKB HX2 HK2 hk3 m3 y0 p1 HTL
  unfold ValA.v at HP
  go_wp2_with fail
  refine (unhide HP).mono ?_
  rintro e w4 ⟨rfl, hr4, hk4⟩
  have HR4 := hide hr4
  have HK4 := hide hk4
  clear hr4 hk4 HP
  go_wp2_with fail
  go_end0
  exact ⟨rfl, (unhide HM4).stack (unhide HR4) (unhide HK4), (unhide HK3).trans (unhide HK4)⟩
set_option maxRecDepth 100000 in
set_option maxHeartbeats 4000000 in
theorem step19_v {w0 w : World} {b : Nat} {sv rv : Value} {m : MS} (h : MR w0 w b sv rv m) (n : Int) (s : Txt) {k : Nat} (hk : m.st.length = k + 1 + 1) (hU : (secV m.st).s.length ≤ 20) (hT : (topV m.st).s.length ≤ 20) :
    Calls Tryd.prog 44 #[.pointer (some ⟨b, 0, none⟩), ValA.v ⟨19, n, s⟩] w fun e w' => e = .returned (.tuple #[]) ∧ MR w0 w' b sv rv ⟨m.st.take k ++ [twoV 19 (secV m.st) (topV m.st)], m.here, m.vals⟩ ∧ Keeps (fun q => q = b) w w' := by
  have HKA := hide (kAlloc w (.cells #[.int .i64 19, .int .i64 n, str s] 59))
  have HM := hide (h.keepF (unhide HKA))
  have HX := hide (heap_alloc_new w (.cells #[.int .i64 19, .int .i64 n, str s] 59))
  have HB := hide h.run.lt
  have HL := hide h.run.len
  have HT := hide (top_get hk)
  have HS := hide (sec_get hk)
  have HKK := hide hk
  generalize topV m.st = T at *
  generalize secV m.st = U at *
  unfold ValA.v
  clear h hk
  go_enter Tryd.func44, Tryd.ntmps44
  go_wp2_with fail
  refine (pop_v (unhide HM).run (unhide HKK) (unhide HT)).mono ?_
  rintro e w1 ⟨rfl, hr1, hk1⟩
  have m1 := (unhide HM).stack hr1 hk1
  have HM1 := hide m1
  have HQ := hide (pop_v m1.run (unhide HS).1 (unhide HS).2.1)
  have HK1 := hide ((unhide HKA).any.trans hk1)
  have HX1 := hide ((hk1.block _ (lt_of_block (unhide HX)) (by have := unhide HB; omega)).trans (unhide HX))
  clear HM HKA HX hr1 hk1 m1
  go_wp2_with fail
  refine (unhide HQ).mono ?_
  rintro e w2 ⟨rfl, hr2, hk2⟩
  rw [(unhide HS).2.2] at hr2
  have m2 := (unhide HM1).stack hr2 hk2
  have HM2 := hide m2
  have HK2 := hide ((unhide HK1).trans hk2)
  have HX2 := hide ((hk2.block _ (lt_of_block (unhide HX1)) (by have := unhide HB; omega)).trans (unhide HX1))
  clear HM1 HK1 HX1 hr2 hk2 m2 HQ
  have p1 : w.heap.size < w2.heap.size := lt_of_block (unhide HX2)
  have y0 : w2.cell? ⟨w.heap.size, 0, none⟩ = some (.int .i64 19) := (cell_of_blk (unhide HX2) _).trans rfl
  have HKB := hide ((kAlloc w2 (.cells #[.int .i64 T.kind, .int .i64 T.n, str T.s] 67)).alloc (.cells #[.int .i64 U.kind, .int .i64 U.n, str U.s] 67))
  have HM3 := hide ((unhide HM2).keepF (unhide HKB))
  have HW := hide (fun (W : World) => ofTwo19_v U T W hU hT)
  unfold ValA.v at HW ⊢
  go_wp2_with fail
  refine ((unhide HW) _).mono ?_
  rintro e w3 ⟨rfl, hk3⟩
  have m3 := (unhide HM3).keepF hk3
  have HM4 := hide m3
  have HK3 := hide ((unhide HK2).trans ((unhide HKB).trans hk3).any)
  have HTL : (m.st.take k).length < 16 := by have := unhide HL; have := unhide HKK; simp; omega
  have HP := hide (push_v m3.run (twoV 19 U T) HTL)
  clear HM2 HM3 HW HKB HX2 HK2 hk3 m3 y0 p1 HTL
  unfold ValA.v at HP
  go_wp2_with fail
  refine (unhide HP).mono ?_
  rintro e w4 ⟨rfl, hr4, hk4⟩
  have HR4 := hide hr4
  have HK4 := hide hk4
  clear hr4 hk4 HP
  go_wp2_with fail
  go_end0
  exact ⟨rfl, (unhide HM4).stack (unhide HR4) (unhide HK4), (unhide HK3).trans (unhide HK4)⟩
end Go.Proofs.YtonodcmbbgpjjaaDoor
