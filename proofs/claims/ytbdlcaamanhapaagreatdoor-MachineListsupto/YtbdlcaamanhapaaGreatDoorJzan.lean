import Derived.Test.YtbdlcaamanhapaaGreatDoorJzam
import Derived.Test.YtbdlcaamanhapaaGreatDoorJzak
namespace Go.Proofs.YtbdlcaamanhapaaGreatDoor
open Go.RowKit Go.Maps
set_option maxRecDepth 100000
set_option maxHeartbeats 4000000
theorem step8_v {w0 w : World} {b : Nat} {sv rv : Value} {m : MS} (h : MR w0 w b sv rv m) (n : Int) (s : Txt) {k : Nat} (hk : m.st.length = k + 1) :
  Calls Tryz.prog 39 #[.pointer (some ⟨b, 0, none⟩), ValA.v ⟨8, n, s⟩] w fun e w' => e = .returned (.tuple #[]) ∧ MR w0 w' b sv rv ⟨m.st.take k ++ [oneV 8 (topV m.st)], m.here, m.vals⟩ ∧ Wp (fun q => q = b) w w' := by
 have HKA := zB (kA w (.cells #[.int .i64 8, .int .i64 n, str s] 60))
 have HM := zB (h.keepF (zA HKA))
 have HX := zB (heap_alloc_new w (.cells #[.int .i64 8, .int .i64 n, str s] 60))
 have HB := zB h.run.lt
 have HL := zB h.run.len
 have HT := zB (top_get hk)
 have HKK := zB hk
 generalize topV m.st = T at *
 unfold ValA.v
 go_enter Tryz.func39, Tryz.ntmps39
 go_wp2_with fail
 generalize w.alloc (.cells #[.int .i64 8, .int .i64 n, str s] 60) = W at *
 have p1 : w.heap.size < W.heap.size := zE (zA HX)
 have y0 : W.cell? ⟨w.heap.size, 0, none⟩ = some (.int .i64 8) := (zC (zA HX) _).trans rfl
 have HD := zB (Wp.refl (fun _ => False) W).drew
 have p2 := Nat.lt_of_lt_of_le p1 (zA HD).size
 have HY : Hid (W.drew.cell? ⟨w.heap.size, 0, none⟩ = some (.int .i64 8)) := ((zA HD).cell p1 id).trans y0
 have HTL : Hid ((m.st.take k).length < 16) := by show _ < _; have := zA HL; have := zA HKK; simp; omega
 have HMD := zB ((zA HM).keepF (zA HD))
 clear h hk
 go_region_held3 (fun w' => w'.cell? ⟨w.heap.size, 0, none⟩ = some (.int .i64 8))
  (first | with_reducible exact f4 | with_reducible exact f3 | with_reducible exact f2 | (go_keep; done) | assumption)
  (first
    | (go_at_call 48; refine (push_v m3.run (oneV 8 T) (zA HTL)).mono ?_; rintro e w4 ⟨rfl, hr4, hk4⟩; have f4 := (hk4.cell (o := 0) q3 (by have := zA HB; omega)).trans f3)
    | (go_at_call 49; refine (ofOne_v 8 T _ (Or.inl rfl)).mono ?_; rintro e w3 ⟨rfl, hk3⟩; have q3 := Nat.lt_of_lt_of_le q2 hk3.size; have f3 := (hk3.cell (o := 0) q2 id).trans f2; have m3 := m2.keepF hk3)
    | (go_at_call 38; refine (pop_v (zA HMD).run (zA HKK) (zA HT)).mono ?_; rintro e w2 ⟨rfl, hr2, hk2⟩; have q2 := Nat.lt_of_lt_of_le p2 hk2.size; have f2 := (hk2.cell (o := 0) p2 (by have := zA HB; omega)).trans (zA HY); have m2 := (zA HMD).stack hr2 hk2))
 go_wp2_with fail
 go_end0
 exact ⟨rfl, m3.stack hr4 hk4, ((((zA HKA).trans (zA HD)).any.trans hk2).trans hk3.any).trans hk4⟩
theorem step9_v {w0 w : World} {b : Nat} {sv rv : Value} {m : MS} (h : MR w0 w b sv rv m) (n : Int) (s : Txt) {k : Nat} (hk : m.st.length = k + 1) :
  Calls Tryz.prog 39 #[.pointer (some ⟨b, 0, none⟩), ValA.v ⟨9, n, s⟩] w fun e w' => e = .returned (.tuple #[]) ∧ MR w0 w' b sv rv ⟨m.st.take k ++ [oneV 9 (topV m.st)], m.here, m.vals⟩ ∧ Wp (fun q => q = b) w w' := by
 have HKA := zB (kA w (.cells #[.int .i64 9, .int .i64 n, str s] 60))
 have HM := zB (h.keepF (zA HKA))
 have HX := zB (heap_alloc_new w (.cells #[.int .i64 9, .int .i64 n, str s] 60))
 have HB := zB h.run.lt
 have HL := zB h.run.len
 have HT := zB (top_get hk)
 have HKK := zB hk
 generalize topV m.st = T at *
 unfold ValA.v
 go_enter Tryz.func39, Tryz.ntmps39
 go_wp2_with fail
 generalize w.alloc (.cells #[.int .i64 9, .int .i64 n, str s] 60) = W at *
 have p1 : w.heap.size < W.heap.size := zE (zA HX)
 have y0 : W.cell? ⟨w.heap.size, 0, none⟩ = some (.int .i64 9) := (zC (zA HX) _).trans rfl
 have HD := zB (Wp.refl (fun _ => False) W).drew
 have p2 := Nat.lt_of_lt_of_le p1 (zA HD).size
 have HY : Hid (W.drew.cell? ⟨w.heap.size, 0, none⟩ = some (.int .i64 9)) := ((zA HD).cell p1 id).trans y0
 have HTL : Hid ((m.st.take k).length < 16) := by show _ < _; have := zA HL; have := zA HKK; simp; omega
 have HMD := zB ((zA HM).keepF (zA HD))
 clear h hk
 go_region_held3 (fun w' => w'.cell? ⟨w.heap.size, 0, none⟩ = some (.int .i64 9))
  (first | with_reducible exact f4 | with_reducible exact f3 | with_reducible exact f2 | (go_keep; done) | assumption)
  (first
    | (go_at_call 48; refine (push_v m3.run (oneV 9 T) (zA HTL)).mono ?_; rintro e w4 ⟨rfl, hr4, hk4⟩; have f4 := (hk4.cell (o := 0) q3 (by have := zA HB; omega)).trans f3)
    | (go_at_call 49; refine (ofOne_v 9 T _ (Or.inr (Or.inl rfl))).mono ?_; rintro e w3 ⟨rfl, hk3⟩; have q3 := Nat.lt_of_lt_of_le q2 hk3.size; have f3 := (hk3.cell (o := 0) q2 id).trans f2; have m3 := m2.keepF hk3)
    | (go_at_call 38; refine (pop_v (zA HMD).run (zA HKK) (zA HT)).mono ?_; rintro e w2 ⟨rfl, hr2, hk2⟩; have q2 := Nat.lt_of_lt_of_le p2 hk2.size; have f2 := (hk2.cell (o := 0) p2 (by have := zA HB; omega)).trans (zA HY); have m2 := (zA HMD).stack hr2 hk2))
 go_wp2_with fail
 go_end0
 exact ⟨rfl, m3.stack hr4 hk4, ((((zA HKA).trans (zA HD)).any.trans hk2).trans hk3.any).trans hk4⟩
theorem step18_v {w0 w : World} {b : Nat} {sv rv : Value} {m : MS} (h : MR w0 w b sv rv m) (n : Int) (s : Txt) {k : Nat} (hk : m.st.length = k + 1) :
  Calls Tryz.prog 39 #[.pointer (some ⟨b, 0, none⟩), ValA.v ⟨18, n, s⟩] w fun e w' => e = .returned (.tuple #[]) ∧ MR w0 w' b sv rv ⟨m.st.take k ++ [oneV 18 (topV m.st)], m.here, m.vals⟩ ∧ Wp (fun q => q = b) w w' := by
 have HKA := zB (kA w (.cells #[.int .i64 18, .int .i64 n, str s] 60))
 have HM := zB (h.keepF (zA HKA))
 have HX := zB (heap_alloc_new w (.cells #[.int .i64 18, .int .i64 n, str s] 60))
 have HB := zB h.run.lt
 have HL := zB h.run.len
 have HT := zB (top_get hk)
 have HKK := zB hk
 generalize topV m.st = T at *
 unfold ValA.v
 go_enter Tryz.func39, Tryz.ntmps39
 go_wp2_with fail
 generalize w.alloc (.cells #[.int .i64 18, .int .i64 n, str s] 60) = W at *
 have p1 : w.heap.size < W.heap.size := zE (zA HX)
 have y0 : W.cell? ⟨w.heap.size, 0, none⟩ = some (.int .i64 18) := (zC (zA HX) _).trans rfl
 have HD := zB (Wp.refl (fun _ => False) W).drew
 have p2 := Nat.lt_of_lt_of_le p1 (zA HD).size
 have HY : Hid (W.drew.cell? ⟨w.heap.size, 0, none⟩ = some (.int .i64 18)) := ((zA HD).cell p1 id).trans y0
 have HTL : Hid ((m.st.take k).length < 16) := by show _ < _; have := zA HL; have := zA HKK; simp; omega
 have HMD := zB ((zA HM).keepF (zA HD))
 clear h hk
 go_region_held3 (fun w' => w'.cell? ⟨w.heap.size, 0, none⟩ = some (.int .i64 18))
  (first | with_reducible exact f4 | with_reducible exact f3 | with_reducible exact f2 | (go_keep; done) | assumption)
  (first
    | (go_at_call 48; refine (push_v m3.run (oneV 18 T) (zA HTL)).mono ?_; rintro e w4 ⟨rfl, hr4, hk4⟩; have f4 := (hk4.cell (o := 0) q3 (by have := zA HB; omega)).trans f3)
    | (go_at_call 49; refine (ofOne_v 18 T _ (Or.inr (Or.inr rfl))).mono ?_; rintro e w3 ⟨rfl, hk3⟩; have q3 := Nat.lt_of_lt_of_le q2 hk3.size; have f3 := (hk3.cell (o := 0) q2 id).trans f2; have m3 := m2.keepF hk3)
    | (go_at_call 38; refine (pop_v (zA HMD).run (zA HKK) (zA HT)).mono ?_; rintro e w2 ⟨rfl, hr2, hk2⟩; have q2 := Nat.lt_of_lt_of_le p2 hk2.size; have f2 := (hk2.cell (o := 0) p2 (by have := zA HB; omega)).trans (zA HY); have m2 := (zA HMD).stack hr2 hk2))
 go_wp2_with fail
 go_end0
 exact ⟨rfl, m3.stack hr4 hk4, ((((zA HKA).trans (zA HD)).any.trans hk2).trans hk3.any).trans hk4⟩
theorem sec_get {l : List ValA} {k : Nat} (h : l.length = k + 1 + 1) : (l.take (k + 1)).length = k + 1 ∧ (l.take (k + 1))[k]? = some (secV l) ∧ (l.take (k + 1)).take k = l.take k := by
 refine ⟨by simp; omega, ?_, ?_⟩
 ·rw [List.getElem?_take, if_pos (by omega)]
  unfold secV
  rw [h, show k + 1 + 1 - 2 = k by omega, List.getElem?_eq_getElem (by omega)]
  rfl
 ·rw [List.take_take, Nat.min_eq_left (by omega)]
theorem step10_v {w0 w : World} {b : Nat} {sv rv : Value} {m : MS} (h : MR w0 w b sv rv m) (n : Int) (s : Txt) {k : Nat} (hk : m.st.length = k + 1 + 1) (hU : (secV m.st).s.length ≤ 20) (hT : (topV m.st).s.length ≤ 20) :
  Calls Tryz.prog 39 #[.pointer (some ⟨b, 0, none⟩), ValA.v ⟨10, n, s⟩] w fun e w' => e = .returned (.tuple #[]) ∧ MR w0 w' b sv rv ⟨m.st.take k ++ [twoV 10 (secV m.st) (topV m.st)], m.here, m.vals⟩ ∧ Wp (fun q => q = b) w w' := by
 have HKA := zB (kA w (.cells #[.int .i64 10, .int .i64 n, str s] 60))
 have HM := zB (h.keepF (zA HKA))
 have HX := zB (heap_alloc_new w (.cells #[.int .i64 10, .int .i64 n, str s] 60))
 have HB := zB h.run.lt
 have HL := zB h.run.len
 have HT := zB (top_get hk)
 have HS := zB (sec_get hk)
 have HKK := zB hk
 generalize topV m.st = T at *
 generalize secV m.st = U at *
 unfold ValA.v
 clear h hk
 go_enter Tryz.func39, Tryz.ntmps39
 go_wp2_with fail
 refine (pop_v (zA HM).run (zA HKK) (zA HT)).mono ?_
 rintro e w1 ⟨rfl, hr1, hk1⟩
 have m1 := (zA HM).stack hr1 hk1
 have HM1 := zB m1
 have HQ := zB (pop_v m1.run (zA HS).1 (zA HS).2.1)
 have HK1 := zB ((zA HKA).any.trans hk1)
 have HX1 := zB ((hk1.block _ (zE (zA HX)) (by have := zA HB; omega)).trans (zA HX))
 clear HM HKA HX hr1 hk1 m1
 go_wp2_with fail
 refine (zA HQ).mono ?_
 rintro e w2 ⟨rfl, hr2, hk2⟩
 rw [(zA HS).2.2] at hr2
 have m2 := (zA HM1).stack hr2 hk2
 have HM2 := zB m2
 have HK2 := zB ((zA HK1).trans hk2)
 have HX2 := zB ((hk2.block _ (zE (zA HX1)) (by have := zA HB; omega)).trans (zA HX1))
 clear HM1 HK1 HX1 hr2 hk2 m2 HQ
 have p1 : w.heap.size < w2.heap.size := zE (zA HX2)
 have y0 : w2.cell? ⟨w.heap.size, 0, none⟩ = some (.int .i64 10) := (zC (zA HX2) _).trans rfl
 have HKB := zB ((kA w2 (.cells #[.int .i64 T.kind, .int .i64 T.n, str T.s] 51)).alloc (.cells #[.int .i64 U.kind, .int .i64 U.n, str U.s] 51))
 have HM3 := zB ((zA HM2).keepF (zA HKB))
 have HW := zB (fun (W : World) => ofTwo10_v U T W hU hT)
 unfold ValA.v at HW ⊢
 go_wp2_with fail
 refine ((zA HW) _).mono ?_
 rintro e w3 ⟨rfl, hk3⟩
 have m3 := (zA HM3).keepF hk3
 have HM4 := zB m3
 have HK3 := zB ((zA HK2).trans ((zA HKB).trans hk3).any)
 have HTL : (m.st.take k).length < 16 := by have := zA HL; have := zA HKK; simp; omega
 have HP := zB (push_v m3.run (twoV 10 U T) HTL)
 clear HM2 HM3 HW HKB HX2 HK2 hk3 m3 y0 p1 HTL
 unfold ValA.v at HP
 go_wp2_with fail
 refine (zA HP).mono ?_
 rintro e w4 ⟨rfl, hr4, hk4⟩
 have HR4 := zB hr4
 have HK4 := zB hk4
 clear hr4 hk4 HP
 go_wp2_with fail
 go_end0
 exact ⟨rfl, (zA HM4).stack (zA HR4) (zA HK4), (zA HK3).trans (zA HK4)⟩
theorem step11_v {w0 w : World} {b : Nat} {sv rv : Value} {m : MS} (h : MR w0 w b sv rv m) (n : Int) (s : Txt) {k : Nat} (hk : m.st.length = k + 1 + 1) (hU : (secV m.st).s.length ≤ 20) (hT : (topV m.st).s.length ≤ 20) :
  Calls Tryz.prog 39 #[.pointer (some ⟨b, 0, none⟩), ValA.v ⟨11, n, s⟩] w fun e w' => e = .returned (.tuple #[]) ∧ MR w0 w' b sv rv ⟨m.st.take k ++ [twoV 11 (secV m.st) (topV m.st)], m.here, m.vals⟩ ∧ Wp (fun q => q = b) w w' := by
 have HKA := zB (kA w (.cells #[.int .i64 11, .int .i64 n, str s] 60))
 have HM := zB (h.keepF (zA HKA))
 have HX := zB (heap_alloc_new w (.cells #[.int .i64 11, .int .i64 n, str s] 60))
 have HB := zB h.run.lt
 have HL := zB h.run.len
 have HT := zB (top_get hk)
 have HS := zB (sec_get hk)
 have HKK := zB hk
 generalize topV m.st = T at *
 generalize secV m.st = U at *
 unfold ValA.v
 clear h hk
 go_enter Tryz.func39, Tryz.ntmps39
 go_wp2_with fail
 refine (pop_v (zA HM).run (zA HKK) (zA HT)).mono ?_
 rintro e w1 ⟨rfl, hr1, hk1⟩
 have m1 := (zA HM).stack hr1 hk1
 have HM1 := zB m1
 have HQ := zB (pop_v m1.run (zA HS).1 (zA HS).2.1)
 have HK1 := zB ((zA HKA).any.trans hk1)
 have HX1 := zB ((hk1.block _ (zE (zA HX)) (by have := zA HB; omega)).trans (zA HX))
 clear HM HKA HX hr1 hk1 m1
 go_wp2_with fail
 refine (zA HQ).mono ?_
 rintro e w2 ⟨rfl, hr2, hk2⟩
 rw [(zA HS).2.2] at hr2
 have m2 := (zA HM1).stack hr2 hk2
 have HM2 := zB m2
 have HK2 := zB ((zA HK1).trans hk2)
 have HX2 := zB ((hk2.block _ (zE (zA HX1)) (by have := zA HB; omega)).trans (zA HX1))
 clear HM1 HK1 HX1 hr2 hk2 m2 HQ
 have p1 : w.heap.size < w2.heap.size := zE (zA HX2)
 have y0 : w2.cell? ⟨w.heap.size, 0, none⟩ = some (.int .i64 11) := (zC (zA HX2) _).trans rfl
 have HKB := zB ((kA w2 (.cells #[.int .i64 T.kind, .int .i64 T.n, str T.s] 51)).alloc (.cells #[.int .i64 U.kind, .int .i64 U.n, str U.s] 51))
 have HM3 := zB ((zA HM2).keepF (zA HKB))
 have HW := zB (fun (W : World) => ofTwo11_v U T W hU hT)
 unfold ValA.v at HW ⊢
 go_wp2_with fail
 refine ((zA HW) _).mono ?_
 rintro e w3 ⟨rfl, hk3⟩
 have m3 := (zA HM3).keepF hk3
 have HM4 := zB m3
 have HK3 := zB ((zA HK2).trans ((zA HKB).trans hk3).any)
 have HTL : (m.st.take k).length < 16 := by have := zA HL; have := zA HKK; simp; omega
 have HP := zB (push_v m3.run (twoV 11 U T) HTL)
 clear HM2 HM3 HW HKB HX2 HK2 hk3 m3 y0 p1 HTL
 unfold ValA.v at HP
 go_wp2_with fail
 refine (zA HP).mono ?_
 rintro e w4 ⟨rfl, hr4, hk4⟩
 have HR4 := zB hr4
 have HK4 := zB hk4
 clear hr4 hk4 HP
 go_wp2_with fail
 go_end0
 exact ⟨rfl, (zA HM4).stack (zA HR4) (zA HK4), (zA HK3).trans (zA HK4)⟩
theorem step12_v {w0 w : World} {b : Nat} {sv rv : Value} {m : MS} (h : MR w0 w b sv rv m) (n : Int) (s : Txt) {k : Nat} (hk : m.st.length = k + 1 + 1) (hU : (secV m.st).s.length ≤ 20) (hT : (topV m.st).s.length ≤ 20) :
  Calls Tryz.prog 39 #[.pointer (some ⟨b, 0, none⟩), ValA.v ⟨12, n, s⟩] w fun e w' => e = .returned (.tuple #[]) ∧ MR w0 w' b sv rv ⟨m.st.take k ++ [twoV 12 (secV m.st) (topV m.st)], m.here, m.vals⟩ ∧ Wp (fun q => q = b) w w' := by
 have HKA := zB (kA w (.cells #[.int .i64 12, .int .i64 n, str s] 60))
 have HM := zB (h.keepF (zA HKA))
 have HX := zB (heap_alloc_new w (.cells #[.int .i64 12, .int .i64 n, str s] 60))
 have HB := zB h.run.lt
 have HL := zB h.run.len
 have HT := zB (top_get hk)
 have HS := zB (sec_get hk)
 have HKK := zB hk
 generalize topV m.st = T at *
 generalize secV m.st = U at *
 unfold ValA.v
 clear h hk
 go_enter Tryz.func39, Tryz.ntmps39
 go_wp2_with fail
 refine (pop_v (zA HM).run (zA HKK) (zA HT)).mono ?_
 rintro e w1 ⟨rfl, hr1, hk1⟩
 have m1 := (zA HM).stack hr1 hk1
 have HM1 := zB m1
 have HQ := zB (pop_v m1.run (zA HS).1 (zA HS).2.1)
 have HK1 := zB ((zA HKA).any.trans hk1)
 have HX1 := zB ((hk1.block _ (zE (zA HX)) (by have := zA HB; omega)).trans (zA HX))
 clear HM HKA HX hr1 hk1 m1
 go_wp2_with fail
 refine (zA HQ).mono ?_
 rintro e w2 ⟨rfl, hr2, hk2⟩
 rw [(zA HS).2.2] at hr2
 have m2 := (zA HM1).stack hr2 hk2
 have HM2 := zB m2
 have HK2 := zB ((zA HK1).trans hk2)
 have HX2 := zB ((hk2.block _ (zE (zA HX1)) (by have := zA HB; omega)).trans (zA HX1))
 clear HM1 HK1 HX1 hr2 hk2 m2 HQ
 have p1 : w.heap.size < w2.heap.size := zE (zA HX2)
 have y0 : w2.cell? ⟨w.heap.size, 0, none⟩ = some (.int .i64 12) := (zC (zA HX2) _).trans rfl
 have HKB := zB ((kA w2 (.cells #[.int .i64 T.kind, .int .i64 T.n, str T.s] 51)).alloc (.cells #[.int .i64 U.kind, .int .i64 U.n, str U.s] 51))
 have HM3 := zB ((zA HM2).keepF (zA HKB))
 have HW := zB (fun (W : World) => ofTwo12_v U T W hU hT)
 unfold ValA.v at HW ⊢
 go_wp2_with fail
 refine ((zA HW) _).mono ?_
 rintro e w3 ⟨rfl, hk3⟩
 have m3 := (zA HM3).keepF hk3
 have HM4 := zB m3
 have HK3 := zB ((zA HK2).trans ((zA HKB).trans hk3).any)
 have HTL : (m.st.take k).length < 16 := by have := zA HL; have := zA HKK; simp; omega
 have HP := zB (push_v m3.run (twoV 12 U T) HTL)
 clear HM2 HM3 HW HKB HX2 HK2 hk3 m3 y0 p1 HTL
 unfold ValA.v at HP
 go_wp2_with fail
 refine (zA HP).mono ?_
 rintro e w4 ⟨rfl, hr4, hk4⟩
 have HR4 := zB hr4
 have HK4 := zB hk4
 clear hr4 hk4 HP
 go_wp2_with fail
 go_end0
 exact ⟨rfl, (zA HM4).stack (zA HR4) (zA HK4), (zA HK3).trans (zA HK4)⟩
theorem step13_v {w0 w : World} {b : Nat} {sv rv : Value} {m : MS} (h : MR w0 w b sv rv m) (n : Int) (s : Txt) {k : Nat} (hk : m.st.length = k + 1 + 1) (hU : (secV m.st).s.length ≤ 20) (hT : (topV m.st).s.length ≤ 20) :
  Calls Tryz.prog 39 #[.pointer (some ⟨b, 0, none⟩), ValA.v ⟨13, n, s⟩] w fun e w' => e = .returned (.tuple #[]) ∧ MR w0 w' b sv rv ⟨m.st.take k ++ [twoV 13 (secV m.st) (topV m.st)], m.here, m.vals⟩ ∧ Wp (fun q => q = b) w w' := by
 have HKA := zB (kA w (.cells #[.int .i64 13, .int .i64 n, str s] 60))
 have HM := zB (h.keepF (zA HKA))
 have HX := zB (heap_alloc_new w (.cells #[.int .i64 13, .int .i64 n, str s] 60))
 have HB := zB h.run.lt
 have HL := zB h.run.len
 have HT := zB (top_get hk)
 have HS := zB (sec_get hk)
 have HKK := zB hk
 generalize topV m.st = T at *
 generalize secV m.st = U at *
 unfold ValA.v
 clear h hk
 go_enter Tryz.func39, Tryz.ntmps39
 go_wp2_with fail
 refine (pop_v (zA HM).run (zA HKK) (zA HT)).mono ?_
 rintro e w1 ⟨rfl, hr1, hk1⟩
 have m1 := (zA HM).stack hr1 hk1
 have HM1 := zB m1
 have HQ := zB (pop_v m1.run (zA HS).1 (zA HS).2.1)
 have HK1 := zB ((zA HKA).any.trans hk1)
 have HX1 := zB ((hk1.block _ (zE (zA HX)) (by have := zA HB; omega)).trans (zA HX))
 clear HM HKA HX hr1 hk1 m1
 go_wp2_with fail
 refine (zA HQ).mono ?_
 rintro e w2 ⟨rfl, hr2, hk2⟩
 rw [(zA HS).2.2] at hr2
 have m2 := (zA HM1).stack hr2 hk2
 have HM2 := zB m2
 have HK2 := zB ((zA HK1).trans hk2)
 have HX2 := zB ((hk2.block _ (zE (zA HX1)) (by have := zA HB; omega)).trans (zA HX1))
 clear HM1 HK1 HX1 hr2 hk2 m2 HQ
 have p1 : w.heap.size < w2.heap.size := zE (zA HX2)
 have y0 : w2.cell? ⟨w.heap.size, 0, none⟩ = some (.int .i64 13) := (zC (zA HX2) _).trans rfl
 have HKB := zB ((kA w2 (.cells #[.int .i64 T.kind, .int .i64 T.n, str T.s] 51)).alloc (.cells #[.int .i64 U.kind, .int .i64 U.n, str U.s] 51))
 have HM3 := zB ((zA HM2).keepF (zA HKB))
 have HW := zB (fun (W : World) => ofTwo13_v U T W hU hT)
 unfold ValA.v at HW ⊢
 go_wp2_with fail
 refine ((zA HW) _).mono ?_
 rintro e w3 ⟨rfl, hk3⟩
 have m3 := (zA HM3).keepF hk3
 have HM4 := zB m3
 have HK3 := zB ((zA HK2).trans ((zA HKB).trans hk3).any)
 have HTL : (m.st.take k).length < 16 := by have := zA HL; have := zA HKK; simp; omega
 have HP := zB (push_v m3.run (twoV 13 U T) HTL)
 clear HM2 HM3 HW HKB HX2 HK2 hk3 m3 y0 p1 HTL
 unfold ValA.v at HP
 go_wp2_with fail
 refine (zA HP).mono ?_
 rintro e w4 ⟨rfl, hr4, hk4⟩
 have HR4 := zB hr4
 have HK4 := zB hk4
 clear hr4 hk4 HP
 go_wp2_with fail
 go_end0
 exact ⟨rfl, (zA HM4).stack (zA HR4) (zA HK4), (zA HK3).trans (zA HK4)⟩
theorem step14_v {w0 w : World} {b : Nat} {sv rv : Value} {m : MS} (h : MR w0 w b sv rv m) (n : Int) (s : Txt) {k : Nat} (hk : m.st.length = k + 1 + 1) (hU : (secV m.st).s.length ≤ 20) (hT : (topV m.st).s.length ≤ 20) :
  Calls Tryz.prog 39 #[.pointer (some ⟨b, 0, none⟩), ValA.v ⟨14, n, s⟩] w fun e w' => e = .returned (.tuple #[]) ∧ MR w0 w' b sv rv ⟨m.st.take k ++ [twoV 14 (secV m.st) (topV m.st)], m.here, m.vals⟩ ∧ Wp (fun q => q = b) w w' := by
 have HKA := zB (kA w (.cells #[.int .i64 14, .int .i64 n, str s] 60))
 have HM := zB (h.keepF (zA HKA))
 have HX := zB (heap_alloc_new w (.cells #[.int .i64 14, .int .i64 n, str s] 60))
 have HB := zB h.run.lt
 have HL := zB h.run.len
 have HT := zB (top_get hk)
 have HS := zB (sec_get hk)
 have HKK := zB hk
 generalize topV m.st = T at *
 generalize secV m.st = U at *
 unfold ValA.v
 clear h hk
 go_enter Tryz.func39, Tryz.ntmps39
 go_wp2_with fail
 refine (pop_v (zA HM).run (zA HKK) (zA HT)).mono ?_
 rintro e w1 ⟨rfl, hr1, hk1⟩
 have m1 := (zA HM).stack hr1 hk1
 have HM1 := zB m1
 have HQ := zB (pop_v m1.run (zA HS).1 (zA HS).2.1)
 have HK1 := zB ((zA HKA).any.trans hk1)
 have HX1 := zB ((hk1.block _ (zE (zA HX)) (by have := zA HB; omega)).trans (zA HX))
 clear HM HKA HX hr1 hk1 m1
 go_wp2_with fail
 refine (zA HQ).mono ?_
 rintro e w2 ⟨rfl, hr2, hk2⟩
 rw [(zA HS).2.2] at hr2
 have m2 := (zA HM1).stack hr2 hk2
 have HM2 := zB m2
 have HK2 := zB ((zA HK1).trans hk2)
 have HX2 := zB ((hk2.block _ (zE (zA HX1)) (by have := zA HB; omega)).trans (zA HX1))
 clear HM1 HK1 HX1 hr2 hk2 m2 HQ
 have p1 : w.heap.size < w2.heap.size := zE (zA HX2)
 have y0 : w2.cell? ⟨w.heap.size, 0, none⟩ = some (.int .i64 14) := (zC (zA HX2) _).trans rfl
 have HKB := zB ((kA w2 (.cells #[.int .i64 T.kind, .int .i64 T.n, str T.s] 51)).alloc (.cells #[.int .i64 U.kind, .int .i64 U.n, str U.s] 51))
 have HM3 := zB ((zA HM2).keepF (zA HKB))
 have HW := zB (fun (W : World) => ofTwo14_v U T W hU hT)
 unfold ValA.v at HW ⊢
 go_wp2_with fail
 refine ((zA HW) _).mono ?_
 rintro e w3 ⟨rfl, hk3⟩
 have m3 := (zA HM3).keepF hk3
 have HM4 := zB m3
 have HK3 := zB ((zA HK2).trans ((zA HKB).trans hk3).any)
 have HTL : (m.st.take k).length < 16 := by have := zA HL; have := zA HKK; simp; omega
 have HP := zB (push_v m3.run (twoV 14 U T) HTL)
 clear HM2 HM3 HW HKB HX2 HK2 hk3 m3 y0 p1 HTL
 unfold ValA.v at HP
 go_wp2_with fail
 refine (zA HP).mono ?_
 rintro e w4 ⟨rfl, hr4, hk4⟩
 have HR4 := zB hr4
 have HK4 := zB hk4
 clear hr4 hk4 HP
 go_wp2_with fail
 go_end0
 exact ⟨rfl, (zA HM4).stack (zA HR4) (zA HK4), (zA HK3).trans (zA HK4)⟩
theorem step15_v {w0 w : World} {b : Nat} {sv rv : Value} {m : MS} (h : MR w0 w b sv rv m) (n : Int) (s : Txt) {k : Nat} (hk : m.st.length = k + 1 + 1) (hU : (secV m.st).s.length ≤ 20) (hT : (topV m.st).s.length ≤ 20) :
  Calls Tryz.prog 39 #[.pointer (some ⟨b, 0, none⟩), ValA.v ⟨15, n, s⟩] w fun e w' => e = .returned (.tuple #[]) ∧ MR w0 w' b sv rv ⟨m.st.take k ++ [twoV 15 (secV m.st) (topV m.st)], m.here, m.vals⟩ ∧ Wp (fun q => q = b) w w' := by
 have HKA := zB (kA w (.cells #[.int .i64 15, .int .i64 n, str s] 60))
 have HM := zB (h.keepF (zA HKA))
 have HX := zB (heap_alloc_new w (.cells #[.int .i64 15, .int .i64 n, str s] 60))
 have HB := zB h.run.lt
 have HL := zB h.run.len
 have HT := zB (top_get hk)
 have HS := zB (sec_get hk)
 have HKK := zB hk
 generalize topV m.st = T at *
 generalize secV m.st = U at *
 unfold ValA.v
 clear h hk
 go_enter Tryz.func39, Tryz.ntmps39
 go_wp2_with fail
 refine (pop_v (zA HM).run (zA HKK) (zA HT)).mono ?_
 rintro e w1 ⟨rfl, hr1, hk1⟩
 have m1 := (zA HM).stack hr1 hk1
 have HM1 := zB m1
 have HQ := zB (pop_v m1.run (zA HS).1 (zA HS).2.1)
 have HK1 := zB ((zA HKA).any.trans hk1)
 have HX1 := zB ((hk1.block _ (zE (zA HX)) (by have := zA HB; omega)).trans (zA HX))
 clear HM HKA HX hr1 hk1 m1
 go_wp2_with fail
 refine (zA HQ).mono ?_
 rintro e w2 ⟨rfl, hr2, hk2⟩
 rw [(zA HS).2.2] at hr2
 have m2 := (zA HM1).stack hr2 hk2
 have HM2 := zB m2
 have HK2 := zB ((zA HK1).trans hk2)
 have HX2 := zB ((hk2.block _ (zE (zA HX1)) (by have := zA HB; omega)).trans (zA HX1))
 clear HM1 HK1 HX1 hr2 hk2 m2 HQ
 have p1 : w.heap.size < w2.heap.size := zE (zA HX2)
 have y0 : w2.cell? ⟨w.heap.size, 0, none⟩ = some (.int .i64 15) := (zC (zA HX2) _).trans rfl
 have HKB := zB ((kA w2 (.cells #[.int .i64 T.kind, .int .i64 T.n, str T.s] 51)).alloc (.cells #[.int .i64 U.kind, .int .i64 U.n, str U.s] 51))
 have HM3 := zB ((zA HM2).keepF (zA HKB))
 have HW := zB (fun (W : World) => ofTwo15_v U T W hU hT)
 unfold ValA.v at HW ⊢
 go_wp2_with fail
 refine ((zA HW) _).mono ?_
 rintro e w3 ⟨rfl, hk3⟩
 have m3 := (zA HM3).keepF hk3
 have HM4 := zB m3
 have HK3 := zB ((zA HK2).trans ((zA HKB).trans hk3).any)
 have HTL : (m.st.take k).length < 16 := by have := zA HL; have := zA HKK; simp; omega
 have HP := zB (push_v m3.run (twoV 15 U T) HTL)
 clear HM2 HM3 HW HKB HX2 HK2 hk3 m3 y0 p1 HTL
 unfold ValA.v at HP
 go_wp2_with fail
 refine (zA HP).mono ?_
 rintro e w4 ⟨rfl, hr4, hk4⟩
 have HR4 := zB hr4
 have HK4 := zB hk4
 clear hr4 hk4 HP
 go_wp2_with fail
 go_end0
 exact ⟨rfl, (zA HM4).stack (zA HR4) (zA HK4), (zA HK3).trans (zA HK4)⟩
theorem step16_v {w0 w : World} {b : Nat} {sv rv : Value} {m : MS} (h : MR w0 w b sv rv m) (n : Int) (s : Txt) {k : Nat} (hk : m.st.length = k + 1 + 1) (hU : (secV m.st).s.length ≤ 20) (hT : (topV m.st).s.length ≤ 20) :
  Calls Tryz.prog 39 #[.pointer (some ⟨b, 0, none⟩), ValA.v ⟨16, n, s⟩] w fun e w' => e = .returned (.tuple #[]) ∧ MR w0 w' b sv rv ⟨m.st.take k ++ [twoV 16 (secV m.st) (topV m.st)], m.here, m.vals⟩ ∧ Wp (fun q => q = b) w w' := by
 have HKA := zB (kA w (.cells #[.int .i64 16, .int .i64 n, str s] 60))
 have HM := zB (h.keepF (zA HKA))
 have HX := zB (heap_alloc_new w (.cells #[.int .i64 16, .int .i64 n, str s] 60))
 have HB := zB h.run.lt
 have HL := zB h.run.len
 have HT := zB (top_get hk)
 have HS := zB (sec_get hk)
 have HKK := zB hk
 generalize topV m.st = T at *
 generalize secV m.st = U at *
 unfold ValA.v
 clear h hk
 go_enter Tryz.func39, Tryz.ntmps39
 go_wp2_with fail
 refine (pop_v (zA HM).run (zA HKK) (zA HT)).mono ?_
 rintro e w1 ⟨rfl, hr1, hk1⟩
 have m1 := (zA HM).stack hr1 hk1
 have HM1 := zB m1
 have HQ := zB (pop_v m1.run (zA HS).1 (zA HS).2.1)
 have HK1 := zB ((zA HKA).any.trans hk1)
 have HX1 := zB ((hk1.block _ (zE (zA HX)) (by have := zA HB; omega)).trans (zA HX))
 clear HM HKA HX hr1 hk1 m1
 go_wp2_with fail
 refine (zA HQ).mono ?_
 rintro e w2 ⟨rfl, hr2, hk2⟩
 rw [(zA HS).2.2] at hr2
 have m2 := (zA HM1).stack hr2 hk2
 have HM2 := zB m2
 have HK2 := zB ((zA HK1).trans hk2)
 have HX2 := zB ((hk2.block _ (zE (zA HX1)) (by have := zA HB; omega)).trans (zA HX1))
 clear HM1 HK1 HX1 hr2 hk2 m2 HQ
 have p1 : w.heap.size < w2.heap.size := zE (zA HX2)
 have y0 : w2.cell? ⟨w.heap.size, 0, none⟩ = some (.int .i64 16) := (zC (zA HX2) _).trans rfl
 have HKB := zB ((kA w2 (.cells #[.int .i64 T.kind, .int .i64 T.n, str T.s] 51)).alloc (.cells #[.int .i64 U.kind, .int .i64 U.n, str U.s] 51))
 have HM3 := zB ((zA HM2).keepF (zA HKB))
 have HW := zB (fun (W : World) => ofTwo16_v U T W hU hT)
 unfold ValA.v at HW ⊢
 go_wp2_with fail
 refine ((zA HW) _).mono ?_
 rintro e w3 ⟨rfl, hk3⟩
 have m3 := (zA HM3).keepF hk3
 have HM4 := zB m3
 have HK3 := zB ((zA HK2).trans ((zA HKB).trans hk3).any)
 have HTL : (m.st.take k).length < 16 := by have := zA HL; have := zA HKK; simp; omega
 have HP := zB (push_v m3.run (twoV 16 U T) HTL)
 clear HM2 HM3 HW HKB HX2 HK2 hk3 m3 y0 p1 HTL
 unfold ValA.v at HP
 go_wp2_with fail
 refine (zA HP).mono ?_
 rintro e w4 ⟨rfl, hr4, hk4⟩
 have HR4 := zB hr4
 have HK4 := zB hk4
 clear hr4 hk4 HP
 go_wp2_with fail
 go_end0
 exact ⟨rfl, (zA HM4).stack (zA HR4) (zA HK4), (zA HK3).trans (zA HK4)⟩
theorem step17_v {w0 w : World} {b : Nat} {sv rv : Value} {m : MS} (h : MR w0 w b sv rv m) (n : Int) (s : Txt) {k : Nat} (hk : m.st.length = k + 1 + 1) (hU : (secV m.st).s.length ≤ 20) (hT : (topV m.st).s.length ≤ 20) :
  Calls Tryz.prog 39 #[.pointer (some ⟨b, 0, none⟩), ValA.v ⟨17, n, s⟩] w fun e w' => e = .returned (.tuple #[]) ∧ MR w0 w' b sv rv ⟨m.st.take k ++ [twoV 17 (secV m.st) (topV m.st)], m.here, m.vals⟩ ∧ Wp (fun q => q = b) w w' := by
 have HKA := zB (kA w (.cells #[.int .i64 17, .int .i64 n, str s] 60))
 have HM := zB (h.keepF (zA HKA))
 have HX := zB (heap_alloc_new w (.cells #[.int .i64 17, .int .i64 n, str s] 60))
 have HB := zB h.run.lt
 have HL := zB h.run.len
 have HT := zB (top_get hk)
 have HS := zB (sec_get hk)
 have HKK := zB hk
 generalize topV m.st = T at *
 generalize secV m.st = U at *
 unfold ValA.v
 clear h hk
 go_enter Tryz.func39, Tryz.ntmps39
 go_wp2_with fail
 refine (pop_v (zA HM).run (zA HKK) (zA HT)).mono ?_
 rintro e w1 ⟨rfl, hr1, hk1⟩
 have m1 := (zA HM).stack hr1 hk1
 have HM1 := zB m1
 have HQ := zB (pop_v m1.run (zA HS).1 (zA HS).2.1)
 have HK1 := zB ((zA HKA).any.trans hk1)
 have HX1 := zB ((hk1.block _ (zE (zA HX)) (by have := zA HB; omega)).trans (zA HX))
 clear HM HKA HX hr1 hk1 m1
 go_wp2_with fail
 refine (zA HQ).mono ?_
 rintro e w2 ⟨rfl, hr2, hk2⟩
 rw [(zA HS).2.2] at hr2
 have m2 := (zA HM1).stack hr2 hk2
 have HM2 := zB m2
 have HK2 := zB ((zA HK1).trans hk2)
 have HX2 := zB ((hk2.block _ (zE (zA HX1)) (by have := zA HB; omega)).trans (zA HX1))
 clear HM1 HK1 HX1 hr2 hk2 m2 HQ
 have p1 : w.heap.size < w2.heap.size := zE (zA HX2)
 have y0 : w2.cell? ⟨w.heap.size, 0, none⟩ = some (.int .i64 17) := (zC (zA HX2) _).trans rfl
 have HKB := zB ((kA w2 (.cells #[.int .i64 T.kind, .int .i64 T.n, str T.s] 51)).alloc (.cells #[.int .i64 U.kind, .int .i64 U.n, str U.s] 51))
 have HM3 := zB ((zA HM2).keepF (zA HKB))
 have HW := zB (fun (W : World) => ofTwo17_v U T W hU hT)
 unfold ValA.v at HW ⊢
 go_wp2_with fail
 refine ((zA HW) _).mono ?_
 rintro e w3 ⟨rfl, hk3⟩
 have m3 := (zA HM3).keepF hk3
 have HM4 := zB m3
 have HK3 := zB ((zA HK2).trans ((zA HKB).trans hk3).any)
 have HTL : (m.st.take k).length < 16 := by have := zA HL; have := zA HKK; simp; omega
 have HP := zB (push_v m3.run (twoV 17 U T) HTL)
 clear HM2 HM3 HW HKB HX2 HK2 hk3 m3 y0 p1 HTL
 unfold ValA.v at HP
 go_wp2_with fail
 refine (zA HP).mono ?_
 rintro e w4 ⟨rfl, hr4, hk4⟩
 have HR4 := zB hr4
 have HK4 := zB hk4
 clear hr4 hk4 HP
 go_wp2_with fail
 go_end0
 exact ⟨rfl, (zA HM4).stack (zA HR4) (zA HK4), (zA HK3).trans (zA HK4)⟩
theorem step19_v {w0 w : World} {b : Nat} {sv rv : Value} {m : MS} (h : MR w0 w b sv rv m) (n : Int) (s : Txt) {k : Nat} (hk : m.st.length = k + 1 + 1) (hU : (secV m.st).s.length ≤ 20) (hT : (topV m.st).s.length ≤ 20) :
  Calls Tryz.prog 39 #[.pointer (some ⟨b, 0, none⟩), ValA.v ⟨19, n, s⟩] w fun e w' => e = .returned (.tuple #[]) ∧ MR w0 w' b sv rv ⟨m.st.take k ++ [twoV 19 (secV m.st) (topV m.st)], m.here, m.vals⟩ ∧ Wp (fun q => q = b) w w' := by
 have HKA := zB (kA w (.cells #[.int .i64 19, .int .i64 n, str s] 60))
 have HM := zB (h.keepF (zA HKA))
 have HX := zB (heap_alloc_new w (.cells #[.int .i64 19, .int .i64 n, str s] 60))
 have HB := zB h.run.lt
 have HL := zB h.run.len
 have HT := zB (top_get hk)
 have HS := zB (sec_get hk)
 have HKK := zB hk
 generalize topV m.st = T at *
 generalize secV m.st = U at *
 unfold ValA.v
 clear h hk
 go_enter Tryz.func39, Tryz.ntmps39
 go_wp2_with fail
 refine (pop_v (zA HM).run (zA HKK) (zA HT)).mono ?_
 rintro e w1 ⟨rfl, hr1, hk1⟩
 have m1 := (zA HM).stack hr1 hk1
 have HM1 := zB m1
 have HQ := zB (pop_v m1.run (zA HS).1 (zA HS).2.1)
 have HK1 := zB ((zA HKA).any.trans hk1)
 have HX1 := zB ((hk1.block _ (zE (zA HX)) (by have := zA HB; omega)).trans (zA HX))
 clear HM HKA HX hr1 hk1 m1
 go_wp2_with fail
 refine (zA HQ).mono ?_
 rintro e w2 ⟨rfl, hr2, hk2⟩
 rw [(zA HS).2.2] at hr2
 have m2 := (zA HM1).stack hr2 hk2
 have HM2 := zB m2
 have HK2 := zB ((zA HK1).trans hk2)
 have HX2 := zB ((hk2.block _ (zE (zA HX1)) (by have := zA HB; omega)).trans (zA HX1))
 clear HM1 HK1 HX1 hr2 hk2 m2 HQ
 have p1 : w.heap.size < w2.heap.size := zE (zA HX2)
 have y0 : w2.cell? ⟨w.heap.size, 0, none⟩ = some (.int .i64 19) := (zC (zA HX2) _).trans rfl
 have HKB := zB ((kA w2 (.cells #[.int .i64 T.kind, .int .i64 T.n, str T.s] 51)).alloc (.cells #[.int .i64 U.kind, .int .i64 U.n, str U.s] 51))
 have HM3 := zB ((zA HM2).keepF (zA HKB))
 have HW := zB (fun (W : World) => ofTwo19_v U T W hU hT)
 unfold ValA.v at HW ⊢
 go_wp2_with fail
 refine ((zA HW) _).mono ?_
 rintro e w3 ⟨rfl, hk3⟩
 have m3 := (zA HM3).keepF hk3
 have HM4 := zB m3
 have HK3 := zB ((zA HK2).trans ((zA HKB).trans hk3).any)
 have HTL : (m.st.take k).length < 16 := by have := zA HL; have := zA HKK; simp; omega
 have HP := zB (push_v m3.run (twoV 19 U T) HTL)
 clear HM2 HM3 HW HKB HX2 HK2 hk3 m3 y0 p1 HTL
 unfold ValA.v at HP
 go_wp2_with fail
 refine (zA HP).mono ?_
 rintro e w4 ⟨rfl, hr4, hk4⟩
 have HR4 := zB hr4
 have HK4 := zB hk4
 clear hr4 hk4 HP
 go_wp2_with fail
 go_end0
 exact ⟨rfl, (zA HM4).stack (zA HR4) (zA HK4), (zA HK3).trans (zA HK4)⟩
theorem step20_v {w0 w : World} {b : Nat} {sv rv : Value} {m : MS} (h : MR w0 w b sv rv m) (N : Nat) (s : Txt) {k : Nat} (hk : m.st.length = k + 1) (hn : m.here = true → N < m.vals.length) :
  Calls Tryz.prog 39 #[.pointer (some ⟨b, 0, none⟩), ValA.v ⟨20, (N : Int), s⟩] w fun e w' => e = .returned (.tuple #[]) ∧ MR w0 w' b sv rv ⟨m.st.take k, (setR m N (topV m.st)).1, (setR m N (topV m.st)).2⟩ ∧ Wp (Own b rv) w w' := by
 have HKA := zB (kA w (.cells #[.int .i64 20, .int .i64 (N : Int), str s] 60))
 have HM := zB (h.keepF (zA HKA))
 have HX := zB (heap_alloc_new w (.cells #[.int .i64 20, .int .i64 (N : Int), str s] 60))
 have HB := zB h.run.lt
 have HT := zB (top_get hk)
 have HKK := zB hk
 have HRL := zB (fun q e => (h.rlt q e).2)
 generalize topV m.st = T at *
 have HQ2 := zB (fun (W : World) (m3 : MR w0 W b sv rv ⟨m.st.take k, m.here, m.vals⟩) => set_v m3 N T hn)
 unfold ValA.v
 clear h hk
 go_enter Tryz.func39, Tryz.ntmps39
 go_wp2_with fail
 generalize w.alloc (.cells #[.int .i64 20, .int .i64 (N : Int), str s] 60) = W at *
 have p1 : w.heap.size < W.heap.size := zE (zA HX)
 have y0 : W.cell? ⟨w.heap.size, 1, none⟩ = some (.int .i64 (N : Int)) := (zC (zA HX) _).trans rfl
 have HD := zB (Wp.refl (fun _ => False) W).drew
 have p2 := Nat.lt_of_lt_of_le p1 (zA HD).size
 have HY : Hid (W.drew.cell? ⟨w.heap.size, 1, none⟩ = some (.int .i64 (N : Int))) := ((zA HD).cell p1 id).trans y0
 have HMD := zB ((zA HM).keepF (zA HD))
 go_region_held3 (fun w' => w'.cell? ⟨w.heap.size, 1, none⟩ = some (.int .i64 (N : Int)))
  (first | with_reducible exact f4 | with_reducible exact f2 | (go_keep; done) | assumption)
  (first
    | (go_at_call 51; refine ((zA HQ2) _ m2).mono ?_; rintro e w4 ⟨rfl, hm4, hk4⟩; have f4 := (hk4.cell (o := 1) q2 (fun q => q.elim (fun q => by have := zA HB; omega) (fun q => by have := (zA HRL) _ q; omega))).trans f2)
    | (go_at_call 38; refine (pop_v (zA HMD).run (zA HKK) (zA HT)).mono ?_; rintro e w2 ⟨rfl, hr2, hk2⟩; have q2 := Nat.lt_of_lt_of_le p2 hk2.size; have f2 := (hk2.cell (o := 1) p2 (by have := zA HB; omega)).trans (zA HY); have m2 := (zA HMD).stack hr2 hk2))
 go_wp2_with fail
 go_end0
 exact ⟨rfl, hm4, ((((zA HKA).trans (zA HD)).any.trans (hk2.mono fun q _ e => Or.inl e))).trans hk4⟩
theorem step21_v {w0 w : World} {b : Nat} {sv rv : Value} {m : MS} (S : List Wq) (h : MR w0 w b sv rv m) (hS : Wt w0 sv S) (N : Nat) (s : Txt) {k : Nat} (hk : m.st.length = k + 1) (hn : m.here = true → N < m.vals.length) (hns : N < S.length) :
  Calls Tryz.prog 39 #[.pointer (some ⟨b, 0, none⟩), ValA.v ⟨21, (N : Int), s⟩] w fun e w' => e = .returned (.tuple #[]) ∧ MR w0 w' b sv rv ⟨m.st.take k, (setR m N (numV (wrap64 ((loadV S m N).n + (topV m.st).n)))).1, (setR m N (numV (wrap64 ((loadV S m N).n + (topV m.st).n)))).2⟩ ∧ Wp (Own b rv) w w' := by
 have HKA := zB (kA w (.cells #[.int .i64 21, .int .i64 (N : Int), str s] 60))
 have HM := zB (h.keepF (zA HKA))
 have HX := zB (heap_alloc_new w (.cells #[.int .i64 21, .int .i64 (N : Int), str s] 60))
 have HB := zB h.run.lt
 have HT := zB (top_get hk)
 have HKK := zB hk
 have HRL := zB (fun q e => (h.rlt q e).2)
 generalize topV m.st = T at *
 have HQ2 := zB (fun (W : World) (m3 : MR w0 W b sv rv ⟨m.st.take k, m.here, m.vals⟩) => add_v S m3 hS N T hn hns)
 unfold ValA.v
 clear h hk
 go_enter Tryz.func39, Tryz.ntmps39
 go_wp2_with fail
 generalize w.alloc (.cells #[.int .i64 21, .int .i64 (N : Int), str s] 60) = W at *
 have p1 : w.heap.size < W.heap.size := zE (zA HX)
 have y0 : W.cell? ⟨w.heap.size, 1, none⟩ = some (.int .i64 (N : Int)) := (zC (zA HX) _).trans rfl
 have HD := zB (Wp.refl (fun _ => False) W).drew
 have p2 := Nat.lt_of_lt_of_le p1 (zA HD).size
 have HY : Hid (W.drew.cell? ⟨w.heap.size, 1, none⟩ = some (.int .i64 (N : Int))) := ((zA HD).cell p1 id).trans y0
 have HMD := zB ((zA HM).keepF (zA HD))
 go_region_held3 (fun w' => w'.cell? ⟨w.heap.size, 1, none⟩ = some (.int .i64 (N : Int)))
  (first | with_reducible exact f4 | with_reducible exact f2 | (go_keep; done) | assumption)
  (first
    | (go_at_call 52; refine ((zA HQ2) _ m2).mono ?_; rintro e w4 ⟨rfl, hm4, hk4⟩; have f4 := (hk4.cell (o := 1) q2 (fun q => q.elim (fun q => by have := zA HB; omega) (fun q => by have := (zA HRL) _ q; omega))).trans f2)
    | (go_at_call 38; refine (pop_v (zA HMD).run (zA HKK) (zA HT)).mono ?_; rintro e w2 ⟨rfl, hr2, hk2⟩; have q2 := Nat.lt_of_lt_of_le p2 hk2.size; have f2 := (hk2.cell (o := 1) p2 (by have := zA HB; omega)).trans (zA HY); have m2 := (zA HMD).stack hr2 hk2))
 go_wp2_with fail
 go_end0
 exact ⟨rfl, hm4, ((((zA HKA).trans (zA HD)).any.trans (hk2.mono fun q _ e => Or.inl e))).trans hk4⟩
theorem step22_v {w0 w : World} {b : Nat} {sv rv : Value} {m : MS} (h : MR w0 w b sv rv m) (N : Nat) (s : Txt) (hn : m.here = true → N < m.vals.length) :
  Calls Tryz.prog 39 #[.pointer (some ⟨b, 0, none⟩), ValA.v ⟨22, (N : Int), s⟩] w fun e w' => e = .returned (.tuple #[]) ∧ MR w0 w' b sv rv ⟨m.st, (setR m N zV).1, (setR m N zV).2⟩ ∧ Wp (Own b rv) w w' := by
 have HKA := zB (kA w (.cells #[.int .i64 22, .int .i64 (N : Int), str s] 60))
 have HQ := zB (set_v (h.keepF (zA HKA)) N zV hn)
 rw [show zV.v = .agg #[.int .i64 0, .int .i64 0, .string ⟨#[]⟩] from rfl] at HQ
 unfold ValA.v
 clear h
 go_enter Tryz.func39, Tryz.ntmps39
 go_wp2_with fail
 refine (zA HQ).mono ?_
 rintro e w1 ⟨rfl, hm1, hk1⟩
 have HM1 := zB hm1
 have HK1 := zB hk1
 clear hm1 hk1 HQ
 go_wp2_with fail
 go_end0
 exact ⟨rfl, zA HM1, (zA HKA).any.trans (zA HK1)⟩
theorem step23_v {w0 w : World} {b : Nat} {sv rv : Value} {m : MS} (S : List Wq) (h : MR w0 w b sv rv m) (hT : Types w0) (hS : Wt w0 sv S) (hz : errS S = 0) (n : Int) (s : Txt) :
  Calls Tryz.prog 39 #[.pointer (some ⟨b, 0, none⟩), ValA.v ⟨23, n, s⟩] w fun e w' => e = .returned (.tuple #[]) ∧ (∃ rv', MR w0 w' b sv rv' (if m.here then m else ⟨m.st, true, S.map zeroV⟩)) ∧ Wp (Own b rv) w w' := by
 have HKA := zB (kA w (.cells #[.int .i64 23, .int .i64 n, str s] 60))
 have HQ := zB (create_v S (h.keepF (zA HKA)) hT hS hz)
 generalize (if m.here = true then m else (⟨m.st, true, S.map zeroV⟩ : MS)) = G at *
 unfold ValA.v
 clear h
 go_enter Tryz.func39, Tryz.ntmps39
 go_wp2_with fail
 refine (zA HQ).mono ?_
 rintro e w1 ⟨rfl, hm1, hk1⟩
 have HM1 := zB hm1
 have HK1 := zB hk1
 clear hm1 hk1 HQ
 go_wp2_with fail
 go_end0
 exact ⟨rfl, zA HM1, (zA HKA).any.trans (zA HK1)⟩
theorem RunAt.rowed {w : World} {b : Nat} {sv rv : Value} {m : MS} (h : RunAt w b sv rv m) (hh : Bool) (rv' : Value) (vals : List ValA) : RunAt ((w.setCell ⟨b, 1, none⟩ (.bool hh)).setCell ⟨b, 2, none⟩ rv') b sv rv' ⟨m.st, hh, vals⟩ := by
 obtain ⟨cur, hB, hs⟩ := h.blk
 have hE := zH (o := 2) (zH (o := 1) hB (.bool hh)) rv'
 have hq : ∀ o, o ≠ 1 → o ≠ 2 → ((w.setCell ⟨b, 1, none⟩ (.bool hh)).setCell ⟨b, 2, none⟩ rv').cell? ⟨b, o, none⟩ = w.cell? ⟨b, o, none⟩ := fun o h1 h2 => by
  rw [zC hE, zC hB, Array.getElem?_setIfInBounds_ne (Ne.symm h2), Array.getElem?_setIfInBounds_ne (Ne.symm h1)]
 refine ⟨⟨_, hE, by simpa using hs⟩, (hq 0 (by omega) (by omega)).trans h.c0, ?_, ?_, (hq 51 (by omega) (by omega)).trans h.ch, fun i v hv => ⟨(hq _ (by omega) (by omega)).trans (h.stk i v hv).1, (hq _ (by omega) (by omega)).trans (h.stk i v hv).2.1, (hq _ (by omega) (by omega)).trans (h.stk i v hv).2.2⟩, h.len⟩
 ·rw [zC hE, Array.getElem?_setIfInBounds_ne (by omega)]; simp [hs]
 ·rw [zC hE]; simp [hs]
theorem step24_v {w0 w : World} {b : Nat} {sv rv : Value} {m : MS} (h : MR w0 w b sv rv m) (n : Int) (s : Txt) :
  Calls Tryz.prog 39 #[.pointer (some ⟨b, 0, none⟩), ValA.v ⟨24, n, s⟩] w fun e w' => e = .returned (.tuple #[]) ∧ (∃ rv', MR w0 w' b sv rv' ⟨m.st, false, []⟩) ∧ Wp (Own b rv) w w' := by
 have HKA := zB (kA w (.cells #[.int .i64 24, .int .i64 n, str s] 60))
 have hM := h.keepF (zA HKA)
 have HM := zB hM
 obtain ⟨cur, hB, hs⟩ := hM.run.blk
 have z1 := zF hB 1
 have z2 := zF hB 2
 have c1 := hM.run.c1
 have c2 := hM.run.c2
 have hb1 := hM.run.lt
 unfold ValA.v
 clear h hM hB hs
 go_enter Tryz.func39, Tryz.ntmps39
 go_wp2_with fail
 go_end0
 have hM := zA HM
 have ko : Wp (fun q => q = b) (w.alloc (.cells #[.int .i64 24, .int .i64 n, str s] 60)) (((w.alloc (.cells #[.int .i64 24, .int .i64 n, str s] 60)).setCell ⟨b, 1, none⟩ (.bool false)).setCell ⟨b, 2, none⟩ (.slice none 0 0)) := Wp.setCell (F := fun q => q = b) (p := ⟨b, 2, none⟩) (Wp.setCell (F := fun q => q = b) (p := ⟨b, 1, none⟩) (Wp.refl (fun q => q = b) _) (fun _ => rfl) _) (fun _ => rfl) _
 refine ⟨rfl, ⟨.slice none 0 0, ⟨hM.run.rowed false (.slice none 0 0) [], hM.kept.then ko (fun i hi e => by have := hM.new; omega), hM.new, fun q => (by cases q), fun _ => ⟨rfl, World.ownsRow_nil _ _ 51 3⟩, fun q e => by simp [Value.ownBlock] at e⟩⟩, (zA HKA).any.trans (ko.mono fun q _ e => Or.inl e)⟩
theorem needK_isK (S : List Wq) (i : ValA) (st : List Int) (hf : formB i = 0) (hk : ∀ k ∈ st, isK k) (hF : (opA i.kind).of = 4 → isK (fldT S i)) : ∀ k ∈ needK S i st, isK k := by
 obtain ⟨_, _, h3, _⟩ := op_facts _ (op_cases (formB_zero hf).1)
 have hlast : isK (st.getLast?.getD 1) := by
  cases hl : st.getLast? with
  | none => exact Or.inl rfl
  | some c => exact hk c (List.mem_of_getLast? hl)
 intro k hk'
 unfold needK at hk'
 by_cases h : i.kind = 15 ∨ i.kind = 16 ∨ i.kind = 17
 ·rw [if_pos h] at hk'
  split at hk'
  ·simp at hk'; subst hk'; exact Or.inl rfl
  ·simp at hk'; rw [hk']; exact hlast
 ·rw [if_neg h] at hk'
  obtain ⟨h0, rfl⟩ := List.mem_replicate.1 hk'
  rcases h3 h with e | e | e | e | e
  ·exact absurd e h0
  ·unfold ofF; rw [e]; exact Or.inl rfl
  ·unfold ofF; rw [e]; exact Or.inr (Or.inl rfl)
  ·unfold ofF; rw [e]; exact Or.inr (Or.inr rfl)
  ·unfold ofF; rw [if_pos e]; exact hF e
theorem behR_behB (S : List Wq) (i : ValA) (st : List Int) (hf : formB i = 0) (hk : ∀ k ∈ st, isK k) (hF : (opA i.kind).of = 4 → isK (fldT S i)) :
  (behR S i (st.map letR)).2 = (behB S i st).isSome ∧ ∀ st', behB S i st = some st' → (behR S i (st.map letR)).1 = st'.map letR := by
 have hn := needK_length S i st hf
 have hni := needK_isK S i st hf hk hF
 unfold behR behB
 rw [takesR_map S i st hk]
 have hq : (st.map letR).length = st.length := List.length_map ..
 have hnm : ((needK S i st).map letR).length = (opA i.kind).takes := by rw [List.length_map]; exact hn
 by_cases hle : st.length < (opA i.kind).takes
 ·have he : endsB (st.map letR) ((needK S i st).map letR) = false := by
   unfold endsB
   rw [hnm, hq, decide_eq_false (by omega)]
   rfl
  simp only [he, if_true, if_pos hle, Option.isSome_none]
  exact ⟨trivial, fun _ h => by cases h⟩
 ·have hle' : (opA i.kind).takes ≤ st.length := by omega
  have he : endsB (st.map letR) ((needK S i st).map letR) = takesB S i (st.drop (st.length - (opA i.kind).takes)) := by
   rw [takes_need S i st hf hk hF hle']
   unfold endsB
   rw [hnm, hq, decide_eq_true hle', Bool.true_and, ← List.map_drop, Bool.eq_iff_iff, decide_eq_true_iff, decide_eq_true_iff]
   constructor
   ·intro e
    exact map_letR_inj (fun k h => hk k (List.mem_of_mem_drop h)) hni e
   ·intro e
    rw [e]
  have ha : (st.map letR).take ((st.map letR).length - ((needK S i st).map letR).length) ++ (if (opA i.kind).gives = 0 then [] else [letR (ofF S i (opA i.kind).gives)]) = (afterB S i st).map letR := by
   unfold afterB
   rw [hnm, hq, List.map_append, List.map_take]
   congr 1
   by_cases hg : (opA i.kind).gives = 0
   ·rw [if_pos hg, if_neg (fun q => q hg)]; rfl
   ·rw [if_neg hg, if_pos hg]; rfl
  rw [if_neg hle]
  simp only [he]
  cases ht : takesB S i (st.drop (st.length - (opA i.kind).takes)) with
  | false =>
   simp only [if_true, Option.isSome_none]
   exact ⟨trivial, fun _ h => by cases h⟩
  | true =>
   simp only [Bool.true_eq_false, if_false]
   rw [ha, List.length_map]
   by_cases h16 : (afterB S i st).length ≤ 16
   ·rw [if_pos h16, decide_eq_true h16]
    exact ⟨rfl, fun st' h => by cases h; rfl⟩
   ·rw [if_neg h16, decide_eq_false h16]
    exact ⟨rfl, fun _ h => by cases h⟩
end Go.Proofs.YtbdlcaamanhapaaGreatDoor
