import Derived.Test.YtbdlcaamanhapaaGreatDoorJzae
import Derived.Test.YtbdlcaamanhapaaGreatDoorJzac
namespace Go.Proofs.YtbdlcaamanhapaaGreatDoor
open Go.RowKit Go.Maps
set_option maxRecDepth 100000
set_option maxHeartbeats 2000000
def OpA.cs (f : OpA) : List Value := [str f.word, .int .i64 f.opd, .int .i64 (f.takes : Int), .int .i64 f.of, .int .i64 f.gives]
structure Ops (w : World) : Prop where
 lt : 1 < w.heap.size
 cell : ∀ (i : Nat) (f : OpA), opsL[i]? = some f → ∀ (j : Nat) (x : Value), f.cs[j]? = some x → w.cell? ⟨1, i * 5 + j, none⟩ = some x
theorem Ops.keep {F : Nat → Prop} {w w' : World} (h : Ops w) (hk : Wp F w w') (hF : ¬ F 1) : Ops w' :=
 ⟨Nat.lt_of_lt_of_le h.lt hk.size, fun i f hf j x hx => by rw [hk.cell h.lt hF]; exact h.cell i f hf j x hx⟩
theorem Ops.keepF {w w' : World} (h : Ops w) (hk : Wp (fun _ => False) w w') : Ops w' := h.keep hk id
theorem opsL_at (m : Nat) (h : m < 27) : opsL[m]? = some (opA m) := by
 unfold opA
 rw [Int.toNat_natCast]
 have hl : m < opsL.length := h
 rw [List.getElem?_eq_getElem hl]
 rfl
theorem Ops.at {w : World} (h : Ops w) {m : Nat} (hm : m < 27) : w.cell? ⟨1, m * 5 + 1, none⟩ = some (.int .i64 (opA m).opd) ∧ w.cell? ⟨1, m * 5 + 2, none⟩ = some (.int .i64 ((opA m).takes : Int)) ∧ w.cell? ⟨1, m * 5 + 3, none⟩ = some (.int .i64 (opA m).of) ∧ w.cell? ⟨1, m * 5 + 4, none⟩ = some (.int .i64 (opA m).gives) ∧ w.cell? ⟨1, m * 5, none⟩ = some (str (opA m).word) :=
 ⟨h.cell m _ (opsL_at m hm) 1 _ rfl, h.cell m _ (opsL_at m hm) 2 _ rfl, h.cell m _ (opsL_at m hm) 3 _ rfl, h.cell m _ (opsL_at m hm) 4 _ rfl, h.cell m _ (opsL_at m hm) 0 _ rfl⟩
theorem opd_cases {o : Int} (h : opdB o ≠ -1) : ((opA o).opd = 0 ∧ opdB o = 0) ∨ ((opA o).opd = 1 ∧ opdB o = 1) ∨ ((opA o).opd = 2 ∧ opdB o = 2) ∨ ((opA o).opd = 3 ∧ opdB o = 3) ∨ ((opA o).opd = 4 ∧ opdB o = 3) ∨ ((opA o).opd = 5 ∧ opdB o = 3) ∨ ((opA o).opd = 6 ∧ opdB o = 4) := by
 have h1 := opd_of o (op_cases h)
 obtain ⟨h2, h3, h4⟩ := h1
 rw [h2]
 have : (opA o).opd = 0 ∨ (opA o).opd = 1 ∨ (opA o).opd = 2 ∨ (opA o).opd = 3 ∨ (opA o).opd = 4 ∨ (opA o).opd = 5 ∨ (opA o).opd = 6 := by omega
 rcases this with e | e | e | e | e | e | e <;> simp [e]
theorem isOperation_v (o : Int) (w : World) : Calls Tryz.prog 102 #[.int .i64 o] w fun e w' => e = .returned (.bool (decide (opdB o ≠ -1))) ∧ w' = w := by
 go_enter Tryz.func102, Tryz.ntmps102
 go_wp2
 all_goals
  go_ret
  refine ⟨ret_bool ?_, rfl⟩
  apply Bool.eq_iff_iff.2
  by_cases h : opdB o = -1
  ·have := opdB_out h
   simp [h] at *
   try omega
  ·have := opdB_range h
   simp [h] at *
   try omega
theorem rightOperand_v (i : ValA) (w : World) (hO : Ops w) (ho : opdB i.kind ≠ -1) : Calls Tryz.prog 106 #[i.v] w fun e w' => e = .returned (.bool (rightB i)) ∧ Wp (fun _ => False) w w' := by
 obtain ⟨k, n, s⟩ := i
 unfold ValA.v
 simp only at *
 obtain ⟨h1, h2⟩ := opdB_range ho
 obtain ⟨m, rfl⟩ := Int.eq_ofNat_of_zero_le (show 0 ≤ k by omega)
 obtain ⟨HX, hxb, hxc⟩ := boxed w #[.int .i64 (m : Int), .int .i64 n, str s] 60
 have f0 := hxc 0 (.int .i64 (m : Int)) rfl
 have f1 := hxc 1 (.int .i64 n) rfl
 have f2 := hxc 2 (str s) rfl
 have g1 := ((hO.keepF (zA HX)).at (m := m) (by omega)).1
 have i0 : (0 : Int) ≤ (m : Int) := by omega
 have i1 : (m : Int) < 27 := by omega
 clear hxc hO hxb
 rcases opd_cases ho with ⟨e1, e2⟩ | ⟨e1, e2⟩ | ⟨e1, e2⟩ | ⟨e1, e2⟩ | ⟨e1, e2⟩ | ⟨e1, e2⟩ | ⟨e1, e2⟩
 all_goals
  rw [e1] at g1
  have HE := zB e2
  clear e1 e2 ho h1 h2
  go_enter Tryz.func106, Tryz.ntmps106
  go_wp2
  all_goals
   go_ret
   refine ⟨ret_bool ?_, (Wp.refl _ _).alloc _⟩
   have e2 := zA HE
   clear HE HX f0 f1 f2 g1
   unfold rightB
   simp only [e2]
   apply Bool.eq_iff_iff.2
   first | (simp_all; done) | (simp_all; omega) | (simp at *; omega)
theorem checkForm_v (i : ValA) (w : World) (hO : Ops w) : Calls Tryz.prog 107 #[i.v] w fun e w' => e = .returned (.int .i64 (formB i)) ∧ Wp (fun _ => False) w w' := by
 obtain ⟨HX, hxb, hxc⟩ := boxed w #[.int .i64 i.kind, .int .i64 i.n, str i.s] 60
 have f0 := hxc 0 (.int .i64 i.kind) rfl
 have f1 := hxc 1 (.int .i64 i.n) rfl
 have f2 := hxc 2 (str i.s) rfl
 have HO := zB (hO.keepF (zA HX))
 have HQ := zB (isOperation_v i.kind (w.alloc (.cells #[.int .i64 i.kind, .int .i64 i.n, str i.s] 60)))
 have HR : Hid (opdB i.kind ≠ -1 → _) := fun h => rightOperand_v i (w.alloc (.cells #[.int .i64 i.kind, .int .i64 i.n, str i.s] 60)) (zA HO) h
 have HE : Hid (formB i = if opdB i.kind = -1 then 110 else if rightB i then 0 else 113) := rfl
 generalize formB i = E at *
 clear hxc hO hxb
 unfold ValA.v at *
 go_enter Tryz.func107, Tryz.ntmps107
 go_wp2_with fail
 refine (zA HQ).mono ?_
 rintro e w2 ⟨rfl, rfl⟩
 by_cases h : opdB i.kind = -1
 ·rw [decide_eq_false (by simpa using h)]
  have := zA HE
  rw [if_pos h] at this
  subst this
  clear h HR
  go_wp2_with fail
  go_ret
  exact ⟨rfl, zA HX⟩
 ·rw [decide_eq_true h]
  have HC := zB (zA HR h)
  have he := zA HE
  rw [if_neg h] at he
  have HE2 := zB he
  clear h HR he HE
  go_wp2_with fail
  refine (zA HC).mono ?_
  rintro e w3 ⟨rfl, hk3⟩
  have HK := zB ((zA HX).trans hk3)
  clear hk3
  cases hr : rightB i with
  | true =>
   have := zA HE2
   rw [hr] at this
   simp at this
   subst this
   go_wp2_with fail
   go_ret
   exact ⟨rfl, zA HK⟩
  | false =>
   have := zA HE2
   rw [hr] at this
   simp at this
   subst this
   go_wp2_with fail
   go_ret
   exact ⟨rfl, zA HK⟩
set_option maxHeartbeats 4000000
theorem bytesC_snoc {l : List ValA} {k : Nat} {x : ValA} (h : l[k]? = some x) : bytesC (l.take (k + 1)) = bytesC (l.take k) ++ oneB x := by
 rw [take_snoc _ _ _ h, bytesC_append]
 simp [bytesC]
theorem oneB_len {i : ValA} (h : formB i = 0) (hI : -9223372036854775808 ≤ i.n ∧ i.n ≤ 9223372036854775807) : (oneB i).length ≤ 22 := by
 obtain ⟨h1, h2⟩ := formB_zero h
 obtain ⟨_, _, r2, _, _⟩ := rightB_at h2
 have hg := groups_10 _ (tn_le i.n hI.1 hI.2)
 unfold oneB tailB
 simp only [List.length_cons]
 repeat' split
 ·omega
 ·rename_i h3; have := (r2 h3).2; simp only [List.length_cons]; omega
 ·simp
 ·simp
theorem bytesC_le : ∀ (l : List ValA), (∀ i ∈ l, formB i = 0) → InR l → (bytesC l).length ≤ 22 * l.length
 | [], _, _ => by simp [bytesC]
 | i :: l, h, hI => by
  have h1 := oneB_len (h i (by simp)) (hI i (by simp))
  have h2 := bytesC_le l (fun j hj => h j (by simp [hj])) (fun j hj => hI j (by simp [hj]))
  rw [bytesC_cons]
  simp only [List.length_append, List.length_cons]
  omega
theorem far_cell {w w' : World} {row : Option Nat} {b o : Nat} {x : Value} (h : w.grownBy w' row) (hb : b < w.heap.size) (hn : row ≠ some b) (hc : w.cell? ⟨b, o, none⟩ = some x) : w'.cell? ⟨b, o, none⟩ = some x := by
 rw [h.cell_far _ hb (Ne.symm hn)]
 exact hc
theorem bytesOf_v (l : List ValA) (v : Value) (w : World) (hO : Ops w) (hT : Types w) (h : Wr w v l) (hl : l.length ≤ 96) (hF : ∀ i ∈ l, formB i = 0) (hI : InR l) :
  Calls Tryz.prog 109 #[v] w fun e w' => ∃ v', e = .returned v' ∧ w'.ownsRow w.heap.size 5 1 v' (bytesC l).length (bs (bytesC l)) ∧ Wp (fun _ => False) w w' := by
 obtain ⟨i0, hi, hz0, hz1, hz2⟩ := info_parts Tryz.info5
 obtain ⟨ao, cap, rfl⟩ := Ws.form h
 have HO := zB hO
 have HT := zB hT
 have HV := zB h
 have HF := zB hF
 have HI := zB hI
 clear hO hT h hF hI
 go_enter Tryz.func109, Tryz.ntmps109
 go_wp2_with fail
 go_loopw [3, 8] (fun o i wr => ∃ k : Nat, k ≤ l.length ∧ i = .int .i64 k ∧ wr.ownsRow w.heap.size 5 1 o (bytesC (l.take k)).length (bs (bytesC (l.take k))) ∧ Wp (fun _ => False) w wr) (fun _ i _ => l.length - (intOf i).toNat)
 case atStart => exact ⟨0, Nat.zero_le _, rfl, World.ownsRow_nil _ w.heap.size 5 1, Wp.refl _ _⟩
 case round =>
  obtain ⟨k, hk, rfl, hown, hkp⟩ := hrel
  have HW := zB hown
  have HK := zB hkp
  have HBL : Hid ((bytesC (l.take k)).length ≤ 2112) := by
   have := bytesC_le (l.take k) (fun i hi => (zA HF) i (List.mem_of_mem_take hi)) (fun i hi => (zA HI) i (List.mem_of_mem_take hi))
   rw [List.length_take] at this
   show _ ≤ _
   omega
  by_cases hlt : k < l.length
  ·obtain ⟨x, hx⟩ : ∃ x, l[k]? = some x := ⟨_, List.getElem?_eq_getElem hlt⟩
   obtain ⟨b, off, c, e, hbl, hc⟩ := (zA HV).cells (by omega)
   simp at e
   obtain ⟨rfl, rfl⟩ := e
   have c0 := (hkp.cell hbl id).trans (hc k x hx).1
   have c1 := (hkp.cell hbl id).trans (hc k x hx).2.1
   have c2 := (hkp.cell hbl id).trans (hc k x hx).2.2
   have hxf := (zA HF) x (List.mem_of_getElem? hx)
   have hxi := (zA HI) x (List.mem_of_getElem? hx)
   obtain ⟨ho1, ho2⟩ := formB_zero hxf
   obtain ⟨r1, r2⟩ := opdB_range ho1
   have HS := zB (bytesC_snoc hx)
   have HR := zB (rightB_at ho2)
   have hoc := opd_cases ho1
   obtain ⟨kd, n, s⟩ := x
   simp only at *
   obtain ⟨m, rfl⟩ := Int.eq_ofNat_of_zero_le (show 0 ≤ kd by omega)
   have hu8 : num (u8 (m : Int)) = (m : Int) := u8_num (by omega) (by omega)
   have HU := zB hu8
   have i1 : (k : Int) < (l.length : Int) := by omega
   have i0' : (0 : Int) ≤ (k : Int) := by omega
   have m1 : (m : Int) ≤ 26 := by omega
   have m0 : (0 : Int) ≤ (m : Int) := by omega
   have m27 : (m : Int) < 27 := by omega
   have hw8 : IntKind.u8.wrap (m : Int) = (m : Int) := by rw [IntKind.wrap_u8]; omega
   have hsz := hkp.size
   have hne : u3.ownBlock ≠ some wr.heap.size := fun e => by have := (hown.lt _ e).2; omega
   clear hc hx hown hkp hu8 ho1 ho2 hxf
   generalize bytesC (l.take k) = D at *
   obtain ⟨HX, hxb, hxc⟩ := boxed wr #[.int .i64 (m : Int), .int .i64 n, str s] 60
   have HKA := zB ((zA HK).trans (zA HX))
   obtain ⟨HX2, _, _⟩ := boxed (wr.alloc (.cells #[.int .i64 (m : Int), .int .i64 n, str s] 60)) #[.int .u8 (m : Int)] 5
   have a0 := ((zA HX2).cell hxb id).trans (hxc 0 _ rfl)
   have a1 := ((zA HX2).cell hxb id).trans (hxc 1 _ rfl)
   have a2 := ((zA HX2).cell hxb id).trans (hxc 2 _ rfl)
   clear hxc HX HX2
   rcases hoc with ⟨e1, e2⟩ | ⟨e1, e2⟩ | ⟨e1, e2⟩ | hdef
   ·have HT0 : Hid (oneB ⟨m, n, s⟩ = [u8 m]) := by show _ = _; simp [oneB, tailB, e2]
    clear e2
    go_wp2_with (at_builtin; refine wpList_append_lies _ rfl _ _ _ rfl w.heap.size 5 i0 _ 1 1 Tryz.underlying42 hi hz0 hz1 hz2 rfl (by omega) u3 D.length (bs D) rfl (((zA HW).alloc _).alloc _) ⟨wr.heap.size + 1, 0, none⟩ 1 1 [.int .u8 (m : Int)] rfl rfl (World.news_of_block (cs := #[.int .u8 (m : Int)]) (t := 5) (fr := (0, 0)) (by have q := heap_alloc_new (wr.alloc (.cells #[.int .i64 (m : Int), .int .i64 n, str s] 60)) (.cells #[.int .u8 (m : Int)] 5); rw [World.size_alloc] at q; exact q)) (by simp [Value.oneCell']) (by omega) (by have := zA HBL; unfold maxLen; omega) (by have := zA HBL; omega) (by simp; omega) (wr.heap.size + 2) (by simp) ?_; intro g cap w2 hown1 hgrow hat hlt1; have d1 := far_cell hgrow (by simp; omega) hne a1; have d2 := far_cell hgrow (by simp; omega) hne a2; have d0 := far_cell hgrow (by simp; omega) hne a0; have HK2 := zB (((zA HKA).alloc _).grown hgrow (fun q e hq => by have := ((zA HW).lt q e).1; omega)); have g1 := ((((zA HO).keepF (zA HK2)).at (m := m) (by omega)).1); rw [e1] at g1; have HO1 := zB hown1; have hs2 : wr.heap.size + 2 ≤ w2.heap.size := (by have := hgrow.size; simp at this; omega); have hne2 : (Value.slice (some ⟨g, 0, none⟩) (D.length + 1) cap).ownBlock ≠ some wr.heap.size := (by show (some g : Option Nat) ≠ _; rcases hat with h | h; (rw [← h]; exact hne); (intro e; simp at e; omega)); clear hown1 hgrow hat; have mark : True := trivial)
    go_roundw
    case rel =>
     refine ⟨k + 1, by omega, by go_num, ?_, zA HK2⟩
     rw [zA HS, zA HT0]
     simpa [bs, zA HU] using zA HO1
    case measure => simp [intOf]; omega
   ·have HT0 : Hid (oneB ⟨m, n, s⟩ = u8 m :: groups (tn n)) := by show _ = _; simp [oneB, tailB, e2]
    have HG := zB (groups_10 _ (tn_le n hxi.1 hxi.2))
    have HGP : Hid (0 < (groups (tn n)).length) := by
     show _ < _
     by_cases hg : tn n < 128
     ·rw [groups_small hg]; simp
     ·rw [groups_big (by omega)]; simp
    have HIB : Hid (∀ w2 : World, Types w2 → _) := fun w2 ht => intBytes_v n w2 ht hxi.1 hxi.2
    clear e2
    generalize groups (tn n) = G at *
    go_wp2_with (first | (at_builtin; refine wpList_append_lies _ rfl _ _ _ rfl w.heap.size 5 i0 _ 1 1 Tryz.underlying42 hi hz0 hz1 hz2 rfl (by omega) u3 D.length (bs D) rfl (((zA HW).alloc _).alloc _) ⟨wr.heap.size + 1, 0, none⟩ 1 1 [.int .u8 (m : Int)] rfl rfl (World.news_of_block (cs := #[.int .u8 (m : Int)]) (t := 5) (fr := (0, 0)) (by have q := heap_alloc_new (wr.alloc (.cells #[.int .i64 (m : Int), .int .i64 n, str s] 60)) (.cells #[.int .u8 (m : Int)] 5); rw [World.size_alloc] at q; exact q)) (by simp [Value.oneCell']) (by omega) (by have := zA HBL; unfold maxLen; omega) (by have := zA HBL; omega) (by simp; omega) (wr.heap.size + 2) (by simp) ?_; intro g cap w2 hown1 hgrow hat hlt1; have d1 := far_cell hgrow (by simp; omega) hne a1; have d2 := far_cell hgrow (by simp; omega) hne a2; have d0 := far_cell hgrow (by simp; omega) hne a0; have HK2 := zB (((zA HKA).alloc _).grown hgrow (fun q e hq => by have := ((zA HW).lt q e).1; omega)); have g1 := ((((zA HO).keepF (zA HK2)).at (m := m) (by omega)).1); rw [e1] at g1; have HO1 := zB hown1; have hs2 : wr.heap.size + 2 ≤ w2.heap.size := (by have := hgrow.size; simp at this; omega); have hne2 : (Value.slice (some ⟨g, 0, none⟩) (D.length + 1) cap).ownBlock ≠ some wr.heap.size := (by show (some g : Option Nat) ≠ _; rcases hat with h | h; (rw [← h]; exact hne); (intro e; simp at e; omega)); clear hown1 hgrow hat; have mark : True := trivial) | (clear mark; fail))
    refine ((zA HIB) w2 ((zA HT).keepF (zA HK2))).mono ?_
    rintro e w3 ⟨v3, rfl, ho3, hk3⟩
    obtain ⟨g3, cap3, rfl, _, _⟩ := ho3.form (zA HGP)
    have HN3 := zB (zG ho3)
    have HO3 := zB (zI (zA HO1) hk3 (fun _ _ => id))
    have HK3 := zB ((zA HK2).trans hk3)
    have hs3 : w.heap.size ≤ w3.heap.size := (zA HK3).size
    obtain ⟨H3, hH3⟩ : ∃ H3, w3.heap.size = H3 := ⟨_, rfl⟩
    clear ho3 hk3 HIB
    have HNW : Hid (∀ j u, (bs G)[j]? = some u → w3.cell? ((⟨g3, 0, none⟩ : Addr).add j) = some u) := fun j u hu => by
     obtain ⟨b', off', cap', e', _, hc'⟩ := (zA HN3).cells (zA HGP)
     simp at e'
     obtain ⟨⟨rfl, rfl⟩, rfl⟩ := e'
     have h5 := hc' j u hu
     rw [Nat.zero_add] at h5
     have h6 : (⟨g3, 0, none⟩ : Addr).add j = ⟨g3, j, none⟩ := by cases j <;> simp [Addr.add]
     rw [h6]
     exact h5
    have HLG : Hid ((bs G).length = G.length * 1) := by show _ = _; rw [bs_length]; omega
    have HOC : Hid (∀ u ∈ bs G, u.oneCell' = true) := by
     intro u hu
     unfold bs at hu
     simp at hu
     obtain ⟨c, _, rfl⟩ := hu
     rfl
    have HB1 : Hid (D.length + 1 + G.length ≤ maxLen) := by have := zA HBL; have := zA HG; show _ ≤ _; unfold maxLen; omega
    have HB2 : Hid ((D.length + 1 + G.length) * 1 ≤ 140737488355328) := by have := zA HBL; have := zA HG; show _ ≤ _; omega
    go_wp2_with (at_builtin; refine wpList_append_lies _ rfl _ _ _ rfl w.heap.size 5 i0 _ 1 1 Tryz.underlying42 hi hz0 hz1 hz2 rfl (by omega) (.slice (some ⟨g, 0, none⟩) (D.length + 1) cap) (D.length + 1) _ rfl (zA HO3) ⟨g3, 0, none⟩ G.length cap3 (bs G) rfl (zA HLG) (zA HNW) (zA HOC) (zA HGP) (zA HB1) (zA HB2) hs3 H3 hH3 ?_; intro g4 cap4 w4 hown4 hgrow4 hat4 hlt4; have HO4 := zB hown4; have HK4 := zB ((zA HK3).grown hgrow4 (fun q e hq => by have := ((zA HO3).lt q e).1; omega)); clear hown4 hgrow4 hat4)
    go_roundw
    case rel =>
     refine ⟨k + 1, by omega, by go_num, ?_, zA HK4⟩
     rw [zA HS, zA HT0]
     have h4 := zA HO4
     rw [List.append_assoc] at h4
     have e5 : bs (D ++ u8 m :: G) = bs D ++ ([.int .u8 (m : Int)] ++ bs G) := by simp [bs, zA HU]
     rw [e5, show (D ++ u8 m :: G).length = D.length + 1 + G.length by simp; omega]
     exact h4
    case measure => simp [intOf]; omega
   ·have HT0 : Hid (oneB ⟨m, n, s⟩ = u8 m :: UInt8.ofNat s.length :: s) := by show _ = _; simp [oneB, tailB, e2]
    have hs20 := ((zA HR).2.2.1 e2).2
    have HC : Hid (num (UInt8.ofNat s.length) = (s.length : Int)) := num_of _ (by omega)
    have hl20 : (s.length : Int) ≤ 20 := by omega
    have hw9 : IntKind.u8.wrap (s.length : Int) = (s.length : Int) := by rw [IntKind.wrap_u8]; omega
    clear e2
    generalize UInt8.ofNat s.length = cL at *
    go_wp2_with (first | (at_builtin; refine wpList_append_lies _ rfl _ _ _ rfl w.heap.size 5 i0 _ 1 1 Tryz.underlying42 hi hz0 hz1 hz2 rfl (by omega) u3 D.length (bs D) rfl (((zA HW).alloc _).alloc _) ⟨wr.heap.size + 1, 0, none⟩ 1 1 [.int .u8 (m : Int)] rfl rfl (World.news_of_block (cs := #[.int .u8 (m : Int)]) (t := 5) (fr := (0, 0)) (by have q := heap_alloc_new (wr.alloc (.cells #[.int .i64 (m : Int), .int .i64 n, str s] 60)) (.cells #[.int .u8 (m : Int)] 5); rw [World.size_alloc] at q; exact q)) (by simp [Value.oneCell']) (by omega) (by have := zA HBL; unfold maxLen; omega) (by have := zA HBL; omega) (by simp; omega) (wr.heap.size + 2) (by simp) ?_; intro g cap w2 hown1 hgrow hat hlt1; have d1 := far_cell hgrow (by simp; omega) hne a1; have d2 := far_cell hgrow (by simp; omega) hne a2; have d0 := far_cell hgrow (by simp; omega) hne a0; have HK2 := zB (((zA HKA).alloc _).grown hgrow (fun q e hq => by have := ((zA HW).lt q e).1; omega)); have g1 := ((((zA HO).keepF (zA HK2)).at (m := m) (by omega)).1); rw [e1] at g1; have HO1 := zB hown1; have hs2 : wr.heap.size + 2 ≤ w2.heap.size := (by have := hgrow.size; simp at this; omega); have hne2 : (Value.slice (some ⟨g, 0, none⟩) (D.length + 1) cap).ownBlock ≠ some wr.heap.size := (by show (some g : Option Nat) ≠ _; rcases hat with h | h; (rw [← h]; exact hne); (intro e; simp at e; omega)); clear hown1 hgrow hat; have mark : True := trivial) | (clear mark; fail))
    have HQ := zB (appendStr_v w.heap.size (.slice (some ⟨g, 0, none⟩) (D.length + 1) cap) _ (D.length + 1) s w2 (zA HO1) (by have := zA HBL; omega) (by omega) (by omega))
    refine (zA HQ).mono ?_
    rintro e w6 ⟨v6, rfl, ho6, hk6⟩
    have HK6 := zB ((zA HK2).then hk6 (fun i hi e => by have := ((zA HO1).lt i e).1; omega))
    have HO6 := zB ho6
    clear ho6 hk6 HQ
    go_wp2_with fail
    go_roundw
    case rel =>
     refine ⟨k + 1, by omega, by go_num, ?_, zA HK6⟩
     rw [zA HS, zA HT0]
     have h6 := zA HO6
     rw [List.append_assoc, List.append_assoc] at h6
     have e5 : bs (D ++ u8 m :: cL :: s) = bs D ++ ([.int .u8 (m : Int)] ++ ([.int .u8 (s.length : Int)] ++ bs s)) := by simp [bs, zA HU, zA HC]
     rw [e5, show (D ++ u8 m :: cL :: s).length = D.length + 1 + 1 + s.length by simp; omega]
     exact h6
    case measure => simp [intOf]; omega
   ·obtain ⟨d, e1, t0, t1, t2, e2, hn0, hn1⟩ : ∃ d, (opA (m : Int)).opd = d ∧ (d == 0) = false ∧ (d == 1) = false ∧ (d == 2) = false ∧ (opdB (m : Int) = 3 ∨ opdB (m : Int) = 4) ∧ 0 ≤ n ∧ n ≤ 255 := by
     rcases hdef with ⟨e1, e2⟩ | ⟨e1, e2⟩ | ⟨e1, e2⟩ | ⟨e1, e2⟩
     ·exact ⟨_, e1, rfl, rfl, rfl, Or.inl e2, by have := ((zA HR).2.2.2.1 e2).1; omega⟩
     ·exact ⟨_, e1, rfl, rfl, rfl, Or.inl e2, by have := ((zA HR).2.2.2.1 e2).1; omega⟩
     ·exact ⟨_, e1, rfl, rfl, rfl, Or.inl e2, by have := ((zA HR).2.2.2.1 e2).1; omega⟩
     ·exact ⟨_, e1, rfl, rfl, rfl, Or.inr e2, by have := ((zA HR).2.2.2.2 e2).1; omega⟩
    have HT0 : Hid (oneB ⟨m, n, s⟩ = [u8 m, u8 n]) := by show _ = _; rcases e2 with e2 | e2 <;> simp [oneB, tailB, e2]
    have HN := zB (u8_num hn0 hn1)
    have hw9 : IntKind.u8.wrap n = n := by rw [IntKind.wrap_u8]; omega
    clear e2 hdef
    go_wp2_with (first | (at_builtin; refine wpList_append_lies _ rfl _ _ _ rfl w.heap.size 5 i0 _ 1 1 Tryz.underlying42 hi hz0 hz1 hz2 rfl (by omega) u3 D.length (bs D) rfl (((zA HW).alloc _).alloc _) ⟨wr.heap.size + 1, 0, none⟩ 1 1 [.int .u8 (m : Int)] rfl rfl (World.news_of_block (cs := #[.int .u8 (m : Int)]) (t := 5) (fr := (0, 0)) (by have q := heap_alloc_new (wr.alloc (.cells #[.int .i64 (m : Int), .int .i64 n, str s] 60)) (.cells #[.int .u8 (m : Int)] 5); rw [World.size_alloc] at q; exact q)) (by simp [Value.oneCell']) (by omega) (by have := zA HBL; unfold maxLen; omega) (by have := zA HBL; omega) (by simp; omega) (wr.heap.size + 2) (by simp) ?_; intro g cap w2 hown1 hgrow hat hlt1; have d1 := far_cell hgrow (by simp; omega) hne a1; have d2 := far_cell hgrow (by simp; omega) hne a2; have d0 := far_cell hgrow (by simp; omega) hne a0; have HK2 := zB (((zA HKA).alloc _).grown hgrow (fun q e hq => by have := ((zA HW).lt q e).1; omega)); have g1 := ((((zA HO).keepF (zA HK2)).at (m := m) (by omega)).1); rw [e1] at g1; have HO1 := zB hown1; have hs2 : wr.heap.size + 2 ≤ w2.heap.size := (by have := hgrow.size; simp at this; omega); have hne2 : (Value.slice (some ⟨g, 0, none⟩) (D.length + 1) cap).ownBlock ≠ some wr.heap.size := (by show (some g : Option Nat) ≠ _; rcases hat with h | h; (rw [← h]; exact hne); (intro e; simp at e; omega)); clear hown1 hgrow hat; have mark : True := trivial) | (clear mark; at_builtin; refine wpList_append_lies _ rfl _ _ _ rfl w.heap.size 5 i0 _ 1 1 Tryz.underlying42 hi hz0 hz1 hz2 rfl (by omega) (.slice (some ⟨g, 0, none⟩) (D.length + 1) cap) (D.length + 1) _ rfl ((zA HO1).alloc _) ⟨w2.heap.size, 0, none⟩ 1 1 [.int .u8 n] rfl rfl (World.news_of_block (cs := #[.int .u8 n]) (t := 5) (fr := (0, 0)) (heap_alloc_new w2 (.cells #[.int .u8 n] 5))) (by simp [Value.oneCell']) (by omega) (by have := zA HBL; unfold maxLen; omega) (by have := zA HBL; omega) (by simp; omega) (w2.heap.size + 1) (by simp) ?_; intro g4 cap4 w4 hown4 hgrow4 hat4 hlt4; have HO4 := zB hown4; have HK4 := zB (((zA HK2).alloc _).grown hgrow4 (fun q e hq => by have := ((zA HO1).lt q e).1; omega)); clear hown4 hgrow4 hat4))
    go_roundw
    case rel =>
     refine ⟨k + 1, by omega, by go_num, ?_, zA HK4⟩
     rw [zA HS, zA HT0]
     have h4 := zA HO4
     rw [List.append_assoc] at h4
     have e5 : bs (D ++ [u8 m, u8 n]) = bs D ++ ([.int .u8 (m : Int)] ++ [.int .u8 n]) := by simp [bs, zA HU, zA HN]
     rw [e5, show (D ++ [u8 m, u8 n]).length = D.length + 1 + 1 by simp]
     exact h4
    case measure => simp [intOf]; omega
  ·obtain rfl : k = l.length := by omega
   have i1 : ¬ (l.length : Int) < (l.length : Int) := by omega
   rw [List.take_length] at HW
   clear hown hkp hlt
   go_wp2_with fail
   go_ret
   exact ⟨_, rfl, zA HW, zA HK⟩
set_option maxHeartbeats 2000000
theorem operand_v (o : Int) (w : World) : Calls Tryz.prog 83 #[.int .i64 o] w fun e w' => e = .returned (.int .i64 (opdB o)) ∧ w' = w := by
 go_enter Tryz.func83, Tryz.ntmps83
 go_wp2
 all_goals
  go_ret
  refine ⟨ret_int ?_, rfl⟩
  unfold opdB
  simp at *
  first | (simp_all; done) | (simp_all; omega) | (split <;> omega) | (repeat' split) <;> omega
theorem form_v (i : ValA) (w : World) : Calls Tryz.prog 119 #[i.v] w fun e w' => e = .returned (.int .i64 (formB i)) ∧ Wp (fun _ => False) w w' := by
 obtain ⟨k, n, s⟩ := i
 unfold ValA.v
 obtain ⟨HX, hxb, hxc⟩ := boxed w #[.int .i64 k, .int .i64 n, str s] 60
 have f0 := hxc 0 (.int .i64 k) rfl
 have f1 := hxc 1 (.int .i64 n) rfl
 have f2 := hxc 2 (str s) rfl
 have HQ := zB (operand_v k (w.alloc (.cells #[.int .i64 k, .int .i64 n, str s] 60)))
 clear hxc hxb
 rcases opdB_cases k with e1 | e1 | e1 | e1 | e1 | e1
 all_goals
  rw [e1] at HQ
  have HE := zB e1
  clear e1
  go_enter Tryz.func119, Tryz.ntmps119
  go_wp2_with (go_at_call 83; refine (zA HQ).mono ?_; rintro e w' ⟨rfl, rfl⟩)
  all_goals
   go_ret
   refine ⟨ret_int ?_, (Wp.refl _ _).alloc _⟩
   have e2 := zA HE
   clear HE HX f0 f1 f2 HQ
   unfold formB rightB
   simp only [e2]
   first | rfl | (simp_all; done) | (simp_all; omega) | (simp at *; omega)
theorem xorU (a : Int) (h0 : 0 ≤ a) (h1 : a < 18446744073709551616) : bits .xor .u64 IntKind.u64.max a = 18446744073709551615 - a := by
 show IntKind.u64.wrap ((BitVec.ofInt 64 18446744073709551615 ^^^ BitVec.ofInt 64 a).toNat : Int) = _
 rw [show BitVec.ofInt 64 18446744073709551615 = BitVec.allOnes 64 from rfl, BitVec.allOnes_xor, BitVec.toNat_not, BitVec.toNat_ofInt, IntKind.wrap_u64]
 omega
theorem turn_neg (n : Int) (h0 : -9223372036854775808 ≤ n) (h : n < 0) : bits .xor .u64 IntKind.u64.max (IntKind.u64.wrap (IntKind.u64.wrap n * 2)) = (tn n : Int) := by
 have e : IntKind.u64.wrap (IntKind.u64.wrap n * 2) = (n * 2) % 18446744073709551616 := by
  rw [IntKind.wrap_u64, IntKind.wrap_u64]
  omega
 rw [e, xorU _ (by omega) (by omega), ← tn_eq]
 unfold turned
 rw [if_neg (by omega)]
 omega
theorem turn_pos (n : Int) (h : ¬ n < 0) : n * 2 = (tn n : Int) := by
 rw [← tn_eq]
 unfold turned
 rw [if_pos (by omega)]
 omega
theorem turned_v (n : Int) (h0 : -9223372036854775808 ≤ n) (h1 : n ≤ 9223372036854775807) (w : World) :
  Calls Tryz.prog 142 #[.int .i64 n] w fun e w' => ∃ v, e = .returned v ∧ w'.ownsRow w.heap.size 5 1 v (groups (tn n)).length (bs (groups (tn n))) ∧ Wp (fun _ => False) w w' := by
 obtain ⟨i0, hi, hz0, hz1, hz2⟩ := info_parts Tryz.info5
 have hu := tn_le n h0 h1
 have HG := zB (groups_10 _ hu)
 have HTN : Hid (n < 0 → _) := turn_neg n h0
 have HTP : Hid (¬ n < 0 → _) := turn_pos n
 generalize tn n = U at *
 by_cases hn : n < 0
 case' pos =>
  have HT := zB (zA HTN hn)
  clear HTN HTP
  go_enter Tryz.func142, Tryz.ntmps142
  go_wp2_with fail
 case' neg =>
  have HT := zB (zA HTP hn)
  clear HTN HTP
  go_enter Tryz.func142, Tryz.ntmps142
  go_wp2_with fail
 all_goals
  rw [zA HT]
  clear HT
  go_loopw [3, 4] (fun u o wr => ∃ (k : Nat) (d : Txt), u = .int .u64 k ∧ k ≤ U ∧ Hid (groups U = d ++ groups k) ∧ wr.ownsRow w.heap.size 5 1 o d.length (bs d) ∧ Wp (fun _ => False) w wr) (fun u _ _ => (intOf u).toNat)
  case atStart => exact ⟨U, [], rfl, Nat.le_refl _, rfl, World.ownsRow_nil _ w.heap.size 5 1, Wp.refl _ _⟩
  case round =>
   obtain ⟨k, d, rfl, hk, HD, hown, hkp⟩ := hrel
   have HO := zB hown
   have HK := zB hkp
   have hd : d.length ≤ 10 := by have h := congrArg List.length (zA HD); have := zA HG; simp at h; omega
   clear hown hkp
   by_cases hge : 128 ≤ k
   ·have HC : Hid (num (UInt8.ofNat (k % 128 + 128)) = (k : Int) % 128 + 128) := by show _ = _; rw [num_of _ (by omega)]; omega
    generalize hc : UInt8.ofNat (k % 128 + 128) = c at *
    have HCC := zB hc
    clear hc
    have hge' : (128 : Int) ≤ (k : Int) := by omega
    go_wp2_with (at_builtin; refine wpList_append_lies _ rfl _ _ _ rfl w.heap.size 5 i0 _ 1 1 Tryz.underlying42 hi hz0 hz1 hz2 rfl (by omega) u4 d.length (bs d) rfl ((zA HO).alloc _) ⟨wr.heap.size, 0, none⟩ 1 1 [.int .u8 ((k : Int) % 128 + 128)] rfl rfl (World.news_of_block (cs := #[.int .u8 ((k : Int) % 128 + 128)]) (t := 5) (fr := (0, 0)) (heap_alloc_new wr _)) (by simp [Value.oneCell']) (by omega) (by unfold maxLen; omega) (by omega) (by have := (zA HK).size; simp; omega) (wr.heap.size + 1) (by simp) ?_; intro g cap w2 hown1 hgrow hat hlt1)
    go_roundw
    case rel =>
     refine ⟨k / 128, d ++ [c], by go_num, by omega, ?_, ?_, ?_⟩
     ·show _ = _
      rw [zA HD, groups_big hge, zA HCC]; simp
     ·have h := hown1
      simp only [List.length_append, List.length_singleton, bs, List.map_append, List.map_cons, List.map_nil, zA HC] at h ⊢
      exact h
     ·exact ((zA HK).alloc _).grown hgrow (fun q e hq => by have := ((zA HO).lt q e).1; omega)
    case measure => simp [intOf]; omega
   ·have HC : Hid (num (UInt8.ofNat k) = (k : Int)) := num_of k (by omega)
    generalize hc : UInt8.ofNat k = c at *
    have HCC := zB hc
    clear hc
    have hge' : (k : Int) < 128 := by omega
    go_wp2_with (at_builtin; refine wpList_append_lies _ rfl _ _ _ rfl w.heap.size 5 i0 _ 1 1 Tryz.underlying42 hi hz0 hz1 hz2 rfl (by omega) u4 d.length (bs d) rfl ((zA HO).alloc _) ⟨wr.heap.size, 0, none⟩ 1 1 [.int .u8 (k : Int)] rfl rfl (World.news_of_block (cs := #[.int .u8 (k : Int)]) (t := 5) (fr := (0, 0)) (heap_alloc_new wr _)) (by simp [Value.oneCell']) (by omega) (by unfold maxLen; omega) (by omega) (by have := (zA HK).size; simp; omega) (wr.heap.size + 1) (by simp) ?_; intro g cap w2 hown1 hgrow hat hlt1)
    go_ret
    refine ⟨_, rfl, ?_, ?_⟩
    ·have h := hown1
     rw [zA HD, groups_small (by omega), zA HCC]
     simp only [List.length_append, List.length_singleton, bs, List.map_append, List.map_cons, List.map_nil, zA HC] at h ⊢
     exact h
    ·exact ((zA HK).alloc _).grown hgrow (fun q e hq => by have := ((zA HO).lt q e).1; omega)
set_option maxHeartbeats 4000000
theorem owns_one (w1 : World) (B b : Nat) (x : Value) (hB : B ≤ b) (hb : b = w1.heap.size) : (w1.alloc (.cells #[x] 5)).ownsRow B 5 1 (.slice (some ⟨b, 0, none⟩) 1 1) 1 [x] := by
 subst hb
 exact ⟨rfl, Or.inr ⟨w1.heap.size, 1, #[x], rfl, hB, heap_alloc_new w1 _, Nat.le_refl _, by unfold maxLen; omega, by simp, by simp⟩⟩
theorem news_row {w : World} {B t n : Nat} {g cap : Nat} {xs : List Value} (h : w.ownsRow B t 1 (.slice (some ⟨g, 0, none⟩) n cap) n xs) (h0 : 0 < n) : ∀ j u, xs[j]? = some u → w.cell? ((⟨g, 0, none⟩ : Addr).add j) = some u := fun j u hu => by
 obtain ⟨b', off', cap', e', _, hc'⟩ := (zG h).cells h0
 simp at e'
 obtain ⟨⟨rfl, rfl⟩, rfl⟩ := e'
 have h5 := hc' j u hu
 rw [Nat.zero_add] at h5
 have h6 : (⟨g, 0, none⟩ : Addr).add j = ⟨g, j, none⟩ := by cases j <;> simp [Addr.add]
 rw [h6]
 exact h5
theorem bs_one (G : Txt) : ∀ u ∈ bs G, u.oneCell' = true := by
 intro u hu
 unfold bs at hu
 simp at hu
 obtain ⟨c, _, rfl⟩ := hu
 rfl
theorem groups_pos (u : Nat) : 0 < (groups u).length := by
 by_cases hg : u < 128
 ·rw [groups_small hg]; simp
 ·rw [groups_big (by omega)]; simp
theorem one_v (i : ValA) (w : World) (hF : formB i = 0) (hI : -9223372036854775808 ≤ i.n ∧ i.n ≤ 9223372036854775807) :
  Calls Tryz.prog 120 #[i.v] w fun e w' => ∃ v, e = .returned v ∧ w'.ownsRow w.heap.size 5 1 v (oneB i).length (bs (oneB i)) ∧ Wp (fun _ => False) w w' := by
 obtain ⟨j0, hi, hz0, hz1, hz2⟩ := info_parts Tryz.info5
 obtain ⟨ho1, ho2⟩ := formB_zero hF
 obtain ⟨r1, r2⟩ := opdB_range ho1
 have hr := rightB_at ho2
 obtain ⟨kd, n, s⟩ := i
 unfold ValA.v
 simp only at *
 obtain ⟨m, rfl⟩ := Int.eq_ofNat_of_zero_le (show 0 ≤ kd by omega)
 have HU := zB (u8_num (n := (m : Int)) (by omega) (by omega))
 have m1 : (m : Int) ≤ 26 := by omega
 have m0 : (0 : Int) ≤ (m : Int) := by omega
 have hw8 : IntKind.u8.wrap (m : Int) = (m : Int) := by rw [IntKind.wrap_u8]; omega
 obtain ⟨HX, hxb, hxc⟩ := boxed w #[.int .i64 (m : Int), .int .i64 n, str s] 60
 have b0 := hxc 0 (.int .i64 (m : Int)) rfl
 obtain ⟨HY, hyb, _⟩ := boxed (w.alloc (.cells #[.int .i64 (m : Int), .int .i64 n, str s] 60)) #[.int .u8 (m : Int)] 5
 have a0 := ((zA HY).cell hxb id).trans (hxc 0 (.int .i64 (m : Int)) rfl)
 have a1 := ((zA HY).cell hxb id).trans (hxc 1 (.int .i64 n) rfl)
 have a2 := ((zA HY).cell hxb id).trans (hxc 2 (str s) rfl)
 have HK := zB ((zA HX).trans (zA HY))
 have HW := zB (owns_one (w.alloc (.cells #[.int .i64 (m : Int), .int .i64 n, str s] 60)) w.heap.size (w.heap.size + 1) (.int .u8 (m : Int)) (by omega) (by simp))
 have hsz : ((w.alloc (.cells #[.int .i64 (m : Int), .int .i64 n, str s] 60)).alloc (.cells #[.int .u8 (m : Int)] 5)).heap.size = w.heap.size + 2 := by simp
 have HQ := zB (operand_v (m : Int) ((w.alloc (.cells #[.int .i64 (m : Int), .int .i64 n, str s] 60)).alloc (.cells #[.int .u8 (m : Int)] 5)))
 have HR := zB hr
 have HE : Hid (oneB ⟨m, n, s⟩ = u8 m :: tailB ⟨m, n, s⟩) := rfl
 have HI := zB hI
 have hne : (Value.slice (some ⟨w.heap.size + 1, 0, none⟩) 1 1).ownBlock ≠ some w.heap.size := by show (some (w.heap.size + 1) : Option Nat) ≠ _; simp
 clear hxc HX HY hr hI hF ho2 hxb hyb
 rcases opdB_cases (m : Int) with e1 | e1 | e1 | e1 | e1 | e1
 ·exact absurd e1 ho1
 ·have HT : Hid (tailB ⟨m, n, s⟩ = []) := by show _ = _; simp [tailB, e1]
  rw [e1] at HQ
  clear e1 ho1
  go_enter Tryz.func120, Tryz.ntmps120
  go_wp2_with (go_at_call 83; refine (zA HQ).mono ?_; rintro e w' ⟨rfl, rfl⟩)
  go_ret
  refine ⟨_, rfl, ?_, zA HK⟩
  rw [zA HE, zA HT]
  simpa [bs, zA HU] using zA HW
 ·have HT : Hid (tailB ⟨m, n, s⟩ = groups (tn n)) := by show _ = _; simp [tailB, e1]
  rw [e1] at HQ
  have HG := zB (groups_10 _ (tn_le n (zA HI).1 (zA HI).2))
  have HGP := zB (groups_pos (tn n))
  have HTU := zB (turned_v n (zA HI).1 (zA HI).2 ((w.alloc (.cells #[.int .i64 (m : Int), .int .i64 n, str s] 60)).alloc (.cells #[.int .u8 (m : Int)] 5)))
  clear e1 ho1
  generalize groups (tn n) = G at *
  go_enter Tryz.func120, Tryz.ntmps120
  go_wp2_with fail
  refine (zA HQ).mono ?_
  rintro e w' ⟨rfl, rfl⟩
  go_wp2_with fail
  refine (zA HTU).mono ?_
  rintro e w3 ⟨v3, rfl, ho3, hk3⟩
  obtain ⟨g3, cap3, rfl, _, _⟩ := ho3.form (zA HGP)
  have HN3 := zB (news_row ho3 (zA HGP))
  have HO3 := zB (zI (zA HW) hk3 (fun _ _ => id))
  have HK3 := zB ((zA HK).trans hk3)
  have hs3 : w.heap.size ≤ w3.heap.size := (zA HK3).size
  obtain ⟨H3, hH3⟩ : ∃ H3, w3.heap.size = H3 := ⟨_, rfl⟩
  have HLG : Hid ((bs G).length = G.length * 1) := by show _ = _; rw [bs_length]; omega
  have HB1 : Hid (1 + G.length ≤ maxLen) := by have := zA HG; show _ ≤ _; unfold maxLen; omega
  have HB2 : Hid ((1 + G.length) * 1 ≤ 140737488355328) := by have := zA HG; show _ ≤ _; omega
  clear ho3 hk3 HTU HQ
  go_wp2_with (at_builtin; refine wpList_append_lies _ rfl _ _ _ rfl w.heap.size 5 j0 _ 1 1 Tryz.underlying42 hi hz0 hz1 hz2 rfl (by omega) (.slice (some ⟨w.heap.size + 1, 0, none⟩) 1 1) 1 _ rfl (zA HO3) ⟨g3, 0, none⟩ G.length cap3 (bs G) rfl (zA HLG) (zA HN3) (bs_one G) (zA HGP) (zA HB1) (zA HB2) hs3 H3 hH3 ?_; intro g4 cap4 w4 hown4 hgrow4 hat4 hlt4; have HO4 := zB hown4; have HK4 := zB ((zA HK3).grown hgrow4 (fun q e hq => by have := ((zA HO3).lt q e).1; omega)); clear hown4 hgrow4 hat4)
  go_ret
  refine ⟨_, rfl, ?_, zA HK4⟩
  rw [zA HE, zA HT]
  have h4 := zA HO4
  have e5 : bs (u8 m :: G) = [.int .u8 (m : Int)] ++ bs G := by simp [bs, zA HU]
  rw [e5, show (u8 m :: G).length = 1 + G.length by simp; omega]
  exact h4
 ·have HT : Hid (tailB ⟨m, n, s⟩ = UInt8.ofNat s.length :: s) := by show _ = _; simp [tailB, e1]
  rw [e1] at HQ
  have hs20 := ((zA HR).2.2.1 e1).2
  have HC : Hid (num (UInt8.ofNat s.length) = (s.length : Int)) := num_of _ (by omega)
  have hl20 : (s.length : Int) ≤ 20 := by omega
  have hw9 : IntKind.u8.wrap (s.length : Int) = (s.length : Int) := by rw [IntKind.wrap_u8]; omega
  clear e1 ho1
  generalize UInt8.ofNat s.length = cL at *
  go_enter Tryz.func120, Tryz.ntmps120
  go_wp2_with fail
  refine (zA HQ).mono ?_
  rintro e w' ⟨rfl, rfl⟩
  generalize (w.alloc (.cells #[.int .i64 (m : Int), .int .i64 n, str s] 60)).alloc (.cells #[.int .u8 (m : Int)] 5) = w3 at HW HK a2 hsz ⊢
  have hs0 : w.heap.size + 2 ≤ w3.heap.size := by omega
  clear a0 a1 b0 HQ hsz
  go_wp2_with (at_builtin; refine wpList_append_lies _ rfl _ _ _ rfl w.heap.size 5 j0 _ 1 1 Tryz.underlying42 hi hz0 hz1 hz2 rfl (by omega) (.slice (some ⟨w.heap.size + 1, 0, none⟩) 1 1) 1 _ rfl ((zA HW).alloc _) ⟨w3.heap.size, 0, none⟩ 1 1 [.int .u8 (s.length : Int)] rfl rfl (World.news_of_block (cs := #[.int .u8 (s.length : Int)]) (t := 5) (fr := (0, 0)) (heap_alloc_new w3 _)) (by simp [Value.oneCell']) (by omega) (by unfold maxLen; omega) (by omega) (by simp; omega) (w3.heap.size + 1) (by simp) ?_; intro g4 cap4 w4 hown4 hgrow4 hat4 hlt4; have d2 := far_cell hgrow4 (by simp; omega) hne (((Wp.refl (fun _ => False) w3).alloc _).cell (by omega) id |>.trans a2); have HO4 := zB hown4; have HK4 := zB (((zA HK).alloc _).grown hgrow4 (fun q e hq => by have := ((zA HW).lt q e).1; omega)); have hne4 : (Value.slice (some ⟨g4, 0, none⟩) (1 + 1) cap4).ownBlock ≠ some w.heap.size := (by show (some g4 : Option Nat) ≠ _; rcases hat4 with h | h; (rw [← h]; exact hne); (intro e; simp at e; omega)); have hs4 : w.heap.size < w4.heap.size := (by have := hgrow4.size; simp at this; omega); clear hown4 hgrow4 hat4)
  go_loopw [3, 5] (fun o i wr => ∃ k : Nat, k ≤ s.length ∧ i = .int .i64 k ∧ wr.ownsRow w.heap.size 5 1 o (1 + 1 + k) ([.int .u8 (m : Int)] ++ [.int .u8 (s.length : Int)] ++ bs (s.take k)) ∧ wr.cell? ⟨w.heap.size, 2, none⟩ = some (str s) ∧ o.ownBlock ≠ some w.heap.size ∧ w.heap.size < wr.heap.size ∧ Wp (fun _ => False) w wr) (fun _ i _ => s.length - (intOf i).toNat)
  case atStart => exact ⟨0, Nat.zero_le _, rfl, by simpa [bs] using zA HO4, d2, hne4, hs4, zA HK4⟩
  case round =>
   obtain ⟨k, hk, rfl, hown, hbx, hnb, hsb, hkp⟩ := hrel
   have HWR := zB hown
   have HKR := zB hkp
   clear hown hkp a2
   by_cases hlt : k < s.length
   ·obtain ⟨x, hx⟩ : ∃ x, s[k]? = some x := ⟨_, List.getElem?_eq_getElem hlt⟩
    have i1 : (k : Int) < (s.length : Int) := by omega
    have i0' : (0 : Int) ≤ (k : Int) := by omega
    have q := str_at hx
    have HS := zB (take_snoc _ _ _ hx)
    clear hx
    go_wp2_with (at_builtin; refine wpList_append_lies _ rfl _ _ _ rfl w.heap.size 5 j0 _ 1 1 Tryz.underlying42 hi hz0 hz1 hz2 rfl (by omega) u3 (1 + 1 + k) _ rfl ((zA HWR).alloc _) ⟨wr.heap.size, 0, none⟩ 1 1 [.int .u8 (x.toNat : Int)] rfl rfl (World.news_of_block (cs := #[.int .u8 (x.toNat : Int)]) (t := 5) (fr := (0, 0)) (heap_alloc_new wr _)) (by simp [Value.oneCell']) (by omega) (by unfold maxLen; omega) (by omega) (by simp; omega) (wr.heap.size + 1) (by simp) ?_; intro g5 cap5 w5 hown5 hgrow5 hat5 hlt5; have d5 := far_cell hgrow5 (by simp; omega) hnb (((Wp.refl (fun _ => False) wr).alloc _).cell (by omega) id |>.trans hbx); have HO5 := zB hown5; have HK5 := zB (((zA HKR).alloc _).grown hgrow5 (fun q e hq => by have := ((zA HWR).lt q e).1; omega)); have hne5 : (some g5 : Option Nat) ≠ some w.heap.size := (by rcases hat5 with h | h; (rw [← h]; exact hnb); (intro e; simp at e; omega)); have hs5 : w.heap.size < w5.heap.size := (by have := hgrow5.size; simp at this; omega); clear hown5 hgrow5 hat5)
    go_roundw
    case rel =>
     refine ⟨k + 1, by omega, by go_num, ?_, d5, hne5, hs5, zA HK5⟩
     rw [zA HS]
     have h5 := zA HO5
     rw [List.append_assoc] at h5
     simp only [bs, List.map_append, List.map_cons, List.map_nil, num] at h5 ⊢
     exact h5
    case measure => simp [intOf]; omega
   ·obtain rfl : k = s.length := by omega
    have i1 : ¬ (s.length : Int) < (s.length : Int) := by omega
    rw [List.take_length] at HWR
    clear hlt
    go_wp2_with fail
    go_ret
    refine ⟨_, rfl, ?_, zA HKR⟩
    rw [zA HE, zA HT]
    have h4 := zA HWR
    have e5 : bs (u8 m :: cL :: s) = [.int .u8 (m : Int)] ++ [.int .u8 (s.length : Int)] ++ bs s := by simp [bs, zA HU, zA HC]
    rw [e5, show (u8 m :: cL :: s).length = 1 + 1 + s.length by simp; omega]
    exact h4
 all_goals
  have HT : Hid (tailB ⟨m, n, s⟩ = [u8 n]) := by show _ = _; simp [tailB, e1]
  rw [e1] at HQ
  have hn01 : 0 ≤ n ∧ n ≤ 255 := by
   first
    | (have := ((zA HR).2.2.2.1 e1).1; omega)
    | (have := ((zA HR).2.2.2.2 e1).1; omega)
  obtain ⟨hn0, hn1⟩ := hn01
  have HN := zB (u8_num hn0 hn1)
  have hw9 : IntKind.u8.wrap n = n := by rw [IntKind.wrap_u8]; omega
  clear e1 ho1
  go_enter Tryz.func120, Tryz.ntmps120
  go_wp2_with fail
  refine (zA HQ).mono ?_
  rintro e w' ⟨rfl, rfl⟩
  generalize (w.alloc (.cells #[.int .i64 (m : Int), .int .i64 n, str s] 60)).alloc (.cells #[.int .u8 (m : Int)] 5) = w3 at HW HK a1 hsz ⊢
  have hs0 : w.heap.size + 2 ≤ w3.heap.size := by omega
  clear a0 a2 b0 HQ hsz
  go_wp2_with (at_builtin; refine wpList_append_lies _ rfl _ _ _ rfl w.heap.size 5 j0 _ 1 1 Tryz.underlying42 hi hz0 hz1 hz2 rfl (by omega) (.slice (some ⟨w.heap.size + 1, 0, none⟩) 1 1) 1 _ rfl ((zA HW).alloc _) ⟨w3.heap.size, 0, none⟩ 1 1 [.int .u8 n] rfl rfl (World.news_of_block (cs := #[.int .u8 n]) (t := 5) (fr := (0, 0)) (heap_alloc_new w3 _)) (by simp [Value.oneCell']) (by omega) (by unfold maxLen; omega) (by omega) (by simp; omega) (w3.heap.size + 1) (by simp) ?_; intro g4 cap4 w4 hown4 hgrow4 hat4 hlt4; have HO4 := zB hown4; have HK4 := zB (((zA HK).alloc _).grown hgrow4 (fun q e hq => by have := ((zA HW).lt q e).1; omega)); clear hown4 hgrow4 hat4)
  go_ret
  refine ⟨_, rfl, ?_, zA HK4⟩
  rw [zA HE, zA HT]
  have h4 := zA HO4
  have e5 : bs [u8 m, u8 n] = [.int .u8 (m : Int)] ++ [.int .u8 n] := by simp [bs, zA HU, zA HN]
  rw [e5]
  exact h4
set_option maxHeartbeats 2000000
theorem bytesC_le2 (l : List ValA) (h : firstE l = 0) (hI : InR l) (k : Nat) : (bytesC (l.take k)).length ≤ 22 * k := by
 have := bytesC_le (l.take k) (fun i hi => (firstE_zero h) i (List.mem_of_mem_take hi)) (fun i hi => hI i (List.mem_of_mem_take hi))
 rw [List.length_take] at this
 omega
theorem bytes_v (l : List ValA) (v : Value) (w : World) (h : Wr w v l) (hl : l.length ≤ 4398046511104) (hF : firstE l = 0) (hI : InR l) :
  Calls Tryz.prog 82 #[v] w fun e w' => ∃ v', e = .returned v' ∧ w'.ownsRow w.heap.size 5 1 v' (bytesC l).length (bs (bytesC l)) ∧ Wp (fun _ => False) w w' := by
 obtain ⟨j0, hi, hz0, hz1, hz2⟩ := info_parts Tryz.info5
 obtain ⟨ao, cap, rfl⟩ := Ws.form h
 have HV := zB h
 have HF := zB hF
 have HI := zB hI
 clear h hF hI
 go_enter Tryz.func82, Tryz.ntmps82
 go_wp2_with fail
 go_loopw [3, 4] (fun o i wr => ∃ k : Nat, k ≤ l.length ∧ i = .int .i64 k ∧ wr.ownsRow w.heap.size 5 1 o (bytesC (l.take k)).length (bs (bytesC (l.take k))) ∧ Wp (fun _ => False) w wr) (fun _ i _ => l.length - (intOf i).toNat)
 case atStart => exact ⟨0, Nat.zero_le _, rfl, World.ownsRow_nil _ w.heap.size 5 1, Wp.refl _ _⟩
 case round =>
  obtain ⟨k, hk, rfl, hown, hkp⟩ := hrel
  have HW := zB hown
  have HK := zB hkp
  by_cases hlt : k < l.length
  ·obtain ⟨x, hx⟩ : ∃ x, l[k]? = some x := ⟨_, List.getElem?_eq_getElem hlt⟩
   obtain ⟨b, off, c, e, hbl, hc⟩ := (zA HV).cells (by omega)
   simp at e
   obtain ⟨rfl, rfl⟩ := e
   have c0 := (hkp.cell hbl id).trans (hc k x hx).1
   have c1 := (hkp.cell hbl id).trans (hc k x hx).2.1
   have c2 := (hkp.cell hbl id).trans (hc k x hx).2.2
   have hxf := (firstE_zero (zA HF)) x (List.mem_of_getElem? hx)
   have hxi := (zA HI) x (List.mem_of_getElem? hx)
   have HS := zB (bytesC_snoc hx)
   have HQ := zB (one_v x wr hxf hxi)
   have HOL := zB (oneB_len hxf hxi)
   have HOP : Hid (0 < (oneB x).length) := by show _ < _; simp [oneB]
   have HBL := zB (bytesC_le2 l (zA HF) (zA HI) k)
   unfold ValA.v at HQ
   have i1 : (k : Int) < (l.length : Int) := by omega
   have i0' : (0 : Int) ≤ (k : Int) := by omega
   have hsz := hkp.size
   obtain ⟨oo, oc, rfl⟩ := (zG hown).form
   clear hc hx hown hkp hxf hxi
   generalize bytesC (l.take k) = D at *
   generalize oneB x = G at *
   go_wp2_with fail
   refine (zA HQ).mono ?_
   rintro e w3 ⟨v3, rfl, ho3, hk3⟩
   obtain ⟨g3, cap3, rfl, _, _⟩ := ho3.form (zA HOP)
   have HN3 := zB (news_row ho3 (zA HOP))
   have HO3 := zB (zI (zA HW) hk3 (fun _ _ => id))
   have HK3 := zB ((zA HK).trans hk3)
   have hs3 : w.heap.size ≤ w3.heap.size := (zA HK3).size
   obtain ⟨H3, hH3⟩ : ∃ H3, w3.heap.size = H3 := ⟨_, rfl⟩
   have HLG : Hid ((bs G).length = G.length * 1) := by show _ = _; rw [bs_length]; omega
   have HB1 : Hid (D.length + G.length ≤ maxLen) := by have := zA HOL; have := zA HBL; show _ ≤ _; unfold maxLen; omega
   have HB2 : Hid ((D.length + G.length) * 1 ≤ 140737488355328) := by have := zA HOL; have := zA HBL; show _ ≤ _; omega
   clear ho3 hk3 HQ
   go_wp2_with (at_builtin; refine wpList_append_lies _ rfl _ _ _ rfl w.heap.size 5 j0 _ 1 1 Tryz.underlying42 hi hz0 hz1 hz2 rfl (by omega) (.slice oo D.length oc) D.length _ rfl (zA HO3) ⟨g3, 0, none⟩ G.length cap3 (bs G) rfl (zA HLG) (zA HN3) (bs_one G) (zA HOP) (zA HB1) (zA HB2) hs3 H3 hH3 ?_; intro g4 cap4 w4 hown4 hgrow4 hat4 hlt4; have HO4 := zB hown4; have HK4 := zB ((zA HK3).grown hgrow4 (fun q e hq => by have := ((zA HO3).lt q e).1; omega)); clear hown4 hgrow4 hat4)
   go_roundw
   case rel =>
    refine ⟨k + 1, by omega, by go_num, ?_, zA HK4⟩
    rw [zA HS, List.length_append]
    have h4 := zA HO4
    rw [show bs (D ++ G) = bs D ++ bs G by simp [bs]]
    exact h4
   case measure => simp [intOf]; omega
  ·obtain rfl : k = l.length := by omega
   have i1 : ¬ (l.length : Int) < (l.length : Int) := by omega
   rw [List.take_length] at HW
   clear hown hkp hlt
   go_wp2_with fail
   go_ret
   exact ⟨_, rfl, zA HW, zA HK⟩
theorem Tryz.info60 : (Tryz.prog.info? 60).map (fun i => (i.zero, i.size, i.bytes)) = some (some (.agg #[.int .i64 0, .int .i64 0, .string ⟨#[]⟩]), 3, 32) := by kernel_rfl
structure Env (w : World) : Prop where
 ops : Ops w
 types : Types w
theorem Env.keepF {w w' : World} (h : Env w) (hk : Wp (fun _ => False) w w') : Env w' := ⟨h.ops.keepF hk, h.types.keepF hk⟩
end Go.Proofs.YtbdlcaamanhapaaGreatDoor
