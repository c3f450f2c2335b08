import Derived.Test.YtoempeobaknkcaaGreatDoorJzag
namespace Go.Proofs.YtoempeobaknkcaaGreatDoor
open Go.RowKit Go.Maps

def KA.cs (k : KA) : List Value := [.int .i64 k.t, .bool k.o]
def kcs (l : List KA) : List Value := l.flatMap KA.cs
theorem kcs_get : ∀ (l : List KA) (i : Nat) (x : KA) (j : Nat), l[i]? = some x → j < 2 → (kcs l)[i * 2 + j]? = (x.cs)[j]?
  | [], i, x, j, h, _ => by simp at h
  | y :: r, 0, x, j, h, hj => by
    simp at h; subst h
    have : j < y.cs.length := hj
    simp [kcs, List.flatMap_cons, List.getElem?_append_left this]
  | y :: r, i + 1, x, j, h, hj => by
    have ih := kcs_get r i x j (by simpa using h) hj
    have e : kcs (y :: r) = y.cs ++ kcs r := rfl
    rw [e, List.getElem?_append_right (by simp [KA.cs]; omega), ← ih]
    congr 1
    simp [KA.cs]; omega
theorem kcs_length : ∀ l : List KA, (kcs l).length = l.length * 2
  | [] => rfl
  | y :: r => by
    have e : kcs (y :: r) = y.cs ++ kcs r := rfl
    rw [e, List.length_append, kcs_length r]; simp [KA.cs]; omega
/-- Kinds in a slice. -/
def KsAt (w : World) (v : Value) (l : List KA) : Prop := RowAt w v l.length (kcs l)
theorem KsAt.keepF {w w' : World} {v : Value} {l : List KA} (h : KsAt w v l) (hk : Keeps (fun _ => False) w w') : KsAt w' v l := RowAt.keepF h hk
theorem KsAt.cells {w : World} {v : Value} {l : List KA} (h : KsAt w v l) (h0 : 0 < l.length) :
    ∃ b off cap, v = .slice (some ⟨b, off, none⟩) l.length cap ∧ b < w.heap.size ∧ ∀ i f, l[i]? = some f → w.cell? ⟨b, off + i * 2, none⟩ = some (.int .i64 f.t) ∧ w.cell? ⟨b, off + i * 2 + 1, none⟩ = some (.bool f.o) := by
  obtain ⟨b, off, cap, e, hb, hc⟩ := RowAt.cells h h0
  refine ⟨b, off, cap, e, hb, fun i f hf => ⟨?_, ?_⟩⟩
  · exact hc (i * 2) _ (by have := kcs_get l i f 0 hf (by omega); simpa [KA.cs] using this)
  · have := hc (i * 2 + 1) (.bool f.o) (by have := kcs_get l i f 1 hf (by omega); simpa [KA.cs] using this)
    rw [show off + i * 2 + 1 = off + (i * 2 + 1) by omega]
    exact this
/-- What a rule gives, as a value. -/
abbrev kerV (p : KA × Int) : Value := .tuple #[kindV p.1, .int .i64 p.2]
theorem takesI_step {ks : List KA} {ts : List Int} {j : Nat} {k : KA} {t : Int} (hk : ks[j]? = some k) (ht : ts[j]? = some t) : takesI (ks.drop j) (ts.drop j) = orI (plainI k [t]) (takesI (ks.drop (j + 1)) (ts.drop (j + 1))) := by
  obtain ⟨h1, e1⟩ := List.getElem?_eq_some_iff.1 hk
  obtain ⟨h2, e2⟩ := List.getElem?_eq_some_iff.1 ht
  rw [List.drop_eq_getElem_cons h1, List.drop_eq_getElem_cons h2, e1, e2]
  rfl

set_option maxRecDepth 100000 in
set_option maxHeartbeats 2000000 in
theorem takesF_v (op n : Int) (s : Txt) (ao : Option Addr) (xn xc : Nat) (ks : List KA) (ts : List Int) (is : Int) (kv tv : Value) (tb ib : Nat) (w : World) (hks : KsAt w kv ks) (hib : ib < w.heap.size) (htb : tb < w.heap.size)
    (hi : w.cell? ⟨ib, 0, none⟩ = some (.int .i64 is)) (ht : w.cell? ⟨tb, 0, none⟩ = some tv) (hts : IntsAt w tv ts) (hlen : ts.length = ks.length) (hl : ks.length ≤ 3) :
    Calls Tryz.prog 92 #[.agg #[.int .i64 op, .int .i64 n, str s, .slice ao xn xc], kv, .pointer (some ⟨tb, 0, none⟩), .pointer (some ⟨ib, 0, none⟩)] w fun e w' => e = .returned (kerV (takesK is ts ks)) ∧ Keeps (fun _ => False) w w' := by
  obtain ⟨ko, kc, rfl⟩ := RowAt.form hks
  obtain ⟨to, tc, rfl⟩ := RowAt.form hts
  have HKS := hide hks
  have HTS := hide hts
  have HPL := fun w' => hide (plain_v is w')
  have HR0 : Hid (Keeps (fun _ => False) w ((w.alloc (.cells #[.int .i64 op, .int .i64 n, str s, .slice ao xn xc] 57)).alloc (.cells #[.int .i64 0, .bool false] 80))) := hide (((Keeps.refl _ w).alloc _).alloc _)
  have HRB : Hid (((w.alloc (.cells #[.int .i64 op, .int .i64 n, str s, .slice ao xn xc] 57)).alloc (.cells #[.int .i64 0, .bool false] 80)).heap[w.heap.size + 1]? = some (.cells #[.int .i64 0, .bool false] 80 (0, 0))) := by
    have h := heap_alloc_new (w.alloc (.cells #[.int .i64 op, .int .i64 n, str s, .slice ao xn xc] 57)) (.cells #[.int .i64 0, .bool false] 80)
    show _ = _
    simpa using h
  clear hks hts
  go_enter Tryz.func92, Tryz.ntmps92
  go_wp2_with fail
  go_loopw [13] (fun i wr => ∃ j : Nat, j ≤ ks.length ∧ i = .int .i64 j ∧ Hid (takesI (ks.drop j) (ts.drop j) = takesI ks ts) ∧ wr.heap[w.heap.size + 1]? = some (.cells #[.int .i64 0, .bool false] 80 (0, 0)) ∧ Keeps (fun _ => False) w wr) (fun i _ => ks.length - (intOf i).toNat)
  case atStart => exact ⟨0, Nat.zero_le _, rfl, by simp [Hid], unhide HRB, unhide HR0⟩
  case round =>
    obtain ⟨j, hj, rfl, HS, hrb, hkp⟩ := hrel
    have HK := hide hkp
    have hsz : w.heap.size + 1 < wr.heap.size := lt_of_block hrb
    cases h : ks[j]? with
    | none =>
      have h1 := get_ge h
      obtain rfl : j = ks.length := by omega
      rw [List.drop_length] at HS
      have HS0 : Hid (takesI ks ts = 0) := by show _ = _; rw [← unhide HS]; simp [takesI]
      have ci := (hkp.cell hib id).trans hi
      have HRB1 := hide hrb
      have i1 : ¬ (ks.length : Int) < (ks.length : Int) := by omega
      have HTT : Hid (takesK is ts ks = (⟨is, false⟩, 0)) := by show _ = _; unfold takesK; rw [if_pos (unhide HS0)]
      clear h h1 hkp hrb HS hi ht
      go_wp2_with (go_at_call 94; refine (unhide (HPL _)).mono ?_; rintro e w1 ⟨rfl, hk1⟩; have hb1 := (hk1.block _ hsz id).trans (unhide HRB1); have m0 := cell_of_blk hb1 0; have m1 := cell_of_blk hb1 1; simp at m0 m1; have g0 := frozen_of_blk hb1 0; have g1 := frozen_of_blk hb1 1; have HB1 := hide hb1; have HK1 := hide ((unhide HK).trans hk1); clear hk1 hb1)
      obtain ⟨⟨s0, s1, _⟩, hks2⟩ := set2 (unhide HB1) (.int .i64 is) (.bool false)
      refine bodyPost_ret (v := kerV (⟨is, false⟩, 0)) (by simp [results, go_sem, s0, s1]) rfl ?_
      exact ⟨by rw [unhide HTT], (unhide HK1).narrow hks2 (fun q e => by omega)⟩
    | some k =>
      have h1 := get_lt h
      obtain ⟨t, htj⟩ : ∃ t, ts[j]? = some t := ⟨_, List.getElem?_eq_getElem (by omega)⟩
      obtain ⟨b, off, c, e, hbl, hc⟩ := (unhide HKS).cells (by omega)
      obtain ⟨b2, off2, c2, e2, hbl2, hc2⟩ := (unhide HTS).cells (by omega)
      simp at e e2
      obtain ⟨rfl, rfl⟩ := e
      obtain ⟨rfl, rfl⟩ := e2
      have a0 := (hkp.cell hbl id).trans (hc j k h).1
      have a1 := (hkp.cell hbl id).trans (hc j k h).2
      have q0 := cell_past (Nat.lt_of_lt_of_le htb hkp.size) ((hkp.cell htb id).trans ht) (.cells #[.int .i64 k.t, .bool k.o] 80)
      have q1 := cell_past (Nat.lt_of_lt_of_le hbl2 hkp.size) ((hkp.cell hbl2 id).trans (hc2 j t htj)) (.cells #[.int .i64 k.t, .bool k.o] 80)
      obtain ⟨HB, hxb, hxc⟩ := boxed wr #[.int .i64 k.t, .bool k.o] 80
      have c0 := hxc 0 (.int .i64 k.t) rfl
      have c1 := hxc 1 (.bool k.o) rfl
      have d0 : (wr.alloc (.cells #[.int .i64 k.t, .bool k.o] 80)).drew.cell? ⟨wr.heap.size, 0, none⟩ = some (.int .i64 k.t) := c0
      have d1 : (wr.alloc (.cells #[.int .i64 k.t, .bool k.o] 80)).drew.cell? ⟨wr.heap.size, 1, none⟩ = some (.bool k.o) := c1
      have d2 : (wr.alloc (.cells #[.int .i64 k.t, .bool k.o] 80)).drew.cell? ⟨tb, 0, none⟩ = some (.slice (some ⟨b2, off2, none⟩) ts.length tc) := q0
      have d3 : (wr.alloc (.cells #[.int .i64 k.t, .bool k.o] 80)).drew.cell? ⟨b2, off2 + j, none⟩ = some (.int .i64 t) := q1
      have hL2 : tb < (wr.alloc (.cells #[.int .i64 k.t, .bool k.o] 80)).heap.size := Nat.lt_of_lt_of_le htb (Nat.le_trans (unhide HK).size (unhide HB).size)
      have hL3 : b2 < (wr.alloc (.cells #[.int .i64 k.t, .bool k.o] 80)).heap.size := Nat.lt_of_lt_of_le hbl2 (Nat.le_trans (unhide HK).size (unhide HB).size)
      have f0 : ((wr.alloc (.cells #[.int .i64 k.t, .bool k.o] 80)).alloc (.cells #[.int .i64 t] 3)).drew.cell? ⟨wr.heap.size, 0, none⟩ = some (.int .i64 k.t) := cell_past hxb c0 (.cells #[.int .i64 t] 3)
      have f1 : ((wr.alloc (.cells #[.int .i64 k.t, .bool k.o] 80)).alloc (.cells #[.int .i64 t] 3)).drew.cell? ⟨wr.heap.size, 1, none⟩ = some (.bool k.o) := cell_past hxb c1 (.cells #[.int .i64 t] 3)
      have f2 : ((wr.alloc (.cells #[.int .i64 k.t, .bool k.o] 80)).alloc (.cells #[.int .i64 t] 3)).drew.cell? ⟨tb, 0, none⟩ = some (.slice (some ⟨b2, off2, none⟩) ts.length tc) := cell_past hL2 q0 (.cells #[.int .i64 t] 3)
      have f3 : ((wr.alloc (.cells #[.int .i64 k.t, .bool k.o] 80)).alloc (.cells #[.int .i64 t] 3)).drew.cell? ⟨b2, off2 + j, none⟩ = some (.int .i64 t) := cell_past hL3 q1 (.cells #[.int .i64 t] 3)
      have HSTEP := hide (takesI_step h htj)
      have HRB1 := hide (((unhide HB).block _ hsz id).trans hrb)
      have hsz2 : w.heap.size + 1 < (wr.alloc (.cells #[.int .i64 k.t, .bool k.o] 80)).heap.size := lt_of_block (unhide HRB1)
      have i1 : (j : Int) < (ks.length : Int) := by omega
      have i0 : (0 : Int) ≤ (j : Int) := by omega
      have i2 : (j : Int) < (ts.length : Int) := by omega
      clear h hc hc2 hkp htj hrb hxc
      obtain ⟨p, hp⟩ : ∃ p, p = plainI k [t] := ⟨_, rfl⟩
      have HPK := hide (isPlain_one k t (wr.alloc (.cells #[.int .i64 k.t, .bool k.o] 80)) (wr.heap.size + 1) (by simp))
      rw [← hp] at HPK
      rw [← hp] at HSTEP
      by_cases hp0 : p = 0
      · subst hp0
        clear hp
        go_wp2_with fail
        go_region_held3 (fun w' => w'.cell? ⟨wr.heap.size, 0, none⟩ = some (.int .i64 k.t) ∧ w'.cell? ⟨wr.heap.size, 1, none⟩ = some (.bool k.o) ∧ w'.cell? ⟨tb, 0, none⟩ = some (.slice (some ⟨b2, off2, none⟩) ts.length tc) ∧ w'.cell? ⟨b2, off2 + j, none⟩ = some (.int .i64 t)) (first | with_reducible exact ⟨r0, r1, r2, r3⟩ | with_reducible exact ⟨d0, d1, d2, d3⟩ | with_reducible exact ⟨f0, f1, f2, f3⟩ | (trace_state; fail))
          ((go_at_call 93; refine (unhide HPK).mono ?_; rintro e w1 ⟨rfl, hk2⟩; have r0 := (hk2.cell (o := 0) hxb id).trans c0; have r1 := (hk2.cell (o := 1) hxb id).trans c1; have r2 := (hk2.cell (o := 0) hL2 id).trans q0; have r3 := (hk2.cell hL3 id).trans q1; have HK2 := hide hk2; clear hk2))
        go_wp2_with fail
        go_roundw
        case rel => exact ⟨j + 1, by omega, by go_num, (by show _ = _; rw [← unhide HS, unhide HSTEP]; rfl), ((unhide HK2).block _ hsz2 id).trans (unhide HRB1), ((unhide HK).trans (unhide HB)).trans (unhide HK2)⟩
        case measure => simp [intOf]; omega
      · have HTK : Hid (takesI ks ts = p) := by show _ = _; rw [← unhide HS, unhide HSTEP]; unfold orI; rw [if_neg hp0]
        have n0 : (p != 0) = true := by simpa using hp0
        have HTT : Hid (takesK is ts ks = (⟨0, false⟩, p)) := by show _ = _; unfold takesK; rw [if_neg (by rw [unhide HTK]; exact hp0), unhide HTK]
        clear hp hp0
        go_wp2_with fail
        go_region_held3 (fun w' => w'.cell? ⟨wr.heap.size, 0, none⟩ = some (.int .i64 k.t) ∧ w'.cell? ⟨wr.heap.size, 1, none⟩ = some (.bool k.o) ∧ w'.cell? ⟨tb, 0, none⟩ = some (.slice (some ⟨b2, off2, none⟩) ts.length tc) ∧ w'.cell? ⟨b2, off2 + j, none⟩ = some (.int .i64 t)) (first | with_reducible exact ⟨r0, r1, r2, r3⟩ | with_reducible exact ⟨d0, d1, d2, d3⟩ | with_reducible exact ⟨f0, f1, f2, f3⟩ | (trace_state; fail))
          ((go_at_call 93; refine (unhide HPK).mono ?_; rintro e w1 ⟨rfl, hk2⟩; have r0 := (hk2.cell (o := 0) hxb id).trans c0; have r1 := (hk2.cell (o := 1) hxb id).trans c1; have r2 := (hk2.cell (o := 0) hL2 id).trans q0; have r3 := (hk2.cell hL3 id).trans q1; have hb1 := (hk2.block _ hsz2 id).trans (unhide HRB1); have m0 := cell_of_blk hb1 0; have m1 := cell_of_blk hb1 1; simp at m0 m1; have g0 := frozen_of_blk hb1 0; have g1 := frozen_of_blk hb1 1; have HB1 := hide hb1; have HK2 := hide hk2; clear hk2 hb1))
        go_wp2_with fail
        obtain ⟨⟨s0, s1, _⟩, hks2⟩ := set2 (unhide HB1) (.int .i64 0) (.bool false)
        refine bodyPost_ret (v := kerV (⟨0, false⟩, p)) (by simp [results, go_sem, s0, s1]) rfl ?_
        exact ⟨by rw [unhide HTT], (((unhide HK).trans (unhide HB)).trans (unhide HK2)).narrow hks2 (fun q e => by omega)⟩
end Go.Proofs.YtoempeobaknkcaaGreatDoor
