import Derived.Test.YtgdabnkjipcbhaaGreatDoorJzai
import Derived.Test.YtgdabnkjipcbhaaGreatDoorQe
namespace Go.Proofs.YtgdabnkjipcbhaaGreatDoor
open Go.RowKit Go.Maps

set_option maxRecDepth 100000 in
set_option maxHeartbeats 8000000 in
theorem prints_walk (k l : Int) (d : Bool) (W O B : EL) (wv ov bv : Value) (w : World) (hW : SlE (argZ w.heap.size) w 0 wv W) (hO : SlE (argZ w.heap.size) w 0 ov O) (hB : SlE (argZ w.heap.size) w 0 bv B) (iW : intE W) (iO : intE O) (iB : intE B) (l0 : -9223372036854775808 ≤ l) (l1 : l ≤ 9223372036854775807) (hP : Pow w) (hF : Forms w) (hT : Tabs w) :
    Calls Tryz.prog 3 #[qV wv k ov bv d l] w fun e w' => e = .returned (.bool true) ∧ Keeps (fun _ => False) w w' := by
  obtain ⟨w1, hw1, hk1, hs1, c0, c1, c2, c3, c4, c5⟩ := box6 w wv ov bv k l d
  have hq := heap_alloc_new w (.cells #[wv, .int .i64 k, ov, bv, .bool d, .int .i64 l] 24)
  have HD := fun (q : EL) (v : Value) (hv : SlE (argZ w.heap.size) w 0 v q) (W' : World) (hk : Keeps (fun _ => False) w W') => hide (deepExprs w.heap.size 0 q v W' hk.size (hv.keepF hk))
  have H1 := hide (HD W wv hW)
  have H2 := hide (HD O ov hO)
  have H3 := hide (HD B bv hB)
  have HW := hide hW
  have HO := hide hO
  have HB := hide hB
  have HP := hide hP
  have HF := hide hF
  have HT := hide hT
  have HI := hide (And.intro iW (And.intro iO iB))
  have HQ := hide hq
  obtain ⟨wa, wc, rfl, _⟩ := hW.head
  obtain ⟨oa, oc, rfl, _⟩ := hO.head
  obtain ⟨ba, bc, rfl, _⟩ := hB.head
  subst hw1
  have HK1 := hide hk1
  clear HD hW hO hB hP hF hT iW iO iB hk1 c1 c4 c5 hq
  go_enter Tryz.func3, Tryz.ntmps3
  go_wp2_with fail
  refine (unhide (unhide H1 _ (unhide HK1))).mono ?_
  rintro e w2 ⟨r1, rfl, hk2, hr1⟩
  have HR1 := hide hr1
  have HK2 := hide ((unhide HK1).trans hk2)
  have HQ2 := hide ((hk2.block _ hs1 id).trans (unhide HQ))
  have d2 := (hk2.cell (o := 2) hs1 id).trans c2
  have d3 := (hk2.cell (o := 3) hs1 id).trans c3
  have hs2 := Nat.lt_of_lt_of_le hs1 hk2.size
  clear hk2 hr1 c0 c2 c3 hs1 HK1 HQ H1
  cases r1
  · have zW := unhide HR1 rfl
    clear HR1
    go_wp2_with fail
    refine (unhide (unhide H2 _ (unhide HK2))).mono ?_
    rintro e w3 ⟨r2, rfl, hk3, hr2⟩
    have HR2 := hide hr2
    have HK3 := hide ((unhide HK2).trans hk3)
    have HQ3 := hide ((hk3.block _ hs2 id).trans (unhide HQ2))
    have e3 := (hk3.cell (o := 3) hs2 id).trans d3
    have hs3 := Nat.lt_of_lt_of_le hs2 hk3.size
    clear hk3 hr2 d2 d3 hs2 HK2 HQ2 H2
    cases r2
    · have zO := unhide HR2 rfl
      clear HR2
      go_wp2_with fail
      refine (unhide (unhide H3 _ (unhide HK3))).mono ?_
      rintro e w4 ⟨r3, rfl, hk4, hr3⟩
      have HR3 := hide hr3
      have HK4 := hide ((unhide HK3).trans hk4)
      have HQ4 := hide ((hk4.block _ hs3 id).trans (unhide HQ3))
      have hs4 := Nat.lt_of_lt_of_le hs3 hk4.size
      clear hk4 hr3 e3 hs3 HK3 HQ3 H3
      cases r3
      · have kW : okE W := ⟨zW, (unhide HI).1⟩
        have kO : okE O := ⟨zO, (unhide HI).2.1⟩
        have kB : okE B := ⟨unhide HR3 rfl, (unhide HI).2.2⟩
        have HWQ := hide (wideQ_v k l d W O B _ _ _ w4 ((unhide HW).keepF (unhide HK4)) ((unhide HO).keepF (unhide HK4)) ((unhide HB).keepF (unhide HK4)) kW.1 kO.1 kB.1)
        have q := fun j => cell_of_blk (unhide HQ4) j
        have a0 := (q 0).trans (show _ = some (Value.slice wa W.len wc) from rfl)
        have a1 := (q 1).trans (show _ = some (Value.int .i64 k) from rfl)
        have a2 := (q 2).trans (show _ = some (Value.slice oa O.len oc) from rfl)
        have a3 := (q 3).trans (show _ = some (Value.slice ba B.len bc) from rfl)
        have a4 := (q 4).trans (show _ = some (Value.bool d) from rfl)
        have a5 := (q 5).trans (show _ = some (Value.int .i64 l) from rfl)
        have HOK := hide (And.intro kW (And.intro kO kB))
        clear q HR3 kW kO kB
        go_wp2_with fail
        refine (unhide HWQ).mono ?_
        rintro e w5 ⟨va, vb, vc, rfl, r1, r2, r3, hk5⟩
        have HQ5 := hide ((hk5.block _ hs4 id).trans (unhide HQ4))
        have HK5 := hide ((unhide HK4).trans hk5)
        have R1 := hide r1
        have R2 := hide r2
        have R3 := hide r3
        obtain ⟨g0, p0, rfl, _⟩ := r1
        obtain ⟨g1, p1, rfl, _⟩ := r2
        obtain ⟨g2, p2, rfl, _⟩ := r3
        have hs5 := Nat.lt_of_lt_of_le hs4 hk5.size
        have hk6 : Keeps (fun _ => False) w5 (w5.alloc (.cells #[.slice (some ⟨g0, 0, none⟩) W.len p0, .int .i64 k, .slice (some ⟨g1, 0, none⟩) O.len p1, .slice (some ⟨g2, 0, none⟩) B.len p2, .bool d, .int .i64 l] 24)) := (Keeps.refl _ w5).alloc _
        have hb6 := heap_alloc_new w5 (.cells #[.slice (some ⟨g0, 0, none⟩) W.len p0, .int .i64 k, .slice (some ⟨g1, 0, none⟩) O.len p1, .slice (some ⟨g2, 0, none⟩) B.len p2, .bool d, .int .i64 l] 24)
        have HKW := fun (V : World) (h : Keeps (fun _ => False) (w5.alloc (.cells #[.slice (some ⟨g0, 0, none⟩) W.len p0, .int .i64 k, .slice (some ⟨g1, 0, none⟩) O.len p1, .slice (some ⟨g2, 0, none⟩) B.len p2, .bool d, .int .i64 l] 24)) V) => hide ((unhide HK5).trans (hk6.trans h))
        have HQO := fun (V : World) (h : Keeps (fun _ => False) (w5.alloc (.cells #[.slice (some ⟨g0, 0, none⟩) W.len p0, .int .i64 k, .slice (some ⟨g1, 0, none⟩) O.len p1, .slice (some ⟨g2, 0, none⟩) B.len p2, .bool d, .int .i64 l] 24)) V) => hide (((hk6.trans h).block _ hs5 id).trans (unhide HQ5))
        have HQN := fun (V : World) (h : Keeps (fun _ => False) (w5.alloc (.cells #[.slice (some ⟨g0, 0, none⟩) W.len p0, .int .i64 k, .slice (some ⟨g1, 0, none⟩) O.len p1, .slice (some ⟨g2, 0, none⟩) B.len p2, .bool d, .int .i64 l] 24)) V) => hide ((h.block _ (lt_of_block hb6) id).trans hb6)
        have HR := fun (V : World) (h : Keeps (fun _ => False) (w5.alloc (.cells #[.slice (some ⟨g0, 0, none⟩) W.len p0, .int .i64 k, .slice (some ⟨g1, 0, none⟩) O.len p1, .slice (some ⟨g2, 0, none⟩) B.len p2, .bool d, .int .i64 l] 24)) V) => hide (And.intro ((unhide R1).keepF (hk6.trans h)) (And.intro ((unhide R2).keepF (hk6.trans h)) ((unhide R3).keepF (hk6.trans h))))
        have C6 := fun (V : World) (h : Keeps (fun _ => False) (w5.alloc (.cells #[.slice (some ⟨g0, 0, none⟩) W.len p0, .int .i64 k, .slice (some ⟨g1, 0, none⟩) O.len p1, .slice (some ⟨g2, 0, none⟩) B.len p2, .bool d, .int .i64 l] 24)) V) => hide (printQ_v k l d W O B _ _ _ V ((unhide (HR V h)).1.slE 0) ((unhide (HR V h)).2.1.slE 0) ((unhide (HR V h)).2.2.slE 0) (unhide HOK).1 (unhide HOK).2.1 (unhide HOK).2.2 l0 l1 ((unhide HP).keepF (unhide (HKW V h))) ((unhide HF).keepF (unhide (HKW V h))))
        have C7 := fun (V : World) (h : Keeps (fun _ => False) (w5.alloc (.cells #[.slice (some ⟨g0, 0, none⟩) W.len p0, .int .i64 k, .slice (some ⟨g1, 0, none⟩) O.len p1, .slice (some ⟨g2, 0, none⟩) B.len p2, .bool d, .int .i64 l] 24)) V) => hide (rprintQ_v k l d W O B _ _ _ V ((unhide HW).keepF (unhide (HKW V h))) ((unhide HO).keepF (unhide (HKW V h))) ((unhide HB).keepF (unhide (HKW V h))) (unhide HOK).1 (unhide HOK).2.1 (unhide HOK).2.2 l0 l1 ((unhide HP).keepF (unhide (HKW V h))) ((unhide HT).keepF (unhide (HKW V h))))
        have C8 := fun (V : World) (h : Keeps (fun _ => False) (w5.alloc (.cells #[.slice (some ⟨g0, 0, none⟩) W.len p0, .int .i64 k, .slice (some ⟨g1, 0, none⟩) O.len p1, .slice (some ⟨g2, 0, none⟩) B.len p2, .bool d, .int .i64 l] 24)) V) => hide (eqQ_v k l d W O B _ _ _ _ _ _ _ _ V ((unhide (HR V h)).1.slE 0) ((unhide (HR V h)).2.1.slE 0) ((unhide (HR V h)).2.2.slE 0) ((unhide HW).keepF (unhide (HKW V h))) ((unhide HO).keepF (unhide (HKW V h))) ((unhide HB).keepF (unhide (HKW V h))) (unhide HOK).1.1 (unhide HOK).2.1.1 (unhide HOK).2.2.1)
        have C9 := fun (V : World) (h : Keeps (fun _ => False) (w5.alloc (.cells #[.slice (some ⟨g0, 0, none⟩) W.len p0, .int .i64 k, .slice (some ⟨g1, 0, none⟩) O.len p1, .slice (some ⟨g2, 0, none⟩) B.len p2, .bool d, .int .i64 l] 24)) V) => hide (spareQ_v k l d W O B _ _ _ _ V (unhide (HR V h)).1 (unhide (HR V h)).2.1 (unhide (HR V h)).2.2 (unhide HOK).1.1 (unhide HOK).2.1.1 (unhide HOK).2.2.1)
        have HK6 := hide (Keeps.refl (fun _ => False) (w5.alloc (.cells #[.slice (some ⟨g0, 0, none⟩) W.len p0, .int .i64 k, .slice (some ⟨g1, 0, none⟩) O.len p1, .slice (some ⟨g2, 0, none⟩) B.len p2, .bool d, .int .i64 l] 24)))
        obtain ⟨AN, hAN⟩ : ∃ AN, AN = ansQ k W O B d l := ⟨_, rfl⟩
        rw [← hAN] at C6 C7
        clear hAN hk6 hb6 HQ4 HK4 HWQ a0 a1 a2 a3 a4 a5 hs4 hk5 HR R1 R2 R3 HW HO HB HP HF HT HI HOK HQ5
        go_wp2_with fail
        refine (unhide (C6 _ (unhide HK6))).mono ?_
        rintro e w7 ⟨rfl, hk7⟩
        have q := fun j => cell_of_blk (unhide (HQO _ hk7)) j
        have a0 := (q 0).trans (show _ = some (Value.slice wa W.len wc) from rfl)
        have a1 := (q 1).trans (show _ = some (Value.int .i64 k) from rfl)
        have a2 := (q 2).trans (show _ = some (Value.slice oa O.len oc) from rfl)
        have a3 := (q 3).trans (show _ = some (Value.slice ba B.len bc) from rfl)
        have a4 := (q 4).trans (show _ = some (Value.bool d) from rfl)
        have a5 := (q 5).trans (show _ = some (Value.int .i64 l) from rfl)
        have HK7 := hide hk7
        clear q hk7 HK6
        go_wp2_with fail
        refine (unhide (C7 _ (unhide HK7))).mono ?_
        rintro e w8 ⟨rfl, hk8⟩
        have hk8' := (unhide HK7).trans hk8
        have q := fun j => cell_of_blk (unhide (HQO _ hk8')) j
        have n := fun j => cell_of_blk (unhide (HQN _ hk8')) j
        have a0 := (q 0).trans (show _ = some (Value.slice wa W.len wc) from rfl)
        have a1 := (q 1).trans (show _ = some (Value.int .i64 k) from rfl)
        have a2 := (q 2).trans (show _ = some (Value.slice oa O.len oc) from rfl)
        have a3 := (q 3).trans (show _ = some (Value.slice ba B.len bc) from rfl)
        have a4 := (q 4).trans (show _ = some (Value.bool d) from rfl)
        have a5 := (q 5).trans (show _ = some (Value.int .i64 l) from rfl)
        have b0 := (n 0).trans (show _ = some (Value.slice (some ⟨g0, 0, none⟩) W.len p0) from rfl)
        have b1 := (n 1).trans (show _ = some (Value.int .i64 k) from rfl)
        have b2 := (n 2).trans (show _ = some (Value.slice (some ⟨g1, 0, none⟩) O.len p1) from rfl)
        have b3 := (n 3).trans (show _ = some (Value.slice (some ⟨g2, 0, none⟩) B.len p2) from rfl)
        have b4 := (n 4).trans (show _ = some (Value.bool d) from rfl)
        have b5 := (n 5).trans (show _ = some (Value.int .i64 l) from rfl)
        have HK8 := hide hk8'
        clear q n hk8 hk8' HK7
        go_wp2_with fail
        refine (unhide (C8 _ (unhide HK8))).mono ?_
        rintro e w9 ⟨rfl, hk9⟩
        have hk9' := (unhide HK8).trans hk9
        have n := fun j => cell_of_blk (unhide (HQN _ hk9')) j
        have b0 := (n 0).trans (show _ = some (Value.slice (some ⟨g0, 0, none⟩) W.len p0) from rfl)
        have b1 := (n 1).trans (show _ = some (Value.int .i64 k) from rfl)
        have b2 := (n 2).trans (show _ = some (Value.slice (some ⟨g1, 0, none⟩) O.len p1) from rfl)
        have b3 := (n 3).trans (show _ = some (Value.slice (some ⟨g2, 0, none⟩) B.len p2) from rfl)
        have b4 := (n 4).trans (show _ = some (Value.bool d) from rfl)
        have b5 := (n 5).trans (show _ = some (Value.int .i64 l) from rfl)
        have HK9 := hide hk9'
        clear n hk9 hk9' HK8
        go_wp2_with fail
        refine (unhide (C9 _ (unhide HK9))).mono ?_
        rintro e wa' ⟨rfl, hka⟩
        have HKA := HKW _ ((unhide HK9).trans hka)
        clear hka
        go_wp2_with fail
        go_ret
        exact ⟨rfl, unhide HKA⟩
      · go_wp2_with fail
        go_ret
        exact ⟨rfl, unhide HK4⟩
    · go_wp2_with fail
      go_ret
      exact ⟨rfl, unhide HK3⟩
  · go_wp2_with fail
    go_ret
    exact ⟨rfl, unhide HK2⟩
end Go.Proofs.YtgdabnkjipcbhaaGreatDoor
