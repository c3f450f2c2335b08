import Derived.Test.YtlnkleicnkfkpaaDoorJj
namespace Go.Proofs.YtlnkleicnkfkpaaDoor
open Go.RowKit Go.Maps

theorem ExIn.up {w : World} {B A : Nat} (hA : B ≤ A) : ∀ {l : EL} {b o : Nat}, ExIn (argZ B) w l b o → ExIn (argZ A) w l b o
  | .nil, _, _, _ => trivial
  | .cons op n s kids rest, b, o, ⟨h1, h2, h3, h4, h5, ⟨ao, cap, h6, h7, h8⟩, h9⟩ => by
    have hb : b < B := h2
    refine ⟨h1, (by show b < A; omega), h3, h4, h5, ⟨ao, cap, h6, h7, fun h0 => ?_⟩, ExIn.up hA h9⟩
    obtain ⟨b', o', e, _, hr⟩ := h8 h0
    exact ⟨b', o', e, trivial, ExIn.up hA hr⟩
theorem one_arg {w : World} {B A g : Nat} {op n : Int} {s : Txt} {v : Value} {kids : EL} {up c : Nat} (hb : w.heap[g]? = some (.cells #[.int .i64 op, .int .i64 n, str s, v] 25 (0, 0))) (hg : g < A) (hBA : B ≤ A) (hS : SlE (argZ B) w up v kids) (hc : 1 ≤ c) (up' : Nat) :
    SlE (argZ A) w up' (.slice (some ⟨g, 0, none⟩) 1 c) (.cons op n s kids .nil) := by
  obtain ⟨ao, cap, rfl, hl, hr⟩ := hS
  refine ⟨_, c, rfl, hc, fun _ => ⟨g, 0, rfl, trivial, lt_of_block hb, hg, ?_, ?_, ?_, ⟨ao, cap, ?_, hl, fun h0 => ?_⟩, trivial⟩⟩
  all_goals try (rw [cell_of_blk hb]; rfl)
  obtain ⟨b', o', e, _, hr⟩ := hr h0
  exact ⟨b', o', e, trivial, ExIn.up hBA hr⟩
theorem alloc_last (w : World) (o : Obj) {g : Nat} (hg : g = w.heap.size) : (w.alloc o).heap[g]? = some o := by
  subst hg
  exact heap_alloc_new w o

set_option maxRecDepth 100000 in
set_option maxHeartbeats 1600000 in
theorem checks_walk (p : SL) (kids : EL) (op n : Int) (s : Txt) (pv xv : Value) (w : World) (hF : Forms w) (hP : SlS (argZ w.heap.size) w 0 pv p) (hX : SlE (argZ w.heap.size) w 0 xv kids) :
    Calls Tryd.prog 3 #[pv, exV op n s xv] w fun e w' => e = .returned (.bool true) ∧ Keeps (fun _ => False) w w' := by
  obtain ⟨pao, pcap, rfl, hpc⟩ := hP.head
  obtain ⟨xao, xcap, rfl, hxc⟩ := hX.head
  obtain ⟨HX, hxb, hxc'⟩ := boxedT w #[.int .i64 op, .int .i64 n, str s, .slice xao kids.len xcap] 25
  have c0 := hxc' 0 (.int .i64 op) rfl
  have c1 := hxc' 1 (.int .i64 n) rfl
  have c2 := hxc' 2 (str s) rfl
  have c3 := hxc' 3 (.slice xao kids.len xcap) rfl
  have HBX : Hid ((w.alloc (.cells #[.int .i64 op, .int .i64 n, str s, .slice xao kids.len xcap] 25)).heap[w.heap.size]? = some (.cells #[.int .i64 op, .int .i64 n, str s, .slice xao kids.len xcap] 25 (0, 0))) := hide (heap_alloc_new w _)
  have HP := hide hP
  have HXK := hide hX
  have HF := hide hF
  have h0 := hF.lt
  have HDS := hide (deepStmts w.heap.size 0 p (.slice pao p.len pcap) _ (unhide HX).size (hP.keepF (unhide HX)))
  clear hF hP hX hxc'
  go_enter Tryd.func3, Tryd.ntmps3
  go_wp2_with (first
    | (go_at_call 5; refine (unhide HDS).mono ?_; rintro e w1 ⟨r1, rfl, hk1, hr1⟩; have HR1 := hide hr1; have HK1 := hide hk1; have d0 := (hk1.cell (o := 0) hxb id).trans c0; have d1 := (hk1.cell (o := 1) hxb id).trans c1; have d2 := (hk1.cell (o := 2) hxb id).trans c2; have d3 := (hk1.cell (o := 3) hxb id).trans c3; clear hk1 hr1))
  · go_ret
    exact ⟨rfl, (unhide HX).trans (unhide HK1)⟩
  · have hps : p.size ≤ 2147483647 := (unhide HR1) (by first | assumption | exact Bool.eq_false_iff.2 (by assumption))
    have hk01 := (unhide HX).trans (unhide HK1)
    have hk02 := hk01.alloc (.cells #[.int .i64 op, .int .i64 n, str s, .slice xao kids.len xcap] 25)
    have hw1 : w.heap.size < w1.heap.size := by have := (unhide HK1).size; omega
    refine (deepExprs _ 0 (.cons op n s kids .nil) (.slice (some ⟨w1.heap.size, 0, none⟩) 1 1) _ (Nat.le_refl _) (one_arg (B := w.heap.size) (heap_alloc_new w1 _) (by simp) (by simp; omega) ((unhide HXK).keepF hk02) (Nat.le_refl 1) 0)).mono ?_
    rintro e w2 ⟨r2, rfl, hk2, hr2⟩
    have hk12 : Keeps (fun _ => False) w1 w2 := ((Keeps.refl _ w1).alloc _).trans hk2
    have HK2 := hide (hk01.trans hk12)
    have HR2 := hide hr2
    have HBX2 := hide ((((unhide HK1).trans hk12).block w.heap.size hxb id).trans (unhide HBX))
    have hw2 : w.heap.size < w2.heap.size := by have := hk12.size; omega
    have f0 := (hk12.cell (o := 0) hw1 id).trans d0
    have f1 := (hk12.cell (o := 1) hw1 id).trans d1
    have f2 := (hk12.cell (o := 2) hw1 id).trans d2
    have f3 := (hk12.cell (o := 3) hw1 id).trans d3
    clear hk2 hr2 hk01 hk02 hk12 HK1 HDS c0 c1 c2 c3 d0 d1 d2 d3 hxb HR1
    go_wp2_with fail
    · go_ret
      exact ⟨rfl, unhide HK2⟩
    · have hxs : (EL.cons op n s kids .nil).size ≤ 2147483647 := (unhide HR2) (by first | assumption | exact Bool.eq_false_iff.2 (by assumption))
      simp only [EL.size] at hxs
      have hbh3 : Bh (w2.alloc (.cells #[.slice none 0 0, .slice none 0 0] 32)) w.heap.size w2.heap.size [] [] (.slice none 0 0) (.slice none 0 0) := ⟨by omega, heap_alloc_new w2 _, World.ownsRow_nil _ _ _ _, World.ownsRow_nil _ _ _ _, fun p hp => (by cases hp), fun p hp => (by cases hp)⟩
      have hk3 := (unhide HK2).alloc (.cells #[.slice none 0 0, .slice none 0 0] 32)
      have hbx3 := (((Keeps.refl (fun _ => False) w2).alloc (.cells #[.slice none 0 0, .slice none 0 0] 32)).block w.heap.size hw2 id).trans (unhide HBX2)
      refine (bstmts_v w.heap.size w2.heap.size (p.size + 1) p (by omega) hps _ 0 (.slice pao p.len pcap) _ _ [] [] (by simp; omega) ((unhide HP).keepF hk3) hbh3 (by simp; omega) (by simp; omega)).mono ?_
      rintro e w4 ⟨LE1, LS1, vS1, vE1, rfl, hsl, hbh4, hle, hls, hnew, hnewS, hk4⟩
      have hsz3 : (w2.alloc (.cells #[.slice none 0 0, .slice none 0 0] 32)).heap.size = w2.heap.size + 1 := by simp
      have hw4 : w2.heap.size + 1 ≤ w4.heap.size := by have := hk4.size; omega
      have hb3 : w.heap.size < (w2.alloc (.cells #[.slice none 0 0, .slice none 0 0] 32)).heap.size := by omega
      have hbx4 := (hk4.block w.heap.size hb3 (cpy_bf hbh3 (s := false) ⟨_, hbx3⟩)).trans hbx3
      have g0 := (cell_of_blk hbx4 0).trans (show (#[Value.int .i64 op, .int .i64 n, str s, .slice xao kids.len xcap] : Array Value)[0]? = some (.int .i64 op) from rfl)
      have g1 := (cell_of_blk hbx4 1).trans (show (#[Value.int .i64 op, .int .i64 n, str s, .slice xao kids.len xcap] : Array Value)[1]? = some (.int .i64 n) from rfl)
      have g2 := (cell_of_blk hbx4 2).trans (show (#[Value.int .i64 op, .int .i64 n, str s, .slice xao kids.len xcap] : Array Value)[2]? = some (str s) from rfl)
      have g3 := (cell_of_blk hbx4 3).trans (show (#[Value.int .i64 op, .int .i64 n, str s, .slice xao kids.len xcap] : Array Value)[3]? = some (.slice xao kids.len xcap) from rfl)
      have HKB : Hid (Keeps (fun k => w.heap.size ≤ k) w w4) := hide ((hk3.any (G := fun k => w.heap.size ≤ k)).then hk4 (fun i hi f => f.lo hbh3.lo))
      have HBX4 := hide hbx4
      have HBH4 := hide hbh4
      have HSL := hide (hsl 0 (by omega))
      rw [hsz3] at HSL ⊢
      have hle4 : LE1.length ≤ 2147483647 := by simp at hle; omega
      have hls4 : LS1.length ≤ 4294967297 := by simp at hls; omega
      clear hsl hbh3 hbh4 hle hls hnew hnewS hk4 hk3 hbx3 hbx4 f0 f1 f2 f3 HX HBX HBX2 HK2 HR2
      go_wp2_with fail
      have hk5 : Keeps (fun _ => False) w4 (w4.alloc (.cells #[.int .i64 op, .int .i64 n, str s, .slice xao kids.len xcap] 25)) := (Keeps.refl _ w4).alloc _
      have hsz5 : (w4.alloc (.cells #[.int .i64 op, .int .i64 n, str s, .slice xao kids.len xcap] 25)).heap.size = w4.heap.size + 1 := by simp
      have hxk5 := ((unhide HXK).argKeep (unhide HKB) (fun k h => h)).keepF hk5
      have hbh5 := (unhide HBH4).keepF hk5
      refine (bexprs_v w.heap.size (w4.heap.size + 1) w2.heap.size ((EL.cons op n s kids .nil).size + 1) (.cons op n s kids .nil) (by omega) (by simp only [EL.size]; omega) _ 0 (.slice (some ⟨w4.heap.size, 0, none⟩) 1 1) _ _ LE1 LS1 (by omega) (by omega) (one_mix (heap_alloc_new w4 _) (by omega) (by omega) hxk5 (Nat.le_refl 1) 0) hbh5 (by simp only [EL.size]; omega)).mono ?_
      rintro e w6 ⟨LE2, vE2, rfl, hsl, hbh6, hle6, hnew6, hk6⟩
      have el1 : (EL.cons op n s kids .nil).len = 1 := rfl
      rw [el1, hsz5] at hsl ⊢
      obtain ⟨ao', cap', e', hc', hr'⟩ := hsl 0 (by omega)
      cases e'
      obtain ⟨b', o', eq', hp', hin⟩ := hr' (by simp [EL.len])
      cases eq'
      obtain ⟨h1, h2, h3, h4, h5, ⟨kao, kcap, h6, h7, h8⟩, h9⟩ := hin
      have HK1 : Hid (SlE cpyZ w6 (w4.heap.size + 1) (.slice kao kids.len kcap) kids) := ⟨kao, kcap, rfl, h7, h8⟩
      have hb5 : w.heap.size < (w4.alloc (.cells #[.int .i64 op, .int .i64 n, str s, .slice xao kids.len xcap] 25)).heap.size := by omega
      have hbx5 := (hk5.block w.heap.size (by omega) id).trans (unhide HBX4)
      have hbx6 := (hk6.block w.heap.size hb5 (cpy_bf hbh5 (s := false) ⟨_, hbx5⟩)).trans hbx5
      have HSL6 := hide (SlS.bf hbh5 hk6 ((unhide HSL).keepF hk5))
      have HKB6 : Hid (Keeps (fun k => w.heap.size ≤ k) w w6) := hide (((unhide HKB).trans (hk5.any (G := fun k => w.heap.size ≤ k))).then hk6 (fun i hi f => f.lo hbh5.lo))
      have hw6 : w4.heap.size + 1 ≤ w6.heap.size := by have := hk6.size; omega
      have HBX6 := hide hbx6
      have HBH6 := hide hbh6
      have hle6' : LE2.length ≤ 100000000000 := by simp only [EL.size] at hle6; omega
      have hF6 : Forms w6 := (unhide HF).keep (unhide HKB6) (fun h => by omega)
      have HF6 := hide hF6
      clear hsl hr' hp' h2 h8 h9 hbh5 hbh6 hk5 hk6 hxk5 hnew6 hle6 hbx5 hbx6 HKB HBX4 HBH4 HSL g0 g1 g2 g3 hF6 hb5
      obtain ⟨HY, hyb, hyc⟩ := boxedT w6 #[.int .i64 op, .int .i64 n, str s, .slice kao kids.len kcap] 25
      have y0 := hyc 0 (.int .i64 op) rfl
      have y1 := hyc 1 (.int .i64 n) rfl
      have y2 := hyc 2 (str s) rfl
      have y3 := hyc 3 (.slice kao kids.len kcap) rfl
      have HC9 := hide (check_v cpyZ p hps _ 0 _ ((unhide HF6).keepF (unhide HY)) ((unhide HSL6).keepF (unhide HY)))
      have HC10 := fun (w' : World) (hk : Keeps (fun _ => False) w6 w') => hide (checkExpr_v cpyZ op n s kids (by omega) w' _ _ ((unhide HF6).keepF hk) ((unhide HK1).keepF hk))
      have HP6 := hide ((unhide HP).argKeep (unhide HKB6) (fun k h => h))
      have HX6 := hide ((unhide HXK).argKeep (unhide HKB6) (fun k h => h))
      have HC11 := fun (w' : World) (hk : Keeps (fun _ => False) w6 w') => hide (stay_v w.heap.size w2.heap.size LE2 LS1 vS1 vE2 w' ((unhide HBH6).keepF hk) (by omega) (by omega))
      have HC12 := fun (w' : World) (hk : Keeps (fun _ => False) w6 w') => hide (rCheck_v (argZ w.heap.size) p hps w' 0 _ ((unhide HP6).keepF hk))
      have HC13 := fun (w' : World) (hk : Keeps (fun _ => False) w6 w') => hide (rCheckExpr_v (argZ w.heap.size) op n s kids (by omega) w' 0 _ ((unhide HX6).keepF hk))
      have HC14 := fun (w' : World) (hk : Keeps (fun _ => False) w6 w') => hide (eqStmts_same cpyZ (argZ w.heap.size) (p.size + 1) p (by omega) hps w' 0 0 _ _ ((unhide HSL6).keepF hk) ((unhide HP6).keepF hk))
      have HC15 := fun (w' : World) (hk : Keeps (fun _ => False) w6 w') => hide (eqExpr_same op n s kids.len kids.len kcap xcap kao xao w' (fun w'' hk2 => eqExprs_same cpyZ (argZ w.heap.size) (kids.size + 1) kids (by omega) (by omega) w'' _ 0 _ _ ((unhide HK1).keepF (hk.trans hk2)) ((unhide HX6).keepF (hk.trans hk2))))
      have hxl6 : w.heap.size < w6.heap.size := by omega
      have q0 := (cell_of_blk (unhide HBX6) 0).trans (show (#[Value.int .i64 op, .int .i64 n, str s, .slice xao kids.len xcap] : Array Value)[0]? = some (.int .i64 op) from rfl)
      have q1 := (cell_of_blk (unhide HBX6) 1).trans (show (#[Value.int .i64 op, .int .i64 n, str s, .slice xao kids.len xcap] : Array Value)[1]? = some (.int .i64 n) from rfl)
      have q2 := (cell_of_blk (unhide HBX6) 2).trans (show (#[Value.int .i64 op, .int .i64 n, str s, .slice xao kids.len xcap] : Array Value)[2]? = some (str s) from rfl)
      have q3 := (cell_of_blk (unhide HBX6) 3).trans (show (#[Value.int .i64 op, .int .i64 n, str s, .slice xao kids.len xcap] : Array Value)[3]? = some (.slice xao kids.len xcap) from rfl)
      clear hyc
      go_wp2_with (first
        | (go_at_call 9; refine (unhide HC9).mono ?_; rintro e w8 ⟨rfl, hk8⟩; have HK8 := hide ((unhide HY).trans hk8); have r0 := (hk8.cell (o := 0) hyb id).trans y0; have r1 := (hk8.cell (o := 1) hyb id).trans y1; have r2 := (hk8.cell (o := 2) hyb id).trans y2; have r3 := (hk8.cell (o := 3) hyb id).trans y3; have HJ8 := hide hk8; clear hk8)
        | (go_at_call 10; refine (unhide (HC10 _ (unhide HK8))).mono ?_; rintro e w9 ⟨rfl, hk9⟩; have HK9 := hide ((unhide HK8).trans hk9); have HJ9 := hide ((unhide HJ8).trans hk9); clear hk9)
        | (go_at_call 11; refine (unhide (HC11 _ (unhide HK9))).mono ?_; rintro e wa ⟨rfl, hka⟩; have HKa := hide ((unhide HK9).trans hka); have HJa := hide ((unhide HJ9).trans hka); clear hka)
        | (go_at_call 12; refine (unhide (HC12 _ (unhide HKa))).mono ?_; rintro e wb ⟨rfl, hkb⟩; have HKb := hide ((unhide HKa).trans hkb); have HJb := hide ((unhide HJa).trans hkb); have b0 := ((unhide HKb).cell (o := 0) hxl6 id).trans q0; have b1 := ((unhide HKb).cell (o := 1) hxl6 id).trans q1; have b2 := ((unhide HKb).cell (o := 2) hxl6 id).trans q2; have b3 := ((unhide HKb).cell (o := 3) hxl6 id).trans q3; clear hkb)
        | (go_at_call 13; refine (unhide (HC13 _ (unhide HKb))).mono ?_; rintro e wc ⟨rfl, hkc⟩; have HKc := hide ((unhide HKb).trans hkc); have HJc := hide ((unhide HJb).trans hkc); clear hkc)
        | (go_at_call 14; refine (unhide (HC14 _ (unhide HKc))).mono ?_; rintro e wd ⟨rfl, hkd⟩; have HKd := hide ((unhide HKc).trans hkd); have HJd := hide ((unhide HJc).trans hkd); have e0 := ((unhide HKd).cell (o := 0) hxl6 id).trans q0; have e1 := ((unhide HKd).cell (o := 1) hxl6 id).trans q1; have e2 := ((unhide HKd).cell (o := 2) hxl6 id).trans q2; have e3 := ((unhide HKd).cell (o := 3) hxl6 id).trans q3; have l0 := ((unhide HJd).cell (o := 0) hyb id).trans y0; have l1 := ((unhide HJd).cell (o := 1) hyb id).trans y1; have l2 := ((unhide HJd).cell (o := 2) hyb id).trans y2; have l3 := ((unhide HJd).cell (o := 3) hyb id).trans y3; clear hkd)
        | (go_at_call 15; refine (unhide (HC15 _ (unhide HKd))).mono ?_; rintro e we ⟨rfl, hke⟩; have HKe := hide ((unhide HKd).trans hke); clear hke))
      go_ret
      exact ⟨rfl, ((unhide HKB6).mono (G := fun _ => False) (fun k hk h => by omega)).trans (unhide HKe)⟩
end Go.Proofs.YtlnkleicnkfkpaaDoor
