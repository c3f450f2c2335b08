import Derived.Test.YtiinohibmcefkaaGreatDoorJzat
import Derived.Deep.DeepCutAuto
import Derived.Test.YtiinohibmcefkaaGreatDoorXr
import Derived.Test.YtiinohibmcefkaaGreatDoorJzak
namespace Go.Proofs.YtiinohibmcefkaaGreatDoor
open Go.RowKit Go.Maps
set_option maxRecDepth 100000
set_option maxHeartbeats 8000000
theorem does8t (S : List FieldA) (f : Txt) (h : Bool) (vals : List ValA) (so uo tO eo : Option Addr) (sc uc xc tn tc en ec : Nat) (w : World) (r : Bool × List ValA) (o n : Int) (s : Txt) (kv : Value) (x : ValA) (xb xo : Nat) (hxb : xb < w.heap.size) (x0 : w.cell? ⟨xb, xo, none⟩ = some (.int .i64 o)) (x1 : w.cell? ⟨xb, xo + 1, none⟩ = some (.int .i64 n)) (x2 : w.cell? ⟨xb, xo + 2, none⟩ = some (str s)) (x3 : w.cell? ⟨xb, xo + 3, none⟩ = some kv)
  (hwo : ∀ W' : World, Keeps (fun _ => False) w W' → Calls Tryz.prog 54 #[.agg #[.slice so S.length sc], .agg #[.int .i64 o, .int .i64 n, str s, kv], .agg #[.bool h, .slice uo vals.length uc]] W' fun e w' => e = .returned x.v ∧ Keeps (fun _ => False) W' w') (hn : x.n = 1)
  (haf : ∀ W' : World, Keeps (fun _ => False) w W' → Calls Tryz.prog 63 #[.agg #[.slice so S.length sc], .slice tO tn tc, .agg #[.bool h, .slice uo vals.length uc]] W' (RPost W' r)) :
  Calls Tryz.prog 100 #[.agg #[.slice so S.length sc], .agg #[.int .i64 8, str f, .slice (some ⟨xb, xo, none⟩) 1 xc, .slice tO tn tc, .slice eo en ec], .agg #[.bool h, .slice uo vals.length uc]] w (RPost w r) := by
 obtain ⟨X, hX, hkW, g0, g1, g2, g3⟩ := boxA4 w #[.slice so S.length sc] #[.int .i64 8, str f, .slice (some ⟨xb, xo, none⟩) 1 xc, .slice tO tn tc, .slice eo en ec] #[.bool h, .slice uo vals.length uc] #[.bool false, .slice none 0 0] 24 39 31 31
 have p0 := cl1 g0
 obtain ⟨c0, c1, c2, c3, c4⟩ := cl5 g1
 obtain ⟨r0, r1⟩ := cl2 g2
 have HKW := hide hkW
 have G0 := hide g0
 have G1 := hide g1
 have G2 := hide g2
 have B3 := hide g3
 have HWX := hide (Keeps.refl (fun _ => False) X)
 have HS0 := hide (fun (W' : World) (hk : Keeps (fun _ => False) X W') => blk_keep (blk_keep (uh G0) (uh HWX)) hk)
 have HX2 := hide (fun (W' : World) (hk : Keeps (fun _ => False) X W') => (cl5 (blk_keep (blk_keep (uh G1) (uh HWX)) hk)).2.2.1)
 have HR0 := hide (fun (W' : World) (hk : Keeps (fun _ => False) X W') => blk_keep (blk_keep (uh G2) (uh HWX)) hk)
 have HC := hide (fun (W' : World) (hk : Keeps (fun _ => False) X W') => (⟨((((uh HKW).trans (uh HWX)).trans hk).cell hxb id).trans x0, ((((uh HKW).trans (uh HWX)).trans hk).cell hxb id).trans x1, ((((uh HKW).trans (uh HWX)).trans hk).cell hxb id).trans x2, ((((uh HKW).trans (uh HWX)).trans hk).cell hxb id).trans x3⟩ : W'.cell? ⟨xb, xo, none⟩ = some (.int .i64 o) ∧ W'.cell? ⟨xb, xo + 1, none⟩ = some (.int .i64 n) ∧ W'.cell? ⟨xb, xo + 2, none⟩ = some (str s) ∧ W'.cell? ⟨xb, xo + 3, none⟩ = some kv))
 have HV := hide (fun (W' : World) (hk : Keeps (fun _ => False) X W') => hwo W' (((uh HKW).trans (uh HWX)).trans hk))
 have HKX := hide (Keeps.refl (fun _ => False) X)
 have HAF := hide haf
 clear g0 g1 g2 g3 hkW hwo haf x0 x1 x2 x3 hxb p0 c1 c2 c3 c4 r0 r1
 go_enter Tryz.func100, Tryz.ntmps100
 go_upto_region 9 with fail
 rename_i Q0 K0 hc0
 refine wp_region_last (X := X) (by kernel_rfl) 8 rfl _ rfl rfl (by decide) (by kernel_rfl) [25, 26, 27, 28, 29, 30, 31, 7] (by decide) rfl (by first | rfl | kernel_rfl | simp [opsB]) (uh HKX) (fun i v W1 => match i with | 0 => v = .agg #[.slice so S.length sc] | 1 => v = .pointer (some ⟨w.heap.size + 1, 0 + 2, none⟩) | 2 => v = .slice (some ⟨xb, xo, none⟩) 1 xc | 3 => v = .pointer (some ⟨xb, xo, none⟩) | 4 => v = .agg #[.int .i64 o, .int .i64 n, str s, kv] | 5 => v = .agg #[.bool h, .slice uo vals.length uc] | 6 => v = x.v | 7 => isB41 X.heap.size W1 v | _ => True) ?_ ?_ ?_
 ·intro i v w1 w2 hq hk
  rcases i with _ | _ | _ | _ | _ | _ | _ | _ | i
  all_goals first | exact hq | exact isB41.keep hq hk
 ·intro i oo A W1 him ho hs hk hd K' hK
  rcases i with _ | _ | _ | _ | _ | _ | _ | _ | i
  ·obtain rfl := Option.some.inj ho
   exact step_load24 rfl ((hs.at rfl 3 (by decide)).trans rfl) (uh HS0 W1 hk) (hK _ _ rfl (Keeps.refl _ _))
  ·obtain rfl := Option.some.inj ho
   exact step_fieldS2 rfl ((hs.at rfl 4 (by decide)).trans rfl) (hK _ _ rfl (Keeps.refl _ _))
  ·obtain rfl := Option.some.inj ho
   exact step_load25 rfl (hd ⟨1, .data⟩ (by simp) rfl) (uh HX2 W1 hk) (hK _ _ rfl (Keeps.refl _ _))
  ·obtain rfl := Option.some.inj ho
   exact step_indexE0 rfl (hd ⟨2, .data⟩ (by simp) rfl) (by decide) (hK _ _ rfl (Keeps.refl _ _))
  ·obtain rfl := Option.some.inj ho
   exact step_loadE rfl (hd ⟨3, .data⟩ (by simp) rfl) (uh HC W1 hk).1 (uh HC W1 hk).2.1 (uh HC W1 hk).2.2.1 (uh HC W1 hk).2.2.2 (hK _ _ rfl (Keeps.refl _ _))
  ·obtain rfl := Option.some.inj ho
   exact step_load31 rfl ((hs.at rfl 5 (by decide)).trans rfl) (uh HR0 W1 hk) (hK _ _ rfl (Keeps.refl _ _))
  ·obtain rfl := Option.some.inj ho
   exact step_c54 rfl (hd ⟨0, .data⟩ (by simp) rfl) (hd ⟨4, .data⟩ (by simp) rfl) (hd ⟨5, .data⟩ (by simp) rfl) (uh HV W1 hk) (fun _ q => hK _ _ rfl q)
  ·obtain rfl := Option.some.inj ho
   exact step_alloc41 rfl hk.size (fun v' w' h1 h2 => hK v' w' h1 h2)
  ·omega
 ·intro A V hs hk hall K' hK
  have hb : isB41 X.heap.size V (A.tmps.getD 7 undef) := hall 7 (by decide)
  have v0 : A.tmps.getD 25 undef = .agg #[.slice so S.length sc] := hall 0 (by decide)
  have v1 : A.tmps.getD 26 undef = .pointer (some ⟨w.heap.size + 1, 0 + 2, none⟩) := hall 1 (by decide)
  have v2 : A.tmps.getD 27 undef = .slice (some ⟨xb, xo, none⟩) 1 xc := hall 2 (by decide)
  have v3 : A.tmps.getD 28 undef = .pointer (some ⟨xb, xo, none⟩) := hall 3 (by decide)
  have v4 : A.tmps.getD 29 undef = .agg #[.int .i64 o, .int .i64 n, str s, kv] := hall 4 (by decide)
  have v5 : A.tmps.getD 30 undef = .agg #[.bool h, .slice uo vals.length uc] := hall 5 (by decide)
  have v6 : A.tmps.getD 31 undef = x.v := hall 6 (by decide)
  refine step_store41 (X := X) (x := x) rfl rfl rfl v6 hb rfl hk ?_
  intro gg V2 hp hg hgb hkV
  refine hK A V2 (hc0 _ _ ?_)
  have hA := same_fold hs rfl
  simp only [List.foldl_cons, List.foldl_nil, v0, v1, v2, v3, v4, v5, v6, hp] at hA
  simp only [Act.put, List.setIfInBounds_toArray, List.set_cons_zero, List.set_cons_succ] at hA
  have HB := hide hgb
  have HKV := hide hkV
  rw [hA]
  clear hs hk hall hK hA hp hg hgb hkV hb v0 v1 v2 v3 v4 v5 v6
  obtain ⟨b0, b1, b2⟩ := cl3 (uh HB)
  have p0 := cl1 (blk_keep (uh G0) (uh HKV))
  obtain ⟨c0, c1, c2, c3, c4⟩ := cl5 (blk_keep (uh G1) (uh HKV))
  obtain ⟨r0, r1⟩ := cl2 (blk_keep (uh G2) (uh HKV))
  have HQ := hide (uh HAF V2 ((uh HKW).trans (uh HKV)))
  go_wp2_with fail
  refine (uh HQ).mono ?_
  rintro e w2 ⟨v2, rfl, ⟨no, nc, rfl, hnv⟩, hk2⟩
  have hb := blk_keep (uh B3) ((uh HKV).trans hk2)
  have z0 := fB hb 0
  have z1 := fB hb 1
  obtain ⟨y0, y1⟩ := cl2 hb
  obtain ⟨s0, s1⟩ := set2c hb (.bool r.1) (.slice no r.2.length nc)
  have HKE := hide ((((uh HKW).trans (uh HKV)).trans hk2).fresh (by omega) (keeps_set2 w2 (w.heap.size + 1 + 1 + 1) (.bool r.1) (.slice no r.2.length nc)))
  have HVE := hide (vals_off hnv hb (off2 (by intro n; simp)) (keeps_set2 w2 (w.heap.size + 1 + 1 + 1) (.bool r.1) (.slice no r.2.length nc)))
  clear hb hk2 hnv p0 c0 c1 c2 c3 c4 r0 r1 b0 b1 b2
  go_wp2_with fail
  refine bodyPost_ret (v := .agg #[.bool r.1, .slice no r.2.length nc]) (by simp [results, go_sem, s0, s1]) rfl ?_
  exact ⟨_, rfl, ⟨no, nc, rfl, uh HVE⟩, uh HKE⟩
theorem does8e (S : List FieldA) (f : Txt) (h : Bool) (vals : List ValA) (so uo tO eo : Option Addr) (sc uc xc tn tc en ec : Nat) (w : World) (r : Bool × List ValA) (o n : Int) (s : Txt) (kv : Value) (x : ValA) (xb xo : Nat) (hxb : xb < w.heap.size) (x0 : w.cell? ⟨xb, xo, none⟩ = some (.int .i64 o)) (x1 : w.cell? ⟨xb, xo + 1, none⟩ = some (.int .i64 n)) (x2 : w.cell? ⟨xb, xo + 2, none⟩ = some (str s)) (x3 : w.cell? ⟨xb, xo + 3, none⟩ = some kv)
  (hwo : ∀ W' : World, Keeps (fun _ => False) w W' → Calls Tryz.prog 54 #[.agg #[.slice so S.length sc], .agg #[.int .i64 o, .int .i64 n, str s, kv], .agg #[.bool h, .slice uo vals.length uc]] W' fun e w' => e = .returned x.v ∧ Keeps (fun _ => False) W' w') (hn : ¬ x.n = 1)
  (haf : ∀ W' : World, Keeps (fun _ => False) w W' → Calls Tryz.prog 63 #[.agg #[.slice so S.length sc], .slice eo en ec, .agg #[.bool h, .slice uo vals.length uc]] W' (RPost W' r)) :
  Calls Tryz.prog 100 #[.agg #[.slice so S.length sc], .agg #[.int .i64 8, str f, .slice (some ⟨xb, xo, none⟩) 1 xc, .slice tO tn tc, .slice eo en ec], .agg #[.bool h, .slice uo vals.length uc]] w (RPost w r) := by
 obtain ⟨X, hX, hkW, g0, g1, g2, g3⟩ := boxA4 w #[.slice so S.length sc] #[.int .i64 8, str f, .slice (some ⟨xb, xo, none⟩) 1 xc, .slice tO tn tc, .slice eo en ec] #[.bool h, .slice uo vals.length uc] #[.bool false, .slice none 0 0] 24 39 31 31
 have p0 := cl1 g0
 obtain ⟨c0, c1, c2, c3, c4⟩ := cl5 g1
 obtain ⟨r0, r1⟩ := cl2 g2
 have HKW := hide hkW
 have G0 := hide g0
 have G1 := hide g1
 have G2 := hide g2
 have B3 := hide g3
 have HWX := hide (Keeps.refl (fun _ => False) X)
 have HS0 := hide (fun (W' : World) (hk : Keeps (fun _ => False) X W') => blk_keep (blk_keep (uh G0) (uh HWX)) hk)
 have HX2 := hide (fun (W' : World) (hk : Keeps (fun _ => False) X W') => (cl5 (blk_keep (blk_keep (uh G1) (uh HWX)) hk)).2.2.1)
 have HR0 := hide (fun (W' : World) (hk : Keeps (fun _ => False) X W') => blk_keep (blk_keep (uh G2) (uh HWX)) hk)
 have HC := hide (fun (W' : World) (hk : Keeps (fun _ => False) X W') => (⟨((((uh HKW).trans (uh HWX)).trans hk).cell hxb id).trans x0, ((((uh HKW).trans (uh HWX)).trans hk).cell hxb id).trans x1, ((((uh HKW).trans (uh HWX)).trans hk).cell hxb id).trans x2, ((((uh HKW).trans (uh HWX)).trans hk).cell hxb id).trans x3⟩ : W'.cell? ⟨xb, xo, none⟩ = some (.int .i64 o) ∧ W'.cell? ⟨xb, xo + 1, none⟩ = some (.int .i64 n) ∧ W'.cell? ⟨xb, xo + 2, none⟩ = some (str s) ∧ W'.cell? ⟨xb, xo + 3, none⟩ = some kv))
 have HV := hide (fun (W' : World) (hk : Keeps (fun _ => False) X W') => hwo W' (((uh HKW).trans (uh HWX)).trans hk))
 have HKX := hide (Keeps.refl (fun _ => False) X)
 have HAF := hide haf
 clear g0 g1 g2 g3 hkW hwo haf x0 x1 x2 x3 hxb p0 c1 c2 c3 c4 r0 r1
 go_enter Tryz.func100, Tryz.ntmps100
 go_upto_region 9 with fail
 rename_i Q0 K0 hc0
 refine wp_region_last (X := X) (by kernel_rfl) 8 rfl _ rfl rfl (by decide) (by kernel_rfl) [25, 26, 27, 28, 29, 30, 31, 7] (by decide) rfl (by first | rfl | kernel_rfl | simp [opsB]) (uh HKX) (fun i v W1 => match i with | 0 => v = .agg #[.slice so S.length sc] | 1 => v = .pointer (some ⟨w.heap.size + 1, 0 + 2, none⟩) | 2 => v = .slice (some ⟨xb, xo, none⟩) 1 xc | 3 => v = .pointer (some ⟨xb, xo, none⟩) | 4 => v = .agg #[.int .i64 o, .int .i64 n, str s, kv] | 5 => v = .agg #[.bool h, .slice uo vals.length uc] | 6 => v = x.v | 7 => isB41 X.heap.size W1 v | _ => True) ?_ ?_ ?_
 ·intro i v w1 w2 hq hk
  rcases i with _ | _ | _ | _ | _ | _ | _ | _ | i
  all_goals first | exact hq | exact isB41.keep hq hk
 ·intro i oo A W1 him ho hs hk hd K' hK
  rcases i with _ | _ | _ | _ | _ | _ | _ | _ | i
  ·obtain rfl := Option.some.inj ho
   exact step_load24 rfl ((hs.at rfl 3 (by decide)).trans rfl) (uh HS0 W1 hk) (hK _ _ rfl (Keeps.refl _ _))
  ·obtain rfl := Option.some.inj ho
   exact step_fieldS2 rfl ((hs.at rfl 4 (by decide)).trans rfl) (hK _ _ rfl (Keeps.refl _ _))
  ·obtain rfl := Option.some.inj ho
   exact step_load25 rfl (hd ⟨1, .data⟩ (by simp) rfl) (uh HX2 W1 hk) (hK _ _ rfl (Keeps.refl _ _))
  ·obtain rfl := Option.some.inj ho
   exact step_indexE0 rfl (hd ⟨2, .data⟩ (by simp) rfl) (by decide) (hK _ _ rfl (Keeps.refl _ _))
  ·obtain rfl := Option.some.inj ho
   exact step_loadE rfl (hd ⟨3, .data⟩ (by simp) rfl) (uh HC W1 hk).1 (uh HC W1 hk).2.1 (uh HC W1 hk).2.2.1 (uh HC W1 hk).2.2.2 (hK _ _ rfl (Keeps.refl _ _))
  ·obtain rfl := Option.some.inj ho
   exact step_load31 rfl ((hs.at rfl 5 (by decide)).trans rfl) (uh HR0 W1 hk) (hK _ _ rfl (Keeps.refl _ _))
  ·obtain rfl := Option.some.inj ho
   exact step_c54 rfl (hd ⟨0, .data⟩ (by simp) rfl) (hd ⟨4, .data⟩ (by simp) rfl) (hd ⟨5, .data⟩ (by simp) rfl) (uh HV W1 hk) (fun _ q => hK _ _ rfl q)
  ·obtain rfl := Option.some.inj ho
   exact step_alloc41 rfl hk.size (fun v' w' h1 h2 => hK v' w' h1 h2)
  ·omega
 ·intro A V hs hk hall K' hK
  have hb : isB41 X.heap.size V (A.tmps.getD 7 undef) := hall 7 (by decide)
  have v0 : A.tmps.getD 25 undef = .agg #[.slice so S.length sc] := hall 0 (by decide)
  have v1 : A.tmps.getD 26 undef = .pointer (some ⟨w.heap.size + 1, 0 + 2, none⟩) := hall 1 (by decide)
  have v2 : A.tmps.getD 27 undef = .slice (some ⟨xb, xo, none⟩) 1 xc := hall 2 (by decide)
  have v3 : A.tmps.getD 28 undef = .pointer (some ⟨xb, xo, none⟩) := hall 3 (by decide)
  have v4 : A.tmps.getD 29 undef = .agg #[.int .i64 o, .int .i64 n, str s, kv] := hall 4 (by decide)
  have v5 : A.tmps.getD 30 undef = .agg #[.bool h, .slice uo vals.length uc] := hall 5 (by decide)
  have v6 : A.tmps.getD 31 undef = x.v := hall 6 (by decide)
  refine step_store41 (X := X) (x := x) rfl rfl rfl v6 hb rfl hk ?_
  intro gg V2 hp hg hgb hkV
  refine hK A V2 (hc0 _ _ ?_)
  have hA := same_fold hs rfl
  simp only [List.foldl_cons, List.foldl_nil, v0, v1, v2, v3, v4, v5, v6, hp] at hA
  simp only [Act.put, List.setIfInBounds_toArray, List.set_cons_zero, List.set_cons_succ] at hA
  have HB := hide hgb
  have HKV := hide hkV
  rw [hA]
  clear hs hk hall hK hA hp hg hgb hkV hb v0 v1 v2 v3 v4 v5 v6
  obtain ⟨b0, b1, b2⟩ := cl3 (uh HB)
  have p0 := cl1 (blk_keep (uh G0) (uh HKV))
  obtain ⟨c0, c1, c2, c3, c4⟩ := cl5 (blk_keep (uh G1) (uh HKV))
  obtain ⟨r0, r1⟩ := cl2 (blk_keep (uh G2) (uh HKV))
  have HQ := hide (uh HAF V2 ((uh HKW).trans (uh HKV)))
  go_wp2_with fail
  refine (uh HQ).mono ?_
  rintro e w2 ⟨v2, rfl, ⟨no, nc, rfl, hnv⟩, hk2⟩
  have hb := blk_keep (uh B3) ((uh HKV).trans hk2)
  have z0 := fB hb 0
  have z1 := fB hb 1
  obtain ⟨y0, y1⟩ := cl2 hb
  obtain ⟨s0, s1⟩ := set2c hb (.bool r.1) (.slice no r.2.length nc)
  have HKE := hide ((((uh HKW).trans (uh HKV)).trans hk2).fresh (by omega) (keeps_set2 w2 (w.heap.size + 1 + 1 + 1) (.bool r.1) (.slice no r.2.length nc)))
  have HVE := hide (vals_off hnv hb (off2 (by intro n; simp)) (keeps_set2 w2 (w.heap.size + 1 + 1 + 1) (.bool r.1) (.slice no r.2.length nc)))
  clear hb hk2 hnv p0 c0 c1 c2 c3 c4 r0 r1 b0 b1 b2
  go_wp2_with fail
  refine bodyPost_ret (v := .agg #[.bool r.1, .slice no r.2.length nc]) (by simp [results, go_sem, s0, s1]) rfl ?_
  exact ⟨_, rfl, ⟨no, nc, rfl, uh HVE⟩, uh HKE⟩
end Go.Proofs.YtiinohibmcefkaaGreatDoor
namespace Go.Proofs.YtiinohibmcefkaaGreatDoor
open Go.RowKit Go.Maps
set_option maxRecDepth 100000
set_option maxHeartbeats 8000000
section
variable {Q : Exit → Act → World → Prop} {K : Act → World → Prop} {o : Oper} {a : Act} {w : World}
theorem step_indexV {t u kb ko n cap j : Nat} (ho : o.op = .indexAddr 29 (.tmp t) (.tmp u)) (ht : a.tmps.getD t undef = .slice (some ⟨kb, ko, none⟩) n cap) (hu : a.tmps.getD u undef = .int .i64 (j : Int)) (hj : j < n) (hk : K (a.put o.dst (.pointer (some ⟨kb, ko + j * 3, none⟩))) w) : Oper.wp Tryz.prog o a w K Q := by
 have he := slot_of ht
 have he2 := slot_of hu
 have h1 : (j : Int) < (n : Int) := by omega
 have h0 : (0 : Int) ≤ (j : Int) := by omega
 unfold Oper.wp
 simp [execOp, ho, he, he2, go_sem, h1, h0]
 exact hk
theorem step_fieldR1 {t b off : Nat} (ho : o.op = .fieldAddr 31 (.tmp t) 1) (ht : a.tmps.getD t undef = .pointer (some ⟨b, off, none⟩)) (hk : K (a.put o.dst (.pointer (some ⟨b, off + 1, none⟩))) w) : Oper.wp Tryz.prog o a w K Q := by
 have he := slot_of ht
 unfold Oper.wp
 simp [execOp, ho, he, go_sem]
 exact hk
theorem step_load29 {t b off : Nat} {v : Value} (ho : o.op = .load 29 (.tmp t)) (ht : a.tmps.getD t undef = .pointer (some ⟨b, off, none⟩)) (hc : w.cell? ⟨b, off, none⟩ = some v) (hk : K (a.put o.dst v) w) : Oper.wp Tryz.prog o a w K Q := by
 have he := slot_of ht
 unfold Oper.wp
 simp [execOp, ho, he, go_sem, hc]
 exact hk
theorem step_c161 {t u q : Nat} {v v2 v3 : Value} {r : Value} (ho : o.op = .call { callee := .value (.func 161), args := #[.tmp t, .tmp u, .tmp q], argTypes := #[3, 41, 41] }) (ht : a.tmps.getD t undef = v) (hu : a.tmps.getD u undef = v2) (hq : a.tmps.getD q undef = v3) (hc : Calls Tryz.prog 161 #[v, v2, v3] w fun e w' => e = .returned r ∧ Keeps (fun _ => False) w w')
  (hk : ∀ w', Keeps (fun _ => False) w w' → K (a.put o.dst r) w') : Oper.wp Tryz.prog o a w K Q := by
 have e1 := slot_of ht
 have e2 := slot_of hu
 have e3 := slot_of hq
 unfold Oper.wp
 simp [execOp, ho, e1, e2, e3, go_sem]
 refine hc.mono ?_
 rintro e w' ⟨rfl, h⟩
 exact hk _ h
theorem step_c160 {t u q : Nat} {v v2 v3 : Value} {L : List ValA} (ho : o.op = .call { callee := .value (.func 160), args := #[.tmp t, .tmp u, .tmp q], argTypes := #[31, 3, 41] }) (ht : a.tmps.getD t undef = v) (hu : a.tmps.getD u undef = v2) (hq : a.tmps.getD q undef = v3) (hc : Calls Tryz.prog 160 #[v, v2, v3] w fun e w' => ∃ uo uc, e = .returned (.agg #[.bool true, .slice uo L.length uc]) ∧ w'.ownsRow w.heap.size 41 3 (.slice uo L.length uc) L.length (vcs L) ∧ Keeps (fun _ => False) w w')
  (hk : ∀ v' w', isR w' v' (true, L) → Keeps (fun _ => False) w w' → K (a.put o.dst v') w') : Oper.wp Tryz.prog o a w K Q := by
 have e1 := slot_of ht
 have e2 := slot_of hu
 have e3 := slot_of hq
 unfold Oper.wp
 simp [execOp, ho, e1, e2, e3, go_sem]
 refine hc.mono ?_
 rintro e w' ⟨uo, uc, rfl, h1, h2⟩
 exact hk _ _ ⟨uo, uc, rfl, rowAt_own h1⟩ h2
end
theorem doesV (S : List FieldA) (hS : schemaB S = true) (fd : FieldA) (f : Txt) (hfo : fieldOf S f = some fd) (vals : List ValA) (so tO eo : Option Addr) (vb vo sc uc xc tn tc en ec : Nat) (w : World) (op : Int) (h5 : op ≠ 5) (h6 : op ≠ 6) (h7 : op ≠ 7) (h8 : op ≠ 8) (y : ValA) (hy : vals[placeP S f]? = some y) (hl : vals.length ≤ 4398046511104) (hf : FldsAt w (.slice so S.length sc) S) (hu : ValsAt w (.slice (some ⟨vb, vo, none⟩) vals.length uc) vals)
  (o n : Int) (s : Txt) (kv : Value) (x : ValA) (xb xo : Nat) (hxb : xb < w.heap.size) (x0 : w.cell? ⟨xb, xo, none⟩ = some (.int .i64 o)) (x1 : w.cell? ⟨xb, xo + 1, none⟩ = some (.int .i64 n)) (x2 : w.cell? ⟨xb, xo + 2, none⟩ = some (str s)) (x3 : w.cell? ⟨xb, xo + 3, none⟩ = some kv)
  (hwo : ∀ W' : World, Keeps (fun _ => False) w W' → Calls Tryz.prog 54 #[.agg #[.slice so S.length sc], .agg #[.int .i64 o, .int .i64 n, str s, kv], .agg #[.bool true, .slice (some ⟨vb, vo, none⟩) vals.length uc]] W' fun e w' => e = .returned x.v ∧ Keeps (fun _ => False) W' w') :
  Calls Tryz.prog 100 #[.agg #[.slice so S.length sc], .agg #[.int .i64 op, str f, .slice (some ⟨xb, xo, none⟩) 1 xc, .slice tO tn tc, .slice eo en ec], .agg #[.bool true, .slice (some ⟨vb, vo, none⟩) vals.length uc]] w (RPost w (true, vals.set (placeP S f) (rjoinV op y x))) := by
 obtain ⟨W, hW, hkW, g0, g1, g2, g3⟩ := boxA4 w #[.slice so S.length sc] #[.int .i64 op, str f, .slice (some ⟨xb, xo, none⟩) 1 xc, .slice tO tn tc, .slice eo en ec] #[.bool true, .slice (some ⟨vb, vo, none⟩) vals.length uc] #[.bool false, .slice none 0 0] 24 39 31 31
 have p0 := cl1 g0
 obtain ⟨c0, c1, c2, c3, c4⟩ := cl5 g1
 obtain ⟨r0, r1⟩ := cl2 g2
 have HKW := hide hkW
 have G0 := hide g0
 have G1 := hide g1
 have G2 := hide g2
 have B3 := hide g3
 have HP := hide (rplace_v S hS (.slice so S.length sc) f fd hfo W (hf.keepF hkW))
 have HUW := hide (hu.keepF hkW)
 have hil : placeP S f < vals.length := (List.getElem?_eq_some_iff.1 hy).1
 generalize placeP S f = i at *
 have HIL := hide hil
 have HY0 : Hid (∀ W', Keeps (fun _ => False) w W' → W'.cell? ⟨vb, vo + i * 3, none⟩ = some (.int .i64 y.kind) ∧ W'.cell? ⟨vb, vo + i * 3 + 1, none⟩ = some (.int .i64 y.n) ∧ W'.cell? ⟨vb, vo + i * 3 + 2, none⟩ = some (str y.s)) := fun W' hk => by
  obtain ⟨b', o', c', e1, hb', hc⟩ := hu.cells (by omega)
  simp at e1
  obtain ⟨⟨rfl, rfl⟩, _⟩ := e1
  obtain ⟨q0, q1, q2⟩ := hc i y hy
  exact ⟨(hk.cell hb' id).trans q0, (hk.cell hb' id).trans q1, (hk.cell hb' id).trans q2⟩
 obtain ⟨L, hL⟩ : ∃ L, vals.set i (rjoinV op y x) = L := ⟨_, rfl⟩
 rw [hL]
 have HWI0 := hide (fun (W' : World) (hk : Keeps (fun _ => False) w W') => (by have := rwith_v W' true (.slice (some ⟨vb, vo, none⟩) vals.length uc) vals i (rjoinV op y x) (hu.keepF hk) hl; rw [hL] at this; exact this : Calls Tryz.prog 160 #[.agg #[.bool true, .slice (some ⟨vb, vo, none⟩) vals.length uc], .int .i64 (i : Int), (rjoinV op y x).v] W' fun e w' => ∃ uo uc, e = .returned (.agg #[.bool true, .slice uo L.length uc]) ∧ w'.ownsRow W'.heap.size 41 3 (.slice uo L.length uc) L.length (vcs L) ∧ Keeps (fun _ => False) W' w'))
 clear g0 g1 g2 g3 hkW hf hu hy hl hfo hil hL
 go_enter Tryz.func100, Tryz.ntmps100
 go_wp2_with fail
 refine (uh HP).mono ?_
 rintro e X ⟨rfl, hk1⟩
 have HWX := hide hk1
 replace c0 := (cl5 (blk_keep (uh G1) hk1)).1
 have HS0 := hide (fun (W' : World) (hk : Keeps (fun _ => False) X W') => blk_keep (blk_keep (uh G0) (uh HWX)) hk)
 have HX2 := hide (fun (W' : World) (hk : Keeps (fun _ => False) X W') => (cl5 (blk_keep (blk_keep (uh G1) (uh HWX)) hk)).2.2.1)
 have HR0 := hide (fun (W' : World) (hk : Keeps (fun _ => False) X W') => blk_keep (blk_keep (uh G2) (uh HWX)) hk)
 have HC := hide (fun (W' : World) (hk : Keeps (fun _ => False) X W') => (⟨((((uh HKW).trans (uh HWX)).trans hk).cell hxb id).trans x0, ((((uh HKW).trans (uh HWX)).trans hk).cell hxb id).trans x1, ((((uh HKW).trans (uh HWX)).trans hk).cell hxb id).trans x2, ((((uh HKW).trans (uh HWX)).trans hk).cell hxb id).trans x3⟩ : W'.cell? ⟨xb, xo, none⟩ = some (.int .i64 o) ∧ W'.cell? ⟨xb, xo + 1, none⟩ = some (.int .i64 n) ∧ W'.cell? ⟨xb, xo + 2, none⟩ = some (str s) ∧ W'.cell? ⟨xb, xo + 3, none⟩ = some kv))
 have HV := hide (fun (W' : World) (hk : Keeps (fun _ => False) X W') => hwo W' (((uh HKW).trans (uh HWX)).trans hk))
 have HKX := hide (Keeps.refl (fun _ => False) X)
 clear hk1 p0 c1 c2 c3 c4 r0 r1 hwo x0 x1 x2 x3 hxb
 go_upto_region 18 with fail
 rename_i Q0 K0 hc0
 refine wp_region_last (X := X) (by kernel_rfl) 8 rfl _ rfl rfl (by decide) (by kernel_rfl) [60, 61, 62, 63, 64, 65, 66, 9] (by decide) rfl (by first | rfl | kernel_rfl | simp [opsB]) (uh HKX) (fun i v W1 => match i with | 0 => v = .agg #[.slice so S.length sc] | 1 => v = .pointer (some ⟨w.heap.size + 1, 0 + 2, none⟩) | 2 => v = .slice (some ⟨xb, xo, none⟩) 1 xc | 3 => v = .pointer (some ⟨xb, xo, none⟩) | 4 => v = .agg #[.int .i64 o, .int .i64 n, str s, kv] | 5 => v = .agg #[.bool true, .slice (some ⟨vb, vo, none⟩) vals.length uc] | 6 => v = x.v | 7 => isB41 X.heap.size W1 v | _ => True) ?_ ?_ ?_
 ·intro i v w1 w2 hq hk
  rcases i with _ | _ | _ | _ | _ | _ | _ | _ | i
  all_goals first | exact hq | exact isB41.keep hq hk
 ·intro i oo A W1 him ho hs hk hd K' hK
  rcases i with _ | _ | _ | _ | _ | _ | _ | _ | i
  ·obtain rfl := Option.some.inj ho
   exact step_load24 rfl ((hs.at rfl 3 (by decide)).trans rfl) (uh HS0 W1 hk) (hK _ _ rfl (Keeps.refl _ _))
  ·obtain rfl := Option.some.inj ho
   exact step_fieldS2 rfl ((hs.at rfl 4 (by decide)).trans rfl) (hK _ _ rfl (Keeps.refl _ _))
  ·obtain rfl := Option.some.inj ho
   exact step_load25 rfl (hd ⟨1, .data⟩ (by simp) rfl) (uh HX2 W1 hk) (hK _ _ rfl (Keeps.refl _ _))
  ·obtain rfl := Option.some.inj ho
   exact step_indexE0 rfl (hd ⟨2, .data⟩ (by simp) rfl) (by decide) (hK _ _ rfl (Keeps.refl _ _))
  ·obtain rfl := Option.some.inj ho
   exact step_loadE rfl (hd ⟨3, .data⟩ (by simp) rfl) (uh HC W1 hk).1 (uh HC W1 hk).2.1 (uh HC W1 hk).2.2.1 (uh HC W1 hk).2.2.2 (hK _ _ rfl (Keeps.refl _ _))
  ·obtain rfl := Option.some.inj ho
   exact step_load31 rfl ((hs.at rfl 5 (by decide)).trans rfl) (uh HR0 W1 hk) (hK _ _ rfl (Keeps.refl _ _))
  ·obtain rfl := Option.some.inj ho
   exact step_c54 rfl (hd ⟨0, .data⟩ (by simp) rfl) (hd ⟨4, .data⟩ (by simp) rfl) (hd ⟨5, .data⟩ (by simp) rfl) (uh HV W1 hk) (fun _ q => hK _ _ rfl q)
  ·obtain rfl := Option.some.inj ho
   exact step_alloc41 rfl hk.size (fun v' w' h1 h2 => hK v' w' h1 h2)
  ·omega
 ·intro A V hs hk hall K' hK
  have hb : isB41 X.heap.size V (A.tmps.getD 9 undef) := hall 7 (by decide)
  have v0 : A.tmps.getD 60 undef = .agg #[.slice so S.length sc] := hall 0 (by decide)
  have v1 : A.tmps.getD 61 undef = .pointer (some ⟨w.heap.size + 1, 0 + 2, none⟩) := hall 1 (by decide)
  have v2 : A.tmps.getD 62 undef = .slice (some ⟨xb, xo, none⟩) 1 xc := hall 2 (by decide)
  have v3 : A.tmps.getD 63 undef = .pointer (some ⟨xb, xo, none⟩) := hall 3 (by decide)
  have v4 : A.tmps.getD 64 undef = .agg #[.int .i64 o, .int .i64 n, str s, kv] := hall 4 (by decide)
  have v5 : A.tmps.getD 65 undef = .agg #[.bool true, .slice (some ⟨vb, vo, none⟩) vals.length uc] := hall 5 (by decide)
  have v6 : A.tmps.getD 66 undef = x.v := hall 6 (by decide)
  refine step_store41 (X := X) (x := x) rfl rfl rfl v6 hb rfl hk ?_
  intro gg V2 hp hg hgb hkV
  refine hK A V2 (hc0 _ _ ?_)
  have hA := same_fold hs rfl
  simp only [List.foldl_cons, List.foldl_nil, v0, v1, v2, v3, v4, v5, v6, hp] at hA
  simp only [Act.put, List.setIfInBounds_toArray, List.set_cons_zero, List.set_cons_succ] at hA
  have HB := hide hgb
  have HKV := hide hkV
  rw [hA]
  clear hs hk hall hK hA hp hg hgb hkV hb v0 v1 v2 v3 v4 v5 v6
  have HXY := hide ((uh HWX).trans (uh HKV))
  have HR0 := hide (fun (W' : World) (hk : Keeps (fun _ => False) V2 W') => blk_keep (blk_keep (uh G2) (uh HXY)) hk)
  have HO0 := hide (fun (W' : World) (hk : Keeps (fun _ => False) V2 W') => (cl5 (blk_keep (blk_keep (uh G1) (uh HXY)) hk)).1)
  have HU0 := hide (fun (W' : World) (hk : Keeps (fun _ => False) V2 W') => (cl2 (blk_keep (blk_keep (uh G2) (uh HXY)) hk)).2)
  have HY := hide (fun (W' : World) (hk : Keeps (fun _ => False) V2 W') => uh HY0 W' (((uh HKW).trans (uh HXY)).trans hk))
  have HB9 := hide (fun (W' : World) (hk : Keeps (fun _ => False) V2 W') => cl3 (blk_keep (uh HB) hk))
  have HWI := hide (fun (W' : World) (hk : Keeps (fun _ => False) V2 W') => uh HWI0 W' (((uh HKW).trans (uh HXY)).trans hk))
  have HR3 := hide (fun (W' : World) (hk : Keeps (fun _ => False) V2 W') => blk_keep (blk_keep (uh B3) (uh HXY)) hk)
  have HKY := hide (Keeps.refl (fun _ => False) V2)
  generalize V2 = Y at *
  clear HS0 HX2 HC HV HKX c0
  go_upto_region 19 with fail
  rename_i Q1 K1 hc1
  refine wp_region_last (X := Y) (by kernel_rfl) 12 rfl _ rfl rfl (by decide) (by kernel_rfl) [67, 68, 69, 70, 71, 72, 73, 74, 75, 76, 77, 78] (by decide) rfl (by first | rfl | kernel_rfl | simp [opsB]) (uh HKY) (fun k v W1 => match k with | 0 => v = .agg #[.bool true, .slice (some ⟨vb, vo, none⟩) vals.length uc] | 1 => v = .int .i64 (i : Int) | 2 => v = .pointer (some ⟨w.heap.size + 1, 0, none⟩) | 3 => v = .int .i64 op | 4 => v = .pointer (some ⟨w.heap.size + 1 + 1, 0 + 1, none⟩) | 5 => v = .slice (some ⟨vb, vo, none⟩) vals.length uc | 6 => v = .int .i64 (i : Int) | 7 => v = .pointer (some ⟨vb, vo + i * 3, none⟩) | 8 => v = y.v | 9 => v = x.v | 10 => v = (rjoinV op y x).v | 11 => isR W1 v (true, L) | _ => True) ?_ ?_ ?_
  ·intro k v w1 w2 hq hk
   rcases k with _ | _ | _ | _ | _ | _ | _ | _ | _ | _ | _ | _ | i
   all_goals first | exact hq | exact isR.keepF hq hk
  ·intro k oo A W1 him ho hs hk hd K' hK
   rcases k with _ | _ | _ | _ | _ | _ | _ | _ | _ | _ | _ | _ | i
   ·obtain rfl := Option.some.inj ho
    exact step_load31 rfl ((hs.at rfl 5 (by decide)).trans rfl) (uh HR0 W1 hk) (hK _ _ rfl (Keeps.refl _ _))
   ·obtain rfl := Option.some.inj ho
    exact step_move rfl ((hs.at rfl 8 (by decide)).trans rfl) (hK _ _ rfl (Keeps.refl _ _))
   ·obtain rfl := Option.some.inj ho
    exact step_fieldS0 rfl ((hs.at rfl 4 (by decide)).trans rfl) (hK _ _ rfl (Keeps.refl _ _))
   ·obtain rfl := Option.some.inj ho
    exact step_load3 rfl (hd ⟨2, .data⟩ (by simp) rfl) (uh HO0 W1 hk) (hK _ _ rfl (Keeps.refl _ _))
   ·obtain rfl := Option.some.inj ho
    exact step_fieldR1 rfl ((hs.at rfl 5 (by decide)).trans rfl) (hK _ _ rfl (Keeps.refl _ _))
   ·obtain rfl := Option.some.inj ho
    exact step_load29 rfl (hd ⟨4, .data⟩ (by simp) rfl) (uh HU0 W1 hk) (hK _ _ rfl (Keeps.refl _ _))
   ·obtain rfl := Option.some.inj ho
    exact step_move rfl ((hs.at rfl 8 (by decide)).trans rfl) (hK _ _ rfl (Keeps.refl _ _))
   ·obtain rfl := Option.some.inj ho
    exact step_indexV rfl (hd ⟨5, .data⟩ (by simp) rfl) (hd ⟨6, .data⟩ (by simp) rfl) (uh HIL) (hK _ _ rfl (Keeps.refl _ _))
   ·obtain rfl := Option.some.inj ho
    exact step_load41 rfl (hd ⟨7, .data⟩ (by simp) rfl) (uh HY W1 hk).1 (uh HY W1 hk).2.1 (uh HY W1 hk).2.2 (hK _ _ rfl (Keeps.refl _ _))
   ·obtain rfl := Option.some.inj ho
    exact step_load41 rfl ((hs.at rfl 9 (by decide)).trans rfl) (uh HB9 W1 hk).1 (uh HB9 W1 hk).2.1 (uh HB9 W1 hk).2.2 (hK _ _ rfl (Keeps.refl _ _))
   ·obtain rfl := Option.some.inj ho
    exact step_c161 rfl (hd ⟨3, .data⟩ (by simp) rfl) (hd ⟨8, .data⟩ (by simp) rfl) (hd ⟨9, .data⟩ (by simp) rfl) (rjoined_v op y x W1) (fun _ q => hK _ _ rfl q)
   ·obtain rfl := Option.some.inj ho
    exact step_c160 rfl (hd ⟨0, .data⟩ (by simp) rfl) (hd ⟨1, .data⟩ (by simp) rfl) (hd ⟨10, .data⟩ (by simp) rfl) (uh HWI W1 hk) (fun v' w' q1 q2 => hK v' w' q1 q2)
   ·omega
  ·intro A V hs hk hall K' hK
   have v0 : A.tmps.getD 67 undef = .agg #[.bool true, .slice (some ⟨vb, vo, none⟩) vals.length uc] := hall 0 (by decide)
   have v1 : A.tmps.getD 68 undef = .int .i64 (i : Int) := hall 1 (by decide)
   have v2 : A.tmps.getD 69 undef = .pointer (some ⟨w.heap.size + 1, 0, none⟩) := hall 2 (by decide)
   have v3 : A.tmps.getD 70 undef = .int .i64 op := hall 3 (by decide)
   have v4 : A.tmps.getD 71 undef = .pointer (some ⟨w.heap.size + 1 + 1, 0 + 1, none⟩) := hall 4 (by decide)
   have v5 : A.tmps.getD 72 undef = .slice (some ⟨vb, vo, none⟩) vals.length uc := hall 5 (by decide)
   have v6 : A.tmps.getD 73 undef = .int .i64 (i : Int) := hall 6 (by decide)
   have v7 : A.tmps.getD 74 undef = .pointer (some ⟨vb, vo + i * 3, none⟩) := hall 7 (by decide)
   have v8 : A.tmps.getD 75 undef = y.v := hall 8 (by decide)
   have v9 : A.tmps.getD 76 undef = x.v := hall 9 (by decide)
   have v10 : A.tmps.getD 77 undef = (rjoinV op y x).v := hall 10 (by decide)
   obtain ⟨no, nc, v11, hnv⟩ : isR V (A.tmps.getD 78 undef) (true, L) := hall 11 (by decide)
   have hsl : A.tmps.getD 6 undef = .pointer (some ⟨w.heap.size + 1 + 1 + 1, 0, none⟩) := ((hs.at rfl 6 (by decide)).trans rfl)
   refine step_store31 rfl rfl hsl v11 (uh HR3 V hk) (by simp [Value.oneCell']) ?_
   intro V2 hb2 hk2
   refine hK A V2 (hc1 _ _ ?_)
   have hA := same_fold hs rfl
   simp only [List.foldl_cons, List.foldl_nil, v0, v1, v2, v3, v4, v5, v6, v7, v8, v9, v10, v11] at hA
   simp only [Act.put, List.setIfInBounds_toArray, List.set_cons_zero, List.set_cons_succ] at hA
   obtain ⟨s0, s1⟩ := cl2 hb2
   have HKE := hide ((((uh HKW).trans (uh HXY)).trans hk).fresh (by omega) hk2)
   have HVE := hide (vals_off hnv (uh HR3 V hk) (off2 (by intro n; simp)) hk2)
   rw [hA]
   clear hs hk hall hK hA hb2 hk2 hnv hsl v11 v0 v1 v2 v3 v4 v5 v6 v7 v8 v9 v10
   go_wp2_with fail
   refine bodyPost_ret (v := .agg #[.bool true, .slice no L.length nc]) (by simp [results, go_sem, s0, s1]) rfl ?_
   exact ⟨_, rfl, ⟨no, nc, rfl, uh HVE⟩, uh HKE⟩
end Go.Proofs.YtiinohibmcefkaaGreatDoor
namespace Go.Proofs.YtiinohibmcefkaaGreatDoor
open Go.RowKit Go.Maps
theorem num_of {v : ValA} (h : goodV v) (hk : v.kind = 1) : v = numV v.n := by
 obtain ⟨k, n, s⟩ := v
 have hk' : k = 1 := hk
 subst hk'
 have hs : s = [] := by
  unfold goodV at h
  simp at h
  exact h
 subst hs
 rfl
theorem join_same {op : Int} (ho : op = 2 ∨ op = 3 ∨ op = 4) {y x : ValA} (hy : y.kind = 0 → y.n = 0) (hx : x = numV x.n) (hi : I64 x.n) : rjoinV op y x = joinV op y x := by
 unfold rjoinV joinV
 rw [if_neg (by omega)]
 by_cases h0 : y.kind = 0
 ·rw [if_pos h0]
  split
  ·rw [hy h0, Int.zero_add, wrap_i64 hi]
   exact hx.symm
  ·rfl
 ·rw [if_neg h0]
  split
  ·rfl
  ·rfl
theorem fits_zero {fd : FieldA} {y : ValA} (h : fitsB fd y = true) (hk : y.kind = 0) : y.n = 0 := by
 unfold fitsB at h
 rw [if_pos hk] at h
 simp only [Bool.and_eq_true, decide_eq_true_eq] at h
 exact h.1.2
theorem stmt_false {S : List FieldA} {op : Int} {f : Txt} {ex : EL} {th el : SL} {vals : List ValA} (h : op = 1 ∨ op = 2 ∨ op = 3 ∨ op = 4 ∨ op = 5) : stmtS S op f ex th el (false, vals) = (false, vals) := by
 unfold stmtS setV
 rcases h with rfl | rfl | rfl | rfl | rfl
 all_goals simp
theorem does_at (S : List FieldA) (hS : schemaB S = true) (so : Option Addr) (sc : Nat) : ∀ N, N ≤ 4294967294 → DoesAt S (.slice so S.length sc) N
 | 0, _, op, f, ex, th, el, hsz => by omega
 | N + 1, hN, op, f, ex, th, el, hsz => by
  intro hh hwx hwt hwe h0 hokt hoke hix hit hie h vals hfit hv Z up xv tv ev u w hf hu hx ht he
  have hD := does_at S hS so sc N (by omega)
  have hrow := fit_rowE hS hfit
  have hl8 := fit_len hS hfit
  obtain ⟨uo, uc, rfl⟩ := RowAt.form hu
  have ht' := ht
  have he' := he
  obtain ⟨tO, tc, rfl, _⟩ := ht.head
  obtain ⟨eo, ec, rfl, _⟩ := he.head
  have hth : ∀ W' : World, Keeps (fun _ => False) w W' → Calls Tryz.prog 63 #[.agg #[.slice so S.length sc], .slice tO th.len tc, .agg #[.bool h, .slice uo vals.length uc]] W' (RPost W' (runS S th (h, vals))) := fun W' hk => after_of S hS so sc N hD th (by omega) (by omega) hwt hokt hit h vals hfit hv Z up _ _ W' (hf.keepF hk) (hu.keepF hk) (ht'.keepF hk)
  have hel : ∀ W' : World, Keeps (fun _ => False) w W' → Calls Tryz.prog 63 #[.agg #[.slice so S.length sc], .slice eo el.len ec, .agg #[.bool h, .slice uo vals.length uc]] W' (RPost W' (runS S el (h, vals))) := fun W' hk => after_of S hS so sc N hD el (by omega) (by omega) hwe hoke hie h vals hfit hv Z up _ _ W' (hf.keepF hk) (hu.keepF hk) (he'.keepF hk)
  have hone : ∀ (o n : Int) (s : Txt) (kids : EL), ex = .cons o n s kids .nil → (kindP S o s kids).2 = 0 → rootB o n s kids.len = true → wellE kids = true → ∃ xb xo xc kv, xv = .slice (some ⟨xb, xo, none⟩) 1 xc ∧ xb < w.heap.size ∧ w.cell? ⟨xb, xo, none⟩ = some (.int .i64 o) ∧ w.cell? ⟨xb, xo + 1, none⟩ = some (.int .i64 n) ∧ w.cell? ⟨xb, xo + 2, none⟩ = some (str s) ∧ w.cell? ⟨xb, xo + 3, none⟩ = some kv ∧
    ∀ W' : World, Keeps (fun _ => False) w W' → Calls Tryz.prog 54 #[.agg #[.slice so S.length sc], .agg #[.int .i64 o, .int .i64 n, str s, kv], .agg #[.bool h, .slice uo vals.length uc]] W' fun e w' => e = .returned (nodeV S o n s kids h vals).v ∧ Keeps (fun _ => False) W' w' := by
   rintro o n s kids rfl hk0 hb hw
   obtain ⟨ao, xc, xb, xo, rfl, hcap, ha, hin⟩ := hx.open
   obtain ⟨rfl, _⟩ := ha (by simp [EL.len])
   obtain ⟨q1, q2, q3, q4, q5, ⟨kao, kc, q6, q7, q8⟩, _⟩ := hin
   exact ⟨xb, xo, xc, _, rfl, q1, q3, q4, q5, q6, fun W' hk => rworth_v S hS h vals hrow so uo sc uc (kids.size + 1) kids (Nat.lt_succ_self _) o n s Z xb (.slice kao kids.len kc) W' hb hw hk0 (hf.keepF hk) (hu.keepF hk) ((show SlE Z w xb _ kids from ⟨kao, kc, rfl, q7, q8⟩).keepF hk)⟩
  have hxf := hx.head
  rcases head_open hh with ⟨h1, _, hl⟩ | ⟨rfl, _, rfl⟩ | ⟨h1, rfl⟩ | ⟨rfl, hl⟩
  ·obtain ⟨o, n, s, kids, rfl⟩ := EL.one_of hl
   have hwx' := hwx
   simp only [wellE, Bool.and_eq_true] at hwx
   cases h with
   | false =>
    rw [stmt_false (by omega)]
    obtain ⟨xo, xc, rfl, _⟩ := hxf
    exact doesN S f vals so uo xo tO eo sc uc _ xc _ tc _ ec w hu op (by omega) (by omega) (by omega)
   | true =>
    have key : ∃ fd, fieldOf S f = some fd ∧ (kindP S o s kids).2 = 0 ∧ ∀ y, vals[placeP S f]? = some y → stmtS S op f (.cons o n s kids .nil) th el (true, vals) = (true, vals.set (placeP S f) (rjoinV op y (nodeV S o n s kids true vals))) := by
     rcases h1 with rfl | h1
     ·have hall := orL_zero (show orL [(namedK S f).2, (kindP S o s kids).2, ofI (kindP S o s kids).1 [(namedK S f).1.t], if (kindP S o s kids).1.o = true ∧ (namedK S f).1.o = false then 92 else 0] = 0 from h0)
      obtain ⟨fd, hfd, hn⟩ := named_some (hall (namedK S f).2 (by simp))
      refine ⟨fd, hfd, hall (kindP S o s kids).2 (by simp), fun y _ => ?_⟩
      show setV (true, vals) (placeP S f) (headV S (true, vals) (.cons o n s kids .nil)) = _
      rw [headV_one]
      rfl
     ·have hop : ownP S op f (.cons o n s kids .nil) = orL [(namedK S f).2, (kindP S o s kids).2, ofI (namedK S f).1 [1], plainI (kindP S o s kids).1 [1]] := by
       unfold ownP
       rw [if_neg (by omega), if_pos h1]
       rfl
      rw [hop] at h0
      have hall := orL_zero h0
      obtain ⟨fd, hfd, hn⟩ := named_some (hall (namedK S f).2 (by simp))
      have hk := hall (kindP S o s kids).2 (by simp)
      obtain ⟨hpt, hpo⟩ := plain_zero (hall (plainI (kindP S o s kids).1 [1]) (by simp))
      have hpt' : (kindP S o s kids).1.t = 1 := by simpa using hpt
      have hnf := (node_fit hS hfit (n := n) hwx.1 hwx.2.1 hk).plain hpo
      refine ⟨fd, hfd, hk, fun y hy => ?_⟩
      have hfy : fitsB fd y = true := hfit.2 _ fd y (find_idx hfd) hy
      have hii := vals_in64 (rowE_rw hrow) hv (.cons o n s kids .nil) hwx' hix (nodeV S o n s kids true vals) (by rw [valsP_cons]; exact List.mem_cons_self ..)
      have hst : stmtS S op f (.cons o n s kids .nil) th el (true, vals) = setV (true, vals) (placeP S f) (joinV op (fieldV S true vals f) (nodeV S o n s kids true vals)) := by
       unfold stmtS
       rw [if_neg (by omega), if_neg (by omega), if_neg (by omega), if_neg (by omega), if_pos h1, headV_one]
      have hfy2 : fieldV S true vals f = y := by
       unfold fieldV
       simp [hy]
      rw [hst, hfy2, ← join_same h1 (fits_zero hfy) (num_of hnf.1 (hnf.2.trans hpt')) hii]
      rfl
    obtain ⟨fd, hfd, hk0, hst⟩ := key
    have hpl : placeP S f < vals.length := by
     have h1 := (List.getElem?_eq_some_iff.1 (find_idx hfd)).1
     have h2 : vals.length = S.length := hfit.1
     omega
    obtain ⟨y, hy⟩ : ∃ y, vals[placeP S f]? = some y := ⟨_, List.getElem?_eq_getElem hpl⟩
    rw [hst y hy]
    obtain ⟨xb, xo, xc, kv, rfl, x4, x0, x1, x2, x3, hwo⟩ := hone o n s kids rfl hk0 hwx.1 hwx.2.1
    obtain ⟨vb, vo, vc, e1, _, _⟩ := hu.cells (by omega)
    simp at e1
    obtain ⟨rfl, rfl⟩ := e1
    exact doesV S hS fd f hfd vals so tO eo vb vo sc uc xc _ tc _ ec w op (by omega) (by omega) (by omega) (by omega) y hy (by omega) hf hu o n s kv _ xb xo x4 x0 x1 x2 x3 hwo
  ·obtain ⟨xo, xc, rfl, _⟩ := hxf
   cases h with
   | false =>
    rw [stmt_false (by omega)]
    exact doesN S f vals so uo xo tO eo sc uc _ xc _ tc _ ec w hu 5 (by omega) (by omega) (by omega)
   | true =>
    have hall := orL_zero (show orL [(namedK S f).2, optI (namedK S f).1] = 0 from h0)
    obtain ⟨fd, hfd, hn⟩ := named_some (hall (namedK S f).2 (by simp))
    exact does5 S f vals so uo xo tO eo sc uc _ xc _ tc _ ec w hS fd hfd (by omega) hf hu
  ·obtain ⟨xo, xc, rfl, _⟩ := hxf
   rcases h1 with rfl | rfl
   ·cases h with
    | false => exact does6n S f vals so uo xo tO eo sc uc _ xc _ tc _ ec w hS hf
    | true => exact does6h S f vals so uo xo tO eo sc uc _ xc _ tc _ ec w hu
   ·exact does7 S f vals so uo xo tO eo sc uc _ xc _ tc _ ec w h
  ·obtain ⟨o, n, s, kids, rfl⟩ := EL.one_of hl
   simp only [wellE, Bool.and_eq_true] at hwx
   have hall := orL_zero (show orL [(kindP S o s kids).2, plainI (kindP S o s kids).1 [2]] = 0 from h0)
   obtain ⟨xb, xo, xc, kv, rfl, x4, x0, x1, x2, x3, hwo⟩ := hone o n s kids rfl (hall (kindP S o s kids).2 (by simp)) hwx.1 hwx.2.1
   show Calls _ _ _ _ (RPost w (if (headV S (h, vals) (.cons o n s kids .nil)).n = 1 then runS S th (h, vals) else runS S el (h, vals)))
   rw [headV_one]
   by_cases hc : (nodeV S o n s kids (h, vals).1 (h, vals).2).n = 1
   ·rw [if_pos hc]
    exact does8t S f h vals so uo tO eo sc uc xc _ tc _ ec w _ o n s kv _ xb xo x4 x0 x1 x2 x3 hwo hc hth
   ·rw [if_neg hc]
    exact does8e S f h vals so uo tO eo sc uc xc _ tc _ ec w _ o n s kv _ xb xo x4 x0 x1 x2 x3 hwo hc hel
end Go.Proofs.YtiinohibmcefkaaGreatDoor
namespace Go.Proofs.YtiinohibmcefkaaGreatDoor
open Go.RowKit Go.Maps
structure Grow (B : Nat) (W0 W1 : World) (acc tot : SL) (g go : Nat) (v : Value) (j m : Nat) (xs : List Value) (rest : SL) (yr : List Value) (cur : World) : Prop where
 own : cur.ownsRow W0.heap.size 39 5 v m xs
 held : SsIn (argZ B) cur acc xs
 left : SsIn (argZ B) cur rest yr
 cells : ∀ i x, yr[i]? = some x → cur.cell? ⟨g, go + j * 5 + i, none⟩ = some x
 far : v.ownBlock ≠ some g
 lt : g < cur.heap.size
 kept : Keeps (fun q => W0.heap.size ≤ q) W1 cur
 all : acc.app rest = tot
 len : m = acc.len
theorem Grow.step {B : Nat} {W0 W1 : World} {acc tot : SL} {g go : Nat} {oo : Option Addr} {oc : Nat} {j m : Nat} {xs : List Value} {op : Int} {f : Txt} {x : EL} {t el rest : SL} {xv tv ev : Value} {yr : List Value} {cur w6 : World} {g6 c6 : Nat} (hB : B ≤ W0.heap.size)
  (h : Grow B W0 W1 acc tot g go (.slice oo m oc) j m xs (.cons op f x t el rest) (.int .i64 op :: str f :: xv :: tv :: ev :: yr) cur)
  (ho : w6.ownsRow W0.heap.size 39 5 (.slice (some ⟨g6, 0, none⟩) (m + 1) c6) (m + 1) (xs ++ [.int .i64 op, str f, xv, tv, ev]))
  (hg : (cur.alloc (.cells #[.int .i64 op, str f, xv, tv, ev] 39)).grownBy w6 (Value.slice oo m oc).ownBlock) (hat : (Value.slice oo m oc).ownBlock = some g6 ∨ g6 = cur.heap.size + 1) :
  Grow B W0 W1 (acc.app (.cons op f x t el .nil)) tot g go (.slice (some ⟨g6, 0, none⟩) (m + 1) c6) (j + 1) (m + 1) (xs ++ [.int .i64 op, str f, xv, tv, ev]) rest yr w6 := by
 have hF : ∀ q, W0.heap.size ≤ q → B ≤ q := fun q hq => Nat.le_trans hB hq
 have k1 : Keeps (fun q => (Value.slice oo m oc).ownBlock = some q) cur w6 := ((Keeps.refl _ cur).alloc _).grown hg (fun q e _ => e)
 have k2 : Keeps (fun q => W0.heap.size ≤ q) cur w6 := k1.mono (fun q _ e => (h.own.lt q e).1)
 obtain ⟨xv', tv', ev', yr', e, h1, h2, h3, h4⟩ := h.left
 simp only [List.cons.injEq, true_and] at e
 obtain ⟨rfl, rfl, rfl, rfl⟩ := e
 refine ⟨ho, (h.held.argKeep k2 hF).app ⟨_, _, _, [], rfl, h1.argKeep k2 hF, h2.argKeep k2 hF, h3.argKeep k2 hF, rfl⟩, h4.argKeep k2 hF, fun i y hy => ?_, fun e => ?_, Nat.lt_of_lt_of_le h.lt k1.size, h.kept.trans k2, ?_, ?_⟩
 ·rw [k1.cell h.lt h.far, show go + (j + 1) * 5 + i = go + j * 5 + (i + 5) by omega]
  exact h.cells (i + 5) y (by simpa using hy)
 ·have e' : g6 = g := by simpa [Value.ownBlock] using e
  have := h.lt
  rcases hat with ha | ha
  ·exact h.far (by rw [ha, e'])
  ·omega
 ·rw [app_oneS]; exact h.all
 ·rw [SL.len_app, h.len]; rfl
theorem SsIn.cons_open {Z : Zone} {w : World} {op : Int} {f : Txt} {x : EL} {t e r : SL} {xs : List Value} (h : SsIn Z w (.cons op f x t e r) xs) : ∃ xo xc tq tc eo ec ys, xs = .int .i64 op :: str f :: .slice xo x.len xc :: .slice tq t.len tc :: .slice eo e.len ec :: ys := by
 obtain ⟨xv, tv, ev, ys, e, h1, h2, h3, _⟩ := h
 obtain ⟨xo, xc, rfl, _⟩ := h1.head
 obtain ⟨tq, tc, rfl, _⟩ := h2.head
 obtain ⟨eo, ec, rfl, _⟩ := h3.head
 exact ⟨xo, xc, tq, tc, eo, ec, ys, e⟩
end Go.Proofs.YtiinohibmcefkaaGreatDoor
