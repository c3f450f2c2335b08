import Derived.Test.YtiinohibmcefkaaGreatDoorR5
import Derived.Test.YtiinohibmcefkaaGreatDoorJam
import Derived.Deep.DeepCutAuto
namespace Go.Proofs.YtiinohibmcefkaaGreatDoor
open Go.RowKit Go.Maps

set_option maxRecDepth 100000 in
set_option maxHeartbeats 4000000 in
theorem rworth1_v (S : List FieldA) (h : Bool) (vals : List ValA) (n : Int) (s : Txt) (kids : EL) (so uo xo : Option Addr) (sc uc xc : Nat) (w : World) : Calls Tryz.prog 54 #[.agg #[(.slice so S.length sc)], exV 1 n s (.slice xo kids.len xc), .agg #[.bool h, (.slice uo vals.length uc)]] w fun e w' => e = .returned (numV n).v ∧ Keeps (fun _ => False) w w' := by
  obtain ⟨W, hW, hkW, g0, g1, g2, g3⟩ := boxA4 w #[(.slice so S.length sc)] #[.int .i64 1, .int .i64 n, str s, (.slice xo kids.len xc)] #[.bool h, (.slice uo vals.length uc)] #[.int .i64 0, .int .i64 0, .string ⟨#[]⟩] 24 27 31 41
  have HKW := hide hkW
  have HG := hide g3
  obtain ⟨c0, c1, c2, c3⟩ := cl4 g1
  obtain ⟨r0, r1⟩ := cl2 g2
  clear g0 g1 g2 g3 hkW
  go_enter Tryz.func54, Tryz.ntmps54
  go_wp2_with fail
  refine (num_v n _).mono ?_
  rintro e w1 ⟨rfl, hk1⟩
  generalize hx : numV n = x at *
  have HXE := hide hx
  obtain ⟨z0, z1, z2, y0, y1, y2, s0, s1, s2⟩ := res_facts (unhide HG) hk1 x
  have HK := hide (((unhide HKW).trans hk1).fresh (by omega) (keeps_set3 w1 (w.heap.size + 1 + 1 + 1) (.int .i64 x.kind) (.int .i64 x.n) (str x.s)))
  unfold ValA.v
  clear hk1 hx
  go_wp2_with fail
  refine bodyPost_ret (v := .agg #[.int .i64 x.kind, .int .i64 x.n, str x.s]) (by simp [results, go_sem, s0, s1, s2]) rfl ?_
  exact ⟨by rw [← unhide HXE]; rfl, unhide HK⟩
set_option maxRecDepth 100000 in
set_option maxHeartbeats 4000000 in
theorem rworth2_v (S : List FieldA) (h : Bool) (vals : List ValA) (n : Int) (s : Txt) (kids : EL) (so uo xo : Option Addr) (sc uc xc : Nat) (w : World) : Calls Tryz.prog 54 #[.agg #[(.slice so S.length sc)], exV 2 n s (.slice xo kids.len xc), .agg #[.bool h, (.slice uo vals.length uc)]] w fun e w' => e = .returned (truV (decide (n = 1))).v ∧ Keeps (fun _ => False) w w' := by
  obtain ⟨W, hW, hkW, g0, g1, g2, g3⟩ := boxA4 w #[(.slice so S.length sc)] #[.int .i64 2, .int .i64 n, str s, (.slice xo kids.len xc)] #[.bool h, (.slice uo vals.length uc)] #[.int .i64 0, .int .i64 0, .string ⟨#[]⟩] 24 27 31 41
  have HKW := hide hkW
  have HG := hide g3
  obtain ⟨c0, c1, c2, c3⟩ := cl4 g1
  obtain ⟨r0, r1⟩ := cl2 g2
  clear g0 g1 g2 g3 hkW
  go_enter Tryz.func54, Tryz.ntmps54
  go_wp2_with fail
  refine (tru_v (decide (n = 1)) _).mono ?_
  rintro e w1 ⟨rfl, hk1⟩
  generalize hx : truV (decide (n = 1)) = x at *
  have HXE := hide hx
  obtain ⟨z0, z1, z2, y0, y1, y2, s0, s1, s2⟩ := res_facts (unhide HG) hk1 x
  have HK := hide (((unhide HKW).trans hk1).fresh (by omega) (keeps_set3 w1 (w.heap.size + 1 + 1 + 1) (.int .i64 x.kind) (.int .i64 x.n) (str x.s)))
  unfold ValA.v
  clear hk1 hx
  go_wp2_with fail
  refine bodyPost_ret (v := .agg #[.int .i64 x.kind, .int .i64 x.n, str x.s]) (by simp [results, go_sem, s0, s1, s2]) rfl ?_
  exact ⟨by rw [← unhide HXE]; rfl, unhide HK⟩
set_option maxRecDepth 100000 in
set_option maxHeartbeats 4000000 in
theorem rworth3_v (S : List FieldA) (h : Bool) (vals : List ValA) (n : Int) (s : Txt) (kids : EL) (so uo xo : Option Addr) (sc uc xc : Nat) (w : World) : Calls Tryz.prog 54 #[.agg #[(.slice so S.length sc)], exV 3 n s (.slice xo kids.len xc), .agg #[.bool h, (.slice uo vals.length uc)]] w fun e w' => e = .returned (bytV s).v ∧ Keeps (fun _ => False) w w' := by
  obtain ⟨W, hW, hkW, g0, g1, g2, g3⟩ := boxA4 w #[(.slice so S.length sc)] #[.int .i64 3, .int .i64 n, str s, (.slice xo kids.len xc)] #[.bool h, (.slice uo vals.length uc)] #[.int .i64 0, .int .i64 0, .string ⟨#[]⟩] 24 27 31 41
  have HKW := hide hkW
  have HG := hide g3
  obtain ⟨c0, c1, c2, c3⟩ := cl4 g1
  obtain ⟨r0, r1⟩ := cl2 g2
  clear g0 g1 g2 g3 hkW
  go_enter Tryz.func54, Tryz.ntmps54
  go_wp2_with fail
  refine (byt_v s _).mono ?_
  rintro e w1 ⟨rfl, hk1⟩
  generalize hx : bytV s = x at *
  have HXE := hide hx
  obtain ⟨z0, z1, z2, y0, y1, y2, s0, s1, s2⟩ := res_facts (unhide HG) hk1 x
  have HK := hide (((unhide HKW).trans hk1).fresh (by omega) (keeps_set3 w1 (w.heap.size + 1 + 1 + 1) (.int .i64 x.kind) (.int .i64 x.n) (str x.s)))
  unfold ValA.v
  clear hk1 hx
  go_wp2_with fail
  refine bodyPost_ret (v := .agg #[.int .i64 x.kind, .int .i64 x.n, str x.s]) (by simp [results, go_sem, s0, s1, s2]) rfl ?_
  exact ⟨by rw [← unhide HXE]; rfl, unhide HK⟩
set_option maxRecDepth 100000 in
set_option maxHeartbeats 4000000 in
theorem rworth6_v (S : List FieldA) (h : Bool) (vals : List ValA) (n : Int) (s : Txt) (kids : EL) (so uo xo : Option Addr) (sc uc xc : Nat) (w : World) : Calls Tryz.prog 54 #[.agg #[(.slice so S.length sc)], exV 6 n s (.slice xo kids.len xc), .agg #[.bool h, (.slice uo vals.length uc)]] w fun e w' => e = .returned (truV h).v ∧ Keeps (fun _ => False) w w' := by
  obtain ⟨W, hW, hkW, g0, g1, g2, g3⟩ := boxA4 w #[(.slice so S.length sc)] #[.int .i64 6, .int .i64 n, str s, (.slice xo kids.len xc)] #[.bool h, (.slice uo vals.length uc)] #[.int .i64 0, .int .i64 0, .string ⟨#[]⟩] 24 27 31 41
  have HKW := hide hkW
  have HG := hide g3
  obtain ⟨c0, c1, c2, c3⟩ := cl4 g1
  obtain ⟨r0, r1⟩ := cl2 g2
  clear g0 g1 g2 g3 hkW
  go_enter Tryz.func54, Tryz.ntmps54
  go_wp2_with fail
  refine (tru_v h _).mono ?_
  rintro e w1 ⟨rfl, hk1⟩
  generalize hx : truV h = x at *
  have HXE := hide hx
  obtain ⟨z0, z1, z2, y0, y1, y2, s0, s1, s2⟩ := res_facts (unhide HG) hk1 x
  have HK := hide (((unhide HKW).trans hk1).fresh (by omega) (keeps_set3 w1 (w.heap.size + 1 + 1 + 1) (.int .i64 x.kind) (.int .i64 x.n) (str x.s)))
  unfold ValA.v
  clear hk1 hx
  go_wp2_with fail
  refine bodyPost_ret (v := .agg #[.int .i64 x.kind, .int .i64 x.n, str x.s]) (by simp [results, go_sem, s0, s1, s2]) rfl ?_
  exact ⟨by rw [← unhide HXE]; rfl, unhide HK⟩
set_option maxRecDepth 100000 in
set_option maxHeartbeats 4000000 in
theorem rworth4_v (S : List FieldA) (h : Bool) (vals : List ValA) (n : Int) (s : Txt) (kids : EL) (so uo xo : Option Addr) (sc uc xc : Nat) (w : World) (hS : schemaB S = true) (f : FieldA) (hf : fieldOf S s = some f) (hr : Rw S h vals) (hfl : FldsAt w (.slice so S.length sc) S) (hva : ValsAt w (.slice uo vals.length uc) vals) : Calls Tryz.prog 54 #[.agg #[(.slice so S.length sc)], exV 4 n s (.slice xo kids.len xc), .agg #[.bool h, (.slice uo vals.length uc)]] w fun e w' => e = .returned ((fieldV S h vals s)).v ∧ Keeps (fun _ => False) w w' := by
  obtain ⟨W, hW, hkW, g0, g1, g2, g3⟩ := boxA4 w #[(.slice so S.length sc)] #[.int .i64 4, .int .i64 n, str s, (.slice xo kids.len xc)] #[.bool h, (.slice uo vals.length uc)] #[.int .i64 0, .int .i64 0, .string ⟨#[]⟩] 24 27 31 41
  have HKW := hide hkW
  have HG := hide g3
  obtain ⟨c0, c1, c2, c3⟩ := cl4 g1
  obtain ⟨r0, r1⟩ := cl2 g2
  have HS := hide hS
  have HF := hide hf
  have HFL := hide hfl
  have HVA := hide hva
  have HPL := hide (List.getElem?_eq_some_iff.1 (find_idx hf)).1
  have HPV := hide (fun (e : h = true) => (by rw [hr.1 e]; exact (List.getElem?_eq_some_iff.1 (find_idx hf)).1 : placeP S s < vals.length))
  have H0 := hide (fun (W' : World) (hk : Keeps (fun _ => False) W W') => (hk.block _ (lt_of_block g0) id).trans g0)
  have H1 := hide (fun (W' : World) (hk : Keeps (fun _ => False) W W') => (hk.block _ (lt_of_block g1) id).trans g1)
  have H2 := hide (fun (W' : World) (hk : Keeps (fun _ => False) W W') => (hk.block _ (lt_of_block g2) id).trans g2)
  have H3 := hide (fun (W' : World) (hk : Keeps (fun _ => False) W W') => (hk.block _ (lt_of_block g3) id).trans g3)
  have HKX := hide (Keeps.refl (fun _ => False) W)
  clear g0 g1 g2 g3 hkW hS hf hr hfl hva
  go_enter Tryz.func54, Tryz.ntmps54
  go_upto_region 9 with fail
  rename_i Q0 K0 hc0
  refine wp_region_last (X := W) (by kernel_rfl) 7 rfl _ rfl rfl (by decide) (by kernel_rfl) [31, 32, 33, 34, 35, 36, 37] (by decide) rfl (by first | rfl | kernel_rfl | simp [opsB]) (unhide HKX) (fun i v W1 => match i with | 0 => v = .agg #[(.slice so S.length sc)] | 1 => v = .agg #[(.slice so S.length sc)] | 2 => v = .pointer (some ⟨w.heap.size + 1, 0 + 2, none⟩) | 3 => v = str s | 4 => v = .int .i64 (placeP S s : Int) | 5 => v = .agg #[.bool h, (.slice uo vals.length uc)] | 6 => v = (fieldV S h vals s).v | _ => True) ?_ ?_ ?_
  · intro i v w1 w2 hq hk
    rcases i with _ | _ | _ | _ | _ | _ | _ | i
    all_goals exact hq
  · intro i o A W1 him ho hs hk hd K' hK
    rcases i with _ | _ | _ | _ | _ | _ | _ | i
    · obtain rfl := Option.some.inj ho
      exact step_load24 rfl ((hs.at rfl 3 (by decide)).trans rfl) (unhide H0 W1 hk) (hK _ _ rfl (Keeps.refl _ _))
    · obtain rfl := Option.some.inj ho
      exact step_load24 rfl ((hs.at rfl 3 (by decide)).trans rfl) (unhide H0 W1 hk) (hK _ _ rfl (Keeps.refl _ _))
    · obtain rfl := Option.some.inj ho
      exact step_fieldE2 rfl ((hs.at rfl 4 (by decide)).trans rfl) (hK _ _ rfl (Keeps.refl _ _))
    · obtain rfl := Option.some.inj ho
      exact step_load9 rfl (hd ⟨2, .data⟩ (by simp) rfl) ((cell_of_blk (unhide H1 W1 hk) _).trans rfl) (hK _ _ rfl (Keeps.refl _ _))
    · obtain rfl := Option.some.inj ho
      exact step_c93 rfl (hd ⟨1, .data⟩ (by simp) rfl) (hd ⟨3, .data⟩ (by simp) rfl) (rplace_v S (unhide HS) (.slice so S.length sc) s f (unhide HF) W1 ((unhide HFL).keepF ((unhide HKW).trans hk))) (fun _ q => hK _ _ rfl q)
    · obtain rfl := Option.some.inj ho
      exact step_load31 rfl ((hs.at rfl 5 (by decide)).trans rfl) (unhide H2 W1 hk) (hK _ _ rfl (Keeps.refl _ _))
    · obtain rfl := Option.some.inj ho
      exact step_c92 rfl (hd ⟨0, .data⟩ (by simp) rfl) (hd ⟨4, .data⟩ (by simp) rfl) (hd ⟨5, .data⟩ (by simp) rfl) (rfield_v S (.slice so S.length sc) (.slice uo vals.length uc) h vals (placeP S s) W1 (unhide HPL) (unhide HPV) ((unhide HFL).keepF ((unhide HKW).trans hk)) ((unhide HVA).keepF ((unhide HKW).trans hk))) (fun _ q => hK _ _ rfl q)
    · omega
  · intro A V hs hk hall K' hK
    have hl : A.tmps.getD 37 undef = (fieldV S h vals s).v := hall 6 (by decide)
    have hb := (hs.at rfl 6 (by decide)).trans rfl
    refine wp_store_row 41 (.tmp 6) (.tmp 37) rfl _ #[.int .i64 (fieldV S h vals s).kind, .int .i64 (fieldV S h vals s).n, str (fieldV S h vals s).s] hb hl 41 _ (unhide H3 V hk) (by kernel_rfl) rfl (by simp [Value.oneCell']) ?_
    refine hK _ _ (hc0 _ _ ?_)
    have HR := hide (setRow_heap V (w.heap.size + 1 + 1 + 1) _ (#[.int .i64 (fieldV S h vals s).kind, .int .i64 (fieldV S h vals s).n, str (fieldV S h vals s).s] : Array Value) 41 (0, 0) (unhide H3 V hk))
    have HKE := hide (((unhide HKW).trans hk).narrow (keeps_row V (w.heap.size + 1 + 1 + 1) (#[.int .i64 (fieldV S h vals s).kind, .int .i64 (fieldV S h vals s).n, str (fieldV S h vals s).s] : Array Value)) (fun i e => by omega))
    have HP4 := hide hb
    have HD := hide (hs.defers.trans rfl)
    clear hs hk hall hl hb hK
    go_wp2_with fail
    refine bodyPost_ret (v := .agg #[.int .i64 (fieldV S h vals s).kind, .int .i64 (fieldV S h vals s).n, str (fieldV S h vals s).s]) (results_cell_row rfl _ _ (w.heap.size + 1 + 1 + 1) 41 _ (0, 0) _ (unhide HP4) (unhide HR) Tryz.underlying41 rfl (by kernel_rfl)) (unhide HD) ?_
    exact ⟨rfl, unhide HKE⟩
set_option maxRecDepth 100000 in
set_option maxHeartbeats 4000000 in
theorem rworth5_v (S : List FieldA) (h : Bool) (vals : List ValA) (n : Int) (s : Txt) (kids : EL) (so uo xo : Option Addr) (sc uc xc : Nat) (w : World) (hS : schemaB S = true) (f : FieldA) (hf : fieldOf S s = some f) (hr : Rw S h vals) (hfl : FldsAt w (.slice so S.length sc) S) (hva : ValsAt w (.slice uo vals.length uc) vals) : Calls Tryz.prog 54 #[.agg #[(.slice so S.length sc)], exV 5 n s (.slice xo kids.len xc), .agg #[.bool h, (.slice uo vals.length uc)]] w fun e w' => e = .returned (truV (h && !decide ((fieldV S h vals s).kind = 0))).v ∧ Keeps (fun _ => False) w w' := by
  obtain ⟨W, hW, hkW, g0, g1, g2, g3⟩ := boxA4 w #[(.slice so S.length sc)] #[.int .i64 5, .int .i64 n, str s, (.slice xo kids.len xc)] #[.bool h, (.slice uo vals.length uc)] #[.int .i64 0, .int .i64 0, .string ⟨#[]⟩] 24 27 31 41
  have HKW := hide hkW
  have HG := hide g3
  obtain ⟨c0, c1, c2, c3⟩ := cl4 g1
  obtain ⟨r0, r1⟩ := cl2 g2
  have HS := hide hS
  have HF := hide hf
  have HFL := hide hfl
  have HVA := hide hva
  have HPL := hide (List.getElem?_eq_some_iff.1 (find_idx hf)).1
  have HPV := hide (fun (e : h = true) => (by rw [hr.1 e]; exact (List.getElem?_eq_some_iff.1 (find_idx hf)).1 : placeP S s < vals.length))
  have H0 := hide (fun (W' : World) (hk : Keeps (fun _ => False) W W') => (hk.block _ (lt_of_block g0) id).trans g0)
  have H1 := hide (fun (W' : World) (hk : Keeps (fun _ => False) W W') => (hk.block _ (lt_of_block g1) id).trans g1)
  have H2 := hide (fun (W' : World) (hk : Keeps (fun _ => False) W W') => (hk.block _ (lt_of_block g2) id).trans g2)
  have H3 := hide (fun (W' : World) (hk : Keeps (fun _ => False) W W') => (hk.block _ (lt_of_block g3) id).trans g3)
  have HKX := hide (Keeps.refl (fun _ => False) W)
  clear g0 g1 g2 g3 hkW hS hf hr hfl hva
  go_enter Tryz.func54, Tryz.ntmps54
  go_upto_region 11 with fail
  rename_i Q0 K0 hc0
  refine wp_region_last (X := W) (by kernel_rfl) 8 rfl _ rfl rfl (by decide) (by kernel_rfl) [40, 41, 42, 43, 44, 45, 46, 7] (by decide) rfl (by first | rfl | kernel_rfl | simp [opsB]) (unhide HKX) (fun i v W1 => match i with | 0 => v = .agg #[(.slice so S.length sc)] | 1 => v = .agg #[(.slice so S.length sc)] | 2 => v = .pointer (some ⟨w.heap.size + 1, 0 + 2, none⟩) | 3 => v = str s | 4 => v = .int .i64 (placeP S s : Int) | 5 => v = .agg #[.bool h, (.slice uo vals.length uc)] | 6 => v = (fieldV S h vals s).v | 7 => isB41 W.heap.size W1 v | _ => True) ?_ ?_ ?_
  · intro i v w1 w2 hq hk
    rcases i with _ | _ | _ | _ | _ | _ | _ | _ | i
    all_goals first | exact hq | exact isB41.keep hq hk
  · intro i o A W1 him ho hs hk hd K' hK
    rcases i with _ | _ | _ | _ | _ | _ | _ | _ | i
    · obtain rfl := Option.some.inj ho
      exact step_load24 rfl ((hs.at rfl 3 (by decide)).trans rfl) (unhide H0 W1 hk) (hK _ _ rfl (Keeps.refl _ _))
    · obtain rfl := Option.some.inj ho
      exact step_load24 rfl ((hs.at rfl 3 (by decide)).trans rfl) (unhide H0 W1 hk) (hK _ _ rfl (Keeps.refl _ _))
    · obtain rfl := Option.some.inj ho
      exact step_fieldE2 rfl ((hs.at rfl 4 (by decide)).trans rfl) (hK _ _ rfl (Keeps.refl _ _))
    · obtain rfl := Option.some.inj ho
      exact step_load9 rfl (hd ⟨2, .data⟩ (by simp) rfl) ((cell_of_blk (unhide H1 W1 hk) _).trans rfl) (hK _ _ rfl (Keeps.refl _ _))
    · obtain rfl := Option.some.inj ho
      exact step_c93 rfl (hd ⟨1, .data⟩ (by simp) rfl) (hd ⟨3, .data⟩ (by simp) rfl) (rplace_v S (unhide HS) (.slice so S.length sc) s f (unhide HF) W1 ((unhide HFL).keepF ((unhide HKW).trans hk))) (fun _ q => hK _ _ rfl q)
    · obtain rfl := Option.some.inj ho
      exact step_load31 rfl ((hs.at rfl 5 (by decide)).trans rfl) (unhide H2 W1 hk) (hK _ _ rfl (Keeps.refl _ _))
    · obtain rfl := Option.some.inj ho
      exact step_c92 rfl (hd ⟨0, .data⟩ (by simp) rfl) (hd ⟨4, .data⟩ (by simp) rfl) (hd ⟨5, .data⟩ (by simp) rfl) (rfield_v S (.slice so S.length sc) (.slice uo vals.length uc) h vals (placeP S s) W1 (unhide HPL) (unhide HPV) ((unhide HFL).keepF ((unhide HKW).trans hk)) ((unhide HVA).keepF ((unhide HKW).trans hk))) (fun _ q => hK _ _ rfl q)
    · obtain rfl := Option.some.inj ho
      exact step_alloc41 rfl hk.size (fun v' w' h1 h2 => hK v' w' h1 h2)
    · omega
  · intro A V hs hk hall K' hK
    have hl : A.tmps.getD 46 undef = (fieldV S h vals s).v := hall 6 (by decide)
    have hb : isB41 W.heap.size V (A.tmps.getD 7 undef) := hall 7 (by decide)
    refine step_store41 (X := W) (x := (fieldV S h vals s)) rfl rfl rfl hl hb rfl hk ?_
    intro gg V2 hp hg hgb hkV
    refine hK _ _ (hc0 _ _ ?_)
    have v0 : A.tmps.getD 40 undef = .agg #[(.slice so S.length sc)] := hall 0 (by decide)
    have v1 : A.tmps.getD 41 undef = .agg #[(.slice so S.length sc)] := hall 1 (by decide)
    have v2 : A.tmps.getD 42 undef = .pointer (some ⟨w.heap.size + 1, 0 + 2, none⟩) := hall 2 (by decide)
    have v3 : A.tmps.getD 43 undef = str s := hall 3 (by decide)
    have v4 : A.tmps.getD 44 undef = .int .i64 (placeP S s : Int) := hall 4 (by decide)
    have v5 : A.tmps.getD 45 undef = .agg #[.bool h, (.slice uo vals.length uc)] := hall 5 (by decide)
    have hA := same_fold hs rfl
    simp only [List.foldl_cons, List.foldl_nil, v0, v1, v2, v3, v4, v5, hl, hp] at hA
    simp only [Act.put, List.setIfInBounds_toArray, List.set_cons_zero, List.set_cons_succ] at hA
    rw [hA]
    obtain ⟨b0, b1, b2⟩ := cl3 hgb
    obtain ⟨e0, e1⟩ := cl2 (unhide H2 V2 hkV)
    have HG2 := hide (unhide H3 V2 hkV)
    have HKV := hide ((unhide HKW).trans hkV)
    clear hs hk hall hl hb hK hp hg hgb hkV v0 v1 v2 v3 v4 v5 hA c0 c1 c2 c3 r0 r1
    have fin : ∀ (b : Bool), (h && !decide ((fieldV S h vals s).kind = 0)) = b → Hid (truV (h && !decide ((fieldV S h vals s).kind = 0)) = truV b) := fun b e => hide (by rw [e])
    have HFIN := hide fin
    clear fin
    cases h with
    | false =>
      have HXE := unhide HFIN false rfl
      clear HFIN
      go_wp2_with fail
      refine (tru_v false _).mono ?_
      rintro e w1 ⟨rfl, hk1⟩
      obtain ⟨z0, z1, z2, y0, y1, y2, s0, s1, s2⟩ := res_facts (unhide HG2) hk1 (truV false)
      have HK := hide (((unhide HKV).trans hk1).fresh (by omega) (keeps_set3 w1 (w.heap.size + 1 + 1 + 1) (.int .i64 (truV false).kind) (.int .i64 (truV false).n) (str (truV false).s)))
      generalize truV false = x at *
      unfold ValA.v
      clear hk1
      go_wp2_with fail
      refine bodyPost_ret (v := .agg #[.int .i64 x.kind, .int .i64 x.n, str x.s]) (by simp [results, go_sem, s0, s1, s2]) rfl ?_
      exact ⟨by rw [unhide HXE]; rfl, unhide HK⟩
    | true =>
      cases q : decide ((fieldV S true vals s).kind = 0) with
      | true =>
        have hkn : ((fieldV S true vals s).kind != 0) = false := by simpa using q
        have HXE := unhide HFIN false (by rw [q]; rfl)
        clear HFIN q
        go_wp2_with fail
        refine (tru_v false _).mono ?_
        rintro e w1 ⟨rfl, hk1⟩
        obtain ⟨z0, z1, z2, y0, y1, y2, s0, s1, s2⟩ := res_facts (unhide HG2) hk1 (truV false)
        have HK := hide (((unhide HKV).trans hk1).fresh (by omega) (keeps_set3 w1 (w.heap.size + 1 + 1 + 1) (.int .i64 (truV false).kind) (.int .i64 (truV false).n) (str (truV false).s)))
        generalize truV false = x at *
        unfold ValA.v
        clear hk1
        go_wp2_with fail
        refine bodyPost_ret (v := .agg #[.int .i64 x.kind, .int .i64 x.n, str x.s]) (by simp [results, go_sem, s0, s1, s2]) rfl ?_
        exact ⟨by rw [unhide HXE]; rfl, unhide HK⟩
      | false =>
        have hkn : ((fieldV S true vals s).kind != 0) = true := by simpa using q
        have HXE := unhide HFIN true (by rw [q]; rfl)
        clear HFIN q
        go_wp2_with fail
        refine (tru_v true _).mono ?_
        rintro e w1 ⟨rfl, hk1⟩
        obtain ⟨z0, z1, z2, y0, y1, y2, s0, s1, s2⟩ := res_facts (unhide HG2) hk1 (truV true)
        have HK := hide (((unhide HKV).trans hk1).fresh (by omega) (keeps_set3 w1 (w.heap.size + 1 + 1 + 1) (.int .i64 (truV true).kind) (.int .i64 (truV true).n) (str (truV true).s)))
        generalize truV true = x at *
        unfold ValA.v
        clear hk1
        go_wp2_with fail
        refine bodyPost_ret (v := .agg #[.int .i64 x.kind, .int .i64 x.n, str x.s]) (by simp [results, go_sem, s0, s1, s2]) rfl ?_
        exact ⟨by rw [unhide HXE]; rfl, unhide HK⟩

end Go.Proofs.YtiinohibmcefkaaGreatDoor
