import Derived.Test.YtklkhegeeglfbaaGreatDoorJzak
import Derived.Test.YtklkhegeeglfbaaGreatDoorGN
import Derived.Test.YtklkhegeeglfbaaGreatDoorJx
import Derived.Test.YtklkhegeeglfbaaGreatDoorRg
import Derived.Test.YtklkhegeeglfbaaGreatDoorJw
namespace Go.Proofs.YtklkhegeeglfbaaGreatDoor
open Go.RowKit Go.Maps

theorem valsO {w : World} {B n : Nat} {v : Value} {l : List ValA} (h : w.ownsRow B 40 3 v n (vcs l)) (hn : l.length = n) : ValsAt w v l := by
  subst hn
  exact rowAt_own h
theorem bytsO {w : World} {B n : Nat} {v : Value} {l : Txt} (h : w.ownsRow B 5 1 v n (bs l)) (hn : l.length = n) : BytesAt w v l := by
  subst hn
  exact rowAt_own h
theorem Sack.sub {w : World} {B : Nat} {L M : List Rowp} (h : Sack w B L) (hs : M.Sublist L) : Sack w B M := ⟨fun p hp => h.all p (hs.subset hp), h.apart.sublist hs⟩
theorem Strew.start (w : World) : Strew w w ⟨.slice none 0 0, []⟩ ⟨.slice none 0 0, []⟩ ⟨.slice none 0 0, []⟩ [] :=
  ⟨((Sack.nil.nowhere (by decide)).nowhere (by decide)).nowhere (by decide), Keeps.refl _ _⟩
/-- How many heads there are behind i rounds, and how long their lists are. -/
structure Cnt (i : Nat) (a b c : List Value) (pv : List (List ValA)) (pb : List Txt) (pf : List (List FieldA)) : Prop where
  la : a.length = 4 * i
  lb : b.length = 2 * i + 1
  lc : c.length = i
  qa : pv.length = 4 * i
  qb : pb.length = 2 * i + 1
  qc : pf.length = i
  ba : ∀ p ∈ pv, p.length ≤ 1073741824
  bb : ∀ p ∈ pb, p.length ≤ 1073741824
  bc : ∀ p ∈ pf, p.length ≤ 1073741824
theorem lit_two {w : World} {o : Obj} {cs : Array Value} {t : TypeId} : ∀ j u, cs.toList[j]? = some u → ((w.alloc o).alloc (.cells cs t)).cell? ⟨w.heap.size + 1, j, none⟩ = some u := by
  intro j u h
  have e := cell_of_blk (heap_alloc_new (w.alloc o) (.cells cs t)) j
  rw [World.size_alloc] at e
  rw [e]
  simpa using h
theorem Strew.round {w wx : World} {a b c : Hd} {ha hb hc : List Value} {pv : List (List kV.α)} {pb : List (List kB.α)} {pf : List (List kF.α)} {J : List Rowp} {x : Rowp} {vz vm vd vp v8 vr v9 : Value} {lz lm ld lp : List kV.α} {l8 lr : List kB.α} {l9 : List kF.α} (la : ha.length = pv.length) (lb : hb.length = pb.length) (lc : hc.length = pf.length)
    (h : Strew w wx a b c ([x, solo kF.e kF.z l9.length v9 (kF.C l9), solo kB.e kB.z l8.length v8 (kB.C l8), solo kV.e kV.z lp.length vp (kV.C lp), solo kV.e kV.z ld.length vd (kV.C ld), solo kV.e kV.z lm.length vm (kV.C lm), solo kV.e kV.z lz.length vz (kV.C lz), solo kB.e kB.z lr.length vr (kB.C lr)] ++ (solos kV ha pv ++ (solos kB hb pb ++ (solos kF hc pf ++ J))))) :
    Strew w wx a b c (solos kV (ha ++ [vz, vm, vd, vp]) (pv ++ [lz, lm, ld, lp]) ++ (solos kB (hb ++ [v8, vr]) (pb ++ [l8, lr]) ++ (solos kF (hc ++ [v9]) (pf ++ [l9]) ++ (x :: J)))) := by
  rw [solos_app la, solos_app lb, solos_app lc]
  exact h.perm perm_round
theorem kinds_v {bv cv : Value} {hb hc : List Value} {pb : List (List kB.α)} {pf : List (List kF.α)} : ∀ p ∈ (⟨bv, hb⟩ : Hd).row 30 :: (⟨cv, hc⟩ : Hd).row 24 :: (solos kB hb pb ++ solos kF hc pf), p.e ≠ kV.e := by
  intro p hp
  rcases List.mem_cons.1 hp with rfl | hp
  · exact (show (30 : Nat) ≠ 40 by decide)
  rcases List.mem_cons.1 hp with rfl | hp
  · exact (show (24 : Nat) ≠ 40 by decide)
  rcases List.mem_append.1 hp with hp | hp
  · rw [solos_kind _ _ p hp]
    exact (show (5 : Nat) ≠ 40 by decide)
  · rw [solos_kind _ _ p hp]
    exact (show (69 : Nat) ≠ 40 by decide)
theorem kinds_b {cv : Value} {hc : List Value} {pf : List (List kF.α)} : ∀ p ∈ (⟨cv, hc⟩ : Hd).row 24 :: solos kF hc pf, p.e ≠ kB.e := by
  intro p hp
  rcases List.mem_cons.1 hp with rfl | hp
  · exact (show (24 : Nat) ≠ 5 by decide)
  · rw [solos_kind _ _ p hp]
    exact (show (69 : Nat) ≠ 5 by decide)
theorem all4 {α : Type} {l : List (List α)} {x y z u : List α} (h : ∀ p ∈ l, p.length ≤ 1073741824) (hx : x.length ≤ 64) (hy : y.length ≤ 64) (hz : z.length ≤ 64) (hu : u.length ≤ 64) : ∀ p ∈ l ++ [x, y, z, u], p.length ≤ 1073741824 := by
  intro p hp
  rcases List.mem_append.1 hp with hp | hp
  · exact h p hp
  · simp only [List.mem_cons, List.not_mem_nil, or_false] at hp
    rcases hp with rfl | rfl | rfl | rfl <;> omega
theorem all2 {α : Type} {l : List (List α)} {x y : List α} (h : ∀ p ∈ l, p.length ≤ 1073741824) (hx : x.length ≤ 64) (hy : y.length ≤ 64) : ∀ p ∈ l ++ [x, y], p.length ≤ 1073741824 := by
  intro p hp
  rcases List.mem_append.1 hp with hp | hp
  · exact h p hp
  · simp only [List.mem_cons, List.not_mem_nil, or_false] at hp
    rcases hp with rfl | rfl <;> omega
theorem all1 {α : Type} {l : List (List α)} {x : List α} (h : ∀ p ∈ l, p.length ≤ 1073741824) (hx : x.length ≤ 64) : ∀ p ∈ l ++ [x], p.length ≤ 1073741824 := by
  intro p hp
  rcases List.mem_append.1 hp with hp | hp
  · exact h p hp
  · simp only [List.mem_cons, List.not_mem_nil, or_false] at hp
    subst hp
    omega

set_option maxRecDepth 100000 in
set_option maxHeartbeats 8000000 in
/-- strewn: all lists that the package hands out lie apart. -/
theorem strewn_v (w : World) (B : Nat) (S : List FieldA) (sv vv nv bv : Value) (V N : List ValA) (b t s : Txt) (hR : RightA S V N b t s) (hE : Env w) (hS : FldsAt w sv S) (hV : ValsAt w vv V) (hN : ValsAt w nv N) (hb : w.ownsRow B 5 1 bv b.length (bs b)) :
    Calls Tryz.prog 28 #[.agg #[sv], vv, nv, bv, str t, str s] w fun e w' => e = .returned (.bool true) ∧ Keeps (fun _ => False) w w' := by
  obtain ⟨so, sc, rfl⟩ := hS.form
  obtain ⟨vo, vc, rfl⟩ : ∃ vo vc, vv = .slice vo S.length vc := by
    obtain ⟨vo, vc, rfl⟩ := hV.form
    exact ⟨vo, vc, by rw [hR.nV]⟩
  obtain ⟨no, nc, rfl⟩ : ∃ no nc, nv = .slice no S.length nc := by
    obtain ⟨no, nc, rfl⟩ := hN.form
    exact ⟨no, nc, by rw [hR.nN]⟩
  obtain ⟨bo, bc, rfl⟩ := (rowAt_own hb).form
  have hK := (Keeps.refl (fun _ => False) w).alloc (.cells #[.slice so S.length sc] 26)
  have HKB := hide hK
  have A0 : Hid (Amb (w.alloc (.cells #[.slice so S.length sc] 26)) w.heap.size (.slice so S.length sc) S (.slice vo S.length vc) V (.slice no S.length nc) N (.slice bo b.length bc) b) := ⟨by rw [cell_of_blk (heap_alloc_new _ _)]; rfl, by simp, hE.keepF hK, hS.keepF hK, hV.keepF hK, hN.keepF hK, BytesAt.keepF (bytsO hb rfl) hK⟩
  have O0 := hide (own_keepF hb hK)
  have HR := hide hR
  have n1 := hR.n1
  have n8 := hR.n8
  have nb := hR.nb
  have nt := hR.nt
  have ns := hR.ns
  have nz := hR.nz
  have Q1 := hide (val_encode S _ N _ (w.alloc (.cells #[.slice so S.length sc] 26)) (unhide A0).env.types (unhide A0).flds (unhide A0).nons (unhide HR).inN)
  rw [(unhide HR).errN] at Q1
  obtain ⟨Z, hZ⟩ : ∃ Z : Txt, Z = encodeB S N := ⟨_, rfl⟩
  rw [← hZ] at Q1 nz
  have HZ := hide hZ
  have T0 := hide (Strew.start (w.alloc (.cells #[.slice so S.length sc] 26)))
  have c0 := (unhide A0).cell
  have z0 := (unhide A0).lt
  clear hE hS hV hN hb hR hK hZ
  go_enter Tryz.func28, Tryz.ntmps28
  go_wp2_with fail
  generalize (w.alloc (.cells #[.slice so S.length sc] 26)) = w0 at *
  generalize w.heap.size = sb at *
  refine (unhide Q1).mono ?_
  rintro e w1 ⟨zv, rfl, ho1, hk1⟩
  obtain ⟨zo, zc, rfl⟩ := (rowAt_own ho1).form
  have T1 := hide ((unhide T0).newRow hk1 ho1 (by decide))
  have X1 := hide ((unhide T1).keeps.size)
  have H1 := hide ((unhide T1).rowB)
  clear ho1 hk1 Q1 T0 c0 z0
  go_wp2_with (at_builtin; refine append_hdr 43 30 (by kernel_rfl) (.slice none 0 0) (by kernel_rfl) rfl rfl _ _ rfl w0.heap.size (.slice none 0 0) 0 [] rfl (own_alloc (unhide H1) _) w1.heap.size 1 (.slice zo Z.length zc) rfl (by rw [cell_of_blk (heap_alloc_new _ _)]; rfl) rfl (by omega) (Nat.le_trans (unhide X1) (by simp)) ?_; intro g2 cap2 w2 HG2; have T2 := hide ((unhide T1).pushB rfl HG2); have Q3 := hide (copyBytes_any w2 (.slice zo Z.length zc) Z (bytsO ((unhide T2).at_ (List.mem_cons_self ..)).x rfl) (by omega)))
  refine (unhide Q3).mono ?_
  rintro e w3 ⟨ov, rfl, ho3, hk3⟩
  obtain ⟨oo, oc, rfl⟩ := (rowAt_own ho3).form
  have T3 := hide ((unhide T2).newRow hk3 ho3 (by decide))
  clear ho3 hk3 Q3 T2 HG2 H1 X1 T1
  go_wp2_with fail
  go_loopw [13, 14, 15, 19] (fun av bv cv iv wr => ∃ (i : Nat) (ha hb hc : List Value) (pv : List (List ValA)) (pb : List Txt) (pf : List (List FieldA)) (J : List Rowp), i ≤ 3 ∧ iv = .int .i64 i ∧ Hid (Cnt i ha hb hc pv pb pf) ∧ Hid (solo 5 1 Z.length (.slice oo Z.length oc) (bs Z) ∈ J) ∧ Hid (Strew w0 wr ⟨av, ha⟩ ⟨bv, hb⟩ ⟨cv, hc⟩ (solos kV ha pv ++ (solos kB hb pb ++ (solos kF hc pf ++ J))))) (fun _ _ _ iv _ => 3 - (intOf iv).toNat)
  case atStart => exact ⟨0, [], [.slice zo Z.length zc], [], [], [Z], [], [solo 5 1 Z.length (.slice oo Z.length oc) (bs Z)], by omega, rfl, ⟨rfl, rfl, rfl, rfl, rfl, rfl, (fun p h => by cases h), (fun p h => by simp at h; subst h; omega), (fun p h => by cases h)⟩, List.mem_cons_self .., (unhide T3).perm (List.Perm.swap _ _ _)⟩
  case round =>
    clear T3
    obtain ⟨i, ha, hb, hc, pv, pb, pf, J, hi, rfl, HC, HJ, HT⟩ := hrel
    have Ar := hide ((unhide A0).keepF (unhide HT).keeps)
    have cr := (unhide Ar).cell
    have zr := (unhide Ar).lt
    by_cases hlt : i < 3
    · have i1 : (i : Int) < 3 := by omega
      have Q2 := hide (copyBytes_any _ (.slice bo b.length bc) b (unhide Ar).byts (by omega))
      go_wp2_with fail
      refine (unhide Q2).mono ?_
      rintro e w2 ⟨rv, rfl, ho2, hk2⟩
      obtain ⟨ro, rc, rfl⟩ := (rowAt_own ho2).form
      have T2 := hide ((unhide HT).newRow hk2 ho2 (by decide))
      have A2 := hide ((unhide Ar).keepF hk2)
      have c2 := (unhide A2).cell
      have z2 := (unhide A2).lt
      clear ho2 hk2 Q2 cr zr HT Ar
      by_cases h1 : i = 1
      · subst h1
        have HJ2 : Hid (solo 5 1 Z.length (.slice oo Z.length oc) (bs Z) ∈ solo 5 1 b.length (.slice ro b.length rc) (bs b) :: J) := List.mem_cons_of_mem _ (unhide HJ)
        have hm : solo 5 1 Z.length (.slice oo Z.length oc) (bs Z) ∈ solo 5 1 b.length (.slice ro b.length rc) (bs b) :: (solos kV ha pv ++ (solos kB hb pb ++ (solos kF hc pf ++ J))) := List.mem_cons_of_mem _ (List.mem_append_right _ (List.mem_append_right _ (List.mem_append_right _ (unhide HJ))))
        have Q3 := hide (copyBytes_any _ (.slice oo Z.length oc) Z (bytsO ((unhide T2).at_ hm).x rfl) (by omega))
        have T2p := hide ((unhide T2).perm (show (solo 5 1 b.length (.slice ro b.length rc) (bs b) :: (solos kV ha pv ++ (solos kB hb pb ++ (solos kF hc pf ++ J)))).Perm (solos kV ha pv ++ (solos kB hb pb ++ (solos kF hc pf ++ solo 5 1 b.length (.slice ro b.length rc) (bs b) :: J))) from perm_down))
        clear hm T2
        go_wp2_with fail
        refine (unhide Q3).mono ?_
        rintro e w3 ⟨qv, rfl, ho3, hk3⟩
        obtain ⟨qo, qc, rfl⟩ := (rowAt_own ho3).form
        have T3 := hide ((unhide T2p).newRow hk3 ho3 (by decide))
        have A3 := hide ((unhide A2).keepF hk3)
        have c3 := (unhide A3).cell
        have z3 := (unhide A3).lt
        clear ho3 hk3 Q3 c2 z2 T2p A2 HJ
        have HRA : Hid (RowA S N) := (unhide HR).rowN
        obtain ⟨F9, HPS, hsf⟩ : ∃ F9 : List FieldA, Hid (parseSchemaB [110, 58, 105, 110, 116] = (F9, 0)) ∧ F9.length ≤ 8 := ⟨_, parse_other, by simp⟩
        have Q4 := hide (val_zero S _ _ (unhide A3).env.types (unhide A3).flds)
        rw [(unhide HR).zero] at Q4
        go_wp2_with fail
        refine (unhide Q4).mono ?_
        rintro e w4 ⟨v4, rfl, ho4, hk4⟩
        obtain ⟨o4, k4, rfl⟩ := (rowAt_own ho4).form
        have T4 := hide ((unhide T3).newRow hk4 ho4 (by decide))
        have A4 := hide ((unhide A3).keepF hk4)
        have c4 := (unhide A4).cell
        have z4 := (unhide A4).lt
        clear ho4 hk4 Q4 c3 z3 T3 A3
        have Q5 := hide (val_make S _ N _ _ (unhide A4).env.types (unhide A4).flds (unhide A4).nons)
        rw [(unhide HRA).make] at Q5
        go_wp2_with fail
        refine (unhide Q5).mono ?_
        rintro e w5 ⟨v5, rfl, ho5, hk5⟩
        obtain ⟨o5, k5, rfl⟩ := (rowAt_own ho5).form
        have T5 := hide ((unhide T4).newRow hk5 ho5 (by decide))
        have A5 := hide ((unhide A4).keepF hk5)
        have c5 := (unhide A5).cell
        have z5 := (unhide A5).lt
        clear ho5 hk5 Q5 c4 z4 T4 A4
        have Q6 := hide (vv_decode S _ Z _ _ _ (unhide A5).env (unhide A5).flds ((unhide T5).at_ (List.mem_cons_of_mem _ (List.mem_cons_of_mem _ (List.mem_cons_self ..)))).x (by omega))
        obtain ⟨X6, hX6⟩ : ∃ X, X = (decodeB S Z).1 := ⟨_, rfl⟩
        obtain ⟨E6, hE6⟩ : ∃ E, E = (decodeB S Z).2 := ⟨_, rfl⟩
        have hXl : X6.length ≤ 8 := by rw [hX6]; exact decodeB_len _ _
        rw [← hX6, ← hE6] at Q6
        clear hX6 hE6
        go_wp2_with fail
        refine (unhide Q6).mono ?_
        rintro e w6 ⟨v6, rfl, ho6, hk6⟩
        obtain ⟨o6, k6, rfl⟩ := (rowAt_own ho6).form
        have T6 := hide ((unhide T5).newRow hk6 ho6 (by decide))
        have A6 := hide ((unhide A5).keepF hk6)
        have c6 := (unhide A6).cell
        have z6 := (unhide A6).lt
        clear ho6 hk6 Q6 c5 z5 T5 A5
        have Q7 := hide (val_parse S _ t _ (unhide A6).env (unhide A6).flds (by omega))
        rw [(unhide HR).parV] at Q7
        go_wp2_with fail
        refine (unhide Q7).mono ?_
        rintro e w7 ⟨v7, rfl, ho7, hk7⟩
        obtain ⟨o7, k7, rfl⟩ := (rowAt_own ho7).form
        have T7 := hide ((unhide T6).newRow hk7 ho7 (by decide))
        have A7 := hide ((unhide A6).keepF hk7)
        have c7 := (unhide A7).cell
        have z7 := (unhide A7).lt
        clear ho7 hk7 Q7 c6 z6 T6 A6
        have Q8 := hide (val_encode S _ N _ _ (unhide A7).env.types (unhide A7).flds (unhide A7).nons (unhide HRA).in_)
        go_wp2_with fail
        refine (unhide Q8).mono ?_
        rintro e w8 ⟨v8, rfl, ho8, hk8⟩
        obtain ⟨o8, k8, rfl⟩ := (rowAt_own ho8).form
        have T8 := hide ((unhide T7).newRow hk8 ho8 (by decide))
        have A8 := hide ((unhide A7).keepF hk8)
        clear ho8 hk8 Q8 c7 z7 T7 A7
        have Q9 := hide (val_parseSchema [110, 58, 105, 110, 116] _ (by simp) (unhide A8).env)
        rw [unhide HPS] at Q9
        go_wp2_with fail
        refine (unhide Q9).mono ?_
        rintro e w9 ⟨v9, rfl, ho9, hk9⟩
        obtain ⟨o9, k9, rfl⟩ := (rowAt_own ho9).form
        have T9 := hide ((unhide T8).newRow hk9 ho9 (by decide))
        have hka := (Keeps.refl (fun _ => False) w9).alloc (.cells #[.slice o9 F9.length k9] 26)
        have T10 := hide ((unhide T9).newRow hka (one_box w9 (.slice o9 F9.length k9) 26) (by decide))
        clear ho9 hk9 Q9 T8 A8 T9 hka
        have X10 := hide ((unhide T10).keeps.size)
        have H10 := hide ((unhide T10).rowA)
        have hla : ha.length ≤ 100 := by have := (unhide HC).la; omega
        have hlb : hb.length ≤ 100 := by have := (unhide HC).lb; omega
        have hlc : hc.length ≤ 100 := by have := (unhide HC).lc; omega
        go_wp2_with (first
          | (at_builtin
             refine append_hdrs 42 23 (by kernel_rfl) (.slice none 0 0) (by kernel_rfl) rfl rfl _ _ rfl w0.heap.size _ ha.length ha rfl (own_alloc (unhide H10) _) _ 4 4 [.slice o4 N.length k4, .slice o5 N.length k5, .slice o6 X6.length k6, .slice o7 V.length k7] rfl rfl lit_two (by simp [Value.oneCell']) (by omega) (by omega) (Nat.le_trans (unhide X10) (by simp)) ?_
             intro g11 cap11 w11 HG11
             have T11 := hide ((unhide T10).pushA rfl HG11)
             have X11 := hide ((unhide T11).keeps.size)
             have H11 := hide ((unhide T11).rowB)
             clear HG11 T10 X10 H10)
          | (at_builtin
             refine append_hdrs 43 30 (by kernel_rfl) (.slice none 0 0) (by kernel_rfl) rfl rfl _ _ rfl w0.heap.size _ hb.length hb rfl (own_alloc (unhide H11) _) _ 2 2 [.slice o8 (encodeB S N).length k8, .slice qo Z.length qc] rfl rfl (fun j u hj => by rw [cell_of_blk (heap_alloc_new _ _)]; simpa using hj) (by simp [Value.oneCell']) (by omega) (by omega) (Nat.le_trans (unhide X11) (by simp)) ?_
             intro g12 cap12 w12 HG12
             have T12 := hide ((unhide T11).pushB rfl HG12)
             have X12 := hide ((unhide T12).keeps.size)
             have H12 := hide ((unhide T12).rowC)
             have cbx := own_at ((unhide T12).at_ (List.mem_cons_self ..)).x (j := 0) (u := .slice o9 F9.length k9) rfl
             clear HG12 T11 X11 H11)
          | (at_builtin
             refine append_hdr 92 24 (by kernel_rfl) (.slice none 0 0) (by kernel_rfl) rfl rfl _ _ rfl w0.heap.size _ hc.length hc rfl (own_alloc (unhide H12) _) _ 1 (.slice o9 F9.length k9) rfl (by rw [cell_of_blk (heap_alloc_new _ _)]; rfl) rfl (by omega) (Nat.le_trans (unhide X12) (by simp)) ?_
             intro g13 cap13 w13 HG13
             have T13 := hide ((unhide T12).pushC rfl HG13)
             clear HG13 T12 X12 H12))
        go_roundw
        case rel =>
          have hC := unhide HC
          refine ⟨2, ha ++ [.slice o4 N.length k4, .slice o5 N.length k5, .slice o6 X6.length k6, .slice o7 V.length k7], hb ++ [.slice o8 (encodeB S N).length k8, .slice qo Z.length qc], hc ++ [.slice o9 F9.length k9], pv ++ [N, N, X6, V], pb ++ [encodeB S N, Z], pf ++ [F9], solo 26 1 1 (.slice (some ⟨w9.heap.size, 0, none⟩) 1 1) [.slice o9 F9.length k9] :: (solo 5 1 b.length (.slice ro b.length rc) (bs b) :: J), by omega, by go_num, ⟨by simp only [List.length_append, List.length_cons, List.length_nil]; have := hC.la; omega, by simp only [List.length_append, List.length_cons, List.length_nil]; have := hC.lb; omega, by simp only [List.length_append, List.length_cons, List.length_nil]; have := hC.lc; omega, by simp only [List.length_append, List.length_cons, List.length_nil]; have := hC.qa; omega, by simp only [List.length_append, List.length_cons, List.length_nil]; have := hC.qb; omega, by simp only [List.length_append, List.length_cons, List.length_nil]; have := hC.qc; omega, all4 hC.ba (by rw [(unhide HR).nN]; omega) (by rw [(unhide HRA).n]; omega) (by omega) (by rw [(unhide HR).nV]; omega), all2 hC.bb (unhide HRA).enc (by omega), all1 hC.bc (by omega)⟩, List.mem_cons_of_mem _ (unhide HJ2), ?_⟩
          exact Strew.round (hC.la.trans hC.qa.symm) (hC.lb.trans hC.qb.symm) (hC.lc.trans hC.qc.symm) (unhide T13)
        case measure => first | (simp [intOf]; done) | (simp [intOf]; omega)
      · have i2 : ¬ (i : Int) = 1 := by omega
        have T3 := T2
        have A3 := A2
        have c3 := c2
        have z3 := z2
        have HJ2 := HJ
        clear T2 A2 c2 z2 HJ
        have HRA : Hid (RowA S V) := (unhide HR).rowV
        obtain ⟨F9, HPS, hsf⟩ : ∃ F9 : List FieldA, Hid (parseSchemaB s = (F9, 0)) ∧ F9.length ≤ 8 := ⟨_, (unhide HR).parS, n8⟩
        have Q4 := hide (val_zero S _ _ (unhide A3).env.types (unhide A3).flds)
        rw [(unhide HR).zero] at Q4
        go_wp2_with fail
        refine (unhide Q4).mono ?_
        rintro e w4 ⟨v4, rfl, ho4, hk4⟩
        obtain ⟨o4, k4, rfl⟩ := (rowAt_own ho4).form
        have T4 := hide ((unhide T3).newRow hk4 ho4 (by decide))
        have A4 := hide ((unhide A3).keepF hk4)
        have c4 := (unhide A4).cell
        have z4 := (unhide A4).lt
        clear ho4 hk4 Q4 c3 z3 T3 A3
        have Q5 := hide (val_make S _ V _ _ (unhide A4).env.types (unhide A4).flds (unhide A4).vals)
        rw [(unhide HRA).make] at Q5
        go_wp2_with fail
        refine (unhide Q5).mono ?_
        rintro e w5 ⟨v5, rfl, ho5, hk5⟩
        obtain ⟨o5, k5, rfl⟩ := (rowAt_own ho5).form
        have T5 := hide ((unhide T4).newRow hk5 ho5 (by decide))
        have A5 := hide ((unhide A4).keepF hk5)
        have c5 := (unhide A5).cell
        have z5 := (unhide A5).lt
        clear ho5 hk5 Q5 c4 z4 T4 A4
        have Q6 := hide (vv_decode S _ b _ _ _ (unhide A5).env (unhide A5).flds ((unhide T5).at_ (List.mem_cons_of_mem _ (List.mem_cons_of_mem _ (List.mem_cons_self ..)))).x (by omega))
        obtain ⟨X6, hX6⟩ : ∃ X, X = (decodeB S b).1 := ⟨_, rfl⟩
        obtain ⟨E6, hE6⟩ : ∃ E, E = (decodeB S b).2 := ⟨_, rfl⟩
        have hXl : X6.length ≤ 8 := by rw [hX6]; exact decodeB_len _ _
        rw [← hX6, ← hE6] at Q6
        clear hX6 hE6
        go_wp2_with fail
        refine (unhide Q6).mono ?_
        rintro e w6 ⟨v6, rfl, ho6, hk6⟩
        obtain ⟨o6, k6, rfl⟩ := (rowAt_own ho6).form
        have T6 := hide ((unhide T5).newRow hk6 ho6 (by decide))
        have A6 := hide ((unhide A5).keepF hk6)
        have c6 := (unhide A6).cell
        have z6 := (unhide A6).lt
        clear ho6 hk6 Q6 c5 z5 T5 A5
        have Q7 := hide (val_parse S _ t _ (unhide A6).env (unhide A6).flds (by omega))
        rw [(unhide HR).parV] at Q7
        go_wp2_with fail
        refine (unhide Q7).mono ?_
        rintro e w7 ⟨v7, rfl, ho7, hk7⟩
        obtain ⟨o7, k7, rfl⟩ := (rowAt_own ho7).form
        have T7 := hide ((unhide T6).newRow hk7 ho7 (by decide))
        have A7 := hide ((unhide A6).keepF hk7)
        have c7 := (unhide A7).cell
        have z7 := (unhide A7).lt
        clear ho7 hk7 Q7 c6 z6 T6 A6
        have Q8 := hide (val_encode S _ V _ _ (unhide A7).env.types (unhide A7).flds (unhide A7).vals (unhide HRA).in_)
        go_wp2_with fail
        refine (unhide Q8).mono ?_
        rintro e w8 ⟨v8, rfl, ho8, hk8⟩
        obtain ⟨o8, k8, rfl⟩ := (rowAt_own ho8).form
        have T8 := hide ((unhide T7).newRow hk8 ho8 (by decide))
        have A8 := hide ((unhide A7).keepF hk8)
        clear ho8 hk8 Q8 c7 z7 T7 A7
        have Q9 := hide (val_parseSchema s _ (by omega) (unhide A8).env)
        rw [unhide HPS] at Q9
        go_wp2_with fail
        refine (unhide Q9).mono ?_
        rintro e w9 ⟨v9, rfl, ho9, hk9⟩
        obtain ⟨o9, k9, rfl⟩ := (rowAt_own ho9).form
        have T9 := hide ((unhide T8).newRow hk9 ho9 (by decide))
        have hka := (Keeps.refl (fun _ => False) w9).alloc (.cells #[.slice o9 F9.length k9] 26)
        have T10 := hide ((unhide T9).newRow hka (one_box w9 (.slice o9 F9.length k9) 26) (by decide))
        clear ho9 hk9 Q9 T8 A8 T9 hka
        have X10 := hide ((unhide T10).keeps.size)
        have H10 := hide ((unhide T10).rowA)
        have hla : ha.length ≤ 100 := by have := (unhide HC).la; omega
        have hlb : hb.length ≤ 100 := by have := (unhide HC).lb; omega
        have hlc : hc.length ≤ 100 := by have := (unhide HC).lc; omega
        go_wp2_with (first
          | (at_builtin
             refine append_hdrs 42 23 (by kernel_rfl) (.slice none 0 0) (by kernel_rfl) rfl rfl _ _ rfl w0.heap.size _ ha.length ha rfl (own_alloc (unhide H10) _) _ 4 4 [.slice o4 N.length k4, .slice o5 V.length k5, .slice o6 X6.length k6, .slice o7 V.length k7] rfl rfl lit_two (by simp [Value.oneCell']) (by omega) (by omega) (Nat.le_trans (unhide X10) (by simp)) ?_
             intro g11 cap11 w11 HG11
             have T11 := hide ((unhide T10).pushA rfl HG11)
             have X11 := hide ((unhide T11).keeps.size)
             have H11 := hide ((unhide T11).rowB)
             clear HG11 T10 X10 H10)
          | (at_builtin
             refine append_hdrs 43 30 (by kernel_rfl) (.slice none 0 0) (by kernel_rfl) rfl rfl _ _ rfl w0.heap.size _ hb.length hb rfl (own_alloc (unhide H11) _) _ 2 2 [.slice o8 (encodeB S V).length k8, .slice ro b.length rc] rfl rfl (fun j u hj => by rw [cell_of_blk (heap_alloc_new _ _)]; simpa using hj) (by simp [Value.oneCell']) (by omega) (by omega) (Nat.le_trans (unhide X11) (by simp)) ?_
             intro g12 cap12 w12 HG12
             have T12 := hide ((unhide T11).pushB rfl HG12)
             have X12 := hide ((unhide T12).keeps.size)
             have H12 := hide ((unhide T12).rowC)
             have cbx := own_at ((unhide T12).at_ (List.mem_cons_self ..)).x (j := 0) (u := .slice o9 F9.length k9) rfl
             clear HG12 T11 X11 H11)
          | (at_builtin
             refine append_hdr 92 24 (by kernel_rfl) (.slice none 0 0) (by kernel_rfl) rfl rfl _ _ rfl w0.heap.size _ hc.length hc rfl (own_alloc (unhide H12) _) _ 1 (.slice o9 F9.length k9) rfl (by rw [cell_of_blk (heap_alloc_new _ _)]; rfl) rfl (by omega) (Nat.le_trans (unhide X12) (by simp)) ?_
             intro g13 cap13 w13 HG13
             have T13 := hide ((unhide T12).pushC rfl HG13)
             clear HG13 T12 X12 H12))
        go_roundw
        case rel =>
          have hC := unhide HC
          refine ⟨i + 1, ha ++ [.slice o4 N.length k4, .slice o5 V.length k5, .slice o6 X6.length k6, .slice o7 V.length k7], hb ++ [.slice o8 (encodeB S V).length k8, .slice ro b.length rc], hc ++ [.slice o9 F9.length k9], pv ++ [N, V, X6, V], pb ++ [encodeB S V, b], pf ++ [F9], solo 26 1 1 (.slice (some ⟨w9.heap.size, 0, none⟩) 1 1) [.slice o9 F9.length k9] :: J, by omega, by go_num, ⟨by simp only [List.length_append, List.length_cons, List.length_nil]; have := hC.la; omega, by simp only [List.length_append, List.length_cons, List.length_nil]; have := hC.lb; omega, by simp only [List.length_append, List.length_cons, List.length_nil]; have := hC.lc; omega, by simp only [List.length_append, List.length_cons, List.length_nil]; have := hC.qa; omega, by simp only [List.length_append, List.length_cons, List.length_nil]; have := hC.qb; omega, by simp only [List.length_append, List.length_cons, List.length_nil]; have := hC.qc; omega, all4 hC.ba (by rw [(unhide HR).nN]; omega) (by rw [(unhide HRA).n]; omega) (by omega) (by rw [(unhide HR).nV]; omega), all2 hC.bb (unhide HRA).enc (by omega), all1 hC.bc (by omega)⟩, List.mem_cons_of_mem _ (unhide HJ2), ?_⟩
          exact Strew.round (hC.la.trans hC.qa.symm) (hC.lb.trans hC.qb.symm) (hC.lc.trans hC.qc.symm) (unhide T13)
        case measure => first | (simp [intOf]; done) | (simp [intOf]; omega)
    · obtain rfl : i = 3 := by omega
      have i1 : ¬ (3 : Int) < 3 := by omega
      have hT := unhide HT
      have hC := unhide HC
      have ra : wr.ownsRow w0.heap.size 23 1 u13 pv.length ha := own_len (by show ha.length = _; rw [hC.la, hC.qa]) hT.rowA
      have rb : wr.ownsRow w0.heap.size 30 1 u14 pb.length hb := own_len (by show hb.length = _; rw [hC.lb, hC.qb]) hT.rowB
      have rc : wr.ownsRow w0.heap.size 24 1 u15 pf.length hc := own_len (by show hc.length = _; rw [hC.lc, hC.qc]) hT.rowC
      have h0 := hT.sack.sub (show (solos kV ha pv ++ (solos kB hb pb ++ (solos kF hc pf ++ J))).Sublist _ from List.Sublist.cons _ (List.Sublist.cons _ (List.sublist_cons_self _ _)))
      have h1 := hT.sack.sub (show ((⟨u14, hb⟩ : Hd).row 30 :: (⟨u15, hc⟩ : Hd).row 24 :: (solos kB hb pb ++ solos kF hc pf)).Sublist _ from List.Sublist.cons _ (List.Sublist.cons_cons _ (List.Sublist.cons_cons _ ((List.Sublist.append (List.Sublist.refl _) (List.sublist_append_left (solos kF hc pf) J)).trans (List.sublist_append_right (solos kV ha pv) _)))))
      obtain ⟨ao, ac, rfl⟩ := (rowAt_own ra).form
      obtain ⟨xo, xc, rfl⟩ := (rowAt_own rb).form
      obtain ⟨yo, yc, rfl⟩ := (rowAt_own rc).form
      have Q20 := hide (apartVals_v wr w0.heap.size ao ac ha pv (solos kB hb pb ++ (solos kF hc pf ++ J)) ra h0 hT.keeps.size (Nat.le_trans (Nat.le_of_eq hC.qa) (by omega)) hC.ba)
      have HM := hide h1
      have HK0 := hide hT.keeps
      clear ra rb rc h0 h1 hT hC HT HJ cr zr Ar
      go_wp2_with fail
      refine (unhide Q20).mono ?_
      rintro e w20 ⟨rfl, hk20⟩
      have J20 := hide (narrowO (unhide HK0) hk20 (fun q f => f.1))
      have M20 := hide ((unhide HM).keepZ hk20 kinds_v)
      clear hk20 Q20 HM HK0
      have Q21 := hide (apartBytes_v w20 w0.heap.size xo xc hb pb (solos kF hc pf) (own_len ((unhide HC).lb.trans (unhide HC).qb.symm) ((unhide M20).all _ (List.mem_cons_self ..)).x) ((unhide M20).tail.tail) (unhide J20).size (Nat.le_trans (Nat.le_of_eq (unhide HC).qb) (by omega)) (unhide HC).bb)
      go_wp2_with fail
      refine (unhide Q21).mono ?_
      rintro e w21 ⟨rfl, hk21⟩
      have J21 := hide (narrowO (unhide J20) hk21 (fun q f => f.1))
      have M21 := hide (((unhide M20).sub (show ((⟨.slice yo pf.length yc, hc⟩ : Hd).row 24 :: solos kF hc pf).Sublist _ from List.Sublist.cons _ (List.Sublist.cons_cons _ (List.sublist_append_right _ _)))).keepZ hk21 kinds_b)
      clear hk21 Q21 M20 J20
      have Q22 := hide (apartFields_v w21 w0.heap.size yo yc hc pf [] (own_len ((unhide HC).lc.trans (unhide HC).qc.symm) ((unhide M21).all _ (List.mem_cons_self ..)).x) (by rw [List.append_nil]; exact (unhide M21).tail) (unhide J21).size (Nat.le_trans (Nat.le_of_eq (unhide HC).qc) (by omega)) (unhide HC).bc)
      go_wp2_with fail
      refine (unhide Q22).mono ?_
      rintro e w22 ⟨rfl, hk22⟩
      have J22 := hide (narrowO (unhide J21) hk22 (fun q f => f.1))
      have A22 := hide ((unhide A0).keepF (unhide J22))
      have O22 := hide (own_keepF (unhide O0) (unhide J22))
      have c22 := (unhide A22).cell
      have z22 := (unhide A22).lt
      clear hk22 Q22 M21 J21 HC
      have Q23 := hide (val_encode S _ V _ _ (unhide A22).env.types (unhide A22).flds (unhide A22).vals (unhide HR).inV)
      rw [(unhide HR).errV, (unhide HR).encV] at Q23
      go_wp2_with fail
      refine (unhide Q23).mono ?_
      rintro e w23 ⟨v23, rfl, ho23, hk23⟩
      obtain ⟨o23, k23, rfl⟩ := (rowAt_own ho23).form
      have J23 := hide ((unhide J22).trans hk23)
      have A23 := hide ((unhide A22).keepF hk23)
      have O23 := hide (own_keepF (unhide O22) hk23)
      have c23 := (unhide A23).cell
      have z23 := (unhide A23).lt
      have C23 := hide ho23
      clear ho23 hk23 Q23 A22 O22 c22 z22 J22
      have Q24 := hide (vv_decode S _ b _ _ _ (unhide A23).env (unhide A23).flds (unhide O23) (by omega))
      rw [(unhide HR).decV] at Q24
      go_wp2_with fail
      refine (unhide Q24).mono ?_
      rintro e w24 ⟨v24, rfl, ho24, hk24⟩
      obtain ⟨o24, k24, rfl⟩ := (rowAt_own ho24).form
      have J24 := hide ((unhide J23).trans hk24)
      have A24 := hide ((unhide A23).keepF hk24)
      have C24 := hide (own_keepF (unhide C23) hk24)
      have D24 := hide ho24
      clear ho24 hk24 Q24 A23 O23 c23 z23 J23 C23
      have Q25 := hide (eqBytes_same _ _ _ b (bytsO (unhide C24) rfl) (unhide A24).byts (by omega))
      go_wp2_with fail
      refine (unhide Q25).mono ?_
      rintro e w25 ⟨rfl, hk25⟩
      have J25 := hide ((unhide J24).trans hk25)
      have A25 := hide ((unhide A24).keepF hk25)
      have D25 := hide (own_keepF (unhide D24) hk25)
      clear hk25 Q25 A24 D24 J24 C24
      have Q26 := hide (eqVals_same _ _ _ V (valsO (unhide D25) rfl) (unhide A25).vals (by rw [(unhide HR).nV]; omega))
      go_wp2_with fail
      refine (unhide Q26).mono ?_
      rintro e w26 ⟨rfl, hk26⟩
      have J26 := hide ((unhide J25).trans hk26)
      clear hk26 Q26
      go_wp2_with fail
      go_ret
      exact ⟨rfl, (unhide HKB).trans (unhide J26)⟩
end Go.Proofs.YtklkhegeeglfbaaGreatDoor
