import Derived.Test.YtijfnlfgehcpaaaGreatDoorYb
import Derived.BigQuiet
namespace Go.Proofs.YtijfnlfgehcpaaaGreatDoor
open Go.RowKit Go.Maps

set_option maxRecDepth 100000 in
set_option maxHeartbeats 8000000 in
theorem frame_walk (S : List FieldA) (l : SL) (h : Bool) (vals : List ValA) (sv pv u : Value) (w : World) (hT : Types w) (hF : Forms w) (hf : FldsAt w sv S) (hp : SlS (argZ w.heap.size) w 0 pv l) (hu : ValsAt w u vals) :
    Calls Tryz.prog 4 #[.agg #[sv], pv, .agg #[.bool h, u]] w fun e w' => e = .returned (.bool true) ∧ Keeps (fun _ => False) w w' := by
  obtain ⟨so, sc, rfl⟩ := RowAt.form hf
  obtain ⟨po, pc, rfl, _⟩ := hp.head
  obtain ⟨uo, uc, rfl⟩ := RowAt.form hu
  obtain ⟨X, hX⟩ : ∃ X, (w.alloc (.cells #[(.slice so S.length sc)] 24)).alloc (.cells #[.bool h, (.slice uo vals.length uc)] 31) = X := ⟨_, rfl⟩
  have PK : Keeps (fun _ => False) w X := hX ▸ ((Keeps.refl _ w).alloc _).alloc _
  have P0 : X.heap[w.heap.size]? = some (.cells #[(.slice so S.length sc)] 24 (0, 0)) := hX ▸ ((((Keeps.refl (fun _ => False) _).alloc _).block _ (by simp) id).trans (heap_alloc_new w _))
  have P1 : X.heap[w.heap.size + 1]? = some (.cells #[.bool h, (.slice uo vals.length uc)] 31 (0, 0)) := hX ▸ alloc_at _ _ _ (by simp)
  have ALL := hide (fun (W' : World) (hk : Keeps (fun _ => False) X W') => (by
    have a := (hk.block _ (lt_of_block P0) id).trans P0
    have c := (hk.block _ (lt_of_block P1) id).trans P1
    exact ⟨hide (PK.trans hk), (cell_of_blk a _).trans rfl, (cell_of_blk c _).trans rfl, (cell_of_blk c _).trans rfl⟩ : Hid (Keeps (fun _ => False) w W') ∧ W'.cell? ⟨w.heap.size, 0, none⟩ = some (.slice so S.length sc) ∧ W'.cell? ⟨w.heap.size + 1, 0, none⟩ = some (.bool h) ∧ W'.cell? ⟨w.heap.size + 1, 1, none⟩ = some (.slice uo vals.length uc)))
  have HD1 := fun W' (hk : Keeps (fun _ => False) w W') => hide (deepStmts w.heap.size 0 l (.slice po l.len pc) W' hk.size (hp.keepF hk))
  have HWK := fun W' (hk : Keeps (fun _ => False) w W') => hide (works_v W' (hT.keepF hk) (hF.keepF hk))
  have HFD := fun (z : l.size ≤ 4294967294) W' (hk : Keeps (fun _ => False) w W') => hide (tfields_v (argZ w.heap.size) S l z (.slice so S.length sc) (.slice po l.len pc) W' 0 (hT.keepF hk) (hF.keepF hk) (hf.keepF hk) (hp.keepF hk))
  have HRN := fun (z : l.size ≤ 4294967294) W' (hk : Keeps (fun _ => False) w W') => hide (mrun_v (argZ w.heap.size) S l z h vals (.slice so S.length sc) (.slice uo vals.length uc) (.slice po l.len pc) W' 0 (hT.keepF hk) (hF.keepF hk) (hf.keepF hk) (hu.keepF hk) (hp.keepF hk))
  have HDL := fun (z : l.size ≤ 4294967294) W' (hk : Keeps (fun _ => False) w W') => hide (deletes_v (argZ w.heap.size) (l.size + 1) l (by omega) z W' 0 (.slice po l.len pc) (hp.keepF hk))
  have HU := fun W' (hk : Keeps (fun _ => False) w W') => hide (hu.keepF hk)
  have HS := fun W' (hk : Keeps (fun _ => False) w W') => hide (hf.keepF hk)
  have HP := hide (frame_law S l h vals)
  have s0 := unhide ALL X (Keeps.refl _ _)
  unfold FdPost at HFD
  have HNL : Hid ((fieldsP S l).2.1.length ≤ S.length ∨ (fieldsP S l).2.1.length = 0) := by
    unfold fieldsP
    split
    · exact Or.inr rfl
    · exact Or.inl (pick_le S _)
  generalize fieldsP S l = FP at *
  generalize runP S l h vals = R at *
  generalize delS l = dl at *
  obtain ⟨FR, FW, FE⟩ := FP
  obtain ⟨⟨Rh, Rv⟩, RE⟩ := R
  try simp only at HP HFD HNL
  clear hT hF hf hp hu PK P0 P1
  go_enter Tryz.func4, Tryz.ntmps4
  go_wp2_with fail
  refine (unhide (HD1 _ (unhide s0.1))).mono ?_
  rintro e w1 ⟨r1, rfl, hk1, hz1⟩
  have ALL := hide (fun (W' : World) (hk : Keeps (fun _ => False) w1 W') => unhide ALL W' (hk1.trans hk))
  have s1 := unhide ALL w1 (Keeps.refl _ _)
  clear hk1 s0
  cases r1 with
  | true =>
    clear hz1
    go_wp2_with fail
    go_ret
    exact ⟨rfl, unhide s1.1⟩
  | false =>
    have zl : l.size ≤ 4294967294 := by have := hz1 rfl; omega
    have HFD := HFD zl
    have HRN := HRN zl
    have HDL := HDL zl
    clear hz1 zl
    go_wp2_with fail
    refine (unhide (HFD _ (unhide s1.1))).mono ?_
    rintro e w2 ⟨rv, wv, rfl, _, hw2, hk2⟩
    have hw2' : RowAt w2 wv FW.length (nmC FW) := rowAt_own hw2
    have ALL := hide (fun (W' : World) (hk : Keeps (fun _ => False) w2 W') => And.intro (hide (hw2'.keepF hk)) (unhide ALL W' (hk2.trans hk)))
    have s2 := unhide ALL w2 (Keeps.refl _ _)
    clear hk2 s1 hw2 hw2'
    go_wp2_with fail
    refine (unhide (HRN _ (unhide s2.2.1))).mono ?_
    rintro e w3 ⟨b3, c3, rfl, hown, hk3⟩
    have RB := row_box (h := Rh) hown
    have ALL := hide (fun (W' : World) (hk : Keeps (fun _ => False) (w3.alloc (.cells #[.bool Rh, .slice b3 Rv.length c3] 31)) W') => And.intro (RB W' hk) (unhide ALL W' (hk3.trans ((kAlloc w3 _).trans hk))))
    generalize hW3 : w3.alloc (.cells #[.bool Rh, .slice b3 Rv.length c3] 31) = W3 at *
    have s3 := unhide ALL W3 (Keeps.refl _ _)
    clear hk3 s2 hown RB
    go_wp2_with fail
    refine (unhide (HWK _ (unhide s3.2.2.1))).mono ?_
    rintro e w4 ⟨rfl, hk4⟩
    have ALL := hide (fun (W' : World) (hk : Keeps (fun _ => False) w4 W') => unhide ALL W' (hk4.trans hk))
    have s4 := unhide ALL w4 (Keeps.refl _ _)
    clear hk4 s3
    go_wp2_with fail
    refine (unhide (HDL _ (unhide s4.2.2.1))).mono ?_
    rintro e w5 ⟨rfl, hk5⟩
    have ALL := hide (fun (W' : World) (hk : Keeps (fun _ => False) w5 W') => unhide ALL W' (hk5.trans hk))
    obtain ⟨⟨q0, q1, HV5⟩, HN5, HK5, t0, t1, t2⟩ := unhide ALL w5 (Keeps.refl _ _)
    clear hk5 s4 HD1 HWK HFD HRN HDL
    rcases unhide HP with ⟨hE, hR⟩ | ⟨hE, hR⟩ | ⟨hE, hR, hd⟩ | ⟨hE, hR, hd, hh, hrh, hrl, hvl, hS8, hfr⟩
    · try simp only at hE hR
      subst hR
      have n1 : (RE != 0) = true := by simpa using hE
      have n2 : (RE == 0) = false := by simpa using hE
      clear HP hE ALL
      go_wp2_with fail
      all_goals (go_ret; exact ⟨by first | rfl | simp, unhide HK5⟩)
    · try simp only at hE hR
      subst hE
      have n1 : (RE != 0) = true := by simpa using hR
      clear HP hR ALL
      go_wp2_with fail
      all_goals (go_ret; exact ⟨by first | rfl | simp, unhide HK5⟩)
    · try simp only at hE hR
      subst hE hR
      clear HP ALL
      cases dl with
      | true =>
        clear hd
        go_wp2_with fail
        all_goals (go_ret; exact ⟨by first | rfl | simp, unhide HK5⟩)
      | false =>
        have hh : h = false := by simpa using hd
        subst hh
        clear hd
        go_wp2_with fail
        all_goals (go_ret; exact ⟨by first | rfl | simp, unhide HK5⟩)
    · try simp only at hE hR hrh hrl hfr
      subst hE hR hd hh hrh
      have n1 : ((Rv.length : Int) != (vals.length : Int)) = false := by simp [hrl]
      have HFR := hide hfr
      clear HP hfr
      go_wp2_with fail
      go_loopw [15] (fun i wr => ∃ k : Nat, k ≤ vals.length ∧ i = .int .i64 k ∧ Keeps (fun _ => False) w5 wr) (fun i _ => vals.length - (intOf i).toNat)
      case atStart => exact ⟨0, Nat.zero_le _, rfl, Keeps.refl _ _⟩
      case round =>
        obtain ⟨k, hk, rfl, hkp⟩ := hrel
        clear q0 q1 t0 t1 t2 HV5 HN5 HK5
        obtain ⟨⟨q0, q1, HV5⟩, HN5, HK5, t0, t1, t2⟩ := unhide ALL wr hkp
        by_cases hlt : k < vals.length
        · obtain ⟨b, off, _, e1, hbl, hc⟩ := (unhide (HU wr (unhide HK5))).cells (by omega)
          obtain ⟨b', off', _, e2, hbl', hc'⟩ := (unhide HV5).cells (by omega)
          obtain ⟨b2, off2, _, e3, hbl2, hc2⟩ := (unhide (HS wr (unhide HK5))).cells (by omega)
          simp at e1 e2 e3
          obtain ⟨rfl, rfl⟩ := e1
          obtain ⟨rfl, rfl⟩ := e2
          obtain ⟨rfl, rfl⟩ := e3
          obtain ⟨x, hx⟩ : ∃ x, vals[k]? = some x := ⟨_, List.getElem?_eq_getElem hlt⟩
          obtain ⟨y, hy⟩ : ∃ y, Rv[k]? = some y := ⟨_, List.getElem?_eq_getElem (by omega)⟩
          obtain ⟨g, hg⟩ : ∃ g, S[k]? = some g := ⟨_, List.getElem?_eq_getElem (by omega)⟩
          have g0 := (hc2 k g hg).1
          have hxy : g.name ∉ FW → y = x := fun hn => by
            have := unhide HFR k g x hg (by simpa using hn) hx
            rw [hy] at this
            simpa using this
          have i1 : (k : Int) < (vals.length : Int) := by omega
          have i2 : (k : Int) < (S.length : Int) := by omega
          have i3 : (k : Int) < (Rv.length : Int) := by omega
          have i0 : (0 : Int) ≤ (k : Int) := by omega
          have HCX := hide (fun W' (hq : Keeps (fun _ => False) wr W') => And.intro ((hq.cell hbl id).trans (hc k x hx).1) (And.intro ((hq.cell hbl id).trans (hc k x hx).2.1) ((hq.cell hbl id).trans (hc k x hx).2.2)))
          have HCY := hide (fun W' (hq : Keeps (fun _ => False) wr W') => And.intro ((hq.cell hbl' id).trans (hc' k y hy).1) (And.intro ((hq.cell hbl' id).trans (hc' k y hy).2.1) ((hq.cell hbl' id).trans (hc' k y hy).2.2)))
          have HKP := hide hkp
          have HN := hide (hasName_v FW (by have := unhide HNL; omega) g.name wv wr (unhide HN5))
          clear hc hc' hc2 hx hy hkp
          obtain ⟨xk, xn, xs⟩ := x
          obtain ⟨yk, yn, ys⟩ := y
          go_wp2_with fail
          refine (unhide HN).mono ?_
          rintro e w6 ⟨rfl, hk6⟩
          have hxx := unhide HCX w6 hk6
          have hyy := unhide HCY w6 hk6
          have HKQ := hide ((unhide HKP).trans hk6)
          clear q0 q1 t0 t1 t2 HV5 HN5 HK5 g0
          obtain ⟨⟨q0, q1, HV5⟩, HN5, HK5, t0, t1, t2⟩ := unhide ALL w6 (unhide HKQ)
          clear hk6 HCX HCY HN
          by_cases hm : g.name ∈ FW
          · have n2 : decide (g.name ∈ FW) = true := by simpa using hm
            rw [n2]
            clear hxy n2
            go_wp2_with fail
            go_quiet (fail)
            go_wp2_with fail
            go_roundw
            case rel => exact ⟨k + 1, by omega, by go_num, (unhide HKQ).trans (keeps_drewN _ _)⟩
            case measure => simp [intOf]; omega
          · have n2 : decide (g.name ∈ FW) = false := by simpa using hm
            rw [n2]
            have hxy2 := hxy hm
            simp only [ValA.mk.injEq] at hxy2
            obtain ⟨rfl, rfl, rfl⟩ := hxy2
            clear hxy n2
            go_wp2_with fail
            go_quiet (fail)
            go_wp2_with fail
            go_roundw
            case rel => exact ⟨k + 1, by omega, by go_num, (unhide HKQ).trans (keeps_drewN _ _)⟩
            case measure => simp [intOf]; omega
        · have i1 : ¬ (k : Int) < (vals.length : Int) := by omega
          clear hkp
          go_wp2_with fail
          all_goals (go_ret; exact ⟨by first | rfl | simp, unhide HK5⟩)
end Go.Proofs.YtijfnlfgehcpaaaGreatDoor
