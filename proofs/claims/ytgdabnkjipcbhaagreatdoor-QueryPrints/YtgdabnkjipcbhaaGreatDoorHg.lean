import Derived.Test.YtgdabnkjipcbhaaGreatDoorHf
namespace Go.Proofs.YtgdabnkjipcbhaaGreatDoor
open Go.RowKit Go.Maps

/-- What is still to come of a call's text. -/
def tailC (m : Txt) : EL → Txt
  | .nil => [41]
  | .cons op n s k r => m ++ textE op n s k ++ tailC [44, 32] r
theorem tailC_commas : ∀ (l : EL) (m : Txt), l.len ≠ 0 → tailC m l = m ++ commas (kidTs l) ++ [41]
  | .nil, _, h => absurd rfl h
  | .cons op n s k .nil, m, _ => rfl
  | .cons op n s k (.cons op' n' s' k' r), m, _ => by
    rw [tailC, tailC_commas (.cons op' n' s' k' r) [44, 32] (by simp [EL.len])]
    simp [kidTs, txs, commas, textE]
theorem ExIn.kb {w w' : World} {B b : Nat} {xs : List Value} (hI : Lib.IsBuilder 64 5 B b xs w) (hk : Keeps (KB w B b) w w') {l : EL} {g o : Nat} (hx : ExIn (belZ B) w l g o) : ExIn (belZ B) w' l g o :=
  hx.keep (Q := fun _ => True) (fun _ _ _ _ => trivial) hk (fun _ _ _ hl hG => cpy_kb hI hk hl hG) trivial

theorem at_one (op n : Int) (T : Txt) : atT (op, n, T) 1 = T := by
  unfold atT
  rw [if_neg]
  show ¬ rankB op n < 1
  unfold rankB
  repeat' split
  all_goals omega

theorem boxA (w : World) (cs : Array Value) (t : TypeId) : Keeps (fun _ => False) w (w.alloc (.cells cs t)) ∧ (w.alloc (.cells cs t)).heap.size = w.heap.size + 1 ∧ (w.alloc (.cells cs t)).heap[w.heap.size]? = some (.cells cs t (0, 0)) ∧ ∀ (j : Nat) (x : Value), cs[j]? = some x → (w.alloc (.cells cs t)).cell? ⟨w.heap.size, j, none⟩ = some x := by
  obtain ⟨h1, h2, h3⟩ := boxedT w cs t
  exact ⟨unhide h1, by simp, heap_alloc_new w _, h3⟩

set_option maxRecDepth 100000 in
set_option maxHeartbeats 1600000 in
theorem writeCall_v (B b : Nat) (t : Txt) (op n : Int) (s : Txt) (f : FormA) (l : EL) (up : Nat) (kv : Value) (w : World) (hE : Env B b w) (hS : SlE (belZ B) w up kv l) (hI : Lib.IsBuilder 64 5 B b (bs t) w) (hW : KidsW l) (hft : f.text.length ≤ 4) (hlen : l.len ≤ 2147483647) (hl : t.length + 600 * l.size + 100 ≤ 70368744177000) :
    Calls Tryz.prog 71 #[.pointer (some ⟨b, 0, none⟩), exV op n s kv, formV f] w fun e w' => e = .returned (.tuple #[]) ∧ Lib.IsBuilder 64 5 B b (bs (t ++ f.text ++ tailC [40] l)) w' ∧ Keeps (KB w B b) w w' := by
  have HS := hide hS
  obtain ⟨ao, cap, hb, off, rfl, hcap, ha, hx⟩ := hS.open
  obtain ⟨fsh, ftx, fk, frk, fle, fri⟩ := f
  simp only at hft ⊢
  obtain ⟨w2, hw2, hk2, hz2, hx2, hy2, hxc, hyc⟩ := boxed2 w #[.int .i64 op, .int .i64 n, str s, .slice ao l.len cap] #[.int .i64 fsh, str ftx, .int .i64 fk, .int .i64 frk, .int .i64 fle, .int .i64 fri] 54 111
  have HX2 := hide hx2
  have HK2 := hide hk2
  have HI2 := hide (ib_keepF hI hk2)
  have HXI := hide (hx.keepF hk2)
  have HA := hide ha
  have HE2 := hide (hE.keepF hk2)
  have HKW := hide hW
  have d1 := hyc 1 (str ftx) rfl
  have e3 := hxc 3 (.slice ao l.len cap) rfl
  clear hyc hx hS hI ha HS hE hxc hx2 hy2 hk2 hW
  have HC43 := hide (ws_step (s := ftx) (unhide HK2).any (unhide HI2) (by omega) (unhide HE2).size)
  go_enter Tryz.func71, Tryz.ntmps71
  go_wp2_with fail
  clear hw2
  refine (unhide HC43).mono ?_
  rintro e w3 ⟨rfl, hi3, hk23, hk3⟩
  have HK3 := hide hk3
  have HI3 := hide hi3
  have HE3 := hide ((unhide HE2).kb hk23)
  have HXI3 := hide ((unhide HXI).kb (unhide HI2) hk23)
  have g3 := box_kb (unhide HI2) hk23 (unhide HX2) (by decide) (by decide) e3
  have HX3 : Hid (w3.heap[w.heap.size]? = _) := (hk23.block _ (lt_of_block (unhide HX2)) (kb_not (unhide HI2) (unhide HX2) (by decide) (by decide))).trans (unhide HX2)
  clear HC43 hi3 hk3 hk23 HI2 HE2 HX2 d1 e3 HXI
  go_wp2_with fail
  go_loopw [6, 16] (fun m i wr => ∃ (rest : EL) (k : Nat) (M A : Txt), m = str M ∧ i = .int .i64 k ∧ k + rest.len = l.len ∧ A ++ tailC M rest = t ++ ftx ++ tailC [40] l ∧ M.length ≤ 2 ∧ A.length + 600 * rest.size ≤ t.length + 600 * l.size + 10 ∧ Lib.IsBuilder 64 5 B b (bs A) wr ∧ Env B b wr ∧ Keeps (KB w B b) w wr ∧ ExIn (belZ B) wr rest hb (off + k * 4) ∧ KidsW rest) (fun _ i _ => l.len - (intOf i).toNat)
  case atStart => exact ⟨l, 0, [40], t ++ ftx, rfl, rfl, by omega, rfl, by simp, by simp; omega, unhide HI3, unhide HE3, unhide HK3, by simpa using unhide HXI3, unhide HKW⟩
  case round =>
    clear HK3 HI3 HE3 HXI3 g3 HX3 HKW
    obtain ⟨rest, k, M, A, rfl, rfl, hkl, hA, hM, hAl, hI, hE, hK, hr, hkw⟩ := hrel
    have HAA := hide hA
    have HI := hide hI
    have HE := hide hE
    have HK := hide hK
    clear hA hI hE hK
    cases rest with
    | nil =>
      simp only [EL.len, EL.size] at hkl hAl
      clear hr hkw
      have i1 : ¬ (k : Int) < (l.len : Int) := by omega
      go_wp2_with fail
      refine (wb_step 41 41 rfl (unhide HK) (unhide HI) (by omega) (unhide HE).size).mono ?_
      rintro e w5 ⟨rfl, hi5, _, hk5⟩
      have HI5 := hide hi5
      have HK5 := hide hk5
      clear hi5 hk5
      go_wp2_with fail
      go_end0
      refine ⟨rfl, ?_, unhide HK5⟩
      have h : A ++ [41] = t ++ ftx ++ tailC [40] l := unhide HAA
      rw [← h]
      exact unhide HI5
    | cons op' n' s' kids rest =>
      obtain ⟨h1, h2, h3, h4, h5, ⟨kao, kcap, h6, h7, h8⟩, h9⟩ := hr
      simp only [EL.len, EL.size] at hkl hAl
      obtain ⟨rfl, hp⟩ := (unhide HA) (by omega)
      have HKD : Hid (SlE (belZ B) wr hb (.slice kao kids.len kcap) kids) := ⟨kao, kcap, rfl, h7, h8⟩
      have HKT := hide hkw
      have hTl := hkw.2.1
      have HR := hide h9
      have i1 : (k : Int) < (l.len : Int) := by omega
      have i0 : (0 : Int) ≤ (k : Int) := by omega
      obtain ⟨hk34, hz4, h4b, h4c⟩ := boxA wr #[.int .i64 op', .int .i64 n', str s', .slice kao kids.len kcap] 54
      have HK34 := hide hk34
      have HI4 := hide (ib_keepF (unhide HI) hk34)
      have HE4 := hide ((unhide HE).keepF hk34)
      have HS4 := hide ((unhide HKD).keepF hk34)
      have HR4 := hide ((unhide HR).keepF hk34)
      have HK4 : Hid (Keeps (KB w B b) w _) := kb_trans (unhide HK) hk34.any
      have HB4 := hide h4b
      have r0 := h4c 0 (.int .i64 op') rfl
      have r1 := h4c 1 (.int .i64 n') rfl
      have r2 := h4c 2 (str s') rfl
      have r3 := h4c 3 (.slice kao kids.len kcap) rfl
      clear h2 h8 h9 hkw hk34 h4b h4c HI HE HKD HR HK HK34
      generalize hw4 : wr.alloc (.cells #[.int .i64 op', .int .i64 n', str s', .slice kao kids.len kcap] 54) = w4 at *
      go_wp2_with fail
      first | rw [hw4] | skip
      clear hw4
      refine (ws_step (s := M) (unhide HK4) (unhide HI4) (by omega) (unhide HE4).size).mono ?_
      rintro e w5 ⟨rfl, hi5, hk45, hk5⟩
      have u0 := box_kb (unhide HI4) hk45 (unhide HB4) (by decide) (by decide) r0
      have u1 := box_kb (unhide HI4) hk45 (unhide HB4) (by decide) (by decide) r1
      have u2 := box_kb (unhide HI4) hk45 (unhide HB4) (by decide) (by decide) r2
      have u3 := box_kb (unhide HI4) hk45 (unhide HB4) (by decide) (by decide) r3
      have HE5 := hide ((unhide HE4).kb hk45)
      have HR5 := hide ((unhide HR4).kb (unhide HI4) hk45)
      have HI5 := hide hi5
      have HW := hide ((unhide HKT).1 B b (A ++ M) 1 hb (.slice kao kids.len kcap) w5 (Or.inl ⟨by omega, by omega⟩) (unhide HE5) ((unhide HS4).kb (unhide HI4) hk45) hi5 (by simp; omega))
      rw [at_one] at HW
      have HK5 := hide hk5
      clear hi5 hk45 hk5 r0 r1 r2 r3 HI4 HE4 HS4 HB4 HK4 HR4 h3 h4 h5 h6
      go_wp2_with fail
      refine (unhide HW).mono ?_
      rintro e w6 ⟨rfl, hi6, hk6⟩
      have HI6 := hide hi6
      have HE6 := hide ((unhide HE5).kb hk6)
      have HR6 := hide ((unhide HR5).kb (unhide HI5) hk6)
      have HK6 := hide (kb_trans (unhide HK5) hk6)
      clear hi6 hk6
      go_wp2_with fail
      go_roundw
      case rel =>
        refine ⟨rest, k + 1, [44, 32], A ++ M ++ textE op' n' s' kids, rfl, by go_num, by omega, ?_, by simp, by simp; omega, unhide HI6, unhide HE6, unhide HK6, ?_, (unhide HKT).2.2⟩
        · have h := unhide HAA
          rw [← h]
          simp [tailC]
        · rw [show off + (k + 1) * 4 = off + k * 4 + 4 by omega]
          exact unhide HR6
      case measure => simp [intOf]; omega
end Go.Proofs.YtgdabnkjipcbhaaGreatDoor
