import Derived.Test.YtlnkleicnkfkpaaDoorIe
namespace Go.Proofs.YtlnkleicnkfkpaaDoor
open Go.RowKit Go.Maps

/-- The statements of a list are written. -/
def ListW : SL → Prop
  | .nil => True
  | .cons op f x t e r => WrS op f x t e ∧ (writtenT op f (headT x) (sts t) (sts e)).length + 2 ≤ 2000 * (x.size + t.size + e.size + 1) ∧ ListW r
theorem StIn.kb {w w' : World} {B b : Nat} {xs : List Value} (hI : Lib.IsBuilder 60 5 B b xs w) (hk : Keeps (KB w B b) w w') {l : SL} {g o : Nat} (hx : StIn cpyZ w l g o) : StIn cpyZ w' l g o :=
  hx.keep (Q := fun _ => True) (fun _ _ _ _ => trivial) hk (fun _ _ _ hl hG => cpy_kb hI hk hl hG) trivial

set_option maxRecDepth 100000 in
set_option maxHeartbeats 600000 in
theorem writeList_v (l : SL) (hW : ListW l) (hlen : l.len ≤ 2147483647) : WrL l := by
  intro B b t up v w hE hS hI hl
  obtain ⟨ao, cap, hb, off, rfl, hcap, ha, hx⟩ := hS.open
  have HA := hide ha
  have HX := hide hx
  have HE := hide hE
  have HI := hide hI
  have HW := hide hW
  clear ha hx hE hI hW hS
  go_enter Tryd.func33, Tryd.ntmps33
  go_wp2_with fail
  go_loopw [8] (fun i wr => ∃ (rest : SL) (k : Nat) (A : Txt), i = .int .i64 k ∧ k + rest.len = l.len ∧ A ++ tailS k (sts rest) = t ++ tailS 0 (sts l) ∧ A.length + 2000 * rest.size ≤ t.length + 2000 * l.size + 10 ∧ Lib.IsBuilder 60 5 B b (bs A) wr ∧ Env B b wr ∧ Keeps (KB w B b) w wr ∧ StIn cpyZ wr rest hb (off + k * 5) ∧ ListW rest) (fun i _ => l.len - (intOf i).toNat)
  case atStart => exact ⟨l, 0, t, rfl, by omega, rfl, by omega, unhide HI, unhide HE, Keeps.refl _ _, by simpa using unhide HX, unhide HW⟩
  case round =>
    clear HX HE HI HW
    obtain ⟨rest, k, A, rfl, hkl, hA, hAl, hI, hE, hK, hr, hlw⟩ := hrel
    have HAA := hide hA
    have HI := hide hI
    have HE := hide hE
    have HK := hide hK
    clear hA hI hE hK
    cases rest with
    | nil =>
      simp only [SL.len, SL.size] at hkl hAl
      clear hr hlw
      have i1 : ¬ (k : Int) < (l.len : Int) := by omega
      go_wp2_with fail
      go_end0
      refine ⟨rfl, ?_, unhide HK⟩
      have h : A ++ [] = t ++ tailS 0 (sts l) := unhide HAA
      rw [← h, List.append_nil]
      exact unhide HI
    | cons op f ex th el rest =>
      obtain ⟨h1, h2, h3, h4, ⟨xv, h5, h5s⟩, ⟨ta, tc, h6, h6c, h6s⟩, ⟨ea, ec, h7, h7c, h7s⟩, h9⟩ := hr
      obtain ⟨xa, xc, rfl, _⟩ := h5s.head
      simp only [SL.len, SL.size] at hkl hAl
      obtain ⟨rfl, hp⟩ := (unhide HA) (by omega)
      have HSX := hide h5s
      have HST : Hid (SlS cpyZ wr hb (.slice ta th.len tc) th) := ⟨ta, tc, rfl, h6c, h6s⟩
      have HSE : Hid (SlS cpyZ wr hb (.slice ea el.len ec) el) := ⟨ea, ec, rfl, h7c, h7s⟩
      have HLW := hide hlw
      have hTl := hlw.2.1
      have HR := hide h9
      have i1 : (k : Int) < (l.len : Int) := by omega
      have i0 : (0 : Int) ≤ (k : Int) := by omega
      have hc : tailS k (sts (.cons op f ex th el rest)) = (if k = 0 then writtenT op f (headT ex) (sts th) (sts el) else [59, 32] ++ writtenT op f (headT ex) (sts th) (sts el)) ++ tailS (k + 1) (sts rest) := rfl
      rw [hc] at HAA
      obtain ⟨hk34, hz4, h4b, h4c⟩ := boxA wr #[.int .i64 op, str f, .slice xa ex.len xc, .slice ta th.len tc, .slice ea el.len ec] 51
      have HI4 := hide (ib_keepF (unhide HI) hk34)
      have HE4 := hide ((unhide HE).keepF hk34)
      have HSX4 := hide ((unhide HSX).keepF hk34)
      have HST4 := hide ((unhide HST).keepF hk34)
      have HSE4 := hide ((unhide HSE).keepF hk34)
      have HR4 := hide ((unhide HR).keepF hk34)
      have HK4 : Hid (Keeps (KB w B b) w _) := kb_trans (unhide HK) hk34.any
      have HB4 := hide h4b
      have r0 := h4c 0 (.int .i64 op) rfl
      have r1 := h4c 1 (str f) rfl
      have r2 := h4c 2 (.slice xa ex.len xc) rfl
      have r3 := h4c 3 (.slice ta th.len tc) rfl
      have r4 := h4c 4 (.slice ea el.len ec) rfl
      clear h2 h5s h6s h7s h9 hlw hk34 h4b h4c HI HE HSX HST HSE HR HK hc
      generalize hw4 : wr.alloc (.cells #[.int .i64 op, str f, .slice xa ex.len xc, .slice ta th.len tc, .slice ea el.len ec] 51) = w4 at *
      generalize hT : writtenT op f (headT ex) (sts th) (sts el) = T at *
      by_cases hk0 : k = 0
      · have j0 : ¬ 0 < k := by omega
        have j1 : ¬ (0 : Int) < (k : Int) := by omega
        rw [if_pos hk0] at HAA
        clear hk0
        have HC := hide ((unhide HLW).1 B b A hb hb hb _ _ _ w4 (unhide HE4) (unhide HSX4) (unhide HST4) (unhide HSE4) (unhide HI4) (by omega))
        rw [hT] at HC
        clear hT
        go_wp2_with fail
        clear hw4
        refine (unhide HC).mono ?_
        rintro e w6 ⟨rfl, hi6, hk6⟩
        have HI6 := hide hi6
        have HE6 := hide ((unhide HE4).kb hk6)
        have HR6 := hide ((unhide HR4).kb (unhide HI4) hk6)
        have HK6 := hide (kb_trans (unhide HK4) hk6)
        clear hi6 hk6
        go_wp2_with fail
        go_roundw
        case rel =>
          refine ⟨rest, k + 1, A ++ T, by go_num, by omega, ?_, by simp; omega, unhide HI6, unhide HE6, unhide HK6, ?_, (unhide HLW).2.2⟩
          · rw [List.append_assoc]; exact unhide HAA
          · rw [show off + (k + 1) * 5 = off + k * 5 + 5 by omega]
            exact unhide HR6
        case measure => simp [intOf]; omega
      · have j0 : 0 < k := by omega
        have j1 : (0 : Int) < (k : Int) := by omega
        rw [if_neg hk0] at HAA
        clear hk0
        go_wp2_with fail
        clear hw4
        refine (ws_step (s := [59, 32]) (unhide HK4) (unhide HI4) (by simp; omega) (unhide HE4).size).mono ?_
        rintro e w5 ⟨rfl, hi5, hk45, hk5⟩
        have u0 := box_kb (unhide HI4) hk45 (unhide HB4) (by decide) (by decide) r0
        have u1 := box_kb (unhide HI4) hk45 (unhide HB4) (by decide) (by decide) r1
        have u2 := box_kb (unhide HI4) hk45 (unhide HB4) (by decide) (by decide) r2
        have u3 := box_kb (unhide HI4) hk45 (unhide HB4) (by decide) (by decide) r3
        have u4 := box_kb (unhide HI4) hk45 (unhide HB4) (by decide) (by decide) r4
        have HE5 := hide ((unhide HE4).kb hk45)
        have HR5 := hide ((unhide HR4).kb (unhide HI4) hk45)
        have HI5 := hide hi5
        have HK5 := hide hk5
        have HC := hide ((unhide HLW).1 B b (A ++ [59, 32]) hb hb hb _ _ _ w5 (unhide HE5) ((unhide HSX4).kb (unhide HI4) hk45) ((unhide HST4).kb (unhide HI4) hk45) ((unhide HSE4).kb (unhide HI4) hk45) hi5 (by simp; omega))
        rw [hT] at HC
        clear hi5 hk45 hk5 r0 r1 r2 r3 r4 HI4 HE4 HSX4 HST4 HSE4 HB4 HK4 HR4 hT h3 h4 h5 h6 h7
        go_wp2_with fail
        refine (unhide HC).mono ?_
        rintro e w6 ⟨rfl, hi6, hk6⟩
        have HI6 := hide hi6
        have HE6 := hide ((unhide HE5).kb hk6)
        have HR6 := hide ((unhide HR5).kb (unhide HI5) hk6)
        have HK6 := hide (kb_trans (unhide HK5) hk6)
        clear hi6 hk6
        go_wp2_with fail
        go_roundw
        case rel =>
          refine ⟨rest, k + 1, A ++ [59, 32] ++ T, by go_num, by omega, ?_, by simp; omega, unhide HI6, unhide HE6, unhide HK6, ?_, (unhide HLW).2.2⟩
          · have h := unhide HAA
            rw [← h]
            simp
          · rw [show off + (k + 1) * 5 = off + k * 5 + 5 by omega]
            exact unhide HR6
        case measure => simp [intOf]; omega
end Go.Proofs.YtlnkleicnkfkpaaDoor
