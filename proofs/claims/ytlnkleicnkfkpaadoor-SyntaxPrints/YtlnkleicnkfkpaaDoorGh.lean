import Derived.Test.YtlnkleicnkfkpaaDoorGg
namespace Go.Proofs.YtlnkleicnkfkpaaDoor
open Go.RowKit Go.Maps

set_option maxRecDepth 100000 in
set_option maxHeartbeats 3200000 in
theorem written_v {E : World → Prop} (hL : RLib E) (Z : Zone) (op : Int) (f : Txt) (ex : EL) (th el : SL) (hst : stmtB op f ex th el = true) (hiE : intE ex) (hsz : ex.size ≤ 2147483647) (hlT : tlS th ≤ 1000000000000) (hlE : tlS el ≤ 1000000000000) (w : World) (up : Nat) (xv : Value) (tao eao : Option Addr) (tcap ecap : Nat) (hE : E w) (hT : Tabs w) (hX : SlE Z w up xv ex)
    (hJT : JoinAt w (.slice tao th.len tcap) (tailS 0 (sts th))) (hJE : JoinAt w (.slice eao el.len ecap) (tailS 0 (sts el))) :
    Calls Tryd.prog 45 #[stV op f xv (.slice tao th.len tcap) (.slice eao el.len ecap)] w fun e w' => e = .returned (str (writtenT op f (headT ex) (sts th) (sts el))) ∧ Keeps (fun _ => False) w w' := by
  have hs' : headB op f ex.len th.len el.len = true ∧ wellE ex = true := by
    unfold stmtB at hst
    simp only [Bool.and_eq_true] at hst
    exact ⟨hst.1, hst.2.1⟩
  have hfl := head_name hs'.1
  have hhl := head_le ex hs'.2 hiE
  have hX1 : (headT ex).length ≤ 1000000000000 := by omega
  obtain ⟨xao, xcap, xb, xoff, rfl, hxcap, hxa, hxx⟩ := hX.open
  obtain ⟨HB, hxb, hxc⟩ := boxedT w #[.int .i64 op, str f, .slice xao ex.len xcap, .slice tao th.len tcap, .slice eao el.len ecap] 51
  have c0 := hxc 0 (.int .i64 op) rfl
  have c1 := hxc 1 (str f) rfl
  have c2 := hxc 2 (.slice xao ex.len xcap) rfl
  have c3 := hxc 3 (.slice tao th.len tcap) rfl
  have c4 := hxc 4 (.slice eao el.len ecap) rfl
  have HBT := fun (w' : World) (hk : Keeps (fun _ => False) w w') => hide (braced_v th tao tcap w' (hJT.keepF hk) (by omega))
  have HBE := fun (w' : World) (hk : Keeps (fun _ => False) w w') => hide (braced_v el eao ecap w' (hJE.keepF hk) (by omega))
  have hb1 := brace_le th
  have hb2 := brace_le el
  clear hxc
  by_cases v1 : op = 1
  · subst v1
    have h2 : ex.len = 1 := by
      have h := hs'.1
      simp [headB] at h
      omega
    obtain ⟨o, nn, ss, kk, rfl⟩ := EL.len1 h2
    obtain ⟨rfl, hp⟩ := hxa (by simp [EL.len])
    obtain ⟨a1, a2, a3, a4, a5, ⟨q0, p0, a6, a7, a8⟩, _⟩ := hxx
    have hwr : rootB o nn ss kk.len = true ∧ wellE kk = true := by
      have h := hs'.2
      simp only [wellE, Bool.and_eq_true] at h
      exact ⟨h.1, h.2.1⟩
    have hkz : kk.size ≤ 2147483647 := by simp only [EL.size] at hsz; omega
    have HTX := hide (text_v hL Z (kk.size + 1) kk (by omega) hkz o nn ss hwr.1 hwr.2 hiE.1.1 hiE.1.2 hiE.2.1 _ xb (.slice q0 kk.len p0) (hL.keep hE (unhide HB)) (hT.keepF (unhide HB)) (SlE.keepF ⟨q0, p0, rfl, a7, a8⟩ (unhide HB)))
    have e3 := ((unhide HB).cell a1 id).trans a3
    have e4 := ((unhide HB).cell a1 id).trans a4
    have e5 := ((unhide HB).cell a1 id).trans a5
    have e6 := ((unhide HB).cell a1 id).trans a6
    have el1 : (EL.cons o nn ss kk .nil).len = 1 := rfl
    simp only [el1] at HTX c0 c1 c2 c3 c4 hxb HB e3 e4 e5 e6 ⊢
    have hxt : (textE o nn ss kk).length ≤ 1000000000000 := hX1
    clear hst hs' hiE hX hxa hX1 hhl a2 a3 a4 a5 a6 a7 a8 hwr hJT hJE hE hT h2
    go_enter Tryd.func45, Tryd.ntmps45
    go_wp2_with fail
    refine (unhide HTX).mono ?_
    rintro e w1 ⟨rfl, hk1⟩
    have r0 := (hk1.cell (o := 0) hxb id).trans c0
    have r1 := (hk1.cell (o := 1) hxb id).trans c1
    have r3 := (hk1.cell (o := 3) hxb id).trans c3
    have r4 := (hk1.cell (o := 4) hxb id).trans c4
    have HK1 := hide ((unhide HB).trans hk1)
    have HJ1 := hide hk1
    clear hk1 c0 c1 c2 c3 c4 e3 e4 e5 e6 HTX
    go_wp2_with fail
    go_ret
    refine ⟨congrArg Ending.returned ?_, unhide HK1⟩
    show Value.string (ByteArray.mk f.toArray ++ ByteArray.mk [32, 61, 32].toArray ++ ByteArray.mk (textE o nn ss kk).toArray) = _
    simp only [cat2]
    rfl
  by_cases v2 : op = 2
  · subst v2
    have h2 : ex.len = 1 := by
      have h := hs'.1
      simp [headB] at h
      omega
    obtain ⟨o, nn, ss, kk, rfl⟩ := EL.len1 h2
    obtain ⟨rfl, hp⟩ := hxa (by simp [EL.len])
    obtain ⟨a1, a2, a3, a4, a5, ⟨q0, p0, a6, a7, a8⟩, _⟩ := hxx
    have hwr : rootB o nn ss kk.len = true ∧ wellE kk = true := by
      have h := hs'.2
      simp only [wellE, Bool.and_eq_true] at h
      exact ⟨h.1, h.2.1⟩
    have hkz : kk.size ≤ 2147483647 := by simp only [EL.size] at hsz; omega
    have HTX := hide (text_v hL Z (kk.size + 1) kk (by omega) hkz o nn ss hwr.1 hwr.2 hiE.1.1 hiE.1.2 hiE.2.1 _ xb (.slice q0 kk.len p0) (hL.keep hE (unhide HB)) (hT.keepF (unhide HB)) (SlE.keepF ⟨q0, p0, rfl, a7, a8⟩ (unhide HB)))
    have e3 := ((unhide HB).cell a1 id).trans a3
    have e4 := ((unhide HB).cell a1 id).trans a4
    have e5 := ((unhide HB).cell a1 id).trans a5
    have e6 := ((unhide HB).cell a1 id).trans a6
    have el1 : (EL.cons o nn ss kk .nil).len = 1 := rfl
    simp only [el1] at HTX c0 c1 c2 c3 c4 hxb HB e3 e4 e5 e6 ⊢
    have hxt : (textE o nn ss kk).length ≤ 1000000000000 := hX1
    clear hst hs' hiE hX hxa hX1 hhl a2 a3 a4 a5 a6 a7 a8 hwr hJT hJE hE hT h2
    go_enter Tryd.func45, Tryd.ntmps45
    go_wp2_with fail
    refine (unhide HTX).mono ?_
    rintro e w1 ⟨rfl, hk1⟩
    have r0 := (hk1.cell (o := 0) hxb id).trans c0
    have r1 := (hk1.cell (o := 1) hxb id).trans c1
    have r3 := (hk1.cell (o := 3) hxb id).trans c3
    have r4 := (hk1.cell (o := 4) hxb id).trans c4
    have HK1 := hide ((unhide HB).trans hk1)
    have HJ1 := hide hk1
    clear hk1 c0 c1 c2 c3 c4 e3 e4 e5 e6 HTX
    go_wp2_with fail
    go_ret
    refine ⟨congrArg Ending.returned ?_, unhide HK1⟩
    show Value.string (ByteArray.mk f.toArray ++ ByteArray.mk [32, 43, 61, 32].toArray ++ ByteArray.mk (textE o nn ss kk).toArray) = _
    simp only [cat2]
    rfl
  by_cases v3 : op = 3
  · subst v3
    have h2 : ex.len = 1 := by
      have h := hs'.1
      simp [headB] at h
      omega
    obtain ⟨o, nn, ss, kk, rfl⟩ := EL.len1 h2
    obtain ⟨rfl, hp⟩ := hxa (by simp [EL.len])
    obtain ⟨a1, a2, a3, a4, a5, ⟨q0, p0, a6, a7, a8⟩, _⟩ := hxx
    have hwr : rootB o nn ss kk.len = true ∧ wellE kk = true := by
      have h := hs'.2
      simp only [wellE, Bool.and_eq_true] at h
      exact ⟨h.1, h.2.1⟩
    have hkz : kk.size ≤ 2147483647 := by simp only [EL.size] at hsz; omega
    have HTX := hide (text_v hL Z (kk.size + 1) kk (by omega) hkz o nn ss hwr.1 hwr.2 hiE.1.1 hiE.1.2 hiE.2.1 _ xb (.slice q0 kk.len p0) (hL.keep hE (unhide HB)) (hT.keepF (unhide HB)) (SlE.keepF ⟨q0, p0, rfl, a7, a8⟩ (unhide HB)))
    have e3 := ((unhide HB).cell a1 id).trans a3
    have e4 := ((unhide HB).cell a1 id).trans a4
    have e5 := ((unhide HB).cell a1 id).trans a5
    have e6 := ((unhide HB).cell a1 id).trans a6
    have el1 : (EL.cons o nn ss kk .nil).len = 1 := rfl
    simp only [el1] at HTX c0 c1 c2 c3 c4 hxb HB e3 e4 e5 e6 ⊢
    have hxt : (textE o nn ss kk).length ≤ 1000000000000 := hX1
    clear hst hs' hiE hX hxa hX1 hhl a2 a3 a4 a5 a6 a7 a8 hwr hJT hJE hE hT h2
    go_enter Tryd.func45, Tryd.ntmps45
    go_wp2_with fail
    refine (unhide HTX).mono ?_
    rintro e w1 ⟨rfl, hk1⟩
    have r0 := (hk1.cell (o := 0) hxb id).trans c0
    have r1 := (hk1.cell (o := 1) hxb id).trans c1
    have r3 := (hk1.cell (o := 3) hxb id).trans c3
    have r4 := (hk1.cell (o := 4) hxb id).trans c4
    have HK1 := hide ((unhide HB).trans hk1)
    have HJ1 := hide hk1
    clear hk1 c0 c1 c2 c3 c4 e3 e4 e5 e6 HTX
    go_wp2_with fail
    go_ret
    refine ⟨congrArg Ending.returned ?_, unhide HK1⟩
    show Value.string (ByteArray.mk f.toArray ++ ByteArray.mk [32, 109, 105, 110, 61, 32].toArray ++ ByteArray.mk (textE o nn ss kk).toArray) = _
    simp only [cat2]
    rfl
  by_cases v4 : op = 4
  · subst v4
    have h2 : ex.len = 1 := by
      have h := hs'.1
      simp [headB] at h
      omega
    obtain ⟨o, nn, ss, kk, rfl⟩ := EL.len1 h2
    obtain ⟨rfl, hp⟩ := hxa (by simp [EL.len])
    obtain ⟨a1, a2, a3, a4, a5, ⟨q0, p0, a6, a7, a8⟩, _⟩ := hxx
    have hwr : rootB o nn ss kk.len = true ∧ wellE kk = true := by
      have h := hs'.2
      simp only [wellE, Bool.and_eq_true] at h
      exact ⟨h.1, h.2.1⟩
    have hkz : kk.size ≤ 2147483647 := by simp only [EL.size] at hsz; omega
    have HTX := hide (text_v hL Z (kk.size + 1) kk (by omega) hkz o nn ss hwr.1 hwr.2 hiE.1.1 hiE.1.2 hiE.2.1 _ xb (.slice q0 kk.len p0) (hL.keep hE (unhide HB)) (hT.keepF (unhide HB)) (SlE.keepF ⟨q0, p0, rfl, a7, a8⟩ (unhide HB)))
    have e3 := ((unhide HB).cell a1 id).trans a3
    have e4 := ((unhide HB).cell a1 id).trans a4
    have e5 := ((unhide HB).cell a1 id).trans a5
    have e6 := ((unhide HB).cell a1 id).trans a6
    have el1 : (EL.cons o nn ss kk .nil).len = 1 := rfl
    simp only [el1] at HTX c0 c1 c2 c3 c4 hxb HB e3 e4 e5 e6 ⊢
    have hxt : (textE o nn ss kk).length ≤ 1000000000000 := hX1
    clear hst hs' hiE hX hxa hX1 hhl a2 a3 a4 a5 a6 a7 a8 hwr hJT hJE hE hT h2
    go_enter Tryd.func45, Tryd.ntmps45
    go_wp2_with fail
    refine (unhide HTX).mono ?_
    rintro e w1 ⟨rfl, hk1⟩
    have r0 := (hk1.cell (o := 0) hxb id).trans c0
    have r1 := (hk1.cell (o := 1) hxb id).trans c1
    have r3 := (hk1.cell (o := 3) hxb id).trans c3
    have r4 := (hk1.cell (o := 4) hxb id).trans c4
    have HK1 := hide ((unhide HB).trans hk1)
    have HJ1 := hide hk1
    clear hk1 c0 c1 c2 c3 c4 e3 e4 e5 e6 HTX
    go_wp2_with fail
    go_ret
    refine ⟨congrArg Ending.returned ?_, unhide HK1⟩
    show Value.string (ByteArray.mk f.toArray ++ ByteArray.mk [32, 109, 97, 120, 61, 32].toArray ++ ByteArray.mk (textE o nn ss kk).toArray) = _
    simp only [cat2]
    rfl
  by_cases v8 : op = 8
  · subst v8
    have h2 : ex.len = 1 := by
      have h := hs'.1
      simp [headB] at h
      omega
    obtain ⟨o, nn, ss, kk, rfl⟩ := EL.len1 h2
    obtain ⟨rfl, hp⟩ := hxa (by simp [EL.len])
    obtain ⟨a1, a2, a3, a4, a5, ⟨q0, p0, a6, a7, a8⟩, _⟩ := hxx
    have hwr : rootB o nn ss kk.len = true ∧ wellE kk = true := by
      have h := hs'.2
      simp only [wellE, Bool.and_eq_true] at h
      exact ⟨h.1, h.2.1⟩
    have hkz : kk.size ≤ 2147483647 := by simp only [EL.size] at hsz; omega
    have HTX := hide (text_v hL Z (kk.size + 1) kk (by omega) hkz o nn ss hwr.1 hwr.2 hiE.1.1 hiE.1.2 hiE.2.1 _ xb (.slice q0 kk.len p0) (hL.keep hE (unhide HB)) (hT.keepF (unhide HB)) (SlE.keepF ⟨q0, p0, rfl, a7, a8⟩ (unhide HB)))
    have e3 := ((unhide HB).cell a1 id).trans a3
    have e4 := ((unhide HB).cell a1 id).trans a4
    have e5 := ((unhide HB).cell a1 id).trans a5
    have e6 := ((unhide HB).cell a1 id).trans a6
    have el1 : (EL.cons o nn ss kk .nil).len = 1 := rfl
    simp only [el1] at HTX c0 c1 c2 c3 c4 hxb HB e3 e4 e5 e6 ⊢
    have hxt : (textE o nn ss kk).length ≤ 1000000000000 := hX1
    clear hst hs' hiE hX hxa hX1 hhl a2 a3 a4 a5 a6 a7 a8 hwr hJT hJE hE hT h2
    go_enter Tryd.func45, Tryd.ntmps45
    go_wp2_with fail
    refine (unhide HTX).mono ?_
    rintro e w1 ⟨rfl, hk1⟩
    have r0 := (hk1.cell (o := 0) hxb id).trans c0
    have r1 := (hk1.cell (o := 1) hxb id).trans c1
    have r3 := (hk1.cell (o := 3) hxb id).trans c3
    have r4 := (hk1.cell (o := 4) hxb id).trans c4
    have HK1 := hide ((unhide HB).trans hk1)
    have HJ1 := hide hk1
    have y4 := c4
    clear hk1 c0 c1 c2 c3 c4 e3 e4 e5 e6 HTX
    go_wp2_with fail
    refine (unhide (HBT w1 (unhide HK1))).mono ?_
    rintro e w2 ⟨rfl, hk2⟩
    have s4 := (((unhide HJ1).trans hk2).cell (o := 4) hxb id).trans y4
    have HK2 := hide ((unhide HK1).trans hk2)
    have HEB := HBE w2 (unhide HK2)
    have hn0 : (sts el = []) = (el.len = 0) := sts_nil el
    have HW : Hid (writtenT 8 f (textE o nn ss kk) (sts th) (sts el) = [105, 102, 32] ++ textE o nn ss kk ++ [32] ++ braceT (sts th) ++ (if sts el = [] then [] else [32, 101, 108, 115, 101, 32] ++ braceT (sts el))) := rfl
    have HE0 : Hid (el.len = 0 → sts el = []) := fun h => by rw [hn0]; exact h
    have HE1 : Hid (el.len ≠ 0 → sts el ≠ []) := fun h h' => h (by rw [hn0] at h'; exact h')
    have hX2 := hxt
    generalize braceT (sts th) = BT at hb1 HW ⊢
    generalize braceT (sts el) = BE at hb2 HW HEB ⊢
    generalize hTX : textE o nn ss kk = X at hX2 HW ⊢
    clear hk2 HBT HBE r0 r1 r3 r4 hn0
    by_cases hz : el.len = 0
    · have hz0 : ¬ (0 : Int) < (el.len : Int) := by omega
      go_wp2_with fail
      go_ret
      refine ⟨congrArg Ending.returned ?_, unhide HK2⟩
      show Value.string (ByteArray.mk [105, 102, 32].toArray ++ ByteArray.mk X.toArray ++ ByteArray.mk [32].toArray ++ ByteArray.mk BT.toArray) = _
      have hw := unhide HW
      rw [if_pos ((unhide HE0) hz), List.append_nil] at hw
      simp only [cat2]
      have hh : headT (.cons o nn ss kk .nil) = X := hTX
      rw [hh]
      exact congrArg str hw.symm
    · have hz0 : (0 : Int) < (el.len : Int) := by omega
      go_wp2_with fail
      refine (unhide HEB).mono ?_
      rintro e w3 ⟨rfl, hk3⟩
      go_wp2_with fail
      go_ret
      refine ⟨congrArg Ending.returned ?_, (unhide HK2).trans hk3⟩
      show Value.string (ByteArray.mk [105, 102, 32].toArray ++ ByteArray.mk X.toArray ++ ByteArray.mk [32].toArray ++ ByteArray.mk BT.toArray ++ ByteArray.mk [32, 101, 108, 115, 101, 32].toArray ++ ByteArray.mk BE.toArray) = _
      have hw := unhide HW
      rw [if_neg ((unhide HE1) hz)] at hw
      simp only [cat2]
      refine congrArg str ?_
      have hh : headT (.cons o nn ss kk .nil) = X := hTX
      rw [hh]
      simpa using hw.symm
  by_cases v5 : op = 5
  · subst v5
    have h2 : ex.len = 0 := by
      have h := hs'.1
      simp [headB] at h
      omega
    rw [h2] at HB c0 c1 c2 c3 c4 hxb ⊢
    clear hst hs' hiE hX hxa hxx hX1 hhl hJT hJE hE hT h2
    go_enter Tryd.func45, Tryd.ntmps45
    go_wp2_with fail
    go_ret
    refine ⟨congrArg Ending.returned ?_, unhide HB⟩
    show Value.string (ByteArray.mk [99, 108, 101, 97, 114, 32].toArray ++ ByteArray.mk f.toArray) = _
    simp only [cat2]
    rfl
  by_cases v6 : op = 6
  · subst v6
    have h2 : ex.len = 0 := by
      have h := hs'.1
      simp [headB] at h
      omega
    rw [h2] at HB c0 c1 c2 c3 c4 hxb ⊢
    clear hst hs' hiE hX hxa hxx hX1 hhl hJT hJE hE hT h2
    go_enter Tryd.func45, Tryd.ntmps45
    go_wp2_with fail
    go_ret
    refine ⟨congrArg Ending.returned ?_, unhide HB⟩
    rfl
  by_cases v7 : op = 7
  · subst v7
    have h2 : ex.len = 0 := by
      have h := hs'.1
      simp [headB] at h
      omega
    rw [h2] at HB c0 c1 c2 c3 c4 hxb ⊢
    clear hst hs' hiE hX hxa hxx hX1 hhl hJT hJE hE hT h2
    go_enter Tryd.func45, Tryd.ntmps45
    go_wp2_with fail
    go_ret
    refine ⟨congrArg Ending.returned ?_, unhide HB⟩
    rfl
  exfalso
  have h := hs'.1
  unfold headB at h
  rw [if_neg (by omega), if_neg (by omega), if_neg (by omega), if_neg (by omega)] at h
  cases h
end Go.Proofs.YtlnkleicnkfkpaaDoor
