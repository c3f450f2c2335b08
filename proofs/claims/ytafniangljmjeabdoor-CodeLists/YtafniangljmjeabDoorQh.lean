import Derived.Test.YtafniangljmjeabDoorQg
import Derived.Test.YtafniangljmjeabDoorVl
namespace Go.Proofs.YtafniangljmjeabDoor
open Go.RowKit Go.Maps
/-- The reference's table of words. -/
structure Wds (w : World) : Prop where
  lt : 1 < w.heap.size
  cell : ∀ m : Nat, m < 27 → w.cell? ⟨1, m, none⟩ = some (str (opA (m : Int)).word)
theorem Wds.keepF {w w' : World} (h : Wds w) (hk : Keeps (fun _ => False) w w') : Wds w' := ⟨Nat.lt_of_lt_of_le h.lt hk.size, fun m hm => (hk.cell h.lt id).trans (h.cell m hm)⟩
set_option maxRecDepth 100000 in
set_option maxHeartbeats 4000000 in
theorem refList_v (l : List ValA) (v : Value) (w : World) (hW : Wds w) (hP : Pow w) (h : ValsAt w v l) (hI : InR l) :
    Calls Tryd.prog 17 #[v] w fun e w' => e = .returned (.tuple #[str (listA l).1, .int .i64 (listA l).2]) ∧ Keeps (fun _ => False) w w' := by
  obtain ⟨ao, cap, rfl⟩ := RowAt.form h
  have HQ := hide (refEncode_v l _ w h hI)
  have HV := hide h
  have HP := hide hP
  have HWD := hide hW
  have HI := hide hI
  have HZ := hide (fun q => encC_zero (l := l) q)
  have HL : Hid (listA l = if (encC l).2 = 0 then (linesA 0 l, 0) else ([], (encC l).2)) := rfl
  generalize listA l = R at *
  generalize encC l = EC at *
  obtain ⟨eb, ee⟩ := EC
  simp only at *
  clear h hW hP hI
  go_enter Tryd.func17, Tryd.ntmps17
  go_wp2_with fail
  refine (unhide HQ).mono ?_
  rintro e w1 ⟨b1, rfl, ho1, hk1⟩
  have HK1 := hide hk1
  clear ho1 HQ
  by_cases hee : ee = 0
  · obtain ⟨hl96, hF⟩ := (unhide HZ) hee
    have HR : Hid (R = (linesA 0 l, 0)) := by show _ = _; rw [unhide HL, if_pos hee]
    have HF := hide hF
    subst hee
    have HW1 := hide ((unhide HWD).keepF hk1)
    have HV1 := hide ((unhide HV).keepF hk1)
    have HP1 := hide ((unhide HP).keepF hk1)
    clear HL HZ hF hk1 HV HP HWD
    go_wp2_with fail
    go_loopw [6, 7] (fun s i wr => ∃ (k : Nat) (t : Txt), k ≤ l.length ∧ i = .int .i64 k ∧ s = str t ∧ Hid (t ++ linesA k (l.drop k) = linesA 0 l) ∧ t.length ≤ k * 200 ∧ Keeps (fun _ => False) w1 wr) (fun _ i _ => l.length - (intOf i).toNat)
    case atStart => exact ⟨0, [], Nat.zero_le _, rfl, rfl, by simp [Hid], by simp, Keeps.refl _ _⟩
    case round =>
      obtain ⟨k, t, hk, rfl, rfl, HS, htl, hkp⟩ := hrel
      by_cases hlt : k < l.length
      · obtain ⟨x, hx⟩ : ∃ x, l[k]? = some x := ⟨_, List.getElem?_eq_getElem hlt⟩
        have hf := (unhide HF) x (List.mem_of_getElem? hx)
        have hn := (unhide HI) x (List.mem_of_getElem? hx)
        have ho := (formB_zero hf).1
        obtain ⟨o1, o2⟩ := opdB_range ho
        have hwl := word_len _ (op_cases ho)
        have hol := opTxt_len k x hf (by omega) hn.1 hn.2
        have hdl := decimal_len (k : Int) (by omega) (by omega)
        have hs := form_s hf
        have HXS := hide hs
        have hjj := form_jump hf
        have hoc := opd_cases ho
        obtain ⟨vb, off, c, ee, hbl, hc⟩ := (unhide HV1).cells (by omega)
        simp at ee
        obtain ⟨rfl, rfl⟩ := ee
        have c0 := (hkp.cell hbl id).trans (hc k x hx).1
        have c1 := (hkp.cell hbl id).trans (hc k x hx).2.1
        have c2 := (hkp.cell hbl id).trans (hc k x hx).2.2
        have hbr := Nat.lt_of_lt_of_le hbl hkp.size
        have HD := hide (linesA_drop hx)
        have HLT : Hid (lineT k x = decimal (k : Int) ++ [32] ++ (opA x.kind).word ++ opTxt k x ++ [10]) := rfl
        have HOT : Hid (opTxt k x = if (opA x.kind).opd = 0 then [] else if (opA x.kind).opd = 2 then 32 :: quoteB x.s else if (opA x.kind).opd = 6 then 32 :: decimal ((k + 1 + x.n.toNat : Nat) : Int) else 32 :: decimal x.n) := rfl
        have HKP := hide hkp
        have hdx := (Keeps.refl (fun _ => False) wr).drew
        have HQ1 := hide (itoa_v (k : Int) (by omega) (by omega) wr.drew ((unhide HP1).keepF (hkp.trans hdx)))
        have HQT := hide (fun (W : World) (hW : Keeps (fun _ => False) w1 W) (n0 : 0 ≤ x.n) (n1 : x.n ≤ 255) => refTarget_v l (.slice (some ⟨vb, off, none⟩) l.length cap) W ((unhide HV1).keepF hW) k x hx hl96 n0 n1)
        have HQQ := hide (fun (W : World) => quote_any x.s W (by omega))
        have HQF := hide (fun (W : World) (hW : Keeps (fun _ => False) w1 W) => formatInt_v x.n hn.1 hn.2 W ((unhide HP1).keepF hW))
        have HQI := hide (fun (n : Int) (W : World) (hW : Keeps (fun _ => False) w1 W) (q0 : -9223372036854775808 ≤ n) (q1 : n ≤ 9223372036854775807) => itoa_v n q0 q1 W ((unhide HP1).keepF hW))
        have hql := quoteB_len x.s
        have hfl := decimal_len x.n hn.1 hn.2
        obtain ⟨m, hm⟩ := Int.eq_ofNat_of_zero_le (show 0 ≤ x.kind by omega)
        have g0 := ((unhide HW1).keepF hkp).cell m (by omega)
        have hzo := ((unhide HW1).keepF hkp).lt
        have i2 : (k : Int) < (l.length : Int) := by omega
        have i0' : (0 : Int) ≤ (k : Int) := by omega
        have j0 : (0 : Int) ≤ (m : Int) := by omega
        have j1 : (m : Int) < 27 := by omega
        have HSS : Hid (linesA 0 l = t ++ (lineT k x ++ linesA (k + 1) (l.drop (k + 1)))) := by show _ = _; rw [← unhide HS, unhide HD]
        generalize lineT k x = LT at *
        generalize opTxt k x = OT at *
        have HTGT : Hid (k + 1 + x.n.toNat = k + 1 + x.n.toNat) := rfl
        obtain ⟨TG, hTG⟩ : ∃ TG : Nat, k + 1 + x.n.toNat = TG := ⟨_, rfl⟩
        rw [hTG] at HQT HOT
        obtain ⟨xk, xn, xs⟩ := x
        simp only at hm
        subst hm
        simp only at *
        have hTGb : xn ≤ 255 → TG ≤ 9000 := by intro q; omega
        clear hTG HTGT
        generalize (opA (m : Int)).word = WD at *
        generalize (opA (m : Int)).opd = OP at *
        have HOB := hide (operand_v (m : Int))
        generalize opdB (m : Int) = OB at *
        generalize decimal (k : Int) = DK at *
        have HE : Hid ((t ++ (DK ++ [32] ++ WD ++ OT ++ [10])) ++ linesA (k + 1) (l.drop (k + 1)) = linesA 0 l) := by
          show _ = _
          rw [unhide HSS, unhide HLT, List.append_assoc]
        have n1 : ¬ 9223372036854775807 < t.length + DK.length := by omega
        have n2 : ¬ 9223372036854775807 < t.length + (DK.length + 1) := by omega
        have n2' : ¬ 9223372036854775807 < t.length + DK.length + 1 := by omega
        have n3 : ¬ 9223372036854775807 < t.length + (DK.length + (WD.length + 1)) := by omega
        have n3' : ¬ 9223372036854775807 < t.length + DK.length + 1 + WD.length := by omega
        have n3'' : ¬ 9223372036854775807 < t.length + (DK.length + 1) + WD.length := by omega
        clear hc hx hkp hf hn ho o1 o2 hs HS HD HLT HSS
        go_wp2_with fail
        go_region_held3 (fun w' => w'.cell? ⟨vb, off + k * 3, none⟩ = some (.int .i64 (m : Int)) ∧ w'.cell? ⟨1, m, none⟩ = some (str WD))
          (go_keep)
          (first
            | (go_at_call 25
               refine (unhide HQ1).mono ?_
               rintro e w3 ⟨rfl, hk3⟩
               have t0 := (hk3.cell (o := off + k * 3) hbr id).trans c0
               have t3 := (hk3.cell (o := m) hzo id).trans g0))
        have hU : (({ data := t.toArray } : ByteArray) ++ { data := DK.toArray } ++ { data := #[32] } ++ { data := WD.toArray }) = ⟨(t ++ DK ++ [32] ++ WD).toArray⟩ := rfl
        rw [hU]
        have HU : Hid (∃ U, t ++ DK ++ [32] ++ WD = U) := ⟨_, rfl⟩
        obtain ⟨U, hUe⟩ := unhide HU
        have hUl : U.length ≤ t.length + 40 := by rw [← hUe]; simp only [List.length_append, List.length_cons, List.length_nil]; omega
        rw [hUe]
        have HUE := hide hUe
        have HK3 := hide (((unhide HKP).trans hdx).trans hk3)
        have x1 := (hk3.cell (o := off + k * 3 + 1) hbr id).trans c1
        have x2 := (hk3.cell (o := off + k * 3 + 2) hbr id).trans c2
        have HEU : Hid (∀ O : Txt, t ++ (DK ++ [32] ++ WD ++ O ++ [10]) = U ++ O ++ [10]) := fun O => by rw [← unhide HUE]; simp
        have HOB3 := hide ((unhide HOB) w3)
        clear hU hUe HU hk3 HQ1 HOB n1 n2 n2' n3 n3' n3''
        go_wp2_with fail
        refine (unhide HOB3).mono ?_
        rintro e w4 ⟨rfl, rfl⟩
        clear HOB3
        have m1 : ¬ 9223372036854775807 < U.length + 1 := by omega
        rcases hoc with ⟨rfl, rfl⟩ | ⟨rfl, rfl⟩ | ⟨rfl, rfl⟩ | ⟨rfl, rfl⟩ | ⟨rfl, rfl⟩ | ⟨rfl, rfl⟩ | ⟨rfl, rfl⟩
        · have HOE : Hid (OT = []) := by show _ = _; rw [unhide HOT]; rfl
          have HKX := HK3
          clear HOT HQT HQQ HQF HQI
          go_wp2_with fail
          go_roundw
          case rel => exact ⟨k + 1, t ++ (DK ++ [32] ++ WD ++ OT ++ [10]), by omega, by go_num, by rw [(unhide HEU) OT, unhide HOE]; first | rfl | (rw [List.append_nil]; rfl) | (rw [show U ++ 32 :: T ++ [10] = U ++ [32] ++ T ++ [10] by simp]; rfl), HE, by simp only [List.length_append, List.length_cons, List.length_nil]; omega, unhide HKX⟩
          case measure => simp [intOf]; omega
        · have HOE : Hid (OT = 32 :: decimal xn) := by show _ = _; rw [unhide HOT]; rfl
          have HQ := hide ((unhide HQF) w4 (unhide HK3))
          generalize decimal xn = T at *
          have m2 : ¬ 9223372036854775807 < U.length + 1 + T.length := by omega
          have m3 : ¬ 9223372036854775807 < U.length + 1 + T.length + 1 := by omega
          clear HOT HQT HQQ HQF HQI
          go_wp2_with fail
          refine (unhide HQ).mono ?_
          rintro e w5 ⟨rfl, hk5⟩
          have HKX := hide ((unhide HK3).trans hk5)
          clear hk5 HQ
          go_wp2_with fail
          go_roundw
          case rel => exact ⟨k + 1, t ++ (DK ++ [32] ++ WD ++ OT ++ [10]), by omega, by go_num, by rw [(unhide HEU) OT, unhide HOE]; first | rfl | (rw [List.append_nil]; rfl) | (rw [show U ++ 32 :: T ++ [10] = U ++ [32] ++ T ++ [10] by simp]; rfl), HE, by simp only [List.length_append, List.length_cons, List.length_nil]; omega, unhide HKX⟩
          case measure => simp [intOf]; omega
        · have HOE : Hid (OT = 32 :: quoteB xs) := by show _ = _; rw [unhide HOT]; rfl
          have HQ := hide ((unhide HQQ) w4)
          generalize quoteB xs = T at *
          have hTl : T.length ≤ 82 := by have := unhide HXS; omega
          have m2 : ¬ 9223372036854775807 < U.length + 1 + T.length := by omega
          have m3 : ¬ 9223372036854775807 < U.length + 1 + T.length + 1 := by omega
          clear HOT HQT HQQ HQF HQI
          go_wp2_with fail
          refine (unhide HQ).mono ?_
          rintro e w5 ⟨rfl, hk5⟩
          have HKX := hide ((unhide HK3).trans hk5)
          clear hk5 HQ
          go_wp2_with fail
          go_roundw
          case rel => exact ⟨k + 1, t ++ (DK ++ [32] ++ WD ++ OT ++ [10]), by omega, by go_num, by rw [(unhide HEU) OT, unhide HOE]; first | rfl | (rw [List.append_nil]; rfl) | (rw [show U ++ 32 :: T ++ [10] = U ++ [32] ++ T ++ [10] by simp]; rfl), HE, by simp only [List.length_append, List.length_cons, List.length_nil]; omega, unhide HKX⟩
          case measure => simp [intOf]; omega
        · have HOE : Hid (OT = 32 :: decimal xn) := by show _ = _; rw [unhide HOT]; rfl
          have HQ := hide ((unhide HQF) w4 (unhide HK3))
          generalize decimal xn = T at *
          have m2 : ¬ 9223372036854775807 < U.length + 1 + T.length := by omega
          have m3 : ¬ 9223372036854775807 < U.length + 1 + T.length + 1 := by omega
          clear HOT HQT HQQ HQF HQI
          go_wp2_with fail
          refine (unhide HQ).mono ?_
          rintro e w5 ⟨rfl, hk5⟩
          have HKX := hide ((unhide HK3).trans hk5)
          clear hk5 HQ
          go_wp2_with fail
          go_roundw
          case rel => exact ⟨k + 1, t ++ (DK ++ [32] ++ WD ++ OT ++ [10]), by omega, by go_num, by rw [(unhide HEU) OT, unhide HOE]; first | rfl | (rw [List.append_nil]; rfl) | (rw [show U ++ 32 :: T ++ [10] = U ++ [32] ++ T ++ [10] by simp]; rfl), HE, by simp only [List.length_append, List.length_cons, List.length_nil]; omega, unhide HKX⟩
          case measure => simp [intOf]; omega
        · have HOE : Hid (OT = 32 :: decimal xn) := by show _ = _; rw [unhide HOT]; rfl
          have HQ := hide ((unhide HQF) w4 (unhide HK3))
          generalize decimal xn = T at *
          have m2 : ¬ 9223372036854775807 < U.length + 1 + T.length := by omega
          have m3 : ¬ 9223372036854775807 < U.length + 1 + T.length + 1 := by omega
          clear HOT HQT HQQ HQF HQI
          go_wp2_with fail
          refine (unhide HQ).mono ?_
          rintro e w5 ⟨rfl, hk5⟩
          have HKX := hide ((unhide HK3).trans hk5)
          clear hk5 HQ
          go_wp2_with fail
          go_roundw
          case rel => exact ⟨k + 1, t ++ (DK ++ [32] ++ WD ++ OT ++ [10]), by omega, by go_num, by rw [(unhide HEU) OT, unhide HOE]; first | rfl | (rw [List.append_nil]; rfl) | (rw [show U ++ 32 :: T ++ [10] = U ++ [32] ++ T ++ [10] by simp]; rfl), HE, by simp only [List.length_append, List.length_cons, List.length_nil]; omega, unhide HKX⟩
          case measure => simp [intOf]; omega
        · have HOE : Hid (OT = 32 :: decimal xn) := by show _ = _; rw [unhide HOT]; rfl
          have HQ := hide ((unhide HQF) w4 (unhide HK3))
          generalize decimal xn = T at *
          have m2 : ¬ 9223372036854775807 < U.length + 1 + T.length := by omega
          have m3 : ¬ 9223372036854775807 < U.length + 1 + T.length + 1 := by omega
          clear HOT HQT HQQ HQF HQI
          go_wp2_with fail
          refine (unhide HQ).mono ?_
          rintro e w5 ⟨rfl, hk5⟩
          have HKX := hide ((unhide HK3).trans hk5)
          clear hk5 HQ
          go_wp2_with fail
          go_roundw
          case rel => exact ⟨k + 1, t ++ (DK ++ [32] ++ WD ++ OT ++ [10]), by omega, by go_num, by rw [(unhide HEU) OT, unhide HOE]; first | rfl | (rw [List.append_nil]; rfl) | (rw [show U ++ 32 :: T ++ [10] = U ++ [32] ++ T ++ [10] by simp]; rfl), HE, by simp only [List.length_append, List.length_cons, List.length_nil]; omega, unhide HKX⟩
          case measure => simp [intOf]; omega
        · have hnn := hjj rfl
          have HOE : Hid (OT = 32 :: decimal ((TG : Nat) : Int)) := by show _ = _; rw [unhide HOT]; rfl
          have HQ := hide ((unhide HQT) w4 (unhide HK3) hnn.1 hnn.2)
          have hT9 := hTGb hnn.2
          have hTd := decimal_len (TG : Int) (by omega) (by omega)
          have HQI2 := hide (fun (W : World) (hW : Keeps (fun _ => False) w1 W) => (unhide HQI) (TG : Int) W hW (by omega) (by omega))
          generalize decimal (TG : Int) = T at *
          have m2 : ¬ 9223372036854775807 < U.length + 1 + T.length := by omega
          have m3 : ¬ 9223372036854775807 < U.length + 1 + T.length + 1 := by omega
          clear HOT HQT HQQ HQF HQI
          go_wp2_with fail
          refine (unhide HQ).mono ?_
          rintro e w5 ⟨rfl, hk5⟩
          have HQJ := hide ((unhide HQI2) w5 ((unhide HK3).trans hk5))
          have HK5 := hide ((unhide HK3).trans hk5)
          clear hk5 HQ HQI2
          go_wp2_with fail
          refine (unhide HQJ).mono ?_
          rintro e w6 ⟨rfl, hk6⟩
          have HKX := hide ((unhide HK5).trans hk6)
          clear hk6 HQJ
          go_wp2_with fail
          go_roundw
          case rel => exact ⟨k + 1, t ++ (DK ++ [32] ++ WD ++ OT ++ [10]), by omega, by go_num, by rw [(unhide HEU) OT, unhide HOE]; first | rfl | (rw [List.append_nil]; rfl) | (rw [show U ++ 32 :: T ++ [10] = U ++ [32] ++ T ++ [10] by simp]; rfl), HE, by simp only [List.length_append, List.length_cons, List.length_nil]; omega, unhide HKX⟩
          case measure => simp [intOf]; omega
      · obtain rfl : k = l.length := by omega
        have i2 : ¬ (l.length : Int) < (l.length : Int) := by omega
        have HE : Hid (t = linesA 0 l) := by
          show _ = _
          rw [← unhide HS, List.drop_length, linesA, List.append_nil]
        have HKP := hide hkp
        clear hlt hkp HS
        go_wp2_with fail
        go_ret2
        rw [unhide HR, unhide HE]
        exact ⟨rfl, (unhide HK1).trans (unhide HKP)⟩
  · have be : (ee != 0) = true := by rw [bne_iff_ne]; exact hee
    have HR : Hid (R = ([], ee)) := by show _ = _; rw [unhide HL, if_neg hee]
    clear HL HZ hee
    go_wp2_with fail
    go_ret2
    rw [unhide HR]
    exact ⟨rfl, unhide HK1⟩

end Go.Proofs.YtafniangljmjeabDoor
