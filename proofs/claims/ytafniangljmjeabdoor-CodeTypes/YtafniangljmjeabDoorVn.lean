import Derived.Test.YtafniangljmjeabDoorVm
namespace Go.Proofs.YtafniangljmjeabDoor
open Go.RowKit Go.Maps
def soundA (S : List FieldA) (l : List ValA) : Nat × Int := if errS S ≠ 0 then (0, 60) else if (checkI S l).2 ≠ 0 then checkI S l else checkT l
theorem fitE_scan {S : List FieldA} {l : List ValA} {k : Nat} {x : ValA} (h : l[k]? = some x) : scanI S k (l.drop k) = if fitE S x ≠ 0 then some (k, fitE S x) else scanI S (k + 1) (l.drop (k + 1)) := by
  rw [scanI_drop h]
  unfold fitE
  by_cases h1 : formB x = 0
  · rw [if_neg (show ¬ formB x ≠ 0 from fun q => q h1), if_neg (show ¬ formB x ≠ 0 from fun q => q h1)]
    cases rightF S x <;> simp
  · rw [if_pos (show formB x ≠ 0 from h1), if_pos (show formB x ≠ 0 from h1), if_pos h1]
set_option maxRecDepth 100000 in
set_option maxHeartbeats 4000000 in
theorem sound_v (S : List FieldA) (so : Option Addr) (sc : Nat) (l : List ValA) (v : Value) (w : World) (hS : FldsAt w (.slice so S.length sc) S) (h : ValsAt w v l) (hI : InR l) :
    Calls Tryd.prog 21 #[.agg #[.slice so S.length sc], v] w fun e w' => e = .returned (.tuple #[.int .i64 ((soundA S l).1 : Int), .int .i64 (soundA S l).2]) ∧ Keeps (fun _ => False) w w' := by
  obtain ⟨ao, cap, rfl⟩ := RowAt.form h
  obtain ⟨HB, hbb, hbc⟩ := boxed w #[.slice so S.length sc] 24
  have s0 := hbc 0 (.slice so S.length sc) rfl
  have HS := hide (hS.keepF (unhide HB))
  have HV := hide (h.keepF (unhide HB))
  have HI := hide hI
  have HL : Hid (soundA S l = if errS S ≠ 0 then (0, 60) else if (checkI S l).2 ≠ 0 then checkI S l else checkT l) := rfl
  generalize soundA S l = R at *
  have HQ := hide (checkSchema_any S _ _ (unhide HS))
  generalize hWb : w.alloc (.cells #[.slice so S.length sc] 24) = Wb at *
  clear hbc h hS hI
  go_enter Tryd.func21, Tryd.ntmps21
  go_wp2_with fail
  refine (unhide HQ).mono ?_
  rintro e w1 ⟨rfl, hk1⟩
  have s1 := (hk1.cell hbb id).trans s0
  have hb1 := Nat.lt_of_lt_of_le hbb hk1.size
  have HK1 := hide ((unhide HB).trans hk1)
  have HS1 := hide ((unhide HS).keepF hk1)
  have HV1 := hide ((unhide HV).keepF hk1)
  clear hk1 HQ HS HV s0 hbb hWb
  by_cases he : errS S = 0
  · rw [he]
    rw [if_neg (show ¬ errS S ≠ 0 from fun q => q he)] at HL
    by_cases h96 : 96 < l.length
    · have i1 : (96 : Int) < (l.length : Int) := by omega
      rw [checkI_long h96] at HL
      have HE : Hid (R = (l.length, 110)) := unhide HL
      clear HL he
      go_wp2_with fail
      go_ret2
      rw [unhide HE]
      exact ⟨rfl, unhide HK1⟩
    · have hl : l.length ≤ 96 := by omega
      have i1 : ¬ (96 : Int) < (l.length : Int) := by omega
      have HCS := hide (fun p q => checkI_some (S := S) (l := l) (p := p) hl q)
      have HCB := hide (fun q1 q2 => checkI_big (S := S) (l := l) hl q1 q2)
      have HCO := hide (fun q1 q2 => checkI_ok (S := S) (l := l) hl q1 q2)
      generalize checkI S l = CI at *
      clear he h96
      go_wp2_with fail
      go_loopw [6] (fun i wr => ∃ k : Nat, k ≤ l.length ∧ i = .int .i64 k ∧ Hid (scanI S 0 l = scanI S k (l.drop k)) ∧ Keeps (fun _ => False) w1 wr) (fun i _ => l.length - (intOf i).toNat)
      case atStart => exact ⟨0, Nat.zero_le _, rfl, by simp [Hid], Keeps.refl _ _⟩
      case round =>
        obtain ⟨k, hk, rfl, HS0, hkp⟩ := hrel
        have s2 := (hkp.cell hb1 id).trans s1
        have hb2 := Nat.lt_of_lt_of_le hb1 hkp.size
        have HK2 := hide ((unhide HK1).trans hkp)
        have HS2 := hide ((unhide HS1).keepF hkp)
        have HV2 := hide ((unhide HV1).keepF hkp)
        by_cases hlt : k < l.length
        · obtain ⟨x, hx⟩ : ∃ x, l[k]? = some x := ⟨_, List.getElem?_eq_getElem hlt⟩
          obtain ⟨b, off, c, e, hbl, hc⟩ := (unhide HV2).cells (by omega)
          simp at e
          obtain ⟨rfl, rfl⟩ := e
          have c0 := (hc k x hx).1
          have c1 := (hc k x hx).2.1
          have c2 := (hc k x hx).2.2
          have HD := hide (fitE_scan (S := S) hx)
          have HF := hide (refFits_v S so sc x wr.drew ((unhide HS2).keepF (Keeps.refl _ wr).drew))
          unfold ValA.v at HF
          generalize fitE S x = FE at *
          have i2 : (k : Int) < (l.length : Int) := by omega
          have i0' : (0 : Int) ≤ (k : Int) := by omega
          have HKP := hide (hkp.trans (Keeps.refl _ wr).drew)
          clear hc hx hkp
          go_wp2_with fail
          go_region_held3 (fun w' => w'.cell? ⟨w.heap.size, 0, none⟩ = some (.slice so S.length sc) ∧ w'.cell? ⟨b, off + k * 3, none⟩ = some (.int .i64 x.kind) ∧ w'.cell? ⟨b, off + k * 3 + 1, none⟩ = some (.int .i64 x.n) ∧ w'.cell? ⟨b, off + k * 3 + 2, none⟩ = some (str x.s))
            (go_keep)
            (first
              | (go_at_call 40
                 refine (unhide HF).mono ?_
                 rintro e w3 ⟨rfl, hk3⟩
                 have q0 := (hk3.cell (o := 0) hb2 id).trans s2
                 have q1 := (hk3.cell hbl id).trans c0
                 have q2 := (hk3.cell hbl id).trans c1
                 have q3 := (hk3.cell hbl id).trans c2))
          have HKP3 := hide ((unhide HKP).trans hk3)
          clear hk3 q0 q1 q2 q3 c0 c1 c2 HF HKP
          by_cases hfe : FE = 0
          · have HE : Hid (scanI S 0 l = scanI S (k + 1) (l.drop (k + 1))) := by
              show _ = _
              rw [unhide HS0, unhide HD, if_neg (fun q => q hfe)]
            subst hfe
            clear HD HS0
            go_wp2_with fail
            go_roundw
            case rel => exact ⟨k + 1, by omega, by go_num, HE, unhide HKP3⟩
            case measure => simp [intOf]; omega
          · have bf : (FE != 0) = true := by simpa using hfe
            have HE0 : Hid (CI = (k, FE)) := (unhide HCS) _ (by rw [unhide HS0, unhide HD, if_pos hfe])
            have HE : Hid (R = (k, FE)) := by
              show _ = _
              rw [unhide HL, unhide HE0, if_pos hfe]
            clear HD HS0 hfe HE0
            go_wp2_with fail
            go_ret2
            rw [unhide HE]
            exact ⟨rfl, (unhide HK1).trans (unhide HKP3)⟩
        · obtain rfl : k = l.length := by omega
          have i2 : ¬ (l.length : Int) < (l.length : Int) := by omega
          have hn : scanI S 0 l = none := by have := unhide HS0; rw [List.drop_length] at this; exact this
          have hfm : ∀ i ∈ l, formB i = 0 := fun i hi => (scanI_none hn i hi).1
          have HQ := hide (bytes_v l (.slice ao l.length cap) wr (unhide HV2) (by omega) (firstE_of hfm) (unhide HI))
          have HEB : Hid (96 < (bytesC l).length → R = (l.length, 110)) := fun q => by rw [unhide HL, (unhide HCB) hn q]; rfl
          have HEO : Hid ((bytesC l).length ≤ 96 → R = checkT l) := fun q => by rw [unhide HL, (unhide HCO) hn q]; rfl
          have HFM := hide hfm
          clear hn HS0 hkp hlt hfm HL HCS HCB HCO s1 s2 hb1 hb2 HS1 HS2
          go_wp2_with fail
          refine (unhide HQ).mono ?_
          rintro e w3 ⟨v', rfl, ho, hk3⟩
          obtain ⟨oo, oc, rfl⟩ := (rowAt_own ho).form
          have HK3 := hide ((unhide HK2).trans hk3)
          have HV3 := hide ((unhide HV2).keepF hk3)
          clear ho hk3 HQ HK2 HV2 HV1 HK1 HB
          by_cases hb : 96 < (bytesC l).length
          · have HE := hide ((unhide HEB) hb)
            have i3 : (96 : Int) < ((bytesC l).length : Int) := by omega
            clear HEB HEO
            generalize bytesC l = D at *
            go_wp2_with fail
            go_ret2
            rw [unhide HE]
            exact ⟨rfl, unhide HK3⟩
          · have HE := hide ((unhide HEO) (by omega))
            have i3 : ¬ (96 : Int) < ((bytesC l).length : Int) := by omega
            have HC : Hid (R = (scanT l.length 0 l).getD (0, 0)) := unhide HE
            clear HEB HEO HE
            generalize bytesC l = D at *
            go_wp2_with fail
            go_loopw [8] (fun i wr => ∃ k : Nat, k ≤ l.length ∧ i = .int .i64 k ∧ Hid (scanT l.length 0 l = scanT l.length k (l.drop k)) ∧ Keeps (fun _ => False) w3 wr) (fun i _ => l.length - (intOf i).toNat)
            case atStart => exact ⟨0, Nat.zero_le _, rfl, by simp [Hid], Keeps.refl _ _⟩
            case round =>
              obtain ⟨k, hk, rfl, HS0, hkp⟩ := hrel
              have HK4 := hide hkp
              have HV4 := hide ((unhide HV3).keepF hkp)
              by_cases hlt : k < l.length
              · obtain ⟨x, hx⟩ : ∃ x, l[k]? = some x := ⟨_, List.getElem?_eq_getElem hlt⟩
                obtain ⟨b, off, c, e, hbl, hc⟩ := (unhide HV4).cells (by omega)
                simp at e
                obtain ⟨rfl, rfl⟩ := e
                have c0 := (hc k x hx).1
                have hxf := (unhide HFM) x (List.mem_of_getElem? hx)
                have HD := hide (scanT_drop (N := l.length) hx)
                have h46 := (opd_kind _ (op_cases (formB_zero hxf).1)).2.2.2.2
                have hxj := form_jump hxf
                have HOP := hide (fun w' => operand_v x.kind w')
                have i4 : (k : Int) < (l.length : Int) := by omega
                have i0' : (0 : Int) ≤ (k : Int) := by omega
                have HTG := hide (fun (q0 : 0 ≤ x.n) (q1 : x.n ≤ 255) w' (q2 : ValsAt w' (.slice (some ⟨b, off, none⟩) l.length cap) l) => refTarget_v l _ w' q2 k x hx hl q0 q1)
                generalize opdB x.kind = OB at *
                clear hc hx hkp
                go_wp2_with fail
                refine ((unhide HOP) _).mono ?_
                rintro e w5 ⟨rfl, rfl⟩
                by_cases hj : OB = 4
                · have h6 := h46.1 hj
                  obtain ⟨n0, n1⟩ := hxj h6
                  have HT2 := hide ((unhide HTG) n0 n1 _ (unhide HV4))
                  obtain ⟨TG, hTG⟩ : ∃ TG : Nat, k + 1 + x.n.toNat = TG := ⟨_, rfl⟩
                  rw [hTG] at HT2 HD
                  have HJ := hide h6
                  subst hj
                  clear hTG HTG hxj h46 h6
                  go_wp2_with fail
                  refine (unhide HT2).mono ?_
                  rintro e w6 ⟨rfl, hk6⟩
                  have HK6 := hide ((unhide HK4).trans hk6)
                  clear hk6 HT2
                  by_cases hbig : l.length < TG
                  · have b1 : (l.length : Int) < (TG : Int) := by omega
                    have HE : Hid (R = (k, 111)) := by
                      show _ = _
                      rw [unhide HC, unhide HS0, unhide HD, if_pos ⟨unhide HJ, hbig⟩]
                      rfl
                    go_wp2_with fail
                    go_ret2
                    rw [unhide HE]
                    exact ⟨rfl, (unhide HK3).trans (unhide HK6)⟩
                  · have b1 : ¬ (l.length : Int) < (TG : Int) := by omega
                    have HE : Hid (scanT l.length 0 l = scanT l.length (k + 1) (l.drop (k + 1))) := by
                      show _ = _
                      rw [unhide HS0, unhide HD, if_neg (fun h => hbig h.2)]
                    go_wp2_with fail
                    go_roundw
                    case rel => exact ⟨k + 1, by omega, by go_num, HE, unhide HK6⟩
                    case measure => simp [intOf]; omega
                · have b4 : (OB == 4) = false := by simpa using hj
                  have HE : Hid (scanT l.length 0 l = scanT l.length (k + 1) (l.drop (k + 1))) := by
                    show _ = _
                    rw [unhide HS0, unhide HD, if_neg (fun h => hj (h46.2 h.1))]
                  clear hj h46 hxj HTG HD HS0
                  go_wp2_with fail
                  go_roundw
                  case rel => exact ⟨k + 1, by omega, by go_num, HE, unhide HK4⟩
                  case measure => simp [intOf]; omega
              · obtain rfl : k = l.length := by omega
                have i4 : ¬ (l.length : Int) < (l.length : Int) := by omega
                have HE : Hid (R = (0, 0)) := by
                  show _ = _
                  rw [unhide HC, unhide HS0, List.drop_length]
                  rfl
                have HKE := hide ((unhide HK3).trans hkp)
                clear hlt hkp
                go_wp2_with fail
                go_ret2
                rw [unhide HE]
                exact ⟨rfl, unhide HKE⟩
  · have be : (errS S != 0) = true := by simpa using he
    rw [if_pos (show errS S ≠ 0 from he)] at HL
    generalize errS S = E at *
    clear he
    go_wp2_with fail
    go_ret2
    rw [unhide HL]
    exact ⟨rfl, unhide HK1⟩

end Go.Proofs.YtafniangljmjeabDoor
