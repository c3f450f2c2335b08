import Derived.Test.YtcicaifioghciaaGreatDoorZa
import Derived.Test.YtcicaifioghciaaGreatDoorFe
import Derived.Test.YtcicaifioghciaaGreatDoorJzai
import Derived.Test.YtcicaifioghciaaGreatDoorXb
namespace Go.Proofs.YtcicaifioghciaaGreatDoor
open Go.RowKit Go.Maps

theorem strs_own {w : World} {vt : Value} {ps : List PlA} {B : Nat} (h : w.ownsRow B 9 1 vt ps.length (txts ps)) : StrsAt w vt (ps.map fun p => txtP p.r p.st) := by
  have := rowAt_own h
  unfold StrsAt
  rw [List.length_map, List.map_map]
  exact this
def textsO : Option (List PlA) → List Txt
  | none => []
  | some ps => ps.map fun p => txtP p.r p.st
theorem Texted.strs {w : World} {vt : Value} {o : Option (List PlA)} (h : Texted w vt o) : StrsAt w vt (textsO o) := by
  cases o with
  | none =>
    have h' : vt = .slice none 0 0 := h
    subst h'
    exact rowAt_own (World.ownsRow_nil w 0 9 1)
  | some ps => exact strs_own h
theorem textsO_le {S : List FieldA} {l : List ValA} : (textsO (lookA S l).1).length ≤ maxLen := by
  rcases look_tells S l with ⟨k', e', hlk, he'⟩ | ⟨ps, hlk, _, _, hpl, hl96, _, _, _⟩
  · rw [hlk]; simp [textsO]
  · rw [hlk]
    unfold maxLen
    simp [textsO]
    omega
theorem encC_le {l : List ValA} : (encC l).1.length ≤ 96 := by
  unfold encC
  repeat' split
  all_goals simp
  omega
theorem bytesAt_own {w : World} {N : Nat} {v : Value} {t : Txt} (h : w.ownsRow N 5 1 v t.length (bs t)) : BytesAt w v t := rowAt_own h

set_option maxRecDepth 100000 in
set_option maxHeartbeats 4000000 in
theorem again_v (S : List FieldA) (so : Option Addr) (sc : Nat) (l : List ValA) (v : Value) (w : World) (hO : Ops w) (hT : Types w) (hS : FldsAt w (.slice so S.length sc) S) (h : ValsAt w v l) (hI : InR l) (hl : l.length ≤ 4398046511104) (hn : S.length ≤ 4398046511104) :
    Calls Tryz.prog 22 #[.agg #[.slice so S.length sc], v] w fun e w' => e = .returned (.bool true) ∧ Keeps (fun _ => False) w w' := by
  obtain ⟨ao, cap, rfl⟩ := RowAt.form h
  obtain ⟨HB, hbb, hbc⟩ := boxed w #[.slice so S.length sc] 24
  have s0 := hbc 0 (.slice so S.length sc) rfl
  have HO := fun (W : World) (hk : Keeps (fun _ => False) w W) => hO.keepF hk
  have HT := fun (W : World) (hk : Keeps (fun _ => False) w W) => hT.keepF hk
  have HS := fun (W : World) (hk : Keeps (fun _ => False) w W) => hS.keepF hk
  have HL := fun (W : World) (hk : Keeps (fun _ => False) w W) => h.keepF hk
  have C19 := fun (W : World) (hk : Keeps (fun _ => False) w W) => hide (copied_v W _ l (HL W hk) hl)
  have C6 := fun (W : World) (hk : Keeps (fun _ => False) w W) => hide (refEncode_v l _ W (HL W hk) hI)
  have C20 := fun (W : World) (hk : Keeps (fun _ => False) w W) => hide (twin_v W _ S (HS W hk) hn)
  have C7 := fun (W : World) (hk : Keeps (fun _ => False) w W) => hide (refTypes_v S so sc l _ W (HS W hk) (HL W hk) hI)
  have HK0 := HB
  clear hbc
  go_enter Tryz.func22, Tryz.ntmps22
  go_wp2_with fail
  refine (unhide (C19 _ (unhide HK0))).mono ?_
  rintro e w1 ⟨v1, rfl, ho1, hk1⟩
  obtain ⟨o1, c1, rfl⟩ := (rowAt_own ho1).form
  have HK1 := hide ((unhide HK0).trans hk1)
  have C8 := hide (encode_v l _ w1 (HO _ (unhide HK1)) (HT _ (unhide HK1)) (rowAt_own ho1) hI)
  have s1 := (hk1.cell (o := 0) hbb id).trans s0
  have hb1 := Nat.lt_of_lt_of_le hbb hk1.size
  clear hk1 ho1 HK0 s0 hbb
  go_wp2_with fail
  refine (unhide C8).mono ?_
  rintro e w2 ⟨v2, rfl, ho2, hk2⟩
  obtain ⟨o2, c2, rfl⟩ := (rowAt_own ho2).form
  have HX := hide ho2
  have HK2 := hide ((unhide HK1).trans hk2)
  have s2 := (hk2.cell (o := 0) hb1 id).trans s1
  have hb2 := Nat.lt_of_lt_of_le hb1 hk2.size
  clear hk2 ho2 C8 HK1 s1 hb1
  go_wp2_with fail
  refine (unhide (C6 _ (unhide HK2))).mono ?_
  rintro e w3 ⟨v3, rfl, ho3, hk3⟩
  obtain ⟨o3, c3, rfl⟩ := (rowAt_own ho3).form
  have HX3 := hide (ownsRow_kept (unhide HX) hk3 (fun _ _ => id))
  have HY := hide ho3
  have HK3 := hide ((unhide HK2).trans hk3)
  have s3 := (hk3.cell (o := 0) hb2 id).trans s2
  have hb3 := Nat.lt_of_lt_of_le hb2 hk3.size
  clear hk3 ho3 HK2 s2 hb2 HX C6
  go_wp2_with fail
  refine (unhide (C20 _ (unhide HK3))).mono ?_
  rintro e w4 ⟨v4, rfl, ho4, hk4⟩
  obtain ⟨o4, c4, rfl⟩ := (rowAt_own ho4).form
  have HX4 := hide (ownsRow_kept (unhide HX3) hk4 (fun _ _ => id))
  have HY4 := hide (ownsRow_kept (unhide HY) hk4 (fun _ _ => id))
  have HZ := hide ho4
  have HK4 := hide ((unhide HK3).trans hk4)
  have s4 := (hk4.cell (o := 0) hb3 id).trans s3
  have hb4 := Nat.lt_of_lt_of_le hb3 hk4.size
  clear hk4 ho4 HK3 s3 hb3 HX3 HY C20
  go_wp2_with fail
  refine (unhide (C19 _ (unhide HK4))).mono ?_
  rintro e w5 ⟨v5, rfl, ho5, hk5⟩
  obtain ⟨o5, c5, rfl⟩ := (rowAt_own ho5).form
  have HX5 := hide (ownsRow_kept (unhide HX4) hk5 (fun _ _ => id))
  have HY5 := hide (ownsRow_kept (unhide HY4) hk5 (fun _ _ => id))
  have HK5 := hide ((unhide HK4).trans hk5)
  have s5 := (hk5.cell (o := 0) hb4 id).trans s4
  have hb5 := Nat.lt_of_lt_of_le hb4 hk5.size
  have C11 := hide (types_v S _ _ l _ w5 (HO _ (unhide HK5)) (HT _ (unhide HK5)) (rowAt_own (ownsRow_kept (unhide HZ) hk5 (fun _ _ => id))) (rowAt_own ho5) hI)
  clear hk5 ho5 HK4 s4 hb4 HX4 HY4 HZ C19
  go_wp2_with fail
  refine (unhide C11).mono ?_
  rintro e w6 ⟨v6, rfl, ho6, hk6', hk6⟩
  have ht6 := ho6.strs
  obtain ⟨o6, c6, rfl⟩ := RowAt.form ht6
  have HX6 := hide (ownsRow_kept (unhide HX5) hk6 (fun _ _ => id))
  have HY6 := hide (ownsRow_kept (unhide HY5) hk6 (fun _ _ => id))
  have HK6 := hide ((unhide HK5).trans hk6)
  have s6 := (hk6.cell (o := 0) hb5 id).trans s5
  have HA := hide ht6
  clear hk6 ho6 ht6 HK5 s5 HX5 HY5 C11
  go_wp2_with fail
  refine (unhide (C7 _ (unhide HK6))).mono ?_
  rintro e w7 ⟨v7, rfl, ho7, hk7', hk7⟩
  have ht7 := ho7.strs
  obtain ⟨o7, c7, rfl⟩ := RowAt.form ht7
  have HX7 := hide (ownsRow_kept (unhide HX6) hk7 (fun _ _ => id))
  have HY7 := hide (ownsRow_kept (unhide HY6) hk7 (fun _ _ => id))
  have HA7 := hide ((unhide HA).keepF hk7)
  have HB7 := hide ht7
  have HK7 := hide ((unhide HK6).trans hk7)
  clear hk7 ho7 ht7 HK6 s6 HX6 HY6 HA C7
  have HL7 := fun (W : World) (hk : Keeps (fun _ => False) w7 W) => hide (HL W ((unhide HK7).trans hk))
  have HO7 := hide (HO w7 (unhide HK7))
  have HT7 := hide (HT w7 (unhide HK7))
  have C12 := hide (eqBytes_any w7 _ _ _ _ (bytesAt_own (unhide HX7)) (bytesAt_own (unhide HY7)) (by unfold maxLen; have := encC_le (l := l); omega))
  have C13 := fun (W : World) (hk : Keeps (fun _ => False) w7 W) => hide (eqStrings_v W _ _ _ _ ((unhide HA7).keepF hk) ((unhide HB7).keepF hk) textsO_le)
  have C17 := fun (W : World) (hk : Keeps (fun _ => False) w7 W) => hide (decode_c _ _ W ((unhide HO7).keepF hk) ((unhide HT7).keepF hk) (bytesAt_own (ownsRow_kept (unhide HX7) hk (fun _ _ => id))))
  have HDE := hide (fun (h : (encC l).2 = 0) => dec_enc hI h)
  clear HX7 HY7 HA7 HB7 HO HT HS HL HO7 HT7 hO hT hS hI
  generalize encC l = EC at *
  obtain ⟨eb, ee⟩ := EC
  generalize lookA S l = LK at *
  obtain ⟨lo, lk, le⟩ := LK
  simp only [decide_true] at *
  clear hk6' hk7'
  go_wp2_with fail
  refine (unhide C12).mono ?_
  rintro e w8 ⟨rfl, n8, rfl⟩
  have HK8 := hide (keeps_drewN w7 n8)
  have C13' := C13 _ (unhide HK8)
  clear C13 C12
  go_wp2_with fail
  refine (unhide C13').mono ?_
  rintro e w9 ⟨rfl, hk9⟩
  have HK9 := hide ((unhide HK8).trans hk9)
  have C17' := C17 _ (unhide HK9)
  clear C13' C17 HK8 hk9
  by_cases hee : ee = 0
  · subst hee
    have hde := unhide HDE rfl
    rw [hde] at C17'
    simp only at C17'
    clear hde HDE
    go_wp2_with fail
    refine (unhide C17').mono ?_
    rintro e w10 ⟨v10, rfl, ho10, hk10⟩
    obtain ⟨o10, c10, rfl⟩ := (rowAt_own ho10).form
    have HK10 := hide ((unhide HK9).trans hk10)
    have C14 := hide (eqCode_v w10 _ _ l l (rowAt_own ho10) (unhide (HL7 _ (unhide HK10))) (by unfold maxLen; omega))
    simp only [decide_true] at C14
    have HE := hide ((unhide HK7).trans (unhide HK10))
    clear ho10 hk10 C17' HK9 HK10 HL7 HK7
    go_wp2_with fail
    refine (unhide C14).mono ?_
    rintro e w11 ⟨rfl, hk11⟩
    have HE1 := hide ((unhide HE).trans hk11)
    clear hk11 C14 HE
    go_wp2_with fail
    go_ret
    exact ⟨rfl, unhide HE1⟩
  · have hne : (ee != 0) = true := by simp [hee]
    have HE := hide ((unhide HK7).trans (unhide HK9))
    clear hee C17' HK9 HL7 HK7 HDE
    go_wp2_with fail
    go_ret
    exact ⟨rfl, unhide HE⟩
end Go.Proofs.YtcicaifioghciaaGreatDoor
