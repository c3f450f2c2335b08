import Derived.Test.YtcicaifioghciaaGreatDoorOi
namespace Go.Proofs.YtcicaifioghciaaGreatDoor
open Go.RowKit Go.Maps

set_option maxRecDepth 100000 in
set_option maxHeartbeats 8000000 in
theorem own_walk (S : List FieldA) (so : Option Addr) (sc : Nat) (la lb : List ValA) (va vb : Value) (w : World) (hO : Ops w) (hT : Types w) (hP : Pow w) (hS : FldsAt w (.slice so S.length sc) S) (ha : ValsAt w va la) (hb : ValsAt w vb lb) (hIa : InR la) (hIb : InR lb) (hla : la.length + 2 ≤ 4398046511104) (hlb : lb.length + 2 ≤ 4398046511104) (hn : S.length + 8 ≤ 4398046511104) :
    Calls Tryz.prog 3 #[.agg #[.slice so S.length sc], va, vb] w fun e w' => e = .returned (.bool true) ∧ Keeps (fun _ => False) w w' := by
  obtain ⟨ao, ac, rfl⟩ := RowAt.form ha
  obtain ⟨bo, bc, rfl⟩ := RowAt.form hb
  obtain ⟨xa, ea, hxa⟩ : ∃ x e, encC la = (x, e) := ⟨_, _, rfl⟩
  obtain ⟨xb, eb, hxb⟩ : ∃ x e, encC lb = (x, e) := ⟨_, _, rfl⟩
  obtain ⟨ta, hta⟩ : ∃ t, textsO (lookA S la).1 = t := ⟨_, rfl⟩
  obtain ⟨tb, htb⟩ : ∃ t, textsO (lookA S lb).1 = t := ⟨_, rfl⟩
  obtain ⟨qa, hqa⟩ : ∃ q, (lookA S la).2.2 = q := ⟨_, rfl⟩
  obtain ⟨qb, hqb⟩ : ∃ q, (lookA S lb).2.2 = q := ⟨_, rfl⟩
  obtain ⟨da, ka, hda⟩ : ∃ d k, decC xa = (d, k) := ⟨_, _, rfl⟩
  obtain ⟨db, kb, hdb⟩ : ∃ d k, decC xb = (d, k) := ⟨_, _, rfl⟩
  have hxa96 : xa.length ≤ 96 := by have := encC_le (l := la); rw [hxa] at this; exact this
  have hxb96 : xb.length ≤ 96 := by have := encC_le (l := lb); rw [hxb] at this; exact this
  have hta9 : ta.length ≤ maxLen := by have := textsO_le (S := S) (l := la); rw [hta] at this; exact this
  have htb9 : tb.length ≤ maxLen := by have := textsO_le (S := S) (l := lb); rw [htb] at this; exact this
  have HDA := hide (fun (h : ea = 0) => (show da = la ∧ ka = 0 from by have := dec_enc hIa (l := la) (by rw [hxa]; exact h); rw [hxa, hda] at this; exact Prod.mk.inj this))
  have HDB := hide (fun (h : eb = 0) => (show db = lb ∧ kb = 0 from by have := dec_enc hIb (l := lb) (by rw [hxb]; exact h); rw [hxb, hdb] at this; exact Prod.mk.inj this))
  obtain ⟨xe, hxe⟩ : ∃ x : Txt, x = List.replicate xa.length 238 := ⟨_, rfl⟩
  obtain ⟨te, hte⟩ : ∃ t : List Txt, t = List.replicate ta.length mineT := ⟨_, rfl⟩
  obtain ⟨l5, hl5⟩ : ∃ l : List ValA, l = List.replicate la.length c55 := ⟨_, rfl⟩
  obtain ⟨x5, e5, hx5⟩ : ∃ x e, encC l5 = (x, e) := ⟨_, _, rfl⟩
  obtain ⟨t5, ht5⟩ : ∃ t, textsO (lookA S l5).1 = t := ⟨_, rfl⟩
  obtain ⟨q5, hq5⟩ : ∃ q, (lookA S l5).2.2 = q := ⟨_, rfl⟩
  obtain ⟨d5, k5, hd5⟩ : ∃ d k, decC xe = (d, k) := ⟨_, _, rfl⟩
  have hx596 : x5.length ≤ 96 := by have := encC_le (l := l5); rw [hx5] at this; exact this
  have ht59 : t5.length ≤ maxLen := by have := textsO_le (S := S) (l := l5); rw [ht5] at this; exact this
  have hta100 : ta.length ≤ 100 := by have := textsO_97 (S := S) (l := la); rw [hta] at this; exact this
  have hda96 : da.length ≤ 96 := by have := decC_len xa; rw [hda] at this; exact this
  have hd596 : d5.length ≤ 96 := by have := decC_len xe; rw [hd5] at this; exact this
  have HXE := hide hxe
  have HTE := hide hte
  have HL5 := hide hl5
  have HXEL : Hid (xe.length = xa.length) := by show _ = _; rw [hxe]; simp
  have HL5L : Hid (l5.length = la.length) := by show _ = _; rw [hl5]; simp
  have HI5 : Hid (InR l5) := by show InR _; rw [hl5]; exact inR_rep _
  have HX5 := hide hx5
  have HT5 := hide ht5
  have HQ5 := hide hq5
  have HD5 := hide hd5
  have HTL5 := hide ht59
  have HTA100 := hide hta100
  have HDA96 := hide hda96
  have HD596 := hide hd596
  clear hxe hte hl5 hx5 ht5 hq5 hd5 ht59 hta100 hda96 hd596
  have HXa := hide hxa
  have HXb := hide hxb
  have HTa := hide hta
  have HTb := hide htb
  have HQa := hide hqa
  have HQb := hide hqb
  have HDa := hide hda
  have HDb := hide hdb
  have HLa := hide hta9
  have HLb := hide htb9
  obtain ⟨HK0, hbs0, hbc⟩ := boxed w #[.slice so S.length sc] 24
  have s0 := hbc 0 (.slice so S.length sc) rfl
  have HO := fun (W : World) (hk : Keeps (fun _ => False) w W) => hide (hO.keepF hk)
  have HT := fun (W : World) (hk : Keeps (fun _ => False) w W) => hide (hT.keepF hk)
  have HP := fun (W : World) (hk : Keeps (fun _ => False) w W) => hide (hP.keepF hk)
  have HS := fun (W : World) (hk : Keeps (fun _ => False) w W) => hide (hS.keepF hk)
  have HA := fun (W : World) (hk : Keeps (fun _ => False) w W) => hide (ha.keepF hk)
  have HB := fun (W : World) (hk : Keeps (fun _ => False) w W) => hide (hb.keepF hk)
  have HIa := hide hIa
  have HIb := hide hIb
  have HLA := hide hla
  have HLB := hide hlb
  have HN := hide hn
  clear hbc hO hT hP hS ha hb hIa hIb hxa hxb hta htb hqa hqb hda hdb hta9 htb9
  go_enter Tryz.func3, Tryz.ntmps3
  go_wp2_with fail
  refine (marked_v la 77 _ _ (unhide (HA _ (unhide HK0))) (unhide HLA) (by decide) (by decide)).mono ?_
  rintro e w1 ⟨gi, rfl, hgi, ho, hk⟩
  have NBOW := hide (nb_new ho hbs0 hbs0)
  replace ho := ownsRow_low ho (Nat.le_of_lt hbs0)
  have s1 := (hk.cell (o := 0) hbs0 (id)).trans s0
  have hbs1 := Nat.lt_of_lt_of_le hbs0 hk.size
  have HK1 := hide ((unhide HK0).trans hk)
  clear HK0 s0 hbs0
  have OW := hide ho
  clear ho
  clear hk
  go_wp2_with fail
  refine (lent_v S _ _ (unhide (HS _ (unhide HK1))) (unhide HN)).mono ?_
  rintro e w2 ⟨gt, tc, rfl, ho, hk⟩
  replace OW := hide (ownsRow_kept (unhide OW) hk (fun _ _ => id))
  have s2 := (hk.cell (o := 0) hbs1 (id)).trans s1
  have hbs2 := Nat.lt_of_lt_of_le hbs1 hk.size
  have HK2 := hide ((unhide HK1).trans hk)
  clear HK1 s1 hbs1
  have OL := hide ho
  clear ho
  clear hk
  have NZOW := hide (fun q (e : (Value.slice (some ⟨gi, 0, none⟩) (la.length + 2) (la.length + 2)).ownBlock = some q) => own_lt (unhide OW) e)
  go_wp2_with fail
  obtain ⟨hk, hbz3, hbc⟩ := boxed w2 #[.slice (some ⟨gt, 0, none⟩) S.length tc] 24
  have z3 := hbc 0 _ rfl
  clear hbc
  replace OW := hide (ownsRow_kept (unhide OW) hk (fun _ _ => id))
  replace OL := hide (ownsRow_kept (unhide OL) hk (fun _ _ => id))
  have s3 := (hk.cell (o := 0) hbs2 (id)).trans s2
  have hbs3 := Nat.lt_of_lt_of_le hbs2 hk.size
  have HK3 := hide ((unhide HK2).trans hk)
  clear HK2 s2 hbs2
  clear hk
  generalize w2.alloc (.cells #[.slice (some ⟨gt, 0, none⟩) S.length tc] 24) = w3 at *
  refine (refEncode_w (unhide HXa) _ _ (unhide (HA _ (unhide HK3))) (unhide HIa)).mono ?_
  rintro e w4 ⟨o1, c1, rfl, ho, hk⟩
  replace OW := hide (ownsRow_kept (unhide OW) hk (fun _ _ => id))
  replace OL := hide (ownsRow_kept (unhide OL) hk (fun _ _ => id))
  have s4 := (hk.cell (o := 0) hbs3 (id)).trans s3
  have hbs4 := Nat.lt_of_lt_of_le hbs3 hk.size
  have z4 := (hk.cell (o := 0) hbz3 (id)).trans z3
  have hbz4 := Nat.lt_of_lt_of_le hbz3 hk.size
  have HK4 := hide ((unhide HK3).trans hk)
  clear HK3 s3 hbs3 z3 hbz3
  have WA := hide ho
  clear ho
  clear hk
  go_wp2_with fail
  refine (refTypes_w (unhide HTa) (unhide HQa) so sc _ _ (unhide (HS _ (unhide HK4))) (unhide (HA _ (unhide HK4))) (unhide HIa)).mono ?_
  rintro e w5 ⟨o2, c2, rfl, ho, hk⟩
  replace OW := hide (ownsRow_kept (unhide OW) hk (fun _ _ => id))
  replace OL := hide (ownsRow_kept (unhide OL) hk (fun _ _ => id))
  replace WA := hide (ownsRow_kept (unhide WA) hk (fun _ _ => id))
  have s5 := (hk.cell (o := 0) hbs4 (id)).trans s4
  have hbs5 := Nat.lt_of_lt_of_le hbs4 hk.size
  have z5 := (hk.cell (o := 0) hbz4 (id)).trans z4
  have hbz5 := Nat.lt_of_lt_of_le hbz4 hk.size
  have HK5 := hide ((unhide HK4).trans hk)
  clear HK4 s4 hbs4 z4 hbz4
  have TW := hide ho
  clear ho
  clear hk
  go_wp2_with fail
  refine (encode_w (unhide HXa) _ _ (unhide (HO _ (unhide HK5))) (unhide (HT _ (unhide HK5))) (wide_in (unhide OW)) (unhide HIa)).mono ?_
  rintro e w6 ⟨o3, c3, rfl, ho, hk⟩
  have SWAX1 := hide (sep_new (unhide WA) ho)
  have NBX1 := hide (nb_new ho hbs5 hbz5)
  replace ho := ownsRow_low ho (Nat.le_of_lt hbs5)
  replace OW := hide (ownsRow_kept (unhide OW) hk (fun _ _ => id))
  replace OL := hide (ownsRow_kept (unhide OL) hk (fun _ _ => id))
  replace WA := hide (ownsRow_kept (unhide WA) hk (fun _ _ => id))
  replace TW := hide (ownsRow_kept (unhide TW) hk (fun _ _ => id))
  have s6 := (hk.cell (o := 0) hbs5 (id)).trans s5
  have hbs6 := Nat.lt_of_lt_of_le hbs5 hk.size
  have z6 := (hk.cell (o := 0) hbz5 (id)).trans z5
  have hbz6 := Nat.lt_of_lt_of_le hbz5 hk.size
  have HK6 := hide ((unhide HK5).trans hk)
  clear HK5 s5 hbs5 z5 hbz5
  have X1 := hide ho
  clear ho
  clear hk
  go_wp2_with fail
  refine (list_w (unhide HXa) _ _ (unhide (HO _ (unhide HK6))) (unhide (HT _ (unhide HK6))) (unhide (HP _ (unhide HK6))) (wide_in (unhide OW)) (unhide HIa)).mono ?_
  rintro e w7 ⟨s4, rfl, hk⟩
  replace OW := hide (ownsRow_kept (unhide OW) hk (fun _ _ => id))
  replace OL := hide (ownsRow_kept (unhide OL) hk (fun _ _ => id))
  replace WA := hide (ownsRow_kept (unhide WA) hk (fun _ _ => id))
  replace TW := hide (ownsRow_kept (unhide TW) hk (fun _ _ => id))
  replace X1 := hide (ownsRow_kept (unhide X1) hk (fun _ _ => id))
  have s7 := (hk.cell (o := 0) hbs6 (id)).trans s6
  have hbs7 := Nat.lt_of_lt_of_le hbs6 hk.size
  have z7 := (hk.cell (o := 0) hbz6 (id)).trans z6
  have hbz7 := Nat.lt_of_lt_of_le hbz6 hk.size
  have HK7 := hide ((unhide HK6).trans hk)
  clear HK6 s6 hbs6 z6 hbz6
  clear hk
  go_wp2_with fail
  refine (verify_w _ _ _ _ (unhide (HO _ (unhide HK7))) (unhide (HT _ (unhide HK7))) (lent_in (unhide OL)) (wide_in (unhide OW)) (unhide HIa)).mono ?_
  rintro e w8 ⟨v1, v2, v3, rfl, hk⟩
  replace OW := hide (ownsRow_kept (unhide OW) hk (fun _ _ => id))
  replace OL := hide (ownsRow_kept (unhide OL) hk (fun _ _ => id))
  replace WA := hide (ownsRow_kept (unhide WA) hk (fun _ _ => id))
  replace TW := hide (ownsRow_kept (unhide TW) hk (fun _ _ => id))
  replace X1 := hide (ownsRow_kept (unhide X1) hk (fun _ _ => id))
  have s8 := (hk.cell (o := 0) hbs7 (id)).trans s7
  have hbs8 := Nat.lt_of_lt_of_le hbs7 hk.size
  have z8 := (hk.cell (o := 0) hbz7 (id)).trans z7
  have hbz8 := Nat.lt_of_lt_of_le hbz7 hk.size
  have HK8 := hide ((unhide HK7).trans hk)
  clear HK7 s7 hbs7 z7 hbz7
  clear hk
  go_wp2_with fail
  refine (types_w (unhide HTa) (unhide HQa) _ _ _ _ (unhide (HO _ (unhide HK8))) (unhide (HT _ (unhide HK8))) (lent_in (unhide OL)) (wide_in (unhide OW)) (unhide HIa)).mono ?_
  rintro e w9 ⟨o4, c4, rfl, ho, hk⟩
  have STWT1 := hide (sep_new (unhide TW) ho)
  have NBT1 := hide (nb_new ho hbs8 hbz8)
  replace ho := ownsRow_low ho (Nat.le_of_lt hbs8)
  replace OW := hide (ownsRow_kept (unhide OW) hk (fun _ _ => id))
  replace OL := hide (ownsRow_kept (unhide OL) hk (fun _ _ => id))
  replace WA := hide (ownsRow_kept (unhide WA) hk (fun _ _ => id))
  replace TW := hide (ownsRow_kept (unhide TW) hk (fun _ _ => id))
  replace X1 := hide (ownsRow_kept (unhide X1) hk (fun _ _ => id))
  have s9 := (hk.cell (o := 0) hbs8 (id)).trans s8
  have hbs9 := Nat.lt_of_lt_of_le hbs8 hk.size
  have z9 := (hk.cell (o := 0) hbz8 (id)).trans z8
  have hbz9 := Nat.lt_of_lt_of_le hbz8 hk.size
  have HK9 := hide ((unhide HK8).trans hk)
  clear HK8 s8 hbs8 z8 hbz8
  have T1 := hide ho
  clear ho
  clear hk
  go_wp2_with fail
  refine (eqBytes_w _ _ _ (unhide X1) (unhide WA) hxa96).mono ?_
  rintro e w10 ⟨rfl, hk⟩
  replace OW := hide (ownsRow_kept (unhide OW) hk (fun _ _ => id))
  replace OL := hide (ownsRow_kept (unhide OL) hk (fun _ _ => id))
  replace WA := hide (ownsRow_kept (unhide WA) hk (fun _ _ => id))
  replace TW := hide (ownsRow_kept (unhide TW) hk (fun _ _ => id))
  replace X1 := hide (ownsRow_kept (unhide X1) hk (fun _ _ => id))
  replace T1 := hide (ownsRow_kept (unhide T1) hk (fun _ _ => id))
  have s10 := (hk.cell (o := 0) hbs9 (id)).trans s9
  have hbs10 := Nat.lt_of_lt_of_le hbs9 hk.size
  have z10 := (hk.cell (o := 0) hbz9 (id)).trans z9
  have hbz10 := Nat.lt_of_lt_of_le hbz9 hk.size
  have HK10 := hide ((unhide HK9).trans hk)
  clear HK9 s9 hbs9 z9 hbz9
  clear hk
  go_wp2_with fail
  refine (eqStrings_w _ _ _ (unhide T1) (unhide TW) (unhide HLa)).mono ?_
  rintro e w11 ⟨rfl, hk⟩
  replace OW := hide (ownsRow_kept (unhide OW) hk (fun _ _ => id))
  replace OL := hide (ownsRow_kept (unhide OL) hk (fun _ _ => id))
  replace WA := hide (ownsRow_kept (unhide WA) hk (fun _ _ => id))
  replace TW := hide (ownsRow_kept (unhide TW) hk (fun _ _ => id))
  replace X1 := hide (ownsRow_kept (unhide X1) hk (fun _ _ => id))
  replace T1 := hide (ownsRow_kept (unhide T1) hk (fun _ _ => id))
  have s11 := (hk.cell (o := 0) hbs10 (id)).trans s10
  have hbs11 := Nat.lt_of_lt_of_le hbs10 hk.size
  have z11 := (hk.cell (o := 0) hbz10 (id)).trans z10
  have hbz11 := Nat.lt_of_lt_of_le hbz10 hk.size
  have HK11 := hide ((unhide HK10).trans hk)
  clear HK10 s10 hbs10 z10 hbz10
  clear hk
  go_wp2_with fail
  refine (marked_v la 77 _ _ (unhide (HA _ (unhide HK11))) (unhide HLA) (by decide) (by decide)).mono ?_
  rintro e w12 ⟨gj, rfl, hgj, ho, hk⟩
  replace OW := hide (ownsRow_kept (unhide OW) hk (fun _ _ => id))
  replace OL := hide (ownsRow_kept (unhide OL) hk (fun _ _ => id))
  replace WA := hide (ownsRow_kept (unhide WA) hk (fun _ _ => id))
  replace TW := hide (ownsRow_kept (unhide TW) hk (fun _ _ => id))
  replace X1 := hide (ownsRow_kept (unhide X1) hk (fun _ _ => id))
  replace T1 := hide (ownsRow_kept (unhide T1) hk (fun _ _ => id))
  have s12 := (hk.cell (o := 0) hbs11 (id)).trans s11
  have hbs12 := Nat.lt_of_lt_of_le hbs11 hk.size
  have z12 := (hk.cell (o := 0) hbz11 (id)).trans z11
  have hbz12 := Nat.lt_of_lt_of_le hbz11 hk.size
  have HK12 := hide ((unhide HK11).trans hk)
  clear HK11 s11 hbs11 z11 hbz11
  have OV := hide ho
  clear ho
  clear hk
  go_wp2_with fail
  refine (eqCode_w (l := markedL la 77) _ _ _ (wide_all (unhide OW)) (wide_all (unhide OV)) (by have := (unhide HLA); simp [markedL]; omega)).mono ?_
  rintro e w13 ⟨rfl, hk⟩
  replace OW := hide (ownsRow_kept (unhide OW) hk (fun _ _ => id))
  replace OL := hide (ownsRow_kept (unhide OL) hk (fun _ _ => id))
  replace WA := hide (ownsRow_kept (unhide WA) hk (fun _ _ => id))
  replace TW := hide (ownsRow_kept (unhide TW) hk (fun _ _ => id))
  replace X1 := hide (ownsRow_kept (unhide X1) hk (fun _ _ => id))
  replace T1 := hide (ownsRow_kept (unhide T1) hk (fun _ _ => id))
  replace OV := hide (ownsRow_kept (unhide OV) hk (fun _ _ => id))
  have s13 := (hk.cell (o := 0) hbs12 (id)).trans s12
  have hbs13 := Nat.lt_of_lt_of_le hbs12 hk.size
  have z13 := (hk.cell (o := 0) hbz12 (id)).trans z12
  have hbz13 := Nat.lt_of_lt_of_le hbz12 hk.size
  have HK13 := hide ((unhide HK12).trans hk)
  clear HK12 s12 hbs12 z12 hbz12
  clear hk
  go_wp2_with fail
  refine (eqSchema_w _ _ _ (lent_in (unhide OL)) (unhide (HS _ (unhide HK13))) (unhide HN)).mono ?_
  rintro e w14 ⟨rfl, hk⟩
  replace OW := hide (ownsRow_kept (unhide OW) hk (fun _ _ => id))
  replace OL := hide (ownsRow_kept (unhide OL) hk (fun _ _ => id))
  replace WA := hide (ownsRow_kept (unhide WA) hk (fun _ _ => id))
  replace TW := hide (ownsRow_kept (unhide TW) hk (fun _ _ => id))
  replace X1 := hide (ownsRow_kept (unhide X1) hk (fun _ _ => id))
  replace T1 := hide (ownsRow_kept (unhide T1) hk (fun _ _ => id))
  replace OV := hide (ownsRow_kept (unhide OV) hk (fun _ _ => id))
  have s14 := (hk.cell (o := 0) hbs13 (id)).trans s13
  have hbs14 := Nat.lt_of_lt_of_le hbs13 hk.size
  have z14 := (hk.cell (o := 0) hbz13 (id)).trans z13
  have hbz14 := Nat.lt_of_lt_of_le hbz13 hk.size
  have HK14 := hide ((unhide HK13).trans hk)
  clear HK13 s13 hbs13 z13 hbz13
  clear hk
  go_wp2_with fail
  refine (kept_v S _ _ (lent_all (unhide OL)) (by have := (unhide HN); omega)).mono ?_
  rintro e w15 ⟨rfl, hk⟩
  replace OW := hide (ownsRow_kept (unhide OW) hk (fun _ _ => id))
  replace OL := hide (ownsRow_kept (unhide OL) hk (fun _ _ => id))
  replace WA := hide (ownsRow_kept (unhide WA) hk (fun _ _ => id))
  replace TW := hide (ownsRow_kept (unhide TW) hk (fun _ _ => id))
  replace X1 := hide (ownsRow_kept (unhide X1) hk (fun _ _ => id))
  replace T1 := hide (ownsRow_kept (unhide T1) hk (fun _ _ => id))
  replace OV := hide (ownsRow_kept (unhide OV) hk (fun _ _ => id))
  have s15 := (hk.cell (o := 0) hbs14 (id)).trans s14
  have hbs15 := Nat.lt_of_lt_of_le hbs14 hk.size
  have z15 := (hk.cell (o := 0) hbz14 (id)).trans z14
  have hbz15 := Nat.lt_of_lt_of_le hbz14 hk.size
  have HK15 := hide ((unhide HK14).trans hk)
  clear HK14 s14 hbs14 z14 hbz14
  clear hk
  clear OV
  go_wp2_with fail
  refine (decode_w (unhide HDa) _ _ (unhide (HO _ (unhide HK15))) (unhide (HT _ (unhide HK15))) (rowAt_own (unhide X1))).mono ?_
  rintro e w16 ⟨o5, c5, rfl, ho, hk⟩
  have SOWI1 := hide (sep_new (unhide OW) ho)
  have NBI1 := hide (nb_new ho hbs15 hbz15)
  replace ho := ownsRow_low ho (Nat.le_of_lt hbs15)
  replace OW := hide (ownsRow_kept (unhide OW) hk (fun _ _ => id))
  replace OL := hide (ownsRow_kept (unhide OL) hk (fun _ _ => id))
  replace WA := hide (ownsRow_kept (unhide WA) hk (fun _ _ => id))
  replace TW := hide (ownsRow_kept (unhide TW) hk (fun _ _ => id))
  replace X1 := hide (ownsRow_kept (unhide X1) hk (fun _ _ => id))
  replace T1 := hide (ownsRow_kept (unhide T1) hk (fun _ _ => id))
  have s16 := (hk.cell (o := 0) hbs15 (id)).trans s15
  have hbs16 := Nat.lt_of_lt_of_le hbs15 hk.size
  have z16 := (hk.cell (o := 0) hbz15 (id)).trans z15
  have hbz16 := Nat.lt_of_lt_of_le hbz15 hk.size
  have HK16 := hide ((unhide HK15).trans hk)
  clear HK15 s15 hbs15 z15 hbz15
  have I1 := hide ho
  clear ho
  clear hk
  go_wp2_with fail
  refine (copyBytes_w _ _ (rowAt_own (unhide X1)) hxa96).mono ?_
  rintro e w17 ⟨o6, c6, rfl, ho, hk⟩
  replace OW := hide (ownsRow_kept (unhide OW) hk (fun _ _ => id))
  replace OL := hide (ownsRow_kept (unhide OL) hk (fun _ _ => id))
  replace WA := hide (ownsRow_kept (unhide WA) hk (fun _ _ => id))
  replace TW := hide (ownsRow_kept (unhide TW) hk (fun _ _ => id))
  replace X1 := hide (ownsRow_kept (unhide X1) hk (fun _ _ => id))
  replace T1 := hide (ownsRow_kept (unhide T1) hk (fun _ _ => id))
  replace I1 := hide (ownsRow_kept (unhide I1) hk (fun _ _ => id))
  have s17 := (hk.cell (o := 0) hbs16 (id)).trans s16
  have hbs17 := Nat.lt_of_lt_of_le hbs16 hk.size
  have z17 := (hk.cell (o := 0) hbz16 (id)).trans z16
  have hbz17 := Nat.lt_of_lt_of_le hbz16 hk.size
  have HK17 := hide ((unhide HK16).trans hk)
  clear HK16 s16 hbs16 z16 hbz16
  have Y1 := hide ho
  clear ho
  clear hk
  go_wp2_with fail
  refine (decode_w (unhide HDa) _ _ (unhide (HO _ (unhide HK17))) (unhide (HT _ (unhide HK17))) (rowAt_own (unhide Y1))).mono ?_
  rintro e w18 ⟨o7, c7, rfl, ho, hk⟩
  have SOWJ1 := hide (sep_new (unhide OW) ho)
  have SI1J1 := hide (sep_new (unhide I1) ho)
  replace OW := hide (ownsRow_kept (unhide OW) hk (fun _ _ => id))
  replace OL := hide (ownsRow_kept (unhide OL) hk (fun _ _ => id))
  replace WA := hide (ownsRow_kept (unhide WA) hk (fun _ _ => id))
  replace TW := hide (ownsRow_kept (unhide TW) hk (fun _ _ => id))
  replace X1 := hide (ownsRow_kept (unhide X1) hk (fun _ _ => id))
  replace T1 := hide (ownsRow_kept (unhide T1) hk (fun _ _ => id))
  replace I1 := hide (ownsRow_kept (unhide I1) hk (fun _ _ => id))
  replace Y1 := hide (ownsRow_kept (unhide Y1) hk (fun _ _ => id))
  have s18 := (hk.cell (o := 0) hbs17 (id)).trans s17
  have hbs18 := Nat.lt_of_lt_of_le hbs17 hk.size
  have z18 := (hk.cell (o := 0) hbz17 (id)).trans z17
  have hbz18 := Nat.lt_of_lt_of_le hbz17 hk.size
  have HK18 := hide ((unhide HK17).trans hk)
  clear HK17 s17 hbs17 z17 hbz17
  have J1 := hide ho
  clear ho
  clear hk
  go_wp2_with fail
  refine (copied_w _ _ (unhide (HA _ (unhide HK18))) (unhide HLA)).mono ?_
  rintro e w19 ⟨o8, c8, rfl, ho, hk⟩
  replace OW := hide (ownsRow_kept (unhide OW) hk (fun _ _ => id))
  replace OL := hide (ownsRow_kept (unhide OL) hk (fun _ _ => id))
  replace WA := hide (ownsRow_kept (unhide WA) hk (fun _ _ => id))
  replace TW := hide (ownsRow_kept (unhide TW) hk (fun _ _ => id))
  replace X1 := hide (ownsRow_kept (unhide X1) hk (fun _ _ => id))
  replace T1 := hide (ownsRow_kept (unhide T1) hk (fun _ _ => id))
  replace I1 := hide (ownsRow_kept (unhide I1) hk (fun _ _ => id))
  replace Y1 := hide (ownsRow_kept (unhide Y1) hk (fun _ _ => id))
  replace J1 := hide (ownsRow_kept (unhide J1) hk (fun _ _ => id))
  have s19 := (hk.cell (o := 0) hbs18 (id)).trans s18
  have hbs19 := Nat.lt_of_lt_of_le hbs18 hk.size
  have z19 := (hk.cell (o := 0) hbz18 (id)).trans z18
  have hbz19 := Nat.lt_of_lt_of_le hbz18 hk.size
  have HK19 := hide ((unhide HK18).trans hk)
  clear HK18 s18 hbs18 z18 hbz18
  have Y2 := hide ho
  clear ho
  clear hk
  go_wp2_with fail
  refine (encode_w (unhide HXa) _ _ (unhide (HO _ (unhide HK19))) (unhide (HT _ (unhide HK19))) (rowAt_own (unhide Y2)) (unhide HIa)).mono ?_
  rintro e w20 ⟨o9, c9, rfl, ho, hk⟩
  have SX1X2 := hide (sep_new (unhide X1) ho)
  replace OW := hide (ownsRow_kept (unhide OW) hk (fun _ _ => id))
  replace OL := hide (ownsRow_kept (unhide OL) hk (fun _ _ => id))
  replace WA := hide (ownsRow_kept (unhide WA) hk (fun _ _ => id))
  replace TW := hide (ownsRow_kept (unhide TW) hk (fun _ _ => id))
  replace X1 := hide (ownsRow_kept (unhide X1) hk (fun _ _ => id))
  replace T1 := hide (ownsRow_kept (unhide T1) hk (fun _ _ => id))
  replace I1 := hide (ownsRow_kept (unhide I1) hk (fun _ _ => id))
  replace Y1 := hide (ownsRow_kept (unhide Y1) hk (fun _ _ => id))
  replace J1 := hide (ownsRow_kept (unhide J1) hk (fun _ _ => id))
  replace Y2 := hide (ownsRow_kept (unhide Y2) hk (fun _ _ => id))
  have s20 := (hk.cell (o := 0) hbs19 (id)).trans s19
  have hbs20 := Nat.lt_of_lt_of_le hbs19 hk.size
  have z20 := (hk.cell (o := 0) hbz19 (id)).trans z19
  have hbz20 := Nat.lt_of_lt_of_le hbz19 hk.size
  have HK20 := hide ((unhide HK19).trans hk)
  clear HK19 s19 hbs19 z19 hbz19
  have X2 := hide ho
  clear ho
  clear hk
  go_wp2_with fail
  refine (twin_w _ _ (unhide (HS _ (unhide HK20))) (unhide HN)).mono ?_
  rintro e w21 ⟨p1, d1, rfl, ho, hk⟩
  replace OW := hide (ownsRow_kept (unhide OW) hk (fun _ _ => id))
  replace OL := hide (ownsRow_kept (unhide OL) hk (fun _ _ => id))
  replace WA := hide (ownsRow_kept (unhide WA) hk (fun _ _ => id))
  replace TW := hide (ownsRow_kept (unhide TW) hk (fun _ _ => id))
  replace X1 := hide (ownsRow_kept (unhide X1) hk (fun _ _ => id))
  replace T1 := hide (ownsRow_kept (unhide T1) hk (fun _ _ => id))
  replace I1 := hide (ownsRow_kept (unhide I1) hk (fun _ _ => id))
  replace Y1 := hide (ownsRow_kept (unhide Y1) hk (fun _ _ => id))
  replace J1 := hide (ownsRow_kept (unhide J1) hk (fun _ _ => id))
  replace Y2 := hide (ownsRow_kept (unhide Y2) hk (fun _ _ => id))
  replace X2 := hide (ownsRow_kept (unhide X2) hk (fun _ _ => id))
  have s21 := (hk.cell (o := 0) hbs20 (id)).trans s20
  have hbs21 := Nat.lt_of_lt_of_le hbs20 hk.size
  have z21 := (hk.cell (o := 0) hbz20 (id)).trans z20
  have hbz21 := Nat.lt_of_lt_of_le hbz20 hk.size
  have HK21 := hide ((unhide HK20).trans hk)
  clear HK20 s20 hbs20 z20 hbz20
  have Y3 := hide ho
  clear ho
  clear hk
  go_wp2_with fail
  refine (copied_w _ _ (unhide (HA _ (unhide HK21))) (unhide HLA)).mono ?_
  rintro e w22 ⟨p2, d2, rfl, ho, hk⟩
  replace OW := hide (ownsRow_kept (unhide OW) hk (fun _ _ => id))
  replace OL := hide (ownsRow_kept (unhide OL) hk (fun _ _ => id))
  replace WA := hide (ownsRow_kept (unhide WA) hk (fun _ _ => id))
  replace TW := hide (ownsRow_kept (unhide TW) hk (fun _ _ => id))
  replace X1 := hide (ownsRow_kept (unhide X1) hk (fun _ _ => id))
  replace T1 := hide (ownsRow_kept (unhide T1) hk (fun _ _ => id))
  replace I1 := hide (ownsRow_kept (unhide I1) hk (fun _ _ => id))
  replace Y1 := hide (ownsRow_kept (unhide Y1) hk (fun _ _ => id))
  replace J1 := hide (ownsRow_kept (unhide J1) hk (fun _ _ => id))
  replace Y2 := hide (ownsRow_kept (unhide Y2) hk (fun _ _ => id))
  replace X2 := hide (ownsRow_kept (unhide X2) hk (fun _ _ => id))
  replace Y3 := hide (ownsRow_kept (unhide Y3) hk (fun _ _ => id))
  have s22 := (hk.cell (o := 0) hbs21 (id)).trans s21
  have hbs22 := Nat.lt_of_lt_of_le hbs21 hk.size
  have z22 := (hk.cell (o := 0) hbz21 (id)).trans z21
  have hbz22 := Nat.lt_of_lt_of_le hbz21 hk.size
  have HK22 := hide ((unhide HK21).trans hk)
  clear HK21 s21 hbs21 z21 hbz21
  have Y4 := hide ho
  clear ho
  clear hk
  go_wp2_with fail
  refine (types_w (unhide HTa) (unhide HQa) _ _ _ _ (unhide (HO _ (unhide HK22))) (unhide (HT _ (unhide HK22))) (rowAt_own (unhide Y3)) (rowAt_own (unhide Y4)) (unhide HIa)).mono ?_
  rintro e w23 ⟨p3, d3, rfl, ho, hk⟩
  have ST1T2 := hide (sep_new (unhide T1) ho)
  replace OW := hide (ownsRow_kept (unhide OW) hk (fun _ _ => id))
  replace OL := hide (ownsRow_kept (unhide OL) hk (fun _ _ => id))
  replace WA := hide (ownsRow_kept (unhide WA) hk (fun _ _ => id))
  replace TW := hide (ownsRow_kept (unhide TW) hk (fun _ _ => id))
  replace X1 := hide (ownsRow_kept (unhide X1) hk (fun _ _ => id))
  replace T1 := hide (ownsRow_kept (unhide T1) hk (fun _ _ => id))
  replace I1 := hide (ownsRow_kept (unhide I1) hk (fun _ _ => id))
  replace Y1 := hide (ownsRow_kept (unhide Y1) hk (fun _ _ => id))
  replace J1 := hide (ownsRow_kept (unhide J1) hk (fun _ _ => id))
  replace Y2 := hide (ownsRow_kept (unhide Y2) hk (fun _ _ => id))
  replace X2 := hide (ownsRow_kept (unhide X2) hk (fun _ _ => id))
  replace Y3 := hide (ownsRow_kept (unhide Y3) hk (fun _ _ => id))
  replace Y4 := hide (ownsRow_kept (unhide Y4) hk (fun _ _ => id))
  have s23 := (hk.cell (o := 0) hbs22 (id)).trans s22
  have hbs23 := Nat.lt_of_lt_of_le hbs22 hk.size
  have z23 := (hk.cell (o := 0) hbz22 (id)).trans z22
  have hbz23 := Nat.lt_of_lt_of_le hbz22 hk.size
  have HK23 := hide ((unhide HK22).trans hk)
  clear HK22 s22 hbs22 z22 hbz22
  have T2 := hide ho
  clear ho
  clear hk
  go_wp2_with fail
  refine (copied_w _ _ (unhide (HB _ (unhide HK23))) (unhide HLB)).mono ?_
  rintro e w24 ⟨p4, d4, rfl, ho, hk⟩
  replace OW := hide (ownsRow_kept (unhide OW) hk (fun _ _ => id))
  replace OL := hide (ownsRow_kept (unhide OL) hk (fun _ _ => id))
  replace WA := hide (ownsRow_kept (unhide WA) hk (fun _ _ => id))
  replace TW := hide (ownsRow_kept (unhide TW) hk (fun _ _ => id))
  replace X1 := hide (ownsRow_kept (unhide X1) hk (fun _ _ => id))
  replace T1 := hide (ownsRow_kept (unhide T1) hk (fun _ _ => id))
  replace I1 := hide (ownsRow_kept (unhide I1) hk (fun _ _ => id))
  replace Y1 := hide (ownsRow_kept (unhide Y1) hk (fun _ _ => id))
  replace J1 := hide (ownsRow_kept (unhide J1) hk (fun _ _ => id))
  replace Y2 := hide (ownsRow_kept (unhide Y2) hk (fun _ _ => id))
  replace X2 := hide (ownsRow_kept (unhide X2) hk (fun _ _ => id))
  replace Y3 := hide (ownsRow_kept (unhide Y3) hk (fun _ _ => id))
  replace Y4 := hide (ownsRow_kept (unhide Y4) hk (fun _ _ => id))
  replace T2 := hide (ownsRow_kept (unhide T2) hk (fun _ _ => id))
  have s24 := (hk.cell (o := 0) hbs23 (id)).trans s23
  have hbs24 := Nat.lt_of_lt_of_le hbs23 hk.size
  have z24 := (hk.cell (o := 0) hbz23 (id)).trans z23
  have hbz24 := Nat.lt_of_lt_of_le hbz23 hk.size
  have HK24 := hide ((unhide HK23).trans hk)
  clear HK23 s23 hbs23 z23 hbz23
  have Y5 := hide ho
  clear ho
  clear hk
  go_wp2_with fail
  refine (encode_w (unhide HXb) _ _ (unhide (HO _ (unhide HK24))) (unhide (HT _ (unhide HK24))) (rowAt_own (unhide Y5)) (unhide HIb)).mono ?_
  rintro e w25 ⟨p5, d5, rfl, ho, hk⟩
  have SX1XO := hide (sep_new (unhide X1) ho)
  replace OW := hide (ownsRow_kept (unhide OW) hk (fun _ _ => id))
  replace OL := hide (ownsRow_kept (unhide OL) hk (fun _ _ => id))
  replace WA := hide (ownsRow_kept (unhide WA) hk (fun _ _ => id))
  replace TW := hide (ownsRow_kept (unhide TW) hk (fun _ _ => id))
  replace X1 := hide (ownsRow_kept (unhide X1) hk (fun _ _ => id))
  replace T1 := hide (ownsRow_kept (unhide T1) hk (fun _ _ => id))
  replace I1 := hide (ownsRow_kept (unhide I1) hk (fun _ _ => id))
  replace Y1 := hide (ownsRow_kept (unhide Y1) hk (fun _ _ => id))
  replace J1 := hide (ownsRow_kept (unhide J1) hk (fun _ _ => id))
  replace Y2 := hide (ownsRow_kept (unhide Y2) hk (fun _ _ => id))
  replace X2 := hide (ownsRow_kept (unhide X2) hk (fun _ _ => id))
  replace Y3 := hide (ownsRow_kept (unhide Y3) hk (fun _ _ => id))
  replace Y4 := hide (ownsRow_kept (unhide Y4) hk (fun _ _ => id))
  replace T2 := hide (ownsRow_kept (unhide T2) hk (fun _ _ => id))
  replace Y5 := hide (ownsRow_kept (unhide Y5) hk (fun _ _ => id))
  have s25 := (hk.cell (o := 0) hbs24 (id)).trans s24
  have hbs25 := Nat.lt_of_lt_of_le hbs24 hk.size
  have z25 := (hk.cell (o := 0) hbz24 (id)).trans z24
  have hbz25 := Nat.lt_of_lt_of_le hbz24 hk.size
  have HK25 := hide ((unhide HK24).trans hk)
  clear HK24 s24 hbs24 z24 hbz24
  have XO := hide ho
  clear ho
  clear hk
  go_wp2_with fail
  refine (twin_w _ _ (unhide (HS _ (unhide HK25))) (unhide HN)).mono ?_
  rintro e w26 ⟨p6, d6, rfl, ho, hk⟩
  replace OW := hide (ownsRow_kept (unhide OW) hk (fun _ _ => id))
  replace OL := hide (ownsRow_kept (unhide OL) hk (fun _ _ => id))
  replace WA := hide (ownsRow_kept (unhide WA) hk (fun _ _ => id))
  replace TW := hide (ownsRow_kept (unhide TW) hk (fun _ _ => id))
  replace X1 := hide (ownsRow_kept (unhide X1) hk (fun _ _ => id))
  replace T1 := hide (ownsRow_kept (unhide T1) hk (fun _ _ => id))
  replace I1 := hide (ownsRow_kept (unhide I1) hk (fun _ _ => id))
  replace Y1 := hide (ownsRow_kept (unhide Y1) hk (fun _ _ => id))
  replace J1 := hide (ownsRow_kept (unhide J1) hk (fun _ _ => id))
  replace Y2 := hide (ownsRow_kept (unhide Y2) hk (fun _ _ => id))
  replace X2 := hide (ownsRow_kept (unhide X2) hk (fun _ _ => id))
  replace Y3 := hide (ownsRow_kept (unhide Y3) hk (fun _ _ => id))
  replace Y4 := hide (ownsRow_kept (unhide Y4) hk (fun _ _ => id))
  replace T2 := hide (ownsRow_kept (unhide T2) hk (fun _ _ => id))
  replace Y5 := hide (ownsRow_kept (unhide Y5) hk (fun _ _ => id))
  replace XO := hide (ownsRow_kept (unhide XO) hk (fun _ _ => id))
  have s26 := (hk.cell (o := 0) hbs25 (id)).trans s25
  have hbs26 := Nat.lt_of_lt_of_le hbs25 hk.size
  have z26 := (hk.cell (o := 0) hbz25 (id)).trans z25
  have hbz26 := Nat.lt_of_lt_of_le hbz25 hk.size
  have HK26 := hide ((unhide HK25).trans hk)
  clear HK25 s25 hbs25 z25 hbz25
  have Y6 := hide ho
  clear ho
  clear hk
  go_wp2_with fail
  refine (copied_w _ _ (unhide (HB _ (unhide HK26))) (unhide HLB)).mono ?_
  rintro e w27 ⟨p7, d7, rfl, ho, hk⟩
  replace OW := hide (ownsRow_kept (unhide OW) hk (fun _ _ => id))
  replace OL := hide (ownsRow_kept (unhide OL) hk (fun _ _ => id))
  replace WA := hide (ownsRow_kept (unhide WA) hk (fun _ _ => id))
  replace TW := hide (ownsRow_kept (unhide TW) hk (fun _ _ => id))
  replace X1 := hide (ownsRow_kept (unhide X1) hk (fun _ _ => id))
  replace T1 := hide (ownsRow_kept (unhide T1) hk (fun _ _ => id))
  replace I1 := hide (ownsRow_kept (unhide I1) hk (fun _ _ => id))
  replace Y1 := hide (ownsRow_kept (unhide Y1) hk (fun _ _ => id))
  replace J1 := hide (ownsRow_kept (unhide J1) hk (fun _ _ => id))
  replace Y2 := hide (ownsRow_kept (unhide Y2) hk (fun _ _ => id))
  replace X2 := hide (ownsRow_kept (unhide X2) hk (fun _ _ => id))
  replace Y3 := hide (ownsRow_kept (unhide Y3) hk (fun _ _ => id))
  replace Y4 := hide (ownsRow_kept (unhide Y4) hk (fun _ _ => id))
  replace T2 := hide (ownsRow_kept (unhide T2) hk (fun _ _ => id))
  replace Y5 := hide (ownsRow_kept (unhide Y5) hk (fun _ _ => id))
  replace XO := hide (ownsRow_kept (unhide XO) hk (fun _ _ => id))
  replace Y6 := hide (ownsRow_kept (unhide Y6) hk (fun _ _ => id))
  have s27 := (hk.cell (o := 0) hbs26 (id)).trans s26
  have hbs27 := Nat.lt_of_lt_of_le hbs26 hk.size
  have z27 := (hk.cell (o := 0) hbz26 (id)).trans z26
  have hbz27 := Nat.lt_of_lt_of_le hbz26 hk.size
  have HK27 := hide ((unhide HK26).trans hk)
  clear HK26 s26 hbs26 z26 hbz26
  have Y7 := hide ho
  clear ho
  clear hk
  go_wp2_with fail
  refine (types_w (unhide HTb) (unhide HQb) _ _ _ _ (unhide (HO _ (unhide HK27))) (unhide (HT _ (unhide HK27))) (rowAt_own (unhide Y6)) (rowAt_own (unhide Y7)) (unhide HIb)).mono ?_
  rintro e w28 ⟨p8, d8, rfl, ho, hk⟩
  have ST1TO := hide (sep_new (unhide T1) ho)
  replace OW := hide (ownsRow_kept (unhide OW) hk (fun _ _ => id))
  replace OL := hide (ownsRow_kept (unhide OL) hk (fun _ _ => id))
  replace WA := hide (ownsRow_kept (unhide WA) hk (fun _ _ => id))
  replace TW := hide (ownsRow_kept (unhide TW) hk (fun _ _ => id))
  replace X1 := hide (ownsRow_kept (unhide X1) hk (fun _ _ => id))
  replace T1 := hide (ownsRow_kept (unhide T1) hk (fun _ _ => id))
  replace I1 := hide (ownsRow_kept (unhide I1) hk (fun _ _ => id))
  replace Y1 := hide (ownsRow_kept (unhide Y1) hk (fun _ _ => id))
  replace J1 := hide (ownsRow_kept (unhide J1) hk (fun _ _ => id))
  replace Y2 := hide (ownsRow_kept (unhide Y2) hk (fun _ _ => id))
  replace X2 := hide (ownsRow_kept (unhide X2) hk (fun _ _ => id))
  replace Y3 := hide (ownsRow_kept (unhide Y3) hk (fun _ _ => id))
  replace Y4 := hide (ownsRow_kept (unhide Y4) hk (fun _ _ => id))
  replace T2 := hide (ownsRow_kept (unhide T2) hk (fun _ _ => id))
  replace Y5 := hide (ownsRow_kept (unhide Y5) hk (fun _ _ => id))
  replace XO := hide (ownsRow_kept (unhide XO) hk (fun _ _ => id))
  replace Y6 := hide (ownsRow_kept (unhide Y6) hk (fun _ _ => id))
  replace Y7 := hide (ownsRow_kept (unhide Y7) hk (fun _ _ => id))
  have s28 := (hk.cell (o := 0) hbs27 (id)).trans s27
  have hbs28 := Nat.lt_of_lt_of_le hbs27 hk.size
  have z28 := (hk.cell (o := 0) hbz27 (id)).trans z27
  have hbz28 := Nat.lt_of_lt_of_le hbz27 hk.size
  have HK28 := hide ((unhide HK27).trans hk)
  clear HK27 s27 hbs27 z27 hbz27
  have TO := hide ho
  clear ho
  clear hk
  go_wp2_with fail
  refine (copyBytes_w _ _ (rowAt_own (unhide XO)) hxb96).mono ?_
  rintro e w29 ⟨p9, d9, rfl, ho, hk⟩
  replace OW := hide (ownsRow_kept (unhide OW) hk (fun _ _ => id))
  replace OL := hide (ownsRow_kept (unhide OL) hk (fun _ _ => id))
  replace WA := hide (ownsRow_kept (unhide WA) hk (fun _ _ => id))
  replace TW := hide (ownsRow_kept (unhide TW) hk (fun _ _ => id))
  replace X1 := hide (ownsRow_kept (unhide X1) hk (fun _ _ => id))
  replace T1 := hide (ownsRow_kept (unhide T1) hk (fun _ _ => id))
  replace I1 := hide (ownsRow_kept (unhide I1) hk (fun _ _ => id))
  replace Y1 := hide (ownsRow_kept (unhide Y1) hk (fun _ _ => id))
  replace J1 := hide (ownsRow_kept (unhide J1) hk (fun _ _ => id))
  replace Y2 := hide (ownsRow_kept (unhide Y2) hk (fun _ _ => id))
  replace X2 := hide (ownsRow_kept (unhide X2) hk (fun _ _ => id))
  replace Y3 := hide (ownsRow_kept (unhide Y3) hk (fun _ _ => id))
  replace Y4 := hide (ownsRow_kept (unhide Y4) hk (fun _ _ => id))
  replace T2 := hide (ownsRow_kept (unhide T2) hk (fun _ _ => id))
  replace Y5 := hide (ownsRow_kept (unhide Y5) hk (fun _ _ => id))
  replace XO := hide (ownsRow_kept (unhide XO) hk (fun _ _ => id))
  replace Y6 := hide (ownsRow_kept (unhide Y6) hk (fun _ _ => id))
  replace Y7 := hide (ownsRow_kept (unhide Y7) hk (fun _ _ => id))
  replace TO := hide (ownsRow_kept (unhide TO) hk (fun _ _ => id))
  have s29 := (hk.cell (o := 0) hbs28 (id)).trans s28
  have hbs29 := Nat.lt_of_lt_of_le hbs28 hk.size
  have z29 := (hk.cell (o := 0) hbz28 (id)).trans z28
  have hbz29 := Nat.lt_of_lt_of_le hbz28 hk.size
  have HK29 := hide ((unhide HK28).trans hk)
  clear HK28 s28 hbs28 z28 hbz28
  have Y8 := hide ho
  clear ho
  clear hk
  go_wp2_with fail
  refine (decode_w (unhide HDb) _ _ (unhide (HO _ (unhide HK29))) (unhide (HT _ (unhide HK29))) (rowAt_own (unhide Y8))).mono ?_
  rintro e w30 ⟨r1, f1, rfl, ho, hk⟩
  replace OW := hide (ownsRow_kept (unhide OW) hk (fun _ _ => id))
  replace OL := hide (ownsRow_kept (unhide OL) hk (fun _ _ => id))
  replace WA := hide (ownsRow_kept (unhide WA) hk (fun _ _ => id))
  replace TW := hide (ownsRow_kept (unhide TW) hk (fun _ _ => id))
  replace X1 := hide (ownsRow_kept (unhide X1) hk (fun _ _ => id))
  replace T1 := hide (ownsRow_kept (unhide T1) hk (fun _ _ => id))
  replace I1 := hide (ownsRow_kept (unhide I1) hk (fun _ _ => id))
  replace Y1 := hide (ownsRow_kept (unhide Y1) hk (fun _ _ => id))
  replace J1 := hide (ownsRow_kept (unhide J1) hk (fun _ _ => id))
  replace Y2 := hide (ownsRow_kept (unhide Y2) hk (fun _ _ => id))
  replace X2 := hide (ownsRow_kept (unhide X2) hk (fun _ _ => id))
  replace Y3 := hide (ownsRow_kept (unhide Y3) hk (fun _ _ => id))
  replace Y4 := hide (ownsRow_kept (unhide Y4) hk (fun _ _ => id))
  replace T2 := hide (ownsRow_kept (unhide T2) hk (fun _ _ => id))
  replace Y5 := hide (ownsRow_kept (unhide Y5) hk (fun _ _ => id))
  replace XO := hide (ownsRow_kept (unhide XO) hk (fun _ _ => id))
  replace Y6 := hide (ownsRow_kept (unhide Y6) hk (fun _ _ => id))
  replace Y7 := hide (ownsRow_kept (unhide Y7) hk (fun _ _ => id))
  replace TO := hide (ownsRow_kept (unhide TO) hk (fun _ _ => id))
  replace Y8 := hide (ownsRow_kept (unhide Y8) hk (fun _ _ => id))
  have s30 := (hk.cell (o := 0) hbs29 (id)).trans s29
  have hbs30 := Nat.lt_of_lt_of_le hbs29 hk.size
  have z30 := (hk.cell (o := 0) hbz29 (id)).trans z29
  have hbz30 := Nat.lt_of_lt_of_le hbz29 hk.size
  have HK30 := hide ((unhide HK29).trans hk)
  clear HK29 s29 hbs29 z29 hbz29
  have IO := hide ho
  clear ho
  clear hk
  go_wp2_with fail
  refine (refEncode_w (unhide HXb) _ _ (unhide (HB _ (unhide HK30))) (unhide HIb)).mono ?_
  rintro e w31 ⟨r2, f2, rfl, ho, hk⟩
  have SX1WO := hide (sep_new (unhide X1) ho)
  replace OW := hide (ownsRow_kept (unhide OW) hk (fun _ _ => id))
  replace OL := hide (ownsRow_kept (unhide OL) hk (fun _ _ => id))
  replace WA := hide (ownsRow_kept (unhide WA) hk (fun _ _ => id))
  replace TW := hide (ownsRow_kept (unhide TW) hk (fun _ _ => id))
  replace X1 := hide (ownsRow_kept (unhide X1) hk (fun _ _ => id))
  replace T1 := hide (ownsRow_kept (unhide T1) hk (fun _ _ => id))
  replace I1 := hide (ownsRow_kept (unhide I1) hk (fun _ _ => id))
  replace Y1 := hide (ownsRow_kept (unhide Y1) hk (fun _ _ => id))
  replace J1 := hide (ownsRow_kept (unhide J1) hk (fun _ _ => id))
  replace Y2 := hide (ownsRow_kept (unhide Y2) hk (fun _ _ => id))
  replace X2 := hide (ownsRow_kept (unhide X2) hk (fun _ _ => id))
  replace Y3 := hide (ownsRow_kept (unhide Y3) hk (fun _ _ => id))
  replace Y4 := hide (ownsRow_kept (unhide Y4) hk (fun _ _ => id))
  replace T2 := hide (ownsRow_kept (unhide T2) hk (fun _ _ => id))
  replace Y5 := hide (ownsRow_kept (unhide Y5) hk (fun _ _ => id))
  replace XO := hide (ownsRow_kept (unhide XO) hk (fun _ _ => id))
  replace Y6 := hide (ownsRow_kept (unhide Y6) hk (fun _ _ => id))
  replace Y7 := hide (ownsRow_kept (unhide Y7) hk (fun _ _ => id))
  replace TO := hide (ownsRow_kept (unhide TO) hk (fun _ _ => id))
  replace Y8 := hide (ownsRow_kept (unhide Y8) hk (fun _ _ => id))
  replace IO := hide (ownsRow_kept (unhide IO) hk (fun _ _ => id))
  have s31 := (hk.cell (o := 0) hbs30 (id)).trans s30
  have hbs31 := Nat.lt_of_lt_of_le hbs30 hk.size
  have z31 := (hk.cell (o := 0) hbz30 (id)).trans z30
  have hbz31 := Nat.lt_of_lt_of_le hbz30 hk.size
  have HK31 := hide ((unhide HK30).trans hk)
  clear HK30 s30 hbs30 z30 hbz30
  have WO := hide ho
  clear ho
  clear hk
  go_wp2_with fail
  refine (refTypes_w (unhide HTb) (unhide HQb) so sc _ _ (unhide (HS _ (unhide HK31))) (unhide (HB _ (unhide HK31))) (unhide HIb)).mono ?_
  rintro e w32 ⟨r3, f3, rfl, ho, hk⟩
  have ST1PO := hide (sep_new (unhide T1) ho)
  replace OW := hide (ownsRow_kept (unhide OW) hk (fun _ _ => id))
  replace OL := hide (ownsRow_kept (unhide OL) hk (fun _ _ => id))
  replace WA := hide (ownsRow_kept (unhide WA) hk (fun _ _ => id))
  replace TW := hide (ownsRow_kept (unhide TW) hk (fun _ _ => id))
  replace X1 := hide (ownsRow_kept (unhide X1) hk (fun _ _ => id))
  replace T1 := hide (ownsRow_kept (unhide T1) hk (fun _ _ => id))
  replace I1 := hide (ownsRow_kept (unhide I1) hk (fun _ _ => id))
  replace Y1 := hide (ownsRow_kept (unhide Y1) hk (fun _ _ => id))
  replace J1 := hide (ownsRow_kept (unhide J1) hk (fun _ _ => id))
  replace Y2 := hide (ownsRow_kept (unhide Y2) hk (fun _ _ => id))
  replace X2 := hide (ownsRow_kept (unhide X2) hk (fun _ _ => id))
  replace Y3 := hide (ownsRow_kept (unhide Y3) hk (fun _ _ => id))
  replace Y4 := hide (ownsRow_kept (unhide Y4) hk (fun _ _ => id))
  replace T2 := hide (ownsRow_kept (unhide T2) hk (fun _ _ => id))
  replace Y5 := hide (ownsRow_kept (unhide Y5) hk (fun _ _ => id))
  replace XO := hide (ownsRow_kept (unhide XO) hk (fun _ _ => id))
  replace Y6 := hide (ownsRow_kept (unhide Y6) hk (fun _ _ => id))
  replace Y7 := hide (ownsRow_kept (unhide Y7) hk (fun _ _ => id))
  replace TO := hide (ownsRow_kept (unhide TO) hk (fun _ _ => id))
  replace Y8 := hide (ownsRow_kept (unhide Y8) hk (fun _ _ => id))
  replace IO := hide (ownsRow_kept (unhide IO) hk (fun _ _ => id))
  replace WO := hide (ownsRow_kept (unhide WO) hk (fun _ _ => id))
  have s32 := (hk.cell (o := 0) hbs31 (id)).trans s31
  have hbs32 := Nat.lt_of_lt_of_le hbs31 hk.size
  have z32 := (hk.cell (o := 0) hbz31 (id)).trans z31
  have hbz32 := Nat.lt_of_lt_of_le hbz31 hk.size
  have HK32 := hide ((unhide HK31).trans hk)
  clear HK31 s31 hbs31 z31 hbz31
  have PO := hide ho
  clear ho
  clear hk
  clear Y1 Y2 Y3 Y4 Y5 Y6 Y7 Y8
  go_upto_region 23 with fail
  go_cut [216] from 199 to 216 (fun c wx => c = .bool false ∧ Keeps (fun _ => False) w32 wx)
  case first =>
    have HB0 := hide (Keeps.refl (fun _ => False) w32)
    as_aux_lemma =>
      cases n1 : (ea == 0) with
      | false =>
        go_wp2_with fail
        go_meet
        exact ⟨rfl, unhide HB0⟩
      | true =>
        obtain ⟨m1, m2⟩ := unhide HDA (by simpa using n1)
        have n6 : (ka != 0) = false := by simp [m2]
        have M1 := hide m1
        clear m1 m2
        go_wp2_with fail
        refine (eqCode_w2 (unhide M1) _ _ _ (rowAt_own (unhide I1)) (unhide (HA _ (unhide HK32))) (unhide HLA)).mono ?_
        rintro e w33 ⟨rfl, hk⟩
        replace HB0 := hide ((unhide HB0).trans hk)
        replace OW := hide (ownsRow_kept (unhide OW) hk (fun _ _ => id))
        replace OL := hide (ownsRow_kept (unhide OL) hk (fun _ _ => id))
        replace WA := hide (ownsRow_kept (unhide WA) hk (fun _ _ => id))
        replace TW := hide (ownsRow_kept (unhide TW) hk (fun _ _ => id))
        replace X1 := hide (ownsRow_kept (unhide X1) hk (fun _ _ => id))
        replace T1 := hide (ownsRow_kept (unhide T1) hk (fun _ _ => id))
        replace I1 := hide (ownsRow_kept (unhide I1) hk (fun _ _ => id))
        replace J1 := hide (ownsRow_kept (unhide J1) hk (fun _ _ => id))
        replace X2 := hide (ownsRow_kept (unhide X2) hk (fun _ _ => id))
        replace T2 := hide (ownsRow_kept (unhide T2) hk (fun _ _ => id))
        replace XO := hide (ownsRow_kept (unhide XO) hk (fun _ _ => id))
        replace TO := hide (ownsRow_kept (unhide TO) hk (fun _ _ => id))
        replace IO := hide (ownsRow_kept (unhide IO) hk (fun _ _ => id))
        replace WO := hide (ownsRow_kept (unhide WO) hk (fun _ _ => id))
        replace PO := hide (ownsRow_kept (unhide PO) hk (fun _ _ => id))
        have s33 := (hk.cell (o := 0) hbs32 (id)).trans s32
        have hbs33 := Nat.lt_of_lt_of_le hbs32 hk.size
        have z33 := (hk.cell (o := 0) hbz32 (id)).trans z32
        have hbz33 := Nat.lt_of_lt_of_le hbz32 hk.size
        have HK33 := hide ((unhide HK32).trans hk)
        clear HK32 s32 hbs32 z32 hbz32
        clear hk
        go_wp2_with fail
        refine (eqCode_w2 (unhide M1) _ _ _ (rowAt_own (unhide J1)) (unhide (HA _ (unhide HK33))) (unhide HLA)).mono ?_
        rintro e w34 ⟨rfl, hk⟩
        replace HB0 := hide ((unhide HB0).trans hk)
        replace OW := hide (ownsRow_kept (unhide OW) hk (fun _ _ => id))
        replace OL := hide (ownsRow_kept (unhide OL) hk (fun _ _ => id))
        replace WA := hide (ownsRow_kept (unhide WA) hk (fun _ _ => id))
        replace TW := hide (ownsRow_kept (unhide TW) hk (fun _ _ => id))
        replace X1 := hide (ownsRow_kept (unhide X1) hk (fun _ _ => id))
        replace T1 := hide (ownsRow_kept (unhide T1) hk (fun _ _ => id))
        replace I1 := hide (ownsRow_kept (unhide I1) hk (fun _ _ => id))
        replace J1 := hide (ownsRow_kept (unhide J1) hk (fun _ _ => id))
        replace X2 := hide (ownsRow_kept (unhide X2) hk (fun _ _ => id))
        replace T2 := hide (ownsRow_kept (unhide T2) hk (fun _ _ => id))
        replace XO := hide (ownsRow_kept (unhide XO) hk (fun _ _ => id))
        replace TO := hide (ownsRow_kept (unhide TO) hk (fun _ _ => id))
        replace IO := hide (ownsRow_kept (unhide IO) hk (fun _ _ => id))
        replace WO := hide (ownsRow_kept (unhide WO) hk (fun _ _ => id))
        replace PO := hide (ownsRow_kept (unhide PO) hk (fun _ _ => id))
        have s34 := (hk.cell (o := 0) hbs33 (id)).trans s33
        have hbs34 := Nat.lt_of_lt_of_le hbs33 hk.size
        have z34 := (hk.cell (o := 0) hbz33 (id)).trans z33
        have hbz34 := Nat.lt_of_lt_of_le hbz33 hk.size
        have HK34 := hide ((unhide HK33).trans hk)
        clear HK33 s33 hbs33 z33 hbz33
        clear hk
        go_wp2_with fail
        go_meet
        exact ⟨rfl, unhide HB0⟩
  case rest =>
    obtain ⟨rfl, hk⟩ := hcut
    obtain ⟨w33, rfl⟩ : ∃ W, W = wc := ⟨_, rfl⟩
    replace OW := hide (ownsRow_kept (unhide OW) hk (fun _ _ => id))
    replace OL := hide (ownsRow_kept (unhide OL) hk (fun _ _ => id))
    replace WA := hide (ownsRow_kept (unhide WA) hk (fun _ _ => id))
    replace TW := hide (ownsRow_kept (unhide TW) hk (fun _ _ => id))
    replace X1 := hide (ownsRow_kept (unhide X1) hk (fun _ _ => id))
    replace T1 := hide (ownsRow_kept (unhide T1) hk (fun _ _ => id))
    replace I1 := hide (ownsRow_kept (unhide I1) hk (fun _ _ => id))
    replace J1 := hide (ownsRow_kept (unhide J1) hk (fun _ _ => id))
    replace X2 := hide (ownsRow_kept (unhide X2) hk (fun _ _ => id))
    replace T2 := hide (ownsRow_kept (unhide T2) hk (fun _ _ => id))
    replace XO := hide (ownsRow_kept (unhide XO) hk (fun _ _ => id))
    replace TO := hide (ownsRow_kept (unhide TO) hk (fun _ _ => id))
    replace IO := hide (ownsRow_kept (unhide IO) hk (fun _ _ => id))
    replace WO := hide (ownsRow_kept (unhide WO) hk (fun _ _ => id))
    replace PO := hide (ownsRow_kept (unhide PO) hk (fun _ _ => id))
    have s33 := (hk.cell (o := 0) hbs32 (id)).trans s32
    have hbs33 := Nat.lt_of_lt_of_le hbs32 hk.size
    have z33 := (hk.cell (o := 0) hbz32 (id)).trans z32
    have hbz33 := Nat.lt_of_lt_of_le hbz32 hk.size
    have HK33 := hide ((unhide HK32).trans hk)
    clear HK32 s32 hbs32 z32 hbz32
    clear hk
    go_upto_region 25 with fail
    go_cut [260] from 217 to 260 (fun c wx => c = .bool false ∧ Keeps (fun _ => False) w33 wx)
    case first =>
      have HB0 := hide (Keeps.refl (fun _ => False) w33)
      as_aux_lemma =>
        go_wp2_with fail
        refine (eqBytes_w _ _ _ (unhide X1) (unhide WA) hxa96).mono ?_
        rintro e w34 ⟨rfl, hk⟩
        replace HB0 := hide ((unhide HB0).trans hk)
        replace OW := hide (ownsRow_kept (unhide OW) hk (fun _ _ => id))
        replace OL := hide (ownsRow_kept (unhide OL) hk (fun _ _ => id))
        replace WA := hide (ownsRow_kept (unhide WA) hk (fun _ _ => id))
        replace TW := hide (ownsRow_kept (unhide TW) hk (fun _ _ => id))
        replace X1 := hide (ownsRow_kept (unhide X1) hk (fun _ _ => id))
        replace T1 := hide (ownsRow_kept (unhide T1) hk (fun _ _ => id))
        replace I1 := hide (ownsRow_kept (unhide I1) hk (fun _ _ => id))
        replace J1 := hide (ownsRow_kept (unhide J1) hk (fun _ _ => id))
        replace X2 := hide (ownsRow_kept (unhide X2) hk (fun _ _ => id))
        replace T2 := hide (ownsRow_kept (unhide T2) hk (fun _ _ => id))
        replace XO := hide (ownsRow_kept (unhide XO) hk (fun _ _ => id))
        replace TO := hide (ownsRow_kept (unhide TO) hk (fun _ _ => id))
        replace IO := hide (ownsRow_kept (unhide IO) hk (fun _ _ => id))
        replace WO := hide (ownsRow_kept (unhide WO) hk (fun _ _ => id))
        replace PO := hide (ownsRow_kept (unhide PO) hk (fun _ _ => id))
        have s34 := (hk.cell (o := 0) hbs33 (id)).trans s33
        have hbs34 := Nat.lt_of_lt_of_le hbs33 hk.size
        have z34 := (hk.cell (o := 0) hbz33 (id)).trans z33
        have hbz34 := Nat.lt_of_lt_of_le hbz33 hk.size
        have HK34 := hide ((unhide HK33).trans hk)
        clear HK33 s33 hbs33 z33 hbz33
        clear hk
        go_wp2_with fail
        refine (eqBytes_w _ _ _ (unhide X2) (unhide WA) hxa96).mono ?_
        rintro e w35 ⟨rfl, hk⟩
        replace HB0 := hide ((unhide HB0).trans hk)
        replace OW := hide (ownsRow_kept (unhide OW) hk (fun _ _ => id))
        replace OL := hide (ownsRow_kept (unhide OL) hk (fun _ _ => id))
        replace WA := hide (ownsRow_kept (unhide WA) hk (fun _ _ => id))
        replace TW := hide (ownsRow_kept (unhide TW) hk (fun _ _ => id))
        replace X1 := hide (ownsRow_kept (unhide X1) hk (fun _ _ => id))
        replace T1 := hide (ownsRow_kept (unhide T1) hk (fun _ _ => id))
        replace I1 := hide (ownsRow_kept (unhide I1) hk (fun _ _ => id))
        replace J1 := hide (ownsRow_kept (unhide J1) hk (fun _ _ => id))
        replace X2 := hide (ownsRow_kept (unhide X2) hk (fun _ _ => id))
        replace T2 := hide (ownsRow_kept (unhide T2) hk (fun _ _ => id))
        replace XO := hide (ownsRow_kept (unhide XO) hk (fun _ _ => id))
        replace TO := hide (ownsRow_kept (unhide TO) hk (fun _ _ => id))
        replace IO := hide (ownsRow_kept (unhide IO) hk (fun _ _ => id))
        replace WO := hide (ownsRow_kept (unhide WO) hk (fun _ _ => id))
        replace PO := hide (ownsRow_kept (unhide PO) hk (fun _ _ => id))
        have s35 := (hk.cell (o := 0) hbs34 (id)).trans s34
        have hbs35 := Nat.lt_of_lt_of_le hbs34 hk.size
        have z35 := (hk.cell (o := 0) hbz34 (id)).trans z34
        have hbz35 := Nat.lt_of_lt_of_le hbz34 hk.size
        have HK35 := hide ((unhide HK34).trans hk)
        clear HK34 s34 hbs34 z34 hbz34
        clear hk
        go_wp2_with fail
        refine (eqBytes_w _ _ _ (unhide XO) (unhide WO) hxb96).mono ?_
        rintro e w36 ⟨rfl, hk⟩
        replace HB0 := hide ((unhide HB0).trans hk)
        replace OW := hide (ownsRow_kept (unhide OW) hk (fun _ _ => id))
        replace OL := hide (ownsRow_kept (unhide OL) hk (fun _ _ => id))
        replace WA := hide (ownsRow_kept (unhide WA) hk (fun _ _ => id))
        replace TW := hide (ownsRow_kept (unhide TW) hk (fun _ _ => id))
        replace X1 := hide (ownsRow_kept (unhide X1) hk (fun _ _ => id))
        replace T1 := hide (ownsRow_kept (unhide T1) hk (fun _ _ => id))
        replace I1 := hide (ownsRow_kept (unhide I1) hk (fun _ _ => id))
        replace J1 := hide (ownsRow_kept (unhide J1) hk (fun _ _ => id))
        replace X2 := hide (ownsRow_kept (unhide X2) hk (fun _ _ => id))
        replace T2 := hide (ownsRow_kept (unhide T2) hk (fun _ _ => id))
        replace XO := hide (ownsRow_kept (unhide XO) hk (fun _ _ => id))
        replace TO := hide (ownsRow_kept (unhide TO) hk (fun _ _ => id))
        replace IO := hide (ownsRow_kept (unhide IO) hk (fun _ _ => id))
        replace WO := hide (ownsRow_kept (unhide WO) hk (fun _ _ => id))
        replace PO := hide (ownsRow_kept (unhide PO) hk (fun _ _ => id))
        have s36 := (hk.cell (o := 0) hbs35 (id)).trans s35
        have hbs36 := Nat.lt_of_lt_of_le hbs35 hk.size
        have z36 := (hk.cell (o := 0) hbz35 (id)).trans z35
        have hbz36 := Nat.lt_of_lt_of_le hbz35 hk.size
        have HK36 := hide ((unhide HK35).trans hk)
        clear HK35 s35 hbs35 z35 hbz35
        clear hk
        go_wp2_with fail
        refine (eqStrings_w _ _ _ (unhide T1) (unhide TW) (unhide HLa)).mono ?_
        rintro e w37 ⟨rfl, hk⟩
        replace HB0 := hide ((unhide HB0).trans hk)
        replace OW := hide (ownsRow_kept (unhide OW) hk (fun _ _ => id))
        replace OL := hide (ownsRow_kept (unhide OL) hk (fun _ _ => id))
        replace WA := hide (ownsRow_kept (unhide WA) hk (fun _ _ => id))
        replace TW := hide (ownsRow_kept (unhide TW) hk (fun _ _ => id))
        replace X1 := hide (ownsRow_kept (unhide X1) hk (fun _ _ => id))
        replace T1 := hide (ownsRow_kept (unhide T1) hk (fun _ _ => id))
        replace I1 := hide (ownsRow_kept (unhide I1) hk (fun _ _ => id))
        replace J1 := hide (ownsRow_kept (unhide J1) hk (fun _ _ => id))
        replace X2 := hide (ownsRow_kept (unhide X2) hk (fun _ _ => id))
        replace T2 := hide (ownsRow_kept (unhide T2) hk (fun _ _ => id))
        replace XO := hide (ownsRow_kept (unhide XO) hk (fun _ _ => id))
        replace TO := hide (ownsRow_kept (unhide TO) hk (fun _ _ => id))
        replace IO := hide (ownsRow_kept (unhide IO) hk (fun _ _ => id))
        replace WO := hide (ownsRow_kept (unhide WO) hk (fun _ _ => id))
        replace PO := hide (ownsRow_kept (unhide PO) hk (fun _ _ => id))
        have s37 := (hk.cell (o := 0) hbs36 (id)).trans s36
        have hbs37 := Nat.lt_of_lt_of_le hbs36 hk.size
        have z37 := (hk.cell (o := 0) hbz36 (id)).trans z36
        have hbz37 := Nat.lt_of_lt_of_le hbz36 hk.size
        have HK37 := hide ((unhide HK36).trans hk)
        clear HK36 s36 hbs36 z36 hbz36
        clear hk
        go_wp2_with fail
        refine (eqStrings_w _ _ _ (unhide T2) (unhide TW) (unhide HLa)).mono ?_
        rintro e w38 ⟨rfl, hk⟩
        replace HB0 := hide ((unhide HB0).trans hk)
        replace OW := hide (ownsRow_kept (unhide OW) hk (fun _ _ => id))
        replace OL := hide (ownsRow_kept (unhide OL) hk (fun _ _ => id))
        replace WA := hide (ownsRow_kept (unhide WA) hk (fun _ _ => id))
        replace TW := hide (ownsRow_kept (unhide TW) hk (fun _ _ => id))
        replace X1 := hide (ownsRow_kept (unhide X1) hk (fun _ _ => id))
        replace T1 := hide (ownsRow_kept (unhide T1) hk (fun _ _ => id))
        replace I1 := hide (ownsRow_kept (unhide I1) hk (fun _ _ => id))
        replace J1 := hide (ownsRow_kept (unhide J1) hk (fun _ _ => id))
        replace X2 := hide (ownsRow_kept (unhide X2) hk (fun _ _ => id))
        replace T2 := hide (ownsRow_kept (unhide T2) hk (fun _ _ => id))
        replace XO := hide (ownsRow_kept (unhide XO) hk (fun _ _ => id))
        replace TO := hide (ownsRow_kept (unhide TO) hk (fun _ _ => id))
        replace IO := hide (ownsRow_kept (unhide IO) hk (fun _ _ => id))
        replace WO := hide (ownsRow_kept (unhide WO) hk (fun _ _ => id))
        replace PO := hide (ownsRow_kept (unhide PO) hk (fun _ _ => id))
        have s38 := (hk.cell (o := 0) hbs37 (id)).trans s37
        have hbs38 := Nat.lt_of_lt_of_le hbs37 hk.size
        have z38 := (hk.cell (o := 0) hbz37 (id)).trans z37
        have hbz38 := Nat.lt_of_lt_of_le hbz37 hk.size
        have HK38 := hide ((unhide HK37).trans hk)
        clear HK37 s37 hbs37 z37 hbz37
        clear hk
        go_wp2_with fail
        refine (eqStrings_w _ _ _ (unhide TO) (unhide PO) (unhide HLb)).mono ?_
        rintro e w39 ⟨rfl, hk⟩
        replace HB0 := hide ((unhide HB0).trans hk)
        replace OW := hide (ownsRow_kept (unhide OW) hk (fun _ _ => id))
        replace OL := hide (ownsRow_kept (unhide OL) hk (fun _ _ => id))
        replace WA := hide (ownsRow_kept (unhide WA) hk (fun _ _ => id))
        replace TW := hide (ownsRow_kept (unhide TW) hk (fun _ _ => id))
        replace X1 := hide (ownsRow_kept (unhide X1) hk (fun _ _ => id))
        replace T1 := hide (ownsRow_kept (unhide T1) hk (fun _ _ => id))
        replace I1 := hide (ownsRow_kept (unhide I1) hk (fun _ _ => id))
        replace J1 := hide (ownsRow_kept (unhide J1) hk (fun _ _ => id))
        replace X2 := hide (ownsRow_kept (unhide X2) hk (fun _ _ => id))
        replace T2 := hide (ownsRow_kept (unhide T2) hk (fun _ _ => id))
        replace XO := hide (ownsRow_kept (unhide XO) hk (fun _ _ => id))
        replace TO := hide (ownsRow_kept (unhide TO) hk (fun _ _ => id))
        replace IO := hide (ownsRow_kept (unhide IO) hk (fun _ _ => id))
        replace WO := hide (ownsRow_kept (unhide WO) hk (fun _ _ => id))
        replace PO := hide (ownsRow_kept (unhide PO) hk (fun _ _ => id))
        have s39 := (hk.cell (o := 0) hbs38 (id)).trans s38
        have hbs39 := Nat.lt_of_lt_of_le hbs38 hk.size
        have z39 := (hk.cell (o := 0) hbz38 (id)).trans z38
        have hbz39 := Nat.lt_of_lt_of_le hbz38 hk.size
        have HK39 := hide ((unhide HK38).trans hk)
        clear HK38 s38 hbs38 z38 hbz38
        clear hk
        cases n1 : (eb == 0) with
        | false =>
          go_wp2_with fail
          go_meet
          exact ⟨rfl, unhide HB0⟩
        | true =>
          obtain ⟨m1, m2⟩ := unhide HDB (by simpa using n1)
          have M1 := hide m1
          clear m1 m2
          go_wp2_with fail
          refine (eqCode_w2 (unhide M1) _ _ _ (rowAt_own (unhide IO)) (unhide (HB _ (unhide HK39))) (unhide HLB)).mono ?_
          rintro e w40 ⟨rfl, hk⟩
          replace HB0 := hide ((unhide HB0).trans hk)
          replace OW := hide (ownsRow_kept (unhide OW) hk (fun _ _ => id))
          replace OL := hide (ownsRow_kept (unhide OL) hk (fun _ _ => id))
          replace WA := hide (ownsRow_kept (unhide WA) hk (fun _ _ => id))
          replace TW := hide (ownsRow_kept (unhide TW) hk (fun _ _ => id))
          replace X1 := hide (ownsRow_kept (unhide X1) hk (fun _ _ => id))
          replace T1 := hide (ownsRow_kept (unhide T1) hk (fun _ _ => id))
          replace I1 := hide (ownsRow_kept (unhide I1) hk (fun _ _ => id))
          replace J1 := hide (ownsRow_kept (unhide J1) hk (fun _ _ => id))
          replace X2 := hide (ownsRow_kept (unhide X2) hk (fun _ _ => id))
          replace T2 := hide (ownsRow_kept (unhide T2) hk (fun _ _ => id))
          replace XO := hide (ownsRow_kept (unhide XO) hk (fun _ _ => id))
          replace TO := hide (ownsRow_kept (unhide TO) hk (fun _ _ => id))
          replace IO := hide (ownsRow_kept (unhide IO) hk (fun _ _ => id))
          replace WO := hide (ownsRow_kept (unhide WO) hk (fun _ _ => id))
          replace PO := hide (ownsRow_kept (unhide PO) hk (fun _ _ => id))
          have s40 := (hk.cell (o := 0) hbs39 (id)).trans s39
          have hbs40 := Nat.lt_of_lt_of_le hbs39 hk.size
          have z40 := (hk.cell (o := 0) hbz39 (id)).trans z39
          have hbz40 := Nat.lt_of_lt_of_le hbz39 hk.size
          have HK40 := hide ((unhide HK39).trans hk)
          clear HK39 s39 hbs39 z39 hbz39
          clear hk
          go_wp2_with fail
          go_meet
          exact ⟨rfl, unhide HB0⟩
    case rest =>
      obtain ⟨rfl, hk⟩ := hcut
      obtain ⟨w34, rfl⟩ : ∃ W, W = wc := ⟨_, rfl⟩
      replace OW := hide (ownsRow_kept (unhide OW) hk (fun _ _ => id))
      replace OL := hide (ownsRow_kept (unhide OL) hk (fun _ _ => id))
      replace WA := hide (ownsRow_kept (unhide WA) hk (fun _ _ => id))
      replace TW := hide (ownsRow_kept (unhide TW) hk (fun _ _ => id))
      replace X1 := hide (ownsRow_kept (unhide X1) hk (fun _ _ => id))
      replace T1 := hide (ownsRow_kept (unhide T1) hk (fun _ _ => id))
      replace I1 := hide (ownsRow_kept (unhide I1) hk (fun _ _ => id))
      replace J1 := hide (ownsRow_kept (unhide J1) hk (fun _ _ => id))
      replace X2 := hide (ownsRow_kept (unhide X2) hk (fun _ _ => id))
      replace T2 := hide (ownsRow_kept (unhide T2) hk (fun _ _ => id))
      replace XO := hide (ownsRow_kept (unhide XO) hk (fun _ _ => id))
      replace TO := hide (ownsRow_kept (unhide TO) hk (fun _ _ => id))
      replace IO := hide (ownsRow_kept (unhide IO) hk (fun _ _ => id))
      replace WO := hide (ownsRow_kept (unhide WO) hk (fun _ _ => id))
      replace PO := hide (ownsRow_kept (unhide PO) hk (fun _ _ => id))
      have s34 := (hk.cell (o := 0) hbs33 (id)).trans s33
      have hbs34 := Nat.lt_of_lt_of_le hbs33 hk.size
      have z34 := (hk.cell (o := 0) hbz33 (id)).trans z33
      have hbz34 := Nat.lt_of_lt_of_le hbz33 hk.size
      have HK34 := hide ((unhide HK33).trans hk)
      clear HK33 s33 hbs33 z33 hbz33
      clear hk
      clear IO
      go_wp2_with fail
      go_loopw [39] (fun i wr => ∃ j : Nat, j ≤ xa.length ∧ i = .int .i64 (j : Int) ∧ Hid (wr.ownsRow w.heap.size 5 1 (.slice o3 xa.length c3) xa.length (bs (overL xa 238 j))) ∧ Hid (Keeps (fun q => (Value.slice o3 xa.length c3).ownBlock = some q) w34 wr)) (fun i _ => xa.length - (intOf i).toNat)
      case atStart => exact ⟨0, Nat.zero_le _, rfl, by rw [overL_zero]; exact X1, hide (Keeps.refl _ _)⟩
      case round =>
        obtain ⟨j, hj, rfl, HO_, HL_⟩ := hrel
        by_cases hlt : j < xa.length
        · as_aux_lemma =>
            obtain ⟨g, rfl, hcap⟩ := own_some (unhide HO_) (by omega)
            have hro := unhide HO_
            have hlen : (bs (overL xa 238 j)).length = xa.length := by rw [bs_length, overL_len hj]
            have f0 := hro.frozenAt j
            obtain ⟨dd0, z0⟩ : ∃ dd, wr.cell? ⟨g, j, none⟩ = some dd := ⟨_, (hro.cellAt j (by omega)).trans (List.getElem?_eq_getElem (by omega))⟩
            have HN_ : Hid ((wr.setCell ⟨g, j, none⟩ (.int .u8 238)).ownsRow w.heap.size 5 1 (.slice (some ⟨g, 0, none⟩) xa.length c3) xa.length (bs (overL xa 238 (j + 1)))) := by
              show World.ownsRow _ _ _ _ _ _ _
              rw [← overL_set hlt, bs_setL]
              exact (hro.stored j _).1
            have HKN_ := hide ((unhide HL_).setCell (p := ⟨g, j, none⟩) (fun _ => rfl) (.int .u8 238))
            clear hlen
            have i1 : (j : Int) < (xa.length : Int) := by omega
            have i2 : (0 : Int) ≤ (j : Int) := by omega
            clear hro HO_ HL_
            go_wp2_with fail
            go_roundw
            case rel => exact ⟨j + 1, by omega, by go_num, HN_, HKN_⟩
            case measure => simp [intOf]; omega
        · as_aux_lemma =>
            obtain rfl : j = xa.length := by omega
            have i1 : ¬ ((xa.length : Int) < (xa.length : Int)) := by omega
            have ho := unhide HO_
            have hk := unhide HL_
            clear HO_ HL_ hlt hj
            rw [overL_end, ← unhide HXE] at ho
            obtain ⟨w35, rfl⟩ : ∃ W, W = wr := ⟨_, rfl⟩
            replace OW := hide (ownsRow_kept (unhide OW) hk (fun q e h => own_apart (unhide OW) (unhide X1) (by decide) q e h))
            replace OL := hide (ownsRow_kept (unhide OL) hk (fun q e h => own_apart (unhide OL) (unhide X1) (by decide) q e h))
            replace WA := hide (ownsRow_kept (unhide WA) hk (fun q e h => unhide SWAX1 q e h))
            replace TW := hide (ownsRow_kept (unhide TW) hk (fun q e h => own_apart (unhide TW) (unhide X1) (by decide) q e h))
            replace T1 := hide (ownsRow_kept (unhide T1) hk (fun q e h => own_apart (unhide T1) (unhide X1) (by decide) q e h))
            replace I1 := hide (ownsRow_kept (unhide I1) hk (fun q e h => own_apart (unhide I1) (unhide X1) (by decide) q e h))
            replace J1 := hide (ownsRow_kept (unhide J1) hk (fun q e h => own_apart (unhide J1) (unhide X1) (by decide) q e h))
            replace X2 := hide (ownsRow_kept (unhide X2) hk (fun q e h => unhide SX1X2 q h e))
            replace T2 := hide (ownsRow_kept (unhide T2) hk (fun q e h => own_apart (unhide T2) (unhide X1) (by decide) q e h))
            replace XO := hide (ownsRow_kept (unhide XO) hk (fun q e h => unhide SX1XO q h e))
            replace TO := hide (ownsRow_kept (unhide TO) hk (fun q e h => own_apart (unhide TO) (unhide X1) (by decide) q e h))
            replace WO := hide (ownsRow_kept (unhide WO) hk (fun q e h => unhide SX1WO q h e))
            replace PO := hide (ownsRow_kept (unhide PO) hk (fun q e h => own_apart (unhide PO) (unhide X1) (by decide) q e h))
            have s35 := (hk.cell (o := 0) hbs34 (fun h => Nat.lt_irrefl _ (unhide NBX1 _ h).1)).trans s34
            have hbs35 := Nat.lt_of_lt_of_le hbs34 hk.size
            have z35 := (hk.cell (o := 0) hbz34 (fun h => Nat.lt_irrefl _ (unhide NBX1 _ h).2)).trans z34
            have hbz35 := Nat.lt_of_lt_of_le hbz34 hk.size
            have HK35 := hide (narrowO (unhide HK34) hk (fun q h => Nat.le_of_lt (unhide NBX1 q h).1))
            clear HK34 s34 hbs34 z34 hbz34
            clear X1
            have X1 := hide ho
            clear ho hk
            go_wp2_with fail
            go_loopw [40] (fun i wr => ∃ j : Nat, j ≤ ta.length ∧ i = .int .i64 (j : Int) ∧ Hid (wr.ownsRow w.heap.size 9 1 (.slice o4 ta.length c4) ta.length ((overL ta mineT j).map str)) ∧ Hid (Keeps (fun q => (Value.slice o4 ta.length c4).ownBlock = some q) w35 wr)) (fun i _ => ta.length - (intOf i).toNat)
            case atStart => exact ⟨0, Nat.zero_le _, rfl, by rw [overL_zero]; exact T1, hide (Keeps.refl _ _)⟩
            case round =>
              obtain ⟨j, hj, rfl, HO_, HL_⟩ := hrel
              by_cases hlt : j < ta.length
              · as_aux_lemma =>
                  obtain ⟨g, rfl, hcap⟩ := own_some (unhide HO_) (by omega)
                  have hro := unhide HO_
                  have hta100 := unhide HTA100
                  have hlen : ((overL ta mineT j).map str).length = ta.length := by rw [List.length_map, overL_len hj]
                  have f0 := hro.frozenAt j
                  obtain ⟨dd0, z0⟩ : ∃ dd, wr.cell? ⟨g, j, none⟩ = some dd := ⟨_, (hro.cellAt j (by omega)).trans (List.getElem?_eq_getElem (by omega))⟩
                  have HN_ : Hid ((wr.setCell ⟨g, j, none⟩ (.string ⟨#[109, 105, 110, 101]⟩)).ownsRow w.heap.size 9 1 (.slice (some ⟨g, 0, none⟩) ta.length c4) ta.length ((overL ta mineT (j + 1)).map str)) := by
                    show World.ownsRow _ _ _ _ _ _ _
                    rw [← overL_set hlt, str_setL]
                    exact (hro.stored j _).1
                  have HKN_ := hide ((unhide HL_).setCell (p := ⟨g, j, none⟩) (fun _ => rfl) (.string ⟨#[109, 105, 110, 101]⟩))
                  clear hlen
                  have i1 : (j : Int) < (ta.length : Int) := by omega
                  have i2 : (0 : Int) ≤ (j : Int) := by omega
                  clear hro HO_ HL_
                  go_wp2_with fail
                  go_roundw
                  case rel => exact ⟨j + 1, by omega, by go_num, HN_, HKN_⟩
                  case measure => simp [intOf]; omega
              · as_aux_lemma =>
                  obtain rfl : j = ta.length := by omega
                  have i1 : ¬ ((ta.length : Int) < (ta.length : Int)) := by omega
                  have ho := unhide HO_
                  have hk := unhide HL_
                  clear HO_ HL_ hlt hj
                  rw [overL_end, ← unhide HTE] at ho
                  obtain ⟨w36, rfl⟩ : ∃ W, W = wr := ⟨_, rfl⟩
                  replace OW := hide (ownsRow_kept (unhide OW) hk (fun q e h => own_apart (unhide OW) (unhide T1) (by decide) q e h))
                  replace OL := hide (ownsRow_kept (unhide OL) hk (fun q e h => own_apart (unhide OL) (unhide T1) (by decide) q e h))
                  replace WA := hide (ownsRow_kept (unhide WA) hk (fun q e h => own_apart (unhide WA) (unhide T1) (by decide) q e h))
                  replace TW := hide (ownsRow_kept (unhide TW) hk (fun q e h => unhide STWT1 q e h))
                  replace X1 := hide (ownsRow_kept (unhide X1) hk (fun q e h => own_apart (unhide X1) (unhide T1) (by decide) q e h))
                  replace I1 := hide (ownsRow_kept (unhide I1) hk (fun q e h => own_apart (unhide I1) (unhide T1) (by decide) q e h))
                  replace J1 := hide (ownsRow_kept (unhide J1) hk (fun q e h => own_apart (unhide J1) (unhide T1) (by decide) q e h))
                  replace X2 := hide (ownsRow_kept (unhide X2) hk (fun q e h => own_apart (unhide X2) (unhide T1) (by decide) q e h))
                  replace T2 := hide (ownsRow_kept (unhide T2) hk (fun q e h => unhide ST1T2 q h e))
                  replace XO := hide (ownsRow_kept (unhide XO) hk (fun q e h => own_apart (unhide XO) (unhide T1) (by decide) q e h))
                  replace TO := hide (ownsRow_kept (unhide TO) hk (fun q e h => unhide ST1TO q h e))
                  replace WO := hide (ownsRow_kept (unhide WO) hk (fun q e h => own_apart (unhide WO) (unhide T1) (by decide) q e h))
                  replace PO := hide (ownsRow_kept (unhide PO) hk (fun q e h => unhide ST1PO q h e))
                  have s36 := (hk.cell (o := 0) hbs35 (fun h => Nat.lt_irrefl _ (unhide NBT1 _ h).1)).trans s35
                  have hbs36 := Nat.lt_of_lt_of_le hbs35 hk.size
                  have z36 := (hk.cell (o := 0) hbz35 (fun h => Nat.lt_irrefl _ (unhide NBT1 _ h).2)).trans z35
                  have hbz36 := Nat.lt_of_lt_of_le hbz35 hk.size
                  have HK36 := hide (narrowO (unhide HK35) hk (fun q h => Nat.le_of_lt (unhide NBT1 q h).1))
                  clear HK35 s35 hbs35 z35 hbz35
                  clear T1
                  have T1 := hide ho
                  clear ho hk
                  go_wp2_with fail
                  go_loopw [41] (fun i wr => ∃ j : Nat, j ≤ la.length ∧ i = .int .i64 (j : Int) ∧ Hid (wr.ownsRow w.heap.size 51 3 (.slice (some ⟨gi, 0, none⟩) (la.length + 2) (la.length + 2)) (la.length + 2) (vcs (overL la c55 j ++ [(⟨77, 0, spareTx⟩ : ValA), ⟨78, 0, []⟩]))) ∧ Hid (Keeps (fun q => (Value.slice (some ⟨gi, 0, none⟩) (la.length + 2) (la.length + 2)).ownBlock = some q) w36 wr)) (fun i _ => la.length - (intOf i).toNat)
                  case atStart => exact ⟨0, Nat.zero_le _, rfl, by rw [overL_zero]; exact OW, hide (Keeps.refl _ _)⟩
                  case round =>
                    obtain ⟨j, hj, rfl, HO_, HL_⟩ := hrel
                    by_cases hlt : j < la.length
                    · as_aux_lemma =>
                        have hro := unhide HO_
                        have hlen : (overL la c55 j ++ [(⟨77, 0, spareTx⟩ : ValA), ⟨78, 0, []⟩]).length = la.length + 2 := by rw [List.length_append, overL_len hj]; rfl
                        obtain ⟨⟨dd0, z0⟩, ⟨dd1, z1⟩, ⟨dd2, z2⟩, f0, f1, f2⟩ := ins_cells hro j (by omega)
                        have HN_ : Hid ((((wr.setCell ⟨gi, j * 3, none⟩ (.int .i64 55)).setCell ⟨gi, j * 3 + 1, none⟩ (.int .i64 0)).setCell ⟨gi, j * 3 + 2, none⟩ (.string ⟨#[]⟩)).ownsRow w.heap.size 51 3 (.slice (some ⟨gi, 0, none⟩) (la.length + 2) (la.length + 2)) (la.length + 2) (vcs (overL la c55 (j + 1) ++ [(⟨77, 0, spareTx⟩ : ValA), ⟨78, 0, []⟩]))) := by
                          show World.ownsRow _ _ _ _ _ _ _
                          exact ins_set hro j c55 hlen (by rw [List.set_append_left _ _ (by rw [overL_len hj]; exact hlt), overL_set hlt])
                        have HKN_ := hide ((unhide HL_).set3 gi (j * 3) (j * 3 + 1) (j * 3 + 2) (.int .i64 55) (.int .i64 0) (.string ⟨#[]⟩) (fun _ => rfl))
                        have i3 : (j : Int) < (la.length : Int) + 2 := by omega
                        clear hlen
                        have i1 : (j : Int) < (la.length : Int) := by omega
                        have i2 : (0 : Int) ≤ (j : Int) := by omega
                        clear hro HO_ HL_
                        go_wp2_with fail
                        go_roundw
                        case rel => exact ⟨j + 1, by omega, by go_num, HN_, HKN_⟩
                        case measure => simp [intOf]; omega
                    · as_aux_lemma =>
                        obtain rfl : j = la.length := by omega
                        have i1 : ¬ ((la.length : Int) < (la.length : Int)) := by omega
                        have ho := unhide HO_
                        have hk := unhide HL_
                        clear HO_ HL_ hlt hj
                        rw [overL_end, ← unhide HL5] at ho
                        obtain ⟨w37, rfl⟩ : ∃ W, W = wr := ⟨_, rfl⟩
                        replace OL := hide (ownsRow_kept (unhide OL) hk (fun q e h => own_apart (unhide OL) (unhide OW) (by decide) q e h))
                        replace WA := hide (ownsRow_kept (unhide WA) hk (fun q e h => own_apart (unhide WA) (unhide OW) (by decide) q e h))
                        replace TW := hide (ownsRow_kept (unhide TW) hk (fun q e h => own_apart (unhide TW) (unhide OW) (by decide) q e h))
                        replace X1 := hide (ownsRow_kept (unhide X1) hk (fun q e h => own_apart (unhide X1) (unhide OW) (by decide) q e h))
                        replace T1 := hide (ownsRow_kept (unhide T1) hk (fun q e h => own_apart (unhide T1) (unhide OW) (by decide) q e h))
                        replace I1 := hide (ownsRow_kept (unhide I1) hk (fun q e h => unhide SOWI1 q h e))
                        replace J1 := hide (ownsRow_kept (unhide J1) hk (fun q e h => unhide SOWJ1 q h e))
                        replace X2 := hide (ownsRow_kept (unhide X2) hk (fun q e h => own_apart (unhide X2) (unhide OW) (by decide) q e h))
                        replace T2 := hide (ownsRow_kept (unhide T2) hk (fun q e h => own_apart (unhide T2) (unhide OW) (by decide) q e h))
                        replace XO := hide (ownsRow_kept (unhide XO) hk (fun q e h => own_apart (unhide XO) (unhide OW) (by decide) q e h))
                        replace TO := hide (ownsRow_kept (unhide TO) hk (fun q e h => own_apart (unhide TO) (unhide OW) (by decide) q e h))
                        replace WO := hide (ownsRow_kept (unhide WO) hk (fun q e h => own_apart (unhide WO) (unhide OW) (by decide) q e h))
                        replace PO := hide (ownsRow_kept (unhide PO) hk (fun q e h => own_apart (unhide PO) (unhide OW) (by decide) q e h))
                        have s37 := (hk.cell (o := 0) hbs36 (fun h => Nat.lt_irrefl _ (unhide NBOW _ h).1)).trans s36
                        have hbs37 := Nat.lt_of_lt_of_le hbs36 hk.size
                        have z37 := (hk.cell (o := 0) hbz36 (fun h => Nat.lt_irrefl _ (unhide NZOW _ h))).trans z36
                        have hbz37 := Nat.lt_of_lt_of_le hbz36 hk.size
                        have HK37 := hide (narrowO (unhide HK36) hk (fun q h => Nat.le_of_lt (unhide NBOW q h).1))
                        clear HK36 s36 hbs36 z36 hbz36
                        clear OW
                        have OW := hide ho
                        clear ho hk
                        go_wp2_with fail
                        refine (encode_w (unhide HX5) _ _ (unhide (HO _ (unhide HK37))) (unhide (HT _ (unhide HK37))) (wide_two (unhide OW) (unhide HL5L)) (unhide HI5)).mono ?_
                        rintro e w38 ⟨u1, y1, rfl, ho, hk⟩
                        replace OW := hide (ownsRow_kept (unhide OW) hk (fun _ _ => id))
                        replace OL := hide (ownsRow_kept (unhide OL) hk (fun _ _ => id))
                        replace WA := hide (ownsRow_kept (unhide WA) hk (fun _ _ => id))
                        replace TW := hide (ownsRow_kept (unhide TW) hk (fun _ _ => id))
                        replace X1 := hide (ownsRow_kept (unhide X1) hk (fun _ _ => id))
                        replace T1 := hide (ownsRow_kept (unhide T1) hk (fun _ _ => id))
                        replace I1 := hide (ownsRow_kept (unhide I1) hk (fun _ _ => id))
                        replace J1 := hide (ownsRow_kept (unhide J1) hk (fun _ _ => id))
                        replace X2 := hide (ownsRow_kept (unhide X2) hk (fun _ _ => id))
                        replace T2 := hide (ownsRow_kept (unhide T2) hk (fun _ _ => id))
                        replace XO := hide (ownsRow_kept (unhide XO) hk (fun _ _ => id))
                        replace TO := hide (ownsRow_kept (unhide TO) hk (fun _ _ => id))
                        replace WO := hide (ownsRow_kept (unhide WO) hk (fun _ _ => id))
                        replace PO := hide (ownsRow_kept (unhide PO) hk (fun _ _ => id))
                        have s38 := (hk.cell (o := 0) hbs37 (id)).trans s37
                        have hbs38 := Nat.lt_of_lt_of_le hbs37 hk.size
                        have z38 := (hk.cell (o := 0) hbz37 (id)).trans z37
                        have hbz38 := Nat.lt_of_lt_of_le hbz37 hk.size
                        have HK38 := hide ((unhide HK37).trans hk)
                        clear HK37 s37 hbs37 z37 hbz37
                        have RA := hide ho
                        clear ho
                        clear hk
                        go_wp2_with fail
                        refine (copied_w _ _ (wide_two (unhide OW) (unhide HL5L)) (by rw [unhide HL5L]; exact unhide HLA)).mono ?_
                        rintro e w39 ⟨u2, y2, rfl, ho, hk⟩
                        replace OW := hide (ownsRow_kept (unhide OW) hk (fun _ _ => id))
                        replace OL := hide (ownsRow_kept (unhide OL) hk (fun _ _ => id))
                        replace WA := hide (ownsRow_kept (unhide WA) hk (fun _ _ => id))
                        replace TW := hide (ownsRow_kept (unhide TW) hk (fun _ _ => id))
                        replace X1 := hide (ownsRow_kept (unhide X1) hk (fun _ _ => id))
                        replace T1 := hide (ownsRow_kept (unhide T1) hk (fun _ _ => id))
                        replace I1 := hide (ownsRow_kept (unhide I1) hk (fun _ _ => id))
                        replace J1 := hide (ownsRow_kept (unhide J1) hk (fun _ _ => id))
                        replace X2 := hide (ownsRow_kept (unhide X2) hk (fun _ _ => id))
                        replace T2 := hide (ownsRow_kept (unhide T2) hk (fun _ _ => id))
                        replace XO := hide (ownsRow_kept (unhide XO) hk (fun _ _ => id))
                        replace TO := hide (ownsRow_kept (unhide TO) hk (fun _ _ => id))
                        replace WO := hide (ownsRow_kept (unhide WO) hk (fun _ _ => id))
                        replace PO := hide (ownsRow_kept (unhide PO) hk (fun _ _ => id))
                        replace RA := hide (ownsRow_kept (unhide RA) hk (fun _ _ => id))
                        have s39 := (hk.cell (o := 0) hbs38 (id)).trans s38
                        have hbs39 := Nat.lt_of_lt_of_le hbs38 hk.size
                        have z39 := (hk.cell (o := 0) hbz38 (id)).trans z38
                        have hbz39 := Nat.lt_of_lt_of_le hbz38 hk.size
                        have HK39 := hide ((unhide HK38).trans hk)
                        clear HK38 s38 hbs38 z38 hbz38
                        have RB := hide ho
                        clear ho
                        clear hk
                        go_wp2_with fail
                        refine (refEncode_w (unhide HX5) _ _ (rowAt_own (unhide RB)) (unhide HI5)).mono ?_
                        rintro e w40 ⟨u3, y3, rfl, ho, hk⟩
                        replace OW := hide (ownsRow_kept (unhide OW) hk (fun _ _ => id))
                        replace OL := hide (ownsRow_kept (unhide OL) hk (fun _ _ => id))
                        replace WA := hide (ownsRow_kept (unhide WA) hk (fun _ _ => id))
                        replace TW := hide (ownsRow_kept (unhide TW) hk (fun _ _ => id))
                        replace X1 := hide (ownsRow_kept (unhide X1) hk (fun _ _ => id))
                        replace T1 := hide (ownsRow_kept (unhide T1) hk (fun _ _ => id))
                        replace I1 := hide (ownsRow_kept (unhide I1) hk (fun _ _ => id))
                        replace J1 := hide (ownsRow_kept (unhide J1) hk (fun _ _ => id))
                        replace X2 := hide (ownsRow_kept (unhide X2) hk (fun _ _ => id))
                        replace T2 := hide (ownsRow_kept (unhide T2) hk (fun _ _ => id))
                        replace XO := hide (ownsRow_kept (unhide XO) hk (fun _ _ => id))
                        replace TO := hide (ownsRow_kept (unhide TO) hk (fun _ _ => id))
                        replace WO := hide (ownsRow_kept (unhide WO) hk (fun _ _ => id))
                        replace PO := hide (ownsRow_kept (unhide PO) hk (fun _ _ => id))
                        replace RA := hide (ownsRow_kept (unhide RA) hk (fun _ _ => id))
                        replace RB := hide (ownsRow_kept (unhide RB) hk (fun _ _ => id))
                        have s40 := (hk.cell (o := 0) hbs39 (id)).trans s39
                        have hbs40 := Nat.lt_of_lt_of_le hbs39 hk.size
                        have z40 := (hk.cell (o := 0) hbz39 (id)).trans z39
                        have hbz40 := Nat.lt_of_lt_of_le hbz39 hk.size
                        have HK40 := hide ((unhide HK39).trans hk)
                        clear HK39 s39 hbs39 z39 hbz39
                        have RC := hide ho
                        clear ho
                        clear hk
                        go_wp2_with fail
                        refine (types_w (unhide HT5) (unhide HQ5) _ _ _ _ (unhide (HO _ (unhide HK40))) (unhide (HT _ (unhide HK40))) (lent_in (unhide OL)) (wide_two (unhide OW) (unhide HL5L)) (unhide HI5)).mono ?_
                        rintro e w41 ⟨u4, y4, rfl, ho, hk⟩
                        replace OW := hide (ownsRow_kept (unhide OW) hk (fun _ _ => id))
                        replace OL := hide (ownsRow_kept (unhide OL) hk (fun _ _ => id))
                        replace WA := hide (ownsRow_kept (unhide WA) hk (fun _ _ => id))
                        replace TW := hide (ownsRow_kept (unhide TW) hk (fun _ _ => id))
                        replace X1 := hide (ownsRow_kept (unhide X1) hk (fun _ _ => id))
                        replace T1 := hide (ownsRow_kept (unhide T1) hk (fun _ _ => id))
                        replace I1 := hide (ownsRow_kept (unhide I1) hk (fun _ _ => id))
                        replace J1 := hide (ownsRow_kept (unhide J1) hk (fun _ _ => id))
                        replace X2 := hide (ownsRow_kept (unhide X2) hk (fun _ _ => id))
                        replace T2 := hide (ownsRow_kept (unhide T2) hk (fun _ _ => id))
                        replace XO := hide (ownsRow_kept (unhide XO) hk (fun _ _ => id))
                        replace TO := hide (ownsRow_kept (unhide TO) hk (fun _ _ => id))
                        replace WO := hide (ownsRow_kept (unhide WO) hk (fun _ _ => id))
                        replace PO := hide (ownsRow_kept (unhide PO) hk (fun _ _ => id))
                        replace RA := hide (ownsRow_kept (unhide RA) hk (fun _ _ => id))
                        replace RB := hide (ownsRow_kept (unhide RB) hk (fun _ _ => id))
                        replace RC := hide (ownsRow_kept (unhide RC) hk (fun _ _ => id))
                        have s41 := (hk.cell (o := 0) hbs40 (id)).trans s40
                        have hbs41 := Nat.lt_of_lt_of_le hbs40 hk.size
                        have z41 := (hk.cell (o := 0) hbz40 (id)).trans z40
                        have hbz41 := Nat.lt_of_lt_of_le hbz40 hk.size
                        have HK41 := hide ((unhide HK40).trans hk)
                        clear HK40 s40 hbs40 z40 hbz40
                        have RD := hide ho
                        clear ho
                        clear hk
                        clear RB
                        go_upto_region 42 with fail
                        go_cut [48, 49] from 306 to 312 (fun a b wx => ∃ o c, a = .slice o t5.length c ∧ b = .int .i64 q5 ∧ wx.ownsRow w41.heap.size 9 1 (.slice o t5.length c) t5.length (t5.map str) ∧ Keeps (fun _ => False) w41 wx)
                        case first =>
                          as_aux_lemma =>
                            have V5 := fun (W : World) (hk : Keeps (fun _ => False) w41 W) => hide (ValsAt.keepF (wide_two (unhide OW) (unhide HL5L)) hk)
                            have L5 : Hid (l5.length + 2 ≤ 4398046511104) := by show _ ≤ _; rw [unhide HL5L]; exact unhide HLA
                            have S5 := fun (W : World) (hk : Keeps (fun _ => False) w41 W) => hide ((unhide (HS _ (unhide HK41))).keepF hk)
                            have C5 := fun (W : World) (hk : Keeps (fun _ => False) w41 W) => (hk.cell (o := 0) hbs41 id).trans s41
                            have KD := (Keeps.refl (fun _ => False) w41).drew
                            go_region_with (first | (go_at_call 19; refine (copied_w _ _ (unhide (V5 _ KD)) (unhide L5)).mono ?_; rintro e W1 ⟨m1, n1, rfl, ho1, hk1⟩; have KW := KD.trans hk1; have CW := C5 _ KW; have HO1 := hide ho1; have HKW := hide KW; clear ho1 hk1 KW) | (go_at_call 7; refine (refTypes_w (unhide HT5) (unhide HQ5) so sc _ _ (unhide (S5 _ (unhide HKW))) (rowAt_own (unhide HO1)) (unhide HI5)).mono ?_; rintro e W2 ⟨m2, n2, rfl, ho2, hk2⟩; have HO2 := hide ho2; have HK2 := hide ((unhide HKW).trans hk2); have HZ := hide (unhide HKW).size; clear ho2 hk2))
                            all_goals (go_wp2_with fail; go_meet; exact ⟨_, _, rfl, rfl, ownsRow_low (unhide HO2) (unhide HZ), unhide HK2⟩)
                        case rest =>
                          obtain ⟨u5, y5, rfl, rfl, ho, hk⟩ := hcut
                          obtain ⟨w42, rfl⟩ : ∃ W, W = wc := ⟨_, rfl⟩
                          replace OW := hide (ownsRow_kept (unhide OW) hk (fun _ _ => id))
                          replace OL := hide (ownsRow_kept (unhide OL) hk (fun _ _ => id))
                          replace WA := hide (ownsRow_kept (unhide WA) hk (fun _ _ => id))
                          replace TW := hide (ownsRow_kept (unhide TW) hk (fun _ _ => id))
                          replace X1 := hide (ownsRow_kept (unhide X1) hk (fun _ _ => id))
                          replace T1 := hide (ownsRow_kept (unhide T1) hk (fun _ _ => id))
                          replace I1 := hide (ownsRow_kept (unhide I1) hk (fun _ _ => id))
                          replace J1 := hide (ownsRow_kept (unhide J1) hk (fun _ _ => id))
                          replace X2 := hide (ownsRow_kept (unhide X2) hk (fun _ _ => id))
                          replace T2 := hide (ownsRow_kept (unhide T2) hk (fun _ _ => id))
                          replace XO := hide (ownsRow_kept (unhide XO) hk (fun _ _ => id))
                          replace TO := hide (ownsRow_kept (unhide TO) hk (fun _ _ => id))
                          replace WO := hide (ownsRow_kept (unhide WO) hk (fun _ _ => id))
                          replace PO := hide (ownsRow_kept (unhide PO) hk (fun _ _ => id))
                          replace RA := hide (ownsRow_kept (unhide RA) hk (fun _ _ => id))
                          replace RC := hide (ownsRow_kept (unhide RC) hk (fun _ _ => id))
                          replace RD := hide (ownsRow_kept (unhide RD) hk (fun _ _ => id))
                          have s42 := (hk.cell (o := 0) hbs41 (id)).trans s41
                          have hbs42 := Nat.lt_of_lt_of_le hbs41 hk.size
                          have z42 := (hk.cell (o := 0) hbz41 (id)).trans z41
                          have hbz42 := Nat.lt_of_lt_of_le hbz41 hk.size
                          have HK42 := hide ((unhide HK41).trans hk)
                          clear HK41 s41 hbs41 z41 hbz41
                          have RE := hide ho
                          clear ho hk
                          go_wp2_with fail
                          refine (decode_w (unhide HD5) _ _ (unhide (HO _ (unhide HK42))) (unhide (HT _ (unhide HK42))) (bytes_of (unhide X1) (unhide HXEL))).mono ?_
                          rintro e w43 ⟨u6, y6, rfl, ho, hk⟩
                          replace OW := hide (ownsRow_kept (unhide OW) hk (fun _ _ => id))
                          replace OL := hide (ownsRow_kept (unhide OL) hk (fun _ _ => id))
                          replace WA := hide (ownsRow_kept (unhide WA) hk (fun _ _ => id))
                          replace TW := hide (ownsRow_kept (unhide TW) hk (fun _ _ => id))
                          replace X1 := hide (ownsRow_kept (unhide X1) hk (fun _ _ => id))
                          replace T1 := hide (ownsRow_kept (unhide T1) hk (fun _ _ => id))
                          replace I1 := hide (ownsRow_kept (unhide I1) hk (fun _ _ => id))
                          replace J1 := hide (ownsRow_kept (unhide J1) hk (fun _ _ => id))
                          replace X2 := hide (ownsRow_kept (unhide X2) hk (fun _ _ => id))
                          replace T2 := hide (ownsRow_kept (unhide T2) hk (fun _ _ => id))
                          replace XO := hide (ownsRow_kept (unhide XO) hk (fun _ _ => id))
                          replace TO := hide (ownsRow_kept (unhide TO) hk (fun _ _ => id))
                          replace WO := hide (ownsRow_kept (unhide WO) hk (fun _ _ => id))
                          replace PO := hide (ownsRow_kept (unhide PO) hk (fun _ _ => id))
                          replace RA := hide (ownsRow_kept (unhide RA) hk (fun _ _ => id))
                          replace RC := hide (ownsRow_kept (unhide RC) hk (fun _ _ => id))
                          replace RD := hide (ownsRow_kept (unhide RD) hk (fun _ _ => id))
                          replace RE := hide (ownsRow_kept (unhide RE) hk (fun _ _ => id))
                          have s43 := (hk.cell (o := 0) hbs42 (id)).trans s42
                          have hbs43 := Nat.lt_of_lt_of_le hbs42 hk.size
                          have z43 := (hk.cell (o := 0) hbz42 (id)).trans z42
                          have hbz43 := Nat.lt_of_lt_of_le hbz42 hk.size
                          have HK43 := hide ((unhide HK42).trans hk)
                          clear HK42 s42 hbs42 z42 hbz42
                          have RF := hide ho
                          clear ho
                          clear hk
                          go_wp2_with fail
                          refine (copyBytes_w _ _ (bytes_of (unhide X1) (unhide HXEL)) (by rw [unhide HXEL]; exact hxa96)).mono ?_
                          rintro e w44 ⟨u7, y7, rfl, ho, hk⟩
                          replace OW := hide (ownsRow_kept (unhide OW) hk (fun _ _ => id))
                          replace OL := hide (ownsRow_kept (unhide OL) hk (fun _ _ => id))
                          replace WA := hide (ownsRow_kept (unhide WA) hk (fun _ _ => id))
                          replace TW := hide (ownsRow_kept (unhide TW) hk (fun _ _ => id))
                          replace X1 := hide (ownsRow_kept (unhide X1) hk (fun _ _ => id))
                          replace T1 := hide (ownsRow_kept (unhide T1) hk (fun _ _ => id))
                          replace I1 := hide (ownsRow_kept (unhide I1) hk (fun _ _ => id))
                          replace J1 := hide (ownsRow_kept (unhide J1) hk (fun _ _ => id))
                          replace X2 := hide (ownsRow_kept (unhide X2) hk (fun _ _ => id))
                          replace T2 := hide (ownsRow_kept (unhide T2) hk (fun _ _ => id))
                          replace XO := hide (ownsRow_kept (unhide XO) hk (fun _ _ => id))
                          replace TO := hide (ownsRow_kept (unhide TO) hk (fun _ _ => id))
                          replace WO := hide (ownsRow_kept (unhide WO) hk (fun _ _ => id))
                          replace PO := hide (ownsRow_kept (unhide PO) hk (fun _ _ => id))
                          replace RA := hide (ownsRow_kept (unhide RA) hk (fun _ _ => id))
                          replace RC := hide (ownsRow_kept (unhide RC) hk (fun _ _ => id))
                          replace RD := hide (ownsRow_kept (unhide RD) hk (fun _ _ => id))
                          replace RE := hide (ownsRow_kept (unhide RE) hk (fun _ _ => id))
                          replace RF := hide (ownsRow_kept (unhide RF) hk (fun _ _ => id))
                          have s44 := (hk.cell (o := 0) hbs43 (id)).trans s43
                          have hbs44 := Nat.lt_of_lt_of_le hbs43 hk.size
                          have z44 := (hk.cell (o := 0) hbz43 (id)).trans z43
                          have hbz44 := Nat.lt_of_lt_of_le hbz43 hk.size
                          have HK44 := hide ((unhide HK43).trans hk)
                          clear HK43 s43 hbs43 z43 hbz43
                          have RG := hide ho
                          clear ho
                          clear hk
                          go_wp2_with fail
                          refine (refDecode_w (unhide HD5) _ _ (rowAt_own (unhide RG))).mono ?_
                          rintro e w45 ⟨u8, y8, rfl, ho, hk⟩
                          replace OW := hide (ownsRow_kept (unhide OW) hk (fun _ _ => id))
                          replace OL := hide (ownsRow_kept (unhide OL) hk (fun _ _ => id))
                          replace WA := hide (ownsRow_kept (unhide WA) hk (fun _ _ => id))
                          replace TW := hide (ownsRow_kept (unhide TW) hk (fun _ _ => id))
                          replace X1 := hide (ownsRow_kept (unhide X1) hk (fun _ _ => id))
                          replace T1 := hide (ownsRow_kept (unhide T1) hk (fun _ _ => id))
                          replace I1 := hide (ownsRow_kept (unhide I1) hk (fun _ _ => id))
                          replace J1 := hide (ownsRow_kept (unhide J1) hk (fun _ _ => id))
                          replace X2 := hide (ownsRow_kept (unhide X2) hk (fun _ _ => id))
                          replace T2 := hide (ownsRow_kept (unhide T2) hk (fun _ _ => id))
                          replace XO := hide (ownsRow_kept (unhide XO) hk (fun _ _ => id))
                          replace TO := hide (ownsRow_kept (unhide TO) hk (fun _ _ => id))
                          replace WO := hide (ownsRow_kept (unhide WO) hk (fun _ _ => id))
                          replace PO := hide (ownsRow_kept (unhide PO) hk (fun _ _ => id))
                          replace RA := hide (ownsRow_kept (unhide RA) hk (fun _ _ => id))
                          replace RC := hide (ownsRow_kept (unhide RC) hk (fun _ _ => id))
                          replace RD := hide (ownsRow_kept (unhide RD) hk (fun _ _ => id))
                          replace RE := hide (ownsRow_kept (unhide RE) hk (fun _ _ => id))
                          replace RF := hide (ownsRow_kept (unhide RF) hk (fun _ _ => id))
                          replace RG := hide (ownsRow_kept (unhide RG) hk (fun _ _ => id))
                          have s45 := (hk.cell (o := 0) hbs44 (id)).trans s44
                          have hbs45 := Nat.lt_of_lt_of_le hbs44 hk.size
                          have z45 := (hk.cell (o := 0) hbz44 (id)).trans z44
                          have hbz45 := Nat.lt_of_lt_of_le hbz44 hk.size
                          have HK45 := hide ((unhide HK44).trans hk)
                          clear HK44 s44 hbs44 z44 hbz44
                          have RH := hide ho
                          clear ho
                          clear hk
                          go_wp2_with fail
                          refine (eqBytes_w _ _ _ (unhide RA) (unhide RC) hx596).mono ?_
                          rintro e w46 ⟨rfl, hk⟩
                          replace OW := hide (ownsRow_kept (unhide OW) hk (fun _ _ => id))
                          replace OL := hide (ownsRow_kept (unhide OL) hk (fun _ _ => id))
                          replace WA := hide (ownsRow_kept (unhide WA) hk (fun _ _ => id))
                          replace TW := hide (ownsRow_kept (unhide TW) hk (fun _ _ => id))
                          replace X1 := hide (ownsRow_kept (unhide X1) hk (fun _ _ => id))
                          replace T1 := hide (ownsRow_kept (unhide T1) hk (fun _ _ => id))
                          replace I1 := hide (ownsRow_kept (unhide I1) hk (fun _ _ => id))
                          replace J1 := hide (ownsRow_kept (unhide J1) hk (fun _ _ => id))
                          replace X2 := hide (ownsRow_kept (unhide X2) hk (fun _ _ => id))
                          replace T2 := hide (ownsRow_kept (unhide T2) hk (fun _ _ => id))
                          replace XO := hide (ownsRow_kept (unhide XO) hk (fun _ _ => id))
                          replace TO := hide (ownsRow_kept (unhide TO) hk (fun _ _ => id))
                          replace WO := hide (ownsRow_kept (unhide WO) hk (fun _ _ => id))
                          replace PO := hide (ownsRow_kept (unhide PO) hk (fun _ _ => id))
                          replace RA := hide (ownsRow_kept (unhide RA) hk (fun _ _ => id))
                          replace RC := hide (ownsRow_kept (unhide RC) hk (fun _ _ => id))
                          replace RD := hide (ownsRow_kept (unhide RD) hk (fun _ _ => id))
                          replace RE := hide (ownsRow_kept (unhide RE) hk (fun _ _ => id))
                          replace RF := hide (ownsRow_kept (unhide RF) hk (fun _ _ => id))
                          replace RG := hide (ownsRow_kept (unhide RG) hk (fun _ _ => id))
                          replace RH := hide (ownsRow_kept (unhide RH) hk (fun _ _ => id))
                          have s46 := (hk.cell (o := 0) hbs45 (id)).trans s45
                          have hbs46 := Nat.lt_of_lt_of_le hbs45 hk.size
                          have z46 := (hk.cell (o := 0) hbz45 (id)).trans z45
                          have hbz46 := Nat.lt_of_lt_of_le hbz45 hk.size
                          have HK46 := hide ((unhide HK45).trans hk)
                          clear HK45 s45 hbs45 z45 hbz45
                          clear hk
                          go_wp2_with fail
                          refine (eqStrings_w _ _ _ (unhide RD) (unhide RE) (unhide HTL5)).mono ?_
                          rintro e w47 ⟨rfl, hk⟩
                          replace OW := hide (ownsRow_kept (unhide OW) hk (fun _ _ => id))
                          replace OL := hide (ownsRow_kept (unhide OL) hk (fun _ _ => id))
                          replace WA := hide (ownsRow_kept (unhide WA) hk (fun _ _ => id))
                          replace TW := hide (ownsRow_kept (unhide TW) hk (fun _ _ => id))
                          replace X1 := hide (ownsRow_kept (unhide X1) hk (fun _ _ => id))
                          replace T1 := hide (ownsRow_kept (unhide T1) hk (fun _ _ => id))
                          replace I1 := hide (ownsRow_kept (unhide I1) hk (fun _ _ => id))
                          replace J1 := hide (ownsRow_kept (unhide J1) hk (fun _ _ => id))
                          replace X2 := hide (ownsRow_kept (unhide X2) hk (fun _ _ => id))
                          replace T2 := hide (ownsRow_kept (unhide T2) hk (fun _ _ => id))
                          replace XO := hide (ownsRow_kept (unhide XO) hk (fun _ _ => id))
                          replace TO := hide (ownsRow_kept (unhide TO) hk (fun _ _ => id))
                          replace WO := hide (ownsRow_kept (unhide WO) hk (fun _ _ => id))
                          replace PO := hide (ownsRow_kept (unhide PO) hk (fun _ _ => id))
                          replace RA := hide (ownsRow_kept (unhide RA) hk (fun _ _ => id))
                          replace RC := hide (ownsRow_kept (unhide RC) hk (fun _ _ => id))
                          replace RD := hide (ownsRow_kept (unhide RD) hk (fun _ _ => id))
                          replace RE := hide (ownsRow_kept (unhide RE) hk (fun _ _ => id))
                          replace RF := hide (ownsRow_kept (unhide RF) hk (fun _ _ => id))
                          replace RG := hide (ownsRow_kept (unhide RG) hk (fun _ _ => id))
                          replace RH := hide (ownsRow_kept (unhide RH) hk (fun _ _ => id))
                          have s47 := (hk.cell (o := 0) hbs46 (id)).trans s46
                          have hbs47 := Nat.lt_of_lt_of_le hbs46 hk.size
                          have z47 := (hk.cell (o := 0) hbz46 (id)).trans z46
                          have hbz47 := Nat.lt_of_lt_of_le hbz46 hk.size
                          have HK47 := hide ((unhide HK46).trans hk)
                          clear HK46 s46 hbs46 z46 hbz46
                          clear hk
                          go_wp2_with fail
                          refine (eqCode_w _ _ _ (rowAt_own (unhide RF)) (rowAt_own (unhide RH)) (by have := (unhide HD596); omega)).mono ?_
                          rintro e w48 ⟨rfl, hk⟩
                          replace OW := hide (ownsRow_kept (unhide OW) hk (fun _ _ => id))
                          replace OL := hide (ownsRow_kept (unhide OL) hk (fun _ _ => id))
                          replace WA := hide (ownsRow_kept (unhide WA) hk (fun _ _ => id))
                          replace TW := hide (ownsRow_kept (unhide TW) hk (fun _ _ => id))
                          replace X1 := hide (ownsRow_kept (unhide X1) hk (fun _ _ => id))
                          replace T1 := hide (ownsRow_kept (unhide T1) hk (fun _ _ => id))
                          replace I1 := hide (ownsRow_kept (unhide I1) hk (fun _ _ => id))
                          replace J1 := hide (ownsRow_kept (unhide J1) hk (fun _ _ => id))
                          replace X2 := hide (ownsRow_kept (unhide X2) hk (fun _ _ => id))
                          replace T2 := hide (ownsRow_kept (unhide T2) hk (fun _ _ => id))
                          replace XO := hide (ownsRow_kept (unhide XO) hk (fun _ _ => id))
                          replace TO := hide (ownsRow_kept (unhide TO) hk (fun _ _ => id))
                          replace WO := hide (ownsRow_kept (unhide WO) hk (fun _ _ => id))
                          replace PO := hide (ownsRow_kept (unhide PO) hk (fun _ _ => id))
                          replace RA := hide (ownsRow_kept (unhide RA) hk (fun _ _ => id))
                          replace RC := hide (ownsRow_kept (unhide RC) hk (fun _ _ => id))
                          replace RD := hide (ownsRow_kept (unhide RD) hk (fun _ _ => id))
                          replace RE := hide (ownsRow_kept (unhide RE) hk (fun _ _ => id))
                          replace RF := hide (ownsRow_kept (unhide RF) hk (fun _ _ => id))
                          replace RG := hide (ownsRow_kept (unhide RG) hk (fun _ _ => id))
                          replace RH := hide (ownsRow_kept (unhide RH) hk (fun _ _ => id))
                          have s48 := (hk.cell (o := 0) hbs47 (id)).trans s47
                          have hbs48 := Nat.lt_of_lt_of_le hbs47 hk.size
                          have z48 := (hk.cell (o := 0) hbz47 (id)).trans z47
                          have hbz48 := Nat.lt_of_lt_of_le hbz47 hk.size
                          have HK48 := hide ((unhide HK47).trans hk)
                          clear HK47 s47 hbs47 z47 hbz47
                          clear hk
                          clear RA RC RD RE RF RG RH OW OL
                          clear z48 hbz48
                          go_upto_region 47 with fail
                          have TR := hide (Tri.start (unhide X1) (unhide T1) (unhide I1))
                          have hsz := (unhide HK48).size
                          have HS47 := hide hsz
                          clear hsz
                          have TA := hide ((unhide TR).stay ((Keeps.refl (fun _ => False) w48).alloc (.cells #[.int .u8 237, .int .u8 236] 5)))
                          have HFL := hide (lit_own (w := w48) (e := 5) (n := 2) #[.int .u8 237, .int .u8 236] (by decide) rfl)
                          have hb_ : w.heap.size ≤ (w48.alloc (.cells #[.int .u8 237, .int .u8 236] 5)).heap.size := Nat.le_trans (unhide HS47) (unhide TA).k.size
                          have h1_ := one_y2
                          have hl_ : xa.length + 2 ≤ 1000 := by omega
                          go_wp2_with (at_builtin; refine app_bytes rfl _ _ rfl w.heap.size _ (xa.length) _ _ rfl (unhide TA).a.m _ 2 2 w48.heap.size [.int .u8 237, .int .u8 236] rfl (unhide HFL) h1_ (by decide) hl_ hb_ ?_)
                          intro g54 c54 wa hc
                          have TR2 := hide ((unhide TA).growA hc.row hc.how)
                          clear TR TA HFL hb_ h1_ hl_ hc
                          have TR := TR2
                          clear TR2
                          have TA := hide ((unhide TR).stay ((Keeps.refl (fun _ => False) wa).alloc (.cells #[.string ⟨#[109, 111, 114, 101]⟩, .string ⟨#[121, 101, 116, 32, 109, 111, 114, 101]⟩] 9)))
                          have HFL := hide (lit_own (w := wa) (e := 9) (n := 2) #[.string ⟨#[109, 111, 114, 101]⟩, .string ⟨#[121, 101, 116, 32, 109, 111, 114, 101]⟩] (by decide) rfl)
                          have hb_ : w.heap.size ≤ (wa.alloc (.cells #[.string ⟨#[109, 111, 114, 101]⟩, .string ⟨#[121, 101, 116, 32, 109, 111, 114, 101]⟩] 9)).heap.size := Nat.le_trans (unhide HS47) (unhide TA).k.size
                          have h1_ := one_u2
                          have hl_ : ta.length + 2 ≤ 4398046511104 := by have := unhide HTA100; omega
                          go_wp2_with (at_builtin; refine app_strs rfl _ _ rfl w.heap.size _ (ta.length) _ _ rfl (unhide TA).b.m _ 2 2 wa.heap.size [.string ⟨#[109, 111, 114, 101]⟩, .string ⟨#[121, 101, 116, 32, 109, 111, 114, 101]⟩] rfl (unhide HFL) h1_ (by decide) hl_ hb_ ?_)
                          intro g55 c55_ wb hc
                          have TR2 := hide ((unhide TA).growB hc.row hc.how)
                          clear TR TA HFL hb_ h1_ hl_ hc
                          have TR := TR2
                          clear TR2
                          have hb_ : w.heap.size ≤ wb.heap.size := Nat.le_trans (unhide HS47) (unhide TR).k.size
                          have hl_ : da.length ≤ 1000 := by have := unhide HDA96; omega
                          go_wp2_with (at_builtin; refine app_made rfl _ _ rfl w.heap.size _ da.length _ _ rfl (unhide TR).c.m rfl hl_ hb_ ?_)
                          intro g56 c56 wd hc
                          have TR2 : Hid (Tri w48 wd w.heap.size w.heap.size w.heap.size xa.length ta.length da.length (xa.length + 2) (ta.length + 2) (da.length + 64) (.slice o3 xa.length c3) (.slice o4 ta.length c4) (.slice o5 da.length c5) (.slice (some ⟨g54, 0, none⟩) (xa.length + 2) c54) (.slice (some ⟨g55, 0, none⟩) (ta.length + 2) c55_) (.slice (some ⟨g56, 0, none⟩) (da.length + 64) c56) (bs xe) (te.map str) (vcs da) (moreY 2) (moreU 2) (vcs (List.replicate 64 zV0))) := by
                            have := (unhide TR).growC hc.row hc.how
                            rw [List.nil_append zeros64, zeros64_vcs] at this
                            exact this
                          clear TR hb_ hl_ hc
                          have TR := TR2
                          clear TR2
                          go_wp2_with fail
                          go_loopw [54, 55, 57] (fun m l i wr => ∃ (j gm cm gl cl : Nat) (V : List ValA), 2 ≤ j ∧ j ≤ 64 ∧ V.length = 64 ∧ m = .slice (some ⟨gm, 0, none⟩) (xa.length + j) cm ∧ l = .slice (some ⟨gl, 0, none⟩) (ta.length + j) cl ∧ i = .int .i64 (j : Int) ∧ Hid (Tri w48 wr w.heap.size w.heap.size w.heap.size xa.length ta.length da.length (xa.length + j) (ta.length + j) (da.length + 64) (.slice o3 xa.length c3) (.slice o4 ta.length c4) (.slice o5 da.length c5) (.slice (some ⟨gm, 0, none⟩) (xa.length + j) cm) (.slice (some ⟨gl, 0, none⟩) (ta.length + j) cl) (.slice (some ⟨g56, 0, none⟩) (da.length + 64) c56) (bs xe) (te.map str) (vcs da) (moreY j) (moreU j) (vcs V))) (fun _ _ i _ => 64 - (intOf i).toNat)
                          case atStart => exact ⟨2, g54, c54, g55, c55_, _, by decide, by decide, List.length_replicate, rfl, rfl, rfl, TR⟩
                          case round =>
                            clear TR
                            obtain ⟨j, gm, cm, gl, cl, V, hj2, hj, hV, rfl, rfl, rfl, TR⟩ := hrel
                            by_cases hlt : j < 64
                            · as_aux_lemma =>
                                have i1 : (j : Int) < 64 := by omega
                                have TA := hide ((unhide TR).stay ((Keeps.refl (fun _ => False) wr).alloc (.cells #[.int .u8 235] 5)))
                                have HFL := hide (lit_own (w := wr) (e := 5) (n := 1) #[.int .u8 235] (by decide) rfl)
                                have hb_ : w.heap.size ≤ (wr.alloc (.cells #[.int .u8 235] 5)).heap.size := Nat.le_trans (unhide HS47) (unhide TA).k.size
                                have h1_ := one_y1
                                have hl_ : xa.length + j + 1 ≤ 1000 := by omega
                                go_wp2_with (at_builtin; refine app_bytes rfl _ _ rfl w.heap.size _ (xa.length + j) _ _ rfl (unhide TA).a.m _ 1 1 wr.heap.size [.int .u8 235] rfl (unhide HFL) h1_ (by decide) hl_ hb_ ?_)
                                intro gn cn wa2 hc
                                have TR2 := hide ((unhide TA).growA hc.row hc.how)
                                clear TR TA HFL hb_ h1_ hl_ hc
                                have TR := TR2
                                clear TR2
                                have TA := hide ((unhide TR).stay ((Keeps.refl (fun _ => False) wa2).alloc (.cells #[.string ⟨#[102, 97, 114]⟩] 9)))
                                have HFL := hide (lit_own (w := wa2) (e := 9) (n := 1) #[.string ⟨#[102, 97, 114]⟩] (by decide) rfl)
                                have hb_ : w.heap.size ≤ (wa2.alloc (.cells #[.string ⟨#[102, 97, 114]⟩] 9)).heap.size := Nat.le_trans (unhide HS47) (unhide TA).k.size
                                have h1_ := one_u1
                                have hl_ : ta.length + j + 1 ≤ 4398046511104 := by have := unhide HTA100; omega
                                go_wp2_with (at_builtin; refine app_strs rfl _ _ rfl w.heap.size _ (ta.length + j) _ _ rfl (unhide TA).b.m _ 1 1 wa2.heap.size [.string ⟨#[102, 97, 114]⟩] rfl (unhide HFL) h1_ (by decide) hl_ hb_ ?_)
                                intro go co wb2 hc
                                have TR2 := hide ((unhide TA).growB hc.row hc.how)
                                clear TR TA HFL hb_ h1_ hl_ hc
                                have TR := TR2
                                clear TR2
                                have hro : wb2.ownsRow w.heap.size 51 3 (.slice (some ⟨g56, 0, none⟩) (da.length + 64) c56) (da.length + 64) (vcs (da ++ V)) := by rw [vcs_two]; exact (unhide TR).c.m
                                have hlen : (da ++ V).length = da.length + 64 := by rw [List.length_append, hV]
                                obtain ⟨⟨dd0, z0⟩, ⟨dd1, z1⟩, ⟨dd2, z2⟩, f0, f1, f2⟩ := ins_cells hro (da.length + j) (by omega)
                                have hsx : (da ++ V).set (da.length + j) c98 = da ++ V.set j c98 := by rw [List.set_append_right _ _ (by omega), Nat.add_sub_cancel_left]
                                have hn_ := ins_set hro (da.length + j) c98 hlen hsx
                                rw [vcs_two] at hn_
                                have HN_ := hide ((unhide TR).setC hn_ ((Keeps.refl _ _).set3 g56 ((da.length + j) * 3) ((da.length + j) * 3 + 1) ((da.length + j) * 3 + 2) _ _ _ (fun _ => rfl)))
                                have HN2 : Hid (Tri w48 (((wb2.setCell ⟨g56, (da.length + j) * 3, none⟩ (.int .i64 98)).setCell ⟨g56, (da.length + j) * 3 + 1, none⟩ (.int .i64 0)).setCell ⟨g56, (da.length + j) * 3 + 2, none⟩ (.string ⟨#[]⟩)) w.heap.size w.heap.size w.heap.size xa.length ta.length da.length (xa.length + (j + 1)) (ta.length + (j + 1)) (da.length + 64) (.slice o3 xa.length c3) (.slice o4 ta.length c4) (.slice o5 da.length c5) (.slice (some ⟨gn, 0, none⟩) (xa.length + (j + 1)) cn) (.slice (some ⟨go, 0, none⟩) (ta.length + (j + 1)) co) (.slice (some ⟨g56, 0, none⟩) (da.length + 64) c56) (bs xe) (te.map str) (vcs da) (moreY (j + 1)) (moreU (j + 1)) (vcs (V.set j c98))) := by
                                  rw [← moreY_succ hj2, ← moreU_succ hj2, ← Nat.add_assoc, ← Nat.add_assoc]
                                  exact HN_
                                clear hro hlen hsx hn_ HN_ TR
                                have hda96 := unhide HDA96
                                have i3 : (0 : Int) ≤ (da.length : Int) + (j : Int) := by omega
                                have i4 : (da.length : Int) + (j : Int) < (da.length : Int) + 64 := by omega
                                have hV2 : (V.set j c98).length = 64 := by rw [List.length_set]; exact hV
                                go_wp2_with fail
                                refine ⟨⟨j + 1, gn, cn, go, co, V.set j c98, Nat.le_succ_of_le hj2, hlt, hV2, ?_, ?_, ?_, HN2⟩, ?_⟩
                                · rw [Nat.add_assoc]
                                · rw [Nat.add_assoc]
                                · rfl
                                · simp [intOf]; omega
                            · as_aux_lemma =>
                                obtain rfl : j = 64 := by omega
                                obtain ⟨w49, rfl⟩ : ∃ W, W = wr := ⟨_, rfl⟩
                                have hk := (unhide TR).k
                                replace WA := hide (ownsRow_kept (unhide WA) hk (fun q e h => h.elim (fun h => unhide SWAX1 q e h) (fun h => h.elim (fun h => own_apart (unhide WA) (unhide T1) (by decide) q e h) (fun h => own_apart (unhide WA) (unhide I1) (by decide) q e h))))
                                replace TW := hide (ownsRow_kept (unhide TW) hk (fun q e h => h.elim (fun h => own_apart (unhide TW) (unhide X1) (by decide) q e h) (fun h => h.elim (fun h => unhide STWT1 q e h) (fun h => own_apart (unhide TW) (unhide I1) (by decide) q e h))))
                                replace J1 := hide (ownsRow_kept (unhide J1) hk (fun q e h => h.elim (fun h => own_apart (unhide J1) (unhide X1) (by decide) q e h) (fun h => h.elim (fun h => own_apart (unhide J1) (unhide T1) (by decide) q e h) (fun h => unhide SI1J1 q h e))))
                                replace X2 := hide (ownsRow_kept (unhide X2) hk (fun q e h => h.elim (fun h => unhide SX1X2 q h e) (fun h => h.elim (fun h => own_apart (unhide X2) (unhide T1) (by decide) q e h) (fun h => own_apart (unhide X2) (unhide I1) (by decide) q e h))))
                                replace T2 := hide (ownsRow_kept (unhide T2) hk (fun q e h => h.elim (fun h => own_apart (unhide T2) (unhide X1) (by decide) q e h) (fun h => h.elim (fun h => unhide ST1T2 q h e) (fun h => own_apart (unhide T2) (unhide I1) (by decide) q e h))))
                                replace XO := hide (ownsRow_kept (unhide XO) hk (fun q e h => h.elim (fun h => unhide SX1XO q h e) (fun h => h.elim (fun h => own_apart (unhide XO) (unhide T1) (by decide) q e h) (fun h => own_apart (unhide XO) (unhide I1) (by decide) q e h))))
                                replace TO := hide (ownsRow_kept (unhide TO) hk (fun q e h => h.elim (fun h => own_apart (unhide TO) (unhide X1) (by decide) q e h) (fun h => h.elim (fun h => unhide ST1TO q h e) (fun h => own_apart (unhide TO) (unhide I1) (by decide) q e h))))
                                replace WO := hide (ownsRow_kept (unhide WO) hk (fun q e h => h.elim (fun h => unhide SX1WO q h e) (fun h => h.elim (fun h => own_apart (unhide WO) (unhide T1) (by decide) q e h) (fun h => own_apart (unhide WO) (unhide I1) (by decide) q e h))))
                                replace PO := hide (ownsRow_kept (unhide PO) hk (fun q e h => h.elim (fun h => own_apart (unhide PO) (unhide X1) (by decide) q e h) (fun h => h.elim (fun h => unhide ST1PO q h e) (fun h => own_apart (unhide PO) (unhide I1) (by decide) q e h))))
                                have s49 := (hk.cell (o := 0) hbs48 (fun h => h.elim (fun h => Nat.lt_irrefl _ (unhide NBX1 _ h).1) (fun h => h.elim (fun h => Nat.lt_irrefl _ (unhide NBT1 _ h).1) (fun h => Nat.lt_irrefl _ (unhide NBI1 _ h).1)))).trans s48
                                have hbs49 := Nat.lt_of_lt_of_le hbs48 hk.size
                                have HK49 := hide (narrowO (unhide HK48) hk (fun q h => h.elim (fun h => Nat.le_of_lt (unhide NBX1 q h).1) (fun h => h.elim (fun h => Nat.le_of_lt (unhide NBT1 q h).1) (fun h => Nat.le_of_lt (unhide NBI1 q h).1))))
                                clear HK48 s48 hbs48
                                clear X1 T1 I1
                                have X1 := hide (unhide TR).a.x
                                have T1 := hide (unhide TR).b.x
                                have I1 := hide (unhide TR).c.x
                                have MO := hide (unhide TR).a.m
                                have LO := hide (unhide TR).b.m
                                clear TR hk
                                go_upto_region 56 with fail
                                go_cut [423] from 380 to 423 (fun c wx => c = .bool false ∧ Keeps (fun _ => False) w49 wx)
                                case first =>
                                  have HB0 := hide (Keeps.refl (fun _ => False) w49)
                                  as_aux_lemma =>
                                    cases n1 : (ea == 0) with
                                    | false =>
                                      go_wp2_with fail
                                      refine (eqBytes_w _ _ _ (unhide X2) (unhide WA) hxa96).mono ?_
                                      rintro e w50 ⟨rfl, hk⟩
                                      replace HB0 := hide ((unhide HB0).trans hk)
                                      replace WA := hide (ownsRow_kept (unhide WA) hk (fun _ _ => id))
                                      replace TW := hide (ownsRow_kept (unhide TW) hk (fun _ _ => id))
                                      replace X1 := hide (ownsRow_kept (unhide X1) hk (fun _ _ => id))
                                      replace T1 := hide (ownsRow_kept (unhide T1) hk (fun _ _ => id))
                                      replace I1 := hide (ownsRow_kept (unhide I1) hk (fun _ _ => id))
                                      replace J1 := hide (ownsRow_kept (unhide J1) hk (fun _ _ => id))
                                      replace X2 := hide (ownsRow_kept (unhide X2) hk (fun _ _ => id))
                                      replace T2 := hide (ownsRow_kept (unhide T2) hk (fun _ _ => id))
                                      replace XO := hide (ownsRow_kept (unhide XO) hk (fun _ _ => id))
                                      replace TO := hide (ownsRow_kept (unhide TO) hk (fun _ _ => id))
                                      replace WO := hide (ownsRow_kept (unhide WO) hk (fun _ _ => id))
                                      replace PO := hide (ownsRow_kept (unhide PO) hk (fun _ _ => id))
                                      replace MO := hide (ownsRow_kept (unhide MO) hk (fun _ _ => id))
                                      replace LO := hide (ownsRow_kept (unhide LO) hk (fun _ _ => id))
                                      have s50 := (hk.cell (o := 0) hbs49 (id)).trans s49
                                      have hbs50 := Nat.lt_of_lt_of_le hbs49 hk.size
                                      have HK50 := hide ((unhide HK49).trans hk)
                                      clear HK49 s49 hbs49
                                      clear hk
                                      go_wp2_with fail
                                      refine (eqBytes_w _ _ _ (unhide XO) (unhide WO) hxb96).mono ?_
                                      rintro e w51 ⟨rfl, hk⟩
                                      replace HB0 := hide ((unhide HB0).trans hk)
                                      replace WA := hide (ownsRow_kept (unhide WA) hk (fun _ _ => id))
                                      replace TW := hide (ownsRow_kept (unhide TW) hk (fun _ _ => id))
                                      replace X1 := hide (ownsRow_kept (unhide X1) hk (fun _ _ => id))
                                      replace T1 := hide (ownsRow_kept (unhide T1) hk (fun _ _ => id))
                                      replace I1 := hide (ownsRow_kept (unhide I1) hk (fun _ _ => id))
                                      replace J1 := hide (ownsRow_kept (unhide J1) hk (fun _ _ => id))
                                      replace X2 := hide (ownsRow_kept (unhide X2) hk (fun _ _ => id))
                                      replace T2 := hide (ownsRow_kept (unhide T2) hk (fun _ _ => id))
                                      replace XO := hide (ownsRow_kept (unhide XO) hk (fun _ _ => id))
                                      replace TO := hide (ownsRow_kept (unhide TO) hk (fun _ _ => id))
                                      replace WO := hide (ownsRow_kept (unhide WO) hk (fun _ _ => id))
                                      replace PO := hide (ownsRow_kept (unhide PO) hk (fun _ _ => id))
                                      replace MO := hide (ownsRow_kept (unhide MO) hk (fun _ _ => id))
                                      replace LO := hide (ownsRow_kept (unhide LO) hk (fun _ _ => id))
                                      have s51 := (hk.cell (o := 0) hbs50 (id)).trans s50
                                      have hbs51 := Nat.lt_of_lt_of_le hbs50 hk.size
                                      have HK51 := hide ((unhide HK50).trans hk)
                                      clear HK50 s50 hbs50
                                      clear hk
                                      go_wp2_with fail
                                      refine (eqStrings_w _ _ _ (unhide T2) (unhide TW) (unhide HLa)).mono ?_
                                      rintro e w52 ⟨rfl, hk⟩
                                      replace HB0 := hide ((unhide HB0).trans hk)
                                      replace WA := hide (ownsRow_kept (unhide WA) hk (fun _ _ => id))
                                      replace TW := hide (ownsRow_kept (unhide TW) hk (fun _ _ => id))
                                      replace X1 := hide (ownsRow_kept (unhide X1) hk (fun _ _ => id))
                                      replace T1 := hide (ownsRow_kept (unhide T1) hk (fun _ _ => id))
                                      replace I1 := hide (ownsRow_kept (unhide I1) hk (fun _ _ => id))
                                      replace J1 := hide (ownsRow_kept (unhide J1) hk (fun _ _ => id))
                                      replace X2 := hide (ownsRow_kept (unhide X2) hk (fun _ _ => id))
                                      replace T2 := hide (ownsRow_kept (unhide T2) hk (fun _ _ => id))
                                      replace XO := hide (ownsRow_kept (unhide XO) hk (fun _ _ => id))
                                      replace TO := hide (ownsRow_kept (unhide TO) hk (fun _ _ => id))
                                      replace WO := hide (ownsRow_kept (unhide WO) hk (fun _ _ => id))
                                      replace PO := hide (ownsRow_kept (unhide PO) hk (fun _ _ => id))
                                      replace MO := hide (ownsRow_kept (unhide MO) hk (fun _ _ => id))
                                      replace LO := hide (ownsRow_kept (unhide LO) hk (fun _ _ => id))
                                      have s52 := (hk.cell (o := 0) hbs51 (id)).trans s51
                                      have hbs52 := Nat.lt_of_lt_of_le hbs51 hk.size
                                      have HK52 := hide ((unhide HK51).trans hk)
                                      clear HK51 s51 hbs51
                                      clear hk
                                      go_wp2_with fail
                                      refine (eqStrings_w _ _ _ (unhide TO) (unhide PO) (unhide HLb)).mono ?_
                                      rintro e w53 ⟨rfl, hk⟩
                                      replace HB0 := hide ((unhide HB0).trans hk)
                                      replace WA := hide (ownsRow_kept (unhide WA) hk (fun _ _ => id))
                                      replace TW := hide (ownsRow_kept (unhide TW) hk (fun _ _ => id))
                                      replace X1 := hide (ownsRow_kept (unhide X1) hk (fun _ _ => id))
                                      replace T1 := hide (ownsRow_kept (unhide T1) hk (fun _ _ => id))
                                      replace I1 := hide (ownsRow_kept (unhide I1) hk (fun _ _ => id))
                                      replace J1 := hide (ownsRow_kept (unhide J1) hk (fun _ _ => id))
                                      replace X2 := hide (ownsRow_kept (unhide X2) hk (fun _ _ => id))
                                      replace T2 := hide (ownsRow_kept (unhide T2) hk (fun _ _ => id))
                                      replace XO := hide (ownsRow_kept (unhide XO) hk (fun _ _ => id))
                                      replace TO := hide (ownsRow_kept (unhide TO) hk (fun _ _ => id))
                                      replace WO := hide (ownsRow_kept (unhide WO) hk (fun _ _ => id))
                                      replace PO := hide (ownsRow_kept (unhide PO) hk (fun _ _ => id))
                                      replace MO := hide (ownsRow_kept (unhide MO) hk (fun _ _ => id))
                                      replace LO := hide (ownsRow_kept (unhide LO) hk (fun _ _ => id))
                                      have s53 := (hk.cell (o := 0) hbs52 (id)).trans s52
                                      have hbs53 := Nat.lt_of_lt_of_le hbs52 hk.size
                                      have HK53 := hide ((unhide HK52).trans hk)
                                      clear HK52 s52 hbs52
                                      clear hk
                                      go_wp2_with fail
                                      refine (again_v S so sc lb _ _ (unhide (HO _ (unhide HK53))) (unhide (HT _ (unhide HK53))) (unhide (HS _ (unhide HK53))) (unhide (HB _ (unhide HK53))) (unhide HIb) (by have := (unhide HLB); omega) (by have := (unhide HN); omega)).mono ?_
                                      rintro e w54 ⟨rfl, hk⟩
                                      replace HB0 := hide ((unhide HB0).trans hk)
                                      replace WA := hide (ownsRow_kept (unhide WA) hk (fun _ _ => id))
                                      replace TW := hide (ownsRow_kept (unhide TW) hk (fun _ _ => id))
                                      replace X1 := hide (ownsRow_kept (unhide X1) hk (fun _ _ => id))
                                      replace T1 := hide (ownsRow_kept (unhide T1) hk (fun _ _ => id))
                                      replace I1 := hide (ownsRow_kept (unhide I1) hk (fun _ _ => id))
                                      replace J1 := hide (ownsRow_kept (unhide J1) hk (fun _ _ => id))
                                      replace X2 := hide (ownsRow_kept (unhide X2) hk (fun _ _ => id))
                                      replace T2 := hide (ownsRow_kept (unhide T2) hk (fun _ _ => id))
                                      replace XO := hide (ownsRow_kept (unhide XO) hk (fun _ _ => id))
                                      replace TO := hide (ownsRow_kept (unhide TO) hk (fun _ _ => id))
                                      replace WO := hide (ownsRow_kept (unhide WO) hk (fun _ _ => id))
                                      replace PO := hide (ownsRow_kept (unhide PO) hk (fun _ _ => id))
                                      replace MO := hide (ownsRow_kept (unhide MO) hk (fun _ _ => id))
                                      replace LO := hide (ownsRow_kept (unhide LO) hk (fun _ _ => id))
                                      have s54 := (hk.cell (o := 0) hbs53 (id)).trans s53
                                      have hbs54 := Nat.lt_of_lt_of_le hbs53 hk.size
                                      have HK54 := hide ((unhide HK53).trans hk)
                                      clear HK53 s53 hbs53
                                      clear hk
                                      go_wp2_with fail
                                      go_meet
                                      exact ⟨rfl, unhide HB0⟩
                                    | true =>
                                      obtain ⟨m1, m2⟩ := unhide HDA (by simpa using n1)
                                      have M1 := hide m1
                                      clear m1 m2
                                      go_wp2_with fail
                                      refine (eqCode_w2 (unhide M1) _ _ _ (rowAt_own (unhide I1)) (unhide (HA _ (unhide HK49))) (unhide HLA)).mono ?_
                                      rintro e w50 ⟨rfl, hk⟩
                                      replace HB0 := hide ((unhide HB0).trans hk)
                                      replace WA := hide (ownsRow_kept (unhide WA) hk (fun _ _ => id))
                                      replace TW := hide (ownsRow_kept (unhide TW) hk (fun _ _ => id))
                                      replace X1 := hide (ownsRow_kept (unhide X1) hk (fun _ _ => id))
                                      replace T1 := hide (ownsRow_kept (unhide T1) hk (fun _ _ => id))
                                      replace I1 := hide (ownsRow_kept (unhide I1) hk (fun _ _ => id))
                                      replace J1 := hide (ownsRow_kept (unhide J1) hk (fun _ _ => id))
                                      replace X2 := hide (ownsRow_kept (unhide X2) hk (fun _ _ => id))
                                      replace T2 := hide (ownsRow_kept (unhide T2) hk (fun _ _ => id))
                                      replace XO := hide (ownsRow_kept (unhide XO) hk (fun _ _ => id))
                                      replace TO := hide (ownsRow_kept (unhide TO) hk (fun _ _ => id))
                                      replace WO := hide (ownsRow_kept (unhide WO) hk (fun _ _ => id))
                                      replace PO := hide (ownsRow_kept (unhide PO) hk (fun _ _ => id))
                                      replace MO := hide (ownsRow_kept (unhide MO) hk (fun _ _ => id))
                                      replace LO := hide (ownsRow_kept (unhide LO) hk (fun _ _ => id))
                                      have s50 := (hk.cell (o := 0) hbs49 (id)).trans s49
                                      have hbs50 := Nat.lt_of_lt_of_le hbs49 hk.size
                                      have HK50 := hide ((unhide HK49).trans hk)
                                      clear HK49 s49 hbs49
                                      clear hk
                                      go_wp2_with fail
                                      refine (eqCode_w2 (unhide M1) _ _ _ (rowAt_own (unhide J1)) (unhide (HA _ (unhide HK50))) (unhide HLA)).mono ?_
                                      rintro e w51 ⟨rfl, hk⟩
                                      replace HB0 := hide ((unhide HB0).trans hk)
                                      replace WA := hide (ownsRow_kept (unhide WA) hk (fun _ _ => id))
                                      replace TW := hide (ownsRow_kept (unhide TW) hk (fun _ _ => id))
                                      replace X1 := hide (ownsRow_kept (unhide X1) hk (fun _ _ => id))
                                      replace T1 := hide (ownsRow_kept (unhide T1) hk (fun _ _ => id))
                                      replace I1 := hide (ownsRow_kept (unhide I1) hk (fun _ _ => id))
                                      replace J1 := hide (ownsRow_kept (unhide J1) hk (fun _ _ => id))
                                      replace X2 := hide (ownsRow_kept (unhide X2) hk (fun _ _ => id))
                                      replace T2 := hide (ownsRow_kept (unhide T2) hk (fun _ _ => id))
                                      replace XO := hide (ownsRow_kept (unhide XO) hk (fun _ _ => id))
                                      replace TO := hide (ownsRow_kept (unhide TO) hk (fun _ _ => id))
                                      replace WO := hide (ownsRow_kept (unhide WO) hk (fun _ _ => id))
                                      replace PO := hide (ownsRow_kept (unhide PO) hk (fun _ _ => id))
                                      replace MO := hide (ownsRow_kept (unhide MO) hk (fun _ _ => id))
                                      replace LO := hide (ownsRow_kept (unhide LO) hk (fun _ _ => id))
                                      have s51 := (hk.cell (o := 0) hbs50 (id)).trans s50
                                      have hbs51 := Nat.lt_of_lt_of_le hbs50 hk.size
                                      have HK51 := hide ((unhide HK50).trans hk)
                                      clear HK50 s50 hbs50
                                      clear hk
                                      go_wp2_with fail
                                      refine (eqBytes_w _ _ _ (unhide X2) (unhide WA) hxa96).mono ?_
                                      rintro e w52 ⟨rfl, hk⟩
                                      replace HB0 := hide ((unhide HB0).trans hk)
                                      replace WA := hide (ownsRow_kept (unhide WA) hk (fun _ _ => id))
                                      replace TW := hide (ownsRow_kept (unhide TW) hk (fun _ _ => id))
                                      replace X1 := hide (ownsRow_kept (unhide X1) hk (fun _ _ => id))
                                      replace T1 := hide (ownsRow_kept (unhide T1) hk (fun _ _ => id))
                                      replace I1 := hide (ownsRow_kept (unhide I1) hk (fun _ _ => id))
                                      replace J1 := hide (ownsRow_kept (unhide J1) hk (fun _ _ => id))
                                      replace X2 := hide (ownsRow_kept (unhide X2) hk (fun _ _ => id))
                                      replace T2 := hide (ownsRow_kept (unhide T2) hk (fun _ _ => id))
                                      replace XO := hide (ownsRow_kept (unhide XO) hk (fun _ _ => id))
                                      replace TO := hide (ownsRow_kept (unhide TO) hk (fun _ _ => id))
                                      replace WO := hide (ownsRow_kept (unhide WO) hk (fun _ _ => id))
                                      replace PO := hide (ownsRow_kept (unhide PO) hk (fun _ _ => id))
                                      replace MO := hide (ownsRow_kept (unhide MO) hk (fun _ _ => id))
                                      replace LO := hide (ownsRow_kept (unhide LO) hk (fun _ _ => id))
                                      have s52 := (hk.cell (o := 0) hbs51 (id)).trans s51
                                      have hbs52 := Nat.lt_of_lt_of_le hbs51 hk.size
                                      have HK52 := hide ((unhide HK51).trans hk)
                                      clear HK51 s51 hbs51
                                      clear hk
                                      go_wp2_with fail
                                      refine (eqBytes_w _ _ _ (unhide XO) (unhide WO) hxb96).mono ?_
                                      rintro e w53 ⟨rfl, hk⟩
                                      replace HB0 := hide ((unhide HB0).trans hk)
                                      replace WA := hide (ownsRow_kept (unhide WA) hk (fun _ _ => id))
                                      replace TW := hide (ownsRow_kept (unhide TW) hk (fun _ _ => id))
                                      replace X1 := hide (ownsRow_kept (unhide X1) hk (fun _ _ => id))
                                      replace T1 := hide (ownsRow_kept (unhide T1) hk (fun _ _ => id))
                                      replace I1 := hide (ownsRow_kept (unhide I1) hk (fun _ _ => id))
                                      replace J1 := hide (ownsRow_kept (unhide J1) hk (fun _ _ => id))
                                      replace X2 := hide (ownsRow_kept (unhide X2) hk (fun _ _ => id))
                                      replace T2 := hide (ownsRow_kept (unhide T2) hk (fun _ _ => id))
                                      replace XO := hide (ownsRow_kept (unhide XO) hk (fun _ _ => id))
                                      replace TO := hide (ownsRow_kept (unhide TO) hk (fun _ _ => id))
                                      replace WO := hide (ownsRow_kept (unhide WO) hk (fun _ _ => id))
                                      replace PO := hide (ownsRow_kept (unhide PO) hk (fun _ _ => id))
                                      replace MO := hide (ownsRow_kept (unhide MO) hk (fun _ _ => id))
                                      replace LO := hide (ownsRow_kept (unhide LO) hk (fun _ _ => id))
                                      have s53 := (hk.cell (o := 0) hbs52 (id)).trans s52
                                      have hbs53 := Nat.lt_of_lt_of_le hbs52 hk.size
                                      have HK53 := hide ((unhide HK52).trans hk)
                                      clear HK52 s52 hbs52
                                      clear hk
                                      go_wp2_with fail
                                      refine (eqStrings_w _ _ _ (unhide T2) (unhide TW) (unhide HLa)).mono ?_
                                      rintro e w54 ⟨rfl, hk⟩
                                      replace HB0 := hide ((unhide HB0).trans hk)
                                      replace WA := hide (ownsRow_kept (unhide WA) hk (fun _ _ => id))
                                      replace TW := hide (ownsRow_kept (unhide TW) hk (fun _ _ => id))
                                      replace X1 := hide (ownsRow_kept (unhide X1) hk (fun _ _ => id))
                                      replace T1 := hide (ownsRow_kept (unhide T1) hk (fun _ _ => id))
                                      replace I1 := hide (ownsRow_kept (unhide I1) hk (fun _ _ => id))
                                      replace J1 := hide (ownsRow_kept (unhide J1) hk (fun _ _ => id))
                                      replace X2 := hide (ownsRow_kept (unhide X2) hk (fun _ _ => id))
                                      replace T2 := hide (ownsRow_kept (unhide T2) hk (fun _ _ => id))
                                      replace XO := hide (ownsRow_kept (unhide XO) hk (fun _ _ => id))
                                      replace TO := hide (ownsRow_kept (unhide TO) hk (fun _ _ => id))
                                      replace WO := hide (ownsRow_kept (unhide WO) hk (fun _ _ => id))
                                      replace PO := hide (ownsRow_kept (unhide PO) hk (fun _ _ => id))
                                      replace MO := hide (ownsRow_kept (unhide MO) hk (fun _ _ => id))
                                      replace LO := hide (ownsRow_kept (unhide LO) hk (fun _ _ => id))
                                      have s54 := (hk.cell (o := 0) hbs53 (id)).trans s53
                                      have hbs54 := Nat.lt_of_lt_of_le hbs53 hk.size
                                      have HK54 := hide ((unhide HK53).trans hk)
                                      clear HK53 s53 hbs53
                                      clear hk
                                      go_wp2_with fail
                                      refine (eqStrings_w _ _ _ (unhide TO) (unhide PO) (unhide HLb)).mono ?_
                                      rintro e w55 ⟨rfl, hk⟩
                                      replace HB0 := hide ((unhide HB0).trans hk)
                                      replace WA := hide (ownsRow_kept (unhide WA) hk (fun _ _ => id))
                                      replace TW := hide (ownsRow_kept (unhide TW) hk (fun _ _ => id))
                                      replace X1 := hide (ownsRow_kept (unhide X1) hk (fun _ _ => id))
                                      replace T1 := hide (ownsRow_kept (unhide T1) hk (fun _ _ => id))
                                      replace I1 := hide (ownsRow_kept (unhide I1) hk (fun _ _ => id))
                                      replace J1 := hide (ownsRow_kept (unhide J1) hk (fun _ _ => id))
                                      replace X2 := hide (ownsRow_kept (unhide X2) hk (fun _ _ => id))
                                      replace T2 := hide (ownsRow_kept (unhide T2) hk (fun _ _ => id))
                                      replace XO := hide (ownsRow_kept (unhide XO) hk (fun _ _ => id))
                                      replace TO := hide (ownsRow_kept (unhide TO) hk (fun _ _ => id))
                                      replace WO := hide (ownsRow_kept (unhide WO) hk (fun _ _ => id))
                                      replace PO := hide (ownsRow_kept (unhide PO) hk (fun _ _ => id))
                                      replace MO := hide (ownsRow_kept (unhide MO) hk (fun _ _ => id))
                                      replace LO := hide (ownsRow_kept (unhide LO) hk (fun _ _ => id))
                                      have s55 := (hk.cell (o := 0) hbs54 (id)).trans s54
                                      have hbs55 := Nat.lt_of_lt_of_le hbs54 hk.size
                                      have HK55 := hide ((unhide HK54).trans hk)
                                      clear HK54 s54 hbs54
                                      clear hk
                                      go_wp2_with fail
                                      refine (again_v S so sc lb _ _ (unhide (HO _ (unhide HK55))) (unhide (HT _ (unhide HK55))) (unhide (HS _ (unhide HK55))) (unhide (HB _ (unhide HK55))) (unhide HIb) (by have := (unhide HLB); omega) (by have := (unhide HN); omega)).mono ?_
                                      rintro e w56 ⟨rfl, hk⟩
                                      replace HB0 := hide ((unhide HB0).trans hk)
                                      replace WA := hide (ownsRow_kept (unhide WA) hk (fun _ _ => id))
                                      replace TW := hide (ownsRow_kept (unhide TW) hk (fun _ _ => id))
                                      replace X1 := hide (ownsRow_kept (unhide X1) hk (fun _ _ => id))
                                      replace T1 := hide (ownsRow_kept (unhide T1) hk (fun _ _ => id))
                                      replace I1 := hide (ownsRow_kept (unhide I1) hk (fun _ _ => id))
                                      replace J1 := hide (ownsRow_kept (unhide J1) hk (fun _ _ => id))
                                      replace X2 := hide (ownsRow_kept (unhide X2) hk (fun _ _ => id))
                                      replace T2 := hide (ownsRow_kept (unhide T2) hk (fun _ _ => id))
                                      replace XO := hide (ownsRow_kept (unhide XO) hk (fun _ _ => id))
                                      replace TO := hide (ownsRow_kept (unhide TO) hk (fun _ _ => id))
                                      replace WO := hide (ownsRow_kept (unhide WO) hk (fun _ _ => id))
                                      replace PO := hide (ownsRow_kept (unhide PO) hk (fun _ _ => id))
                                      replace MO := hide (ownsRow_kept (unhide MO) hk (fun _ _ => id))
                                      replace LO := hide (ownsRow_kept (unhide LO) hk (fun _ _ => id))
                                      have s56 := (hk.cell (o := 0) hbs55 (id)).trans s55
                                      have hbs56 := Nat.lt_of_lt_of_le hbs55 hk.size
                                      have HK56 := hide ((unhide HK55).trans hk)
                                      clear HK55 s55 hbs55
                                      clear hk
                                      go_wp2_with fail
                                      go_meet
                                      exact ⟨rfl, unhide HB0⟩
                                case rest =>
                                  obtain ⟨rfl, hk⟩ := hcut
                                  obtain ⟨w50, rfl⟩ : ∃ W, W = wc := ⟨_, rfl⟩
                                  replace WA := hide (ownsRow_kept (unhide WA) hk (fun _ _ => id))
                                  replace TW := hide (ownsRow_kept (unhide TW) hk (fun _ _ => id))
                                  replace X1 := hide (ownsRow_kept (unhide X1) hk (fun _ _ => id))
                                  replace T1 := hide (ownsRow_kept (unhide T1) hk (fun _ _ => id))
                                  replace I1 := hide (ownsRow_kept (unhide I1) hk (fun _ _ => id))
                                  replace J1 := hide (ownsRow_kept (unhide J1) hk (fun _ _ => id))
                                  replace X2 := hide (ownsRow_kept (unhide X2) hk (fun _ _ => id))
                                  replace T2 := hide (ownsRow_kept (unhide T2) hk (fun _ _ => id))
                                  replace XO := hide (ownsRow_kept (unhide XO) hk (fun _ _ => id))
                                  replace TO := hide (ownsRow_kept (unhide TO) hk (fun _ _ => id))
                                  replace WO := hide (ownsRow_kept (unhide WO) hk (fun _ _ => id))
                                  replace PO := hide (ownsRow_kept (unhide PO) hk (fun _ _ => id))
                                  replace MO := hide (ownsRow_kept (unhide MO) hk (fun _ _ => id))
                                  replace LO := hide (ownsRow_kept (unhide LO) hk (fun _ _ => id))
                                  have s50 := (hk.cell (o := 0) hbs49 (id)).trans s49
                                  have hbs50 := Nat.lt_of_lt_of_le hbs49 hk.size
                                  have HK50 := hide ((unhide HK49).trans hk)
                                  clear HK49 s49 hbs49
                                  clear hk
                                  clear WA TW J1 X2 T2 XO TO WO PO
                                  go_wp2_with fail
                                  go_loopw [58] (fun i wr => ∃ j : Nat, j ≤ da.length ∧ i = .int .i64 (j : Int) ∧ Hid (wr.ownsRow w.heap.size 51 3 (.slice o5 da.length c5) da.length (vcs (overL da c99 j))) ∧ Hid (Keeps (fun q => (Value.slice o5 da.length c5).ownBlock = some q) w50 wr)) (fun i _ => da.length - (intOf i).toNat)
                                  case atStart => exact ⟨0, Nat.zero_le _, rfl, by rw [overL_zero]; exact I1, hide (Keeps.refl _ _)⟩
                                  case round =>
                                    obtain ⟨j, hj, rfl, HO_, HL_⟩ := hrel
                                    by_cases hlt : j < da.length
                                    · as_aux_lemma =>
                                        obtain ⟨g, rfl, hcap⟩ := own_some (unhide HO_) (by omega)
                                        have hro := unhide HO_
                                        have hda96 := unhide HDA96
                                        have hlen : (overL da c99 j).length = da.length := overL_len hj
                                        obtain ⟨⟨dd0, z0⟩, ⟨dd1, z1⟩, ⟨dd2, z2⟩, f0, f1, f2⟩ := ins_cells hro j (by omega)
                                        have HN_ : Hid ((((wr.setCell ⟨g, j * 3, none⟩ (.int .i64 99)).setCell ⟨g, j * 3 + 1, none⟩ (.int .i64 0)).setCell ⟨g, j * 3 + 2, none⟩ (.string ⟨#[]⟩)).ownsRow w.heap.size 51 3 (.slice (some ⟨g, 0, none⟩) da.length c5) da.length (vcs (overL da c99 (j + 1)))) := by
                                          show World.ownsRow _ _ _ _ _ _ _
                                          exact ins_set hro j c99 hlen (overL_set hlt)
                                        have HKN_ := hide ((unhide HL_).set3 g (j * 3) (j * 3 + 1) (j * 3 + 2) (.int .i64 99) (.int .i64 0) (.string ⟨#[]⟩) (fun _ => rfl))
                                        clear hlen
                                        have i1 : (j : Int) < (da.length : Int) := by omega
                                        have i2 : (0 : Int) ≤ (j : Int) := by omega
                                        clear hro HO_ HL_
                                        go_wp2_with fail
                                        go_roundw
                                        case rel => exact ⟨j + 1, by omega, by go_num, HN_, HKN_⟩
                                        case measure => simp [intOf]; omega
                                    · as_aux_lemma =>
                                        obtain rfl : j = da.length := by omega
                                        have i1 : ¬ ((da.length : Int) < (da.length : Int)) := by omega
                                        have ho := unhide HO_
                                        have hk := unhide HL_
                                        clear HO_ HL_ hlt hj
                                        skip
                                        obtain ⟨w51, rfl⟩ : ∃ W, W = wr := ⟨_, rfl⟩
                                        replace X1 := hide (ownsRow_kept (unhide X1) hk (fun q e h => own_apart (unhide X1) (unhide I1) (by decide) q e h))
                                        replace T1 := hide (ownsRow_kept (unhide T1) hk (fun q e h => own_apart (unhide T1) (unhide I1) (by decide) q e h))
                                        replace MO := hide (ownsRow_kept (unhide MO) hk (fun q e h => own_apart (unhide MO) (unhide I1) (by decide) q e h))
                                        replace LO := hide (ownsRow_kept (unhide LO) hk (fun q e h => own_apart (unhide LO) (unhide I1) (by decide) q e h))
                                        have s51 := (hk.cell (o := 0) hbs50 (fun h => Nat.lt_irrefl _ (unhide NBI1 _ h).1)).trans s50
                                        have hbs51 := Nat.lt_of_lt_of_le hbs50 hk.size
                                        have HK51 := hide (narrowO (unhide HK50) hk (fun q h => Nat.le_of_lt (unhide NBI1 q h).1))
                                        clear HK50 s50 hbs50
                                        clear I1
                                        have I1 := hide ho
                                        clear ho hk
                                        go_upto_region 62 with fail
                                        go_cut [467] from 434 to 467 (fun c wx => c = .bool false ∧ Keeps (fun _ => False) w51 wx)
                                        case first =>
                                          have HB0 := hide (Keeps.refl (fun _ => False) w51)
                                          as_aux_lemma =>
                                            go_wp2_with fail
                                            refine (again_v S so sc la _ _ (unhide (HO _ (unhide HK51))) (unhide (HT _ (unhide HK51))) (unhide (HS _ (unhide HK51))) (unhide (HA _ (unhide HK51))) (unhide HIa) (by have := (unhide HLA); omega) (by have := (unhide HN); omega)).mono ?_
                                            rintro e w52 ⟨rfl, hk⟩
                                            replace HB0 := hide ((unhide HB0).trans hk)
                                            replace X1 := hide (ownsRow_kept (unhide X1) hk (fun _ _ => id))
                                            replace T1 := hide (ownsRow_kept (unhide T1) hk (fun _ _ => id))
                                            replace I1 := hide (ownsRow_kept (unhide I1) hk (fun _ _ => id))
                                            replace MO := hide (ownsRow_kept (unhide MO) hk (fun _ _ => id))
                                            replace LO := hide (ownsRow_kept (unhide LO) hk (fun _ _ => id))
                                            have s52 := (hk.cell (o := 0) hbs51 (id)).trans s51
                                            have hbs52 := Nat.lt_of_lt_of_le hbs51 hk.size
                                            have HK52 := hide ((unhide HK51).trans hk)
                                            clear HK51 s51 hbs51
                                            clear hk
                                            go_wp2_with fail
                                            refine (again_v S so sc lb _ _ (unhide (HO _ (unhide HK52))) (unhide (HT _ (unhide HK52))) (unhide (HS _ (unhide HK52))) (unhide (HB _ (unhide HK52))) (unhide HIb) (by have := (unhide HLB); omega) (by have := (unhide HN); omega)).mono ?_
                                            rintro e w53 ⟨rfl, hk⟩
                                            replace HB0 := hide ((unhide HB0).trans hk)
                                            replace X1 := hide (ownsRow_kept (unhide X1) hk (fun _ _ => id))
                                            replace T1 := hide (ownsRow_kept (unhide T1) hk (fun _ _ => id))
                                            replace I1 := hide (ownsRow_kept (unhide I1) hk (fun _ _ => id))
                                            replace MO := hide (ownsRow_kept (unhide MO) hk (fun _ _ => id))
                                            replace LO := hide (ownsRow_kept (unhide LO) hk (fun _ _ => id))
                                            have s53 := (hk.cell (o := 0) hbs52 (id)).trans s52
                                            have hbs53 := Nat.lt_of_lt_of_le hbs52 hk.size
                                            have HK53 := hide ((unhide HK52).trans hk)
                                            clear HK52 s52 hbs52
                                            clear hk
                                            have hta100 := unhide HTA100
                                            have hda96 := unhide HDA96
                                            go_wp2_with fail
                                            go_meet
                                            exact ⟨rfl, unhide HB0⟩
                                        case rest =>
                                          obtain ⟨rfl, hk⟩ := hcut
                                          obtain ⟨w52, rfl⟩ : ∃ W, W = wc := ⟨_, rfl⟩
                                          replace X1 := hide (ownsRow_kept (unhide X1) hk (fun _ _ => id))
                                          replace T1 := hide (ownsRow_kept (unhide T1) hk (fun _ _ => id))
                                          replace I1 := hide (ownsRow_kept (unhide I1) hk (fun _ _ => id))
                                          replace MO := hide (ownsRow_kept (unhide MO) hk (fun _ _ => id))
                                          replace LO := hide (ownsRow_kept (unhide LO) hk (fun _ _ => id))
                                          have s52 := (hk.cell (o := 0) hbs51 (id)).trans s51
                                          have hbs52 := Nat.lt_of_lt_of_le hbs51 hk.size
                                          have HK52 := hide ((unhide HK51).trans hk)
                                          clear HK51 s51 hbs51
                                          clear hk
                                          clear I1
                                          have E0 : Hid ((bs xe).length = xa.length) := by show _ = _; rw [bs_length]; exact unhide HXEL
                                          have E1 : Hid ((te.map str).length = ta.length) := by show _ = _; rw [List.length_map, unhide HTE, List.length_replicate]
                                          go_wp2_with fail
                                          go_loopw [59] (fun i wr => ∃ j : Nat, j ≤ xa.length ∧ i = .int .i64 (j : Int) ∧ Hid (Keeps (fun _ => False) w52 wr)) (fun i _ => xa.length - (intOf i).toNat)
                                          case atStart => exact ⟨0, Nat.zero_le _, rfl, hide (Keeps.refl _ _)⟩
                                          case round =>
                                            obtain ⟨j, hj, rfl, HL_⟩ := hrel
                                            by_cases hlt : j < xa.length
                                            · as_aux_lemma =>
                                                obtain ⟨g, rfl, hcap⟩ := own_some (unhide X1) (by omega)
                                                have y0 : wr.cell? ⟨g, j, none⟩ = some (.int .u8 238) := row_at (ys := []) (by simpa using ownsRow_kept (unhide X1) (unhide HL_) (fun _ _ => id)) (by rw [List.append_nil]; rw [unhide HXE]; exact bs_rep hlt)
                                                have y1 : wr.cell? ⟨gm, j, none⟩ = some (.int .u8 238) := row_at (ownsRow_kept (unhide MO) (unhide HL_) (fun _ _ => id)) (by rw [List.getElem?_append_left (by rw [unhide E0]; exact hlt)]; rw [unhide HXE]; exact bs_rep hlt)
                                                have i1 : (j : Int) < (xa.length : Int) := by omega
                                                have i2 : (0 : Int) ≤ (j : Int) := by omega
                                                have i3 : (j : Int) < (xa.length : Int) + 64 := by omega
                                                have hta100 := unhide HTA100
                                                go_wp2_with fail
                                                go_roundw
                                                case rel => exact ⟨j + 1, by omega, by go_num, HL_⟩
                                                case measure => simp [intOf]; omega
                                            · as_aux_lemma =>
                                                obtain rfl : j = xa.length := by omega
                                                have i1 : ¬ ((xa.length : Int) < (xa.length : Int)) := by omega
                                                have hk := unhide HL_
                                                clear HL_ hlt hj
                                                obtain ⟨w53, rfl⟩ : ∃ W, W = wr := ⟨_, rfl⟩
                                                replace X1 := hide (ownsRow_kept (unhide X1) hk (fun _ _ => id))
                                                replace T1 := hide (ownsRow_kept (unhide T1) hk (fun _ _ => id))
                                                replace MO := hide (ownsRow_kept (unhide MO) hk (fun _ _ => id))
                                                replace LO := hide (ownsRow_kept (unhide LO) hk (fun _ _ => id))
                                                have s53 := (hk.cell (o := 0) hbs52 (id)).trans s52
                                                have hbs53 := Nat.lt_of_lt_of_le hbs52 hk.size
                                                have HK53 := hide ((unhide HK52).trans hk)
                                                clear HK52 s52 hbs52
                                                clear hk
                                                go_wp2_with fail
                                                go_loopw [60] (fun i wr => ∃ j : Nat, j ≤ ta.length ∧ i = .int .i64 (j : Int) ∧ Hid (Keeps (fun _ => False) w53 wr)) (fun i _ => ta.length - (intOf i).toNat)
                                                case atStart => exact ⟨0, Nat.zero_le _, rfl, hide (Keeps.refl _ _)⟩
                                                case round =>
                                                  obtain ⟨j, hj, rfl, HL_⟩ := hrel
                                                  by_cases hlt : j < ta.length
                                                  · as_aux_lemma =>
                                                      obtain ⟨g, rfl, hcap⟩ := own_some (unhide T1) (by omega)
                                                      have y0 : wr.cell? ⟨g, j, none⟩ = some (.string ⟨#[109, 105, 110, 101]⟩) := row_at (ys := []) (by simpa using ownsRow_kept (unhide T1) (unhide HL_) (fun _ _ => id)) (by rw [List.append_nil]; rw [unhide HTE]; exact strs_rep hlt)
                                                      have y1 : wr.cell? ⟨gl, j, none⟩ = some (.string ⟨#[109, 105, 110, 101]⟩) := row_at (ownsRow_kept (unhide LO) (unhide HL_) (fun _ _ => id)) (by rw [List.getElem?_append_left (by rw [unhide E1]; exact hlt)]; rw [unhide HTE]; exact strs_rep hlt)
                                                      have i1 : (j : Int) < (ta.length : Int) := by omega
                                                      have i2 : (0 : Int) ≤ (j : Int) := by omega
                                                      have i3 : (j : Int) < (ta.length : Int) + 64 := by omega
                                                      have hta100 := unhide HTA100
                                                      go_wp2_with fail
                                                      go_roundw
                                                      case rel => exact ⟨j + 1, by omega, by go_num, HL_⟩
                                                      case measure => simp [intOf]; omega
                                                  · as_aux_lemma =>
                                                      obtain rfl : j = ta.length := by omega
                                                      have i1 : ¬ ((ta.length : Int) < (ta.length : Int)) := by omega
                                                      have hk := unhide HL_
                                                      clear HL_ hlt hj
                                                      obtain ⟨w54, rfl⟩ : ∃ W, W = wr := ⟨_, rfl⟩
                                                      replace X1 := hide (ownsRow_kept (unhide X1) hk (fun _ _ => id))
                                                      replace T1 := hide (ownsRow_kept (unhide T1) hk (fun _ _ => id))
                                                      replace MO := hide (ownsRow_kept (unhide MO) hk (fun _ _ => id))
                                                      replace LO := hide (ownsRow_kept (unhide LO) hk (fun _ _ => id))
                                                      have s54 := (hk.cell (o := 0) hbs53 (id)).trans s53
                                                      have hbs54 := Nat.lt_of_lt_of_le hbs53 hk.size
                                                      have HK54 := hide ((unhide HK53).trans hk)
                                                      clear HK53 s53 hbs53
                                                      clear hk
                                                      have e0 := unhide E0
                                                      have e1 := unhide E1
                                                      have m0 := row_at (j := xa.length) (u := .int .u8 237) (unhide MO) (by rw [List.getElem?_append_right (by omega), e0, Nat.sub_self]; rfl)
                                                      have m1 := row_at (j := xa.length + 1) (u := .int .u8 236) (unhide MO) (by rw [List.getElem?_append_right (by omega), e0, Nat.add_sub_cancel_left]; rfl)
                                                      have m2 := row_at (j := ta.length) (u := .string ⟨#[109, 111, 114, 101]⟩) (unhide LO) (by rw [List.getElem?_append_right (by omega), e1, Nat.sub_self]; rfl)
                                                      have m3 := row_at (j := ta.length + 1) (u := .string ⟨#[121, 101, 116, 32, 109, 111, 114, 101]⟩) (unhide LO) (by rw [List.getElem?_append_right (by omega), e1, Nat.add_sub_cancel_left]; rfl)
                                                      have i2 : (0 : Int) ≤ (xa.length : Int) + 1 := by omega
                                                      have i3 : (xa.length : Int) < (xa.length : Int) + 64 := by omega
                                                      have i4 : (xa.length : Int) + 1 < (xa.length : Int) + 64 := by omega
                                                      have i5 : (0 : Int) ≤ (ta.length : Int) + 1 := by omega
                                                      have i6 : (ta.length : Int) < (ta.length : Int) + 64 := by omega
                                                      have i7 : (ta.length : Int) + 1 < (ta.length : Int) + 64 := by omega
                                                      clear e0 e1
                                                      have hta100 := unhide HTA100
                                                      go_wp2_with fail
                                                      go_ret
                                                      exact ⟨rfl, unhide HK54⟩
end Go.Proofs.YtcicaifioghciaaGreatDoor
