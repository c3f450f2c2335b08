import Derived.Test.YtklkhegeeglfbaaGreatDoorJo
import Derived.Test.YtklkhegeeglfbaaGreatDoorJp
namespace Go.Proofs.YtklkhegeeglfbaaGreatDoor
open Go.RowKit Go.Maps

theorem joinB_le {L : List Txt} (h8 : L.length ≤ 8) (hl : ∀ x ∈ L, x.length ≤ 200) : (joinB L).length ≤ 1808 := by
  cases L with
  | nil => simp [joinB]
  | cons a r =>
    have h := joinTo_le (hl a (by simp)) (fun x hx => hl x (List.mem_cons_of_mem _ hx)) r.length
    unfold joinTo at h
    rw [List.take_length] at h
    simp only [List.length_cons] at h8
    show (a ++ r.flatMap (fun x => 44 :: x)).length ≤ _
    omega
theorem Tryz.info9 : (Tryz.prog.info? 9).map (fun i => (i.zero, i.size, i.bytes)) = some (some (.string ⟨#[]⟩), 1, 16) := by kernel_rfl

set_option maxRecDepth 100000 in
set_option maxHeartbeats 4000000 in
theorem val_print (l : List FieldA) (v : Value) (r : List ValA) (u : Value) (w : World) (hT : Types w) (hP : Pow w) (h : FldsAt w v l) (hr : ValsAt w u r) (hI : InR r) :
    Calls Tryz.prog 32 #[.agg #[v], u] w fun e w' => e = .returned (.tuple #[str (printP l r), .int .i64 (errR l r)]) ∧ Keeps (fun _ => False) w w' := by
  obtain ⟨ao, cap, rfl⟩ := RowAt.form h
  obtain ⟨bo, cbp, rfl⟩ := RowAt.form hr
  obtain ⟨i0, hi, hz0, hz1, hz2⟩ := info_parts Tryz.info9
  obtain ⟨HB, hb, hbc⟩ := boxed w #[.slice ao l.length cap] 26
  have hp := hbc 0 (.slice ao l.length cap) rfl
  have HF := hide (h.keepF (unhide HB))
  have HV := hide (hr.keepF (unhide HB))
  have HT := hide (hT.keepF (unhide HB))
  have HP := hide (hP.keepF (unhide HB))
  have HS := hide (val_check l _ r _ _ (unhide HT) (unhide HF) (unhide HV))
  have HI := hide hI
  clear hbc h hr hI hT hP
  go_enter Tryz.func32, Tryz.ntmps32
  go_wp2_with fail
  refine (unhide HS).mono ?_
  rintro e w2 ⟨rfl, hk2⟩
  have hp2 := (hk2.cell (o := 0) hb id).trans hp
  have hb2 := Nat.lt_of_lt_of_le hb hk2.size
  have HF2 := hide ((unhide HF).keepF hk2)
  have HV2 := hide ((unhide HV).keepF hk2)
  have HP2 := hide ((unhide HP).keepF hk2)
  have HB2 := hide ((unhide HB).trans hk2)
  have hw2 : w.heap.size ≤ w2.heap.size := (unhide HB2).size
  clear HS HF HV HB HT HP hk2 hp hb
  generalize w.alloc (.cells #[.slice ao l.length cap] 26) = w1 at *
  by_cases he : errR l r = 0
  · obtain ⟨hs, hlen, hfit⟩ := errR_zero he
    have hl8 := (schemaB_len hs).2
    have HE : Hid (printP l r = [123] ++ joinB (items (l.zip r)) ++ [125]) := by show _ = _; unfold printP; rw [if_pos he]
    rw [he]
    have HSC := hide hs
    have HL := hide hlen
    have HT0 := hide hfit
    have hr8 : r.length ≤ 8 := by omega
    have HIT : Hid (∀ k, (items ((l.zip r).take k)).length ≤ 8 ∧ ∀ x ∈ items ((l.zip r).take k), x.length ≤ 200) := by
      intro k
      refine ⟨?_, fun x hx => ?_⟩
      · have h1 := items_len ((l.zip r).take k)
        rw [List.length_take, List.length_zip] at h1
        omega
      · obtain ⟨p, hp, rfl⟩ := items_mem hx
        obtain ⟨i, hi⟩ := List.mem_iff_getElem?.1 (List.mem_of_mem_take hp)
        rw [List.getElem?_zip_eq_some] at hi
        have h1 := shownB_le (fitAll_at hfit hi.1 hi.2) ((unhide HI) p.2 (List.mem_of_getElem? hi.2))
        have h2 := (schemaB_name8 hs (List.mem_of_getElem? hi.1)).1
        simp only [List.length_append, List.length_cons, List.length_nil]
        omega
    have HE0 := hide he
    clear hs hlen hfit he
    go_wp2_with fail
    go_loopw [7, 19] (fun its i wr => ∃ k : Nat, k ≤ l.length ∧ i = .int .i64 k ∧ wr.ownsRow w2.heap.size 9 1 its (items ((l.zip r).take k)).length ((items ((l.zip r).take k)).map str) ∧ Keeps (fun _ => False) w2 wr) (fun _ i _ => l.length - (intOf i).toNat)
    case atStart => exact ⟨0, Nat.zero_le _, rfl, by simpa [items] using World.ownsRow_nil w2 w2.heap.size 9 1, Keeps.refl _ _⟩
    case round =>
      obtain ⟨k, hk, rfl, hown, hkp⟩ := hrel
      have HO := hide hown
      have HK := hide hkp
      have s0 := hkp.size
      have hp6 := (hkp.cell (o := 0) hb2 id).trans hp2
      clear hown hkp
      by_cases hlt : k < l.length
      · obtain ⟨x, hx⟩ : ∃ x, r[k]? = some x := ⟨_, List.getElem?_eq_getElem (by have := unhide HL; omega)⟩
        obtain ⟨f, hf⟩ : ∃ f, l[k]? = some f := ⟨_, List.getElem?_eq_getElem hlt⟩
        obtain ⟨b, off, c, e, hbl, hc⟩ := (unhide HF2).cells (by omega)
        simp at e
        obtain ⟨rfl, rfl⟩ := e
        obtain ⟨b', off', c', e', hbl', hc'⟩ := (unhide HV2).cells (by have := unhide HL; omega)
        simp at e'
        obtain ⟨rfl, rfl⟩ := e'
        have c0 := ((unhide HK).cell hbl id).trans (hc k f hf).1
        have c1 := ((unhide HK).cell hbl id).trans (hc k f hf).2.1
        have c2 := ((unhide HK).cell hbl id).trans (hc k f hf).2.2
        obtain ⟨HX, hxb, hxc⟩ := boxed wr #[str f.name, .int .i64 f.type, .bool f.opt] 69
        have K1 := (unhide HK).trans (unhide HX)
        have n0 : (wr.alloc (.cells #[str f.name, .int .i64 f.type, .bool f.opt] 69)).cell? ⟨wr.heap.size, 0, none⟩ = some (str f.name) := hxc 0 _ rfl
        have d0 := (K1.cell hbl' id).trans (hc' k x hx).1
        have d1 := (K1.cell hbl' id).trans (hc' k x hx).2.1
        have d2 := (K1.cell hbl' id).trans (hc' k x hx).2.2
        have i1 : (k : Int) < (r.length : Int) := by have := unhide HL; omega
        have i2 : (k : Int) < (l.length : Int) := by omega
        have HSN : Hid (items ((l.zip r).take (k + 1)) = items ((l.zip r).take k) ++ (if x.kind = 0 then [] else [f.name ++ [61] ++ shownB x])) := by
          show _ = _
          rw [take_snoc _ _ _ (zip_get hf hx), items_snoc]
        have HI8 := hide ((unhide HIT) k).1
        have HNL := hide (schemaB_name8 (unhide HSC) (List.mem_of_getElem? hf)).1
        have HSL := hide (shownB_le (fitAll_at (unhide HT0) hf hx) ((unhide HI) x (List.mem_of_getElem? hx)))
        have HFS := hide (fitsB_s (fitAll_at (unhide HT0) hf hx))
        have HIX := hide ((unhide HI) x (List.mem_of_getElem? hx))
        have HK1 := hide K1
        have HO1 := hide ((unhide HO).alloc (.cells #[str f.name, .int .i64 f.type, .bool f.opt] 69))
        clear hc hc' hf hx K1 hxc
        generalize items ((l.zip r).take k) = Z at *
        by_cases hki : x.kind = 0
        · have HKI := hide hki
          rw [hki] at d0
          clear hki
          go_wp2_with fail
          go_roundw
          case rel => exact ⟨k + 1, by omega, by go_num, by rw [unhide HSN, if_pos (unhide HKI), List.append_nil]; exact unhide HO1, unhide HK1⟩
          case measure => simp [intOf]; omega
        · have hd : (x.kind == 0) = false := by simpa using hki
          have HKI := hide hki
          clear hki
          have HQ := hide (printValue_v x (unhide HIX) (unhide HFS) (wr.alloc (.cells #[str f.name, .int .i64 f.type, .bool f.opt] 69)).drew ((unhide HP2).keepF (unhide HK1).drew))
          have HO2 : Hid ((wr.alloc (.cells #[str f.name, .int .i64 f.type, .bool f.opt] 69)).drew.ownsRow w2.heap.size 9 1 u7 Z.length (Z.map str)) := unhide HO1
          have HK2 := hide (unhide HK1).drew
          have z0 : wr.heap.size < (wr.alloc (.cells #[str f.name, .int .i64 f.type, .bool f.opt] 69)).drew.heap.size := hxb
          have z1 : b' < (wr.alloc (.cells #[str f.name, .int .i64 f.type, .bool f.opt] 69)).drew.heap.size := Nat.lt_of_lt_of_le hbl' (unhide HK2).size
          have y0 : (some wr.heap.size : Option Nat) ≠ u7.ownBlock := fun e => by have := ((unhide HO).lt _ e.symm).2; omega
          have y1 : (some b' : Option Nat) ≠ u7.ownBlock := fun e => by have := ((unhide HO).lt _ e.symm).1; omega
          obtain ⟨S, HSE⟩ : ∃ S : Txt, Hid (S = shownB x) := ⟨shownB x, rfl⟩
          obtain ⟨N1, HN1⟩ : ∃ N1 : Txt, Hid (N1 = f.name ++ [61]) := ⟨f.name ++ [61], rfl⟩
          obtain ⟨I, HIE⟩ : ∃ I : Txt, Hid (I = f.name ++ [61] ++ shownB x) := ⟨f.name ++ [61] ++ shownB x, rfl⟩
          have hnl : f.name.length ≤ 8 := unhide HNL
          have hN1l : N1.length ≤ 9 := by rw [unhide HN1, List.length_append]; simp; omega
          have hSl : S.length ≤ 82 := by rw [unhide HSE]; exact unhide HSL
          have t1 : ∀ w' : World, (Op.stringOp .add (ByteArray.mk f.name.toArray) (ByteArray.mk #[61])).run Tryz.prog w' = .ok (str N1) w' := fun w' => by
            rw [run_string_add_sum w' _ _ (by simp [ByteArray.size]; omega), str_cat f.name [61] N1 (by rw [unhide HN1])]
          have t2 : ∀ w' : World, (Op.stringOp .add (ByteArray.mk N1.toArray) (ByteArray.mk S.toArray)).run Tryz.prog w' = .ok (str I) w' := fun w' => by
            rw [run_string_add_sum w' _ _ (by simp [ByteArray.size]; omega), str_cat N1 S I (by rw [unhide HIE, unhide HN1, unhide HSE])]
          rw [← unhide HSE] at HQ
          unfold ValA.v at HQ
          have hz8 : Z.length ≤ 8 := unhide HI8
          go_wp2_with fail
          go_region_held3 (fun w' => w'.cell? ⟨wr.heap.size, 0, none⟩ = some (str f.name) ∧ w'.cell? ⟨b', off' + k * 3, none⟩ = some (.int .i64 x.kind) ∧ w'.cell? ⟨b', off' + k * 3 + 1, none⟩ = some (.int .i64 x.n) ∧ w'.cell? ⟨b', off' + k * 3 + 2, none⟩ = some (str x.s))
            (go_keep)
            (first
              | (go_at_call 56
                 with_reducible refine (unhide HQ).mono ?_
                 rintro e w7 ⟨rfl, hk7⟩
                 have q0 := (hk7.cell (o := 0) z0 id).trans n0
                 have q1 := (hk7.cell z1 id).trans d0
                 have q2 := (hk7.cell z1 id).trans d1
                 have q3 := (hk7.cell z1 id).trans d2
                 have s7 := hk7.size
                 have HO7 := hide (owns_keep (unhide HO2) hk7)
                 have HK7 := hide ((unhide HK2).trans hk7)
                 clear hk7)
              | (refine step_append_lies _ (by rfl) _ _ _ (by rfl) w2.heap.size 9 i0 _ 1 16 Tryz.underlying96 hi hz0 hz1 hz2 rfl (by omega) u7 Z.length (Z.map str) (by rfl) ((unhide HO7).alloc _)
                   ⟨w7.heap.size, 0, none⟩ 1 1 [str I] (by rfl) (by rfl) (World.news_of_block (cs := #[str I]) (t := 9) (fr := (0, 0)) (heap_alloc_new w7 _)) (by simp [Value.oneCell']) (by omega) (by unfold maxLen; omega) (by omega) (by have := (unhide HK7).size; simp; omega) (w7.heap.size + 1) (by simp) ?_
                 intro g1 cap1 w8 hown8 hgrow8 hat8 hlt8
                 have l0 := Nat.lt_of_lt_of_le z0 s7
                 have l1 := Nat.lt_of_lt_of_le z1 s7
                 have KA : Keeps (fun _ => False) w7 (w7.alloc (.cells #[str I] 9)) := (Keeps.refl _ _).alloc _
                 have p0 := (hgrow8.cell_far ⟨wr.heap.size, 0, none⟩ (Nat.lt_of_lt_of_le l0 KA.size) y0).trans ((KA.cell l0 id).trans q0)
                 have p1 := (hgrow8.cell_far ⟨b', off' + k * 3, none⟩ (Nat.lt_of_lt_of_le l1 KA.size) y1).trans ((KA.cell l1 id).trans q1)
                 have p2 := (hgrow8.cell_far ⟨b', off' + k * 3 + 1, none⟩ (Nat.lt_of_lt_of_le l1 KA.size) y1).trans ((KA.cell l1 id).trans q2)
                 have p3 := (hgrow8.cell_far ⟨b', off' + k * 3 + 2, none⟩ (Nat.lt_of_lt_of_le l1 KA.size) y1).trans ((KA.cell l1 id).trans q3)
                 have HK8 := hide (((unhide HK7).alloc (.cells #[str I] 9)).grown hgrow8 (fun q e hq => by have := ((unhide HO7).lt q e).1; omega))
                 clear KA hgrow8
                 have HO8 := hide hown8
                 clear hown8 hat8 hlt8))
          go_wp2_with fail
          go_roundw
          case rel =>
            refine ⟨k + 1, by omega, by go_num, ?_, unhide HK8⟩
            rw [unhide HSN, if_neg (unhide HKI), ← unhide HIE, List.length_append, List.map_append]
            exact unhide HO8
          case measure => simp [intOf]; omega
      · obtain rfl : k = l.length := by omega
        have HJ := hide (join_v _ (unhide HO) rfl (((unhide HIT) l.length).1) (((unhide HIT) l.length).2))
        have htk : (l.zip r).take l.length = l.zip r := List.take_of_length_le (by rw [List.length_zip]; omega)
        rw [htk] at HJ
        obtain ⟨J, HJE⟩ : ∃ J, Hid (J = joinB (items (l.zip r))) := ⟨_, rfl⟩
        rw [← unhide HJE] at HJ HE
        have hJl : J.length ≤ 1808 := by have h := (unhide HIT) l.length; rw [htk] at h; rw [unhide HJE]; exact joinB_le h.1 h.2
        have q1 : Value.string (ByteArray.mk #[123] ++ ByteArray.mk J.toArray) = str (123 :: J) := str_cat [123] J _ rfl
        have q2 : Value.string (ByteArray.mk (123 :: J).toArray ++ ByteArray.mk #[125]) = str (printP l r) := str_cat (123 :: J) [125] _ (by rw [unhide HE]; rfl)
        obtain ⟨J1, HJ1⟩ : ∃ J1, Hid (J1 = 123 :: J) := ⟨_, rfl⟩
        rw [← unhide HJ1] at q1 q2
        have hJ1l : J1.length ≤ 1809 := by rw [unhide HJ1]; simp; omega
        obtain ⟨PP, HPP⟩ : ∃ PP, Hid (PP = printP l r) := ⟨_, rfl⟩
        rw [← unhide HPP] at q2
        clear htk HE
        go_wp2_with fail
        refine (unhide HJ).mono ?_
        rintro e w3 ⟨rfl, hk3⟩
        have HK3 := hide ((unhide HB2).trans ((unhide HK).trans hk3))
        clear hk3
        go_wp2_with fail
        go_ret2
        exact ⟨by rw [unhide HPP, unhide HE0]; rfl, unhide HK3⟩
  · have HE : Hid (printP l r = []) := by show _ = _; unfold printP; rw [if_neg he]
    have hne : (errR l r == 0) = false := by simpa using he
    go_wp2_with fail
    go_ret2
    exact ⟨by rw [unhide HE]; rfl, unhide HB2⟩
end Go.Proofs.YtklkhegeeglfbaaGreatDoor
