import Derived.Test.YtbgapbaeegloaabGreatDoorMc
import Derived.Test.YtbgapbaeegloaabGreatDoorMd
namespace Go.Proofs.YtbgapbaeegloaabGreatDoor
open Go.RowKit Go.Maps

theorem pu10_v (d : Txt) (h0 : 1 ≤ d.length) (hl : d.length ≤ 256) (w : World) :
    Calls Tryz.prog 60 #[str d, .int .i64 10, .int .i64 64] w fun e w' => PuA e (pu 10 d 0) ∧ Keeps (fun _ => False) w w' := by
  refine (Tryz.internal_strconv_ParseUint_10_at64 ⟨d.toArray⟩ (by simp [ByteArray.size]; omega) w).mono ?_
  rintro e w' ⟨rfl, hw⟩
  refine ⟨?_, ?_⟩
  · have e1 : Lib.parseUintB 64 (ByteArray.mk d.toArray).data.toList = Lib.parseUintM 18446744073709551615 0 d := by
      show Lib.parseUintB 64 d = _
      unfold Lib.parseUintB
      rw [if_neg (by rintro rfl; simp at h0)]
    rw [e1]
    have q := pu_ten d 0 (by omega)
    cases hp : pu 10 d 0 with
    | some u =>
      rw [(q u).2 hp]
      rfl
    | none =>
      rcases hm : Lib.parseUintM 18446744073709551615 0 d with u | _ | _
      · rw [(q u).1 hm] at hp; cases hp
      · exact ⟨_, _, .inr rfl, rfl⟩
      · exact ⟨_, _, .inl rfl, rfl⟩
  · rcases hw with rfl | rfl
    · exact Keeps.refl _ _
    · exact ⟨rfl, rfl, rfl, by rw [Lib.bytesWorld_size]; omega, fun k hk _ => Lib.bytesWorld_at_old w 5 _ k hk⟩

/-- What ParseUint answers. -/
def PuB (e : Ending) : Option Nat → Prop
  | some u => e = .returned (.tuple #[.int .u64 (u : Int), .nilIface])
  | none => ∃ (x : Int) (te : TypeId) (pv : Value), e = .returned (.tuple #[.int .u64 x, .iface te pv])

set_option maxRecDepth 100000 in
theorem parse_v (b : Int) (d : Txt) (R : Option Nat) (hl : d.length ≤ 256) (w : World) (hE : Env w)
    (h : Calls Tryz.prog 60 #[str d, .int .i64 b, .int .i64 64] w fun e w' => PuA e R ∧ Keeps (fun _ => False) w w') :
    Calls Tryz.prog 51 #[str d, .int .i64 b, .int .i64 64] w fun e w' => PuB e R ∧ Keeps (fun _ => False) w w' := by
  have HQ := hide h
  have HE := hide hE
  clear h hE
  go_enter Tryz.func51, Tryz.ntmps51
  go_wp2_with fail
  refine (unhide HQ).mono ?_
  rintro e w2 ⟨he, hk⟩
  have HK := hide hk
  have HE2 := hide ((unhide HE).keepF hk)
  clear hk HQ
  cases R with
  | some u =>
    obtain rfl := he
    go_wp2_with fail
    go_ret2
    exact ⟨rfl, unhide HK⟩
  | none =>
    obtain ⟨x, n, hn, rfl⟩ := he
    rcases hn with rfl | rfl
    · obtain ⟨ev, hev, hev2⟩ := (unhide HE2).rang
      have HT := hide (Tryz.strconv_toError_range ⟨#[80, 97, 114, 115, 101, 85, 105, 110, 116]⟩ ⟨d.toArray⟩ b 64 ev w2 (by simp [ByteArray.size]; omega) hev hev2)
      clear hev hev2
      go_wp2_with fail
      refine (unhide HT).mono ?_
      rintro e w3 ⟨n, rfl, hn, hb, hbel⟩
      have HK3 := hide ((unhide HK).trans (keeps_below hbel))
      clear hn hb hbel
      go_wp2_with fail
      go_ret2
      exact ⟨⟨_, _, _, rfl⟩, unhide HK3⟩
    · obtain ⟨ev, hev, hev2⟩ := (unhide HE2).synt
      have HT := hide (Tryz.strconv_toError_syntax ⟨#[80, 97, 114, 115, 101, 85, 105, 110, 116]⟩ ⟨d.toArray⟩ b 64 ev w2 (by simp [ByteArray.size]; omega) hev hev2)
      clear hev hev2
      go_wp2_with fail
      refine (unhide HT).mono ?_
      rintro e w3 ⟨n, rfl, hn, hb, hbel⟩
      have HK3 := hide ((unhide HK).trans (keeps_below hbel))
      clear hn hb hbel
      go_wp2_with fail
      go_ret2
      exact ⟨⟨_, _, _, rfl⟩, unhide HK3⟩

theorem split_v (d : Txt) (hl : d.length ≤ 256) (w : World) (hE : Env w) :
    Calls Tryz.prog 49 #[str d, str [95]] w fun e w' => e = .returned (.slice (some ⟨w.heap.size, 0, none⟩) (grp d).length (grp d).length) ∧ TxtsAt w' w.heap.size (grp d) ∧ Keeps (fun _ => False) w w' := by
  obtain ⟨m, hm⟩ := hE.most
  refine (Tryz.strings_Split ⟨d.toArray⟩ ⟨#[95]⟩ m w (by simp [ByteArray.size]; omega) hm (by decide)).mono ?_
  rintro e w' ⟨rfl, rfl⟩
  obtain ⟨e1, e2⟩ := split_grp d.length d (Nat.le_refl _)
  have ec : Lib.countB ⟨d.toArray⟩ ⟨#[95]⟩ + 1 = (grp d).length := e2
  have hd := Lib.splitB_data ⟨#[95]⟩ 0 (Lib.countB ⟨d.toArray⟩ ⟨#[95]⟩) ⟨d.toArray⟩
  have hd2 : (Lib.splitB ⟨#[95]⟩ 0 (Lib.countB ⟨d.toArray⟩ ⟨#[95]⟩) ⟨d.toArray⟩).map (·.data.toList) = grp d := hd.trans e1
  refine ⟨?_, ⟨by simp, fun i x hx => ?_⟩, (Keeps.refl _ _).alloc _⟩
  · rw [← ec]
  · rw [cell_of_blk (heap_alloc_new w _)]
    rw [← hd2, List.getElem?_map] at hx
    obtain ⟨b, hb, rfl⟩ := Option.map_eq_some_iff.1 hx
    show ((Lib.splitB _ 0 _ _).map Value.string).toArray[i]? = _
    rw [List.getElem?_toArray, List.getElem?_map, hb]
    rfl

theorem grp_len (d : Txt) : (grp d).length ≤ d.length + 2 := by
  obtain ⟨_, e2⟩ := split_grp d.length d (Nat.le_refl _)
  have := Lib.count_le d [95]
  omega
theorem mem_flat_len {x : Txt} : ∀ (L : List Txt), x ∈ L → x.length ≤ L.flatten.length
  | [], h => by cases h
  | y :: r, h => by
    simp only [List.flatten_cons, List.length_append]
    rcases List.mem_cons.1 h with rfl | h
    · omega
    · have := mem_flat_len r h
      omega
theorem grp_mem_len {d x : Txt} (h : x ∈ grp d) : x.length ≤ d.length := by
  have h1 := mem_flat_len _ h
  rw [grp_flat] at h1
  have := List.length_filter_le (fun c => decide (c ≠ 95)) d
  omega
theorem pre_hex (x : Txt) : Lib.hasPrefix x [48, 120] = decide (x.take 2 = [48, 120]) := by
  unfold Lib.hasPrefix
  match x with
  | [] => rfl
  | [a] => by_cases h : a = 48 <;> simp [List.isPrefixOf]
  | a :: b :: r =>
    apply Bool.eq_iff_iff.2
    simp [List.isPrefixOf]
    constructor
    · rintro ⟨rfl, rfl⟩; exact ⟨rfl, rfl⟩
    · rintro ⟨rfl, rfl⟩; exact ⟨rfl, rfl⟩
/-- What valueOf answers. -/
def VoA (e : Ending) : Option Nat → Prop
  | some v => e = .returned (.tuple #[.int .u64 (v : Int), .bool true])
  | none => ∃ n : Int, e = .returned (.tuple #[.int .u64 n, .bool false])
theorem numB_ten {x : Txt} (h : x.take 2 ≠ [48, 120]) (h2 : x[0]? ≠ some 48 ∨ x = [48]) : numB x = digR 10 x false 0 := by
  unfold numB
  rw [if_neg h]
  rcases h2 with h2 | rfl
  · rw [if_neg h2]
  · decide

set_option maxRecDepth 100000 in
set_option maxHeartbeats 2000000 in
theorem valueOf_v (x : Txt) (c : UInt8) (hx0 : x[0]? = some c) (hl : x.length ≤ 256) (w : World) (hE : Env w) :
    Calls Tryz.prog 39 #[str x] w fun e w' => VoA e (numB x) ∧ Keeps (fun _ => False) w w' := by
  obtain ⟨R, HR⟩ : ∃ R, Hid (numB x = R) := ⟨_, rfl⟩
  rw [unhide HR]
  have HQ := hide (Tryz.strings_CutPrefix ⟨x.toArray⟩ ⟨#[48, 120]⟩ w)
  have ep : Lib.hasPrefix (ByteArray.mk x.toArray).data.toList (ByteArray.mk #[48, 120]).data.toList = decide (x.take 2 = [48, 120]) := pre_hex x
  have et : Lib.trimPrefix (ByteArray.mk x.toArray).data.toList (ByteArray.mk #[48, 120]).data.toList = if x.take 2 = [48, 120] then x.drop 2 else x := by
    show (if Lib.hasPrefix x [48, 120] then x.drop 2 else x) = _
    rw [pre_hex]
    by_cases h : x.take 2 = [48, 120] <;> simp [h]
  rw [ep, et] at HQ
  clear ep et
  have HE := hide hE
  have hxl := get_lt hx0
  have q := str_at hx0
  have ecn : (c.toNat : Int) = num c := rfl
  clear hE
  by_cases hhex : x.take 2 = [48, 120]
  · rw [if_pos hhex, decide_eq_true hhex] at HQ
    obtain ⟨ds, HDS⟩ : ∃ ds, Hid (x.drop 2 = ds) := ⟨_, rfl⟩
    rw [unhide HDS] at HQ
    have hdl : ds.length ≤ 256 := by rw [← unhide HDS, List.length_drop]; omega
    have HNB : Hid (R = digR 16 ds false 0) := by show _ = _; rw [← unhide HR, ← unhide HDS]; unfold numB; rw [if_pos hhex]
    clear hhex hx0 q ecn
    go_enter Tryz.func39, Tryz.ntmps39
    go_wp2_with fail
    refine (unhide HQ).mono ?_
    rintro e w1 ⟨rfl, rfl⟩
    clear HQ
    have HSP := hide (split_v ds hdl w1 (unhide HE))
    have HGL := hide (grp_len ds)
    have HGM := hide (fun y (hy : y ∈ grp ds) => grp_mem_len hy)
    have HGA := hide (gap_any ds)
    have HGF := hide (grp_flat ds)
    have HPU := hide (dig_pu 16 (by omega) ds false 0 (by omega))
    have HG0 := hide (grp_ne ds)
    generalize grp ds = G at *
    go_wp2_with fail
    refine (unhide HSP).mono ?_
    rintro e w2 ⟨rfl, ht2, hk2⟩
    have HK2 := hide hk2
    have HT2 := hide ht2
    have hgl : G.length ≤ 300 := by have := unhide HGL; omega
    have HCT := hide (contains_v w2 w1.heap.size G.length G.length G ht2 rfl (by omega))
    rw [unhide HGA] at HCT
    clear ht2 hk2 HSP
    cases hng : noGap false ds with
    | false =>
      rw [hng, show (!false) = true from rfl] at HCT
      have HF : Hid (R = none) := by show _ = _; rw [unhide HNB, unhide HPU, hng]; rfl
      clear hng
      go_wp2_with fail
      refine (unhide HCT).mono ?_
      rintro e w3 ⟨rfl, rfl⟩
      clear HCT
      go_wp2_with fail
      go_ret2
      exact ⟨by rw [unhide HF]; exact ⟨_, rfl⟩, unhide HK2⟩
    | true =>
      rw [hng, show (!true) = false from rfl] at HCT
      have HNE : Hid (∀ y ∈ G, y ≠ []) := by
        intro y hy e
        have h := unhide HGA
        rw [hng] at h
        have : G.any (fun g => decide (g = [])) = true := List.any_eq_true.2 ⟨y, hy, by simp [e]⟩
        rw [h] at this
        cases this
      have HG1 : Hid (1 ≤ G.length) := by
        show _ ≤ _
        rcases Nat.eq_zero_or_pos G.length with h | h
        · exact absurd (List.eq_nil_of_length_eq_zero h) (unhide HG0)
        · exact h
      have HJ := hide (joinE_v w2 w1.heap.size G.length G.length G (unhide HT2) rfl (unhide HG1) hgl (Nat.le_refl _) (fun y hy => by have := (unhide HGM) y hy; omega) (unhide HNE))
      rw [unhide HGF] at HJ
      have HRR : Hid (R = match pu 16 (ds.filter (fun c => decide (c ≠ 95))) 0 with
        | some u => if u ≤ 9223372036854775808 then some u else none
        | none => none) := by show _ = _; rw [unhide HNB, unhide HPU, hng, if_pos rfl]; rfl
      have HFN : Hid (1 ≤ (ds.filter (fun c => decide (c ≠ 95))).length) := by
        show _ ≤ _
        rcases Nat.eq_zero_or_pos (ds.filter (fun c => decide (c ≠ 95))).length with h | h
        · have h2 := List.eq_nil_of_length_eq_zero h
          rw [← unhide HGF] at h2
          cases hG : G with
          | nil => exact absurd hG (unhide HG0)
          | cons y r =>
            have hy : y ∈ G := by rw [hG]; exact List.mem_cons_self ..
            exact absurd (List.flatten_eq_nil_iff.1 h2 y hy) ((unhide HNE) y hy)
        · exact h
      have HFL : Hid ((ds.filter (fun c => decide (c ≠ 95))).length ≤ 256) := by
        have := List.length_filter_le (fun c => decide (c ≠ 95)) ds
        show _ ≤ _
        omega
      have HF5 : Hid (∀ y ∈ ds.filter (fun c => decide (c ≠ 95)), y ≠ 95) := fun y hy => by
        have := (List.mem_filter.1 hy).2
        simpa using this
      generalize ds.filter (fun c => decide (c ≠ 95)) = F at *
      clear hng HGA HGF HPU HNB HNE HGM HGL HG0
      go_wp2_with fail
      refine (unhide HCT).mono ?_
      rintro e w3 ⟨rfl, rfl⟩
      clear HCT
      go_wp2_with fail
      refine (unhide HJ).mono ?_
      rintro e w4 ⟨rfl, hk4⟩
      have HK4 := hide ((unhide HK2).trans hk4)
      have HP := hide (parse_v 16 F (pu 16 F 0) (unhide HFL) w4 ((unhide HE).keepF (unhide HK4)) (pu16_v F (unhide HFN) (unhide HFL) (unhide HF5) w4))
      clear hk4 HJ
      go_wp2_with fail
      refine (unhide HP).mono ?_
      rintro e w5 ⟨he, hk5⟩
      have HK5 := hide ((unhide HK4).trans hk5)
      clear hk5 HP
      cases hp : pu 16 F 0 with
      | none =>
        rw [hp] at he HRR
        obtain ⟨x9, te, pv, rfl⟩ := he
        clear hp
        go_wp2_with fail
        go_ret2
        exact ⟨by rw [show R = none from unhide HRR]; exact ⟨_, rfl⟩, unhide HK5⟩
      | some u =>
        rw [hp] at he HRR
        obtain rfl := he
        clear hp
        by_cases hu : u ≤ 9223372036854775808
        · have HF : Hid (R = some u) := by show _ = _; rw [unhide HRR]; simp only [if_pos hu]
          have hu' : (u : Int) ≤ 9223372036854775808 := by omega
          have hd : decide ((u : Int) ≤ 9223372036854775808) = true := decide_eq_true hu'
          clear hu
          go_wp2_with fail
          go_ret2
          exact ⟨by rw [unhide HF]; rfl, unhide HK5⟩
        · have HF : Hid (R = none) := by show _ = _; rw [unhide HRR]; simp only [if_neg hu]
          have hu' : ¬ (u : Int) ≤ 9223372036854775808 := by omega
          have hd : decide ((u : Int) ≤ 9223372036854775808) = false := decide_eq_false hu'
          clear hu
          go_wp2_with fail
          go_ret2
          exact ⟨by rw [unhide HF]; exact ⟨_, rfl⟩, unhide HK5⟩
  · rw [if_neg hhex, decide_eq_false hhex] at HQ
    by_cases h48 : c = 48 ∧ 1 < x.length
    · have HF : Hid (R = none) := by
        show _ = _
        rw [← unhide HR]
        unfold numB
        rw [if_neg hhex, if_pos (by rw [hx0, h48.1]), if_neg (by rintro rfl; simp at h48)]
      have hc48 : num c = 48 := by rw [h48.1]; rfl
      have hl1 : (1 : Int) < (x.length : Int) := by omega
      rw [hc48] at ecn
      clear hhex hx0 h48
      go_enter Tryz.func39, Tryz.ntmps39
      go_wp2_with fail
      refine (unhide HQ).mono ?_
      rintro e w1 ⟨rfl, rfl⟩
      clear HQ
      go_wp2_with fail
      go_ret2
      exact ⟨by rw [unhide HF]; exact ⟨_, rfl⟩, Keeps.refl _ _⟩
    · have HNB : Hid (R = digR 10 x false 0) := by
        show _ = _
        rw [← unhide HR]
        refine numB_ten hhex ?_
        by_cases h : c = 48
        · right
          have h1 : x.length = 1 := by
            have : ¬ 1 < x.length := fun q => h48 ⟨h, q⟩
            omega
          match x, h1, hx0 with
          | [a], _, e => simp at e; rw [e, h]
        · left
          rw [hx0]
          intro e
          exact h (by simpa using e)
      obtain ⟨ds, HDS⟩ : ∃ ds, Hid (x = ds) := ⟨_, rfl⟩
      have hdl := hl
      have hcase : num c = 48 ∧ x.length = 1 ∨ (num c == 48) = false := by
        by_cases h : c = 48
        · left
          exact ⟨by rw [h]; rfl, by
            have : ¬ 1 < x.length := fun q => h48 ⟨h, q⟩
            omega⟩
        · right
          have : num c ≠ 48 := fun e => h (num_inj (a := c) (b := 48) e)
          simpa using this
      clear hhex hx0 h48
      rcases hcase with ⟨hc, hx1⟩ | hc
      · rw [hc] at ecn
        have hl1 : ¬ (1 : Int) < (x.length : Int) := by omega
        have q0 : (x.length : Int) = 1 := by omega
        go_enter Tryz.func39, Tryz.ntmps39
        go_wp2_with fail
        refine (unhide HQ).mono ?_
        rintro e w1 ⟨rfl, rfl⟩
        clear HQ
        have HSP := hide (split_v x hdl w1 (unhide HE))
        have HGL := hide (grp_len x)
        have HGM := hide (fun y (hy : y ∈ grp x) => grp_mem_len hy)
        have HGA := hide (gap_any x)
        have HGF := hide (grp_flat x)
        have HPU := hide (dig_pu 10 (by omega) x false 0 (by omega))
        have HG0 := hide (grp_ne x)
        generalize grp x = G at *
        go_wp2_with fail
        refine (unhide HSP).mono ?_
        rintro e w2 ⟨rfl, ht2, hk2⟩
        have HK2 := hide hk2
        have HT2 := hide ht2
        have hgl : G.length ≤ 300 := by have := unhide HGL; omega
        have HCT := hide (contains_v w2 w1.heap.size G.length G.length G ht2 rfl (by omega))
        rw [unhide HGA] at HCT
        clear ht2 hk2 HSP
        cases hng : noGap false x with
        | false =>
          rw [hng, show (!false) = true from rfl] at HCT
          have HF : Hid (R = none) := by show _ = _; rw [unhide HNB, unhide HPU, hng]; rfl
          clear hng
          go_wp2_with fail
          refine (unhide HCT).mono ?_
          rintro e w3 ⟨rfl, rfl⟩
          clear HCT
          go_wp2_with fail
          go_ret2
          exact ⟨by rw [unhide HF]; exact ⟨_, rfl⟩, unhide HK2⟩
        | true =>
          rw [hng, show (!true) = false from rfl] at HCT
          have HNE : Hid (∀ y ∈ G, y ≠ []) := by
            intro y hy e
            have h := unhide HGA
            rw [hng] at h
            have : G.any (fun g => decide (g = [])) = true := List.any_eq_true.2 ⟨y, hy, by simp [e]⟩
            rw [h] at this
            cases this
          have HG1 : Hid (1 ≤ G.length) := by
            show _ ≤ _
            rcases Nat.eq_zero_or_pos G.length with h | h
            · exact absurd (List.eq_nil_of_length_eq_zero h) (unhide HG0)
            · exact h
          have HJ := hide (joinE_v w2 w1.heap.size G.length G.length G (unhide HT2) rfl (unhide HG1) hgl (Nat.le_refl _) (fun y hy => by have := (unhide HGM) y hy; omega) (unhide HNE))
          rw [unhide HGF] at HJ
          have HRR : Hid (R = match pu 10 (x.filter (fun c => decide (c ≠ 95))) 0 with
            | some u => if u ≤ 9223372036854775808 then some u else none
            | none => none) := by show _ = _; rw [unhide HNB, unhide HPU, hng, if_pos rfl]; rfl
          have HFN : Hid (1 ≤ (x.filter (fun c => decide (c ≠ 95))).length) := by
            show _ ≤ _
            rcases Nat.eq_zero_or_pos (x.filter (fun c => decide (c ≠ 95))).length with h | h
            · have h2 := List.eq_nil_of_length_eq_zero h
              rw [← unhide HGF] at h2
              cases hG : G with
              | nil => exact absurd hG (unhide HG0)
              | cons y r =>
                have hy : y ∈ G := by rw [hG]; exact List.mem_cons_self ..
                exact absurd (List.flatten_eq_nil_iff.1 h2 y hy) ((unhide HNE) y hy)
            · exact h
          have HFL : Hid ((x.filter (fun c => decide (c ≠ 95))).length ≤ 256) := by
            have := List.length_filter_le (fun c => decide (c ≠ 95)) x
            show _ ≤ _
            omega
          have HF5 : Hid (∀ y ∈ x.filter (fun c => decide (c ≠ 95)), y ≠ 95) := fun y hy => by
            have := (List.mem_filter.1 hy).2
            simpa using this
          generalize x.filter (fun c => decide (c ≠ 95)) = F at *
          clear hng HGA HGF HPU HNB HNE HGM HGL HG0
          go_wp2_with fail
          refine (unhide HCT).mono ?_
          rintro e w3 ⟨rfl, rfl⟩
          clear HCT
          go_wp2_with fail
          refine (unhide HJ).mono ?_
          rintro e w4 ⟨rfl, hk4⟩
          have HK4 := hide ((unhide HK2).trans hk4)
          have HP := hide (parse_v 10 F (pu 10 F 0) (unhide HFL) w4 ((unhide HE).keepF (unhide HK4)) (pu10_v F (unhide HFN) (unhide HFL) w4))
          clear hk4 HJ
          go_wp2_with fail
          refine (unhide HP).mono ?_
          rintro e w5 ⟨he, hk5⟩
          have HK5 := hide ((unhide HK4).trans hk5)
          clear hk5 HP
          cases hp : pu 10 F 0 with
          | none =>
            rw [hp] at he HRR
            obtain ⟨x9, te, pv, rfl⟩ := he
            clear hp
            go_wp2_with fail
            go_ret2
            exact ⟨by rw [show R = none from unhide HRR]; exact ⟨_, rfl⟩, unhide HK5⟩
          | some u =>
            rw [hp] at he HRR
            obtain rfl := he
            clear hp
            by_cases hu : u ≤ 9223372036854775808
            · have HF : Hid (R = some u) := by show _ = _; rw [unhide HRR]; simp only [if_pos hu]
              have hu' : (u : Int) ≤ 9223372036854775808 := by omega
              have hd : decide ((u : Int) ≤ 9223372036854775808) = true := decide_eq_true hu'
              clear hu
              go_wp2_with fail
              go_ret2
              exact ⟨by rw [unhide HF]; rfl, unhide HK5⟩
            · have HF : Hid (R = none) := by show _ = _; rw [unhide HRR]; simp only [if_neg hu]
              have hu' : ¬ (u : Int) ≤ 9223372036854775808 := by omega
              have hd : decide ((u : Int) ≤ 9223372036854775808) = false := decide_eq_false hu'
              clear hu
              go_wp2_with fail
              go_ret2
              exact ⟨by rw [unhide HF]; exact ⟨_, rfl⟩, unhide HK5⟩
      · go_enter Tryz.func39, Tryz.ntmps39
        go_wp2_with fail
        refine (unhide HQ).mono ?_
        rintro e w1 ⟨rfl, rfl⟩
        clear HQ
        have HSP := hide (split_v x hdl w1 (unhide HE))
        have HGL := hide (grp_len x)
        have HGM := hide (fun y (hy : y ∈ grp x) => grp_mem_len hy)
        have HGA := hide (gap_any x)
        have HGF := hide (grp_flat x)
        have HPU := hide (dig_pu 10 (by omega) x false 0 (by omega))
        have HG0 := hide (grp_ne x)
        generalize grp x = G at *
        go_wp2_with fail
        refine (unhide HSP).mono ?_
        rintro e w2 ⟨rfl, ht2, hk2⟩
        have HK2 := hide hk2
        have HT2 := hide ht2
        have hgl : G.length ≤ 300 := by have := unhide HGL; omega
        have HCT := hide (contains_v w2 w1.heap.size G.length G.length G ht2 rfl (by omega))
        rw [unhide HGA] at HCT
        clear ht2 hk2 HSP
        cases hng : noGap false x with
        | false =>
          rw [hng, show (!false) = true from rfl] at HCT
          have HF : Hid (R = none) := by show _ = _; rw [unhide HNB, unhide HPU, hng]; rfl
          clear hng
          go_wp2_with fail
          refine (unhide HCT).mono ?_
          rintro e w3 ⟨rfl, rfl⟩
          clear HCT
          go_wp2_with fail
          go_ret2
          exact ⟨by rw [unhide HF]; exact ⟨_, rfl⟩, unhide HK2⟩
        | true =>
          rw [hng, show (!true) = false from rfl] at HCT
          have HNE : Hid (∀ y ∈ G, y ≠ []) := by
            intro y hy e
            have h := unhide HGA
            rw [hng] at h
            have : G.any (fun g => decide (g = [])) = true := List.any_eq_true.2 ⟨y, hy, by simp [e]⟩
            rw [h] at this
            cases this
          have HG1 : Hid (1 ≤ G.length) := by
            show _ ≤ _
            rcases Nat.eq_zero_or_pos G.length with h | h
            · exact absurd (List.eq_nil_of_length_eq_zero h) (unhide HG0)
            · exact h
          have HJ := hide (joinE_v w2 w1.heap.size G.length G.length G (unhide HT2) rfl (unhide HG1) hgl (Nat.le_refl _) (fun y hy => by have := (unhide HGM) y hy; omega) (unhide HNE))
          rw [unhide HGF] at HJ
          have HRR : Hid (R = match pu 10 (x.filter (fun c => decide (c ≠ 95))) 0 with
            | some u => if u ≤ 9223372036854775808 then some u else none
            | none => none) := by show _ = _; rw [unhide HNB, unhide HPU, hng, if_pos rfl]; rfl
          have HFN : Hid (1 ≤ (x.filter (fun c => decide (c ≠ 95))).length) := by
            show _ ≤ _
            rcases Nat.eq_zero_or_pos (x.filter (fun c => decide (c ≠ 95))).length with h | h
            · have h2 := List.eq_nil_of_length_eq_zero h
              rw [← unhide HGF] at h2
              cases hG : G with
              | nil => exact absurd hG (unhide HG0)
              | cons y r =>
                have hy : y ∈ G := by rw [hG]; exact List.mem_cons_self ..
                exact absurd (List.flatten_eq_nil_iff.1 h2 y hy) ((unhide HNE) y hy)
            · exact h
          have HFL : Hid ((x.filter (fun c => decide (c ≠ 95))).length ≤ 256) := by
            have := List.length_filter_le (fun c => decide (c ≠ 95)) x
            show _ ≤ _
            omega
          have HF5 : Hid (∀ y ∈ x.filter (fun c => decide (c ≠ 95)), y ≠ 95) := fun y hy => by
            have := (List.mem_filter.1 hy).2
            simpa using this
          generalize x.filter (fun c => decide (c ≠ 95)) = F at *
          clear hng HGA HGF HPU HNB HNE HGM HGL HG0
          go_wp2_with fail
          refine (unhide HCT).mono ?_
          rintro e w3 ⟨rfl, rfl⟩
          clear HCT
          go_wp2_with fail
          refine (unhide HJ).mono ?_
          rintro e w4 ⟨rfl, hk4⟩
          have HK4 := hide ((unhide HK2).trans hk4)
          have HP := hide (parse_v 10 F (pu 10 F 0) (unhide HFL) w4 ((unhide HE).keepF (unhide HK4)) (pu10_v F (unhide HFN) (unhide HFL) w4))
          clear hk4 HJ
          go_wp2_with fail
          refine (unhide HP).mono ?_
          rintro e w5 ⟨he, hk5⟩
          have HK5 := hide ((unhide HK4).trans hk5)
          clear hk5 HP
          cases hp : pu 10 F 0 with
          | none =>
            rw [hp] at he HRR
            obtain ⟨x9, te, pv, rfl⟩ := he
            clear hp
            go_wp2_with fail
            go_ret2
            exact ⟨by rw [show R = none from unhide HRR]; exact ⟨_, rfl⟩, unhide HK5⟩
          | some u =>
            rw [hp] at he HRR
            obtain rfl := he
            clear hp
            by_cases hu : u ≤ 9223372036854775808
            · have HF : Hid (R = some u) := by show _ = _; rw [unhide HRR]; simp only [if_pos hu]
              have hu' : (u : Int) ≤ 9223372036854775808 := by omega
              have hd : decide ((u : Int) ≤ 9223372036854775808) = true := decide_eq_true hu'
              clear hu
              go_wp2_with fail
              go_ret2
              exact ⟨by rw [unhide HF]; rfl, unhide HK5⟩
            · have HF : Hid (R = none) := by show _ = _; rw [unhide HRR]; simp only [if_neg hu]
              have hu' : ¬ (u : Int) ≤ 9223372036854775808 := by omega
              have hd : decide ((u : Int) ≤ 9223372036854775808) = false := decide_eq_false hu'
              clear hu
              go_wp2_with fail
              go_ret2
              exact ⟨by rw [unhide HF]; exact ⟨_, rfl⟩, unhide HK5⟩
end Go.Proofs.YtbgapbaeegloaabGreatDoor
