import Derived.Test.YtcfnlnceoalnoaaGreatDoorHa
import Derived.Test.YtcfnlnceoalnoaaGreatDoorXa
namespace Go.Proofs.YtcfnlnceoalnoaaGreatDoor
open Go.RowKit Go.Maps
set_option maxRecDepth 100000 in
theorem zeroOf_any (f : FieldA) (w : World) : Calls Tryz.prog 182 #[f.v] w fun e w' => e = .returned (zeroV f).v ∧ Keeps (fun _ => False) w w' := by
  obtain ⟨nm, t, o⟩ := f
  unfold FieldA.v
  cases o with
  | false =>
    go_enter Tryz.func182, Tryz.ntmps182
    go_wp2
    refine bodyPost_ret (v := (zeroV ⟨nm, t, false⟩).v) (by simp [results, go_sem, zeroV, ValA.v]) rfl ?_
    exact ⟨rfl, ((Keeps.refl _ _).alloc _).alloc _⟩
  | true =>
    go_enter Tryz.func182, Tryz.ntmps182
    go_wp2
    refine bodyPost_ret (v := (zeroV ⟨nm, t, true⟩).v) (by simp [results, go_sem, zeroV, ValA.v]) rfl ?_
    exact ⟨rfl, ((Keeps.refl _ _).alloc _).alloc _⟩
set_option maxRecDepth 100000 in
theorem eqValue_any (x y : ValA) (w : World) : Calls Tryz.prog 46 #[x.v, y.v] w fun e w' => e = .returned (.bool (decide (x = y))) ∧ Keeps (fun _ => False) w w' := by
  obtain ⟨k1, n1, s1⟩ := x
  obtain ⟨k2, n2, s2⟩ := y
  unfold ValA.v
  go_enter Tryz.func46, Tryz.ntmps46
  go_wp2
  all_goals (go_ret; refine ⟨ret_bool ?_, ((Keeps.refl _ _).alloc _).alloc _⟩; apply Bool.eq_iff_iff.2; simp_all; try omega)
set_option maxRecDepth 100000 in
set_option maxHeartbeats 1000000 in
theorem fits_any (f : FieldA) (x : ValA) (w : World) : Calls Tryz.prog 50 #[f.v, x.v] w fun e w' => e = .returned (.bool (fitsB f x)) ∧ Keeps (fun _ => False) w w' := by
  obtain ⟨nm, t, o⟩ := f
  obtain ⟨k1, n1, s1⟩ := x
  unfold ValA.v FieldA.v
  go_enter Tryz.func50, Tryz.ntmps50
  go_wp2
  all_goals (go_ret; refine ⟨ret_bool ?_, ((Keeps.refl _ _).alloc _).alloc _⟩; apply Bool.eq_iff_iff.2; simp_all [fitsB]; try omega)
set_option maxRecDepth 100000 in
theorem turned_any (n : Int) (h0 : -9223372036854775808 ≤ n) (h1 : n ≤ 9223372036854775807) (w : World) : Calls Tryz.prog 71 #[.int .i64 n] w fun e w' => e = .returned (.int .u64 (turned n)) ∧ w' = w := by
  go_enter Tryz.func71, Tryz.ntmps71
  go_wp2
  all_goals (go_ret; refine ⟨ret_int ?_, rfl⟩; simp [turned] at *; try omega)
set_option maxRecDepth 100000 in
theorem back_any (u : Int) (h0 : 0 ≤ u) (h1 : u ≤ 18446744073709551615) (w : World) : Calls Tryz.prog 101 #[.int .u64 u] w fun e w' => e = .returned (.int .i64 (backB u)) ∧ w' = w := by
  go_enter Tryz.func101, Tryz.ntmps101
  go_wp2
  all_goals (go_ret; refine ⟨ret_int ?_, rfl⟩; simp [backB] at *; try omega)
set_option maxRecDepth 100000 in
set_option maxHeartbeats 2000000 in
theorem addInt_any (w : World) (B : Nat) (v : Value) (m : Nat) (xs : List Value) (n : Int) (h0 : -9223372036854775808 ≤ n) (h1 : n ≤ 9223372036854775807) (hv : w.ownsRow B 5 1 v m xs) (hm : m ≤ 1099511627776) (hB : B ≤ w.heap.size) :
    Calls Tryz.prog 45 #[v, .int .i64 n] w fun e w' => ∃ v', e = .returned v' ∧ w'.ownsRow B 5 1 v' (m + (groups (tn n)).length) (xs ++ bs (groups (tn n))) ∧ Keeps (fun q => v.ownBlock = some q) w w' ∧ (v'.ownBlock = v.ownBlock ∨ ∀ q, v'.ownBlock = some q → w.heap.size ≤ q) := by
  obtain ⟨i0, hi, hz0, hz1, hz2⟩ := info_parts Tryz.info5
  have HV := hide hv
  have HT := hide (turned_any n h0 h1 w)
  rw [tn_eq] at HT
  have hu := tn_le n h0 h1
  have HG := hide (groups_10 _ hu)
  generalize tn n = U at *
  clear hv
  go_enter Tryz.func45, Tryz.ntmps45
  go_wp2_with fail
  refine (unhide HT).mono ?_
  rintro e w1 ⟨rfl, rfl⟩
  go_wp2_with fail
  go_loopw [0, 5] (fun o u wr => ∃ (k : Nat) (d : Txt), u = .int .u64 k ∧ k ≤ U ∧ Hid (groups U = d ++ groups k) ∧ wr.ownsRow B 5 1 o (m + d.length) (xs ++ bs d) ∧ Keeps (fun q => v.ownBlock = some q) w1 wr ∧ (o.ownBlock = v.ownBlock ∨ ∀ q, o.ownBlock = some q → w1.heap.size ≤ q)) (fun _ u _ => (intOf u).toNat)
  case atStart => exact ⟨U, [], rfl, Nat.le_refl _, rfl, by simpa [bs] using unhide HV, Keeps.refl _ _, Or.inl rfl⟩
  case round =>
    obtain ⟨k, d, rfl, hk, HD, hown, hkp, hat0⟩ := hrel
    have HO := hide hown
    have HK := hide hkp
    have HA := hide hat0
    have hd : d.length ≤ 10 := by have h := congrArg List.length (unhide HD); have := unhide HG; simp at h; omega
    clear hown hkp hat0
    by_cases hge : 128 ≤ k
    · have HC : Hid (num (UInt8.ofNat (k % 128 + 128)) = (k : Int) % 128 + 128) := by show _ = _; rw [num_of _ (by omega)]; omega
      generalize hc : UInt8.ofNat (k % 128 + 128) = c at *
      have HCC := hide hc
      clear hc
      have hge' : (128 : Int) ≤ (k : Int) := by omega
      go_wp2_with (at_builtin; refine wpList_append_lies _ rfl _ _ _ rfl B 5 i0 _ 1 1 Tryz.underlying26 hi hz0 hz1 hz2 rfl (by omega) u0 (m + d.length) (xs ++ bs d) rfl ((unhide HO).alloc _) ⟨wr.heap.size, 0, none⟩ 1 1 [.int .u8 ((k : Int) % 128 + 128)] rfl rfl (World.news_of_block (cs := #[.int .u8 ((k : Int) % 128 + 128)]) (t := 5) (fr := (0, 0)) (heap_alloc_new wr _)) (by simp [Value.oneCell']) (by omega) (by unfold maxLen; omega) (by omega) (by have := (unhide HK).size; simp; omega) (wr.heap.size + 1) (by simp) ?_; intro g cap w2 hown1 hgrow hat hlt1)
      go_roundw
      case rel =>
        refine ⟨k / 128, d ++ [c], by go_num, by omega, ?_, ?_, ?_, ?_⟩
        · show _ = _
          rw [unhide HD, groups_big hge, unhide HCC]; simp
        · have h := hown1
          rw [List.append_assoc] at h
          simp only [List.length_append, List.length_singleton, bs, List.map_append, List.map_cons, List.map_nil, unhide HC] at h ⊢
          exact h
        · exact ((unhide HK).alloc _).grown hgrow (fun q e hq => by
            rcases unhide HA with h | h
            · rw [← h]; exact e
            · have := h q e; omega)
        · exact own_step (unhide HA) hat (by have := (unhide HK).size; omega) rfl
      case measure => simp [intOf]; omega
    · have HC : Hid (num (UInt8.ofNat k) = (k : Int)) := num_of k (by omega)
      generalize hc : UInt8.ofNat k = c at *
      have HCC := hide hc
      clear hc
      have hge' : (k : Int) < 128 := by omega
      go_wp2_with (at_builtin; refine wpList_append_lies _ rfl _ _ _ rfl B 5 i0 _ 1 1 Tryz.underlying26 hi hz0 hz1 hz2 rfl (by omega) u0 (m + d.length) (xs ++ bs d) rfl ((unhide HO).alloc _) ⟨wr.heap.size, 0, none⟩ 1 1 [.int .u8 (k : Int)] rfl rfl (World.news_of_block (cs := #[.int .u8 (k : Int)]) (t := 5) (fr := (0, 0)) (heap_alloc_new wr _)) (by simp [Value.oneCell']) (by omega) (by unfold maxLen; omega) (by omega) (by have := (unhide HK).size; simp; omega) (wr.heap.size + 1) (by simp) ?_; intro g cap w2 hown1 hgrow hat hlt1)
      go_ret
      refine ⟨_, rfl, ?_, ?_, ?_⟩
      · have h := hown1
        rw [unhide HD, groups_small (by omega), unhide HCC]
        rw [List.append_assoc] at h
        simp only [List.length_append, List.length_singleton, bs, List.map_append, List.map_cons, List.map_nil, unhide HC] at h ⊢
        exact h
      · exact ((unhide HK).alloc _).grown hgrow (fun q e hq => by
          rcases unhide HA with h | h
          · rw [← h]; exact e
          · have := h q e; omega)
      · exact own_step (unhide HA) hat (by have := (unhide HK).size; omega) rfl
set_option maxRecDepth 100000 in
set_option maxHeartbeats 2000000 in
theorem readInt_any (w : World) (v : Value) (t : Txt) (a : Nat) (h : BytesAt w v t) (ha : a ≤ 1099511627776) (ht : t.length ≤ 1099511627776) :
    Calls Tryz.prog 82 #[v, .int .i64 a] w fun e w' => e = .returned (.tuple #[.int .i64 (readIntB t a).1, .int .i64 (readIntB t a).2]) ∧ w' = w := by
  obtain ⟨ao, cap, rfl⟩ := RowAt.form h
  have HF := hide h
  clear h
  have HR : Hid (readIntB t a = match readG 10 (t.drop a) 0 0 with | none => (0, -1) | some (u, k) => (backB u, ((a + k : Nat) : Int))) := rfl
  generalize readIntB t a = R at *
  go_enter Tryz.func82, Tryz.ntmps82
  go_wp2_with fail
  go_loopw [6, 7, 8] (fun u p i wr => ∃ (k U P : Nat), k ≤ 10 ∧ i = .int .i64 k ∧ u = .int .u64 U ∧ p = .int .u64 P ∧ U ≤ 18446744073709551615 ∧ P ≤ 18446744073709551615 ∧ Hid (k ≤ 9 → P = 128 ^ k) ∧ Hid (readG 10 (t.drop a) 0 0 = readG (10 - k) (t.drop (a + k)) U k) ∧ wr = w) (fun _ _ i _ => 10 - (intOf i).toNat)
  case atStart => exact ⟨0, 0, 1, by omega, rfl, rfl, rfl, by omega, by omega, fun _ => rfl, rfl, rfl⟩
  case round =>
    obtain ⟨k, U, P, hk, rfl, rfl, rfl, hU, hP, HP, HG, rfl⟩ := hrel
    by_cases h10 : k < 10
    · have h10' : (k : Int) < 10 := by omega
      cases hx : t[a + k]? with
      | none =>
        have h1 := get_ge hx
        have HE : Hid (R = (0, -1)) := by
          show _ = _
          rw [unhide HR, unhide HG, show 10 - k = (9 - k) + 1 by omega, List.drop_eq_nil_of_le h1]
          rfl
        clear hx
        go_wp2_with fail
        go_ret2
        exact ⟨by rw [unhide HE]; rfl, rfl⟩
      | some c =>
        have h1 := get_lt hx
        obtain ⟨b, off, cc, e1, hblt, hc⟩ := (unhide HF).cells (by omega)
        simp at e1
        obtain ⟨rfl, rfl⟩ := e1
        have c0 := hc (a + k) c hx
        have hcr := num_range c
        have HD : Hid (t.drop (a + k) = c :: t.drop (a + k + 1)) := drop_at hx
        have HN : Hid (num c = (c.toNat : Int)) := rfl
        obtain ⟨V, hV⟩ : ∃ V, V = (U + 128 ^ k * (c.toNat % 128)) % 18446744073709551616 := ⟨_, rfl⟩
        have hVle : V ≤ 18446744073709551615 := by omega
        have HVE : Hid (IntKind.u64.wrap ((U : Int) + IntKind.u64.wrap ((P : Int) * (num c % 128))) = (V : Int)) := by
          show _ = _
          rw [wrapU_add, hV, ← unhide HP (by omega)]
          have hm : (P : Int) * (num c % 128) = ((P * (c.toNat % 128) : Nat) : Int) := by rw [Int.natCast_mul, Int.natCast_emod]; rfl
          rw [hm]
          generalize P * (c.toNat % 128) = Z
          omega
        have HPE : Hid (IntKind.u64.wrap ((P : Int) * 128) = (((P * 128) % 18446744073709551616 : Nat) : Int)) := by
          show _ = _
          rw [IntKind.wrap_u64]
          omega
        have HS : Hid (readG (10 - k) (t.drop (a + k)) U k = if c.toNat < 128 then some (V, k + 1) else readG (10 - (k + 1)) (t.drop (a + (k + 1))) V (k + 1)) := by
          show _ = _
          rw [unhide HD, show 10 - k = (9 - k) + 1 by omega, readG, ← hV, show 10 - (k + 1) = 9 - k by omega]
          rfl
        have HVV := hide hV
        clear hc hx hV
        go_wp2_with fail
        case roundEnd =>
          rename_i hlt
          go_roundw
          case rel =>
            refine ⟨k + 1, V, (P * 128) % 18446744073709551616, by omega, by go_num, by rw [unhide HVE], by rw [unhide HPE], hVle, by omega, ?_, ?_, trivial⟩
            · intro h9
              have := unhide HP (by omega)
              have h2 := pow128 (k + 1) h9
              rw [Nat.pow_succ] at h2 ⊢
              rw [this, Nat.mod_eq_of_lt (by omega)]
            · show _ = _
              rw [unhide HG, unhide HS, if_neg (by have := unhide HN; omega)]
          case measure => simp [intOf]; omega
        rename_i hlt
        rw [unhide HVE]
        refine (back_any V (by omega) (by omega) wr).mono ?_
        rintro e w1 ⟨rfl, rfl⟩
        have HE : Hid (R = (backB V, ((a + (k + 1) : Nat) : Int))) := by
          show _ = _
          rw [unhide HR, unhide HG, unhide HS, if_pos (by have := unhide HN; omega)]
        generalize backB V = X at *
        go_wp2_with fail
        go_ret2
        refine ⟨?_, rfl⟩
        rw [unhide HE]
        exact ret_ii rfl (by push_cast; omega)
    · obtain rfl : k = 10 := by omega
      have HE : Hid (R = (0, -1)) := by
        show _ = _
        rw [unhide HR, unhide HG]
        rfl
      go_wp2_with fail
      go_ret2
      exact ⟨by rw [unhide HE]; rfl, rfl⟩
set_option maxRecDepth 100000 in
set_option maxHeartbeats 2000000 in
theorem check_any (l : List FieldA) (v : Value) (r : List ValA) (u : Value) (w : World) (h : FldsAt w v l) (hr : ValsAt w u r) :
    Calls Tryz.prog 32 #[.agg #[v], u] w fun e w' => e = .returned (.int .i64 (errR l r)) ∧ Keeps (fun _ => False) w w' := by
  obtain ⟨ao, cap, rfl⟩ := RowAt.form h
  obtain ⟨bo, cbp, rfl⟩ := RowAt.form hr
  obtain ⟨HB, hb, hbc⟩ := boxed w #[.slice ao l.length cap] 24
  have hp := hbc 0 (.slice ao l.length cap) rfl
  have HF := hide (h.keepF (unhide HB))
  have HV := hide (hr.keepF (unhide HB))
  have HS := hide (checkSchema_any l _ _ (unhide HF))
  clear hbc h hr
  go_enter Tryz.func32, Tryz.ntmps32
  go_wp2_with fail
  refine (unhide HS).mono ?_
  rintro e w2 ⟨rfl, hk2⟩
  have hp2 := (hk2.cell (o := 0) hb id).trans hp
  have hb2 := Nat.lt_of_lt_of_le hb hk2.size
  have HF2 := hide ((unhide HF).keepF hk2)
  have HV2 := hide ((unhide HV).keepF hk2)
  have HB2 := hide ((unhide HB).trans hk2)
  clear HS HF HV HB hk2 hp hb
  generalize w.alloc (.cells #[.slice ao l.length cap] 24) = w1 at *
  generalize w.heap.size = sb at *
  rcases errS_eq l with ⟨hs, he⟩ | ⟨hs, he⟩
  · rw [he]
    have hl8 := (schemaB_len hs).2
    by_cases hlen : r.length = l.length
    · have hlen' : ((r.length : Int) != (l.length : Int)) = false := by simp [hlen]
      have HR : Hid (errR l r = if fitAll l r then 0 else 61) := by show _ = _; simp [errR, hs, recB, hlen]
      have HL := hide hlen
      have hr8 : r.length ≤ 8 := by omega
      clear hlen hs he
      go_wp2_with fail
      go_loopw [6] (fun i wr => ∃ k : Nat, k ≤ r.length ∧ i = .int .i64 k ∧ Hid (((l.zip r).take k).all (fun p => fitsB p.1 p.2) = true) ∧ Keeps (fun _ => False) w2 wr) (fun i _ => r.length - (intOf i).toNat)
      case atStart => exact ⟨0, Nat.zero_le _, rfl, by simp [Hid], Keeps.refl _ _⟩
      case round =>
        obtain ⟨k, hk, rfl, HA, hkp⟩ := hrel
        have HK := hide hkp
        cases hx : r[k]? with
        | none =>
          have h1 := get_ge hx
          obtain rfl : k = r.length := by omega
          have HT : Hid (fitAll l r = true) := by
            have h := unhide HA
            rw [List.take_of_length_le (by simp; omega)] at h
            exact h
          clear hx h1 hkp
          go_wp2_with fail
          go_ret
          exact ⟨ret_int (by rw [unhide HR, if_pos (unhide HT)]), (unhide HB2).trans (unhide HK)⟩
        | some x =>
          have h1 := get_lt hx
          obtain ⟨f, hf⟩ : ∃ f, l[k]? = some f := ⟨_, List.getElem?_eq_getElem (by have := unhide HL; omega)⟩
          obtain ⟨b, off, c, e, hbl, hc⟩ := (unhide HF2).cells (by have := unhide HL; omega)
          simp at e
          obtain ⟨rfl, rfl⟩ := e
          obtain ⟨b', off', c', e', hbl', hc'⟩ := (unhide HV2).cells (by omega)
          simp at e'
          obtain ⟨rfl, rfl⟩ := e'
          have c0 := (hkp.cell hbl id).trans (hc k f hf).1
          have c1 := (hkp.cell hbl id).trans (hc k f hf).2.1
          have c2 := (hkp.cell hbl id).trans (hc k f hf).2.2
          have d0 := (hkp.cell hbl' id).trans (hc' k x hx).1
          have d1 := (hkp.cell hbl' id).trans (hc' k x hx).2.1
          have d2 := (hkp.cell hbl' id).trans (hc' k x hx).2.2
          have hp' := (hkp.cell (o := 0) hb2 id).trans hp2
          have HZ := hide (zip_get hf hx)
          have i1 : (k : Int) < (r.length : Int) := by omega
          have i2 : (k : Int) < (l.length : Int) := by have := unhide HL; omega
          have i0 : (0 : Int) ≤ (k : Int) := by omega
          clear hkp hc hc' hf hx
          have HQ := hide (fits_any f x wr.drew)
          have z0 : sb < wr.drew.heap.size := Nat.lt_of_lt_of_le hb2 (unhide HK).size
          have z1 : b < wr.drew.heap.size := Nat.lt_of_lt_of_le hbl (unhide HK).size
          have z2 : b' < wr.drew.heap.size := Nat.lt_of_lt_of_le hbl' (unhide HK).size
          unfold FieldA.v ValA.v at HQ
          go_wp2_with fail
          go_region_held3 (fun w' => w'.cell? ⟨sb, 0, none⟩ = some (.slice (some ⟨b, off, none⟩) l.length cap) ∧ w'.cell? ⟨b, off + k * 3, none⟩ = some (str f.name) ∧ w'.cell? ⟨b, off + k * 3 + 1, none⟩ = some (.int .i64 f.type) ∧ w'.cell? ⟨b, off + k * 3 + 2, none⟩ = some (.bool f.opt) ∧ w'.cell? ⟨b', off' + k * 3, none⟩ = some (.int .i64 x.kind) ∧ w'.cell? ⟨b', off' + k * 3 + 1, none⟩ = some (.int .i64 x.n) ∧ w'.cell? ⟨b', off' + k * 3 + 2, none⟩ = some (str x.s))
            (go_keep)
            (first
              | (go_at_call 50
                 refine (unhide HQ).mono ?_
                 rintro e w4 ⟨rfl, hk4⟩
                 have q0 := (hk4.cell (o := 0) z0 id).trans hp'
                 have q1 := (hk4.cell z1 id).trans c0
                 have q2 := (hk4.cell z1 id).trans c1
                 have q3 := (hk4.cell z1 id).trans c2
                 have q4 := (hk4.cell z2 id).trans d0
                 have q5 := (hk4.cell z2 id).trans d1
                 have q6 := (hk4.cell z2 id).trans d2
                 have K4 := hide (((unhide HK).drewN 1).trans hk4)
                 clear hk4))
          cases hfit : fitsB f x with
          | true =>
            have HT : Hid (((l.zip r).take (k + 1)).all (fun p => fitsB p.1 p.2) = true) := by
              show _ = true
              rw [take_snoc _ _ _ (unhide HZ), List.all_append, unhide HA]
              simp [hfit]
            go_wp2_with fail
            go_roundw
            case rel => exact ⟨k + 1, by omega, by go_num, HT, unhide K4⟩
            case measure => simp [intOf]; omega
          | false =>
            have HT : Hid (fitAll l r = false) := List.all_eq_false.2 ⟨(f, x), List.mem_of_getElem? (unhide HZ), by simp [hfit]⟩
            go_wp2_with fail
            go_ret
            exact ⟨ret_int (by rw [unhide HR, unhide HT]; rfl), (unhide HB2).trans (unhide K4)⟩
    · have hlen' : ((r.length : Int) != (l.length : Int)) = true := by rw [bne_iff_ne]; omega
      have HR : Hid (errR l r = 61) := by show _ = _; simp [errR, hs, recB, hlen]
      clear hlen hs he
      go_wp2_with fail
      go_ret
      exact ⟨ret_int (unhide HR).symm, unhide HB2⟩
  · rw [he]
    have HR : Hid (errR l r = 60) := by show _ = _; simp [errR, hs]
    clear hs he
    go_wp2_with fail
    go_ret
    exact ⟨ret_int (unhide HR).symm, unhide HB2⟩
set_option maxRecDepth 100000 in
set_option maxHeartbeats 1000000 in
theorem copyVals_any (w : World) (v : Value) (l : List ValA) (hR : ValsAt w v l) (hl : l.length ≤ 4398046511104) :
    Calls Tryz.prog 23 #[v] w fun e w' => ∃ v', e = .returned v' ∧ w'.ownsRow w.heap.size 73 3 v' l.length (vcs l) ∧ Keeps (fun _ => False) w w' := by
  obtain ⟨i0, hi, hz0, hz1, hz2⟩ := info_parts Tryz.info73
  obtain ⟨ao, cap, rfl⟩ := RowAt.form hR
  have HR := hide hR
  have HL := hide hl
  have hl' : l.length ≤ 9223372036854775807 := by omega
  clear hR hl
  go_enter Tryz.func23, Tryz.ntmps23
  go_wp2
  go_loopw [3, 4] (fun o i wr => ∃ k : Nat, k ≤ l.length ∧ i = .int .i64 k ∧ wr.ownsRow w.heap.size 73 3 o k (vcs (l.take k)) ∧ Keeps (fun _ => False) w wr) (fun _ i _ => l.length - (intOf i).toNat)
  case atStart => exact ⟨0, Nat.zero_le _, rfl, by simpa [vcs] using World.ownsRow_nil w w.heap.size 73 3, Keeps.refl _ _⟩
  case round =>
    obtain ⟨k, hk, rfl, hown, hkeep⟩ := hrel
    have HO := hide hown
    have HK := hide hkeep
    clear hown hkeep
    by_cases hlt : k < l.length
    · obtain ⟨b, off, c, e1, hblt, hc⟩ := (unhide HR).cells (by omega)
      simp at e1
      obtain ⟨rfl, rfl⟩ := e1
      obtain ⟨x, hx⟩ : ∃ x, l[k]? = some x := ⟨_, List.getElem?_eq_getElem hlt⟩
      have p0 := ((unhide HK).cell hblt id).trans (hc k x hx).1
      have p1 := ((unhide HK).cell hblt id).trans (hc k x hx).2.1
      have p2 := ((unhide HK).cell hblt id).trans (hc k x hx).2.2
      have HX := hide hx
      have i1 : (k : Int) < (l.length : Int) := by omega
      have i0' : (0 : Int) ≤ (k : Int) := by omega
      clear hc hx
      go_wp2_with (at_builtin; refine wpList_append_lies _ rfl _ _ _ rfl w.heap.size 73 i0 _ 3 32 Tryz.underlying25 hi hz0 hz1 hz2 rfl (by omega) u3 k (vcs (l.take k)) rfl ((unhide HO).alloc _) ⟨wr.heap.size, 0, none⟩ 1 1 x.cs rfl rfl (World.news_of_block (cs := #[.int .i64 x.kind, .int .i64 x.n, str x.s]) (t := 73) (fr := (0, 0)) (heap_alloc_new wr _)) (by simp [Value.oneCell', ValA.cs]) (by omega) (by unfold maxLen; omega) (by have := unhide HL; omega) (by have := (unhide HK).size; simp; omega) (wr.heap.size + 1) (by simp) ?_; intro g cap w1 hown1 hgrow hat hlt1)
      go_roundw
      case rel =>
        refine ⟨k + 1, by omega, by go_num, ?_, ((unhide HK).alloc _).grown hgrow (fun q e hq => by have := ((unhide HO).lt q e).1; omega)⟩
        rw [take_snoc _ _ _ (unhide HX)]
        simpa [vcs] using hown1
      case measure => simp [intOf]; omega
    · go_wp2
      go_ret
      obtain rfl : k = l.length := by omega
      refine ⟨_, rfl, ?_, unhide HK⟩
      have := unhide HO
      rwa [List.take_length] at this
set_option maxRecDepth 100000 in
set_option maxHeartbeats 1000000 in
theorem eqVals_any (w : World) (va vb : Value) (la lb : List ValA) (ha : ValsAt w va la) (hb : ValsAt w vb lb) (hla : la.length ≤ maxLen) :
    Calls Tryz.prog 29 #[va, vb] w fun e w' => e = .returned (.bool (decide (la = lb))) ∧ Keeps (fun _ => False) w w' := by
  obtain ⟨ao, capa, rfl⟩ := RowAt.form ha
  obtain ⟨bo, capb, rfl⟩ := RowAt.form hb
  unfold maxLen at hla
  by_cases hlen : la.length = lb.length
  · have hne : ((la.length : Int) != (lb.length : Int)) = false := by simp [hlen]
    have HA := hide ha
    have HB := hide hb
    have HL := hide hlen
    clear ha hb hlen
    go_enter Tryz.func29, Tryz.ntmps29
    go_wp2
    go_loopw [5] (fun i wr => ∃ k : Nat, k ≤ la.length ∧ i = .int .i64 k ∧ Hid (la.take k = lb.take k) ∧ Keeps (fun _ => False) w wr) (fun i _ => la.length - (intOf i).toNat)
    case atStart => exact ⟨0, Nat.zero_le _, rfl, rfl, Keeps.refl _ _⟩
    case round =>
      obtain ⟨k, hk, rfl, HT, hkp⟩ := hrel
      have HK := hide hkp
      by_cases hlt : k < la.length
      · have hltb : k < lb.length := by have := unhide HL; omega
        obtain ⟨b, off, c1, e1, hbl, hc⟩ := (unhide HA).cells (by omega)
        obtain ⟨b', off', c2, e2, hbl', hc'⟩ := (unhide HB).cells (by omega)
        simp at e1 e2
        obtain ⟨rfl, rfl⟩ := e1
        obtain ⟨rfl, rfl⟩ := e2
        obtain ⟨x, hx⟩ : ∃ x, la[k]? = some x := ⟨_, List.getElem?_eq_getElem hlt⟩
        obtain ⟨y, hy⟩ : ∃ y, lb[k]? = some y := ⟨_, List.getElem?_eq_getElem hltb⟩
        have c0 := (hkp.cell hbl id).trans (hc k x hx).1
        have c1 := (hkp.cell hbl id).trans (hc k x hx).2.1
        have c2 := (hkp.cell hbl id).trans (hc k x hx).2.2
        have d0 := (hkp.cell hbl' id).trans (hc' k y hy).1
        have d1 := (hkp.cell hbl' id).trans (hc' k y hy).2.1
        have d2 := (hkp.cell hbl' id).trans (hc' k y hy).2.2
        have i1 : (k : Int) < (la.length : Int) := by omega
        have i2 : (k : Int) < (lb.length : Int) := by omega
        have i0 : (0 : Int) ≤ (k : Int) := by omega
        have HX := hide hx
        have HY := hide hy
        clear hc hc' hx hy hkp
        have HQ := hide (eqValue_any x y wr.drew)
        have z1 : b < wr.drew.heap.size := Nat.lt_of_lt_of_le hbl (unhide HK).size
        have z2 : b' < wr.drew.heap.size := Nat.lt_of_lt_of_le hbl' (unhide HK).size
        unfold ValA.v at HQ
        go_wp2_with fail
        go_region_held3 (fun w' => w'.cell? ⟨b, off + k * 3, none⟩ = some (.int .i64 x.kind) ∧ w'.cell? ⟨b, off + k * 3 + 1, none⟩ = some (.int .i64 x.n) ∧ w'.cell? ⟨b, off + k * 3 + 2, none⟩ = some (str x.s) ∧ w'.cell? ⟨b', off' + k * 3, none⟩ = some (.int .i64 y.kind) ∧ w'.cell? ⟨b', off' + k * 3 + 1, none⟩ = some (.int .i64 y.n) ∧ w'.cell? ⟨b', off' + k * 3 + 2, none⟩ = some (str y.s))
          (go_keep)
          (first
            | (go_at_call 46
               refine (unhide HQ).mono ?_
               rintro e w4 ⟨rfl, hk4⟩
               have q1 := (hk4.cell z1 id).trans c0
               have q2 := (hk4.cell z1 id).trans c1
               have q3 := (hk4.cell z1 id).trans c2
               have q4 := (hk4.cell z2 id).trans d0
               have q5 := (hk4.cell z2 id).trans d1
               have q6 := (hk4.cell z2 id).trans d2
               have K4 := hide (((unhide HK).drewN 1).trans hk4)
               clear hk4))
        by_cases hxy : x = y
        · rw [decide_eq_true hxy]
          have HT2 : Hid (la.take (k + 1) = lb.take (k + 1)) := take_succ_eq (unhide HT) (unhide HX) (by rw [hxy]; exact unhide HY)
          clear hxy
          go_wp2_with fail
          go_roundw
          case rel => exact ⟨k + 1, by omega, by go_num, HT2, unhide K4⟩
          case measure => simp [intOf]; omega
        · rw [decide_eq_false hxy]
          have HN := hide hxy
          clear hxy
          go_wp2_with fail
          go_ret
          exact ⟨ret_bool (by symm; rw [decide_eq_false_iff_not]; exact get_ne (unhide HX) (unhide HY) (unhide HN)), unhide K4⟩
      · have HF := hide (take_end (unhide HL) (by omega) (unhide HT))
        clear hkp
        go_wp2
        go_ret
        exact ⟨ret_bool (by symm; rw [decide_eq_true_iff]; exact unhide HF), unhide HK⟩
  · have hne : ((la.length : Int) != (lb.length : Int)) = true := by rw [bne_iff_ne]; omega
    have HL := hide hlen
    clear hlen
    go_enter Tryz.func29, Tryz.ntmps29
    go_wp2
    go_ret
    exact ⟨ret_bool (by symm; rw [decide_eq_false_iff_not]; intro e; exact unhide HL (by rw [e])), Keeps.refl _ _⟩
set_option maxRecDepth 100000 in
set_option maxHeartbeats 2000000 in
theorem read_any (f : FieldA) (w : World) (v : Value) (t : Txt) (a : Nat) (h : BytesAt w v t) (ha : a ≤ 1099511627776) (ht : t.length ≤ 1099511627776) :
    Calls Tryz.prog 60 #[f.v, v, .int .i64 a] w fun e w' => e = .returned (.tuple #[(readB f t a).1.v, .int .i64 (readB f t a).2]) ∧ Keeps (fun _ => False) w w' := by
  obtain ⟨ao, cap, rfl⟩ := RowAt.form h
  have HF := hide h
  clear h
  unfold FieldA.v ValA.v
  by_cases h1 : f.type = 1
  · have HR : Hid (readB f t a = (⟨1, (readIntB t a).1, []⟩, (readIntB t a).2)) := by show _ = _; unfold readB; rw [if_pos h1]
    rw [unhide HR, h1]
    have hk : Keeps (fun _ => False) w ((w.alloc (.cells #[str f.name, .int .i64 1, .bool f.opt] 54)).alloc (.cells #[.int .i64 0, .int .i64 0, str []] 73)) := ((Keeps.refl _ _).alloc _).alloc _
    have HI := hide (readInt_any _ _ t a ((unhide HF).keepF hk) ha ht)
    generalize readIntB t a = R at *
    clear hk
    go_enter Tryz.func60, Tryz.ntmps60
    go_wp2_with fail
    refine (unhide HI).mono ?_
    rintro e w2 ⟨rfl, rfl⟩
    go_wp2_with fail
    refine bodyPost_ret (v := .tuple #[.agg #[.int .i64 1, .int .i64 R.1, str []], .int .i64 R.2]) (by simp [results, go_sem]) rfl ?_
    exact ⟨rfl, ((Keeps.refl _ _).alloc _).alloc _⟩
  have hne1 : (f.type == 1) = false := by simpa using h1
  cases hx : t[a]? with
  | none =>
    have h2 := get_ge hx
    have HR : Hid (readB f t a = (⟨0, 0, []⟩, -1)) := by show _ = _; unfold readB; rw [if_neg h1, hx]
    rw [unhide HR]
    clear hx h1
    go_enter Tryz.func60, Tryz.ntmps60
    go_wp2_with fail
    refine bodyPost_ret (v := .tuple #[.agg #[.int .i64 0, .int .i64 0, str []], .int .i64 (-1)]) (by simp [results, go_sem]) rfl ?_
    exact ⟨rfl, ((Keeps.refl _ _).alloc _).alloc _⟩
  | some c =>
    have h2 := get_lt hx
    obtain ⟨b, off, cc, e1, hblt, hc⟩ := (unhide HF).cells (by omega)
    simp at e1
    obtain ⟨rfl, rfl⟩ := e1
    have c0 := hc a c hx
    have hcr := num_range c
    have HC := hide hc
    have HN : Hid (num c = (c.toNat : Int)) := rfl
    by_cases h3 : f.type = 2
    · have HR : Hid (readB f t a = (⟨2, num c, []⟩, ((a + 1 : Nat) : Int))) := by show _ = _; unfold readB; rw [if_neg h1, hx]; simp only; rw [if_pos h3]
      rw [unhide HR, h3]
      clear hx h1 hc hne1
      generalize num c = x at *
      go_enter Tryz.func60, Tryz.ntmps60
      go_wp2_with fail
      refine bodyPost_ret (v := .tuple #[.agg #[.int .i64 2, .int .i64 x, str []], .int .i64 ((a + 1 : Nat) : Int)]) (by simp [results, go_sem]) rfl ?_
      exact ⟨rfl, ((Keeps.refl _ _).alloc _).alloc _⟩
    have hne2 : (f.type == 2) = false := by simpa using h3
    by_cases h4 : t.length < a + 1 + c.toNat
    · have HR : Hid (readB f t a = (⟨0, 0, []⟩, -1)) := by show _ = _; unfold readB; rw [if_neg h1, hx]; simp only; rw [if_neg h3, if_pos h4]
      rw [unhide HR]
      have h4' : (t.length : Int) < (a : Int) + 1 + num c := by have := unhide HN; omega
      clear hx h1 h3 hc h4
      generalize num c = x at *
      go_enter Tryz.func60, Tryz.ntmps60
      go_wp2_with fail
      refine bodyPost_ret (v := .tuple #[.agg #[.int .i64 0, .int .i64 0, str []], .int .i64 (-1)]) (by simp [results, go_sem]) rfl ?_
      exact ⟨rfl, ((Keeps.refl _ _).alloc _).alloc _⟩
    · have HR : Hid (readB f t a = (⟨3, 0, (t.drop (a + 1)).take c.toNat⟩, ((a + 1 + c.toNat : Nat) : Int))) := by show _ = _; unfold readB; rw [if_neg h1, hx]; simp only; rw [if_neg h3, if_neg h4]
      rw [unhide HR]
      obtain ⟨s, hs⟩ : ∃ s, s = (t.drop (a + 1)).take c.toNat := ⟨_, rfl⟩
      have hsl : s.length = c.toNat := by rw [hs]; simp; omega
      have HS : Hid (∀ (w : World) (cap : Nat), (∀ j x, t[j]? = some x → w.cell? ⟨b, off + j, none⟩ = some (.int .u8 (num x))) → (convert 26 9 (.slice (some ⟨b, off + (a + 1), none⟩) c.toNat cap)).run Tryz.prog w = .ok (str s) w) := by
        intro w cap hw
        rw [← hsl]
        refine conv_at w b (off + (a + 1)) cap s (fun j x hj => ?_)
        rw [Nat.add_assoc]
        apply hw
        rw [hs, List.getElem?_take] at hj
        split at hj
        · rwa [List.getElem?_drop] at hj
        · cases hj
      rw [← hs]
      have h4' : (a : Int) + 1 + num c ≤ (t.length : Int) := by have := unhide HN; omega
      obtain ⟨n, hn⟩ : ∃ n, n = c.toNat := ⟨_, rfl⟩
      rw [← hn] at HS HN h4 hsl ⊢
      have hnl : n ≤ 255 := by have := unhide HN; omega
      rw [unhide HN] at c0 h4' hcr
      have hcap : t.length ≤ cap := RowAt.room (unhide HF) _ _ _ rfl
      have hk : Keeps (fun _ => False) w ((w.alloc (.cells #[str f.name, .int .i64 f.type, .bool f.opt] 54)).alloc (.cells #[.int .i64 0, .int .i64 0, str []] 73)) := ((Keeps.refl _ _).alloc _).alloc _
      have hcw : ∀ j x, t[j]? = some x → ((w.alloc (.cells #[str f.name, .int .i64 f.type, .bool f.opt] 54)).alloc (.cells #[.int .i64 0, .int .i64 0, str []] 73)).cell? ⟨b, off + j, none⟩ = some (.int .u8 (num x)) := fun j x hj => (hk.cell hblt id).trans (hc j x hj)
      have hcv := unhide HS _ (cap - (a + 1)) hcw
      clear hx h1 h3 hc hs hn hk
      by_cases hca : cap = a + 1
      · subst hca
        obtain rfl : n = 0 := by omega
        obtain rfl : s = [] := List.eq_nil_of_length_eq_zero hsl
        have hcv0 := conv_at ((w.alloc (.cells #[str f.name, .int .i64 f.type, .bool f.opt] 54)).alloc (.cells #[.int .i64 0, .int .i64 0, str []] 73)) b off 0 [] (fun j c hj => by simp at hj)
        simp only [List.length_nil] at hcv0
        clear hcw HS
        go_enter Tryz.func60, Tryz.ntmps60
        go_wp2_with fail
        refine bodyPost_ret (v := .tuple #[.agg #[.int .i64 3, .int .i64 0, str []], .int .i64 ((a + 1 + 0 : Nat) : Int)]) (by simp [results, go_sem]) rfl ?_
        exact ⟨rfl, ((Keeps.refl _ _).alloc _).alloc _⟩
      · clear hcw HS hsl
        go_enter Tryz.func60, Tryz.ntmps60
        go_wp2_with fail
        refine bodyPost_ret (v := .tuple #[.agg #[.int .i64 3, .int .i64 0, str s], .int .i64 ((a + 1 + n : Nat) : Int)]) (by simp [results, go_sem]) rfl ?_
        exact ⟨rfl, ((Keeps.refl _ _).alloc _).alloc _⟩
set_option maxRecDepth 100000 in
set_option maxHeartbeats 4000000 in
theorem encode_any (l : List FieldA) (v : Value) (r : List ValA) (u : Value) (w : World) (h : FldsAt w v l) (hr : ValsAt w u r) (hI : InR r) :
    Calls Tryz.prog 28 #[.agg #[v], u] w fun e w' => ∃ b', e = .returned (.tuple #[b', .int .i64 (errR l r)]) ∧ w'.ownsRow w.heap.size 5 1 b' (encodeB l r).length (bs (encodeB l r)) ∧ Keeps (fun _ => False) w w' := by
  obtain ⟨i0, hi, hz0, hz1, hz2⟩ := info_parts Tryz.info5
  obtain ⟨ao, cap, rfl⟩ := RowAt.form h
  obtain ⟨bo, cbp, rfl⟩ := RowAt.form hr
  obtain ⟨HB, hb, hbc⟩ := boxed w #[.slice ao l.length cap] 24
  have hp := hbc 0 (.slice ao l.length cap) rfl
  have HF := hide (h.keepF (unhide HB))
  have HV := hide (hr.keepF (unhide HB))
  have HS := hide (check_any l _ r _ _ (unhide HF) (unhide HV))
  have HI := hide hI
  clear hbc h hr hI
  go_enter Tryz.func28, Tryz.ntmps28
  go_wp2_with fail
  refine (unhide HS).mono ?_
  rintro e w2 ⟨rfl, hk2⟩
  have hp2 := (hk2.cell (o := 0) hb id).trans hp
  have hb2 := Nat.lt_of_lt_of_le hb hk2.size
  have HF2 := hide ((unhide HF).keepF hk2)
  have HV2 := hide ((unhide HV).keepF hk2)
  have HB2 := hide ((unhide HB).trans hk2)
  have hw2 : w.heap.size ≤ w2.heap.size := (unhide HB2).size
  clear HS HF HV HB hk2 hp hb
  generalize w.alloc (.cells #[.slice ao l.length cap] 24) = w1 at *
  by_cases he : errR l r = 0
  · obtain ⟨hs, hlen, hfit⟩ := errR_zero he
    have hl8 := (schemaB_len hs).2
    have hl1 := (schemaB_len hs).1
    have HE : Hid (encodeB l r = headT (l.zip r) ++ r.flatMap enc1) := by show _ = _; unfold encodeB; rw [if_pos he]; rfl
    rw [he]
    have HL := hide hlen
    have HT := hide hfit
    have HE0 := hide he
    have hr8 : r.length ≤ 8 := by omega
    clear hs hlen hfit he
    go_wp2_with fail
    go_loopw [8, 9, 10, 11] (fun n j p i wr => ∃ k N P J : Nat, k ≤ r.length ∧ i = .int .i64 k ∧ n = .int .i64 N ∧ p = .int .i64 P ∧ j = .int .i64 J ∧ N ≤ 256 ∧ P ≤ 256 ∧ J ≤ 8 ∧ Hid (N = headN (bitsOf ((l.zip r).take k)) ∧ J = (bitsOf ((l.zip r).take k)).length ∧ P = 2 ^ J) ∧ wr = w2) (fun _ _ _ i _ => r.length - (intOf i).toNat)
    case atStart => exact ⟨0, 0, 1, 0, Nat.zero_le _, rfl, rfl, rfl, rfl, by omega, by omega, by omega, ⟨rfl, rfl, rfl⟩, rfl⟩
    case round =>
      obtain ⟨k, N, P, J, hk, rfl, rfl, rfl, rfl, hN, hP, hJ, HQ, rfl⟩ := hrel
      by_cases hlt : k < r.length
      · obtain ⟨x, hx⟩ : ∃ x, r[k]? = some x := ⟨_, List.getElem?_eq_getElem hlt⟩
        obtain ⟨f, hf⟩ : ∃ f, l[k]? = some f := ⟨_, List.getElem?_eq_getElem (by have := unhide HL; omega)⟩
        obtain ⟨b, off, c, e, hbl, hc⟩ := (unhide HF2).cells (by have := unhide HL; omega)
        simp at e
        obtain ⟨rfl, rfl⟩ := e
        obtain ⟨b', off', c', e', hbl', hc'⟩ := (unhide HV2).cells (by omega)
        simp at e'
        obtain ⟨rfl, rfl⟩ := e'
        have c2 := (hc k f hf).2.2
        have d0 := (hc' k x hx).1
        have i1 : (k : Int) < (r.length : Int) := by omega
        have i2 : (k : Int) < (l.length : Int) := by have := unhide HL; omega
        have HZ : Hid (bitsOf ((l.zip r).take (k + 1)) = bitsOf ((l.zip r).take k) ++ (if f.opt then [decide (x.kind ≠ 0)] else [])) := by
          show _ = _
          rw [take_snoc _ _ _ (zip_get hf hx), bitsOf_snoc]
        have HZL : Hid ((bitsOf ((l.zip r).take (k + 1))).length ≤ k + 1) := by
          have h1 := bitsOf_le ((l.zip r).take (k + 1))
          rw [List.length_take] at h1
          exact Nat.le_trans h1 (by omega)
        generalize bitsOf ((l.zip r).take k) = Z at *
        obtain ⟨Z', HZE⟩ : ∃ Z', Hid (bitsOf ((l.zip r).take (k + 1)) = Z') := ⟨_, rfl⟩
        rw [unhide HZE] at HZ HZL
        clear hc hc' hf hx
        cases hfo : f.opt with
        | false =>
          rw [hfo] at c2 HZ
          simp only [Bool.false_eq_true, if_false, List.append_nil] at HZ
          go_wp2_with fail
          go_roundw
          case rel => exact ⟨k + 1, N, P, J, by omega, by go_num, rfl, rfl, rfl, hN, hP, hJ, by rw [unhide HZE, unhide HZ]; exact HQ, trivial⟩
          case measure => simp [intOf]; omega
        | true =>
          rw [hfo] at c2 HZ
          simp only [if_true] at HZ
          have HQ2 : Hid (∀ b : Bool, Z' = Z ++ [b] → headN Z' = N + (if b then P else 0) ∧ J + 1 = Z'.length ∧ P * 2 = 2 ^ (J + 1) ∧ headN Z' ≤ 256 ∧ P * 2 ≤ 256 ∧ J + 1 ≤ 8) := by
            intro b hb
            obtain ⟨q1, q2, q3⟩ := unhide HQ
            have hln := unhide HZL
            have hhl := headN_lt Z'
            have hp2 := pow2_le (k := Z'.length) (by omega)
            have hJ1 : J + 1 = Z'.length := by rw [hb, q2]; simp
            have hPP : P * 2 = 2 ^ (J + 1) := by rw [q3, Nat.pow_succ]
            refine ⟨?_, hJ1, hPP, by omega, by rw [hPP, hJ1]; exact hp2, by omega⟩
            rw [hb, headN_snoc, ← q1, ← q2, ← q3]
          by_cases hk0 : x.kind = 0
          · have hk0' : (x.kind != 0) = false := by simp [hk0]
            obtain ⟨q1, q2, q3, q4, q5, q6⟩ := unhide HQ2 false (by rw [unhide HZ]; simp [hk0])
            have HQ3 : Hid (N = headN Z' ∧ J + 1 = Z'.length ∧ P * 2 = 2 ^ (J + 1)) := ⟨by simpa using q1.symm, q2, q3⟩
            clear q1 q2 q3 q4 hk0
            go_wp2_with fail
            go_roundw
            case rel => exact ⟨k + 1, N, P * 2, J + 1, by omega, by go_num, rfl, by go_num, by go_num, hN, q5, q6, by rw [unhide HZE]; exact HQ3, trivial⟩
            case measure => simp [intOf]; omega
          · have hk0' : (x.kind != 0) = true := by simpa using hk0
            obtain ⟨q1, q2, q3, q4, q5, q6⟩ := unhide HQ2 true (by rw [unhide HZ]; simp [hk0])
            simp only [if_true] at q1
            rw [q1] at q4
            have HQ3 : Hid (N + P = headN Z' ∧ J + 1 = Z'.length ∧ P * 2 = 2 ^ (J + 1)) := ⟨q1.symm, q2, q3⟩
            clear q1 q2 q3 hk0
            go_wp2_with fail
            go_roundw
            case rel => exact ⟨k + 1, N + P, P * 2, J + 1, by omega, by go_num, by go_num, by go_num, by go_num, q4, q5, q6, by rw [unhide HZE]; exact HQ3, trivial⟩
            case measure => simp [intOf]; omega
      · obtain rfl : k = r.length := by omega
        have HN : Hid (N = headN (bitsOf (l.zip r)) ∧ J = (bitsOf (l.zip r)).length ∧ N < 256) := by
          obtain ⟨q1, q2, q3⟩ := unhide HQ
          rw [List.take_of_length_le (by rw [List.length_zip]; have := unhide HL; omega)] at q1 q2
          have hhl := headN_lt (bitsOf (l.zip r))
          have hp2 := pow2_le (k := (bitsOf (l.zip r)).length) (by omega)
          exact ⟨q1, q2, by omega⟩
        have HE2 : Hid (encodeB l r = encTo l r r.length) := by show _ = _; rw [unhide HE]; unfold encTo; rw [List.take_length]
        have HA0 : Hid (encTo l r 0 = headT (l.zip r)) := by show _ = _; simp [encTo]
        have HAL := fun k => hide (encTo_le (unhide HL) (unhide HT) (unhide HI) k)
        obtain ⟨S, hS⟩ : ∃ S, S = wr.heap.size := ⟨_, rfl⟩
        obtain ⟨b', off', c', e', hbl', hc'⟩ := (unhide HV2).cells (by have := unhide HL; omega)
        simp at e'
        obtain ⟨rfl, rfl⟩ := e'
        rw [← hS] at hbl'
        by_cases hJ0 : 0 < J
        case' pos =>
          have HN2 : Hid (headT (l.zip r) = [UInt8.ofNat N] ∧ num (UInt8.ofNat N) = (N : Int)) := by
            obtain ⟨q1, q2, q3⟩ := unhide HN
            exact ⟨by unfold headT; rw [if_pos (by omega), q1], num_of N q3⟩
          have hN3 : N < 256 := (unhide HN).2.2
          clear HN HQ hlt hk hP hN
          go_wp2_with (at_builtin; refine wpList_append_lies _ rfl _ _ _ rfl S 5 i0 _ 1 1 Tryz.underlying26 hi hz0 hz1 hz2 rfl (by omega) (.slice none 0 0) 0 [] rfl (World.ownsRow_nil _ S 5 1) ⟨wr.heap.size, 0, none⟩ 1 1 [.int .u8 (N : Int)] rfl rfl (World.news_of_block (cs := #[.int .u8 (N : Int)]) (t := 5) (fr := (0, 0)) (heap_alloc_new wr _)) (by simp [Value.oneCell']) (by omega) (by unfold maxLen; omega) (by omega) (by simp; omega) (wr.heap.size + 1) (by simp) ?_; intro g cap' w3 hown1 hgrow hat hlt1)
          have HO3 : Hid (w3.ownsRow S 5 1 (.slice (some ⟨g, 0, none⟩) (0 + 1) cap') (encTo l r 0).length (bs (encTo l r 0))) := by
            show World.ownsRow _ _ _ _ _ _ _
            rw [unhide HA0, (unhide HN2).1]
            simp only [bs, List.map_cons, List.map_nil, (unhide HN2).2, List.length_singleton]
            simpa using hown1
          have hk3 : Keeps (fun _ => False) wr w3 := ((Keeps.refl _ _).alloc _).grown hgrow (fun q e hq => by cases e)
          have HC3 : Hid (∀ i f, r[i]? = some f → w3.cell? ⟨b', off' + i * 3, none⟩ = some (.int .i64 f.kind) ∧ w3.cell? ⟨b', off' + i * 3 + 1, none⟩ = some (.int .i64 f.n) ∧ w3.cell? ⟨b', off' + i * 3 + 2, none⟩ = some (str f.s)) := fun i f hf => by
            have hb3 : b' < wr.heap.size := by omega
            rw [hk3.cell hb3 id, hk3.cell hb3 id, hk3.cell hb3 id]
            exact hc' i f hf
          have HB3 := hide ((unhide HB2).trans hk3)
          have hS3 : S ≤ w3.heap.size := by have := hk3.size; omega
          have hS0 : w.heap.size ≤ S := by omega
          clear HV2 HB2 HF2 hc' hk3 hown1 hgrow hat hlt1 hp2 hb2 hw2 hS HN2
        case' neg =>
          have hJ1 : (J : Int) ≤ 0 := by omega
          have HO3 : Hid (wr.ownsRow S 5 1 (.slice none 0 0) (encTo l r 0).length (bs (encTo l r 0))) := by
            show World.ownsRow _ _ _ _ _ _ _
            rw [unhide HA0, show headT (l.zip r) = [] by unfold headT; rw [if_neg (by have := (unhide HN).2.1; omega)]]
            exact World.ownsRow_nil _ S 5 1
          have HC3 := hide hc'
          have HB3 := HB2
          have hS3 : S ≤ wr.heap.size := by omega
          have hS0 : w.heap.size ≤ S := by omega
          clear HN HQ hlt hk hP hN HV2 HB2 HF2 hp2 hb2 hw2 hS hc'
          go_wp2_with fail
        all_goals
          rename World => wc
          go_loopw [7, 12] (fun o i wr => ∃ k : Nat, k ≤ r.length ∧ i = .int .i64 k ∧ wr.ownsRow S 5 1 o (encTo l r k).length (bs (encTo l r k)) ∧ Keeps (fun q => S ≤ q) wc wr) (fun _ i _ => r.length - (intOf i).toNat)
          case atStart => exact ⟨0, Nat.zero_le _, rfl, unhide HO3, Keeps.refl _ _⟩
          case round =>
            obtain ⟨k, hk, rfl, hown, hkp⟩ := hrel
            have HO := hide hown
            have HK := hide hkp
            have hal := unhide (HAL k)
            by_cases hlt : k < r.length
            · obtain ⟨x, hx⟩ : ∃ x, r[k]? = some x := ⟨_, List.getElem?_eq_getElem hlt⟩
              have hbw : b' < wc.heap.size := by omega
              have hbS : ¬ S ≤ b' := by omega
              have d0 := (hkp.cell hbw hbS).trans (unhide HC3 k x hx).1
              have d1 := (hkp.cell hbw hbS).trans (unhide HC3 k x hx).2.1
              have d2 := (hkp.cell hbw hbS).trans (unhide HC3 k x hx).2.2
              have i1 : (k : Int) < (r.length : Int) := by omega
              have HS1 := hide (encTo_snoc (l := l) hx)
              have z1 : b' < wr.heap.size := Nat.lt_of_lt_of_le hbw hkp.size
              obtain ⟨A', HA'⟩ : ∃ A', Hid (encTo l r (k + 1) = A') := ⟨_, rfl⟩
              have hal' := unhide (HAL (k + 1))
              rw [unhide HA'] at HS1 hal'
              obtain ⟨A, HAA⟩ : ∃ A, Hid (encTo l r k = A) := ⟨_, rfl⟩
              rw [unhide HAA] at HS1 HO hal
              have hlen : A'.length = A.length + (enc1 x).length := by rw [unhide HS1, List.length_append]
              have hAx : (enc1 x).length ≤ 300 := by omega
              have hAl : A.length ≤ 300 := by omega
              have HX := hide hx
              have HKD := hide (fitsB_kind (fitAll_at (unhide HT) (List.getElem?_eq_getElem (show k < l.length by have := unhide HL; omega)) hx))
              clear hown hkp hx hal hal' hlen
              rcases unhide HKD with h0 | h0 | ⟨h0, hn0, hn1⟩ | ⟨h0, hsl⟩
              · have HE1 := hide (enc1_none h0)
                rw [h0] at d0
                rw [unhide HE1, List.append_nil] at HS1
                clear h0 HKD
                go_wp2_with fail
                go_roundw
                case rel => exact ⟨k + 1, by omega, by go_num, by rw [unhide HA', unhide HS1]; exact unhide HO, unhide HK⟩
                case measure => simp [intOf]; omega
              · have HE1 := hide (enc1_int h0)
                rw [h0] at d0
                rw [unhide HE1] at HS1
                have HQ := hide (addInt_any wr S _ A.length (bs A) x.n (unhide HI x (List.mem_of_getElem? (unhide HX))).1 (unhide HI x (List.mem_of_getElem? (unhide HX))).2 (unhide HO) (by omega) (by have := (unhide HK).size; omega))
                clear h0 HKD
                go_wp2_with fail
                refine (unhide HQ).mono ?_
                rintro e w4 ⟨v', rfl, ho4, hk4, _⟩
                obtain ⟨oo, oc, rfl⟩ := (rowAt_own ho4).form
                have HO4 := hide ho4
                have HK4 := hide hk4
                clear ho4 hk4 HQ
                go_wp2_with fail
                go_roundw
                case rel =>
                  refine ⟨k + 1, by omega, by go_num, ?_, (unhide HK).then (unhide HK4) (fun q _ e => ((unhide HO).lt q e).1)⟩
                  rw [unhide HA', unhide HS1, List.length_append, bs_append]
                  exact unhide HO4
                case measure => simp [intOf]; omega
              · have HE1 := hide (enc1_bool h0)
                rw [h0] at d0
                rw [unhide HE1] at HS1
                have HC : Hid (num (UInt8.ofNat x.n.toNat) = x.n) := by show _ = _; rw [num_of _ (by omega)]; omega
                clear h0 HKD
                go_wp2_with (at_builtin; refine wpList_append_lies _ rfl _ _ _ rfl S 5 i0 _ 1 1 Tryz.underlying26 hi hz0 hz1 hz2 rfl (by omega) u7 A.length (bs A) rfl ((unhide HO).alloc _) ⟨wr.heap.size, 0, none⟩ 1 1 [.int .u8 x.n] rfl rfl (World.news_of_block (cs := #[.int .u8 x.n]) (t := 5) (fr := (0, 0)) (heap_alloc_new wr _)) (by simp [Value.oneCell']) (by omega) (by unfold maxLen; omega) (by omega) (by have := (unhide HK).size; simp; omega) (wr.heap.size + 1) (by simp) ?_; intro g cap' w5 hown1 hgrow hat hlt1)
                go_roundw
                case rel =>
                  refine ⟨k + 1, by omega, by go_num, ?_, ((unhide HK).alloc _).grown hgrow (fun q e _ => ((unhide HO).lt q e).1)⟩
                  rw [unhide HA', unhide HS1, List.length_append, bs_append]
                  simp only [bs, List.map_cons, List.map_nil, unhide HC, List.length_singleton] at hown1 ⊢
                  exact hown1
                case measure => simp [intOf]; omega
              · have HE1 := hide (enc1_bytes h0)
                rw [h0] at d0
                rw [unhide HE1] at HS1
                have HC : Hid (num (UInt8.ofNat x.s.length) = (x.s.length : Int)) := num_of _ (by omega)
                clear h0 HKD
                go_wp2_with (at_builtin; refine wpList_append_lies _ rfl _ _ _ rfl S 5 i0 _ 1 1 Tryz.underlying26 hi hz0 hz1 hz2 rfl (by omega) u7 A.length (bs A) rfl ((unhide HO).alloc _) ⟨wr.heap.size, 0, none⟩ 1 1 [.int .u8 (x.s.length : Int)] rfl rfl (World.news_of_block (cs := #[.int .u8 (x.s.length : Int)]) (t := 5) (fr := (0, 0)) (heap_alloc_new wr _)) (by simp [Value.oneCell']) (by omega) (by unfold maxLen; omega) (by omega) (by have := (unhide HK).size; simp; omega) (wr.heap.size + 1) (by simp) ?_; intro g cap' w5 hown1 hgrow hat hlt1)
                have HO5 : Hid (w5.ownsRow S 5 1 (.slice (some ⟨g, 0, none⟩) (A.length + 1) cap') (A.length + 1) (bs (A ++ [UInt8.ofNat x.s.length]))) := by
                  show World.ownsRow _ _ _ _ _ _ _
                  rw [bs_append]
                  simp only [bs, List.map_cons, List.map_nil, unhide HC] at hown1 ⊢
                  exact hown1
                have hk5 : Keeps (fun q => S ≤ q) wr w5 := ((Keeps.refl _ _).alloc _).grown hgrow (fun q e _ => ((unhide HO).lt q e).1)
                have e2 := (hk5.cell z1 hbS).trans d2
                have z5 : b' < w5.heap.size := Nat.lt_of_lt_of_le z1 hk5.size
                have HK5 := hide ((unhide HK).trans hk5)
                have hS5 : S ≤ w5.heap.size := by have := (unhide HK5).size; omega
                obtain ⟨D, HDD⟩ : ∃ D, Hid (A ++ [UInt8.ofNat x.s.length] = D) := ⟨_, rfl⟩
                have hDl : D.length = A.length + 1 := by rw [← unhide HDD]; simp
                have hDl2 : D.length ≤ 301 := by omega
                have HDL := hide hDl
                rw [unhide HDD, ← hDl] at HO5
                have HS2 : Hid (A' = D ++ x.s) := by show _ = _; rw [unhide HS1, ← unhide HDD]; simp
                rw [← hDl]
                clear hown1 hgrow hat hlt1 hk5 d0 d1 d2 HO HK hDl HS1
                go_loopw [7, 13] (fun o i w6 => ∃ j : Nat, j ≤ x.s.length ∧ i = .int .i64 j ∧ w6.ownsRow S 5 1 o (D.length + j) (bs D ++ bs (x.s.take j)) ∧ Keeps (fun q => S ≤ q) w5 w6) (fun _ i _ => x.s.length - (intOf i).toNat)
                case atStart => exact ⟨0, Nat.zero_le _, rfl, by simpa [bs] using unhide HO5, Keeps.refl _ _⟩
                case round =>
                  obtain ⟨j, hj, rfl, hown6, hk6⟩ := hrel
                  have HO6 := hide hown6
                  have HK6 := hide hk6
                  have f2 := (hk6.cell z5 hbS).trans e2
                  clear hown6 hk6
                  cases hy : x.s[j]? with
                  | none =>
                    have h1 := get_ge hy
                    obtain rfl : j = x.s.length := by omega
                    rw [List.take_length] at HO6
                    clear hy h1 hj
                    go_wp2_with fail
                    go_roundw
                    case rel =>
                      refine ⟨k + 1, by omega, by go_num, ?_, (unhide HK5).trans (unhide HK6)⟩
                      rw [unhide HA', unhide HS2, List.length_append, bs_append]
                      exact unhide HO6
                    case measure => simp [intOf]; omega
                  | some y =>
                    have h1 := get_lt hy
                    have q := str_at hy
                    have e1 : (y.toNat : Int) = num y := rfl
                    have HY := hide hy
                    clear hy
                    go_wp2_with (at_builtin; refine wpList_append_lies _ rfl _ _ _ rfl S 5 i0 _ 1 1 Tryz.underlying26 hi hz0 hz1 hz2 rfl (by omega) u7 (D.length + j) (bs D ++ bs (x.s.take j)) rfl ((unhide HO6).alloc _) ⟨wr.heap.size, 0, none⟩ 1 1 [.int .u8 (num y)] rfl rfl (World.news_of_block (cs := #[.int .u8 (num y)]) (t := 5) (fr := (0, 0)) (heap_alloc_new wr _)) (by simp [Value.oneCell']) (by omega) (by unfold maxLen; omega) (by omega) (by have := (unhide HK6).size; simp; omega) (wr.heap.size + 1) (by simp) ?_; intro g' cap'' w7 hown7 hgrow7 hat7 hlt7)
                    go_roundw
                    case rel =>
                      refine ⟨j + 1, by omega, by go_num, ?_, ((unhide HK6).alloc _).grown hgrow7 (fun q e _ => ((unhide HO6).lt q e).1)⟩
                      rw [take_snoc _ _ _ (unhide HY), bs_append, ← List.append_assoc]
                      exact hown7
                    case measure => simp [intOf]; omega
            · obtain rfl : k = r.length := by omega
              clear hown hkp
              go_wp2_with fail
              go_ret2
              refine ⟨_, ret_vi rfl (unhide HE0).symm, ?_, (unhide HB3).narrow (unhide HK) (fun q e => Nat.le_trans hS0 e)⟩
              rw [unhide HE2]
              exact ownsRow_lower (unhide HO) hS0
  · have HE : Hid (encodeB l r = []) := by show _ = _; unfold encodeB; rw [if_neg he]
    have he' : (errR l r != 0) = true := by simpa using he
    go_wp2_with fail
    go_ret2
    refine ⟨_, rfl, ?_, unhide HB2⟩
    rw [unhide HE]
    exact World.ownsRow_nil w2 w.heap.size 5 1
/-- How far a reading has come: what stands for all from here on. -/
def decRest (l : List FieldA) (t : Txt) (k h a : Nat) (R : List ValA) : Option (List ValA) := (decLoop (l.drop k) t h a).map (R ++ ·)
theorem decRest_skip {l : List FieldA} {t : Txt} {k h a : Nat} {R : List ValA} {f : FieldA} (hf : l[k]? = some f) (ho : f.opt = true) (hh : h % 2 ≠ 1) : decRest l t k h a R = decRest l t (k + 1) (h / 2) a (R ++ [⟨0, 0, []⟩]) := by
  unfold decRest
  rw [drop_at hf, decLoop, if_pos ⟨ho, hh⟩, Option.map_map]
  congr 1
  funext x
  simp
theorem decRest_none {l : List FieldA} {t : Txt} {k h a : Nat} {R : List ValA} {f : FieldA} (hf : l[k]? = some f) (hh : ¬ (f.opt = true ∧ h % 2 ≠ 1)) (hn : (readB f t a).2 < 0) : decRest l t k h a R = none := by
  unfold decRest
  rw [drop_at hf, decLoop, if_neg hh, if_pos hn]
  rfl
theorem decRest_some {l : List FieldA} {t : Txt} {k h a : Nat} {R : List ValA} {f : FieldA} (hf : l[k]? = some f) (hh : ¬ (f.opt = true ∧ h % 2 ≠ 1)) (hn : ¬ (readB f t a).2 < 0) : decRest l t k h a R = decRest l t (k + 1) (if f.opt then h / 2 else h) (readB f t a).2.toNat (R ++ [(readB f t a).1]) := by
  unfold decRest
  rw [drop_at hf, decLoop, if_neg hh, if_neg hn, Option.map_map]
  congr 1
  funext x
  simp
theorem decRest_zero (l : List FieldA) (t : Txt) (h a : Nat) : decRest l t 0 h a [] = decLoop l t h a := by
  unfold decRest
  rw [List.drop_zero]
  cases decLoop l t h a <;> simp
theorem ownsRow_max {w : World} {B e size n : Nat} {v : Value} {xs : List Value} (h : w.ownsRow B e size v n xs) : n ≤ maxLen := by
  rcases h.2 with ⟨_, hn⟩ | ⟨g, cap, cur, hv, _, _, h1, h2, _⟩
  · omega
  · omega
theorem InR_nil : InR [] := fun x hx => by cases hx
theorem InR_snoc {R : List ValA} {x : ValA} (h : InR R) (hx : -9223372036854775808 ≤ x.n ∧ x.n ≤ 9223372036854775807) : InR (R ++ [x]) := by
  intro y hy
  rcases List.mem_append.1 hy with hy | hy
  · exact h y hy
  · simp at hy; rw [hy]; exact hx
set_option maxRecDepth 100000 in
set_option maxHeartbeats 4000000 in
theorem decode_any (l : List FieldA) (v : Value) (t : Txt) (u : Value) (w : World) (h : FldsAt w v l) (ht : BytesAt w u t) (htl : t.length ≤ 1099511627776) :
    Calls Tryz.prog 37 #[.agg #[v], u] w fun e w' => ∃ r', e = .returned (.tuple #[r', .int .i64 (decodeB l t).2]) ∧ w'.ownsRow w.heap.size 73 3 r' (decodeB l t).1.length (vcs (decodeB l t).1) ∧ Keeps (fun _ => False) w w' := by
  obtain ⟨i0, hi, hz0, hz1, hz2⟩ := info_parts Tryz.info73
  obtain ⟨ao, cap, rfl⟩ := RowAt.form h
  obtain ⟨bo, cbp, rfl⟩ := RowAt.form ht
  obtain ⟨HB, hb, hbc⟩ := boxed w #[.slice ao l.length cap] 24
  have hp := hbc 0 (.slice ao l.length cap) rfl
  have HF := hide (h.keepF (unhide HB))
  have HT := hide (ht.keepF (unhide HB))
  have HS := hide (checkSchema_any l _ _ (unhide HF))
  clear hbc h ht
  obtain ⟨D, HD⟩ : ∃ D, Hid (decodeB l t = D) := ⟨_, rfl⟩
  rw [unhide HD]
  go_enter Tryz.func37, Tryz.ntmps37
  go_wp2_with fail
  refine (unhide HS).mono ?_
  rintro e w2 ⟨rfl, hk2⟩
  have hp2 := (hk2.cell (o := 0) hb id).trans hp
  have hb2 := Nat.lt_of_lt_of_le hb hk2.size
  have HF2 := hide ((unhide HF).keepF hk2)
  have HT2 := hide ((unhide HT).keepF hk2)
  have HB2 := hide ((unhide HB).trans hk2)
  clear HS HF HT HB hk2 hp hb
  generalize w.alloc (.cells #[.slice ao l.length cap] 24) = w1 at *
  rcases errS_eq l with ⟨hs, he⟩ | ⟨hs, he⟩
  · rw [he]
    have hl8 := (schemaB_len hs).2
    have HH := hide (head_any l _ _ (unhide HF2) (by omega))
    have HS := hide hs
    have hh := headB_le l
    clear he hs
    go_wp2_with fail
    refine (unhide HH).mono ?_
    rintro e w3 ⟨rfl, hk3⟩
    have hp3 := (hk3.cell (o := 0) hb2 id).trans hp2
    have hb3 := Nat.lt_of_lt_of_le hb2 hk3.size
    have HF3 := hide ((unhide HF2).keepF hk3)
    have HT3 := hide ((unhide HT2).keepF hk3)
    have HB3 := hide ((unhide HB2).trans hk3)
    clear HH HF2 HT2 HB2 hk3 hp2 hb2
    obtain ⟨H, HHd⟩ : ∃ H, Hid (headB l = H) := ⟨_, rfl⟩
    rw [unhide HHd] at hh ⊢
    by_cases hl1 : (t.length : Int) < (H : Int)
    · have HE : Hid (D = ([], 62)) := by show _ = _; rw [← unhide HD]; unfold decodeB; rw [if_neg (by simp [unhide HS]), if_pos (Or.inl (by rw [unhide HHd]; omega))]
      go_wp2_with fail
      go_ret2
      refine ⟨_, ret_vi rfl (by rw [unhide HE]), ?_, unhide HB3⟩
      rw [unhide HE]
      exact World.ownsRow_nil w3 w.heap.size 73 3
    by_cases hl2 : (64 : Int) < (t.length : Int)
    · have HE : Hid (D = ([], 62)) := by show _ = _; rw [← unhide HD]; unfold decodeB; rw [if_neg (by simp [unhide HS]), if_pos (Or.inr (by omega))]
      have hl1' : (H : Int) ≤ (t.length : Int) := by omega
      go_wp2_with fail
      go_ret2
      refine ⟨_, ret_vi rfl (by rw [unhide HE]), ?_, unhide HB3⟩
      rw [unhide HE]
      exact World.ownsRow_nil w3 w.heap.size 73 3
    have hl1' : (H : Int) ≤ (t.length : Int) := by omega
    have hl2' : (t.length : Int) ≤ 64 := by omega
    have hd1 : decide (t.length < H) = false := decide_eq_false (by omega)
    have hd2 : decide ((64 : Int) < (t.length : Int)) = false := decide_eq_false (by omega)
    obtain ⟨h0, HH0⟩ : ∃ h0, Hid (head0 l t = h0) := ⟨_, rfl⟩
    have HE : Hid (D = match decRest l t 0 h0 H [] with | none => ([], 62) | some r => if errR l r = 0 ∧ encB l r = t then (r, 0) else ([], 62)) := by
      show _ = _
      rw [← unhide HD, ← unhide HH0, ← unhide HHd]
      unfold decodeB
      rw [if_neg (by simp [unhide HS]), if_neg (by rw [unhide HHd]; omega)]
      rw [decRest_zero]
      cases decLoop l t (head0 l t) (headB l) <;> rfl
    clear hl1 hl2
    have hh0 : h0 ≤ 255 := by
      rw [← unhide HH0]
      unfold head0
      split
      · have := (t.getD 0 0).toNat_lt; omega
      · omega
    by_cases hH : 0 < H
    case' pos =>
      obtain ⟨c, hc⟩ : ∃ c, t[0]? = some c := ⟨_, List.getElem?_eq_getElem (by omega)⟩
      obtain ⟨b, off, cc, e1, hblt, hcs⟩ := (unhide HT3).cells (by omega)
      simp at e1
      obtain ⟨rfl, rfl⟩ := e1
      have c0 := hcs 0 c hc
      have hc0 : num c = (h0 : Int) := by
        rw [← unhide HH0]
        unfold head0
        rw [unhide HHd, if_pos hH]
        simp [List.getD, hc, num]
      rw [hc0] at c0
      rw [Nat.add_zero] at c0
      clear hc hcs hc0
      go_wp2_with fail
    case' neg =>
      have hH' : (H : Int) ≤ 0 := by omega
      have hh00 : h0 = 0 := by
        rw [← unhide HH0]
        unfold head0
        rw [unhide HHd, if_neg hH]
      go_wp2_with fail
    all_goals
      go_loopw [7, 8, 9, 10] (fun at_ hd o i wr => ∃ (k h a : Nat) (R : List ValA), k ≤ l.length ∧ i = .int .i64 k ∧ hd = .int .i64 h ∧ at_ = .int .i64 a ∧ h ≤ 255 ∧ a ≤ t.length ∧ Hid (R.length = k) ∧ wr.ownsRow w3.heap.size 73 3 o k (vcs R) ∧ Hid (decRest l t 0 h0 H [] = decRest l t k h a R) ∧ Hid (InR R) ∧ Keeps (fun _ => False) w3 wr) (fun _ _ _ i _ => l.length - (intOf i).toNat)
      case atStart => exact ⟨0, h0, H, [], Nat.zero_le _, rfl, by first | rfl | (rw [hh00]; rfl), rfl, hh0, by omega, rfl, World.ownsRow_nil w3 w3.heap.size 73 3, rfl, InR_nil, Keeps.refl _ _⟩
      case round =>
        obtain ⟨k, h, a, R, hk, rfl, rfl, rfl, hh255, hat, HRL, hown, HDR, HIR, hkp⟩ := hrel
        have HO := hide hown
        have HK := hide hkp
        have p0 := (hkp.cell (o := 0) hb3 id).trans hp3
        have hkl : k ≤ 8 := by omega
        by_cases hlt : k < l.length
        · obtain ⟨x, hx⟩ : ∃ x, l[k]? = some x := ⟨_, List.getElem?_eq_getElem hlt⟩
          obtain ⟨fb, foff, fc, fe, hfbl, hfc⟩ := (unhide HF3).cells (by omega)
          simp at fe
          obtain ⟨rfl, rfl⟩ := fe
          have c0' := (hkp.cell hfbl id).trans (hfc k x hx).1
          have c1' := (hkp.cell hfbl id).trans (hfc k x hx).2.1
          have c2' := (hkp.cell hfbl id).trans (hfc k x hx).2.2
          have HX := hide hx
          have i1 : (k : Int) < (l.length : Int) := by omega
          have s3 : w3.heap.size ≤ wr.heap.size := hkp.size
          clear hown hkp hx hfc
          obtain ⟨HXB, hxb, hxc⟩ := boxed wr #[str x.name, .int .i64 x.type, .bool x.opt] 54
          have HQ := hide (read_any x _ _ t a (((unhide HT3).keepF (unhide HK)).keepF (unhide HXB)) (by omega) htl)
          unfold FieldA.v ValA.v at HQ
          have hrf := readB_facts x t a hat
          have hrp := readB_pos x t a
          by_cases hskip : x.opt = true ∧ h % 2 ≠ 1
          · obtain ⟨ho, hm⟩ := hskip
            have HD2 := hide (decRest_skip (R := R) (t := t) (a := a) (unhide HX) ho hm)
            rw [ho] at c2' hxc HQ HXB hxb
            have hm0 : (h : Int) % 2 = 0 := by omega
            clear HQ hxc hm HXB hxb hrf hrp
            go_wp2_with (at_builtin; refine wpList_append_lies _ rfl _ _ _ rfl w3.heap.size 73 i0 _ 3 32 Tryz.underlying25 hi hz0 hz1 hz2 rfl (by omega) u9 k (vcs R) rfl (((unhide HO).alloc _).alloc _) ⟨wr.heap.size + 1, 0, none⟩ 1 1 [.int .i64 0, .int .i64 0, str []] rfl rfl (World.news_of_block (cs := #[.int .i64 0, .int .i64 0, str []]) (t := 73) (fr := (0, 0)) (by have q := heap_alloc_new (wr.alloc (.cells #[str x.name, .int .i64 x.type, .bool true] 54)) (.cells #[.int .i64 0, .int .i64 0, str []] 73); rw [World.size_alloc] at q; exact q)) (by simp [Value.oneCell']) (by omega) (by unfold maxLen; omega) (by omega) (by simp; omega) (wr.heap.size + 2) (by simp) ?_; intro g cap' w5 hown1 hgrow hat5 hlt1)
            go_roundw
            case rel =>
              refine ⟨k + 1, h / 2, a, R ++ [⟨0, 0, []⟩], by omega, by go_num, by go_num, rfl, by omega, hat, ?_, ?_, ?_, ?_, (((unhide HK).alloc _).alloc _).grown hgrow (fun q e hq => by have := ((unhide HO).lt q e).1; omega)⟩
              · show _ = _; rw [List.length_append, unhide HRL]; rfl
              · rw [vcs_snoc]; exact hown1
              · show _ = _; rw [unhide HDR, unhide HD2]
              · exact InR_snoc (unhide HIR) (by simp)
            case measure => simp [intOf]; omega
          · have hx0 := hxc 0 (str x.name) rfl
            have hx1 := hxc 1 (.int .i64 x.type) rfl
            have hx2 := hxc 2 (.bool x.opt) rfl
            have HSK := hide hskip
            clear hxc
            by_cases ho : x.opt = true
            case' pos =>
              have hm1 : (h : Int) % 2 = 1 := by
                have : h % 2 = 1 := by
                  rcases Nat.mod_two_eq_zero_or_one h with e | e
                  · exact absurd ⟨ho, by omega⟩ hskip
                  · exact e
                omega
              rw [ho] at c2' hx0 hx1 hx2 HQ HXB hxb
              obtain ⟨h', hh'⟩ : ∃ h', h' = h / 2 := ⟨_, rfl⟩
              have HIF : Hid ((if x.opt then h / 2 else h) = h') := by show _ = _; simp [ho, hh']
              clear hskip ho
              go_wp2_with fail
            case' neg =>
              have ho' : x.opt = false := by simpa using ho
              rw [ho'] at c2' hx0 hx1 hx2 HQ HXB hxb
              obtain ⟨h', hh'⟩ : ∃ h', h' = h := ⟨_, rfl⟩
              have HIF : Hid ((if x.opt then h / 2 else h) = h') := by show _ = _; simp [ho', hh']
              clear hskip ho ho'
              go_wp2_with fail
            all_goals
              refine (unhide HQ).mono ?_
              rintro e w4 ⟨rfl, hk4⟩
              have HO4 : Hid (w4.ownsRow w3.heap.size 73 3 u9 k (vcs R)) := ownsRow_kept (ownsRow_kept (unhide HO) (unhide HXB) (fun _ _ => id)) hk4 (fun _ _ => id)
              have HK4 := hide (((unhide HK).trans (unhide HXB)).trans hk4)
              have s4 : w3.heap.size ≤ w4.heap.size := (unhide HK4).size
              obtain ⟨z, HZ⟩ : ∃ z, Hid ((readB x t a).1 = z) := ⟨_, rfl⟩
              obtain ⟨nx, HNX⟩ : ∃ nx, Hid ((readB x t a).2 = nx) := ⟨_, rfl⟩
              rw [unhide HZ, unhide HNX]
              rw [unhide HZ, unhide HNX] at hrf
              rw [unhide HNX] at hrp
              clear hk4 HQ HXB hxb hx0 hx1 hx2 c0' c1' c2' p0
              by_cases hneg : nx < 0
              · have HE9 : Hid (D = ([], 62)) := by
                  show _ = _
                  rw [unhide HE, unhide HDR, decRest_none (unhide HX) (unhide HSK) (by rw [unhide HNX]; exact hneg)]
                go_wp2_with fail
                go_ret2
                refine ⟨_, ret_vi rfl (by rw [unhide HE9]), ?_, (unhide HB3).trans ((unhide HK4).alloc _)⟩
                rw [unhide HE9]
                exact World.ownsRow_nil _ w.heap.size 73 3
              · obtain ⟨m, hm⟩ : ∃ m : Nat, nx = m := ⟨nx.toNat, by omega⟩
                subst hm
                have HD3 : Hid (decRest l t k h a R = decRest l t (k + 1) h' m (R ++ [z])) := by
                  show _ = _
                  rw [decRest_some (unhide HX) (unhide HSK) (by rw [unhide HNX]; exact hneg), unhide HIF, unhide HNX, unhide HZ, Int.toNat_natCast]
                go_wp2_with (at_builtin; refine wpList_append_lies _ rfl _ _ _ rfl w3.heap.size 73 i0 _ 3 32 Tryz.underlying25 hi hz0 hz1 hz2 rfl (by omega) u9 k (vcs R) rfl (((unhide HO4).alloc _).alloc _) ⟨w4.heap.size + 1, 0, none⟩ 1 1 z.cs rfl rfl (World.news_of_block (cs := #[.int .i64 z.kind, .int .i64 z.n, str z.s]) (t := 73) (fr := (0, 0)) (by have q := heap_alloc_new (w4.alloc (.cells #[.int .i64 z.kind, .int .i64 z.n, str z.s] 73)) (.cells #[.int .i64 z.kind, .int .i64 z.n, str z.s] 73); rw [World.size_alloc] at q; exact q)) (by simp [Value.oneCell', ValA.cs]) (by omega) (by unfold maxLen; omega) (by omega) (by simp; omega) (w4.heap.size + 2) (by simp) ?_; intro g cap' w5 hown1 hgrow hat5 hlt1)
                go_roundw
                case rel =>
                  refine ⟨k + 1, h', m, R ++ [z], by omega, by go_num, by first | rfl | (rw [hh']; done) | (rw [hh']; go_num), rfl, by omega, by omega, ?_, ?_, ?_, ?_, (((unhide HK4).alloc _).alloc _).grown hgrow (fun q e hq => by have := ((unhide HO4).lt q e).1; omega)⟩
                  · show _ = _; rw [List.length_append, unhide HRL]; rfl
                  · rw [vcs_snoc]; exact hown1
                  · show _ = _; rw [unhide HDR, unhide HD3]
                  · exact InR_snoc (unhide HIR) hrf.2
                case measure => simp [intOf]; omega
        · obtain rfl : k = l.length := by omega
          have hRL : R.length = l.length := unhide HRL
          have HDE : Hid (D = if errR l R = 0 ∧ encB l R = t then (R, 0) else ([], 62)) := by
            show _ = _
            rw [unhide HE, unhide HDR]
            unfold decRest
            rw [List.drop_length, decLoop]
            simp
          have HVA : Hid (ValsAt wr u9 R) := by
            have h1 := rowAt_own hown
            rw [← hRL] at h1
            exact h1
          have HQ := hide (encode_any l _ R u9 wr ((unhide HF3).keepF hkp) (unhide HVA) (unhide HIR))
          have HTW := hide ((unhide HT3).keepF hkp)
          clear hown hkp hRL
          go_wp2_with fail
          refine (unhide HQ).mono ?_
          rintro e w4 ⟨b4, rfl, ho4, hk4⟩
          have HQ2 := hide (eqBytes_any w4 b4 _ (encodeB l R) t (rowAt_own ho4) ((unhide HTW).keepF hk4) (by
            exact ownsRow_max ho4))
          have HO4 := hide (ownsRow_kept (unhide HO) hk4 (fun _ _ => id))
          have HK4 := hide ((unhide HK).trans hk4)
          clear ho4 hk4 HQ
          go_wp2_with fail
          refine (unhide HQ2).mono ?_
          rintro e w5 ⟨rfl, nq, rfl⟩
          have HFIN : Hid (errR l R = 0 → encodeB l R = encB l R) := fun e => by unfold encodeB; rw [if_pos e]
          generalize errR l R = E at *
          by_cases he0 : E = 0
          · have he1 : (E != 0) = false := by simp [he0]
            have HEN := hide (unhide HFIN he0)
            by_cases hsame : encodeB l R = t
            · rw [decide_eq_true hsame]
              have HE9 : Hid (D = (R, 0)) := by show _ = _; rw [unhide HDE, if_pos ⟨he0, by rw [← unhide HEN]; exact hsame⟩]
              clear hsame he0
              go_wp2_with fail
              go_ret2
              refine ⟨_, ret_vi rfl (by rw [unhide HE9]), ?_, (unhide HB3).trans ((unhide HK4).drewN _)⟩
              rw [unhide HE9]
              show World.ownsRow _ _ _ _ _ R.length _
              rw [unhide HRL]
              exact ownsRow_lower (ownsRow_kept (unhide HO4) (keeps_drewN _ _) (fun _ _ => id)) (unhide HB3).size
            · rw [decide_eq_false hsame]
              have HE9 : Hid (D = ([], 62)) := by show _ = _; rw [unhide HDE, if_neg (fun e => hsame (by rw [unhide HEN]; exact e.2))]
              clear hsame he0
              go_wp2_with fail
              go_ret2
              refine ⟨_, ret_vi rfl (by rw [unhide HE9]), ?_, (unhide HB3).trans ((unhide HK4).drewN _)⟩
              rw [unhide HE9]
              exact World.ownsRow_nil _ w.heap.size 73 3
          · have he1 : (E != 0) = true := by simpa using he0
            have HE9 : Hid (D = ([], 62)) := by show _ = _; rw [unhide HDE, if_neg (fun e => he0 e.1)]
            clear he0
            go_wp2_with fail
            go_ret2
            refine ⟨_, ret_vi rfl (by rw [unhide HE9]), ?_, (unhide HB3).trans ((unhide HK4).drewN _)⟩
            rw [unhide HE9]
            exact World.ownsRow_nil _ w.heap.size 73 3
  · rw [he]
    have HE : Hid (D = ([], 60)) := by show _ = _; rw [← unhide HD]; unfold decodeB; rw [if_pos hs]
    clear hs he
    go_wp2_with fail
    go_ret2
    refine ⟨_, ret_vi rfl (by rw [unhide HE]), ?_, unhide HB2⟩
    rw [unhide HE]
    exact World.ownsRow_nil w2 w.heap.size 73 3
end Go.Proofs.YtcfnlnceoalnoaaGreatDoor
namespace Go.Proofs.YtcfnlnceoalnoaaGreatDoor
open Go.RowKit Go.Maps

set_option maxRecDepth 100000 in
set_option maxHeartbeats 2000000 in
theorem twin_v (w : World) (v : Value) (l : List FieldA) (h : FldsAt w v l) (hl : l.length ≤ 4398046511104) :
    Calls Tryz.prog 7 #[.agg #[v]] w fun e w' => ∃ v', e = .returned (.agg #[v']) ∧ w'.ownsRow w.heap.size 54 3 v' l.length (fcs l) ∧ Keeps (fun _ => False) w w' := by
  obtain ⟨i0, hi, hz0, hz1, hz2⟩ := info_parts Tryz.info54
  obtain ⟨ao, cap, rfl⟩ := RowAt.form h
  obtain ⟨w3, hw3⟩ : ∃ w3, w3 = ((w.alloc (.cells #[.slice ao l.length cap] 24)).alloc (.cells #[.slice none 0 0] 24)).alloc (.cells #[.slice none 0 0] 24) := ⟨_, rfl⟩
  have hK : Keeps (fun _ => False) w w3 := by rw [hw3]; exact (((Keeps.refl _ _).alloc _).alloc _).alloc _
  have hs3 : w3.heap.size = w.heap.size + 3 := by rw [hw3]; simp
  have b0 : w3.heap[w.heap.size]? = some (.cells #[.slice ao l.length cap] 24 (0, 0)) := by
    rw [hw3, Below.heap_alloc _ _ _ (by simp; omega), Below.heap_alloc _ _ _ (by simp)]
    exact heap_alloc_new w _
  have b1 : w3.heap[w.heap.size + 1]? = some (.cells #[.slice none 0 0] 24 (0, 0)) := by
    rw [hw3, Below.heap_alloc _ _ _ (by simp)]
    have := heap_alloc_new (w.alloc (.cells #[.slice ao l.length cap] 24)) (.cells #[.slice none 0 0] 24)
    simpa using this
  have b2 : w3.heap[w.heap.size + 1 + 1]? = some (.cells #[.slice none 0 0] 24 (0, 0)) := by
    rw [hw3]
    have := heap_alloc_new ((w.alloc (.cells #[.slice ao l.length cap] 24)).alloc (.cells #[.slice none 0 0] 24)) (.cells #[.slice none 0 0] 24)
    simpa using this
  have HF := hide (h.keepF hK)
  have HW := hide hw3
  have HK := hide hK
  have HL := hide hl
  have B0 := hide b0
  have B1 := hide b1
  have B2 := hide b2
  have HS := hide hs3
  clear h hw3 hK b0 b1 b2 hs3 hl
  have hl' : l.length ≤ 9223372036854775807 := by have := unhide HL; omega
  go_enter Tryz.func7, Tryz.ntmps7
  go_wp2
  rw [← unhide HW]
  go_loopw [4] (fun i wr => ∃ (k : Nat) (o : Value), k ≤ l.length ∧ i = .int .i64 k ∧ wr.heap[w.heap.size + 1 + 1]? = some (.cells #[o] 24 (0, 0)) ∧ wr.ownsRow w3.heap.size 54 3 o k (fcs (l.take k)) ∧ Keeps (fun q => q = w.heap.size + 1 + 1) w3 wr) (fun i _ => l.length - (intOf i).toNat)
  case atStart => exact ⟨0, _, Nat.zero_le _, rfl, unhide B2, by simpa [fcs] using World.ownsRow_nil w3 w3.heap.size 54 3, Keeps.refl _ _⟩
  case round =>
    obtain ⟨k, o, hk, rfl, hbo, hown, hkp⟩ := hrel
    obtain ⟨oo, oc, rfl⟩ := (rowAt_own hown).form
    have HBo := hide hbo
    have HO := hide hown
    have HP := hide hkp
    have p0 : wr.cell? ⟨w.heap.size, 0, none⟩ = some (.slice ao l.length cap) := (hkp.cell (lt_of_block (unhide B0)) (by show ¬ _ = _; omega)).trans (by rw [cell_of_blk (unhide B0)]; rfl)
    have p2 : wr.cell? ⟨w.heap.size + 1 + 1, 0, none⟩ = some (.slice oo k oc) := by rw [cell_of_blk hbo]; rfl
    have f2 := frozen_of_blk hbo 0
    have z2 := lt_of_block hbo
    have z0 : w.heap.size < wr.heap.size := by omega
    by_cases hlt : k < l.length
    · obtain ⟨b, off, c1, e1, hbl, hc⟩ := (unhide HF).cells (by omega)
      simp at e1
      obtain ⟨rfl, rfl⟩ := e1
      obtain ⟨f, hf⟩ : ∃ f, l[k]? = some f := ⟨_, List.getElem?_eq_getElem hlt⟩
      have hbne : b ≠ w.heap.size + 1 + 1 := by
        rintro rfl
        have h1 := (hc k f hf).2.1
        have h2 := (hc k f hf).2.2
        rw [cell_of_blk (unhide B2)] at h1 h2
        rw [Array.getElem?_eq_none (by simp)] at h2
        cases h2
      have c0 := (hkp.cell hbl (by show ¬ _ = _; omega)).trans (hc k f hf).1
      have c1 := (hkp.cell hbl (by show ¬ _ = _; omega)).trans (hc k f hf).2.1
      have c2 := (hkp.cell hbl (by show ¬ _ = _; omega)).trans (hc k f hf).2.2
      have z1 : b < wr.heap.size := Nat.lt_of_lt_of_le hbl hkp.size
      have HX := hide hf
      have HN := hide (ownsRow_ne hown hbo (by decide))
      have i1 : (k : Int) < (l.length : Int) := by omega
      have i0' : (0 : Int) ≤ (k : Int) := by omega
      clear hc hf hbo hown hkp
      go_wp2_with fail
      go_region_law (first
        | (refine step_append_lies _ (by rfl) _ _ _ (by rfl) w3.heap.size 54 i0 _ 3 32 Tryz.underlying22 hi hz0 hz1 hz2 rfl (by omega) (.slice oo k oc) k (fcs (l.take k)) (by rfl) (((unhide HO).alloc _).drew)
            ⟨wr.heap.size, 0, none⟩ 1 1 f.cs (by rfl) (by rfl) (World.news_of_block (cs := #[str f.name, .int .i64 f.type, .bool f.opt]) (t := 54) (fr := (0, 0)) (by exact heap_alloc_new wr _)) (by simp [Value.oneCell', FieldA.cs])
            (by omega) (by unfold maxLen; omega) (by have := unhide HL; omega) (by have := (unhide HP).size; simp; omega) (wr.heap.size + 1) (by simp) ?_; intro g cap' w5 hown2 hgrow hat hlt2
           have f2' : w5.frozen? ⟨w.heap.size + 1 + 1, 0, none⟩ = false := by (rw [hgrow.frozen_far _ (by simp; omega) (Ne.symm (unhide HN))]; simpa [World.frozen?_alloc_past, z2] using f2)
           have p2' : w5.cell? ⟨w.heap.size + 1 + 1, 0, none⟩ = some (.slice oo k oc) := by (rw [hgrow.cell_far _ (by simp; omega) (Ne.symm (unhide HN))]; simpa [World.cell?_alloc_past, z2] using p2)))
      all_goals
        have hb5 : w5.heap[w.heap.size + 1 + 1]? = some (.cells #[.slice oo k oc] 24 (0, 0)) := by
          rw [hgrow.block (w.heap.size + 1 + 1) (by simp; omega) (Ne.symm (unhide HN))]
          show (wr.alloc _).heap[w.heap.size + 1 + 1]? = _
          rw [Below.heap_alloc _ _ _ z2]
          exact unhide HBo
        have H5 := hide hb5
        have HO2 := hide hown2
        have HG2 := hide hgrow
        clear hb5 hown2 hgrow
        go_wp2
        go_roundw
        case rel =>
          refine ⟨k + 1, .slice (some ⟨g, 0, none⟩) (k + 1) cap', by omega, by go_num, ?_, ?_, ?_⟩
          · rw [heap_setCell_at (unhide H5)]; rfl
          · rw [take_snoc _ _ _ (unhide HX)]
            have h1 : w5.ownsRow w3.heap.size 54 3 (.slice (some ⟨g, 0, none⟩) (k + 1) cap') (k + 1) (fcs (l.take k ++ [f])) := by simpa [fcs] using unhide HO2
            exact ownsRow_kept (F := fun q => q = w.heap.size + 1 + 1) h1 (keeps_set w5 _ 0 _) (fun q e e2 => by subst e2; exact ownsRow_ne h1 (unhide H5) (by decide) e)
          · exact ((((unhide HP).alloc _).drew).grown (unhide HG2) (fun q e hq => by have := ((unhide HO).lt q e).1; omega)).setCell (fun _ => rfl) _
        case measure => simp [intOf]; omega
    · obtain rfl : k = l.length := by omega
      have hb1 : wr.heap[w.heap.size + 1]? = some (.cells #[.slice none 0 0] 24 (0, 0)) := by rw [hkp.block _ (lt_of_block (unhide B1)) (by show ¬ _ = _; omega)]; exact unhide B1
      have p1 : wr.cell? ⟨w.heap.size + 1, 0, none⟩ = some (.slice none 0 0) := by rw [cell_of_blk hb1]; rfl
      have f1 := frozen_of_blk hb1 0
      have H1 := hide hb1
      have HN1 := hide (ownsRow_ne hown hb1 (by decide))
      clear hb1 hown hkp hbo
      go_wp2
      have hq : (wr.setCell ⟨w.heap.size + 1, 0, none⟩ (.slice oo l.length oc)).cell? ⟨w.heap.size + 1, 0, none⟩ = some (.slice oo l.length oc) := by rw [cell_of_blk (heap_setCell_at (unhide H1) _)]; rfl
      refine bodyPost_ret (v := .agg #[.slice oo l.length oc]) (by simp [results, go_sem, hq]) rfl ?_
      refine ⟨.slice oo l.length oc, rfl, ?_, ?_⟩
      · have h1 := unhide HO
        rw [List.take_length] at h1
        exact ownsRow_lower (ownsRow_kept (F := fun q => q = w.heap.size + 1) h1 (keeps_set wr _ 0 _) (fun q e e2 => unhide HN1 (by rw [← e2]; exact e))) (unhide HK).size
      · exact (unhide HK).narrow (F := fun q => q = w.heap.size + 1 + 1 ∨ q = w.heap.size + 1) (((unhide HP).mono (fun q _ h => Or.inl h)).then (keeps_set wr (w.heap.size + 1) 0 _) (fun q _ h => Or.inr h)) (fun q h => by omega)

end Go.Proofs.YtcfnlnceoalnoaaGreatDoor
