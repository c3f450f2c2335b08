import Derived.Test.YtoempeobaknkcaaGreatDoorKx
import Derived.Test.YtoempeobaknkcaaGreatDoorJyaf
import Derived.Test.YtoempeobaknkcaaGreatDoorJyay
namespace Go.Proofs.YtoempeobaknkcaaGreatDoor
open Go.RowKit Go.Maps

theorem Tryz.info111 : (Tryz.prog.info? 111).map (fun i => (i.zero, i.size, i.bytes)) = some (some (.agg #[.int .i64 0, .bool false, .int .i64 0]), 3, 24) := by kernel_rfl
theorem zero3_at {X w1 : World} {c : Array Value} {t : TypeId} (hk : Keeps (fun _ => False) (X.alloc (.cells c t)).drew w1) : w1.heap[X.heap.size]? = some (.cells c t (0, 0)) := by
  have hk' := (Keeps.refl (fun _ => False) (X.alloc (.cells c t))).drew.trans hk
  rw [hk'.block _ (by simp) id]
  exact heap_alloc_new X _
theorem rcs_snoc (l : List KA) (k : KA) : rcs (l ++ [k]) = rcs l ++ [.int .i64 k.t, .bool k.o, .int .i64 0] := by simp [rcs]
/-- Behind the reference's kind of a kid: where it lies, and what stands. -/
structure Kid (base : World) (B : Nat) (o : Value) (k : Nat) (xs : List Value) (blk : Nat) (T : Int) (O : Bool) (E : Int) (w2 : World) : Prop where
  kept : Keeps (fun _ => False) base w2
  own : w2.ownsRow B 111 3 o k xs
  c0 : w2.cell? ⟨blk, 0, none⟩ = some (.int .i64 T)
  c1 : w2.cell? ⟨blk, 1, none⟩ = some (.bool O)
  c2 : w2.cell? ⟨blk, 2, none⟩ = some (.int .i64 E)
theorem kid_A {base wr w1 : World} {B : Nat} {o : Value} {k : Nat} {xs : List Value} {T E : Int} {O : Bool} (hb : Keeps (fun _ => False) base wr) (ho : wr.ownsRow B 111 3 o k xs) (hk : Keeps (fun _ => False) wr w1) :
    Kid base B o k xs w1.heap.size T O E (w1.alloc (.cells #[.int .i64 T, .bool O, .int .i64 E] 111)) := by
  have h := heap_alloc_new w1 (.cells #[.int .i64 T, .bool O, .int .i64 E] 111)
  exact ⟨(hb.trans hk).alloc _, ownsRow_kept ho (hk.alloc _) (fun _ _ => id), by rw [cell_of_blk h]; rfl, by rw [cell_of_blk h]; rfl, by rw [cell_of_blk h]; rfl⟩
theorem kid_B {base wr w1 : World} {B : Nat} {o : Value} {k : Nat} {xs : List Value} {T E : Int} {O : Bool} {c : Array Value} (hs : c.size = 3) (hb : Keeps (fun _ => False) base wr) (ho : wr.ownsRow B 111 3 o k xs) (hk : Keeps (fun _ => False) (wr.alloc (.cells c 111)).drew w1) :
    Kid base B o k xs wr.heap.size T O E (((w1.setCell ⟨wr.heap.size, 0, none⟩ (.int .i64 T)).setCell ⟨wr.heap.size, 1, none⟩ (.bool O)).setCell ⟨wr.heap.size, 2, none⟩ (.int .i64 E)) := by
  obtain ⟨⟨s0, s1, s2⟩, hks⟩ := set3 (zero3_at hk) hs (.int .i64 T) (.bool O) (.int .i64 E)
  have hk1 : Keeps (fun _ => False) wr w1 := ((Keeps.refl _ wr).alloc _).drew.trans hk
  refine ⟨(hb.trans hk1).narrow hks (fun q e => by have := hb.size; omega), ownsRow_kept (ownsRow_kept ho hk1 (fun _ _ => id)) hks (fun q e e2 => ?_), s0, s1, s2⟩
  have := (ho.lt q e).2
  omega

set_option maxRecDepth 100000 in
set_option maxHeartbeats 16000000 in
theorem refKind_big (Z : Zone) (S : List FieldA) (hS : schemaB S = true) (so : Option Addr) (sc : Nat) (l : EL)
    (hK : ∀ (l' : EL), l'.size < l.size → ∀ (op n : Int) (s : Txt) (w : World) (up : Nat) (v : Value), SlE Z w up v l' → FldsAt w (.slice so S.length sc) S → rootB op n s l'.len = true → wellE l' = true → Calls Tryz.prog 65 #[.agg #[.slice so S.length sc], exV op n s v] w fun e w' => e = .returned (refV (zeroK (kindP S op s l'))) ∧ Keeps (fun _ => False) w w')
    (m : Nat) (n : Int) (s : Txt) (w : World) (up : Nat) (v : Value) (h : FldsAt w (.slice so S.length sc) S) (hSl : SlE Z w up v l) (hroot : rootB (m : Int) n s l.len = true) (hwell : wellE l = true) (hm7 : 7 ≤ m) :
    Calls Tryz.prog 65 #[.agg #[.slice so S.length sc], exV (m : Int) n s v] w fun e w' => e = .returned (refV (zeroK (kindP S (m : Int) s l))) ∧ Keeps (fun _ => False) w w' := by
  obtain ⟨ao, cap, b, off, rfl, hcap, ha, hx⟩ := hSl.open
  obtain ⟨i0, hi, hz0, hz1, hz2⟩ := info_parts Tryz.info111
  obtain ⟨e3, hk0, b0, b1, b2⟩ := rBase_facts w so S.length sc (m : Int) n s ao l.len cap
  have hl3 : l.len ≤ 3 := by obtain ⟨_, _, _, _, _, _, h3, _⟩ := root_open hroot; exact h3
  have hm25 : m ≤ 25 := by
    obtain ⟨m', _, e, h25, _⟩ := root_open hroot
    have : m = m' := by omega
    omega
  have d1 : ((m : Int) == 1) = false := by simp; omega
  have d2 : ((m : Int) == 2) = false := by simp; omega
  have d3 : ((m : Int) == 3) = false := by simp; omega
  have d4 : ((m : Int) == 4) = false := by simp; omega
  have d5 : ((m : Int) == 5) = false := by simp; omega
  have d6 : ((m : Int) == 6) = false := by simp; omega
  have SB : ∀ w' : World, Keeps (fun _ => False) (rBase w so S.length sc (m : Int) n s ao l.len cap) w' → w'.cell? ⟨w.heap.size, 0, none⟩ = some (.slice so S.length sc) ∧ w'.cell? ⟨w.heap.size + 1, 0, none⟩ = some (.int .i64 (m : Int)) ∧ w'.cell? ⟨w.heap.size + 1, 3, none⟩ = some (.slice ao l.len cap) ∧ w'.heap[w.heap.size + 2]? = some (.cells #[.int .i64 0, .bool false, .int .i64 0] 111 (0, 0)) := fun w' hk => by
    have k0 := (hk.block _ (lt_of_block b0) id).trans b0
    have k1 := (hk.block _ (lt_of_block b1) id).trans b1
    exact ⟨by rw [cell_of_blk k0]; rfl, by rw [cell_of_blk k1]; rfl, by rw [cell_of_blk k1]; rfl, (hk.block _ (lt_of_block b2) id).trans b2⟩
  have y := SB _ (Keeps.refl _ _)
  have y1 := y.2.1
  have HSB := hide SB
  have HK0 := hide hk0
  have HX := hide hx
  have HA := hide ha
  have HK := hide hK
  have HF := hide h
  have HW := hide hwell
  have E3 := hide e3
  have HRT := hide hroot
  have HS := hide hS
  clear hSl hx ha hK h hwell SB hroot hk0 b0 b1 b2 e3 y hS
  go_enter Tryz.func65, Tryz.ntmps65
  go_wp2_with fail
  go_loopw [5, 6] (fun o i wr => ∃ (rest : EL) (k : Nat) (done : List KA), i = .int .i64 k ∧ k + rest.len = l.len ∧ rest.size ≤ l.size ∧ done.length = k ∧ wellE rest = true ∧ (kindsP S l = if (kindsP S rest).2 ≠ 0 then ([], (kindsP S rest).2) else (done ++ (kindsP S rest).1, 0)) ∧ wr.ownsRow (w.heap.size + 3) 111 3 o k (rcs done) ∧ Keeps (fun _ => False) (rBase w so S.length sc (m : Int) n s ao l.len cap) wr ∧ ExIn Z w rest b (off + k * 4)) (fun _ i _ => l.len - (intOf i).toNat)
  case atStart =>
    refine ⟨l, 0, [], rfl, by omega, Nat.le_refl _, rfl, unhide HW, ?_, World.ownsRow_nil _ _ 111 3, Keeps.refl _ _, by simpa using unhide HX⟩
    by_cases h : (kindsP S l).2 = 0
    · rw [if_neg (by simpa using h), List.nil_append, ← h]
    · rw [if_pos h]
      exact kindsP_err S l h
  case round =>
    obtain ⟨rest, k, done, rfl, hkl, hrs, hdl, hwe, heq, hown, hkb, hr⟩ := hrel
    obtain ⟨oo, oc, rfl⟩ := (rowAt_own hown).form
    have yy := unhide HSB wr hkb
    have y0 := yy.1
    have y3 := yy.2.2.1
    have HR2 := hide yy.2.2.2
    have HEQ := hide heq
    have HO := hide hown
    have HKB := hide hkb
    have hszb : w.heap.size + 3 ≤ wr.heap.size := by have := hkb.size; rw [unhide E3] at this; exact this
    clear heq hown hkb yy y1
    cases rest with
    | cons op' n' s' kids rest =>
      obtain ⟨h1, h2, h3, h4, h5, ⟨kao, kcap, h6, h7, h8⟩, h9⟩ := hr
      simp only [EL.len, EL.size, wellE, Bool.and_eq_true] at hkl hrs hwe
      obtain ⟨rfl, hp⟩ := (unhide HA) (by omega)
      have HKID : Hid (SlE Z w b (.slice kao kids.len kcap) kids) := ⟨kao, kcap, rfl, h7, h8⟩
      have HR9 := hide h9
      have HWR := hide hwe.2.2
      have i1 : (k : Int) < (l.len : Int) := by omega
      have ix0 : (0 : Int) ≤ (k : Int) := by omega
      have hkw := (unhide HK0).trans (unhide HKB)
      have q0 := (hkw.cell h1 id).trans h3
      have q1 := (hkw.cell h1 id).trans h4
      have q2 := (hkw.cell h1 id).trans h5
      have q3 := (hkw.cell h1 id).trans h6
      have hbl : b < wr.heap.size := Nat.lt_of_lt_of_le h1 hkw.size
      have SK : ∀ w' : World, Keeps (fun q => w.heap.size + 3 ≤ q) wr w' → w'.cell? ⟨w.heap.size, 0, none⟩ = some (.slice so S.length sc) ∧ w'.cell? ⟨w.heap.size + 1, 3, none⟩ = some (.slice (some ⟨b, off, none⟩) l.len cap) ∧ w'.cell? ⟨b, off + k * 4, none⟩ = some (.int .i64 op') ∧ w'.cell? ⟨b, off + k * 4 + 1, none⟩ = some (.int .i64 n') ∧ w'.cell? ⟨b, off + k * 4 + 2, none⟩ = some (str s') ∧ w'.cell? ⟨b, off + k * 4 + 3, none⟩ = some (.slice kao kids.len kcap) := fun w' hk =>
        ⟨(hk.cell (by omega) (by omega)).trans y0, (hk.cell (by omega) (by omega)).trans y3, (hk.cell hbl (by omega)).trans q0, (hk.cell hbl (by omega)).trans q1, (hk.cell hbl (by omega)).trans q2, (hk.cell hbl (by omega)).trans q3⟩
      have HSK := hide SK
      have HC := fun (w' : World) (hk : Keeps (fun _ => False) w w') => hide (unhide HK kids (by omega) op' n' s' w' b (.slice kao kids.len kcap) ((unhide HKID).keepF hk) ((unhide HF).keepF hk) hwe.1 hwe.2.1)
      have hAB := kindsP_step S op' n' s' kids rest done (kindsP S l) (unhide HEQ)
      obtain ⟨⟨⟨T0, O0⟩, E⟩, hpp⟩ : ∃ p, p = kindP S op' s' kids := ⟨_, rfl⟩
      rw [← hpp] at HC hAB
      obtain ⟨hA, hB⟩ := hAB
      obtain ⟨⟨⟨T, O⟩, E'⟩, hq⟩ : ∃ p, p = zeroK (⟨T0, O0⟩, E) := ⟨_, rfl⟩
      have hE' : E' = E := by
        unfold zeroK at hq
        split at hq
        · exact congrArg (fun p => p.2) hq
        · exact congrArg (fun p => p.2) hq
      subst hE'
      rw [← hq] at HC
      have HKW := hide hkw
      clear h2 h3 h4 h5 h6 h8 h9 hwe hpp HEQ SK hkw q0 q1 q2 q3 y0
      by_cases hE : E' = 0
      · subst hE
        have hTO : T = T0 ∧ O = O0 := by
          unfold zeroK at hq
          simp at hq
          exact hq
        obtain ⟨rfl, rfl⟩ := hTO
        have HB1 := hide (hB rfl)
        clear hA hB hq
        go_wp2_with fail
        go_region_held3 (fun w' => w'.cell? ⟨w.heap.size, 0, none⟩ = some (.slice so S.length sc) ∧ w'.cell? ⟨w.heap.size + 1, 3, none⟩ = some (.slice (some ⟨b, off, none⟩) l.len cap) ∧ w'.cell? ⟨b, off + k * 4, none⟩ = some (.int .i64 op') ∧ w'.cell? ⟨b, off + k * 4 + 1, none⟩ = some (.int .i64 n') ∧ w'.cell? ⟨b, off + k * 4 + 2, none⟩ = some (str s') ∧ w'.cell? ⟨b, off + k * 4 + 3, none⟩ = some (.slice kao kids.len kcap))
          (first | with_reducible exact unhide HSK _ (unhide HKe) | with_reducible exact unhide HSK _ (unhide HKd) | with_reducible exact unhide HSK _ ((unhide HKd).alloc _) | with_reducible exact unhide HSK _ (Keeps.refl _ wr).drew | with_reducible exact unhide HSK _ ((Keeps.refl _ wr).alloc _).drew)
          ((go_at_call 65; first
            | (with_reducible refine (unhide (HC wr.drew (unhide HKW).drew)).mono ?_; rintro e w1 ⟨rfl, hk1⟩; have HKx := hide ((Keeps.refl _ wr).drew.trans hk1); have HKd := hide ((unhide HKx).any : Keeps (fun q => w.heap.size + 3 ≤ q) wr w1); have HKI := hide (kid_A (T := T) (O := O) (E := 0) (unhide HKB) (unhide HO) (unhide HKx)); clear hk1)
            | (with_reducible refine (unhide (HC (wr.alloc (.cells #[.int .i64 0, .bool false, .int .i64 0] 111)).drew ((unhide HKW).alloc _).drew)).mono ?_; rintro e w1 ⟨rfl, hk1⟩; have HKd := hide ((((Keeps.refl _ wr).alloc _).drew.trans hk1).any : Keeps (fun q => w.heap.size + 3 ≤ q) wr w1); have hz := zero3_at hk1; have m0 : World.cell? _ _ = some (Value.int .i64 0) := cell_of_blk hz 0; have m1 : World.cell? _ _ = some (Value.bool false) := cell_of_blk hz 1; have m2 : World.cell? _ _ = some (Value.int .i64 0) := cell_of_blk hz 2; have g0 := frozen_of_blk hz 0; have g1 := frozen_of_blk hz 1; have g2 := frozen_of_blk hz 2; have hst := set3 hz rfl (.int .i64 T) (.bool O) (.int .i64 0); have HKe := hide ((unhide HKd).then hst.2 (fun q _ e => by omega)); have HKI := hide (kid_B (T := T) (O := O) (E := 0) rfl (unhide HKB) (unhide HO) hk1); clear hk1 hz hst)))
        · have kid := unhide HKI
          have c0 := kid.c0
          have c1 := kid.c1
          have c2 := kid.c2
          have HOX := hide (kid.own.alloc (.cells #[.int .i64 T, .bool O, .int .i64 0] 111))
          have HNB : Hid (((w1.alloc (.cells #[.int .i64 T, .bool O, .int .i64 0] 111)).alloc (.cells #[.int .i64 T, .bool O, .int .i64 0] 111)).heap[(w1.heap.size + 1)]? = some (.cells #[.int .i64 T, .bool O, .int .i64 0] 111 (0, 0))) := by
            have h := heap_alloc_new (w1.alloc (.cells #[.int .i64 T, .bool O, .int .i64 0] 111)) (.cells #[.int .i64 T, .bool O, .int .i64 0] 111)
            rw [show (w1.alloc (.cells #[.int .i64 T, .bool O, .int .i64 0] 111)).heap.size = (w1.heap.size + 1) by simp] at h
            exact h
          have hsw : wr.heap.size ≤ w1.heap.size := (unhide HKd).size
          clear kid
          go_wp2_with (at_builtin; refine wpList_append_lies _ rfl _ _ _ rfl (w.heap.size + 3) 111 i0 _ 3 24 Tryz.underlying122 hi hz0 hz1 hz2 rfl (by omega) (.slice oo k oc) k (rcs done) rfl (unhide HOX) ⟨(w1.heap.size + 1), 0, none⟩ 1 1 [.int .i64 T, .bool O, .int .i64 0] rfl rfl (World.news_of_block (cs := #[.int .i64 T, .bool O, .int .i64 0]) (t := 111) (fr := (0, 0)) (unhide HNB)) (by simp [Value.oneCell']) (by omega) (by unfold maxLen; omega) (by omega) (by simp; omega) ((w1.heap.size + 1) + 1) (by simp) ?_; intro g' cap6 w6 hown6 hgrow hat hlt6; have HO6 := hide hown6; have HGR := hide hgrow; clear hown6 hgrow hat)
          go_roundw
          case rel =>
            have kid := unhide HKI
            refine ⟨rest, k + 1, done ++ [⟨T, O⟩], by go_num, by omega, by omega, by simp [hdl], unhide HWR, unhide HB1, ?_, (kid.kept.alloc _).narrow ((Keeps.refl (fun q => (Value.slice oo k oc).ownBlock = some q) _).grown (unhide HGR) (fun q e _ => e)) (fun q e => by rw [unhide E3]; exact ((unhide HO).lt q e).1), ?_⟩
            · rw [rcs_snoc]; exact unhide HO6
            · rw [show off + (k + 1) * 4 = off + k * 4 + 4 by omega]
              exact unhide HR9
          case measure => simp [intOf]; omega
        · have kid := unhide HKI
          have c0 := kid.c0
          have c1 := kid.c1
          have c2 := kid.c2
          have HOX := hide (kid.own.alloc (.cells #[.int .i64 T, .bool O, .int .i64 0] 111))
          have HNB : Hid (((((w1.setCell ⟨wr.heap.size, 0, none⟩ (.int .i64 T)).setCell ⟨wr.heap.size, 1, none⟩ (.bool O)).setCell ⟨wr.heap.size, 2, none⟩ (.int .i64 0)).alloc (.cells #[.int .i64 T, .bool O, .int .i64 0] 111)).heap[w1.heap.size]? = some (.cells #[.int .i64 T, .bool O, .int .i64 0] 111 (0, 0))) := by
            have h := heap_alloc_new (((w1.setCell ⟨wr.heap.size, 0, none⟩ (.int .i64 T)).setCell ⟨wr.heap.size, 1, none⟩ (.bool O)).setCell ⟨wr.heap.size, 2, none⟩ (.int .i64 0)) (.cells #[.int .i64 T, .bool O, .int .i64 0] 111)
            rw [show (((w1.setCell ⟨wr.heap.size, 0, none⟩ (.int .i64 T)).setCell ⟨wr.heap.size, 1, none⟩ (.bool O)).setCell ⟨wr.heap.size, 2, none⟩ (.int .i64 0)).heap.size = w1.heap.size by simp] at h
            exact h
          have hsw : wr.heap.size ≤ w1.heap.size := (unhide HKd).size
          clear kid
          go_wp2_with (at_builtin; refine wpList_append_lies _ rfl _ _ _ rfl (w.heap.size + 3) 111 i0 _ 3 24 Tryz.underlying122 hi hz0 hz1 hz2 rfl (by omega) (.slice oo k oc) k (rcs done) rfl (unhide HOX) ⟨w1.heap.size, 0, none⟩ 1 1 [.int .i64 T, .bool O, .int .i64 0] rfl rfl (World.news_of_block (cs := #[.int .i64 T, .bool O, .int .i64 0]) (t := 111) (fr := (0, 0)) (unhide HNB)) (by simp [Value.oneCell']) (by omega) (by unfold maxLen; omega) (by omega) (by simp; omega) (w1.heap.size + 1) (by simp) ?_; intro g' cap6 w6 hown6 hgrow hat hlt6; have HO6 := hide hown6; have HGR := hide hgrow; clear hown6 hgrow hat)
          go_roundw
          case rel =>
            have kid := unhide HKI
            refine ⟨rest, k + 1, done ++ [⟨T, O⟩], by go_num, by omega, by omega, by simp [hdl], unhide HWR, unhide HB1, ?_, (kid.kept.alloc _).narrow ((Keeps.refl (fun q => (Value.slice oo k oc).ownBlock = some q) _).grown (unhide HGR) (fun q e _ => e)) (fun q e => by rw [unhide E3]; exact ((unhide HO).lt q e).1), ?_⟩
            · rw [rcs_snoc]; exact unhide HO6
            · rw [show off + (k + 1) * 4 = off + k * 4 + 4 by omega]
              exact unhide HR9
          case measure => simp [intOf]; omega
      · have hTO : T = 0 ∧ O = false := by
          unfold zeroK at hq
          rw [if_pos hE] at hq
          simp at hq
          exact hq
        obtain ⟨rfl, rfl⟩ := hTO
        have n0 : (E' != 0) = true := by simpa using hE
        have HPV : Hid (zeroK (kindP S (m : Int) s l) = (⟨0, false⟩, E')) := by
          show _ = _
          unfold kindP zeroK
          rw [hA hE]
          simp [hE]
        clear hA hB hq hE
        go_wp2_with fail
        go_region_held3 (fun w' => w'.cell? ⟨w.heap.size, 0, none⟩ = some (.slice so S.length sc) ∧ w'.cell? ⟨w.heap.size + 1, 3, none⟩ = some (.slice (some ⟨b, off, none⟩) l.len cap) ∧ w'.cell? ⟨b, off + k * 4, none⟩ = some (.int .i64 op') ∧ w'.cell? ⟨b, off + k * 4 + 1, none⟩ = some (.int .i64 n') ∧ w'.cell? ⟨b, off + k * 4 + 2, none⟩ = some (str s') ∧ w'.cell? ⟨b, off + k * 4 + 3, none⟩ = some (.slice kao kids.len kcap))
          (first | with_reducible exact unhide HSK _ (unhide HKe) | with_reducible exact unhide HSK _ (unhide HKd) | with_reducible exact unhide HSK _ ((unhide HKd).alloc _) | with_reducible exact unhide HSK _ (Keeps.refl _ wr).drew | with_reducible exact unhide HSK _ ((Keeps.refl _ wr).alloc _).drew)
          ((go_at_call 65; first
            | (with_reducible refine (unhide (HC wr.drew (unhide HKW).drew)).mono ?_; rintro e w1 ⟨rfl, hk1⟩; have HKx := hide ((Keeps.refl _ wr).drew.trans hk1); have HKd := hide ((unhide HKx).any : Keeps (fun q => w.heap.size + 3 ≤ q) wr w1); have HKI := hide (kid_A (T := 0) (O := false) (E := E') (unhide HKB) (unhide HO) (unhide HKx)); clear hk1)
            | (with_reducible refine (unhide (HC (wr.alloc (.cells #[.int .i64 0, .bool false, .int .i64 0] 111)).drew ((unhide HKW).alloc _).drew)).mono ?_; rintro e w1 ⟨rfl, hk1⟩; have HKd := hide ((((Keeps.refl _ wr).alloc _).drew.trans hk1).any : Keeps (fun q => w.heap.size + 3 ≤ q) wr w1); have hz := zero3_at hk1; have m0 : World.cell? _ _ = some (Value.int .i64 0) := cell_of_blk hz 0; have m1 : World.cell? _ _ = some (Value.bool false) := cell_of_blk hz 1; have m2 : World.cell? _ _ = some (Value.int .i64 0) := cell_of_blk hz 2; have g0 := frozen_of_blk hz 0; have g1 := frozen_of_blk hz 1; have g2 := frozen_of_blk hz 2; have hst := set3 hz rfl (.int .i64 0) (.bool false) (.int .i64 E'); have HKe := hide ((unhide HKd).then hst.2 (fun q _ e => by omega)); have HKI := hide (kid_B (T := 0) (O := false) (E := E') rfl (unhide HKB) (unhide HO) hk1); clear hk1 hz hst)))
        · have kid := unhide HKI
          have c0 := kid.c0
          have c1 := kid.c1
          have c2 := kid.c2
          have hr2 := (unhide HSB _ kid.kept).2.2.2
          have m0 : World.cell? _ _ = some (Value.int .i64 0) := cell_of_blk hr2 0
          have m1 : World.cell? _ _ = some (Value.bool false) := cell_of_blk hr2 1
          have m2 : World.cell? _ _ = some (Value.int .i64 0) := cell_of_blk hr2 2
          have g0 := frozen_of_blk hr2 0
          have g1 := frozen_of_blk hr2 1
          have g2 := frozen_of_blk hr2 2
          have HR3 := hide hr2
          clear kid hr2
          go_wp2_with fail
          obtain ⟨⟨s0, s1, s2⟩, hks⟩ := set3 (unhide HR3) rfl (.int .i64 0) (.bool false) (.int .i64 E')
          refine bodyPost_ret (v := refV (⟨0, false⟩, E')) (by simp [results, go_sem, s0, s1, s2]) rfl ?_
          exact ⟨by rw [unhide HPV], ((unhide HK0).trans (unhide HKI).kept).narrow hks (fun q e => by omega)⟩
        · have kid := unhide HKI
          have c0 := kid.c0
          have c1 := kid.c1
          have c2 := kid.c2
          have hr2 := (unhide HSB _ kid.kept).2.2.2
          have m0 : World.cell? _ _ = some (Value.int .i64 0) := cell_of_blk hr2 0
          have m1 : World.cell? _ _ = some (Value.bool false) := cell_of_blk hr2 1
          have m2 : World.cell? _ _ = some (Value.int .i64 0) := cell_of_blk hr2 2
          have g0 := frozen_of_blk hr2 0
          have g1 := frozen_of_blk hr2 1
          have g2 := frozen_of_blk hr2 2
          have HR3 := hide hr2
          clear kid hr2
          go_wp2_with fail
          obtain ⟨⟨s0, s1, s2⟩, hks⟩ := set3 (unhide HR3) rfl (.int .i64 0) (.bool false) (.int .i64 E')
          refine bodyPost_ret (v := refV (⟨0, false⟩, E')) (by simp [results, go_sem, s0, s1, s2]) rfl ?_
          exact ⟨by rw [unhide HPV], ((unhide HK0).trans (unhide HKI).kept).narrow hks (fun q e => by omega)⟩
    | nil =>
      simp only [EL.len, EL.size] at hkl hrs
      have i1 : ¬ (k : Int) < (l.len : Int) := by omega
      have heq2 : kindsP S l = (done, 0) := by have := unhide HEQ; simpa [kindsP] using this
      have hfit : zeroK (kindP S (m : Int) s l) = refRule (m : Int) done := by
        have e1 : kindP S (m : Int) s l = ruleP S (m : Int) s done := by unfold kindP; rw [heq2]; simp
        have hkl2 : (done.length : Int) = kidsB (m : Int) := by
          have h := unhide HRT
          unfold rootB at h
          simp only [Bool.and_eq_true, decide_eq_true_eq] at h
          rw [← h.2.1]; omega
        have hok := kinds_okT (unhide HS) l (unhide HW) (by rw [heq2])
        rw [heq2] at hok
        rw [e1, ref_rule S (m : Int) s done (by omega) (by omega) hkl2 hok]
      have hwl : (wantL (m : Int)).1.length = k := by
        have h1 := wantL_len m hm7 hm25
        have h := unhide HRT
        unfold rootB at h
        simp only [Bool.and_eq_true, decide_eq_true_eq] at h
        have := h.2.1
        omega
      obtain ⟨hwf, hty2, hty3⟩ := wantL_fits m hm7 hm25
      have HRU := hide (rule_v m hm7 hm25 wr)
      unfold refRule at hfit
      obtain ⟨⟨ws, ty⟩, hws⟩ : ∃ p, p = wantL (m : Int) := ⟨_, rfl⟩
      rw [← hws] at HRU hfit hwl hwf hty2 hty3
      simp only at hfit hwl hwf hty2 hty3
      have HFIT := hide hfit
      have HWF := hide hwf
      have HRK := hide (rowAt_own (unhide HO) : RowAt wr (.slice oo k oc) k (rcs done))
      have y1 := (unhide HSB wr (unhide HKB)).2.1
      rw [hwl] at hty2 hty3 HRU HWF
      have HWL := hide hwl
      have HRV := hide ((unhide HRU).mono (fun e w' ⟨h1, h2, h3⟩ => (⟨wr.heap.size + 5, h1, h2, h3⟩ : ∃ H : Nat, e = Ending.returned (.tuple #[.slice (some ⟨H, 0, none⟩) k k, .int .i64 ty]) ∧ WAt w' (.slice (some ⟨H, 0, none⟩) k k) ws ∧ Keeps (fun _ => False) wr w')))
      clear hws hfit hwf heq2 HEQ hwl hr hwe
      clear HRU
      go_wp2_with (go_at_call 89; refine (unhide HRV).mono ?_; rintro e w2 ⟨H, rfl, hwat, hk2⟩; have HWA := hide hwat; have HK2 := hide hk2; clear hwat hk2)
      go_loopw [10] (fun i w3 => ∃ j : Nat, i = .int .i64 j ∧ j ≤ k ∧ Hid (wantsI done (done.drop j) (ws.drop j) = wantsI done done ws) ∧ Keeps (fun _ => False) w2 w3) (fun i _ => k - (intOf i).toNat)
      case atStart => exact ⟨0, rfl, Nat.zero_le _, by simp [Hid], Keeps.refl _ _⟩
      case round =>
        obtain ⟨j, rfl, hj, HSJ, hk3⟩ := hrel
        have HK3 := hide hk3
        have hkw3 := ((unhide HKB).trans (unhide HK2)).trans hk3
        have hrk : RksAt wr (.slice oo k oc) done := by
          have := (unhide HRK).keepF ((unhide HK2).trans hk3)
          unfold RksAt
          rw [hdl]
          exact this
        have hwa := (unhide HWA).keepF hk3
        by_cases hjk : j < k
        · obtain ⟨⟨xt, xo⟩, hx⟩ : ∃ x, done[j]? = some x := ⟨_, List.getElem?_eq_getElem (by omega)⟩
          obtain ⟨⟨q1, q2⟩, hq⟩ : ∃ x, ws[j]? = some x := ⟨_, List.getElem?_eq_getElem (by have := unhide HWL; omega)⟩
          obtain ⟨kb, koff, kcp, ek, hkb2, hkc⟩ := hrk.cells (by omega)
          obtain ⟨ek1, -, -⟩ := Value.slice.inj ek
          subst ek1
          obtain ⟨wb, woff, wcp, ew, hwb2, hwc⟩ := hwa.cells (by have := unhide HWL; omega)
          obtain ⟨ew1, -, -⟩ := Value.slice.inj ew
          have ew2 := Option.some.inj ew1
          simp only [Addr.mk.injEq] at ew2
          obtain ⟨rfl, rfl, -⟩ := ew2
          have wq0 := (hwc j _ hq).1
          have wq1 := (hwc j _ hq).2
          have kq0 := (hkc j _ hx).1
          have kq1 := (hkc j _ hx).2
          simp only [Nat.zero_add] at wq0 wq1
          have j1 : (j : Int) < (k : Int) := by omega
          have j0 : (0 : Int) ≤ (j : Int) := by omega
          have HSTEP := hide (wantsI_step (all := done) hx hq)
          have hfit := List.all_eq_true.1 (unhide HWF) _ (List.mem_of_getElem? hq)
          simp only [Bool.and_eq_true, Bool.or_eq_true, decide_eq_true_eq] at hfit
          have HAS := hide (asked_v q1 xt done (.slice (some ⟨kb, koff, none⟩) k oc) wr.drew (hrk.keepF (Keeps.refl _ wr).drew) (fun e => by rcases hfit.1 with h | h; exact absurd e h; omega) (fun e => by rcases hfit.2 with h | h; exact absurd e h; omega))
          have dd : wr.drew.cell? ⟨H, j * 2, none⟩ = some (.int .i64 q1) ∧ wr.drew.cell? ⟨kb, koff + j * 3, none⟩ = some (.int .i64 xt) := ⟨wq0, kq0⟩
          have d2 : wr.drew.drew.cell? ⟨H, j * 2 + 1, none⟩ = some (.bool q2) ∧ wr.drew.drew.cell? ⟨kb, koff + j * 3 + 1, none⟩ = some (.bool xo) := ⟨wq1, kq1⟩
          have hr2 := (unhide HSB wr.drew hkw3.drew).2.2.2
          have HKW3 := hide hkw3
          obtain ⟨A, hA⟩ : ∃ A, A = askedB q1 xt done := ⟨_, rfl⟩
          rw [← hA] at HAS
          have HAA := hide hA
          clear hkc hwc hx hq hfit ek ew ew1 hrk hwa hk3 hA hkw3
          cases A with
          | false =>
            have HW9 : Hid (wantsI done done ws = 91) := by
              have h := unhide HSJ
              rw [unhide HSTEP, ← unhide HAA] at h
              show _ = _
              rw [← h, if_pos rfl]
            have HPV : Hid (zeroK (kindP S (m : Int) s l) = (⟨0, false⟩, 91)) := by show _ = _; rw [unhide HFIT, unhide HW9]; rfl
            have m0 : World.cell? _ _ = some (Value.int .i64 0) := cell_of_blk hr2 0
            have m1 : World.cell? _ _ = some (Value.bool false) := cell_of_blk hr2 1
            have m2 : World.cell? _ _ = some (Value.int .i64 0) := cell_of_blk hr2 2
            have g0 := frozen_of_blk hr2 0
            have g1 := frozen_of_blk hr2 1
            have g2 := frozen_of_blk hr2 2
            have HR3 := hide hr2
            clear hr2
            have m0' : wr.cell? ⟨w.heap.size + 1 + 1, 0, none⟩ = some (Value.int .i64 0) := m0
            have m1' : wr.cell? ⟨w.heap.size + 1 + 1, 1, none⟩ = some (Value.bool false) := m1
            have m2' : wr.cell? ⟨w.heap.size + 1 + 1, 2, none⟩ = some (Value.int .i64 0) := m2
            have g0' : wr.frozen? ⟨w.heap.size + 1 + 1, 0, none⟩ = false := g0
            have g1' : wr.frozen? ⟨w.heap.size + 1 + 1, 1, none⟩ = false := g1
            have g2' : wr.frozen? ⟨w.heap.size + 1 + 1, 2, none⟩ = false := g2
            go_wp2_with fail
            go_region_held3 (fun w' => w'.cell? ⟨H, j * 2, none⟩ = some (.int .i64 q1) ∧ w'.cell? ⟨kb, koff + j * 3, none⟩ = some (.int .i64 xt)) (first | with_reducible exact dd) ((go_at_call 90; refine (unhide HAS).mono ?_; rintro e w4 ⟨rfl, rfl⟩))
            go_wp2_with fail
            obtain ⟨⟨s0, s1, s2⟩, hks⟩ := set3 (w1 := wr) (unhide HR3) rfl (.int .i64 0) (.bool false) (.int .i64 91)
            refine bodyPost_ret (v := refV (⟨0, false⟩, 91)) (by simp [results, go_sem, s0, s1, s2]) rfl ?_
            exact ⟨by rw [unhide HPV], (((unhide HK0).trans (unhide HKW3)).narrow hks (fun q e => by omega)).drew⟩
          | true =>
            by_cases ho : q2 = xo
            · have HNX : Hid (wantsI done (done.drop (j + 1)) (ws.drop (j + 1)) = wantsI done done ws) := by
                have h := unhide HSJ
                rw [unhide HSTEP, ← unhide HAA, if_neg (by decide), if_neg (by simpa using ho)] at h
                exact h
              subst ho
              clear hr2
              cases q2 with
              | false =>
                go_wp2_with fail
                go_region_held3 (fun w' => w'.cell? ⟨H, j * 2, none⟩ = some (.int .i64 q1) ∧ w'.cell? ⟨kb, koff + j * 3, none⟩ = some (.int .i64 xt)) (first | with_reducible exact dd) ((go_at_call 90; refine (unhide HAS).mono ?_; rintro e w4 ⟨rfl, rfl⟩))
                go_wp2_with fail
                go_region_held3 (fun w' => w'.cell? ⟨H, j * 2 + 1, none⟩ = some (.bool false) ∧ w'.cell? ⟨kb, koff + j * 3 + 1, none⟩ = some (.bool false)) (first | with_reducible exact d2) (fail)
                go_wp2_with fail
                go_roundw
                case rel => exact ⟨j + 1, by go_num, by omega, HNX, (unhide HK3).drew.drew⟩
                case measure => simp [intOf]; omega
              | true =>
                go_wp2_with fail
                go_region_held3 (fun w' => w'.cell? ⟨H, j * 2, none⟩ = some (.int .i64 q1) ∧ w'.cell? ⟨kb, koff + j * 3, none⟩ = some (.int .i64 xt)) (first | with_reducible exact dd) ((go_at_call 90; refine (unhide HAS).mono ?_; rintro e w4 ⟨rfl, rfl⟩))
                go_wp2_with fail
                go_region_held3 (fun w' => w'.cell? ⟨H, j * 2 + 1, none⟩ = some (.bool true) ∧ w'.cell? ⟨kb, koff + j * 3 + 1, none⟩ = some (.bool true)) (first | with_reducible exact d2) (fail)
                go_wp2_with fail
                go_roundw
                case rel => exact ⟨j + 1, by go_num, by omega, HNX, (unhide HK3).drew.drew⟩
                case measure => simp [intOf]; omega
            · have HW9 : Hid (wantsI done done ws = 92) := by
                have h := unhide HSJ
                rw [unhide HSTEP, ← unhide HAA, if_neg (by decide), if_pos ho] at h
                exact h.symm
              have HPV : Hid (zeroK (kindP S (m : Int) s l) = (⟨0, false⟩, 92)) := by show _ = _; rw [unhide HFIT, unhide HW9]; rfl
              have hr2 := (unhide HSB wr.drew.drew (unhide HKW3).drew.drew).2.2.2
              have m0 : World.cell? _ _ = some (Value.int .i64 0) := cell_of_blk hr2 0
              have m1 : World.cell? _ _ = some (Value.bool false) := cell_of_blk hr2 1
              have m2 : World.cell? _ _ = some (Value.int .i64 0) := cell_of_blk hr2 2
              have g0 := frozen_of_blk hr2 0
              have g1 := frozen_of_blk hr2 1
              have g2 := frozen_of_blk hr2 2
              have HR3 := hide hr2
              clear hr2
              have m0' : wr.cell? ⟨w.heap.size + 1 + 1, 0, none⟩ = some (Value.int .i64 0) := m0
              have m1' : wr.cell? ⟨w.heap.size + 1 + 1, 1, none⟩ = some (Value.bool false) := m1
              have m2' : wr.cell? ⟨w.heap.size + 1 + 1, 2, none⟩ = some (Value.int .i64 0) := m2
              have g0' : wr.frozen? ⟨w.heap.size + 1 + 1, 0, none⟩ = false := g0
              have g1' : wr.frozen? ⟨w.heap.size + 1 + 1, 1, none⟩ = false := g1
              have g2' : wr.frozen? ⟨w.heap.size + 1 + 1, 2, none⟩ = false := g2
              cases q2 with
              | false =>
                cases xo with
                | false => exact absurd rfl ho
                | true =>
                  clear ho
                  go_wp2_with fail
                  go_region_held3 (fun w' => w'.cell? ⟨H, j * 2, none⟩ = some (.int .i64 q1) ∧ w'.cell? ⟨kb, koff + j * 3, none⟩ = some (.int .i64 xt)) (first | with_reducible exact dd) ((go_at_call 90; refine (unhide HAS).mono ?_; rintro e w4 ⟨rfl, rfl⟩))
                  go_wp2_with fail
                  go_region_held3 (fun w' => w'.cell? ⟨H, j * 2 + 1, none⟩ = some (.bool false) ∧ w'.cell? ⟨kb, koff + j * 3 + 1, none⟩ = some (.bool true)) (first | with_reducible exact d2) (fail)
                  go_wp2_with fail
                  obtain ⟨⟨s0, s1, s2⟩, hks⟩ := set3 (w1 := wr) (unhide HR3) rfl (.int .i64 0) (.bool false) (.int .i64 92)
                  refine bodyPost_ret (v := refV (⟨0, false⟩, 92)) (by simp [results, go_sem, s0, s1, s2]) rfl ?_
                  exact ⟨by rw [unhide HPV], (((unhide HK0).trans (unhide HKW3)).narrow hks (fun q e => by omega)).drew.drew⟩
              | true =>
                cases xo with
                | false =>
                  clear ho
                  go_wp2_with fail
                  go_region_held3 (fun w' => w'.cell? ⟨H, j * 2, none⟩ = some (.int .i64 q1) ∧ w'.cell? ⟨kb, koff + j * 3, none⟩ = some (.int .i64 xt)) (first | with_reducible exact dd) ((go_at_call 90; refine (unhide HAS).mono ?_; rintro e w4 ⟨rfl, rfl⟩))
                  go_wp2_with fail
                  go_region_held3 (fun w' => w'.cell? ⟨H, j * 2 + 1, none⟩ = some (.bool true) ∧ w'.cell? ⟨kb, koff + j * 3 + 1, none⟩ = some (.bool false)) (first | with_reducible exact d2) (fail)
                  go_wp2_with fail
                  obtain ⟨⟨s0, s1, s2⟩, hks⟩ := set3 (w1 := wr) (unhide HR3) rfl (.int .i64 0) (.bool false) (.int .i64 92)
                  refine bodyPost_ret (v := refV (⟨0, false⟩, 92)) (by simp [results, go_sem, s0, s1, s2]) rfl ?_
                  exact ⟨by rw [unhide HPV], (((unhide HK0).trans (unhide HKW3)).narrow hks (fun q e => by omega)).drew.drew⟩
                | true => exact absurd rfl ho
        · have j1 : ¬ (j : Int) < (k : Int) := by omega
          have hW0 : wantsI done done ws = 0 := by
            have h := unhide HSJ
            rw [← h, List.drop_eq_nil_of_le (by omega)]
            rfl
          have HPV : Hid (zeroK (kindP S (m : Int) s l) = (⟨tyR ty done, false⟩, 0)) := by show _ = _; rw [unhide HFIT, hW0]; rfl
          have hr2 := (unhide HSB wr hkw3).2.2.2
          have HKW3 := hide hkw3
          have m0 : World.cell? _ _ = some (Value.int .i64 0) := cell_of_blk hr2 0
          have m1 : World.cell? _ _ = some (Value.bool false) := cell_of_blk hr2 1
          have m2 : World.cell? _ _ = some (Value.int .i64 0) := cell_of_blk hr2 2
          have g0 := frozen_of_blk hr2 0
          have g1 := frozen_of_blk hr2 1
          have g2 := frozen_of_blk hr2 2
          have HR3 := hide hr2
          clear hr2
          clear hW0 hkw3 hk3 hwa
          unfold tyR at HPV
          by_cases t2 : ty = -2
          · obtain ⟨kb, koff, kcp, ek, hkb2, hkc⟩ := hrk.cells (by have := hty2 t2; omega)
            obtain ⟨ek1, -, -⟩ := Value.slice.inj ek
            subst ek1
            have hk0 := hty2 t2
            obtain ⟨⟨xt, xo⟩, hx⟩ : ∃ x, done[0]? = some x := ⟨_, List.getElem?_eq_getElem (by omega)⟩
            have kq := (hkc 0 _ hx).1
            simp only [Nat.zero_mul, Nat.add_zero] at kq
            have e0 : kth done 0 = ⟨xt, xo⟩ := by simp [kth, List.getD, hx]
            rw [if_pos t2, e0] at HPV
            have j2 : (0 : Int) < (k : Int) := by omega
            subst t2
            clear hkc hx e0 hrk ek hty2 hty3
            go_wp2_with fail
            obtain ⟨⟨s0, s1, s2⟩, hks⟩ := set3 (unhide HR3) rfl (.int .i64 xt) (.bool false) (.int .i64 0)
            refine bodyPost_ret (v := refV (⟨xt, false⟩, 0)) (by simp [results, go_sem, s0, s1, s2]) rfl ?_
            exact ⟨by rw [unhide HPV], ((unhide HK0).trans (unhide HKW3)).narrow hks (fun q e => by omega)⟩
          · have n2 : (ty == -2) = false := by simpa using t2
            rw [if_neg t2] at HPV
            by_cases t3 : ty = -3
            · obtain ⟨kb, koff, kcp, ek, hkb2, hkc⟩ := hrk.cells (by have := hty3 t3; omega)
              obtain ⟨ek1, -, -⟩ := Value.slice.inj ek
              subst ek1
              have hk0 := hty3 t3
              obtain ⟨⟨xt, xo⟩, hx⟩ : ∃ x, done[1]? = some x := ⟨_, List.getElem?_eq_getElem (by omega)⟩
              have kq := (hkc 1 _ hx).1
              simp only [Nat.one_mul] at kq
              have e0 : kth done 1 = ⟨xt, xo⟩ := by simp [kth, List.getD, hx]
              rw [if_pos t3, e0] at HPV
              have j2 : (1 : Int) < (k : Int) := by omega
              subst t3
              clear hkc hx e0 hrk ek hty2 hty3 t2 n2
              go_wp2_with fail
              obtain ⟨⟨s0, s1, s2⟩, hks⟩ := set3 (unhide HR3) rfl (.int .i64 xt) (.bool false) (.int .i64 0)
              refine bodyPost_ret (v := refV (⟨xt, false⟩, 0)) (by simp [results, go_sem, s0, s1, s2]) rfl ?_
              exact ⟨by rw [unhide HPV], ((unhide HK0).trans (unhide HKW3)).narrow hks (fun q e => by omega)⟩
            · have n3 : (ty == -3) = false := by simpa using t3
              rw [if_neg t3] at HPV
              clear t2 t3 hrk hty2 hty3
              go_wp2_with fail
              obtain ⟨⟨s0, s1, s2⟩, hks⟩ := set3 (unhide HR3) rfl (.int .i64 ty) (.bool false) (.int .i64 0)
              refine bodyPost_ret (v := refV (⟨ty, false⟩, 0)) (by simp [results, go_sem, s0, s1, s2]) rfl ?_
              exact ⟨by rw [unhide HPV], ((unhide HK0).trans (unhide HKW3)).narrow hks (fun q e => by omega)⟩
end Go.Proofs.YtoempeobaknkcaaGreatDoor
