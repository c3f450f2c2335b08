import Derived.Test.YtjhppnecadnekaaDoorRm
namespace Go.Proofs.YtjhppnecadnekaaDoor
open Go.RowKit Go.Maps

theorem Tryd.info3 : (Tryd.prog.info? 3).map (fun i => (i.zero, i.size, i.bytes)) = some (some (.int .i64 0), 1, 8) := by kernel_rfl
set_option maxRecDepth 100000 in
set_option maxHeartbeats 8000000 in
theorem goes_big (Z : Zone) (S : List FieldA) (hS : schemaB S = true) (so : Option Addr) (sc : Nat) (R : List ValA) (ro : Option Addr) (rc : Nat) (l : EL)
    (hK : ∀ (l' : EL), l'.size < l.size → ∀ (op n : Int) (s : Txt) (w : World) (up : Nat) (v : Value), SlE Z w up v l' → FldsAt w (.slice so S.length sc) S → ValsAt w (.slice ro R.length rc) R → rootB op n s l'.len = true → wellE l' = true → Calls Tryd.prog 52 #[.agg #[.slice so S.length sc], .slice ro R.length rc, exV op n s v] w fun e w' => Worked e (nodeG S (R.map ValA.kind) op s l') ∧ Keeps (fun _ => False) w w')
    (m : Nat) (n : Int) (s : Txt) (w : World) (up : Nat) (v : Value) (h : FldsAt w (.slice so S.length sc) S) (hr : ValsAt w (.slice ro R.length rc) R) (hSl : SlE Z w up v l) (hroot : rootB (m : Int) n s l.len = true) (hwell : wellE l = true) (hm7 : 7 ≤ m) :
    Calls Tryd.prog 52 #[.agg #[.slice so S.length sc], .slice ro R.length rc, exV (m : Int) n s v] w fun e w' => Worked e (nodeG S (R.map ValA.kind) (m : Int) s l) ∧ Keeps (fun _ => False) w w' := by
  obtain ⟨ao, cap, b, off, rfl, hcap, ha, hx⟩ := hSl.open
  obtain ⟨i0, hi, hz0, hz1, hz2⟩ := info_parts Tryd.info3
  have hl8 := schema_8 hS
  have hl3 : l.len ≤ 3 := by obtain ⟨_, _, _, _, _, _, h3, _⟩ := root_open hroot; exact h3
  have hm25 : m ≤ 25 := by
    obtain ⟨m', _, e, h25, _⟩ := root_open hroot
    have : m = m' := by omega
    omega
  have d1 : ((m : Int) == 1) = false := by simp; omega
  have d2 : ((m : Int) == 2) = false := by simp; omega
  have d3 : ((m : Int) == 3) = false := by simp; omega
  have d4 : ((m : Int) == 4) = false := by simp; omega
  have d5 : ((m : Int) == 5) = false := by simp; omega
  have d6 : ((m : Int) == 6) = false := by simp; omega
  obtain ⟨HX, hxb, hxc⟩ := boxedT w #[.slice so S.length sc] 24
  obtain ⟨HY, hyb, hyc⟩ := boxedT (w.alloc (.cells #[.slice so S.length sc] 24)) #[.int .i64 (m : Int), .int .i64 n, str s, .slice ao l.len cap] 78
  have y0 := hyc 0 (.int .i64 (m : Int)) rfl
  have y1 := hyc 1 (.int .i64 n) rfl
  have y2 := hyc 2 (str s) rfl
  have y3 := hyc 3 (.slice ao l.len cap) rfl
  have x0 := ((unhide HY).cell hxb id).trans (hxc 0 (.slice so S.length sc) rfl)
  rw [World.size_alloc] at y0 y1 y2 y3 hyb
  have HK0 := hide ((unhide HX).trans (unhide HY))
  have hws : w.heap.size < ((w.alloc (.cells #[.slice so S.length sc] 24)).alloc (.cells #[.int .i64 (m : Int), .int .i64 n, str s, .slice ao l.len cap] 78)).heap.size := by simp; omega
  have HNG : Hid (nodeG S (R.map ValA.kind) (m : Int) s l = (goG S (R.map ValA.kind) l).bind (workG S (m : Int) (headOp l))) := by show _ = _; unfold nodeG; rw [if_neg (by omega)]
  have HXX := hide hx
  have HA : Hid (l.len ≠ 0 → ao = some ⟨b, off, none⟩ ∧ Z.P up b) := ha
  have HK := hide hK
  have HF := hide h
  have HRR := hide hr
  have HW := hide hwell
  have HRT := hide hroot
  clear hSl hx ha hK h hr hwell hroot hxc hyc hxb HX HY
  go_enter Tryd.func52, Tryd.ntmps52
  go_wp2_with fail
  generalize (w.alloc (.cells #[.slice so S.length sc] 24)).alloc (.cells #[.int .i64 (m : Int), .int .i64 n, str s, .slice ao l.len cap] 78) = w1 at y0 y1 y2 y3 x0 hyb hws HK0 ⊢
  have HY0 := hide y0
  have HY1 := hide y1
  have HY2 := hide y2
  have HY3 := hide y3
  have HX0 := hide x0
  go_loopw [10, 11] (fun o i wr => ∃ (rest : EL) (k : Nat) (dn : List Int), i = .int .i64 k ∧ k + rest.len = l.len ∧ rest.size ≤ l.size ∧ dn.length = k ∧ wellE rest = true ∧ Hid (goG S (R.map ValA.kind) l = (goG S (R.map ValA.kind) rest).map (dn ++ ·)) ∧ wr.ownsRow w1.heap.size 3 1 o k (ints dn) ∧ Keeps (fun _ => False) w1 wr ∧ ExIn Z w rest b (off + k * 4)) (fun _ i _ => l.len - (intOf i).toNat)
  case atStart => exact ⟨l, 0, [], rfl, by omega, Nat.le_refl _, rfl, unhide HW, by show _ = _; simp, World.ownsRow_nil _ _ 3 1, Keeps.refl _ _, by simpa using unhide HXX⟩
  case round =>
    obtain ⟨rest, k, dn, rfl, hkl, hrs, hdl, hwe, HEQ, hown, hkb, hr⟩ := hrel
    obtain ⟨oo, oc, rfl⟩ := (rowAt_own hown).form
    have z0 := (hkb.cell hws id).trans (unhide HX0)
    have z3 := (hkb.cell hyb id).trans (unhide HY3)
    have HO := hide hown
    have HKB := hide hkb
    have HKW := hide ((unhide HK0).trans hkb)
    have hszb : w1.heap.size ≤ wr.heap.size := hkb.size
    clear hown y0 y1 y2 y3 x0
    cases rest with
    | nil =>
      simp only [EL.len] at hkl
      have hk2 : k = l.len := by omega
      have z00 := (hkb.cell hyb id).trans (unhide HY0)
      have z01 := (hkb.cell hyb id).trans (unhide HY1)
      have z02 := (hkb.cell hyb id).trans (unhide HY2)
      have i1 : ¬ (k : Int) < (l.len : Int) := by omega
      have HE : Hid (nodeG S (R.map ValA.kind) (m : Int) s l = workG S (m : Int) (headOp l) dn) := by
        show _ = _
        rw [unhide HNG, unhide HEQ]
        simp [goG]
      have HQ := hide (worked_v Z S hl8 so sc m n s l ao cap b off dn (.slice oo k oc) wr hm7 hm25 (unhide HRT) (by omega) (by have h := rowAt_own (unhide HO); unfold IntsAt; rw [hdl]; exact h) ((unhide HF).keepF (unhide HKW)) (fun h => ((unhide HA) h).1) ((unhide HXX).keepF (unhide HKW)))
      clear hkb hr hwe HEQ hdl hk2
      go_wp2_with fail
      refine (unhide HQ).mono ?_
      rintro e w5 ⟨⟨t, ok, rfl, hT⟩, hk5⟩
      have HT := hide hT
      have HK5 := hide ((unhide HKW).trans hk5)
      clear hT hk5 HQ
      go_wp2_with fail
      go_ret2
      refine ⟨?_, unhide HK5⟩
      rw [unhide HE]
      exact ⟨t, ok, rfl, unhide HT⟩
    | cons op' n' s' kids rest =>
      obtain ⟨h1, h2, h3, h4, h5, ⟨kao, kcap, h6, h7, h8⟩, h9⟩ := hr
      simp only [EL.len, EL.size, wellE, Bool.and_eq_true] at hkl hrs hwe
      obtain ⟨rfl, hp⟩ := (unhide HA) (by omega)
      have HKID : Hid (SlE Z w b (.slice kao kids.len kcap) kids) := ⟨kao, kcap, rfl, h7, h8⟩
      have HR9 := hide h9
      have HWR := hide hwe.2.2
      have i1 : (k : Int) < (l.len : Int) := by omega
      have ix0 : (0 : Int) ≤ (k : Int) := by omega
      have hkw := unhide HKW
      have q0 := (hkw.cell h1 id).trans h3
      have q1 := (hkw.cell h1 id).trans h4
      have q2 := (hkw.cell h1 id).trans h5
      have q3 := (hkw.cell h1 id).trans h6
      have hbl : b < wr.heap.size := Nat.lt_of_lt_of_le h1 hkw.size
      have hws2 : w.heap.size < wr.heap.size := by omega
      have hyb2 : w.heap.size + 1 < wr.heap.size := by omega
      have HC := hide (unhide HK kids (by omega) op' n' s' wr.drew b (.slice kao kids.len kcap) ((unhide HKID).keepF hkw.drew) ((unhide HF).keepF hkw.drew) ((unhide HRR).keepF hkw.drew) hwe.1 hwe.2.1)
      have HGC := hide (goG_cons S (R.map ValA.kind) op' n' s' kids rest)
      clear h2 h3 h4 h5 h6 h8 h9 hwe hkw hkb
      go_wp2_with fail
      go_region_held3 (fun w' => w'.cell? ⟨w.heap.size, 0, none⟩ = some (.slice so S.length sc) ∧ w'.cell? ⟨w.heap.size + 1, 3, none⟩ = some (.slice (some ⟨b, off, none⟩) l.len cap) ∧ w'.cell? ⟨b, off + k * 4, none⟩ = some (.int .i64 op') ∧ w'.cell? ⟨b, off + k * 4 + 1, none⟩ = some (.int .i64 n') ∧ w'.cell? ⟨b, off + k * 4 + 2, none⟩ = some (str s') ∧ w'.cell? ⟨b, off + k * 4 + 3, none⟩ = some (.slice kao kids.len kcap))
        (first | (go_keep; done) | assumption)
        (first | (go_at_call 52; refine (unhide HC).mono ?_; rintro e w2 ⟨⟨t, ok, rfl, hT⟩, hk2⟩; have p0 := (hk2.cell (o := 0) hws2 id).trans z0; have p3 := (hk2.cell (o := 3) hyb2 id).trans z3; have r0 := (hk2.cell hbl id).trans q0; have r1 := (hk2.cell hbl id).trans q1; have r2 := (hk2.cell hbl id).trans q2; have r3 := (hk2.cell hbl id).trans q3))
      have HKX := hide ((Keeps.refl (fun _ => False) wr).drew.trans hk2)
      have HO2 := hide (ownsRow_kept (unhide HO) (unhide HKX) (fun _ _ => id))
      have HK2 := hide ((unhide HKB).trans (unhide HKX))
      have hs2 : w1.heap.size ≤ w2.heap.size := (unhide HK2).size
      have HT := hide hT
      clear hk2 hT HC q0 q1 q2 q3 z0 z3 p0 p3 r0 r1 r2 r3
      cases hg : nodeG S (R.map ValA.kind) op' s' kids with
      | none =>
        have hok : ok = false := by have h := unhide HT; rw [hg] at h; exact h
        subst hok
        have HE : Hid (nodeG S (R.map ValA.kind) (m : Int) s l = none) := by
          show _ = _
          rw [unhide HNG, unhide HEQ, unhide HGC, hg]
          rfl
        clear hg
        go_wp2_with fail
        go_ret2
        exact ⟨by rw [unhide HE]; exact worked_no rfl, (unhide HK0).trans (unhide HK2)⟩
      | some u =>
        obtain ⟨hok, htu⟩ : ok = true ∧ t = u := by have h := unhide HT; rw [hg] at h; exact h
        subst hok htu
        have HE : Hid (goG S (R.map ValA.kind) l = (goG S (R.map ValA.kind) rest).map ((dn ++ [t]) ++ ·)) := by
          show _ = _
          rw [unhide HEQ, unhide HGC, hg]
          simp only [Option.bind_some]
          cases goG S (R.map ValA.kind) rest <;> simp
        clear hg
        go_wp2_with (at_builtin; refine wpList_append_lies _ rfl _ _ _ rfl w1.heap.size 3 i0 _ 1 8 Tryd.underlying106 hi hz0 hz1 hz2 rfl (by omega) (.slice oo k oc) k (ints dn) rfl ((unhide HO2).alloc _) ⟨w2.heap.size, 0, none⟩ 1 1 [.int .i64 t] rfl rfl (World.news_of_block (cs := #[.int .i64 t]) (t := 3) (fr := (0, 0)) (heap_alloc_new w2 _)) (by simp [Value.oneCell']) (by omega) (by unfold maxLen; omega) (by omega) (by simp; omega) (w2.heap.size + 1) (by simp) ?_; intro g' cap6 w6 hown6 hgrow hat hlt6; have HO6 := hide hown6; have HK6 := hide (((unhide HK2).alloc _).grown hgrow (fun q e hq => by have := ((unhide HO2).lt q e).1; omega)); clear hown6 hgrow hat)
        go_roundw
        case rel =>
          refine ⟨rest, k + 1, dn ++ [t], by go_num, by omega, by omega, by simp [hdl], unhide HWR, HE, ?_, unhide HK6, ?_⟩
          · simpa [ints] using unhide HO6
          · rw [show off + (k + 1) * 4 = off + k * 4 + 4 by omega]
            exact unhide HR9
        case measure => simp [intOf]; omega

/-- What an expression's value is of, on a row: by the law's own going. -/
theorem goes_v (Z : Zone) (S : List FieldA) (hS : schemaB S = true) (so : Option Addr) (sc : Nat) (R : List ValA) (ro : Option Addr) (rc : Nat) (hR : R.length = S.length ∨ R.length = 0) (N : Nat) : ∀ (l : EL), l.size < N → ∀ (op n : Int) (s : Txt) (w : World) (up : Nat) (v : Value), SlE Z w up v l → FldsAt w (.slice so S.length sc) S → ValsAt w (.slice ro R.length rc) R → rootB op n s l.len = true → wellE l = true →
    Calls Tryd.prog 52 #[.agg #[.slice so S.length sc], .slice ro R.length rc, exV op n s v] w fun e w' => Worked e (nodeG S (R.map ValA.kind) op s l) ∧ Keeps (fun _ => False) w w' := by
  induction N with
  | zero => intro l h; omega
  | succ N ih =>
    intro l hsz op n s w up v hSl hf hr hroot hwell
    obtain ⟨m, r, rfl, hm25, hrr, hrk, hl3, _⟩ := root_open hroot
    by_cases hm7 : 7 ≤ m
    · exact goes_big Z S hS so sc R ro rc l (fun l' hl' => ih l' (by omega)) m n s w up v hf hr hSl hroot hwell hm7
    · have hm1 : 1 ≤ m := by
        rcases Nat.eq_zero_or_pos m with h | h
        · subst h; cases hrr
        · exact h
      obtain ⟨ao, cap, rfl, _, _⟩ := hSl
      exact goes_leaf S hS so sc R ro rc hR m n s l ao cap w hm1 (by omega) hf hr

end Go.Proofs.YtjhppnecadnekaaDoor
