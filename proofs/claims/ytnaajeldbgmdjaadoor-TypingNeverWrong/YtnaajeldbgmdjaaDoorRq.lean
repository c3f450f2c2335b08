import Derived.Test.YtnaajeldbgmdjaaDoorRo
import Derived.Test.YtnaajeldbgmdjaaDoorRp
namespace Go.Proofs.YtnaajeldbgmdjaaDoor
open Go.RowKit Go.Maps

/-- The value that the law's own row has for a field. -/
def pickV (VS : List ValA) (k : Nat) (f : FieldA) : ValA := match VS[k]? with
  | some v => if fitsB f v then v else zeroV f
  | none => zeroV f
def rowP (S : List FieldA) (VS : List ValA) : List ValA := S.mapIdx fun k f => pickV VS k f
theorem rowP_len (S : List FieldA) (VS : List ValA) : (rowP S VS).length = S.length := by simp [rowP]
theorem rowP_at {S : List FieldA} {VS : List ValA} {k : Nat} {f : FieldA} (h : S[k]? = some f) : (rowP S VS)[k]? = some (pickV VS k f) := by simp [rowP, h]
theorem zero_kind (f : FieldA) : (zeroV f).kind = f.type ∨ ((zeroV f).kind = 0 ∧ f.opt = true) := by
  unfold zeroV
  cases h : f.opt <;> simp
theorem rowP_ok (S : List FieldA) (VS : List ValA) : RowOK S ((rowP S VS).map ValA.kind) := by
  refine ⟨by simp [rowP], fun i f x hf hx => ?_⟩
  rw [List.getElem?_map, rowP_at hf] at hx
  simp at hx
  subst hx
  unfold pickV
  cases hv : VS[i]? with
  | none => exact zero_kind f
  | some v =>
    simp only
    cases hfit : fitsB f v with
    | false => exact zero_kind f
    | true =>
      simp only [if_true]
      unfold fitsB at hfit
      by_cases h0 : v.kind = 0
      · rw [if_pos h0] at hfit
        simp at hfit
        exact Or.inr ⟨h0, hfit.1.1⟩
      · rw [if_neg h0] at hfit
        by_cases h1 : v.kind ≠ f.type
        · rw [if_pos h1] at hfit; cases hfit
        · exact Or.inl (by simpa using h1)
theorem vcs_snoc (l : List ValA) (x : ValA) : vcs (l ++ [x]) = vcs l ++ [.int .i64 x.kind, .int .i64 x.n, str x.s] := by simp [vcs, ValA.cs]
set_option maxRecDepth 100000 in
set_option maxHeartbeats 16000000 in
theorem never_walk (S : List FieldA) (hlS : S.length ≤ 4398046511104) (op n : Int) (s : Txt) (kids : EL) (VS : List ValA) (sv xv vv : Value) (w : World) (hT : Types w) (hF : Forms w) (hf : FldsAt w sv S) (hx : SlE (argZ w.heap.size) w 0 xv kids) (hvs : ValsAt w vv VS) :
    Calls Tryd.prog 5 #[.agg #[sv], exV op n s xv, vv] w fun e w' => e = .returned (.bool true) ∧ Keeps (fun _ => False) w w' := by
  obtain ⟨vo, vc, rfl⟩ := RowAt.form hvs
  obtain ⟨ao, cap, rfl, hc⟩ := hx.head
  obtain ⟨so, sc, rfl⟩ := RowAt.form hf
  have hk0 : Keeps (fun _ => False) w (((w.alloc (.cells #[.slice so S.length sc] 24)).alloc (.cells #[.int .i64 op, .int .i64 n, str s, .slice ao kids.len cap] 27)).alloc (.cells #[.int .i64 op, .int .i64 n, str s, .slice ao kids.len cap] 27)) := (((Keeps.refl _ w).alloc _).alloc _).alloc _
  have e1 : (w.alloc (.cells #[.slice so S.length sc] 24)).heap.size = w.heap.size + 1 := by simp
  have e2 : ((w.alloc (.cells #[.slice so S.length sc] 24)).alloc (.cells #[.int .i64 op, .int .i64 n, str s, .slice ao kids.len cap] 27)).heap.size = w.heap.size + 2 := by simp
  have hb0 : (((w.alloc (.cells #[.slice so S.length sc] 24)).alloc (.cells #[.int .i64 op, .int .i64 n, str s, .slice ao kids.len cap] 27)).alloc (.cells #[.int .i64 op, .int .i64 n, str s, .slice ao kids.len cap] 27)).heap[w.heap.size]? = some (.cells #[.slice so S.length sc] 24 (0, 0)) := ((((Keeps.refl (fun _ => False) _).alloc _).alloc _).block _ (by rw [e1]; omega) id).trans (heap_alloc_new w _)
  have hb1 : (((w.alloc (.cells #[.slice so S.length sc] 24)).alloc (.cells #[.int .i64 op, .int .i64 n, str s, .slice ao kids.len cap] 27)).alloc (.cells #[.int .i64 op, .int .i64 n, str s, .slice ao kids.len cap] 27)).heap[w.heap.size + 1]? = some (.cells #[.int .i64 op, .int .i64 n, str s, .slice ao kids.len cap] 27 (0, 0)) := by
    have := heap_alloc_new (w.alloc (.cells #[.slice so S.length sc] 24)) (.cells #[.int .i64 op, .int .i64 n, str s, .slice ao kids.len cap] 27)
    rw [e1] at this
    exact (((Keeps.refl (fun _ => False) _).alloc _).block _ (by rw [e2]; omega) id).trans this
  have hb2 : (((w.alloc (.cells #[.slice so S.length sc] 24)).alloc (.cells #[.int .i64 op, .int .i64 n, str s, .slice ao kids.len cap] 27)).alloc (.cells #[.int .i64 op, .int .i64 n, str s, .slice ao kids.len cap] 27)).heap[w.heap.size + 2]? = some (.cells #[.int .i64 op, .int .i64 n, str s, .slice ao kids.len cap] 27 (0, 0)) := by
    have := heap_alloc_new ((w.alloc (.cells #[.slice so S.length sc] 24)).alloc (.cells #[.int .i64 op, .int .i64 n, str s, .slice ao kids.len cap] 27)) (.cells #[.int .i64 op, .int .i64 n, str s, .slice ao kids.len cap] 27)
    rw [e2] at this
    exact this
  have SB : ∀ w' : World, Keeps (fun _ => False) (((w.alloc (.cells #[.slice so S.length sc] 24)).alloc (.cells #[.int .i64 op, .int .i64 n, str s, .slice ao kids.len cap] 27)).alloc (.cells #[.int .i64 op, .int .i64 n, str s, .slice ao kids.len cap] 27)) w' → w'.cell? ⟨w.heap.size, 0, none⟩ = some (.slice so S.length sc) ∧ w'.cell? ⟨w.heap.size + 1, 0, none⟩ = some (.int .i64 op) ∧ w'.cell? ⟨w.heap.size + 1, 1, none⟩ = some (.int .i64 n) ∧ w'.cell? ⟨w.heap.size + 1, 2, none⟩ = some (str s) ∧ w'.cell? ⟨w.heap.size + 1, 3, none⟩ = some (.slice ao kids.len cap) := fun w' hk => by
    have k0 := (hk.block _ (lt_of_block hb0) id).trans hb0
    have k1 := (hk.block _ (lt_of_block hb1) id).trans hb1
    exact ⟨by rw [cell_of_blk k0]; rfl, by rw [cell_of_blk k1]; rfl, by rw [cell_of_blk k1]; rfl, by rw [cell_of_blk k1]; rfl, by rw [cell_of_blk k1]; rfl⟩
  have HSB := hide SB
  have HD := hide (deepExprs (w.heap.size + 3) 0 (.cons op n s kids .nil) (.slice (some ⟨w.heap.size + 2, 0, none⟩) 1 1) _ (by simp) (one_arg (B := w.heap.size) hb2 (by omega) (by omega) (hx.keepF hk0) (Nat.le_refl 1) 0))
  have HK0 := hide hk0
  have HTO := fun (hsz : kids.size + 1 ≤ 2147483647) w' (hk : Keeps (fun _ => False) w w') => hide (typeOf_v (argZ w.heap.size) S hlS op n s kids hsz (.slice so S.length sc) (.slice ao kids.len cap) w' 0 (hT.keepF hk) (hF.keepF hk) (hf.keepF hk) (hx.keepF hk))
  have HCS := fun w' (hk : Keeps (fun _ => False) w w') => hide (checkSchema_any S (.slice so S.length sc) w' (hf.keepF hk))
  have HCE := fun (hsz : kids.size + 1 ≤ 2147483647) w' (hk : Keeps (fun _ => False) w w') => hide (rCheckExpr_v (argZ w.heap.size) op n s kids hsz w' 0 (.slice ao kids.len cap) (hx.keepF hk))
  have HFF := hide hf
  have HXX := hide hx
  have HVS := hide hvs
  have hwz : w.heap.size + 1 < (((w.alloc (.cells #[.slice so S.length sc] 24)).alloc (.cells #[.int .i64 op, .int .i64 n, str s, .slice ao kids.len cap] 27)).alloc (.cells #[.int .i64 op, .int .i64 n, str s, .slice ao kids.len cap] 27)).heap.size := lt_of_block hb1
  have HTP : Hid (typeP S op n s kids = _) := rfl
  unfold typeP at HTP
  obtain ⟨⟨T, O, E⟩, hp⟩ : ∃ p, p = typeP S op n s kids := ⟨_, rfl⟩
  have hp' : (T, O, E) = _ := hp.trans (unhide HTP)
  have HP := hide hp'
  rw [← hp] at HTO
  clear hT hF hf hx hvs SB hb0 hb1 hb2 e1 e2 hp hp' hk0 HTP
  go_enter Tryd.func5, Tryd.ntmps5
  go_wp2_with fail
  refine (unhide HD).mono ?_
  rintro e w1 ⟨r, rfl, hk1, hsz⟩
  have HK1 := hide ((unhide HK0).trans hk1)
  have HKb := hide hk1
  have y1 := unhide HSB _ hk1
  have HSZ := hide hsz
  clear hk1 hsz
  cases r with
  | true =>
    go_wp2_with fail
    go_ret
    exact ⟨rfl, unhide HK1⟩
  | false =>
    have hs : kids.size + 1 ≤ 2147483647 := by have := (unhide HSZ) rfl; simp only [EL.size] at this; omega
    go_wp2_with fail
    refine (unhide (HCS _ (unhide HK1))).mono ?_
    rintro e w3 ⟨rfl, hk3⟩
    have HK3 := hide ((unhide HK1).trans hk3)
    have HKd := hide ((unhide HKb).trans hk3)
    have y3 := unhide HSB _ (unhide HKd)
    clear hk3 y1 HCS
    go_wp2_with fail
    refine (unhide (HCE hs _ (unhide HK3))).mono ?_
    rintro e w4 ⟨rfl, hk4⟩
    have HK4 := hide ((unhide HK3).trans hk4)
    have HKe := hide ((unhide HKd).trans hk4)
    have y4 := unhide HSB _ (unhide HKe)
    clear hk4 y3 HCE
    by_cases hes : errS S = 0
    · by_cases hce : checkE (.cons op n s kids .nil) = 0
      · have hS : schemaB S = true := by
          unfold errS at hes
          by_cases h : schemaB S = true
          · exact h
          · rw [if_neg h] at hes; simp at hes
        have hwe : wellE (.cons op n s kids .nil) = true := by
          unfold checkE at hce
          by_cases h : wellE (.cons op n s kids .nil) = false
          · rw [if_pos h] at hce; simp at hce
          · simpa using h
        have hl8 := schema_8 hS
        have hroot : rootB op n s kids.len = true ∧ wellE kids = true := by
          simp only [wellE, Bool.and_eq_true] at hwe
          exact ⟨hwe.1, hwe.2.1⟩
        have hok := (right_pure hS _ hwe).1.1
        have HBT : Hid ((kindP S op s kids).2 = 0 → ∃ x, nodeG S ((rowP S VS).map ValA.kind) op s kids = some x ∧ Btw (kindP S op s kids).1 x) := fun h0 => btw_node hS (rowP_ok S VS) hwe h0
        rw [hes, hce]
        have hP := unhide HP
        rw [hes, hce] at hP
        simp only [ne_eq, not_true_eq_false, if_false] at hP
        have HRW := fun (p : Bool) w' (hk : Keeps (fun _ => False) w w') => hide (row_v S (.slice so S.length sc) p w' ((unhide HFF).keepF hk) hl8)
        have HGO := fun (R : List ValA) (hR : R.length = S.length) (ro : Option Addr) (rc : Nat) w' (hk : Keeps (fun _ => False) w w') (hr : ValsAt w' (.slice ro R.length rc) R) => hide (goes_v (argZ w.heap.size) S hS so sc R ro rc hR (kids.size + 1) kids (by omega) op n s w' 0 (.slice ao kids.len cap) ((unhide HXX).keepF hk) ((unhide HFF).keepF hk) hr hroot.1 hroot.2)
        have HOK := hide hok
        have HPP := hide hP
        obtain ⟨i0, hi, hz0, hz1, hz2⟩ := info_parts Tryd.info40
        clear hes hce hwe hroot hok hP HP
        go_wp2_with fail
        refine (unhide (HRW true _ (unhide HK4))).mono ?_
        rintro e w5 ⟨ro5, rc5, rfl, hr5, hk5⟩
        have HK5 := hide ((unhide HK4).trans hk5)
        have HKf := hide ((unhide HKe).trans hk5)
        have y5 := unhide HSB _ (unhide HKf)
        have HR5 := hide hr5
        clear hk5 hr5 y4
        go_wp2_with fail
        refine (unhide (HRW false _ (unhide HK5))).mono ?_
        rintro e w6 ⟨ro6, rc6, rfl, hr6, hk6⟩
        have HK6 := hide ((unhide HK5).trans hk6)
        have HKg := hide ((unhide HKf).trans hk6)
        have HR6 := hide hr6
        have HR56 := hide (RowAt.keepF (unhide HR5) hk6)
        have hw6 : w.heap.size + 1 < w6.heap.size := Nat.lt_of_lt_of_le hwz (unhide HKg).size
        clear hk6 hr6 y5 HRW HR5
        go_wp2_with fail
        go_loopw [15, 16] (fun o i wr => ∃ k : Nat, k ≤ S.length ∧ i = .int .i64 k ∧ wr.ownsRow w6.heap.size 40 3 o k (vcs ((rowP S VS).take k)) ∧ Keeps (fun _ => False) w6 wr) (fun _ i _ => S.length - (intOf i).toNat)
        case atStart => exact ⟨0, Nat.zero_le _, rfl, World.ownsRow_nil _ _ 40 3, Keeps.refl _ _⟩
        case round =>
          obtain ⟨k, hk, rfl, hown, hkr⟩ := hrel
          obtain ⟨oo, oc, rfl⟩ := (rowAt_own hown).form
          have HO := hide hown
          have HKR := hide hkr
          have HKW := hide ((unhide HK6).trans hkr)
          have HKH := hide ((unhide HKg).trans hkr)
          have yr := unhide HSB _ (unhide HKH)
          have hsr : w6.heap.size ≤ wr.heap.size := hkr.size
          clear hown
          by_cases hlt : k < S.length
          · obtain ⟨f, hfk⟩ : ∃ f, S[k]? = some f := ⟨_, List.getElem?_eq_getElem hlt⟩
            obtain ⟨fb, foff, fc, fe, hfb, hfc⟩ := (unhide HFF).cells (by omega)
            simp only [Value.slice.injEq] at fe
            obtain ⟨rfl, _, rfl⟩ := fe
            have f0 := ((unhide HKW).cell hfb id).trans (hfc k f hfk).1
            have f1 := ((unhide HKW).cell hfb id).trans (hfc k f hfk).2.1
            have f2 := ((unhide HKW).cell hfb id).trans (hfc k f hfk).2.2
            have HTK := hide (take_snoc _ _ _ (rowP_at (VS := VS) hfk))
            have HZQ := hide (zeroOf_any f wr)
            have HPK : Hid (pickV VS k f = match VS[k]? with | some v => if fitsB f v then v else zeroV f | none => zeroV f) := rfl
            have i1 : (k : Int) < (S.length : Int) := by omega
            have ix0 : (0 : Int) ≤ (k : Int) := by omega
            have hfbr : fb < wr.heap.size := Nat.lt_of_lt_of_le hfb (unhide HKW).size
            unfold FieldA.v at HZQ
            clear hfc hkr
            go_wp2_with fail
            refine (unhide HZQ).mono ?_
            rintro e w7 ⟨rfl, hk7⟩
            have HK7 := hide ((unhide HKR).trans hk7)
            have HO7 := hide (ownsRow_kept (unhide HO) hk7 (fun _ _ => id))
            have HKH7 := hide ((unhide HKH).trans hk7)
            have hs7 : w6.heap.size ≤ w7.heap.size := (unhide HK7).size
            have g0 := (hk7.cell hfbr id).trans f0
            have g1 := (hk7.cell hfbr id).trans f1
            have g2 := (hk7.cell hfbr id).trans f2
            have hfb7 : fb < w7.heap.size := Nat.lt_of_lt_of_le hfbr hk7.size
            have HV7 := hide ((unhide HVS).keepF ((unhide HKW).trans hk7))
            clear hk7 HZQ f0 f1 f2 yr
            obtain ⟨Zv, hZ⟩ : ∃ Zv, zeroV f = Zv := ⟨_, rfl⟩
            rw [hZ]
            have HZ := hide hZ
            unfold ValA.v
            obtain ⟨HX8, hx8, hc8⟩ := boxedT w7 #[.int .i64 Zv.kind, .int .i64 Zv.n, str Zv.s] 40
            have z0 := hc8 0 (.int .i64 Zv.kind) rfl
            have z1 := hc8 1 (.int .i64 Zv.n) rfl
            have z2 := hc8 2 (str Zv.s) rfl
            have HB8 : Hid ((w7.alloc (.cells #[.int .i64 Zv.kind, .int .i64 Zv.n, str Zv.s] 40)).heap[w7.heap.size]? = some (.cells #[.int .i64 Zv.kind, .int .i64 Zv.n, str Zv.s] 40 (0, 0))) := heap_alloc_new w7 _
            clear hc8 hZ
            cases hv : VS[k]? with
            | none =>
              have h1 := get_ge hv
              have HPZ : Hid (pickV VS k f = Zv) := by show _ = _; rw [unhide HPK, hv]; exact unhide HZ
              have i2 : ¬ (k : Int) < (VS.length : Int) := by omega
              clear hv h1
              go_wp2_with (at_builtin; refine wpList_append_lies _ rfl _ _ _ rfl w6.heap.size 40 i0 _ 3 32 Tryd.underlying34 hi hz0 hz1 hz2 rfl (by omega) (.slice oo k oc) k _ rfl (((unhide HO7).alloc _).alloc _) ⟨w7.heap.size + 1, 0, none⟩ 1 1 Zv.cs rfl rfl (World.news_of_block (cs := #[.int .i64 Zv.kind, .int .i64 Zv.n, str Zv.s]) (t := 40) (fr := (0, 0)) (by have q := heap_alloc_new (w7.alloc (.cells #[.int .i64 Zv.kind, .int .i64 Zv.n, str Zv.s] 40)) (.cells #[.int .i64 Zv.kind, .int .i64 Zv.n, str Zv.s] 40); rw [World.size_alloc] at q; exact q)) (by simp [Value.oneCell', ValA.cs]) (by omega) (by unfold maxLen; omega) (by omega) (by simp; omega) (w7.heap.size + 2) (by simp) ?_; intro g' cap9 w9 hown9 hgrow hat hlt9; have HO9 := hide hown9; have HK9 := hide ((((unhide HK7).alloc _).alloc _).grown hgrow (fun q e hq => by have := ((unhide HO7).lt q e).1; omega)); clear hown9 hgrow hat)
              go_roundw
              case rel =>
                refine ⟨k + 1, by omega, by go_num, ?_, unhide HK9⟩
                rw [unhide HTK, unhide HPZ, vcs_snoc]
                exact unhide HO9
              case measure => simp [intOf]; omega
            | some v =>
              have h1 := get_lt hv
              obtain ⟨vb, voff, vcc, ve, hvb, hvc⟩ := (unhide HV7).cells (by omega)
              simp only [Value.slice.injEq] at ve
              obtain ⟨rfl, _, rfl⟩ := ve
              have v0 := ((unhide HX8).cell hvb id).trans (hvc k v hv).1
              have v1 := ((unhide HX8).cell hvb id).trans (hvc k v hv).2.1
              have v2 := ((unhide HX8).cell hvb id).trans (hvc k v hv).2.2
              have k0 := ((unhide HX8).cell hfb7 id).trans g0
              have k1 := ((unhide HX8).cell hfb7 id).trans g1
              have k2 := ((unhide HX8).cell hfb7 id).trans g2
              have HY8 := hide (unhide HSB _ ((unhide HKH7).trans (unhide HX8)))
              have s0 := (unhide HY8).1
              have i2 : (k : Int) < (VS.length : Int) := by omega
              have HPF : Hid (pickV VS k f = if fitsB f v then v else Zv) := by show _ = _; rw [unhide HPK, hv, unhide HZ]
              have HK8 := hide ((unhide HK7).trans (unhide HX8))
              have HO8 := hide (ownsRow_kept (unhide HO7) (unhide HX8) (fun _ _ => id))
              have hvb8 := Nat.lt_of_lt_of_le hvb (unhide HX8).size
              have hfb8 := Nat.lt_of_lt_of_le hfb7 (unhide HX8).size
              have hs8 : w6.heap.size < (w7.alloc (.cells #[.int .i64 Zv.kind, .int .i64 Zv.n, str Zv.s] 40)).heap.size := by omega
              have hg8 : w6.heap.size ≤ w7.heap.size := hs7
              have hws8 : w.heap.size < (w7.alloc (.cells #[.int .i64 Zv.kind, .int .i64 Zv.n, str Zv.s] 40)).heap.size := by omega
              clear hvc hv g0 g1 g2 h1
              go_wp2_with fail
              generalize w7.alloc (.cells #[.int .i64 Zv.kind, .int .i64 Zv.n, str Zv.s] 40) = w8 at HX8 hx8 z0 z1 z2 HB8 v0 v1 v2 k0 k1 k2 HY8 s0 HK8 HO8 hvb8 hfb8 hs8 hws8 ⊢
              have HFQ := hide (fits_any f v w8.drew)
              unfold FieldA.v ValA.v at HFQ
              go_region_held3 (fun w' => w'.cell? ⟨w.heap.size, 0, none⟩ = some (.slice (some ⟨fb, foff, none⟩) S.length sc) ∧ w'.cell? ⟨fb, foff + k * 3, none⟩ = some (str f.name) ∧ w'.cell? ⟨fb, foff + k * 3 + 1, none⟩ = some (.int .i64 f.type) ∧ w'.cell? ⟨fb, foff + k * 3 + 2, none⟩ = some (.bool f.opt) ∧ w'.cell? ⟨vb, voff + k * 3, none⟩ = some (.int .i64 v.kind) ∧ w'.cell? ⟨vb, voff + k * 3 + 1, none⟩ = some (.int .i64 v.n) ∧ w'.cell? ⟨vb, voff + k * 3 + 2, none⟩ = some (str v.s))
                (first | (go_keep; done) | assumption)
                (first | (go_at_call 17; refine (unhide HFQ).mono ?_; rintro e w10 ⟨rfl, hk10⟩; have m0 := (hk10.cell (o := 0) hws8 id).trans s0; have m1 := (hk10.cell hfb8 id).trans k0; have m2 := (hk10.cell hfb8 id).trans k1; have m3 := (hk10.cell hfb8 id).trans k2; have m4 := (hk10.cell hvb8 id).trans v0; have m5 := (hk10.cell hvb8 id).trans v1; have m6 := (hk10.cell hvb8 id).trans v2))
              have HKX := hide ((Keeps.refl (fun _ => False) w8).drew.trans hk10)
              have m4 := ((unhide HKX).cell hvb8 id).trans v0
              have m5 := ((unhide HKX).cell hvb8 id).trans v1
              have m6 := ((unhide HKX).cell hvb8 id).trans v2
              have HK10 := hide ((unhide HK8).trans (unhide HKX))
              have HO10 := hide (ownsRow_kept (unhide HO8) (unhide HKX) (fun _ _ => id))
              have hB10 := ((unhide HKX).block _ (lt_of_block (unhide HB8)) id).trans (unhide HB8)
              have hs10 : w6.heap.size ≤ w10.heap.size := (unhide HK10).size
              clear hk10 HFQ v0 v1 v2 k0 k1 k2 s0 z0 z1 z2
              cases hfit : fitsB f v with
              | false =>
                have HPZ : Hid (pickV VS k f = Zv) := by show _ = _; rw [unhide HPF, hfit]; rfl
                have z0 : w10.cell? ⟨w7.heap.size, 0, none⟩ = some (.int .i64 Zv.kind) := by rw [cell_of_blk hB10]; rfl
                have z1 : w10.cell? ⟨w7.heap.size, 1, none⟩ = some (.int .i64 Zv.n) := by rw [cell_of_blk hB10]; rfl
                have z2 : w10.cell? ⟨w7.heap.size, 2, none⟩ = some (str Zv.s) := by rw [cell_of_blk hB10]; rfl
                clear hfit hB10
                go_wp2_with (at_builtin; refine wpList_append_lies _ rfl _ _ _ rfl w6.heap.size 40 i0 _ 3 32 Tryd.underlying34 hi hz0 hz1 hz2 rfl (by omega) (.slice oo k oc) k _ rfl ((unhide HO10).alloc _) ⟨w10.heap.size, 0, none⟩ 1 1 Zv.cs rfl rfl (World.news_of_block (cs := #[.int .i64 Zv.kind, .int .i64 Zv.n, str Zv.s]) (t := 40) (fr := (0, 0)) (heap_alloc_new w10 _)) (by simp [Value.oneCell', ValA.cs]) (by omega) (by unfold maxLen; omega) (by omega) (by simp; omega) (w10.heap.size + 1) (by simp) ?_; intro g' cap9 w9 hown9 hgrow hat hlt9; have HO9 := hide hown9; have HK9 := hide (((unhide HK10).alloc _).grown hgrow (fun q e hq => by have := ((unhide HO10).lt q e).1; omega)); clear hown9 hgrow hat)
                go_roundw
                case rel =>
                  refine ⟨k + 1, by omega, by go_num, ?_, unhide HK9⟩
                  rw [unhide HTK, unhide HPZ, vcs_snoc]
                  exact unhide HO9
                case measure => simp [intOf]; omega
              | true =>
                have HPZ : Hid (pickV VS k f = v) := by show _ = _; rw [unhide HPF, hfit]; rfl
                have r0 := frozen_of_blk hB10 0
                have r1 := frozen_of_blk hB10 1
                have r2 := frozen_of_blk hB10 2
                have z0 : w10.cell? ⟨w7.heap.size, 0, none⟩ = some (.int .i64 Zv.kind) := by rw [cell_of_blk hB10]; rfl
                have z1 : w10.cell? ⟨w7.heap.size, 1, none⟩ = some (.int .i64 Zv.n) := by rw [cell_of_blk hB10]; rfl
                have z2 : w10.cell? ⟨w7.heap.size, 2, none⟩ = some (str Zv.s) := by rw [cell_of_blk hB10]; rfl
                obtain ⟨⟨t0, t1, t2⟩, hks⟩ := set3 hB10 rfl (.int .i64 v.kind) (.int .i64 v.n) (str v.s)
                have HK11 := hide ((unhide HK10).narrow hks (fun q e => by omega))
                have HO11 := hide (ownsRow_kept (unhide HO10) hks (fun q e e2 => by have := ((unhide HO7).lt q e).2; omega))
                have hs11 := (unhide HK11).size
                clear hfit hB10 hks
                go_wp2_with (at_builtin; refine wpList_append_lies _ rfl _ _ _ rfl w6.heap.size 40 i0 _ 3 32 Tryd.underlying34 hi hz0 hz1 hz2 rfl (by omega) (.slice oo k oc) k _ rfl ((unhide HO11).alloc _) ⟨w10.heap.size, 0, none⟩ 1 1 v.cs rfl rfl (World.news_of_block (cs := #[.int .i64 v.kind, .int .i64 v.n, str v.s]) (t := 40) (fr := (0, 0)) (alloc_last _ _ (by simp))) (by simp [Value.oneCell', ValA.cs]) (by omega) (by unfold maxLen; omega) (by omega) (by simp; omega) (w10.heap.size + 1) (by simp) ?_; intro g' cap9 w9 hown9 hgrow hat hlt9; have HO9 := hide hown9; have HK9 := hide (((unhide HK11).alloc _).grown hgrow (fun q e hq => by have := ((unhide HO11).lt q e).1; omega)); clear hown9 hgrow hat)
                go_roundw
                case rel =>
                  refine ⟨k + 1, by omega, by go_num, ?_, unhide HK9⟩
                  rw [unhide HTK, unhide HPZ, vcs_snoc]
                  exact unhide HO9
                case measure => simp [intOf]; omega
          · obtain rfl : k = S.length := by omega
            have i1 : ¬ (S.length : Int) < (S.length : Int) := by omega
            have HRP : Hid (RowAt wr (.slice oo S.length oc) S.length (vcs (rowP S VS))) := by
              have h := rowAt_own (unhide HO)
              rw [show (rowP S VS).take S.length = rowP S VS from List.take_of_length_le (by rw [rowP_len]; exact Nat.le_refl _)] at h
              exact h
            clear hlt hkr
            go_wp2_with fail
            refine (unhide (HTO hs _ (unhide HKW))).mono ?_
            rintro e w7 ⟨rfl, hk7⟩
            have HK7 := hide ((unhide HKW).trans hk7)
            have HKh := hide ((unhide HKH).trans hk7)
            have HKr := hide ((unhide HKR).trans hk7)
            have y7 := unhide HSB _ (unhide HKh)
            have HRP7 := hide (RowAt.keepF (unhide HRP) hk7)
            have HG1 := hide (unhide (HGO (rowV S true) (rowV_len S true) ro5 rc5 w7 (unhide HK7) (by unfold ValsAt; rw [rowV_len]; exact RowAt.keepF (unhide HR56) (unhide HKr))))
            rw [rowV_H, rowV_len] at HG1
            clear hk7 yr HTO
            go_wp2_with fail
            refine (unhide HG1).mono ?_
            rintro e w8 ⟨⟨tH, okH, rfl, hTH⟩, hk8⟩
            have HK8 := hide ((unhide HK7).trans hk8)
            have HKi := hide ((unhide HKh).trans hk8)
            have y8 := unhide HSB _ (unhide HKi)
            have HRP8 := hide (RowAt.keepF (unhide HRP7) hk8)
            have HTH := hide hTH
            have HG2 := hide (unhide (HGO (rowV S false) (rowV_len S false) ro6 rc6 w8 (unhide HK8) (by unfold ValsAt; rw [rowV_len]; exact RowAt.keepF (RowAt.keepF (unhide HR6) (unhide HKr)) hk8)))
            rw [rowV_G, rowV_len] at HG2
            clear hk8 hTH y7 HG1
            go_wp2_with fail
            refine (unhide HG2).mono ?_
            rintro e w9 ⟨⟨tG, okG, rfl, hTG⟩, hk9⟩
            have HK9 := hide ((unhide HK8).trans hk9)
            have HKj := hide ((unhide HKi).trans hk9)
            have y9 := unhide HSB _ (unhide HKj)
            have HTG := hide hTG
            have HG3 := hide (unhide (HGO (rowP S VS) (rowP_len S VS) oo oc w9 (unhide HK9) (by unfold ValsAt; rw [rowP_len]; exact RowAt.keepF (unhide HRP8) hk9)))
            rw [rowP_len] at HG3
            clear hk9 hTG y8 HG2 HGO
            go_wp2_with fail
            refine (unhide HG3).mono ?_
            rintro e w10 ⟨⟨tP, okP, rfl, hTP⟩, hk10⟩
            have HK10 := hide ((unhide HK9).trans hk10)
            have HTP := hide hTP
            clear hk10 hTP y9 HG3
            by_cases hk0 : (kindP S op s kids).2 = 0
            · obtain ⟨g1, g2, _⟩ := (unhide HOK).1 hk0
              obtain ⟨x, g3, hbx⟩ := (unhide HBT) hk0
              have h1 := unhide HTH
              have h2 := unhide HTG
              have h3 := unhide HTP
              rw [g1] at h1
              rw [g2] at h2
              rw [g3] at h3
              obtain ⟨rfl, _⟩ := h1
              obtain ⟨rfl, _⟩ := h2
              obtain ⟨rfl, rfl⟩ := h3
              have hP := unhide HPP
              rw [hk0] at hP
              simp only [not_true_eq_false, if_false, Prod.mk.injEq] at hP
              obtain ⟨hPT, hPO, rfl⟩ := hP
              have hb2 : tP = T ∨ (tP = 0 ∧ O = true) := by rw [hPT, hPO]; exact hbx
              clear HTH HTG HTP HOK HPP HBT g1 g2 g3 hPT hPO hbx hk0
              by_cases htt : tP = T
              · have e1 : (tP == T) = true := by simpa using htt
                clear hb2 htt
                go_wp2
                go_ret
                exact ⟨rfl, unhide HK10⟩
              · have e1 : (tP == T) = false := by simpa using htt
                rcases hb2 with h | ⟨h1, h2⟩
                · exact absurd h htt
                · subst h1 h2
                  clear htt
                  go_wp2
                  go_ret
                  exact ⟨rfl, unhide HK10⟩
            · obtain ⟨g1, g2⟩ := (unhide HOK).2 hk0
              have hP := unhide HPP
              rw [if_pos hk0] at hP
              simp only [Prod.mk.injEq] at hP
              obtain ⟨rfl, rfl, hPE⟩ := hP
              have b1 : (E != 0) = true := by rw [hPE]; simpa using hk0
              have hn : okH = false ∨ okG = false := by
                rcases g1 with g1 | g1
                · left; have h := unhide HTH; rw [g1] at h; exact h
                · right; have h := unhide HTG; rw [g1] at h; exact h
              clear HTH HTG HTP HOK HPP HBT g1 g2 hPE hk0
              cases okH with
              | false =>
                go_wp2
                go_ret
                exact ⟨rfl, unhide HK10⟩
              | true =>
                cases okG with
                | false =>
                  go_wp2
                  go_ret
                  exact ⟨rfl, unhide HK10⟩
                | true => rcases hn with h | h <;> cases h
      · have hP := unhide HP
        rw [hes] at hP
        simp only [ne_eq, not_true_eq_false, if_false] at hP
        rw [if_pos hce] at hP
        simp only [Prod.mk.injEq] at hP
        obtain ⟨rfl, rfl, hPE⟩ := hP
        have b1 : (E != 0) = true := by rw [hPE]; simpa using hce
        have b2 : (checkE (.cons op n s kids .nil) != 0) = true := by simpa using hce
        rw [hes]
        generalize checkE (.cons op n s kids .nil) = C at *
        clear hes hce HP hPE
        go_wp2_with fail
        refine (unhide (HTO hs _ (unhide HK4))).mono ?_
        rintro e w7 ⟨rfl, hk7⟩
        have HK7 := hide ((unhide HK4).trans hk7)
        clear hk7
        go_wp2
        go_ret
        exact ⟨rfl, unhide HK7⟩
    · have hP := unhide HP
      rw [if_pos hes] at hP
      simp only [Prod.mk.injEq] at hP
      obtain ⟨rfl, rfl, hPE⟩ := hP
      have b1 : (E != 0) = true := by rw [hPE]; simpa using hes
      have b2 : (errS S != 0) = true := by simpa using hes
      generalize checkE (.cons op n s kids .nil) = C at *
      generalize errS S = D at *
      clear hes HP hPE
      go_wp2_with fail
      refine (unhide (HTO hs _ (unhide HK4))).mono ?_
      rintro e w7 ⟨rfl, hk7⟩
      have HK7 := hide ((unhide HK4).trans hk7)
      clear hk7
      go_wp2
      go_ret
      exact ⟨rfl, unhide HK7⟩
end Go.Proofs.YtnaajeldbgmdjaaDoor
