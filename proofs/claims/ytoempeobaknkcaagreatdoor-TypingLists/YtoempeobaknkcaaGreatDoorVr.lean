import Derived.Test.YtoempeobaknkcaaGreatDoorJyao
namespace Go.Proofs.YtoempeobaknkcaaGreatDoor
open Go.RowKit Go.Maps

theorem row_slE2 {A : Nat → Prop} {w : World} {B m : Nat} {v : Value} {l : EL} {xs : List Value} (h : w.ownsRow B 57 4 v m xs) (hm : l.len = m) (hc : CsIn A w l xs) (up : Nat) : SlE (inZ (fun _ => True)) w up v l := by
  subst hm
  exact row_slE h hc up

set_option maxRecDepth 100000 in
set_option maxHeartbeats 8000000 in
theorem staleExpr_v (Z : Zone) (S : List FieldA) (op n : Int) (s : Txt) (kids : EL) (hsz : kids.size + 1 ≤ 4294967294) (sv xv : Value) (w : World) (up : Nat) (hT : Types w) (hF : Forms w) (hf : FldsAt w sv S) (hx : SlE Z w up xv kids) :
    Calls Tryz.prog 21 #[.agg #[sv], exV op n s xv] w fun e w' => e = .returned (.bool true) ∧ Keeps (fun _ => False) w w' := by
  obtain ⟨so, sc, rfl⟩ := RowAt.form hf
  obtain ⟨xo, xc, rfl, _⟩ := hx.head
  obtain ⟨X, hX⟩ : ∃ X, X = (w.alloc (.cells #[.slice so S.length sc] 24)).alloc (.cells #[.int .i64 op, .int .i64 n, str s, .slice xo kids.len xc] 57) := ⟨_, rfl⟩
  have hkX : Keeps (fun _ => False) w X := by rw [hX]; exact ((Keeps.refl _ w).alloc _).alloc _
  have hxs : X.heap.size = w.heap.size + 2 := by rw [hX]; simp
  have sb : X.heap[w.heap.size]? = some (.cells #[.slice so S.length sc] 24 (0, 0)) := by
    rw [hX]
    exact (((Keeps.refl (fun _ => False) _).alloc _).block _ (by simp) id).trans (heap_alloc_new w _)
  have eb : X.heap[w.heap.size + 1]? = some (.cells #[.int .i64 op, .int .i64 n, str s, .slice xo kids.len xc] 57 (0, 0)) := by
    rw [hX]
    have := heap_alloc_new (w.alloc (.cells #[.slice so S.length sc] 24)) (.cells #[.int .i64 op, .int .i64 n, str s, .slice xo kids.len xc] 57)
    simpa using this
  have e0 := (cell_of_blk eb 0).trans (show _ = some (Value.int .i64 op) from rfl)
  have e1 := (cell_of_blk eb 1).trans (show _ = some (Value.int .i64 n) from rfl)
  have e2 := (cell_of_blk eb 2).trans (show _ = some (str s) from rfl)
  have e3 := (cell_of_blk eb 3).trans (show _ = some (Value.slice xo kids.len xc) from rfl)
  have HC1 := hide (copyExprR_of op n s kids (.slice xo kids.len xc) X ⟨_, _, rfl⟩ (fun w' hk => copyExprsR_v Z kids (by omega) w' up _ (hx.keepF (hkX.trans hk))))
  have HXE := hide hX
  have HKX := hide hkX
  have HSB := hide sb
  have HT := hide hT
  have HF := hide hF
  have HFL := hide hf
  clear hX hkX sb eb hT hF hf hx
  go_enter Tryz.func21, Tryz.ntmps21
  go_upto_region 1 with fail
  rw [← unhide HXE]
  go_upto_region 2 with (go_at_call 40; refine (unhide HC1).mono ?_; rintro e w1 ⟨v1, xs, A, rfl, ho1, hc1, ha1, hk1⟩; obtain ⟨vo, vc, rfl⟩ := (rowAt_own ho1).form; have HO1 := hide ho1; have HCS1 := hide hc1; have HA1 := hide ha1; have HK1 := hide hk1; clear ho1 hc1 ha1 hk1)
  obtain ⟨X1, hX1⟩ : ∃ Y, Y = w1.alloc (.cells #[.int .i64 op, .int .i64 n, .string ⟨s.toArray⟩, .slice vo kids.len vc] 57) := ⟨_, rfl⟩
  have hk11 : Keeps (fun _ => False) w1 X1 := by rw [hX1]; exact (Keeps.refl _ w1).alloc _
  have bb : X1.heap[w1.heap.size]? = some (.cells #[.int .i64 op, .int .i64 n, str s, .slice vo kids.len vc] 57 (0, 0)) := by rw [hX1]; exact heap_alloc_new w1 _
  have HB1 := hide bb
  have HSB1 := hide ((((unhide HK1).trans hk11).block _ (by have := unhide HSB; exact lt_of_block this) id).trans (unhide HSB))
  have HO := hide (ownsRow_kept (unhide HO1) hk11 (fun _ _ => id))
  have HCS := hide ((unhide HCS1).keep hk11 (fun _ _ _ => id))
  have HKW := hide ((unhide HKX).trans ((unhide HK1).trans hk11))
  have hol : ∀ q, (Value.slice vo kids.len vc).ownBlock = some q → w.heap.size + 2 ≤ q ∧ q < w1.heap.size := fun q e => by
    have h1 := own_geO (unhide HO1) e
    exact ⟨by omega, own_lt (unhide HO1) e⟩
  have HOL := hide hol
  have s0 := (cell_of_blk (unhide HSB1) 0).trans (show _ = some (Value.slice so S.length sc) from rfl)
  have b0 := (cell_of_blk bb 0).trans (show _ = some (Value.int .i64 op) from rfl)
  have b1 := (cell_of_blk bb 1).trans (show _ = some (Value.int .i64 n) from rfl)
  have b2 := (cell_of_blk bb 2).trans (show _ = some (str s) from rfl)
  have b3 := (cell_of_blk bb 3).trans (show _ = some (Value.slice vo kids.len vc) from rfl)
  have HC2 := hide (type_v _ S op n s kids hsz (.slice so S.length sc) _ X1 0 ((unhide HT).keepF (unhide HKW)) ((unhide HF).keepF (unhide HKW)) ((unhide HFL).keepF (unhide HKW)) (row_slE (unhide HO) (unhide HCS) 0))
  rw [← hX1]
  clear hX1 hk11 bb hol e0 e1 e2 e3 HC1 HK1 HKX HO1 HCS1 HSB HXE
  go_upto_region 3 with (go_at_call 16; refine (unhide HC2).mono ?_; rintro e w2 ⟨rfl, hk2⟩; have HK2 := hide hk2; clear hk2)
  have HO2 := hide (ownsRow_kept (unhide HO) (unhide HK2) (fun _ _ => id))
  have HCS2 := hide ((unhide HCS).keep (unhide HK2) (fun _ _ _ => id))
  have HB2 := hide (((unhide HK2).block _ (lt_of_block (unhide HB1)) id).trans (unhide HB1))
  have HSB2 := hide (((unhide HK2).block _ (lt_of_block (unhide HSB1)) id).trans (unhide HSB1))
  have HKW2 := hide ((unhide HKW).trans (unhide HK2))
  have hlen : kids.len ≤ 4294967294 := by have := EL.len_le kids; omega
  clear s0 b0 b1 b2 b3 HC2 HO HCS HB1 HSB1 HKW HK2
  go_wp2_with fail
  go_loopw [6] (fun i wr => ∃ (rest : EL) (j : Nat) (ys : List Value), i = .int .i64 (j : Int) ∧ j + rest.len = kids.len ∧ Hid (wr.ownsRow X.heap.size 57 4 (.slice vo kids.len vc) kids.len (tripC j ++ ys)) ∧ Hid (CsIn A wr rest ys) ∧ Hid (Keeps (fun q => (Value.slice vo kids.len vc).ownBlock = some q) w2 wr)) (fun i _ => kids.len - (intOf i).toNat)
  case atStart => exact ⟨kids, 0, xs, rfl, by omega, HO2, HCS2, hide (Keeps.refl _ _)⟩
  case round =>
    obtain ⟨rest, j, ys, rfl, hjl, HO, HCS, HK⟩ := hrel
    have hbn : ¬ (Value.slice vo kids.len vc).ownBlock = some w1.heap.size := fun e => by have := unhide HOL _ e; omega
    have hb := ((unhide HK).block _ (lt_of_block (unhide HB2)) hbn).trans (unhide HB2)
    have d3 := (cell_of_blk hb 3).trans (show _ = some (Value.slice vo kids.len vc) from rfl)
    cases rest with
    | nil =>
      have hys : ys = [] := unhide HCS
      subst hys
      simp only [EL.len, Nat.add_zero] at hjl
      subst hjl
      have i1 : ¬ (kids.len : Int) < (kids.len : Int) := by omega
      have hsn : ¬ (Value.slice vo kids.len vc).ownBlock = some w.heap.size := fun e => by have := unhide HOL _ e; omega
      have hsb := ((unhide HK).block _ (lt_of_block (unhide HSB2)) hsn).trans (unhide HSB2)
      have s0 := (cell_of_blk hsb 0).trans (show _ = some (Value.slice so S.length sc) from rfl)
      have b0 := (cell_of_blk hb 0).trans (show _ = some (Value.int .i64 op) from rfl)
      have b1 := (cell_of_blk hb 1).trans (show _ = some (Value.int .i64 n) from rfl)
      have b2 := (cell_of_blk hb 2).trans (show _ = some (str s) from rfl)
      have hkw : Keeps (fun _ => False) w wr := narrowO (unhide HKW2) (unhide HK) (fun q e => by have := unhide HOL q e; omega)
      have hcs := cs_trip (A := A) (w := wr) (l := .nil) (ys := []) rfl kids.len
      have hle : ((trip kids.len).app .nil).len = kids.len := by rw [EL.len_app, trip_len]; rfl
      have hzz : ((trip kids.len).app .nil).size + 1 ≤ 4294967294 := by rw [EL.size_app, trip_size]; have := EL.len_le kids; simp only [EL.size]; omega
      obtain ⟨T, hTT⟩ : ∃ T, T = (trip kids.len).app .nil := ⟨_, rfl⟩
      rw [← hTT] at hcs hle hzz
      have hsl := row_slE2 (unhide HO) hle hcs 0
      have HSL := hide hsl
      have HKW3 := hide hkw
      have HBB := hide hb
      have HSS := hide hsb
      have HTY := hide (fun (W : World) (hk : Keeps (fun _ => False) wr W) (V : Value) (Y : Zone) (hV : SlE Y W 0 V T) => type_v Y S op n s T hzz (.slice so S.length sc) V W 0 ((unhide HT).keepF ((unhide HKW3).trans hk)) ((unhide HF).keepF ((unhide HKW3).trans hk)) ((unhide HFL).keepF ((unhide HKW3).trans hk)) hV)
      have HCY := hide (fun (W : World) (hk : Keeps (fun _ => False) wr W) => copyExpr_of op n s T (.slice vo kids.len vc) W ⟨_, _, by rw [hle]⟩ (fun w' hk' => copyExprs_v _ (T.size + 1) T (by omega) (by omega) w' 0 _ ((unhide HSL).keepF (hk.trans hk'))))
      have HC7 := hide (unhide HTY wr (Keeps.refl _ _) _ _ (unhide HSL))
      clear hkw hcs hsl hb hsb HO HCS HK hTT
      go_upto_region 8 with (go_at_call 16; refine (unhide HC7).mono ?_; rintro e w5 ⟨rfl, hk5⟩; have HK5 := hide hk5; clear hk5)
      have sX := fun (W : World) (hk : Keeps (fun _ => False) wr W) => (hk.cell (lt_of_block (unhide HSS)) id).trans s0
      have bX := fun (W : World) (hk : Keeps (fun _ => False) wr W) => And.intro ((hk.cell (lt_of_block (unhide HBB)) id).trans b0) (And.intro ((hk.cell (lt_of_block (unhide HBB)) id).trans b1) (And.intro ((hk.cell (lt_of_block (unhide HBB)) id).trans b2) ((hk.cell (lt_of_block (unhide HBB)) id).trans d3)))
      have s5 := sX _ (unhide HK5)
      obtain ⟨p0, p1, p2, p3⟩ := bX _ (unhide HK5)
      have HSX := hide sX
      clear sX bX s0 b0 b1 b2 d3 HC7
      go_cut [10, 11, 12] from 37 to 44 (fun a b c wx => a = .int .i64 (typeP S op n s T).1 ∧ b = .bool (typeP S op n s T).2.1 ∧ c = .int .i64 (typeP S op n s T).2.2 ∧ Keeps (fun _ => False) wr wx)
      case first =>
        have KD := (unhide HK5).drew
        go_region_with (first | (go_at_call 40; refine (unhide HCY _ KD).mono ?_; rintro e w6 ⟨v6, rfl, hs6, hk6⟩; have HKQ := hide (KD.trans hk6); have sq := unhide HSX _ (unhide HKQ); have HS6 := hide hs6; clear hs6 hk6) | (go_at_call 16; refine (unhide HTY _ (unhide HKQ) _ _ (unhide HS6)).mono ?_; rintro e w7 ⟨rfl, hk7⟩; have HK7 := hide ((unhide HKQ).trans hk7); clear hk7))
        all_goals (go_wp2_with fail; go_meet; exact ⟨rfl, rfl, rfl, unhide HK7⟩)
      case rest =>
        obtain ⟨rfl, rfl, rfl, hk8⟩ := hcut
        go_wp2_with fail
        go_ret
        exact ⟨rfl, (unhide HKW3).trans hk8⟩
    | cons op2 n2 s2 k2 rest =>
      obtain ⟨kv, ys', rfl, hkv, hrest⟩ := unhide HCS
      simp only [EL.len] at hjl
      obtain ⟨g, rfl, _⟩ : ∃ g, vo = some ⟨g, 0, none⟩ ∧ True := by
        rcases (unhide HO).2 with ⟨h0, _⟩ | ⟨g, cap, cur, hv, _⟩
        · simp only [Value.slice.injEq] at h0; omega
        · simp only [Value.slice.injEq] at hv
          exact ⟨g, hv.1, trivial⟩
      have hro := unhide HO
      have hll : (tripC j ++ (Value.int .i64 op2 :: .int .i64 n2 :: str s2 :: kv :: ys')).length = kids.len * 4 := hro.1
      have ex : ∀ m, m < 4 → ∃ d, wr.cell? ⟨g, j * 4 + m, none⟩ = some d := fun m hm => ⟨_, (hro.cellAt (j * 4 + m) (by omega)).trans (List.getElem?_eq_getElem (by omega))⟩
      obtain ⟨x0, c0⟩ := ex 0 (by decide)
      obtain ⟨x1, c1⟩ := ex 1 (by decide)
      obtain ⟨x2, c2⟩ := ex 2 (by decide)
      obtain ⟨x3, c3⟩ := ex 3 (by decide)
      have f0 := hro.frozenAt (j * 4)
      have f1 := hro.frozenAt (j * 4 + 1)
      have f2 := hro.frozenAt (j * 4 + 2)
      have f3 := hro.frozenAt (j * 4 + 3)
      simp only [Nat.add_zero] at c0
      have HN := hide (row_three hro)
      have hks : Keeps (fun q => (Value.slice (some ⟨g, 0, none⟩) kids.len vc).ownBlock = some q) wr ((((wr.setCell ⟨g, j * 4, none⟩ (.int .i64 1)).setCell ⟨g, j * 4 + 1, none⟩ (.int .i64 3)).setCell ⟨g, j * 4 + 2, none⟩ (.string ⟨#[]⟩)).setCell ⟨g, j * 4 + 3, none⟩ (.slice none 0 0)) :=
        ((((Keeps.refl (fun q => (Value.slice (some ⟨g, 0, none⟩) kids.len vc).ownBlock = some q) wr).setCell (p := ⟨g, j * 4, none⟩) (fun _ => rfl) _).setCell (p := ⟨g, j * 4 + 1, none⟩) (fun _ => rfl) _).setCell (p := ⟨g, j * 4 + 2, none⟩) (fun _ => rfl) _).setCell (p := ⟨g, j * 4 + 3, none⟩) (fun _ => rfl) _
      have HKN := hide ((unhide HK).trans hks)
      have HCN := hide (hrest.keep hks (fun q _ hq e => (unhide HA1 q hq).2 e))
      have i1 : (j : Int) < (kids.len : Int) := by omega
      have i2 : (0 : Int) ≤ (j : Int) := by omega
      clear hro hll ex HO HCS HK hrest hks hb
      go_wp2_with fail
      go_roundw
      case rel => exact ⟨rest, j + 1, ys', by go_num, by omega, HN, HCN, HKN⟩
      case measure => simp [intOf]; omega
end Go.Proofs.YtoempeobaknkcaaGreatDoor
