import Derived.Test.YtklkhegeeglfbaaGreatDoorGO
import Derived.Test.YtklkhegeeglfbaaGreatDoorJx
import Derived.Test.YtklkhegeeglfbaaGreatDoorJg
import Derived.Test.YtklkhegeeglfbaaGreatDoorJzac
import Derived.Test.YtklkhegeeglfbaaGreatDoorJzaf
import Derived.Test.YtklkhegeeglfbaaGreatDoorRg
import Derived.Test.YtklkhegeeglfbaaGreatDoorGG
import Derived.Test.YtklkhegeeglfbaaGreatDoorGH
import Derived.Test.YtklkhegeeglfbaaGreatDoorJzaj
namespace Go.Proofs.YtklkhegeeglfbaaGreatDoor
open Go.RowKit Go.Maps

set_option maxRecDepth 100000 in
set_option maxHeartbeats 8000000 in
/-- roomed: no call of the package writes into what lies behind a list that it was handed. -/
theorem roomed_v (w : World) (S : List FieldA) (sv : Value) (V : List ValA) (vv : Value) (b : Txt) (bv : Value) (s : Txt) (hE : Env w) (hS : FldsAt w sv S) (hV : ValsAt w vv V) (hb : BytesAt w bv b) (hI : InR V)
    (nS : S.length ≤ 1073741824) (nV : V.length ≤ 1073741824) (nb : b.length ≤ 1073741824) (ns : s.length ≤ 1099511627776) :
    Calls Tryz.prog 27 #[.agg #[sv], vv, bv, str s] w fun e w' => e = .returned (.bool true) ∧ Keeps (fun _ => False) w w' := by
  obtain ⟨so, sc, rfl⟩ := hS.form
  obtain ⟨vo, vc, rfl⟩ := hV.form
  obtain ⟨bo, bc, rfl⟩ := hb.form
  have K0 := hide ((Keeps.refl (fun _ => False) w).alloc (.cells #[.slice so S.length sc] 26))
  have H47 := hide (roomFields_v S _ _ (hS.keepF (unhide K0)) (by omega))
  have HS := hide (fun (W : World) (hk : Keeps (fun _ => False) w W) => hS.keepF hk)
  have HV := hide (fun (W : World) (hk : Keeps (fun _ => False) w W) => roomVals_v W _ V (hV.keepF hk) nV)
  have HB := hide (fun (W : World) (hk : Keeps (fun _ => False) w W) => roomBytes_v W _ b (hb.keepF hk) nb)
  have HVA := hide (fun (W : World) (hk : Keeps (fun _ => False) w W) => hV.keepF hk)
  have HBA := hide (fun (W : World) (hk : Keeps (fun _ => False) w W) => hb.keepF hk)
  have HE := hide (fun (W : World) (hk : Keeps (fun _ => False) w W) => hE.keepF hk)
  have s0 : (w.alloc (.cells #[.slice so S.length sc] 26)).cell? ⟨w.heap.size, 0, none⟩ = some (.slice so S.length sc) := by rw [cell_of_blk (heap_alloc_new _ _)]; rfl
  have z0 : w.heap.size < (w.alloc (.cells #[.slice so S.length sc] 26)).heap.size := by simp
  have SX := hide (fun (W : World) (hk : Keeps (fun _ => False) (w.alloc (.cells #[.slice so S.length sc] 26)) W) => (hk.cell (o := 0) z0 id).trans s0)
  clear hE hS hV hb
  go_enter Tryz.func27, Tryz.ntmps27
  go_wp2_with (first
    | (go_at_call 47
       refine (unhide H47).mono ?_
       rintro e w1 ⟨g1, c1, rfl, ho1, hk1⟩
       have OF := hide ho1
       have K1 := hide hk1
       have K1b := hide ((unhide K1).alloc (.cells #[.slice (some ⟨g1, 0, none⟩) S.length c1] 26))
       have f0 : (w1.alloc (.cells #[.slice (some ⟨g1, 0, none⟩) S.length c1] 26)).cell? ⟨w1.heap.size, 0, none⟩ = some (.slice (some ⟨g1, 0, none⟩) S.length c1) := by rw [cell_of_blk (heap_alloc_new _ _)]; rfl
       have z1 : w1.heap.size < (w1.alloc (.cells #[.slice (some ⟨g1, 0, none⟩) S.length c1] 26)).heap.size := by simp
       have FX := hide (fun (W : World) (hk : Keeps (fun _ => False) (w1.alloc (.cells #[.slice (some ⟨g1, 0, none⟩) S.length c1] 26)) W) => (hk.cell (o := 0) z1 id).trans f0)
       have OFX := hide (fun (W : World) (hk : Keeps (fun _ => False) (w1.alloc (.cells #[.slice (some ⟨g1, 0, none⟩) S.length c1] 26)) W) => own_keepF (own_alloc (unhide OF) _) hk)
       have H48 := hide (unhide HV _ ((unhide K0).trans (unhide K1b)))
       clear ho1 hk1)
    | (go_at_call 48
       refine (unhide H48).mono ?_
       rintro e w2 ⟨g2, c2, rfl, ho2, hk2⟩
       have OV := hide ho2
       have K2 := hide hk2
       have H49 := hide (unhide HB _ (((unhide K0).trans (unhide K1b)).trans (unhide K2)))
       clear ho2 hk2)
    | (go_at_call 49
       refine (unhide H49).mono ?_
       rintro e w3 ⟨g3, c3, rfl, ho3, hk3⟩
       have OB := hide ho3
       have K3 := hide hk3
       have J0 := hide (Keeps.refl (fun _ => False) w3)
       have P := hide (fun (W : World) (hk : Keeps (fun _ => False) w3 W) => (((unhide K0).trans (unhide K1b)).trans (unhide K2)).trans ((unhide K3).trans hk))
       have PF := hide (fun (W : World) (hk : Keeps (fun _ => False) w3 W) => unhide FX W ((unhide K2).trans ((unhide K3).trans hk)))
       have PS := hide (fun (W : World) (hk : Keeps (fun _ => False) w3 W) => unhide SX W (((unhide K1b).trans (unhide K2)).trans ((unhide K3).trans hk)))
       have XF := hide (fun (W : World) (hk : Keeps (fun _ => False) w3 W) => unhide OFX W ((unhide K2).trans ((unhide K3).trans hk)))
       have XV := hide (fun (W : World) (hk : Keeps (fun _ => False) w3 W) => own_keepF (unhide OV) ((unhide K3).trans hk))
       have XB := hide (fun (W : World) (hk : Keeps (fun _ => False) w3 W) => own_keepF (unhide OB) hk)
       have AF := hide (fun (W : World) (hk : Keeps (fun _ => False) w3 W) => show FldsAt W (.slice (some ⟨g1, 0, none⟩) S.length c1) S from rowAt_own (own_head (n := S.length) (by have := unhide XF W hk; rw [fcs_app] at this; exact this) (fcs_length S) (by decide)))
       have AV := hide (fun (W : World) (hk : Keeps (fun _ => False) w3 W) => show ValsAt W (.slice (some ⟨g2, 0, none⟩) V.length c2) V from rowAt_own (own_head (n := V.length) (by have := unhide XV W hk; rw [vcs_app] at this; exact this) (vcs_length V) (by decide)))
       have AB := hide (fun (W : World) (hk : Keeps (fun _ => False) w3 W) => own_head (n := b.length) (z := 1) (xs := bs b) (by have := unhide XB W hk; rw [bs_app] at this; exact this) (by rw [bs_length]; omega) (by decide))
       have f3 := unhide PF _ (unhide J0)
       clear ho3 hk3)
    | (go_at_call 34
       refine (checkSchema_v S _ _ (unhide HE _ (unhide P _ (unhide J0))).types (unhide AF _ (unhide J0))).mono ?_
       rintro e y1 ⟨rfl, hk⟩
       have J1 := hide ((unhide J0).trans hk)
       have f4 := unhide PF _ (unhide J1)
       have s4 := unhide PS _ (unhide J1)
       clear hk)
    | (go_at_call 39
       refine (val_check S _ V _ _ (unhide HE _ (unhide P _ (unhide J1))).types (unhide AF _ (unhide J1)) (unhide AV _ (unhide J1))).mono ?_
       rintro e y2 ⟨rfl, hk⟩
       have J2 := hide ((unhide J1).trans hk)
       have f5 := unhide PF _ (unhide J2)
       have s5 := unhide PS _ (unhide J2)
       clear hk)
    | (go_at_call 13
       refine (val_zero S _ _ (unhide HE _ (unhide P _ (unhide J2))).types (unhide AF _ (unhide J2))).mono ?_
       rintro e y3 ⟨x, rfl, _, hk⟩
       have J3 := hide ((unhide J2).trans hk)
       have f6 := unhide PF _ (unhide J3)
       have s6 := unhide PS _ (unhide J3)
       clear hk)
    | (go_at_call 14
       refine (val_make S _ V _ _ (unhide HE _ (unhide P _ (unhide J3))).types (unhide AF _ (unhide J3)) (unhide AV _ (unhide J3))).mono ?_
       rintro e y4 ⟨x, rfl, _, hk⟩
       have J4 := hide ((unhide J3).trans hk)
       have f7 := unhide PF _ (unhide J4)
       have s7 := unhide PS _ (unhide J4)
       clear hk)
    | (go_at_call 17
       refine (val_encode S _ V _ _ (unhide HE _ (unhide P _ (unhide J4))).types (unhide AF _ (unhide J4)) (unhide AV _ (unhide J4)) hI).mono ?_
       rintro e y5 ⟨x, rfl, _, hk⟩
       have J5 := hide ((unhide J4).trans hk)
       have f8 := unhide PF _ (unhide J5)
       have s8 := unhide PS _ (unhide J5)
       clear hk)
    | (go_at_call 15
       refine (vv_decode S _ b _ _ _ (unhide HE _ (unhide P _ (unhide J5))) (unhide AF _ (unhide J5)) (unhide AB _ (unhide J5)) (by omega)).mono ?_
       rintro e y6 ⟨x, rfl, _, hk⟩
       have J6 := hide ((unhide J5).trans hk)
       have f9 := unhide PF _ (unhide J6)
       have s9 := unhide PS _ (unhide J6)
       clear hk)
    | (go_at_call 33
       refine (val_printSchema S _ _ (unhide HE _ (unhide P _ (unhide J6))).types (unhide AF _ (unhide J6))).mono ?_
       rintro e y7 ⟨rfl, hk⟩
       have J7 := hide ((unhide J6).trans hk)
       have f10 := unhide PF _ (unhide J7)
       have s10 := unhide PS _ (unhide J7)
       clear hk)
    | (go_at_call 32
       refine (vv_print S _ V _ _ (unhide HE _ (unhide P _ (unhide J7))) (unhide AF _ (unhide J7)) (unhide AV _ (unhide J7)) hI).mono ?_
       rintro e y8 ⟨rfl, hk⟩
       have J8 := hide ((unhide J7).trans hk)
       have f11 := unhide PF _ (unhide J8)
       have s11 := unhide PS _ (unhide J8)
       clear hk)
    | (go_at_call 16
       refine (val_parse S _ s _ (unhide HE _ (unhide P _ (unhide J8))) (unhide AF _ (unhide J8)) ns).mono ?_
       rintro e y9 ⟨x, rfl, _, hk⟩
       have J9 := hide ((unhide J8).trans hk)
       have f12 := unhide PF _ (unhide J9)
       have s12 := unhide PS _ (unhide J9)
       clear hk)
    | (go_at_call 50
       refine (fieldsKept_v S _ _ _ (show FldsAt _ _ _ from by unfold FldsAt; rw [List.length_append, roomsF_len]; exact rowAt_own (unhide XF _ (unhide J9))) (unhide HS _ (unhide P _ (unhide J9))) (by omega)).mono ?_
       rintro e y10 ⟨rfl, hk⟩
       have J10 := hide ((unhide J9).trans hk)
       have f13 := unhide PF _ (unhide J10)
       have s13 := unhide PS _ (unhide J10)
       clear hk)
    | (go_at_call 51
       refine (valsKept_v _ _ g2 c2 V _ (unhide XV _ (unhide J10)) (unhide HVA _ (unhide P _ (unhide J10))) nV).mono ?_
       rintro e y11 ⟨rfl, hk⟩
       have J11 := hide ((unhide J10).trans hk)
       have f14 := unhide PF _ (unhide J11)
       have s14 := unhide PS _ (unhide J11)
       clear hk)
    | (go_at_call 52
       refine (bytesKept_v _ _ g3 c3 b _ (unhide XB _ (unhide J11)) (unhide HBA _ (unhide P _ (unhide J11))) nb).mono ?_
       rintro e y12 ⟨rfl, hk⟩
       have J12 := hide ((unhide J11).trans hk)
       have f15 := unhide PF _ (unhide J12)
       have s15 := unhide PS _ (unhide J12)
       clear hk))
  go_ret
  exact ⟨rfl, unhide P _ (unhide J12)⟩
end Go.Proofs.YtklkhegeeglfbaaGreatDoor
namespace Go.Proofs.YtklkhegeeglfbaaGreatDoor
open Go.RowKit Go.Maps

theorem print_len {l : List FieldA} {r : List ValA} (he : errR l r = 0) (hI : InR r) : (printB l r).length ≤ 1810 := by
  obtain ⟨hs, hl, hf⟩ := errR_zero he
  have h8 := (schemaB_len hs).2
  have h1 : (items (l.zip r)).length ≤ 8 := by
    have h := items_len (l.zip r)
    rw [List.length_zip] at h
    omega
  have h2 : ∀ x ∈ items (l.zip r), x.length ≤ 200 := fun x hx => by
    obtain ⟨p, hp, rfl⟩ := items_mem hx
    obtain ⟨i, hi⟩ := List.mem_iff_getElem?.1 hp
    rw [List.getElem?_zip_eq_some] at hi
    have h1 := shownB_le (fitAll_at hf hi.1 hi.2) (hI p.2 (List.mem_of_getElem? hi.2))
    have h2 := (schemaB_name8 hs (List.mem_of_getElem? hi.1)).1
    simp only [List.length_append, List.length_cons, List.length_nil]
    omega
  have h3 := joinB_le h1 h2
  rw [← print_eq]
  unfold printP
  rw [if_pos he]
  simp only [List.length_append, List.length_cons, List.length_nil]
  omega
theorem schema_len {l : List FieldA} (hs : schemaB l = true) : (printSchemaB l).length ≤ 1808 := by
  have e : printSchemaB l = joinB (l.map pfield) := by unfold printSchemaB; rw [if_pos hs, psF_eq]
  rw [e]
  refine joinB_le (by rw [List.length_map]; exact (schemaB_len hs).2) (fun x hx => ?_)
  obtain ⟨g, hg, rfl⟩ := List.mem_map.1 hx
  have h1 := (schemaB_name8 hs hg).1
  have h2 := wordB_le g.type
  unfold pfield
  simp only [List.length_append, List.length_cons, List.length_nil]
  split <;> simp <;> omega
theorem decodeB_len (l : List FieldA) (t : Txt) : (decodeB l t).1.length ≤ 8 := by
  unfold decodeB
  split
  · simp
  split
  · simp
  split
  · simp
  · split
    · rename_i h
      obtain ⟨hs, hl, _⟩ := errR_zero h.1
      have := (schemaB_len hs).2
      simp only
      omega
    · simp
/-- A record of nothing is the zero record. -/
theorem fitted_zero {l : List FieldA} (hs : schemaB l = true) : zeroB l = FittedB l [] := by
  unfold zeroB
  rw [if_pos hs]
  unfold FittedB zeros
  apply List.ext_getElem?
  intro i
  by_cases h : i < l.length
  · obtain ⟨f, hf⟩ : ∃ f, l[i]? = some f := ⟨_, List.getElem?_eq_getElem h⟩
    rw [fittedTo_get (vs := []) l.length (Nat.le_refl _) i f h hf, List.getElem?_map, hf]
    have ht := type_of (List.all_eq_true.1 (schemaB_ok hs) f (List.mem_of_getElem? hf))
    have hv : valAt [] i = ⟨0, 0, []⟩ := by simp [valAt, zeroVal]
    rw [hv]
    unfold zeroV fittedB
    by_cases ho : f.opt = true
    · simp [ho]
    · rcases ht with h1 | h1 | h1 <;> simp [ho, h1]
  · rw [List.getElem?_eq_none (by simpa using h), List.getElem?_eq_none (by rw [fittedTo_length _ _ _ (Nat.le_refl _)]; omega)]
/-- What is right of a schema, a record of it and the record of nothing. -/
structure RightA (S : List FieldA) (V N : List ValA) (b t s : Txt) : Prop where
  sch : schemaB S = true
  zero : zeroB S = N
  makeV : makeB S V = (V, 0)
  makeN : makeB S N = (N, 0)
  encV : encodeB S V = b
  errV : errR S V = 0
  errN : errR S N = 0
  decV : decodeB S b = (V, 0)
  decN : decodeB S (encodeB S N) = (N, 0)
  parV : parseB S t = (V, 0)
  parS : parseSchemaB s = (S, 0)
  inV : InR V
  inN : InR N
  n1 : 1 ≤ S.length
  n8 : S.length ≤ 8
  nV : V.length = S.length
  nN : N.length = S.length
  nb : b.length ≤ 64
  nz : (encodeB S N).length ≤ 64
  nt : t.length ≤ 1810
  ns : s.length ≤ 1808
theorem right_of {S : List FieldA} (hs : schemaB S = true) {vs : List ValA} (hI : InR vs) : RightA S (FittedB S vs) (FittedB S []) (encodeB S (FittedB S vs)) (printB S (FittedB S vs)) (printSchemaB S) := by
  have h1 := FittedB_fits hs vs
  have h2 := FittedB_fits hs []
  have i1 := FittedB_in (l := S) hI
  have i2 := FittedB_in (l := S) (vs := []) (fun x h => by cases h)
  have hl := schemaB_len hs
  have e64 : ∀ {r : List ValA}, errR S r = 0 → InR r → (encodeB S r).length ≤ 64 := fun he hi => by unfold encodeB; rw [if_pos he]; exact enc_64 he hi
  exact ⟨hs, fitted_zero hs, make_self h1, make_self h2, rfl, h1, h2, bytes_back h1 i1, bytes_back h2 i2, record_back h1 i1, schema_back hs, i1, i2, hl.1, hl.2, FittedB_length _ _, FittedB_length _ _, e64 h1 i1, e64 h2 i2, print_len h1 i1, schema_len hs⟩
theorem parse_other : parseSchemaB [110, 58, 105, 110, 116] = ([⟨[110], 1, false⟩], 0) := by
  have h := schema_back (l := [⟨[110], 1, false⟩]) (by decide +kernel)
  have e : printSchemaB [⟨[110], 1, false⟩] = [110, 58, 105, 110, 116] := by decide +kernel
  rwa [e] at h
/-- What stands all along: the schema in its box, the records, the bytes. -/
structure Amb (w : World) (sb : Nat) (sv : Value) (S : List FieldA) (vv : Value) (V : List ValA) (nv : Value) (N : List ValA) (bv : Value) (b : Txt) : Prop where
  cell : w.cell? ⟨sb, 0, none⟩ = some sv
  lt : sb < w.heap.size
  env : Env w
  flds : FldsAt w sv S
  vals : ValsAt w vv V
  nons : ValsAt w nv N
  byts : BytesAt w bv b
theorem Amb.keepF {w w' : World} {sb : Nat} {sv : Value} {S : List FieldA} {vv : Value} {V : List ValA} {nv : Value} {N : List ValA} {bv : Value} {b : Txt} (h : Amb w sb sv S vv V nv N bv b) (hk : Keeps (fun _ => False) w w') : Amb w' sb sv S vv V nv N bv b :=
  ⟨(hk.cell (o := 0) h.lt id).trans h.cell, Nat.lt_of_lt_of_le h.lt hk.size, h.env.keepF hk, h.flds.keepF hk, h.vals.keepF hk, h.nons.keepF hk, h.byts.keepF hk⟩
/-- The first values of one list, the rest of another. -/
def overN (N V : List ValA) (i : Nat) : List ValA := N.take i ++ V.drop i
theorem overN_zero {N V : List ValA} : overN N V 0 = V := by simp [overN]
theorem overN_end {N V : List ValA} (h : N.length = V.length) : overN N V V.length = N := by simp [overN, ← h]
theorem overN_len {N V : List ValA} (h : N.length = V.length) {i : Nat} (hi : i ≤ V.length) : (overN N V i).length = V.length := by simp [overN, List.length_take, List.length_drop]; omega
theorem overN_set {N V : List ValA} (h : N.length = V.length) {i : Nat} {x : ValA} (hi : i < V.length) (hx : N[i]? = some x) : (overN N V i).set i x = overN N V (i + 1) := by
  unfold overN
  have e : (N.take i).length = i := by rw [List.length_take]; omega
  rw [List.set_append_right _ _ (by omega), e, Nat.sub_self, List.drop_eq_getElem_cons hi, List.set_cons_zero, List.take_add_one, hx, List.append_assoc]
  rfl
theorem xor_one : ∀ x : Fin 256, bits .xor .u8 (x.1 : Int) 1 = (((UInt8.ofNat x.1) ^^^ 1).toNat : Int) := by decide +kernel
theorem xor_num (c : UInt8) : bits .xor .u8 (num c) 1 = num (c ^^^ 1) := by
  have h := xor_one ⟨c.toNat, UInt8.toNat_lt c⟩
  simp only [UInt8.ofNat_toNat] at h
  exact h
end Go.Proofs.YtklkhegeeglfbaaGreatDoor
namespace Go.Proofs.YtklkhegeeglfbaaGreatDoor
open Go.RowKit Go.Maps

/-- Heads appended to a row of heads. -/
theorem append_hdrs {w : World} {ops : Array Oper} {rest : List Oper} {o : Oper} {a : Act} {Q : Exit → Act → World → Prop} (t e : TypeId) (ht : Tryz.prog.underlying t = some (.slice e)) (z0 : Value) (hinfo : (Tryz.prog.info? e).map (fun i => (i.zero, i.size, i.bytes)) = some (some z0, 1, 24)) (hz : z0.cells.size = 1) (hgd : o.guard = none) (s x : Operand)
    (ho : o.op = .call { callee := .builtin .append, args := #[s, x], argTypes := #[t, t] }) (base : Nat) (v : Value) (n : Nat) (xs : List Value) (hs : a.eval s = v) (hown : w.ownsRow base e 1 v n xs)
    (ad c m : Nat) (us : List Value) (hx : a.eval x = .slice (some ⟨ad, 0, none⟩) m c) (hul : us.length = m) (hx2 : ∀ j u, us[j]? = some u → w.cell? ⟨ad, j, none⟩ = some u) (h1 : ∀ u ∈ us, u.oneCell' = true) (hm : 0 < m) (hl : n + m ≤ 4398046511104) (hbase : base ≤ w.heap.size)
    (h : ∀ g cap w', GrewZ w w' base e 1 n m v g cap xs us → wpList Tryz.prog ops Q rest (a.put o.dst (.slice (some ⟨g, 0, none⟩) (n + m) cap)) w') : wpList Tryz.prog ops Q (o :: rest) a w := by
  obtain ⟨i, hi, hz0, hz1, hz2⟩ := info_parts hinfo
  refine append_two (P := Tryz.prog) w hgd s x t ho base e i _ 1 24 ht hi hz0 hz1 hz2 hz (by omega) v n xs hs hown _ m c us hx (by omega) (fun j u' hj => ?_) h1 hm (by unfold maxLen; omega) (by omega) hbase (fun g cap w' h1 h2 => h g cap w' ⟨h1, h2⟩)
  rw [Addr.add_lit, Nat.zero_add]
  exact hx2 j u' hj
/-- Within strewn: three rows of heads, and all lists. -/
structure Strew (w wx : World) (a b c : Hd) (R : List Rowp) : Prop where
  sack : Sack wx w.heap.size (a.row 23 :: b.row 30 :: c.row 24 :: R)
  keeps : Keeps (fun _ => False) w wx
section
variable {w wx w' : World} {a b c : Hd} {R R' : List Rowp}
theorem Strew.keepF (h : Strew w wx a b c R) (hk : Keeps (fun _ => False) wx w') : Strew w w' a b c R := ⟨h.sack.keepF hk, h.keeps.trans hk⟩
theorem Strew.perm (h : Strew w wx a b c R) (hp : R.Perm R') : Strew w wx a b c R' := ⟨h.sack.perm (((hp.cons _).cons _).cons _), h.keeps⟩
theorem Strew.newRow {e : TypeId} {z n : Nat} {v : Value} {X : List Value} (h : Strew w wx a b c R) (hk : Keeps (fun _ => False) wx w') (ho : w'.ownsRow wx.heap.size e z v n X) (hz : 0 < z) : Strew w w' a b c (solo e z n v X :: R) :=
  ⟨(h.sack.new h.keeps.size hk (solo_at ho hz)).perm (List.perm_middle (l₁ := [a.row 23, b.row 30, c.row 24])).symm, h.keeps.trans hk⟩
theorem Strew.at_ (h : Strew w wx a b c R) {p : Rowp} (hp : p ∈ R) : p.at_ wx w.heap.size := h.sack.all p (List.mem_cons_of_mem _ (List.mem_cons_of_mem _ (List.mem_cons_of_mem _ hp)))
theorem Strew.rowA (h : Strew w wx a b c R) : wx.ownsRow w.heap.size 23 1 a.v a.hs.length a.hs := (h.sack.all _ (List.mem_cons_self ..)).x
theorem Strew.rowB (h : Strew w wx a b c R) : wx.ownsRow w.heap.size 30 1 b.v b.hs.length b.hs := (h.sack.all _ (List.mem_cons_of_mem _ (List.mem_cons_self ..))).x
theorem Strew.rowC (h : Strew w wx a b c R) : wx.ownsRow w.heap.size 24 1 c.v c.hs.length c.hs := (h.sack.all _ (List.mem_cons_of_mem _ (List.mem_cons_of_mem _ (List.mem_cons_self ..)))).x
theorem grown_row {e : TypeId} {B n m g cap : Nat} {h : Hd} {us : List Value} {o : Obj} (hG : GrewZ (wx.alloc o) w' B e 1 n m h.v g cap h.hs us) : solo e 1 (n + m) (.slice (some ⟨g, 0, none⟩) (n + m) cap) (h.hs ++ us) = (⟨.slice (some ⟨g, 0, none⟩) (n + m) cap, h.hs ++ us⟩ : Hd).row e := by
  have hl := hG.own.1
  unfold Hd.row
  rw [show n + m = (h.hs ++ us).length by omega]
theorem Strew.pushA {n m g cap : Nat} {us : List Value} {o : Obj} (hn : a.hs.length = n) (h : Strew w wx a b c R) (hG : GrewZ (wx.alloc o) w' w.heap.size 23 1 n m a.v g cap a.hs us) : Strew w w' ⟨.slice (some ⟨g, 0, none⟩) (n + m) cap, a.hs ++ us⟩ b c R := by
  have hka := (Keeps.refl (fun _ => False) wx).alloc o
  have h2 := h.keepF hka
  have hr := h2.rowA
  have hi : (a.row 23 :: b.row 30 :: c.row 24 :: R)[0]? = some (solo 23 1 n a.v a.hs) := by subst hn; rfl
  have hs3 := h2.sack.growSelfAt hi hG
  rw [grown_row hG] at hs3
  exact ⟨hs3, narrowO h2.keeps hG.keeps (fun q e => own_geO hr e)⟩
theorem Strew.pushB {n m g cap : Nat} {us : List Value} {o : Obj} (hn : b.hs.length = n) (h : Strew w wx a b c R) (hG : GrewZ (wx.alloc o) w' w.heap.size 30 1 n m b.v g cap b.hs us) : Strew w w' a ⟨.slice (some ⟨g, 0, none⟩) (n + m) cap, b.hs ++ us⟩ c R := by
  have hka := (Keeps.refl (fun _ => False) wx).alloc o
  have h2 := h.keepF hka
  have hr := h2.rowB
  have hi : (a.row 23 :: b.row 30 :: c.row 24 :: R)[1]? = some (solo 30 1 n b.v b.hs) := by subst hn; rfl
  have hs3 := h2.sack.growSelfAt hi hG
  rw [grown_row hG] at hs3
  exact ⟨hs3, narrowO h2.keeps hG.keeps (fun q e => own_geO hr e)⟩
theorem Strew.pushC {n m g cap : Nat} {us : List Value} {o : Obj} (hn : c.hs.length = n) (h : Strew w wx a b c R) (hG : GrewZ (wx.alloc o) w' w.heap.size 24 1 n m c.v g cap c.hs us) : Strew w w' a b ⟨.slice (some ⟨g, 0, none⟩) (n + m) cap, c.hs ++ us⟩ R := by
  have hka := (Keeps.refl (fun _ => False) wx).alloc o
  have h2 := h.keepF hka
  have hr := h2.rowC
  have hi : (a.row 23 :: b.row 30 :: c.row 24 :: R)[2]? = some (solo 24 1 n c.v c.hs) := by subst hn; rfl
  have hs3 := h2.sack.growSelfAt hi hG
  rw [grown_row hG] at hs3
  exact ⟨hs3, narrowO h2.keeps hG.keeps (fun q e => own_geO hr e)⟩
end
/-- What a round lays, each kind behind its own. -/
theorem perm_round {x q c p d m z r : Rowp} {A Bq C J : List Rowp} : ([x, q, c, p, d, m, z, r] ++ (A ++ (Bq ++ (C ++ J)))).Perm ((A ++ [z, m, d, p]) ++ ((Bq ++ [c, r]) ++ ((C ++ [q]) ++ (x :: J)))) := by
  classical
  rw [List.perm_iff_count]
  intro y
  simp only [List.count_append, List.count_cons, List.count_nil]
  ac_rfl
/-- A row that is laid aside. -/
theorem perm_down {x : Rowp} {A Bq C J : List Rowp} : (x :: (A ++ (Bq ++ (C ++ J)))).Perm (A ++ (Bq ++ (C ++ x :: J))) := by
  classical
  rw [List.perm_iff_count]
  intro y
  simp only [List.count_append, List.count_cons]
  ac_rfl
/-- What is right of a row that strewn asks for. -/
structure RowA (S : List FieldA) (R : List ValA) : Prop where
  make : makeB S R = (R, 0)
  in_ : InR R
  n : R.length = S.length
  enc : (encodeB S R).length ≤ 64
theorem RightA.rowV {S : List FieldA} {V N : List ValA} {b t s : Txt} (h : RightA S V N b t s) : RowA S V := ⟨h.makeV, h.inV, h.nV, by rw [h.encV]; exact h.nb⟩
theorem RightA.rowN {S : List FieldA} {V N : List ValA} {b t s : Txt} (h : RightA S V N b t s) : RowA S N := ⟨h.makeN, h.inN, h.nN, h.nz⟩
end Go.Proofs.YtklkhegeeglfbaaGreatDoor
