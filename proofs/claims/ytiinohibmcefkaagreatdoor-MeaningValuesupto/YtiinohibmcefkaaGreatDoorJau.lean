import Derived.Test.YtiinohibmcefkaaGreatDoorJat
import Derived.Test.YtiinohibmcefkaaGreatDoorJam
namespace Go.Proofs.YtiinohibmcefkaaGreatDoor
open Go.RowKit Go.Maps

/-- A number stored in a map. -/
theorem Cnt.put {w : World} {mb n : Nat} {c : Txt → Nat} (h : Cnt w mb n c) {nm : Txt} (hl : nm.length ≤ 1000) (hn : n ≤ 4611686018427387904) {v : Nat} (hv : v ≤ n) :
    ∃ w', (Instr.mapUpdate 94 (.map (some mb)) (str nm) (.int .i64 (v : Int))).run Tryz.prog w = .ok () w' ∧ Cnt w' mb (n + 1) (fun s => if s = nm then v else c s) ∧ Keeps (fun k => k = mb) w w' := by
  obtain ⟨D, h1, h2, h3⟩ := h
  have hw : (Lit.int .i64 (v : Int)).wf = true := by simp [Lit.wf, IntKind.min, IntKind.max, IntKind.signed, IntKind.bits]; omega
  obtain ⟨w', hrun, hm, ht⟩ := h1.store strKeyed Tryz.underlying94 (by unfold maxLen; omega) (keyStr hl) (plainElem_int Tryz.underlying3 hw)
  refine ⟨w', hrun, ⟨_, hm, fun s => ?_, fun s => ?_⟩, (Keeps.refl _ _).grown ht.grown (fun q e _ => by simpa using e.symm)⟩
  · show _ = DataW.lit (Lit.int .i64 ((if s = nm then v else c s : Nat) : Int))
    by_cases e : s = nm
    · subst e
      rw [atKey_put_same h1.isMap (isKeyStr _), if_pos rfl]
    · rw [atKey_put_other (fun h => e (by simpa using h)), if_neg e, h2 s]
  · show (if s = nm then v else c s) ≤ n + 1
    have := h3 s
    split <;> omega
/-- The places of the first k fields. -/
def placesTo (S : List FieldA) (k : Nat) (nm : Txt) : Nat := (idxF (S.take k) nm).getD 0
theorem places_step {S : List FieldA} (hS : (S.map FieldA.name).Nodup) {k : Nat} {f : FieldA} (hf : S[k]? = some f) (s : Txt) : placesTo S (k + 1) s = if s = f.name then k else placesTo S k s := by
  have hk : k < S.length := get_lt hf
  have ht : S.take (k + 1) = S.take k ++ [f] := take_snoc _ _ _ hf
  have hlen : (S.take k).length = k := by simp; omega
  unfold placesTo idxF
  rw [ht, List.findIdx?_append]
  by_cases e : s = f.name
  · subst e
    rw [if_pos rfl]
    have hno : (S.take k).findIdx? (fun g => decide (g.name = f.name)) = none := by
      rw [List.findIdx?_eq_none_iff]
      intro g hg
      rw [decide_eq_false_iff_not]
      intro he
      obtain ⟨i, hi, hgi⟩ := List.getElem_of_mem hg
      have hik : i < k := by omega
      have h1 : (S.map FieldA.name)[i]? = some f.name := by
        rw [List.getElem?_map, show S[i]? = some g by rw [← hgi]; rw [List.getElem_take]; exact List.getElem?_eq_getElem _]
        simp [he]
      have h2 : (S.map FieldA.name)[k]? = some f.name := by rw [List.getElem?_map, hf]; rfl
      obtain ⟨hi1, e1⟩ := List.getElem?_eq_some_iff.1 h1
      obtain ⟨hk1, e2⟩ := List.getElem?_eq_some_iff.1 h2
      exact (List.pairwise_iff_getElem.1 hS) i k hi1 hk1 hik (e1.trans e2.symm)
    rw [hno]
    simp [hlen]
  · rw [if_neg e]
    cases h : (S.take k).findIdx? (fun g => decide (g.name = s)) with
    | some i => rfl
    | none =>
      have : ([f].findIdx? fun g => decide (g.name = s)) = none := by simp [Ne.symm e]
      rw [this]
      rfl
theorem places_zero (S : List FieldA) (s : Txt) : placesTo S 0 s = 0 := by simp [placesTo, idxF]
theorem places_full (S : List FieldA) (s : Txt) : placesTo S S.length s = placeP S s := by simp [placesTo, placeP]
theorem field_short {S : List FieldA} (h : schemaB S = true) {k : Nat} {f : FieldA} (hf : S[k]? = some f) : f.name.length ≤ 1000 := by
  have := List.all_eq_true.1 (schemaB_ok h) f (List.mem_of_getElem? hf)
  unfold fieldOK at this
  simp only [Bool.and_eq_true] at this
  have := name_short this.1
  omega
theorem schema_nodup {S : List FieldA} (hS : schemaB S = true) : (S.map FieldA.name).Nodup := by
  unfold schemaB at hS
  simp only [Bool.and_eq_true, decide_eq_true_eq] at hS
  exact hS.1.2
/-- What newMaker answers. -/
def MadeM (S : List FieldA) (F : Nat → Prop) (w : World) (e : Ending) (w' : World) : Prop := ∃ m mb n tab zv, e = .returned (.pointer (some ⟨m, 0, none⟩)) ∧ MkAt S F w' m mb n tab zv ∧ Keeps (fun _ => False) w w'
set_option maxRecDepth 100000 in
set_option maxHeartbeats 4000000 in
theorem newMaker_v (S : List FieldA) (F : Nat → Prop) (sv : Value) (w : World) (hF : ∀ q, F q → q < w.heap.size) (hT : Types w) (hf : FldsAt w sv S) (hS : schemaB S = true) :
    Calls Tryz.prog 42 #[.agg #[sv]] w (MadeM S F w) := by
  obtain ⟨so, sc, rfl⟩ := RowAt.form hf
  obtain ⟨hl1, hl8⟩ := schemaB_len hS
  have hnd := schema_nodup hS
  have hzB : zeroB S = zeros S := by simp [zeroB, hS]
  obtain ⟨HB, hxb, hxc⟩ := boxed w #[.slice so S.length sc] 24
  have x0 := hxc 0 (.slice so S.length sc) rfl
  generalize hX0 : w.alloc (.cells #[.slice so S.length sc] 24) = X0 at *
  have hK1 : Keeps (fun _ => False) X0 (X0.alloc (.map #[] 0)) := (Keeps.refl _ _).alloc _
  have hC0 := Cnt.made X0
  have hs1 : (X0.alloc (.map #[] 0)).heap.size = X0.heap.size + 1 := by simp
  have x1 := (hK1.cell (o := 0) hxb id).trans x0
  generalize hX1 : X0.alloc (.map #[] 0) = X1 at *
  have HZ := hide (val_zero S (.slice so S.length sc) X1 (hT.keepF ((unhide HB).trans hK1)) (hf.keepF ((unhide HB).trans hK1)))
  rw [hzB] at HZ
  have HFA := hide hf
  have HK1 := hide ((unhide HB).trans hK1)
  have HC0 := hide hC0
  have HND := hide hnd
  have HSS := hide hS
  have hmm := @run_makeMap Tryz.prog
  have HFF := hide hF
  have hX0w : w.heap.size < X0.heap.size := hxb
  have HS1 := hide hs1
  clear hxc hT hf hnd hS hK1 hC0 hF hzB x0 hs1
  go_enter Tryz.func42, Tryz.ntmps42
  go_wp2_with fail
  refine (unhide HZ).mono ?_
  rintro e w1 ⟨zv, rfl, hzo, hk1⟩
  have HZO := hide hzo
  have HL1 := hide hk1
  obtain ⟨zo, zc, rfl⟩ := (rowAt_own hzo).form
  have HF1 : Hid (∀ q, (F q ∨ q = X0.heap.size) → q < w1.heap.size) := fun q hq => by
    have h1 := hk1.size
    have h2 := unhide HS1
    rcases hq with hq | hq
    · have h3 := unhide HFF q hq
      omega
    · omega
  clear hzo hk1 HZ
  go_wp2_with fail
  refine (operations_v S (fun q => F q ∨ q = X0.heap.size) w1 (unhide HF1)).mono ?_
  rintro e w2 ⟨tab, rfl, ht1, ht2, hops, hk2⟩
  have HOPS := hide hops
  have HL2 := hide hk2
  have hK3 : Keeps (fun _ => False) w2 (w2.alloc (.cells #[.map (some X0.heap.size), .slice zo (zeros S).length zc, .slice (some ⟨tab, 0, none⟩) 26 26] 123)) := (Keeps.refl _ _).alloc _
  obtain ⟨_, hyb, hyc⟩ := boxed w2 #[.map (some X0.heap.size), .slice zo (zeros S).length zc, .slice (some ⟨tab, 0, none⟩) 26 26] 123
  have y0 := hyc 0 (.map (some X0.heap.size)) rfl
  have y1 := hyc 1 (.slice zo (zeros S).length zc) rfl
  have y2 := hyc 2 (.slice (some ⟨tab, 0, none⟩) 26 26) rfl
  have hKX : Keeps (fun _ => False) X1 (w2.alloc (.cells #[.map (some X0.heap.size), .slice zo (zeros S).length zc, .slice (some ⟨tab, 0, none⟩) 26 26] 123)) := ((unhide HL1).trans hk2).trans hK3
  have x3 := (hKX.cell (o := 0) (by have := unhide HS1; omega) id).trans x1
  have h2s : X0.heap.size + 1 ≤ w2.heap.size := by have := unhide HS1; have := (unhide HL1).size; have := hk2.size; omega
  have HTS := hide (show w1.heap.size ≤ tab ∧ tab < w2.heap.size from ⟨ht1, ht2⟩)
  generalize hX3 : w2.alloc (.cells #[.map (some X0.heap.size), .slice zo (zeros S).length zc, .slice (some ⟨tab, 0, none⟩) 26 26] 123) = X3 at *
  have HCN := hide ((unhide HC0).keep hKX id)
  have HKX := hide hKX
  have HK3 := hide hK3
  have HY1 := hide y1
  have HY2 := hide y2
  have hmne : ¬ w2.heap.size = X0.heap.size := by omega
  clear hops hk2 hyc hKX hK3 x1 HC0 ht1 ht2 y1 y2 HF1
  go_wp2_with fail
  go_loopw [15] (fun i wr => ∃ (k : Nat), k ≤ S.length ∧ i = .int .i64 k ∧ Hid (Cnt wr X0.heap.size k (placesTo S k)) ∧ Keeps (fun q => q = X0.heap.size) X3 wr) (fun i _ => S.length - (intOf i).toNat)
  case atStart => exact ⟨0, Nat.zero_le _, rfl, (unhide HCN).congr (fun s => (places_zero S s).symm), Keeps.refl _ _⟩
  case round =>
    obtain ⟨k, hk, rfl, HC, hkp⟩ := hrel
    have HK := hide hkp
    have z0 := (hkp.cell (o := 0) hyb hmne).trans y0
    have z3 := (hkp.cell (o := 0) (by omega) (by omega)).trans x3
    clear hkp
    by_cases hlt : k < S.length
    · obtain ⟨f, hf⟩ : ∃ f, S[k]? = some f := ⟨_, List.getElem?_eq_getElem hlt⟩
      obtain ⟨b, off, cp, ef, hbl, hc⟩ := (unhide HFA).cells (by omega)
      simp at ef
      obtain ⟨rfl, rfl⟩ := ef
      have hKw : Keeps (fun q => q = X0.heap.size) w wr := ((unhide HK1).trans (unhide HKX)).any.trans (unhide HK)
      have c0 := (hKw.cell hbl (by omega)).trans (hc k f hf).1
      have c1 := (hKw.cell hbl (by omega)).trans (hc k f hf).2.1
      have c2 := (hKw.cell hbl (by omega)).trans (hc k f hf).2.2
      have i1 : (k : Int) < (S.length : Int) := by omega
      have i0 : (0 : Int) ≤ (k : Int) := by omega
      have hnm := field_short (unhide HSS) hf
      have HF := hide hf
      obtain ⟨HBf, hfb, hfc⟩ := boxed wr #[str f.name, .int .i64 f.type, .bool f.opt] 47
      have f0 := hfc 0 (str f.name) rfl
      have v0 := ((unhide HBf).cell (o := 0) (World.block_lt_of_cell? wr ⟨w2.heap.size, 0, none⟩ z0) id).trans z0
      have HCf := hide ((unhide HC).keep (unhide HBf) id)
      clear hc hf hfc hKw z3
      go_wp2_with fail
      generalize hY : wr.alloc (.cells #[str f.name, .int .i64 f.type, .bool f.opt] 47) = Y at *
      obtain ⟨Y2, hrun, hc2, hk2⟩ := ((unhide HCf).keep (Keeps.refl (fun _ => False) Y).drew id).put hnm (by omega) (Nat.le_refl k)
      have HC2 := hide hc2
      have HK2 := hide (((unhide HK).trans (unhide HBf).any).drew.trans hk2)
      clear hc2 hk2
      go_region
      go_wp2_with fail
      go_roundw
      case rel => exact ⟨k + 1, by omega, by go_num, (unhide HC2).congr (fun s => (places_step (unhide HND) (unhide HF) s).symm), unhide HK2⟩
      case measure => simp [intOf]; omega
    · obtain rfl : k = S.length := by omega
      have i1 : ¬ (S.length : Int) < (S.length : Int) := by omega
      clear z0 z3
      go_wp2_with fail
      go_ret
      have hkk := unhide HK
      have hl3 := unhide HK3
      have t1 := (unhide HTS).1
      have t2 := (unhide HTS).2
      have s1 := (unhide HL1).size
      have s2 := (unhide HL2).size
      have sS := unhide HS1
      have hlow : ∀ q, F q → q < w.heap.size := unhide HFF
      have hzown := unhide HZO
      have hzb : ∀ q, (Value.slice zo (zeros S).length zc).ownBlock = some q → X1.heap.size ≤ q := fun q e => (hzown.lt q e).1
      have hops : ∀ i : Nat, 7 ≤ i → i ≤ 25 → ∃ ov, wr.cell? ⟨tab, i, none⟩ = some ov ∧ OpF S F wr ov (kidsB i).toNat (opV i) := fun i a b => by
        obtain ⟨ov, ho, hof⟩ := unhide HOPS i a b
        refine ⟨ov, (hkk.cell (Nat.lt_of_lt_of_le t2 hl3.size) (by omega)).trans ((hl3.cell t2 id).trans ho), hof.shift (hl3.any.trans (hkk.mono (fun q _ e => Or.inr e))) (fun q h _ => Or.inl h)⟩
      have hz3 : ValsAt wr (.slice zo (zeros S).length zc) (zeros S) := by
        have h1 : ValsAt w1 (.slice zo (zeros S).length zc) (zeros S) := rowAt_own hzown
        have h2 := (h1.keepF (unhide HL2)).keepF hl3
        exact RowAt.kept h2 hkk (fun q e => by have := hzb q e; omega)
      refine ⟨w2.heap.size, X0.heap.size, S.length, tab, _, rfl, ⟨Nat.lt_of_lt_of_le hyb hkk.size, fun h => by have := hlow _ h; omega, (hkk.cell hyb hmne).trans y0, (hkk.cell hyb hmne).trans (unhide HY1), (hkk.cell hyb hmne).trans (unhide HY2), (unhide HC).congr (places_full S), fun h => by have := hlow _ h; omega, hz3, fun q e h => by have := hlow _ h; have := hzb q e; omega, Nat.lt_of_lt_of_le (Nat.lt_of_lt_of_le t2 hl3.size) hkk.size, fun h => by have := hlow _ h; omega, hops⟩, ?_⟩
      exact ((unhide HK1).trans (unhide HKX)).narrow hkk (fun q e => by omega)
end Go.Proofs.YtiinohibmcefkaaGreatDoor
namespace Go.Proofs.YtiinohibmcefkaaGreatDoor
open Go.RowKit Go.Maps

theorem Wth.keepG {S : List FieldA} {F : Nat → Prop} {w w' : World} {fv : Value} {f : Bool → List ValA → ValA} (h : Wth S F w fv f) (hk : Keeps F w w') : Wth S F w' fv f := by
  obtain ⟨k, cap, e, h1, h2, h3⟩ := h
  exact ⟨k, cap, e, h1, h2, fun W b u vals hW => h3 W b u vals (hk.trans hW)⟩
theorem Wth.mono {S : List FieldA} {F F' : Nat → Prop} {w : World} {fv : Value} {f : Bool → List ValA → ValA} (h : Wth S F w fv f) (hF : ∀ q, q < w.heap.size → F' q → F q) : Wth S F' w fv f := by
  obtain ⟨k, cap, e, h1, h2, h3⟩ := h
  exact ⟨k, cap, e, h1, h2, fun W b u vals hW => h3 W b u vals (hW.mono hF)⟩
theorem always_w (S : List FieldA) (G : Nat → Prop) (W : World) (hG : ∀ q, G q → q < W.heap.size) (k n : Int) (s : Txt) (hs : s.length ≤ 20) :
    Calls Tryz.prog 76 #[.agg #[.int .i64 k, .int .i64 n, str s]] W (Made S G W (fun _ _ => ⟨k, n, s⟩)) := always_v S G W hG ⟨k, n, s⟩ hs
theorem text_w (s : Txt) (w : World) : Calls Tryz.prog 79 #[str s] w fun e w' => e = .returned (.agg #[.int .i64 3, .int .i64 0, str s]) ∧ Keeps (fun _ => False) w w' := text_v s w
theorem Made.from {S : List FieldA} {G : Nat → Prop} {W W1 : World} {f g : Bool → List ValA → ValA} {e : Ending} {W' : World} (h : Made S G W1 f e W') (hk : Keeps (fun _ => False) W W1) (hg : ∀ b v, f b v = g b v) : Made S G W g e W' := by
  obtain ⟨fv, he, hw, h1⟩ := h
  exact ⟨fv, he, hw.congr hg, hk.trans h1⟩
set_option maxRecDepth 100000 in
set_option maxHeartbeats 1000000 in
theorem leaf1_v (S : List FieldA) (hS : 0 < S.length) (_hS8 : S.length ≤ 8) (n : Int) (s : Txt) (_hs : s.length ≤ 20) (W : World) (G : Nat → Prop) (m mb nn tab : Nat) (zv : Value) (ao : Option Addr) (kn cap : Nat) (hM : MkAt S G W m mb nn tab zv) (hG : ∀ q, G q → q < W.heap.size) :
    Calls Tryz.prog 43 #[.pointer (some ⟨m, 0, none⟩), exV 1 n s (.slice ao kn cap)] W (Made S G W (fun h vals => leafV S h vals 1 n s)) := by
  obtain ⟨HB, hb, hbc⟩ := boxed W #[.int .i64 1, .int .i64 n, str s, .slice ao kn cap] 27
  have b0 := hbc 0 (.int .i64 1) rfl
  have b1 := hbc 1 (.int .i64 n) rfl
  have b2 := hbc 2 (str s) rfl
  have b3 := hbc 3 (.slice ao kn cap) rfl
  have HM := hide (hM.keepF hS (unhide HB))
  have HG : ∀ W', Keeps (fun _ => False) W W' → Hid (∀ q, G q → q < W'.heap.size) := fun W' hk q hq => Nat.lt_of_lt_of_le (hG q hq) hk.size
  generalize hX : W.alloc (.cells #[.int .i64 1, .int .i64 n, str s, .slice ao kn cap] 27) = X at *
  clear hbc hM hG
  go_enter Tryz.func43, Tryz.ntmps43
  go_wp2_with fail
  refine (number_w _ _).mono ?_
  rintro e w1 ⟨rfl, hk1⟩
  have HK := hide ((unhide HB).trans hk1)
  clear hk1
  go_wp2_with fail
  refine (always_w S G _ (unhide (HG _ (unhide HK))) 1 n [] (by simp)).mono ?_
  rintro e w9 hm
  have HR : Hid (Made S G W (fun h vals => leafV S h vals 1 n s) e w9) := hm.from (unhide HK) (fun _ _ => by simp [leafV, numV])
  obtain ⟨fv, rfl, _⟩ := hm
  go_wp2_with fail
  go_ret
  exact unhide HR
set_option maxRecDepth 100000 in
set_option maxHeartbeats 1000000 in
theorem leaf2_v (S : List FieldA) (hS : 0 < S.length) (_hS8 : S.length ≤ 8) (n : Int) (s : Txt) (_hs : s.length ≤ 20) (W : World) (G : Nat → Prop) (m mb nn tab : Nat) (zv : Value) (ao : Option Addr) (kn cap : Nat) (hM : MkAt S G W m mb nn tab zv) (hG : ∀ q, G q → q < W.heap.size) :
    Calls Tryz.prog 43 #[.pointer (some ⟨m, 0, none⟩), exV 2 n s (.slice ao kn cap)] W (Made S G W (fun h vals => leafV S h vals 2 n s)) := by
  obtain ⟨HB, hb, hbc⟩ := boxed W #[.int .i64 2, .int .i64 n, str s, .slice ao kn cap] 27
  have b0 := hbc 0 (.int .i64 2) rfl
  have b1 := hbc 1 (.int .i64 n) rfl
  have b2 := hbc 2 (str s) rfl
  have b3 := hbc 3 (.slice ao kn cap) rfl
  have HM := hide (hM.keepF hS (unhide HB))
  have HG : ∀ W', Keeps (fun _ => False) W W' → Hid (∀ q, G q → q < W'.heap.size) := fun W' hk q hq => Nat.lt_of_lt_of_le (hG q hq) hk.size
  generalize hX : W.alloc (.cells #[.int .i64 2, .int .i64 n, str s, .slice ao kn cap] 27) = X at *
  clear hbc hM hG
  obtain ⟨q, hq⟩ : ∃ q : Int, q = if decide (n = 1) then 1 else 0 := ⟨_, rfl⟩
  have HQ := hide hq
  clear hq
  go_enter Tryz.func43, Tryz.ntmps43
  go_wp2_with fail
  refine (truth_w _ q (unhide HQ) _).mono ?_
  rintro e w1 ⟨rfl, hk1⟩
  have HK := hide ((unhide HB).trans hk1)
  clear hk1
  go_wp2_with fail
  refine (always_w S G _ (unhide (HG _ (unhide HK))) 2 q [] (by simp)).mono ?_
  rintro e w9 hm
  have HR : Hid (Made S G W (fun h vals => leafV S h vals 2 n s) e w9) := hm.from (unhide HK) (fun _ _ => by have := unhide HQ; simp [leafV, truV, this])
  obtain ⟨fv, rfl, _⟩ := hm
  go_wp2_with fail
  go_ret
  exact unhide HR
set_option maxRecDepth 100000 in
set_option maxHeartbeats 1000000 in
theorem leaf3_v (S : List FieldA) (hS : 0 < S.length) (_hS8 : S.length ≤ 8) (n : Int) (s : Txt) (_hs : s.length ≤ 20) (W : World) (G : Nat → Prop) (m mb nn tab : Nat) (zv : Value) (ao : Option Addr) (kn cap : Nat) (hM : MkAt S G W m mb nn tab zv) (hG : ∀ q, G q → q < W.heap.size) :
    Calls Tryz.prog 43 #[.pointer (some ⟨m, 0, none⟩), exV 3 n s (.slice ao kn cap)] W (Made S G W (fun h vals => leafV S h vals 3 n s)) := by
  obtain ⟨HB, hb, hbc⟩ := boxed W #[.int .i64 3, .int .i64 n, str s, .slice ao kn cap] 27
  have b0 := hbc 0 (.int .i64 3) rfl
  have b1 := hbc 1 (.int .i64 n) rfl
  have b2 := hbc 2 (str s) rfl
  have b3 := hbc 3 (.slice ao kn cap) rfl
  have HM := hide (hM.keepF hS (unhide HB))
  have HG : ∀ W', Keeps (fun _ => False) W W' → Hid (∀ q, G q → q < W'.heap.size) := fun W' hk q hq => Nat.lt_of_lt_of_le (hG q hq) hk.size
  generalize hX : W.alloc (.cells #[.int .i64 3, .int .i64 n, str s, .slice ao kn cap] 27) = X at *
  clear hbc hM hG
  go_enter Tryz.func43, Tryz.ntmps43
  go_wp2_with fail
  refine (text_w _ _).mono ?_
  rintro e w1 ⟨rfl, hk1⟩
  have HK := hide ((unhide HB).trans hk1)
  clear hk1
  go_wp2_with fail
  refine (always_w S G _ (unhide (HG _ (unhide HK))) 3 0 s _hs).mono ?_
  rintro e w9 hm
  have HR : Hid (Made S G W (fun h vals => leafV S h vals 3 n s) e w9) := hm.from (unhide HK) (fun _ _ => by simp [leafV, bytV])
  obtain ⟨fv, rfl, _⟩ := hm
  go_wp2_with fail
  go_ret
  exact unhide HR
set_option maxRecDepth 100000 in
set_option maxHeartbeats 1000000 in
theorem leaf4_v (S : List FieldA) (hS : 0 < S.length) (_hS8 : S.length ≤ 8) (n : Int) (s : Txt) (_hs : s.length ≤ 20) (W : World) (G : Nat → Prop) (m mb nn tab : Nat) (zv : Value) (ao : Option Addr) (kn cap : Nat) (hM : MkAt S G W m mb nn tab zv) (hG : ∀ q, G q → q < W.heap.size) :
    Calls Tryz.prog 43 #[.pointer (some ⟨m, 0, none⟩), exV 4 n s (.slice ao kn cap)] W (Made S G W (fun h vals => leafV S h vals 4 n s)) := by
  obtain ⟨HB, hb, hbc⟩ := boxed W #[.int .i64 4, .int .i64 n, str s, .slice ao kn cap] 27
  have b0 := hbc 0 (.int .i64 4) rfl
  have b1 := hbc 1 (.int .i64 n) rfl
  have b2 := hbc 2 (str s) rfl
  have b3 := hbc 3 (.slice ao kn cap) rfl
  have HM := hide (hM.keepF hS (unhide HB))
  have HG : ∀ W', Keeps (fun _ => False) W W' → Hid (∀ q, G q → q < W'.heap.size) := fun W' hk q hq => Nat.lt_of_lt_of_le (hG q hq) hk.size
  generalize hX : W.alloc (.cells #[.int .i64 4, .int .i64 n, str s, .slice ao kn cap] 27) = X at *
  clear hbc hM hG
  have HK := HB
  go_enter Tryz.func43, Tryz.ntmps43
  go_wp2_with fail
  refine (field_v S G _ m mb nn tab zv (unhide HM) hS _hS8 (unhide (HG _ (unhide HB))) s (by have := _hs; omega)).mono ?_
  rintro e w9 hm
  have HR : Hid (Made S G W (fun h vals => leafV S h vals 4 n s) e w9) := hm.from (unhide HK) (fun _ _ => by simp [leafV])
  obtain ⟨fv, rfl, _⟩ := hm
  go_wp2_with fail
  go_ret
  exact unhide HR
set_option maxRecDepth 100000 in
set_option maxHeartbeats 1000000 in
theorem leaf5_v (S : List FieldA) (hS : 0 < S.length) (_hS8 : S.length ≤ 8) (n : Int) (s : Txt) (_hs : s.length ≤ 20) (W : World) (G : Nat → Prop) (m mb nn tab : Nat) (zv : Value) (ao : Option Addr) (kn cap : Nat) (hM : MkAt S G W m mb nn tab zv) (hG : ∀ q, G q → q < W.heap.size) :
    Calls Tryz.prog 43 #[.pointer (some ⟨m, 0, none⟩), exV 5 n s (.slice ao kn cap)] W (Made S G W (fun h vals => leafV S h vals 5 n s)) := by
  obtain ⟨HB, hb, hbc⟩ := boxed W #[.int .i64 5, .int .i64 n, str s, .slice ao kn cap] 27
  have b0 := hbc 0 (.int .i64 5) rfl
  have b1 := hbc 1 (.int .i64 n) rfl
  have b2 := hbc 2 (str s) rfl
  have b3 := hbc 3 (.slice ao kn cap) rfl
  have HM := hide (hM.keepF hS (unhide HB))
  have HG : ∀ W', Keeps (fun _ => False) W W' → Hid (∀ q, G q → q < W'.heap.size) := fun W' hk q hq => Nat.lt_of_lt_of_le (hG q hq) hk.size
  generalize hX : W.alloc (.cells #[.int .i64 5, .int .i64 n, str s, .slice ao kn cap] 27) = X at *
  clear hbc hM hG
  have HK := HB
  go_enter Tryz.func43, Tryz.ntmps43
  go_wp2_with fail
  refine (hasM_v S G _ m mb nn tab zv (unhide HM) hS _hS8 (unhide (HG _ (unhide HB))) s (by have := _hs; omega)).mono ?_
  rintro e w9 hm
  have HR : Hid (Made S G W (fun h vals => leafV S h vals 5 n s) e w9) := hm.from (unhide HK) (fun _ _ => by simp [leafV])
  obtain ⟨fv, rfl, _⟩ := hm
  go_wp2_with fail
  go_ret
  exact unhide HR
set_option maxRecDepth 100000 in
set_option maxHeartbeats 1000000 in
theorem leaf6_v (S : List FieldA) (hS : 0 < S.length) (_hS8 : S.length ≤ 8) (n : Int) (s : Txt) (_hs : s.length ≤ 20) (W : World) (G : Nat → Prop) (m mb nn tab : Nat) (zv : Value) (ao : Option Addr) (kn cap : Nat) (hM : MkAt S G W m mb nn tab zv) (hG : ∀ q, G q → q < W.heap.size) :
    Calls Tryz.prog 43 #[.pointer (some ⟨m, 0, none⟩), exV 6 n s (.slice ao kn cap)] W (Made S G W (fun h vals => leafV S h vals 6 n s)) := by
  obtain ⟨HB, hb, hbc⟩ := boxed W #[.int .i64 6, .int .i64 n, str s, .slice ao kn cap] 27
  have b0 := hbc 0 (.int .i64 6) rfl
  have b1 := hbc 1 (.int .i64 n) rfl
  have b2 := hbc 2 (str s) rfl
  have b3 := hbc 3 (.slice ao kn cap) rfl
  have HM := hide (hM.keepF hS (unhide HB))
  have HG : ∀ W', Keeps (fun _ => False) W W' → Hid (∀ q, G q → q < W'.heap.size) := fun W' hk q hq => Nat.lt_of_lt_of_le (hG q hq) hk.size
  generalize hX : W.alloc (.cells #[.int .i64 6, .int .i64 n, str s, .slice ao kn cap] 27) = X at *
  clear hbc hM hG
  go_enter Tryz.func43, Tryz.ntmps43
  go_wp2_with fail
  go_ret
  exact ⟨_, rfl, (here1_v S G X).congr (fun _ _ => by simp [leafV]), unhide HB⟩
end Go.Proofs.YtiinohibmcefkaaGreatDoor
