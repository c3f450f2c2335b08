import Derived.Test.YtonodcmbbgpjjaaDoorJz
namespace Go.Proofs.YtonodcmbbgpjjaaDoor
open Go.RowKit Go.Maps
/-- The schema and the code of the counter that works asks. -/
def S1 : List FieldA := [⟨[110], 1, false⟩]
def L1 : List ValA := [⟨23, 0, []⟩, ⟨1, 5, []⟩, ⟨21, 0, []⟩]
def B1 : Txt := [23, 1, 10, 21, 0]
theorem ver1 : verifyA S1 L1 = (1, 0, 0) := by decide +kernel
theorem dec1 : decE S1 B1 = (L1, 0) := by decide +kernel
theorem row1 : rowE S1 false [] = 0 := by decide +kernel
theorem row2 : rowE S1 true [⟨1, 5, []⟩] = 0 := by decide +kernel
theorem play1 : playM S1 L1 3 0 ⟨[], false, []⟩ = ([(0, []), (1, []), (2, [⟨1, 5, []⟩])], ⟨[], true, [⟨1, 5, []⟩]⟩) := by kernel_rfl
theorem play2 : playM S1 L1 3 0 ⟨[], true, [⟨1, 5, []⟩]⟩ = ([(0, []), (1, []), (2, [⟨1, 5, []⟩])], ⟨[], true, [⟨1, 10, []⟩]⟩) := by kernel_rfl
end Go.Proofs.YtonodcmbbgpjjaaDoor
namespace Go.Proofs.YtonodcmbbgpjjaaDoor
open Go.RowKit Go.Maps
theorem Ran.ok {w w' : World} {T : List (Nat × List ValA) × MS} {e : Ending} (h : Ran w 0 0 T e w') : ∃ rv, e = .returned (.tuple #[.agg #[.bool T.2.here, rv, .int .i64 (T.1.length : Int), .int .i64 (deepD T.1 : Int)], .int .i64 0]) ∧ ValsAt w' rv T.2.vals ∧ (∀ q, rv.ownBlock = some q → w.heap.size ≤ q) ∧ Keeps (fun _ => False) w w' := by
  rcases h with ⟨h, _⟩ | ⟨_, _, h⟩
  · simp at h
  · exact h
theorem Traced.ok {w w' : World} {T : List (Nat × List ValA) × MS} {e : Ending} (h : Traced w 0 0 T e w') : ∃ sl, e = .returned (.tuple #[sl, .int .i64 0]) ∧ w'.ownsRow w.heap.size 46 2 sl T.1.length (stepCs T.1) ∧ Keeps (fun _ => False) w w' := by
  rcases h with ⟨h, _⟩ | ⟨_, _, h⟩
  · simp at h
  · exact h
theorem Execd.ok {w w' : World} {T : List (Nat × List ValA) × MS} {e : Ending} (h : Execd w 0 0 0 T e w') : ∃ rv, e = .returned (.tuple #[.agg #[.bool T.2.here, rv], .int .i64 0]) ∧ ValsAt w' rv T.2.vals ∧ Keeps (fun _ => False) w w' := by
  rcases h with ⟨h, _⟩ | ⟨_, _, _, h⟩
  · simp at h
  · exact h
theorem inR1 : InR L1 := by
  intro x hx
  simp only [L1, List.mem_cons, List.not_mem_nil, or_false] at hx
  rcases hx with rfl | rfl | rfl <;> decide
theorem flds1 (w : World) : FldsAt (w.alloc (.cells #[.string ⟨#[110]⟩, .int .i64 1, .bool false] 65)) (.slice (some ⟨w.heap.size, 0, none⟩) 1 1) S1 :=
  rowAt_own (World.ownsRow_lit (base := 0) (e := 65) (size := 3) w #[.string ⟨#[110]⟩, .int .i64 1, .bool false] 1 (Nat.zero_le _) (by unfold maxLen; omega) rfl)
theorem vals1 (w : World) : ValsAt (w.alloc (.cells #[.int .i64 23, .int .i64 0, .string ⟨#[]⟩, .int .i64 1, .int .i64 5, .string ⟨#[]⟩, .int .i64 21, .int .i64 0, .string ⟨#[]⟩] 59)) (.slice (some ⟨w.heap.size, 0, none⟩) 3 3) L1 :=
  rowAt_own (World.ownsRow_lit (base := 0) (e := 59) (size := 3) w #[.int .i64 23, .int .i64 0, .string ⟨#[]⟩, .int .i64 1, .int .i64 5, .string ⟨#[]⟩, .int .i64 21, .int .i64 0, .string ⟨#[]⟩] 3 (Nat.zero_le _) (by unfold maxLen; omega) rfl)
theorem bytes1 (w : World) : BytesAt (w.alloc (.cells #[.int .u8 23, .int .u8 1, .int .u8 10, .int .u8 21, .int .u8 0] 5)) (.slice (some ⟨w.heap.size, 0, none⟩) 5 5) B1 :=
  rowAt_own (World.ownsRow_lit (base := 0) (e := 5) (size := 1) w #[.int .u8 23, .int .u8 1, .int .u8 10, .int .u8 21, .int .u8 0] 5 (Nat.zero_le _) (by unfold maxLen; omega) rfl)
theorem nil_vals (w : World) : ValsAt w (.slice none 0 0) [] := ⟨⟨_, _, rfl⟩, fun h0 => by simp at h0, fun ao m cap e => by simp at e; omega⟩
set_option maxRecDepth 100000 in
set_option maxHeartbeats 4000000 in
theorem works_v (w : World) (hE : Env w) : Calls Tryd.prog 7 #[] w fun e w' => e = .returned (.bool true) ∧ Keeps (fun _ => False) w w' := by
  have k1 := kAlloc w (.cells #[.string ⟨#[110]⟩, .int .i64 1, .bool false] 65)
  have k2 := kAlloc (w.alloc (.cells #[.string ⟨#[110]⟩, .int .i64 1, .bool false] 65)) (.cells #[.slice (some ⟨w.heap.size, 0, none⟩) 1 1] 24)
  have k3 := kAlloc ((w.alloc (.cells #[.string ⟨#[110]⟩, .int .i64 1, .bool false] 65)).alloc (.cells #[.slice (some ⟨w.heap.size, 0, none⟩) 1 1] 24)) (.cells #[.int .i64 23, .int .i64 0, .string ⟨#[]⟩, .int .i64 1, .int .i64 5, .string ⟨#[]⟩, .int .i64 21, .int .i64 0, .string ⟨#[]⟩] 59)
  have hF := ((flds1 w).keepF k2).keepF k3
  have hI := vals1 ((w.alloc (.cells #[.string ⟨#[110]⟩, .int .i64 1, .bool false] 65)).alloc (.cells #[.slice (some ⟨w.heap.size, 0, none⟩) 1 1] 24))
  rw [show ((w.alloc (.cells #[.string ⟨#[110]⟩, .int .i64 1, .bool false] 65)).alloc (.cells #[.slice (some ⟨w.heap.size, 0, none⟩) 1 1] 24)).heap.size = w.heap.size + 1 + 1 by simp] at hI
  have hb := heap_alloc_new (w.alloc (.cells #[.string ⟨#[110]⟩, .int .i64 1, .bool false] 65)) (.cells #[.slice (some ⟨w.heap.size, 0, none⟩) 1 1] 24)
  rw [show (w.alloc (.cells #[.string ⟨#[110]⟩, .int .i64 1, .bool false] 65)).heap.size = w.heap.size + 1 by simp] at hb
  have hb2 := (k3.block _ (lt_of_block hb) id).trans hb
  have HK := hide ((k1.trans k2).trans k3)
  have HE := hide (hE.keepF (unhide HK))
  have HQ := hide (machRun_v S1 _ (.slice none 0 0) _ L1 false [] _ (unhide HE) hF hI inR1 (nil_vals _))
  rw [ver1, row1] at HQ
  rw [show L1.length = 3 from rfl, play1] at HQ
  have HF := hide hF
  have HI := hide hI
  have HB := hide hb2
  clear hF hI hb hb2 k1 k2 k3 hE
  go_enter Tryd.func7, Tryd.ntmps7
  go_wp2_with fail
  refine (unhide HQ).mono ?_
  rintro e w1 hran
  obtain ⟨rv, rfl, hv1, hnw, hk1⟩ := hran.ok
  obtain ⟨xo, xc, rfl⟩ := RowAt.form hv1
  have hb1 := (hk1.block _ (lt_of_block (unhide HB)) id).trans (unhide HB)
  have c1 : w1.cell? ⟨w.heap.size + 1, 0, none⟩ = some (.slice (some ⟨w.heap.size, 0, none⟩) 1 1) := (cell_of_blk hb1 _).trans rfl
  have p1 := lt_of_block hb1
  have k5 := kAlloc w1 (.cells #[.bool true, .slice xo 1 xc, .int .i64 3, .int .i64 1] 34)
  have HKW := hide ((unhide HK).trans (hk1.trans k5))
  have HF1 := hide (((unhide HF).keepF hk1).keepF k5)
  have HI1 := hide (((unhide HI).keepF hk1).keepF k5)
  have HV1 := hide (hv1.keepF k5)
  have HE1 := hide (((unhide HE).keepF hk1).keepF k5)
  have HQ2 := hide (machTrace_v S1 _ _ _ L1 true [⟨1, 5, []⟩] _ (unhide HE1) (unhide HF1) (unhide HI1) inR1 (unhide HV1))
  rw [ver1, row2, show L1.length = 3 from rfl, play2] at HQ2
  have hA := heap_alloc_new w1 (.cells #[.bool true, .slice xo 1 xc, .int .i64 3, .int .i64 1] 34)
  have HA := hide hA
  clear hA k5 hk1 hv1 hnw hran HF HI HB HE HQ hb1 HK
  simp only [List.length_cons, List.length_nil, Nat.zero_add] at *
  go_wp2_with fail
  refine (unhide HQ2).mono ?_
  rintro e w2 htr
  obtain ⟨sl, rfl, ho2, hk2⟩ := htr.ok
  obtain ⟨yo, yc, rfl⟩ := RowAt.form (rowAt_own ho2)
  have k6 := hk2.alloc (.cells #[.int .u8 23, .int .u8 1, .int .u8 10, .int .u8 21, .int .u8 0] 5)
  have HKX := hide ((unhide HKW).trans k6)
  have HF2 := hide ((unhide HF1).keepF k6)
  have HV2 := hide ((unhide HV1).keepF k6)
  have HE2 := hide ((unhide HE1).keepF k6)
  have HQ3 := hide (machExec_v S1 _ _ _ B1 true [⟨1, 5, []⟩] _ (unhide HE2) (unhide HF2) (bytes1 w2) (unhide HV2))
  rw [dec1] at HQ3
  simp only at HQ3
  rw [ver1, row2, show L1.length = 3 from rfl, play2] at HQ3
  have hA2 := (k6.block _ (lt_of_block (unhide HA)) id).trans (unhide HA)
  have hb2 : (w2.alloc (.cells #[.int .u8 23, .int .u8 1, .int .u8 10, .int .u8 21, .int .u8 0] 5)).cell? ⟨w.heap.size + 1, 0, none⟩ = some (.slice (some ⟨w.heap.size, 0, none⟩) 1 1) := (k6.cell (by simp; omega) id).trans (((kAlloc w1 _).cell p1 id).trans c1)
  have c2 : w2.cell? ⟨w.heap.size + 1, 0, none⟩ = some (.slice (some ⟨w.heap.size, 0, none⟩) 1 1) := (hk2.cell (by simp; omega) id).trans (((kAlloc w1 _).cell p1 id).trans c1)
  have hA1 := (hk2.block _ (lt_of_block (unhide HA)) id).trans (unhide HA)
  have a0 : w2.cell? ⟨w1.heap.size, 0, none⟩ = some (.bool true) := (cell_of_blk hA1 _).trans rfl
  have a1 : w2.cell? ⟨w1.heap.size, 1, none⟩ = some (.slice xo 1 xc) := (cell_of_blk hA1 _).trans rfl
  have p2 : w.heap.size + 1 < w2.heap.size := World.block_lt_of_cell? w2 ⟨w.heap.size + 1, 0, none⟩ c2
  have p3 : w1.heap.size < w2.heap.size := lt_of_block hA1
  have HA2 := hide hA2
  clear k6 hk2 ho2 htr HQ2 HKW HF1 HI1 HE1 HV1 HA hA1 hA2 hb2
  simp only [List.length_cons, List.length_nil, Nat.zero_add] at *
  go_wp2_with fail
  refine (unhide HQ3).mono ?_
  rintro e w3 hex
  obtain ⟨rv3, rfl, hv3, hk3⟩ := hex.ok
  obtain ⟨zo, zc, rfl⟩ := RowAt.form hv3
  have hA3 := (hk3.block _ (lt_of_block (unhide HA2)) id).trans (unhide HA2)
  have b0 : w3.cell? ⟨w1.heap.size, 0, none⟩ = some (.bool true) := (cell_of_blk hA3 _).trans rfl
  have b1 : w3.cell? ⟨w1.heap.size, 1, none⟩ = some (.slice xo 1 xc) := (cell_of_blk hA3 _).trans rfl
  have b2 : w3.cell? ⟨w1.heap.size, 2, none⟩ = some (.int .i64 3) := (cell_of_blk hA3 _).trans rfl
  have b3 : w3.cell? ⟨w1.heap.size, 3, none⟩ = some (.int .i64 1) := (cell_of_blk hA3 _).trans rfl
  have p4 : w1.heap.size < w3.heap.size := lt_of_block hA3
  obtain ⟨g1, o1, q1, e1, hl1, hc1⟩ := ((unhide HV2).keepF hk3).cells (by simp)
  simp only [Value.slice.injEq] at e1
  obtain ⟨rfl, _, rfl⟩ := e1
  have d1 : w3.cell? ⟨g1, o1 + 1, none⟩ = some (.int .i64 5) := by simpa using (hc1 0 ⟨1, 5, []⟩ rfl).2.1
  obtain ⟨g2, o2, q2, e2, hl2, hc2⟩ := hv3.cells (by simp)
  simp only [Value.slice.injEq] at e2
  obtain ⟨rfl, _, rfl⟩ := e2
  have d2 : w3.cell? ⟨g2, o2 + 1, none⟩ = some (.int .i64 10) := by simpa using (hc2 0 ⟨1, 10, []⟩ rfl).2.1
  have HKZ := hide ((unhide HKX).trans hk3)
  clear hc1 hc2 hA3 hk3 hv3 HQ3 HV2 HA2 HF2 HE2 hex HKX
  simp only [List.length_cons, List.length_nil, Nat.zero_add] at *
  go_wp2_with fail
  go_ret
  exact ⟨rfl, (unhide HKZ).alloc _⟩
end Go.Proofs.YtonodcmbbgpjjaaDoor
namespace Go.Proofs.YtonodcmbbgpjjaaDoor
open Go.RowKit Go.Maps
/-- A row of the schema, by the program. -/
def rowB (S : List FieldA) (hh : Bool) (vals : List ValA) : Bool := if hh then decide (errR S vals = 0) else decide (vals = []) && decide (errS S = 0)
set_option maxRecDepth 100000 in
set_option maxHeartbeats 2000000 in
theorem rowOf_v (S : List FieldA) (sv u : Value) (hh : Bool) (vals : List ValA) (w : World) (hT : Types w) (hS : FldsAt w sv S) (hr : ValsAt w u vals) :
    Calls Tryd.prog 11 #[.agg #[sv], .agg #[.bool hh, u]] w fun e w' => e = .returned (.bool (rowB S hh vals)) ∧ Keeps (fun _ => False) w w' := by
  obtain ⟨so, sc, rfl⟩ := RowAt.form hS
  obtain ⟨uo, uc, rfl⟩ := RowAt.form hr
  have HKA := hide ((kAlloc w (.cells #[.slice so S.length sc] 24)).alloc (.cells #[.bool hh, .slice uo vals.length uc] 28))
  have HQ := hide (val_check S _ vals _ _ (hT.keepF (unhide HKA)) (hS.keepF (unhide HKA)) (hr.keepF (unhide HKA)))
  have HC := hide (checkSchema_v S _ _ (hT.keepF (unhide HKA)) (hS.keepF (unhide HKA)))
  have HE : Hid (rowB S hh vals = if hh then decide (errR S vals = 0) else decide (vals = []) && decide (errS S = 0)) := rfl
  generalize rowB S hh vals = R at *
  clear hT hS hr
  cases hh with
  | true =>
    rw [if_pos rfl] at HE
    generalize errR S vals = X at *
    go_enter Tryd.func11, Tryd.ntmps11
    go_wp2_with fail
    refine (unhide HQ).mono ?_
    rintro e w1 ⟨rfl, hk1⟩
    have HK := hide ((unhide HKA).trans hk1)
    clear hk1 HQ HKA HC
    go_wp2_with fail
    go_ret
    exact ⟨ret_bool ((unhide HE).symm ▸ rfl), unhide HK⟩
  | false =>
    rw [if_neg (by decide)] at HE
    clear HQ
    cases vals with
    | nil =>
      generalize errS S = X at *
      go_enter Tryd.func11, Tryd.ntmps11
      go_wp2_with fail
      refine (unhide HC).mono ?_
      rintro e w1 ⟨rfl, hk1⟩
      have HK := hide ((unhide HKA).trans hk1)
      clear hk1 HKA HC
      go_wp2_with fail
      go_ret
      exact ⟨ret_bool (by rw [unhide HE]; simp; rfl), unhide HK⟩
    | cons a r =>
      generalize hN : (a :: r).length = N at *
      have hN1 : ((N : Int) == 0) = false := by rw [← hN]; simp; omega
      clear HC
      go_enter Tryd.func11, Tryd.ntmps11
      go_wp2_with fail
      go_ret
      exact ⟨ret_bool (by rw [unhide HE]; simp), unhide HKA⟩
end Go.Proofs.YtonodcmbbgpjjaaDoor
namespace Go.Proofs.YtonodcmbbgpjjaaDoor
open Go.RowKit Go.Maps
/-- Steps that rise, each at a place that a run may come by, with the stack's types of that place. -/
def okSteps (hv : List (Bool × List Int)) (N : Nat) : Int → List (Nat × List ValA) → Prop
  | _, [] => True
  | last, z :: r => last < z.1 ∧ z.1 < N ∧ hv[z.1]? = some (true, z.2.map ValA.kind) ∧ z.2.length ≤ 16 ∧ okSteps hv N z.1 r
theorem okSteps.lower {hv : List (Bool × List Int)} {N : Nat} {a b : Int} (h : a ≤ b) : ∀ {D : List (Nat × List ValA)}, okSteps hv N b D → okSteps hv N a D
  | [], _ => trivial
  | z :: r, q => ⟨by have := q.1; omega, q.2⟩
/-- Progress and preservation, step by step. -/
theorem play_ok {S : List FieldA} {l : List ValA} {hv : List (Bool × List Int)} (hH : HvOK S l hv) (hSK : ∀ f ∈ S, isK f.type) (hF : ∀ i ∈ l, formB i = 0 ∧ rightF S i = true) (hJ : ∀ k i, l[k]? = some i → (opA i.kind).opd = 6 → k + 1 + i.n.toNat ≤ l.length) :
    ∀ (fu k : Nat) (m : MS) (ts : List Int), hv[k]? = some (true, ts) → TyM S m ts → k ≤ l.length → l.length ≤ k + fu →
      okSteps hv l.length ((k : Int) - 1) (playM S l fu k m).1 ∧ TyM S (playM S l fu k m).2 [] ∧ (k < l.length → ∃ r, (playM S l fu k m).1 = (k, m.st) :: r)
  | 0, k, m, ts, hh, hM, hk, hf => by
    have hkl : k = l.length := by omega
    subst hkl
    have := hH.last ts hh
    subst this
    exact ⟨trivial, hM, fun h => absurd h (Nat.lt_irrefl _)⟩
  | f + 1, k, m, ts, hh, hM, hk, hf => by
    by_cases hlt : k < l.length
    · obtain ⟨x, ts', hx, hb⟩ := hH.beh k ts hlt hh
      obtain ⟨hff, hrr⟩ := hF x (List.mem_of_getElem? hx)
      obtain ⟨n1, n2, n3⟩ := next_ok (m := m) hH hJ hx hh hb
      have ih := play_ok hH hSK hF hJ f (nextM x k m) (stepM S x m) ts' n3 (step_ty hSK hff hrr hM hb) n2 (by omega)
      rw [playM_step hx]
      refine ⟨⟨by omega, hlt, by rw [hM.ty]; exact hh, ?_, ih.1.lower (by omega)⟩, ih.2.1, fun _ => ⟨_, rfl⟩⟩
      have := (hH.small k _ hh).1
      rw [← hM.ty] at this
      simpa using this
    · have hkl : k = l.length := by omega
      subst hkl
      have := hH.last ts hh
      subst this
      rw [playM_end (Nat.le_refl _)]
      exact ⟨trivial, hM, fun h => absurd h (Nat.lt_irrefl _)⟩
theorem okSteps.deep {hv : List (Bool × List Int)} {N : Nat} : ∀ {D : List (Nat × List ValA)} {a : Int} {d : Nat}, okSteps hv N a D → d ≤ deepH hv → D.foldl (fun d z => max d z.2.length) d ≤ deepH hv
  | [], _, _, _, h => h
  | z :: r, a, d, q, h => by
    have := deepH_le q.2.2.1
    simp only [List.length_map] at this
    rw [List.foldl_cons]
    exact okSteps.deep (D := r) (a := (z.1 : Int)) (d := max d z.2.length) q.2.2.2.2 (Nat.max_le.2 ⟨h, this⟩)
end Go.Proofs.YtonodcmbbgpjjaaDoor
