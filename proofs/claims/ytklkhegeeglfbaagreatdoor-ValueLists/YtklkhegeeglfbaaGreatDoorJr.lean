import Derived.Test.YtklkhegeeglfbaaGreatDoorJzad
import Derived.Test.YtklkhegeeglfbaaGreatDoorJn
import Derived.Test.YtklkhegeeglfbaaGreatDoorJc
import Derived.Laws.CopyOwn
namespace Go.Proofs.YtklkhegeeglfbaaGreatDoor
open Go.RowKit Go.Maps

/-- Make's record, before it is looked at. -/
def madeR (l : List FieldA) (vs : List ValA) : List ValA := vs ++ zeros (l.drop vs.length)
def makeB (l : List FieldA) (vs : List ValA) : List ValA × Int :=
  if schemaB l = false then ([], 60) else if l.length < vs.length then ([], 61) else if errR l (madeR l vs) = 0 then (madeR l vs, 0) else ([], errR l (madeR l vs))
def madeTo (l : List FieldA) (vs : List ValA) (k : Nat) : List ValA := vs ++ zeros ((l.take k).drop vs.length)
theorem madeTo_snoc {l : List FieldA} {vs : List ValA} {k : Nat} {f : FieldA} (h : l[k]? = some f) (hk : vs.length ≤ k) : madeTo l vs (k + 1) = madeTo l vs k ++ [zeroV f] := by
  unfold madeTo
  have hl := get_lt h
  rw [take_snoc _ _ _ h, List.drop_append_of_le_length (by rw [List.length_take]; omega), zeros_snoc, List.append_assoc]
theorem madeTo_length {l : List FieldA} {vs : List ValA} {k : Nat} (hk : vs.length ≤ k) (hl : k ≤ l.length) : (madeTo l vs k).length = k := by
  unfold madeTo
  simp [zeros_length]
  omega

end Go.Proofs.YtklkhegeeglfbaaGreatDoor
namespace Go.Proofs.YtklkhegeeglfbaaGreatDoor
open Go.RowKit Go.Maps

theorem fits_zero {f : FieldA} (h : fieldOK f = true) : fitsB f (zeroV f) = true := by
  rcases type_of h with e | e | e <;> cases ho : f.opt <;> simp [fitsB, zeroV, ho, e]
theorem zip_zeros {l : List FieldA} (h : l.all fieldOK = true) : (l.zip (zeros l)).all (fun p => fitsB p.1 p.2) = true := by
  induction l with
  | nil => rfl
  | cons f r ih =>
    simp only [List.all_cons, Bool.and_eq_true] at h
    simp only [zeros, List.map_cons, List.zip_cons_cons, List.all_cons, fits_zero h.1, Bool.true_and]
    exact ih h.2
theorem fit_made {l : List FieldA} {vs : List ValA} (hok : l.all fieldOK = true) (h : vs.length ≤ l.length) : fitAll l (madeR l vs) = fitAll l vs := by
  unfold fitAll madeR
  have e1 : l.zip (vs ++ zeros (l.drop vs.length)) = (l.take vs.length).zip vs ++ (l.drop vs.length).zip (zeros (l.drop vs.length)) := by
    conv => lhs; arg 1; rw [← List.take_append_drop vs.length l]
    rw [List.zip_append (by rw [List.length_take]; omega)]
  have e2 : l.zip vs = (l.take vs.length).zip vs := by
    conv => lhs; arg 1; rw [← List.take_append_drop vs.length l]
    conv => lhs; arg 2; rw [← List.append_nil vs]
    rw [List.zip_append (by rw [List.length_take]; omega)]
    simp
  rw [e1, e2, List.all_append, zip_zeros, Bool.and_true]
  rw [List.all_eq_true] at hok ⊢
  exact fun x hx => hok x (List.mem_of_mem_drop hx)
theorem made_length {l : List FieldA} {vs : List ValA} (h : vs.length ≤ l.length) : (madeR l vs).length = l.length := by
  unfold madeR
  rw [List.length_append, zeros_length, List.length_drop]
  omega
theorem makeB_eq {l : List FieldA} {vs : List ValA} (hs : schemaB l = true) (h : vs.length ≤ l.length) : makeB l vs = if fitAll l vs then (madeR l vs, 0) else ([], 61) := by
  have e : errR l (madeR l vs) = if fitAll l vs then 0 else 61 := by
    unfold errR
    rw [if_pos hs]
    unfold recB
    rw [made_length h, fit_made (schemaB_ok hs) h]
    simp
  unfold makeB
  rw [if_neg (by simp [hs]), if_neg (by omega), e]
  cases fitAll l vs <;> simp
theorem made_cells {l : List FieldA} {vs : List ValA} (h : vs.length ≤ l.length) : vcs vs ++ (vcs (zeros l)).drop (vs.length * 3) = vcs (madeR l vs) := by
  have e : vcs (zeros l) = vcs (zeros (l.take vs.length)) ++ vcs (zeros (l.drop vs.length)) := by
    unfold vcs zeros
    rw [← List.flatMap_append, ← List.map_append, List.take_append_drop]
  have e2 : (vcs (zeros (l.take vs.length))).length = vs.length * 3 := by rw [vcs_length, zeros_length, List.length_take, Nat.min_eq_left h]
  rw [e, ← e2, List.drop_left]
  unfold madeR vcs
  rw [List.flatMap_append]

theorem run_copy3 {P : Program} (w : World) (dT sT ty elem : TypeId) (g dLen dCap : Nat) (a : Addr) (sLen sCap : Nat) (cur : Array Value) (t : TypeId) (cs : List Value)
    (hu : P.underlying dT = some (.slice elem)) (hs : (P.info? elem).map (·.size) = some 3)
    (hg : w.heap[g]? = some (.cells cur t (0, 0))) (hn : cs.length = Nat.min sLen dLen * 3)
    (hsrc : ∀ j v, cs[j]? = some v → w.cell? (a.add j) = some v) (hfit : cs.length ≤ cur.size) (h1 : ∀ v ∈ cs, v.oneCell' = true) :
    (Builtin.copy_ #[dT, sT] ty #[.slice (some ⟨g, 0, none⟩) dLen dCap, .slice (some a) sLen sCap]).run P w =
      .ok (goInt (Nat.min sLen dLen)) (w.setRow g (cs ++ cur.toList.drop cs.length).toArray) := by
  have hl := run_loadCells_list (P := P) w a cs hsrc
  have hst := run_storeCells_at P g 0 t cs 0 cur w hg (by simpa using hfit) h1
  cases hq : P.info? elem with
  | none => simp [hq] at hs
  | some i =>
    have hi : i.size = 3 := by simpa [hq] using hs
    rw [hn] at hl
    simp only [Nat.zero_add, List.take_zero, List.nil_append, Nat.add_zero] at hst
    simp [Builtin.copy_, run_underlying hu, Builtin.lenOf, Builtin.firstCells, sizeOf, typeInfo, hq, hi, hl, hst]
theorem run_copy3_none {P : Program} (w : World) (dT sT ty elem : TypeId) (d a : Option Addr) (dLen dCap sLen sCap : Nat) (hu : P.underlying dT = some (.slice elem)) (hs : (P.info? elem).map (·.size) = some 3) (hn : Nat.min sLen dLen = 0) :
    (Builtin.copy_ #[dT, sT] ty #[.slice d dLen dCap, .slice a sLen sCap]).run P w = .ok (goInt 0) w := by
  cases hq : P.info? elem with
  | none => simp [hq] at hs
  | some i =>
    have hl : ∀ (x : Addr), (loadCells x 0).run P w = .ok #[] w := fun x => by simpa using run_loadCells_list (P := P) w x [] (by simp)
    cases d <;> cases a <;> simp [Builtin.copy_, run_underlying hu, Builtin.lenOf, Builtin.firstCells, sizeOf, typeInfo, hq, hn, storeCells, hl]
/-- A row of values is copied over the head of another. -/
theorem copy_vals {w : World} {g n m cap : Nat} {ao : Option Addr} {u : Value} {zs vs : List ValA} (hg : w.heap[g]? = some (.cells (vcs zs).toArray 40 (0, 0))) (hz : zs.length = n) (hm : vs.length = m) (hle : m ≤ n) (hu : ValsAt w u vs) (hue : u = .slice ao m cap) :
    ∃ w', (∀ ty, (Builtin.copy_ #[23, 23] ty #[.slice (some ⟨g, 0, none⟩) n n, u]).run Tryz.prog w = .ok (goInt m) w') ∧ w'.heap[g]? = some (.cells (vcs vs ++ (vcs zs).drop (m * 3)).toArray 40 (0, 0)) ∧ Keeps (fun q => q = g) w w' := by
  subst hue
  have hmin : Nat.min m n = m := Nat.min_eq_left hle
  have hsz : (Tryz.prog.info? 40).map (·.size) = some 3 := by kernel_rfl
  by_cases h0 : m = 0
  · subst h0
    refine ⟨w, fun ty => run_copy3_none w 23 23 ty 40 _ _ _ _ _ _ Tryz.underlying23 hsz hmin, ?_, Keeps.refl _ _⟩
    obtain rfl : vs = [] := List.eq_nil_of_length_eq_zero hm
    simpa [vcs] using hg
  · obtain ⟨b, off, cap', e, hb, hc⟩ := RowAt.cells hu (by omega)
    simp at e
    obtain ⟨rfl, _⟩ := e
    have hr := fun ty => run_copy3 (P := Tryz.prog) w 23 23 ty 40 g n n ⟨b, off, none⟩ m cap (vcs zs).toArray 40 (vcs vs) Tryz.underlying23 hsz hg (by rw [vcs_length, hm, hmin]) (fun j v hv => by rw [Addr.add_lit]; exact hc j v hv) (by simp only [List.size_toArray, vcs_length]; omega) (fun v hv => by
      unfold vcs at hv
      obtain ⟨x, _, hx⟩ := List.mem_flatMap.1 hv
      simp only [ValA.cs, List.mem_cons, List.not_mem_nil, or_false] at hx
      rcases hx with rfl | rfl | rfl <;> rfl)
    simp only [hmin] at hr
    refine ⟨_, hr, ?_, ?_⟩
    · rw [setRow_heap w g _ _ 40 (0, 0) hg, vcs_length, hm]
    · exact ⟨rfl, rfl, rfl, by simp [World.setRow], fun k hk hF => setRow_other w g k _ hF⟩

set_option maxRecDepth 100000 in
set_option maxHeartbeats 2000000 in
theorem val_make (l : List FieldA) (v : Value) (vs : List ValA) (u : Value) (w : World) (hT : Types w) (h : FldsAt w v l) (hr : ValsAt w u vs) :
    Calls Tryz.prog 14 #[.agg #[v], u] w fun e w' => ∃ v', e = .returned (.tuple #[v', .int .i64 (makeB l vs).2]) ∧ w'.ownsRow w.heap.size 40 3 v' (makeB l vs).1.length (vcs (makeB l vs).1) ∧ Keeps (fun _ => False) w w' := by
  obtain ⟨ao, cap, rfl⟩ := RowAt.form h
  obtain ⟨bo, cbp, rfl⟩ := RowAt.form hr
  obtain ⟨HB, hb, hbc⟩ := boxed w #[.slice ao l.length cap] 26
  have hp := hbc 0 (.slice ao l.length cap) rfl
  have HF := hide (h.keepF (unhide HB))
  have HV := hide (hr.keepF (unhide HB))
  have HS := hide (checkSchema_v l _ _ (hT.keepF (unhide HB)) (unhide HF))
  obtain ⟨D, HD⟩ : ∃ D, Hid (makeB l vs = D) := ⟨_, rfl⟩
  rw [unhide HD]
  clear hbc h hr hT
  go_enter Tryz.func14, Tryz.ntmps14
  go_wp2_with fail
  refine (unhide HS).mono ?_
  rintro e w2 ⟨rfl, hk2⟩
  have hp2 := (hk2.cell (o := 0) hb id).trans hp
  have hb2 : w.heap.size < w2.heap.size := Nat.lt_of_lt_of_le hb hk2.size
  have HF2 := hide ((unhide HF).keepF hk2)
  have HV2 := hide ((unhide HV).keepF hk2)
  have HB2 := hide ((unhide HB).trans hk2)
  clear HS HF HV HB hk2 hp hb
  generalize w.alloc (.cells #[.slice ao l.length cap] 26) = w1 at *
  rcases errS_eq l with ⟨hs, he⟩ | ⟨hs, he⟩
  · rw [he]
    have hl8 := (schemaB_len hs).2
    by_cases hlen : l.length < vs.length
    · have HE : Hid (D = ([], 61)) := by show _ = _; rw [← unhide HD]; unfold makeB; rw [if_neg (by simp [hs]), if_pos hlen]
      have hlen' : (l.length : Int) < (vs.length : Int) := by omega
      clear hlen hs he
      go_wp2_with fail
      go_ret2
      refine ⟨.slice none 0 0, by rw [unhide HE]; rfl, ?_, unhide HB2⟩
      rw [unhide HE]
      exact World.ownsRow_nil _ w.heap.size 40 3
    · have hlen' : ¬ (l.length : Int) < (vs.length : Int) := by omega
      have HQ := hide (fit_v l _ vs _ _ (unhide HF2) (unhide HV2) hl8 (by omega) (schemaB_ok hs))
      have HM := hide (makeB_eq hs (show vs.length ≤ l.length by omega))
      have HC := hide (made_cells (show vs.length ≤ l.length by omega))
      have HML := hide (made_length (show vs.length ≤ l.length by omega))
      have hvl : vs.length ≤ l.length := by omega
      clear hs he hlen
      generalize fitAll l vs = F at *
      go_wp2_with fail
      refine (unhide HQ).mono ?_
      rintro e w4 ⟨rfl, hk4⟩
      have K4 := hide ((unhide HB2).trans hk4)
      have hp4 := (hk4.cell (o := 0) hb2 id).trans hp2
      have HF4 := hide ((unhide HF2).keepF hk4)
      have HV4 := hide ((unhide HV2).keepF hk4)
      clear hk4 HQ HF2 HV2 hp2
      cases F with
      | false =>
        have HE : Hid (D = ([], 61)) := by show _ = _; rw [← unhide HD, unhide HM]; rfl
        go_wp2_with fail
        go_ret2
        refine ⟨.slice none 0 0, by rw [unhide HE]; rfl, ?_, unhide K4⟩
        rw [unhide HE]
        exact World.ownsRow_nil _ w.heap.size 40 3
      | true =>
        have HE : Hid (D = (madeR l vs, 0)) := by show _ = _; rw [← unhide HD, unhide HM]; rfl
        have HZ := hide (zero_v l _ _ (unhide HF4) hl8)
        go_wp2_with fail
        refine (unhide HZ).mono ?_
        rintro e w5 ⟨g, rfl, hg, hblk, hk5⟩
        have hgs : w.heap.size ≤ g := Nat.le_trans (unhide K4).size hg
        obtain ⟨w6, hcp, hb6, hk6⟩ := copy_vals hblk (zeros_length l) rfl hvl ((unhide HV4).keepF hk5) rfl
        have HB6 := hide hb6
        have K6 := hide (((unhide K4).trans hk5).narrow (F := fun q => w.heap.size ≤ q) (hk6.mono (G := fun q => w.heap.size ≤ q) (fun q _ e => by omega)) (fun q hq => hq))
        clear hg hblk hk5 hb6 hk6 HZ
        go_wp2_with fail
        go_ret2
        refine ⟨.slice (some ⟨g, 0, none⟩) l.length l.length, by rw [unhide HE]; rfl, ?_, unhide K6⟩
        rw [unhide HE]
        have h7 := unhide HB6
        rw [unhide HC] at h7
        exact owns_vals hgs (by omega) (unhide HML) h7
  · rw [he]
    have HE : Hid (D = ([], 60)) := by show _ = _; rw [← unhide HD]; unfold makeB; rw [if_pos hs]
    clear hs he
    go_wp2_with fail
    go_ret2
    refine ⟨.slice none 0 0, by rw [unhide HE]; rfl, ?_, unhide HB2⟩
    rw [unhide HE]
    exact World.ownsRow_nil _ w.heap.size 40 3
end Go.Proofs.YtklkhegeeglfbaaGreatDoor
