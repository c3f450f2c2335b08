import Derived.Test.YtiinohibmcefkaaGreatDoorZzbd
namespace Go.Proofs.YtiinohibmcefkaaGreatDoor
open Go.RowKit Go.Maps

/-- The row as it was laid: what holds of it. -/
def Laid (X : World) (h : Bool) (vals : List ValA) (ob : Nat) (ao : Option Addr) (ac : Nat) (W : World) : Prop :=
  RowB W ob h (.slice ao vals.length ac) vals ∧ X.heap.size ≤ ob ∧ (∀ k, (Value.slice ao vals.length ac).ownBlock = some k → X.heap.size ≤ k) ∧ Keeps (fun _ => False) X W
theorem laid_new {X w5 : World} {h : Bool} {vals : List ValA} {ao : Option Addr} {ac : Nat} (hk : Keeps (fun _ => False) X w5) (ho : w5.ownsRow X.heap.size 41 3 (.slice ao vals.length ac) vals.length (vcs vals)) :
    Laid X h vals w5.heap.size ao ac (w5.alloc (.cells #[.bool h, .slice ao vals.length ac] 31)) :=
  ⟨⟨heap_alloc_new w5 _, own_zero (ho.alloc _)⟩, hk.size, fun k e => (ho.lt k e).1, hk.alloc _⟩
theorem laid_set {X w5 : World} {h : Bool} {vals : List ValA} {ao : Option Addr} {ac B : Nat} (hk : Keeps (fun _ => False) X w5) (ho : w5.ownsRow X.heap.size 41 3 (.slice ao vals.length ac) vals.length (vcs vals)) (hB : w5.heap[B]? = some (.cells #[.bool false, .slice none 0 0] 31 (0, 0))) (hb : X.heap.size ≤ B) :
    Laid X h vals B ao ac ((w5.setCell ⟨B, 0, none⟩ (.bool h)).setCell ⟨B, 1, none⟩ (.slice ao vals.length ac)) :=
  ⟨⟨set2b hB _ _, ownsRow_kept (own_zero ho) (keeps_set2 w5 B _ _) (fun k e hq => ownsRow_ne ho hB (by decide) (by rw [e, hq]))⟩, hb, fun k e => (ho.lt k e).1, hk.narrow (keeps_set2 _ _ _ _) (fun q e => by omega)⟩
theorem own_base {w : World} {e size n B : Nat} {v : Value} {xs : List Value} (h : w.ownsRow 0 e size v n xs) (hB : ∀ q, v.ownBlock = some q → B ≤ q) : w.ownsRow B e size v n xs := by
  obtain ⟨h1, h2⟩ := h
  refine ⟨h1, h2.imp id ?_⟩
  rintro ⟨g, cap, cur, hv, _, r⟩
  exact ⟨g, cap, cur, hv, hB g (by rw [hv]; rfl), r⟩
theorem foldS_take {S : List FieldA} {ls : List SL} {k : Nat} {l : SL} (h : ls[k]? = some l) (r : Bool × List ValA) : (ls.take (k + 1)).foldl (fun r l => runS S l r) r = runS S l ((ls.take k).foldl (fun r l => runS S l r) r) := by
  rw [take_snoc _ _ _ h]
  simp
theorem foldS_rw {S : List FieldA} : ∀ (ls : List SL) (r : Bool × List ValA), (∀ l ∈ ls, wellS l = true) → Rw S r.1 r.2 → Rw S (ls.foldl (fun r l => runS S l r) r).1 (ls.foldl (fun r l => runS S l r) r).2
  | [], _, _, hr => hr
  | l :: ls, r, h, hr => foldS_rw ls (runS S l r) (fun m hm => h m (List.mem_cons_of_mem _ hm)) (runS_rw l r (h l (List.mem_cons_self ..)) hr)
theorem check_small {l : SL} (h : checkS l = 0) : wellS l = true ∧ countS l ≤ 32 := by
  unfold checkS at h
  split at h
  · cases h
  · split at h
    · cases h
    · exact ⟨by rename_i h1 _; simpa using h1, by omega⟩
/-- The first error of programs. -/
def firstE (S : List FieldA) : List SL → Int
  | [] => 0
  | l :: r => if (checkP S l).1 = 0 then firstE S r else (checkP S l).1
/-- What Chain answers. -/
def chainP (S : List FieldA) (ls : List SL) (h : Bool) (vals : List ValA) : (Bool × List ValA) × Int :=
  if errS S ≠ 0 then ((false, []), errS S) else if firstE S ls ≠ 0 then ((false, []), firstE S ls) else if rowE S h vals ≠ 0 then ((false, []), rowE S h vals) else (ls.foldl (fun r l => runS S l r) (h, vals), 0)
/-- Programs in a slice. -/
def PsAt (Z : Zone) (w : World) (up : Nat) (v : Value) (ls : List SL) : Prop :=
  ∃ ao cap, v = .slice ao ls.length cap ∧ (0 < ls.length → ∃ b off, ao = some ⟨b, off, none⟩ ∧ b < w.heap.size ∧ ∀ (i : Nat) l, ls[i]? = some l → ∃ pv, w.cell? ⟨b, off + i, none⟩ = some pv ∧ SlS Z w up pv l)
/-- How a call that makes a row answers. -/
def RowPost (w : World) (R : (Bool × List ValA) × Int) (e : Ending) (w' : World) : Prop :=
  ∃ uo uc, e = .returned (.tuple #[.agg #[.bool R.1.1, .slice uo R.1.2.length uc], .int .i64 R.2]) ∧ w'.ownsRow w.heap.size 41 3 (.slice uo R.1.2.length uc) R.1.2.length (vcs R.1.2) ∧ Keeps (fun _ => False) w w'
/-- The world as Chain finds it. -/
structure ProC (w X : World) (sv : Value) (h : Bool) (u : Value) : Prop where
  kept : Keeps (fun _ => False) w X
  s0 : X.heap[w.heap.size]? = some (.cells #[sv] 24 (0, 0))
  r0 : X.heap[w.heap.size + 1]? = some (.cells #[.bool h, u] 31 (0, 0))
  z0 : X.heap[w.heap.size + 1 + 1]? = some (.cells #[.bool false, .slice none 0 0] 31 (0, 0))
theorem proC_of (w : World) (sv : Value) (h : Bool) (u : Value) : ∃ X, ((w.alloc (.cells #[sv] 24)).alloc (.cells #[.bool h, u] 31)).alloc (.cells #[.bool false, .slice none 0 0] 31) = X ∧ ProC w X sv h u := by
  refine ⟨_, rfl, (((Keeps.refl _ w).alloc _).alloc _).alloc _, ?_, ?_, alloc_at _ _ _ (by simp)⟩
  · exact ((((Keeps.refl (fun _ => False) _).alloc _).alloc _).block _ (by simp) id).trans (heap_alloc_new w _)
  · exact (((Keeps.refl (fun _ => False) _).alloc _).block _ (by simp) id).trans (alloc_at _ _ _ (by simp))
theorem firstE_at {S : List FieldA} : ∀ {ls : List SL} {k : Nat} {l : SL}, ls[k]? = some l → (∀ i m, i < k → ls[i]? = some m → (checkP S m).1 = 0) → (checkP S l).1 ≠ 0 → firstE S ls = (checkP S l).1
  | [], k, l, h, _, _ => by simp at h
  | a :: r, 0, l, h, _, hl => by
    simp at h
    subst h
    simp [firstE, hl]
  | a :: r, k + 1, l, h, hb, hl => by
    have h0 := hb 0 a (by omega) rfl
    simp only [firstE, h0, if_true]
    exact firstE_at (k := k) (by simpa using h) (fun i m hi hm => hb (i + 1) m (by omega) (by simpa using hm)) hl
theorem firstE_zero {S : List FieldA} : ∀ {ls : List SL}, (∀ (i : Nat) m, ls[i]? = some m → (checkP S m).1 = 0) → firstE S ls = 0
  | [], _ => rfl
  | a :: r, h => by
    simp only [firstE, h 0 a rfl, if_true]
    exact firstE_zero (fun i m hm => h (i + 1) m (by simpa using hm))
set_option maxRecDepth 100000 in
set_option maxHeartbeats 4000000 in
theorem chain_v (Z : Zone) (S : List FieldA) (ls : List SL) (hls : ls.length ≤ 1048576) (hsz : ∀ l ∈ ls, l.size ≤ 4294967294) (h : Bool) (vals : List ValA) (sv u pv : Value) (w : World) (up : Nat) (hT : Types w) (hF : Forms w) (hf : FldsAt w sv S) (hu : ValsAt w u vals) (hp : PsAt Z w up pv ls) :
    Calls Tryz.prog 29 #[.agg #[sv], .agg #[.bool h, u], pv] w (RowPost w (chainP S ls h vals)) := by
  obtain ⟨so, sc, rfl⟩ := RowAt.form hf
  obtain ⟨uo, uc, rfl⟩ := RowAt.form hu
  obtain ⟨po, pc, rfl, hpp⟩ := hp
  obtain ⟨X, hX, P⟩ := proC_of w (.slice so S.length sc) h (.slice uo vals.length uc)
  have SB : ∀ w' : World, Keeps (fun _ => False) X w' → w'.cell? ⟨w.heap.size, 0, none⟩ = some (.slice so S.length sc) ∧ w'.cell? ⟨w.heap.size + 1, 0, none⟩ = some (.bool h) ∧ w'.cell? ⟨w.heap.size + 1, 1, none⟩ = some (.slice uo vals.length uc) := fun w' hq => by
    have a := (hq.block _ (lt_of_block P.s0) id).trans P.s0
    have c := (hq.block _ (lt_of_block P.r0) id).trans P.r0
    exact ⟨(cell_of_blk a _).trans rfl, (cell_of_blk c _).trans rfl, (cell_of_blk c _).trans rfl⟩
  have HSB := hide SB
  have s0 := SB X (Keeps.refl _ _)
  have HP := hide P
  have HPP := hide hpp
  have hone : ∀ w2 : World, Keeps (fun _ => False) X w2 → w2.cell? ⟨w.heap.size + 1 + 1, 0, none⟩ = some (.bool false) ∧ w2.cell? ⟨w.heap.size + 1 + 1, 1, none⟩ = some (.slice none 0 0) ∧ w2.frozen? ⟨w.heap.size + 1 + 1, 0, none⟩ = false ∧ w2.frozen? ⟨w.heap.size + 1 + 1, 1, none⟩ = false := fun w2 hk => by
    have z := (hk.block _ (lt_of_block P.z0) id).trans P.z0
    exact ⟨(cell_of_blk z _).trans rfl, (cell_of_blk z _).trans rfl, frozen_of_blk z 0, frozen_of_blk z 1⟩
  have hset : ∀ (w2 : World) (x y : Value), Keeps (fun _ => False) X w2 → ((w2.setCell ⟨w.heap.size + 1 + 1, 0, none⟩ x).setCell ⟨w.heap.size + 1 + 1, 1, none⟩ y).cell? ⟨w.heap.size + 1 + 1, 0, none⟩ = some x ∧ ((w2.setCell ⟨w.heap.size + 1 + 1, 0, none⟩ x).setCell ⟨w.heap.size + 1 + 1, 1, none⟩ y).cell? ⟨w.heap.size + 1 + 1, 1, none⟩ = some y ∧ Keeps (fun _ => False) w ((w2.setCell ⟨w.heap.size + 1 + 1, 0, none⟩ x).setCell ⟨w.heap.size + 1 + 1, 1, none⟩ y) := fun w2 x y hk => by
    have z := set2b ((hk.block _ (lt_of_block P.z0) id).trans P.z0) x y
    exact ⟨(cell_of_blk z _).trans rfl, (cell_of_blk z _).trans rfl, (P.kept.trans hk).narrow (keeps_set2 _ _ _ _) (fun q e => by omega)⟩
  have HONE := hide hone
  have HSET := hide hset
  have HCS := hide (checkSchema_v S (.slice so S.length sc) X (hT.keepF P.kept) (hf.keepF P.kept))
  have HCK := fun W' (hk : Keeps (fun _ => False) X W') (l : SL) (hl : l.size ≤ 4294967294) (qv : Value) (hq : SlS Z W' up qv l) => hide (tcheck_v Z S l hl (.slice so S.length sc) qv W' up (hT.keepF (P.kept.trans hk)) (hF.keepF (P.kept.trans hk)) (hf.keepF (P.kept.trans hk)) hq)
  have HCR := fun W' (hk : Keeps (fun _ => False) X W') => hide (checkRow_v S (.slice so S.length sc) (.slice uo vals.length uc) h vals W' (hT.keepF (P.kept.trans hk)) (hf.keepF (P.kept.trans hk)) (hu.keepF (P.kept.trans hk)))
  have HNM := fun (F : Nat → Prop) W' (hF' : ∀ q, F q → q < W'.heap.size) (hk : Keeps (fun _ => False) X W') (hS : schemaB S = true) => hide (newMaker_v S F (.slice so S.length sc) W' hF' (hT.keepF (P.kept.trans hk)) (hf.keepF (P.kept.trans hk)) hS)
  have HU := fun W' (hk : Keeps (fun _ => False) X W') => hide (hu.keepF (P.kept.trans hk))
  have HWX := hide P.kept
  clear hT hF hf hu SB P hone hset hpp
  by_cases hS : schemaB S = true
  case neg =>
    have hS' : schemaB S = false := by simpa using hS
    have hR : chainP S ls h vals = ((false, []), 60) := by unfold chainP; rw [errS_bad hS']; simp
    rw [hR]
    rw [errS_bad hS'] at HCS
    clear HCK HCR HNM HU hR hS hS'
    go_enter Tryz.func29, Tryz.ntmps29
    go_wp2_with fail
    refine (unhide HCS).mono ?_
    rintro e w1 ⟨rfl, hk1⟩
    obtain ⟨m0, m1, g0, g1⟩ := unhide HONE _ hk1
    obtain ⟨o0, o1, hd⟩ := unhide HSET w1 (.bool false) (.slice none 0 0) hk1
    have HD := hide hd
    clear hd hk1
    go_wp2_with fail
    refine bodyPost_ret (v := .tuple #[.agg #[.bool false, .slice none 0 0], .int .i64 60]) (by simp [results, go_sem, o0, o1]) rfl ?_
    exact ⟨none, 0, rfl, World.ownsRow_nil _ _ 41 3, unhide HD⟩
  case pos =>
    rw [errS_good hS] at HCS
    obtain ⟨hl1, hl8⟩ := schemaB_len hS
    have HSS := hide hS
    have HSZ := hide hsz
    clear hS hsz
    go_enter Tryz.func29, Tryz.ntmps29
    go_wp2_with fail
    refine (unhide HCS).mono ?_
    rintro e w1 ⟨rfl, hk1⟩
    have HK1 := hide hk1
    clear hk1 s0
    go_wp2_with fail
    go_loopw [26] (fun i wr => ∃ (k : Nat), k ≤ ls.length ∧ i = .int .i64 k ∧ Hid (∀ (j : Nat) m, j < k → ls[j]? = some m → (checkP S m).1 = 0) ∧ Keeps (fun _ => False) X wr) (fun i _ => ls.length - (intOf i).toNat)
    case atStart => exact ⟨0, Nat.zero_le _, rfl, fun j m hj => by omega, unhide HK1⟩
    case round =>
      obtain ⟨k, hk, rfl, HB, hkp⟩ := hrel
      have HK := hide hkp
      have s1 := unhide HSB _ hkp
      clear hkp HK1
      by_cases hlt : k < ls.length
      · obtain ⟨l, hl⟩ : ∃ l, ls[k]? = some l := ⟨_, List.getElem?_eq_getElem hlt⟩
        obtain ⟨b, off, rfl, hb, hc⟩ := unhide HPP (by omega)
        obtain ⟨qv, hq1, hq2⟩ := hc k l hl
        have hKw := (unhide HWX).trans (unhide HK)
        have c0 := (hKw.cell hb id).trans hq1
        have HC := hide (unhide (HCK wr (unhide HK) l (unhide HSZ l (List.mem_of_getElem? hl)) qv (hq2.keepF hKw)))
        obtain ⟨qo, qc, rfl, _⟩ := hq2.head
        have i1 : (k : Int) < (ls.length : Int) := by omega
        have i0 : (0 : Int) ≤ (k : Int) := by omega
        have HL := hide hl
        obtain ⟨⟨E, A⟩, hEA⟩ : ∃ p, p = checkP S l := ⟨_, rfl⟩
        have HEA := hide hEA
        rw [← hEA] at HC
        simp only [chkV] at HC
        clear hl hq1 hq2 hc hKw hEA
        by_cases hE : E = 0
        · subst hE
          go_wp2_with fail
          refine (unhide HC).mono ?_
          rintro e w2 ⟨rfl, hk2⟩
          have HK2 := hide ((unhide HK).trans hk2)
          clear hk2
          go_wp2_with fail
          go_roundw
          case rel =>
            refine ⟨k + 1, by omega, by go_num, fun j m hj hm => ?_, unhide HK2⟩
            by_cases hjk : j < k
            · exact unhide HB j m hjk hm
            · obtain rfl : j = k := by omega
              have := unhide HL
              rw [hm] at this
              simp at this
              subst this
              rw [← unhide HEA]
          case measure => simp [intOf]; omega
        · have n0 : (E != 0) = true := by simpa using hE
          have hR : chainP S ls h vals = ((false, []), E) := by
            have hfe := firstE_at (S := S) (unhide HL) (fun i m hi hm => unhide HB i m hi hm) (by rw [← unhide HEA]; exact hE)
            unfold chainP
            rw [errS_good (unhide HSS), hfe, ← unhide HEA]
            simp [hE]
          have HR := hide hR
          clear hR hE
          go_wp2_with fail
          refine (unhide HC).mono ?_
          rintro e w2 ⟨rfl, hk2⟩
          obtain ⟨m0, m1, g0, g1⟩ := unhide HONE _ ((unhide HK).trans hk2)
          obtain ⟨o0, o1, hd⟩ := unhide HSET w2 (.bool false) (.slice none 0 0) ((unhide HK).trans hk2)
          have HD := hide hd
          clear hd hk2
          go_wp2_with fail
          refine bodyPost_ret (v := .tuple #[.agg #[.bool false, .slice none 0 0], .int .i64 E]) (by simp [results, go_sem, o0, o1]) rfl ?_
          rw [unhide HR]
          exact ⟨none, 0, rfl, World.ownsRow_nil _ _ 41 3, unhide HD⟩
      · obtain rfl : k = ls.length := by omega
        have i1 : ¬ (ls.length : Int) < (ls.length : Int) := by omega
        have HFE : Hid (firstE S ls = 0) := firstE_zero (fun i m hm => unhide HB i m (get_lt hm) hm)
        have HC := hide (unhide (HCR wr (unhide HK)))
        by_cases hR : rowE S h vals = 0
        case neg =>
          have n0 : (rowE S h vals != 0) = true := by simpa using hR
          have hRR : chainP S ls h vals = ((false, []), rowE S h vals) := by
            unfold chainP
            rw [errS_good (unhide HSS), unhide HFE]
            simp [hR]
          have HR := hide hRR
          clear hRR hR
          generalize rowE S h vals = E at *
          go_wp2_with fail
          refine (unhide HC).mono ?_
          rintro e w2 ⟨rfl, hk2⟩
          obtain ⟨m0, m1, g0, g1⟩ := unhide HONE _ ((unhide HK).trans hk2)
          obtain ⟨o0, o1, hd⟩ := unhide HSET w2 (.bool false) (.slice none 0 0) ((unhide HK).trans hk2)
          have HD := hide hd
          clear hd hk2
          go_wp2_with fail
          refine bodyPost_ret (v := .tuple #[.agg #[.bool false, .slice none 0 0], .int .i64 E]) (by simp [results, go_sem, o0, o1]) rfl ?_
          rw [unhide HR]
          exact ⟨none, 0, rfl, World.ownsRow_nil _ _ 41 3, unhide HD⟩
        case pos =>
          have hRR : chainP S ls h vals = (ls.foldl (fun r l => runS S l r) (h, vals), 0) := by
            unfold chainP
            rw [errS_good (unhide HSS), unhide HFE]
            simp [hR]
          have HR := hide hRR
          have HRW := hide (rowE_rw hR)
          rw [hR] at HC
          have hl8v : vals.length ≤ 8 := by
            cases h with
            | true => exact rowE_len hR
            | false => rw [rowE_nil hR]; simp
          clear hRR hR
          go_wp2_with fail
          refine (unhide HC).mono ?_
          rintro e w2 ⟨rfl, hk2⟩
          have HK2 := hide ((unhide HK).trans hk2)
          have s2 := unhide HSB _ (unhide HK2)
          clear hk2 s1
          have hbz : X.heap.size ≤ w2.heap.size := (unhide HK2).size
          obtain ⟨z1, z2, z3⟩ := s2
          have r1 : w.heap.size < w2.heap.size := World.block_lt_of_cell? w2 ⟨w.heap.size, 0, none⟩ z1
          have r2 : w.heap.size + 1 < w2.heap.size := World.block_lt_of_cell? w2 ⟨w.heap.size + 1, 0, none⟩ z2
          go_wp2_with fail
          refine Code.wp_mono (Q := OnlyN fun a W6 => ∃ (ob q : Nat) (ao : Option Addr) (ac : Nat), a = ⟨#[.agg #[.slice so S.length sc], .agg #[.bool h, .slice uo vals.length uc], .slice po ls.length pc, .pointer (some ⟨w.heap.size, 0, none⟩), .pointer (some ⟨w.heap.size + 1, 0, none⟩), undef, .pointer (some ⟨w.heap.size + 1 + 1, 0, none⟩), u7, .int .i64 0, undef, u10, u11, u12, .int .i64 0, .pointer (some ⟨ob, 0, none⟩), undef, undef, undef, .agg #[.slice so S.length sc], .int .i64 0, .int .i64 0, .bool false, undef, undef, .slice po ls.length pc, .int .i64 (ls.length : Int), .int .i64 (ls.length : Int), .bool false, u28, u29, u30, u31, u32, u33, u34, u35, u36, u37, u38, u39, u40, .agg #[.slice so S.length sc], .agg #[.bool h, .slice uo vals.length uc], .int .i64 0, .int .i64 0, .bool false, undef, undef, .pointer (some ⟨w.heap.size + 1, 0, none⟩), .bool h, .slice (some ⟨q, 0, none⟩) 0 0, .pointer (some ⟨w.heap.size + 1, 1, none⟩), .slice uo vals.length uc, .slice ao vals.length ac, .agg #[.bool h, .slice ao vals.length ac], undef, undef, undef, undef, undef, undef, undef, undef, undef, undef, undef, undef, undef, undef], []⟩ ∧ Laid X h vals ob ao ac W6) ?imp ?reg
          case reg =>
            go_region_law (first
              | (refine step_appendV (by rfl) _ _ (by rfl) X.heap.size _ 0 [] (by rfl) ((own_none w2 X.heap.size hbz).drew) _ vals (by rfl) (unhide (HU _ ((unhide HK2).trans (kAlloc w2 (.cells #[] 41)).drew))) (by unfold maxLen; omega) (by omega) (Nat.le_trans hbz ((kAlloc w2 (.cells #[] 41)).drew).size) ?_; intro ao ac w5 hown5 hgrow5; simp only [Nat.zero_add, List.nil_append] at hown5; have hk5 : Keeps (fun _ => False) X w5 := ((unhide HK2).trans (kAlloc w2 (.cells #[] 41)).drew).grown hgrow5 (fun k e hk => by simp [Value.ownBlock] at e; omega); obtain ⟨x1, x2, x3⟩ := unhide HSB _ hk5; have r5 : w.heap.size + 1 < w5.heap.size := World.block_lt_of_cell? w5 ⟨w.heap.size + 1, 0, none⟩ x2)
              | (refine step_appendV (by rfl) _ _ (by rfl) X.heap.size _ 0 [] (by rfl) (((own_none w2 X.heap.size hbz).alloc _).drew) _ vals (by rfl) (unhide (HU _ ((unhide HK2).trans ((kAlloc w2 (.cells #[] 41)).alloc (.cells #[.bool false, .slice none 0 0] 31)).drew))) (by unfold maxLen; omega) (by omega) (Nat.le_trans hbz (((kAlloc w2 (.cells #[] 41)).alloc (.cells #[.bool false, .slice none 0 0] 31)).drew).size) ?_; intro ao ac w5 hown5 hgrow5; simp only [Nat.zero_add, List.nil_append] at hown5; have hk5 : Keeps (fun _ => False) X w5 := ((unhide HK2).trans ((kAlloc w2 (.cells #[] 41)).alloc (.cells #[.bool false, .slice none 0 0] 31)).drew).grown hgrow5 (fun k e hk => by simp [Value.ownBlock] at e; omega); obtain ⟨x1, x2, x3⟩ := unhide HSB _ hk5; have r5 : w.heap.size + 1 < w5.heap.size := World.block_lt_of_cell? w5 ⟨w.heap.size + 1, 0, none⟩ x2; have hB5 := blk28a hgrow5; have u0 := frozen_of_blk hB5 0; have u1 := frozen_of_blk hB5 1; have u2 := (cell_of_blk hB5 0).trans rfl; have u3 := (cell_of_blk hB5 1).trans rfl)
              | (refine step_appendV (by rfl) _ _ (by rfl) X.heap.size _ 0 [] (by rfl) ((own_noneb w2 X.heap.size hbz).drew) _ vals (by rfl) (unhide (HU _ ((unhide HK2).trans ((kAlloc w2 (.cells #[.bool false, .slice none 0 0] 31)).alloc (.cells #[] 41)).drew))) (by unfold maxLen; omega) (by omega) (Nat.le_trans hbz (((kAlloc w2 (.cells #[.bool false, .slice none 0 0] 31)).alloc (.cells #[] 41)).drew).size) ?_; intro ao ac w5 hown5 hgrow5; simp only [Nat.zero_add, List.nil_append] at hown5; have hk5 : Keeps (fun _ => False) X w5 := ((unhide HK2).trans ((kAlloc w2 (.cells #[.bool false, .slice none 0 0] 31)).alloc (.cells #[] 41)).drew).grown hgrow5 (fun k e hk => by simp [Value.ownBlock] at e; omega); obtain ⟨x1, x2, x3⟩ := unhide HSB _ hk5; have r5 : w.heap.size + 1 < w5.heap.size := World.block_lt_of_cell? w5 ⟨w.heap.size + 1, 0, none⟩ x2; have hB5 := blk28b hgrow5; have u0 := frozen_of_blk hB5 0; have u1 := frozen_of_blk hB5 1; have u2 := (cell_of_blk hB5 0).trans rfl; have u3 := (cell_of_blk hB5 1).trans rfl))
            all_goals
              refine OnlyN.mk ⟨_, _, ao, ac, rfl, ?_⟩
              first
                | with_reducible exact laid_new hk5 hown5
                | with_reducible exact laid_set hk5 hown5 hB5 (by omega)
          case imp =>
            intro ex a W6 hN
            cases ex with
            | normal => ?_
            | _ => exact hN.elim
            obtain ⟨ob, q, ao, ac, rfl, hL⟩ := (hN : ∃ _, _)
            have hK6 := hL.2.2.2
            have hob := hL.2.1
            have hub := hL.2.2.1
            have hrb := hL.1
            have hobl : ob < W6.heap.size := lt_of_block hrb.blk
            have hubl : ∀ q, (Value.slice ao vals.length ac).ownBlock = some q → q < W6.heap.size := fun q e => (hrb.own.lt q e).2
            have HF0 : Hid (∀ q, (q = ob ∨ (Value.slice ao vals.length ac).ownBlock = some q) → q < W6.heap.size) := fun q hq => hq.elim (fun e => by rw [e]; exact hobl) (hubl q)
            have HF1 : Hid (∀ q, (q = ob ∨ (Value.slice ao vals.length ac).ownBlock = some q) → X.heap.size ≤ q) := fun q hq => hq.elim (fun e => by rw [e]; exact hob) (hub q)
            have HRB := hide hrb
            have HK6 := hide hK6
            have HC7 := hide (unhide (HNM (fun q => q = ob ∨ (Value.slice ao vals.length ac).ownBlock = some q) W6 (unhide HF0) hK6 (unhide HSS)))
            have s6 := unhide HSB _ hK6
            have hXw : w.heap.size + 1 + 1 < X.heap.size := lt_of_block (unhide HP).z0
            clear hL hK6 hub hrb hubl HK HC z1 z2 z3 r1 r2 hbz HK2 hob hobl
            go_wp2_with fail
            refine (unhide HC7).mono ?_
            rintro e w7 ⟨m, mb, nn, tab, zv, rfl, hM, hk7⟩
            have HM := hide hM
            have HK7 := hide hk7
            have HX7 := hide ((unhide HK6).trans hk7)
            have HRB7 := hide ((unhide HRB).keepF hk7)
            clear hM hk7 HC7 s6 HRB
            go_wp2_with fail
            go_loopw [59] (fun i wr => ∃ (k : Nat) (u' : Value), k ≤ ls.length ∧ i = .int .i64 k ∧ Hid (RowB wr ob ((ls.take k).foldl (fun r l => runS S l r) (h, vals)).1 u' ((ls.take k).foldl (fun r l => runS S l r) (h, vals)).2) ∧ Hid (∀ q, u'.ownBlock = some q → (Value.slice ao vals.length ac).ownBlock = some q ∨ w7.heap.size ≤ q) ∧ Keeps (fun q => q = ob ∨ (Value.slice ao vals.length ac).ownBlock = some q) w7 wr) (fun i _ => ls.length - (intOf i).toNat)
            case atStart => exact ⟨0, _, Nat.zero_le _, rfl, HRB7, fun q e => Or.inl e, Keeps.refl _ _⟩
            case round =>
              obtain ⟨k, u', hk, rfl, HRk, HUk, hkp⟩ := hrel
              have HKP := hide hkp
              have hF7 : ∀ q, (q = ob ∨ u'.ownBlock = some q) → q < w7.heap.size → q = ob ∨ (Value.slice ao vals.length ac).ownBlock = some q := fun q hq hl => by
                rcases hq with e | e
                · exact Or.inl e
                · rcases unhide HUk q e with h1 | h1
                  · exact Or.inr h1
                  · omega
              have HF7 := hide hF7
              have hKX : Keeps (fun _ => False) X wr := (unhide HX7).narrow hkp (fun q e => unhide HF1 q e)
              have HKX := hide hKX
              by_cases hlt : k < ls.length
              · obtain ⟨l, hl⟩ : ∃ l, ls[k]? = some l := ⟨_, List.getElem?_eq_getElem hlt⟩
                obtain ⟨b, off, rfl, hb, hc⟩ := unhide HPP (by omega)
                obtain ⟨qv, hq1, hq2⟩ := hc k l hl
                have hKw := (unhide HWX).trans hKX
                have c0 := (hKw.cell hb id).trans hq1
                obtain ⟨hcw, hcc⟩ := check_small (checkP_zero (unhide HB k l hlt hl)).2
                have hMk : MkAt S (fun q => q = ob ∨ u'.ownBlock = some q) wr m mb nn tab zv := (unhide HM).shift hl1 hkp hF7
                have hGk : ∀ q, (q = ob ∨ u'.ownBlock = some q) → q < wr.heap.size := fun q hq => hq.elim (fun e => by rw [e]; exact lt_of_block (unhide HRk).blk) (fun e => ((unhide HRk).own.lt q e).2)
                have HC := hide (program_v Z S hl1 hl8 (l.size + 1) l (by omega) (by omega) hcw wr (fun q => q = ob ∨ u'.ownBlock = some q) m mb nn tab zv up qv hMk hGk (hq2.keepF hKw))
                have hrk : Rw S ((ls.take k).foldl (fun r l => runS S l r) (h, vals)).1 ((ls.take k).foldl (fun r l => runS S l r) (h, vals)).2 := foldS_rw _ _ (fun l' hl' => by
                  obtain ⟨i, hi, e⟩ := List.getElem_of_mem (List.mem_of_mem_take hl')
                  exact (check_small (checkP_zero (unhide HB i l' hi (by rw [← e]; exact List.getElem?_eq_getElem hi))).2).1) (unhide HRW)
                have HRWk := hide hrk
                obtain ⟨qo, qc, rfl, _⟩ := hq2.head
                have i1 : (k : Int) < (ls.length : Int) := by omega
                have i0 : (0 : Int) ≤ (k : Int) := by omega
                have HL := hide (foldS_take (S := S) hl (h, vals))
                clear hl hq1 hq2 hc hKw hMk hGk hrk hkp hF7 hKX hcw hcc HRB7
                go_wp2_with fail
                refine (unhide HC).mono ?_
                rintro e w8 ⟨av, rfl, haw, hk8⟩
                obtain ⟨ka, bna, capa, rfl, ea, _, hcall⟩ := haw
                have HA := hide (hcall w8 ob _ u' _ (Keeps.refl _ _) (Or.inl rfl) (fun q e => Or.inl (Or.inr e)) ((unhide HRk).keepF hk8) (unhide HRWk))
                have HK8 := hide hk8
                unfold Enters at ea
                clear hcall hk8
                go_wp2_with fail
                refine (unhide HA).mono ?_
                rintro e w9 ⟨rfl, u2, hb2, hu2, hk9⟩
                have HB2 : Hid (RowB w9 ob ((ls.take (k + 1)).foldl (fun r l => runS S l r) (h, vals)).1 u2 ((ls.take (k + 1)).foldl (fun r l => runS S l r) (h, vals)).2) := by show RowB _ _ _ _ _; rw [unhide HL]; exact hb2
                have HU2 : Hid (∀ q, u2.ownBlock = some q → (Value.slice ao vals.length ac).ownBlock = some q ∨ w7.heap.size ≤ q) := fun q e => (hu2 q e).elim (unhide HUk q) (fun h => Or.inr (Nat.le_trans (Nat.le_trans (unhide HKP).size (unhide HK8).size) h))
                have HK9 : Hid (Keeps (fun q => q = ob ∨ (Value.slice ao vals.length ac).ownBlock = some q) w7 w9) := ((unhide HKP).trans (unhide HK8).any).then hk9 (fun q hq e => unhide HF7 q e hq)
                clear hb2 hu2 hk9
                go_wp2_with fail
                go_roundw
                case rel => exact ⟨k + 1, u2, by omega, by go_num, HB2, HU2, unhide HK9⟩
                case measure => simp [intOf]; omega
              · obtain rfl : k = ls.length := by omega
                have i1 : ¬ (ls.length : Int) < (ls.length : Int) := by omega
                have hRk := unhide HRk
                rw [List.take_length] at hRk
                have HR2 := unhide HR
                generalize ls.foldl (fun r l => runS S l r) (h, vals) = RR at *
                obtain ⟨rh, rv⟩ := RR
                simp only at hRk
                obtain ⟨u2o, u2c, rfl⟩ := RowAt.form (rowAt_own hRk.own)
                have n0 := cell_of_blk hRk.blk 0
                have n1 := cell_of_blk hRk.blk 1
                simp at n0 n1
                obtain ⟨m0, m1, g0, g1⟩ := unhide HONE _ hKX
                obtain ⟨o0, o1, hd⟩ := unhide HSET wr (.bool rh) (.slice u2o rv.length u2c) hKX
                have hzz := (hKX.block _ (lt_of_block (unhide HP).z0) id).trans (unhide HP).z0
                have HOW : Hid (((wr.setCell ⟨w.heap.size + 1 + 1, 0, none⟩ (.bool rh)).setCell ⟨w.heap.size + 1 + 1, 1, none⟩ (.slice u2o rv.length u2c)).ownsRow w.heap.size 41 3 (.slice u2o rv.length u2c) rv.length (vcs rv)) := by
                  have h7 := (unhide HX7).size
                  have h8 := (unhide HWX).size
                  refine ownsRow_kept (own_base hRk.own (fun q e => ?_)) (keeps_set2 wr _ _ _) (fun q e hq => ownsRow_ne hRk.own hzz (by decide) (by rw [e, hq]))
                  rcases unhide HUk q e with h1 | h1
                  · have := unhide HF1 q (Or.inr h1)
                    omega
                  · omega
                have HD := hide hd
                have HRR := hide HR2
                clear hd hzz hRk hKX hkp hF7 HR2 HRk HRB7 hk hlt
                go_wp2_with fail
                refine bodyPost_ret (v := .tuple #[.agg #[.bool rh, .slice u2o rv.length u2c], .int .i64 0]) (by simp [results, go_sem, o0, o1]) rfl ?_
                rw [unhide HRR]
                exact ⟨u2o, u2c, rfl, unhide HOW, unhide HD⟩
end Go.Proofs.YtiinohibmcefkaaGreatDoor
