import Derived.Test.YtiinohibmcefkaaGreatDoorJav
import Derived.Test.YtiinohibmcefkaaGreatDoorJal
import Derived.Test.YtiinohibmcefkaaGreatDoorJan
import Derived.Test.YtiinohibmcefkaaGreatDoorKm
import Derived.Test.YtiinohibmcefkaaGreatDoorJzad
import Derived.Test.YtiinohibmcefkaaGreatDoorJad
import Derived.Test.YtiinohibmcefkaaGreatDoorJaq
namespace Go.Proofs.YtiinohibmcefkaaGreatDoor
open Go.RowKit Go.Maps

theorem fits_short {f : FieldA} {v : ValA} (h : fitsB f v = true) : v.s.length ≤ 20 := by
  unfold fitsB at h
  split at h
  · simp only [Bool.and_eq_true, decide_eq_true_eq] at h; simp [h.2]
  · split at h
    · cases h
    · split at h
      · simp only [decide_eq_true_eq] at h; simp [h]
      · split at h
        · simp only [Bool.and_eq_true, decide_eq_true_eq] at h; simp [h.2]
        · split at h
          · simp only [Bool.and_eq_true, decide_eq_true_eq] at h; exact h.2
          · cases h
theorem rowE_true {S : List FieldA} {vals : List ValA} (h : rowE S true vals = 0) : schemaB S = true ∧ recB S vals = true := by
  unfold rowE errR at h
  rw [if_pos rfl] at h
  split at h
  · split at h
    · exact ⟨‹_›, ‹_›⟩
    · cases h
  · cases h
theorem rec_fits {S : List FieldA} {vals : List ValA} (h : recB S vals = true) : vals.length = S.length ∧ ∀ (i : Nat) f v, S[i]? = some f → vals[i]? = some v → fitsB f v = true := by
  unfold recB at h
  simp only [Bool.and_eq_true, decide_eq_true_eq] at h
  refine ⟨h.1, fun i f v hf hv => ?_⟩
  have := List.all_eq_true.1 h.2 (f, v) (List.mem_of_getElem? (zip_get hf hv))
  simpa using this
theorem rowE_rw {S : List FieldA} {h : Bool} {vals : List ValA} (he : rowE S h vals = 0) : Rw S h vals := by
  cases h with
  | false => rw [rowE_nil he]; exact gone_rw S
  | true =>
    obtain ⟨h1, h2⟩ := rec_fits (rowE_true he).2
    refine ⟨fun _ => h1, fun v hv => ?_⟩
    obtain ⟨i, hi, e⟩ := List.getElem_of_mem hv
    exact fits_short (h2 i S[i] v (List.getElem?_eq_getElem (by omega)) (by rw [← e]; exact List.getElem?_eq_getElem hi))
/-- What Value answers. -/
def valueP (S : List FieldA) (op n : Int) (s : Txt) (kids : EL) (h : Bool) (vals : List ValA) : ValA × Int :=
  if (typeP S op n s kids).2.2 ≠ 0 then (zV, (typeP S op n s kids).2.2) else if rowE S h vals ≠ 0 then (zV, rowE S h vals) else (nodeV S op n s kids h vals, 0)
theorem typeP_zero {S : List FieldA} {op n : Int} {s : Txt} {kids : EL} (h : (typeP S op n s kids).2.2 = 0) : schemaB S = true ∧ rootB op n s kids.len = true ∧ wellE kids = true ∧ (kindP S op s kids).2 = 0 ∧ (typeP S op n s kids) = ((kindP S op s kids).1.t, (kindP S op s kids).1.o, 0) := by
  unfold typeP at h ⊢
  rcases errS_eq S with ⟨hs, he⟩ | ⟨hs, he⟩
  · simp only [he, ne_eq, not_true_eq_false, if_false] at h ⊢
    by_cases hc : checkE (.cons op n s kids .nil) = 0
    · simp only [hc, not_true_eq_false, if_false] at h ⊢
      by_cases hk : (kindP S op s kids).2 = 0
      · have hw : wellE (.cons op n s kids .nil) = true := by
          unfold checkE at hc
          split at hc
          · cases hc
          · rename_i h; simpa using h
        simp only [wellE, Bool.and_true, Bool.and_eq_true] at hw
        exact ⟨hs, hw.1, hw.2, hk, by simp [hk]⟩
      · simp [hk] at h
    · simp [hc] at h
  · simp [he] at h
/-- The world as Value finds it. -/
structure ProV (w X : World) (sv : Value) (op n : Int) (s : Txt) (xv : Value) (h : Bool) (u : Value) : Prop where
  kept : Keeps (fun _ => False) w X
  s0 : X.heap[w.heap.size]? = some (.cells #[sv] 24 (0, 0))
  e0 : X.heap[w.heap.size + 1]? = some (.cells #[.int .i64 op, .int .i64 n, str s, xv] 27 (0, 0))
  r0 : X.heap[w.heap.size + 1 + 1]? = some (.cells #[.bool h, u] 31 (0, 0))
  z0 : X.heap[w.heap.size + 1 + 1 + 1]? = some (.cells #[.int .i64 0, .int .i64 0, .string ⟨#[]⟩] 41 (0, 0))
theorem alloc_at (w : World) (o : Obj) (H : Nat) (hH : w.heap.size = H) : (w.alloc o).heap[H]? = some o := by
  subst hH
  exact heap_alloc_new w o
theorem proV_of (w : World) (sv : Value) (op n : Int) (s : Txt) (xv : Value) (h : Bool) (u : Value) : ∃ X, (((w.alloc (.cells #[sv] 24)).alloc (.cells #[.int .i64 op, .int .i64 n, str s, xv] 27)).alloc (.cells #[.bool h, u] 31)).alloc (.cells #[.int .i64 0, .int .i64 0, .string ⟨#[]⟩] 41) = X ∧ ProV w X sv op n s xv h u := by
  refine ⟨_, rfl, ((((Keeps.refl _ w).alloc _).alloc _).alloc _).alloc _, ?_, ?_, ?_, alloc_at _ _ _ (by simp)⟩
  · exact (((((Keeps.refl (fun _ => False) _).alloc _).alloc _).alloc _).block _ (by simp) id).trans (heap_alloc_new w _)
  · exact ((((Keeps.refl (fun _ => False) _).alloc _).alloc _).block _ (by simp) id).trans (alloc_at _ _ _ (by simp))
  · exact (((Keeps.refl (fun _ => False) _).alloc _).block _ (by simp) id).trans (alloc_at _ _ _ (by simp))
set_option maxRecDepth 100000 in
set_option maxHeartbeats 4000000 in
theorem value_v (Z : Zone) (S : List FieldA) (op n : Int) (s : Txt) (kids : EL) (hsz : kids.size + 1 ≤ 4294967294) (h : Bool) (vals : List ValA) (sv xv u : Value) (w : World) (up : Nat) (hT : Types w) (hF : Forms w) (hf : FldsAt w sv S) (hx : SlE Z w up xv kids) (hu : ValsAt w u vals) :
    Calls Tryz.prog 13 #[.agg #[sv], exV op n s xv, .agg #[.bool h, u]] w fun e w' => e = .returned (.tuple #[(valueP S op n s kids h vals).1.v, .int .i64 (valueP S op n s kids h vals).2]) ∧ Keeps (fun _ => False) w w' := by
  obtain ⟨so, sc, rfl⟩ := RowAt.form hf
  obtain ⟨xo, xc, rfl, _⟩ := hx.head
  obtain ⟨uo, uc, rfl⟩ := RowAt.form hu
  obtain ⟨X, hX, P⟩ := proV_of w (.slice so S.length sc) op n s (.slice xo kids.len xc) h (.slice uo vals.length uc)
  have SB : ∀ w' : World, Keeps (fun q => q = w.heap.size + 1 + 1 + 1) X w' → w'.cell? ⟨w.heap.size, 0, none⟩ = some (.slice so S.length sc) ∧ w'.cell? ⟨w.heap.size + 1, 0, none⟩ = some (.int .i64 op) ∧ w'.cell? ⟨w.heap.size + 1, 1, none⟩ = some (.int .i64 n) ∧ w'.cell? ⟨w.heap.size + 1, 2, none⟩ = some (str s) ∧ w'.cell? ⟨w.heap.size + 1, 3, none⟩ = some (.slice xo kids.len xc) ∧ w'.cell? ⟨w.heap.size + 1 + 1, 0, none⟩ = some (.bool h) ∧ w'.cell? ⟨w.heap.size + 1 + 1, 1, none⟩ = some (.slice uo vals.length uc) := fun w' hq => by
    have a := (hq.block _ (lt_of_block P.s0) (by omega)).trans P.s0
    have b := (hq.block _ (lt_of_block P.e0) (by omega)).trans P.e0
    have c := (hq.block _ (lt_of_block P.r0) (by omega)).trans P.r0
    exact ⟨(cell_of_blk a _).trans rfl, (cell_of_blk b _).trans rfl, (cell_of_blk b _).trans rfl, (cell_of_blk b _).trans rfl, (cell_of_blk b _).trans rfl, (cell_of_blk c _).trans rfl, (cell_of_blk c _).trans rfl⟩
  have HSB := hide SB
  have s0 := SB X (Keeps.refl _ _)
  have HP := hide P
  have HTy := hide (type_v Z S op n s kids hsz (.slice so S.length sc) (.slice xo kids.len xc) X up (hT.keepF P.kept) (hF.keepF P.kept) (hf.keepF P.kept) (hx.keepF P.kept))
  have HCR := fun W' (hk : Keeps (fun _ => False) X W') => hide (checkRow_v S (.slice so S.length sc) (.slice uo vals.length uc) h vals W' (hT.keepF (P.kept.trans hk)) (hf.keepF (P.kept.trans hk)) (hu.keepF (P.kept.trans hk)))
  have hdone : ∀ (w2 : World) (x y z : Value), Keeps (fun _ => False) X w2 → Keeps (fun _ => False) w (((w2.setCell ⟨w.heap.size + 1 + 1 + 1, 0, none⟩ x).setCell ⟨w.heap.size + 1 + 1 + 1, 1, none⟩ y).setCell ⟨w.heap.size + 1 + 1 + 1, 2, none⟩ z) := fun w2 x y z hk => (P.kept.trans hk).narrow (keeps_set3 _ _ _ _ _) (fun q e => by omega)
  have HDN := hide hdone
  by_cases hE : (typeP S op n s kids).2.2 = 0
  · obtain ⟨hS, hroot, hwell, _, htp⟩ := typeP_zero hE
    by_cases hR : rowE S h vals = 0
    · have hv : valueP S op n s kids h vals = (nodeV S op n s kids h vals, 0) := by unfold valueP; rw [if_neg (by simpa using hE), if_neg (by simpa using hR)]
      rw [hv]
      rw [htp] at HTy
      rw [hR] at HCR
      obtain ⟨hl1, hl8⟩ := schemaB_len hS
      have hrw := rowE_rw hR
      have HNM := fun W' (hk : Keeps (fun _ => False) X W') => hide (newMaker_v S (fun _ => False) (.slice so S.length sc) W' (fun _ h => h.elim) (hT.keepF (P.kept.trans hk)) (hf.keepF (P.kept.trans hk)) hS)
      have HEX := fun W' (hk : Keeps (fun _ => False) X W') m mb nn tab zv (hM : MkAt S (fun _ => False) W' m mb nn tab zv) => hide (exprM_v Z S hl1 hl8 (kids.size + 1) kids (by omega) op n s W' (fun _ => False) m mb nn tab zv up (.slice xo kids.len xc) hM (fun _ h => h.elim) (hx.keepF (P.kept.trans hk)) hroot hwell)
      have HVA := fun W' (hk : Keeps (fun _ => False) X W') => hide (hu.keepF (P.kept.trans hk))
      clear hT hF hf hx hu SB P hdone hE hR htp hv hS hroot hwell
      generalize (kindP S op s kids).1.t = T at *
      generalize (kindP S op s kids).1.o = O at *
      generalize hB : nodeV S op n s kids h vals = B at *
      obtain ⟨Bk, Bn, Bx⟩ := B
      simp only [ValA.v] at HTy ⊢
      go_enter Tryz.func13, Tryz.ntmps13
      go_wp2_with fail
      refine (unhide HTy).mono ?_
      rintro e w1 ⟨rfl, hk1⟩
      have s1 := unhide HSB _ hk1.any
      have HK1 := hide hk1
      clear hk1
      go_wp2_with fail
      refine (unhide (HCR _ (unhide HK1))).mono ?_
      rintro e w2 ⟨rfl, hk2⟩
      have s2 := unhide HSB _ ((unhide HK1).trans hk2).any
      have HK2 := hide ((unhide HK1).trans hk2)
      clear hk2 s0 s1
      go_wp2_with fail
      have HC1 := unhide (HNM w2.drew (unhide HK2).drew)
      have HC1 := hide HC1
      go_region_held3 (fun w' => w'.cell? ⟨w.heap.size, 0, none⟩ = some (.slice so S.length sc) ∧ w'.cell? ⟨w.heap.size + 1, 0, none⟩ = some (.int .i64 op) ∧ w'.cell? ⟨w.heap.size + 1, 1, none⟩ = some (.int .i64 n) ∧ w'.cell? ⟨w.heap.size + 1, 2, none⟩ = some (str s) ∧ w'.cell? ⟨w.heap.size + 1, 3, none⟩ = some (.slice xo kids.len xc) ∧ w'.cell? ⟨w.heap.size + 1 + 1, 0, none⟩ = some (.bool h) ∧ w'.cell? ⟨w.heap.size + 1 + 1, 1, none⟩ = some (.slice uo vals.length uc))
        (first | with_reducible exact s2 | with_reducible exact r0 | with_reducible exact r1 | with_reducible exact r2 | with_reducible exact r3 | with_reducible exact unhide HSB _ (unhide HK2).drew.any)
        (first
          | (go_at_call 42; refine (unhide HC1).mono ?_; rintro e w3 ⟨m, mb, nn, tab, zv, rfl, hM, hk3⟩; have HM := hide hM; have HK3 := hide ((unhide HK2).drew.trans hk3); have r0 := unhide HSB _ (unhide HK3).any; clear hM hk3)
          | (go_at_call 43; refine (unhide (HEX w3 (unhide HK3) m mb nn tab zv (unhide HM))).mono ?_; rintro e w4 ⟨fv, rfl, hfw, hk4⟩; have HK4 := hide ((unhide HK3).trans hk4); have r1 := unhide HSB _ (unhide HK4).any; obtain ⟨kf, capf, rfl, ef, _, hcall⟩ := hfw; have HCF := hide (hcall w4 h (.slice uo vals.length uc) vals (Keeps.refl _ _) (unhide (HVA _ (unhide HK4))) hrw); unfold Enters at ef; clear hcall hk4)
          | ((with_reducible refine (unhide HCF).mono ?_); rintro e w5 ⟨rfl, hk5⟩; have HK5 := hide ((unhide HK4).trans hk5); have r2 := unhide HSB _ (unhide HK5).any; rw [hB]; have hz := ((unhide HK5).block _ (lt_of_block (unhide HP).z0) id).trans (unhide HP).z0; have m0 := cell_of_blk hz 0; have m1 := cell_of_blk hz 1; have m2 := cell_of_blk hz 2; simp at m0 m1 m2; have g0 := frozen_of_blk hz 0; have g1 := frozen_of_blk hz 1; have g2 := frozen_of_blk hz 2; obtain ⟨o0, o1, o2⟩ := set3v hz (.int .i64 Bk) (.int .i64 Bn) (str Bx); have r3 := unhide HSB _ ((unhide HK5).any.trans (keeps_set3 w5 (w.heap.size + 1 + 1 + 1) (.int .i64 Bk) (.int .i64 Bn) (str Bx))); clear hz hk5; simp only [ValA.v]))
      go_wp2_with fail
      refine bodyPost_ret (v := .tuple #[.agg #[.int .i64 Bk, .int .i64 Bn, str Bx], .int .i64 0]) (by simp [results, go_sem, o0, o1, o2]) rfl ?_
      exact ⟨rfl, unhide HDN _ _ _ _ (unhide HK5)⟩
    · have hv : valueP S op n s kids h vals = (zV, rowE S h vals) := by unfold valueP; rw [if_neg (by simpa using hE), if_pos hR]
      rw [hv]
      rw [htp] at HTy
      have n0 : (rowE S h vals != 0) = true := by simpa using hR
      clear hT hF hf hx hu SB P hdone hE hR htp hv hS hroot hwell
      generalize (kindP S op s kids).1.t = T at *
      generalize (kindP S op s kids).1.o = O at *
      generalize rowE S h vals = R at *
      show Calls _ _ _ _ (fun e w' => e = .returned (.tuple #[.agg #[.int .i64 0, .int .i64 0, .string ⟨#[]⟩], .int .i64 R]) ∧ _)
      go_enter Tryz.func13, Tryz.ntmps13
      go_wp2_with fail
      refine (unhide HTy).mono ?_
      rintro e w1 ⟨rfl, hk1⟩
      have s1 := unhide HSB _ hk1.any
      have HK1 := hide hk1
      clear hk1
      go_wp2_with fail
      refine (unhide (HCR _ (unhide HK1))).mono ?_
      rintro e w2 ⟨rfl, hk2⟩
      have HK2 := hide ((unhide HK1).trans hk2)
      clear hk2 s0 s1
      have hz := ((unhide HK2).block _ (lt_of_block (unhide HP).z0) id).trans (unhide HP).z0
      have m0 := cell_of_blk hz 0
      have m1 := cell_of_blk hz 1
      have m2 := cell_of_blk hz 2
      simp at m0 m1 m2
      have g0 := frozen_of_blk hz 0
      have g1 := frozen_of_blk hz 1
      have g2 := frozen_of_blk hz 2
      obtain ⟨o0, o1, o2⟩ := set3v hz (.int .i64 0) (.int .i64 0) (.string ⟨#[]⟩)
      clear hz
      go_wp2_with fail
      refine bodyPost_ret (v := .tuple #[.agg #[.int .i64 0, .int .i64 0, .string ⟨#[]⟩], .int .i64 R]) (by simp [results, go_sem, o0, o1, o2]) rfl ?_
      exact ⟨rfl, unhide HDN _ _ _ _ (unhide HK2)⟩
  · have hv : valueP S op n s kids h vals = (zV, (typeP S op n s kids).2.2) := by unfold valueP; rw [if_pos hE]
    rw [hv]
    have n0 : ((typeP S op n s kids).2.2 != 0) = true := by simpa using hE
    clear hT hF hf hx hu SB P hdone hE hv HCR
    generalize typeP S op n s kids = T at *
    obtain ⟨T1, T2, R⟩ := T
    simp only [typV] at HTy n0 ⊢
    show Calls _ _ _ _ (fun e w' => e = .returned (.tuple #[.agg #[.int .i64 0, .int .i64 0, .string ⟨#[]⟩], .int .i64 R]) ∧ _)
    go_enter Tryz.func13, Tryz.ntmps13
    go_wp2_with fail
    refine (unhide HTy).mono ?_
    rintro e w1 ⟨rfl, hk1⟩
    have HK2 := hide hk1
    clear hk1
    have hz := ((unhide HK2).block _ (lt_of_block (unhide HP).z0) id).trans (unhide HP).z0
    have m0 := cell_of_blk hz 0
    have m1 := cell_of_blk hz 1
    have m2 := cell_of_blk hz 2
    simp at m0 m1 m2
    have g0 := frozen_of_blk hz 0
    have g1 := frozen_of_blk hz 1
    have g2 := frozen_of_blk hz 2
    obtain ⟨o0, o1, o2⟩ := set3v hz (.int .i64 0) (.int .i64 0) (.string ⟨#[]⟩)
    clear hz
    go_wp2_with fail
    refine bodyPost_ret (v := .tuple #[.agg #[.int .i64 0, .int .i64 0, .string ⟨#[]⟩], .int .i64 R]) (by simp [results, go_sem, o0, o1, o2]) rfl ?_
    exact ⟨rfl, unhide HDN _ _ _ _ (unhide HK2)⟩
end Go.Proofs.YtiinohibmcefkaaGreatDoor
namespace Go.Proofs.YtiinohibmcefkaaGreatDoor
open Go.RowKit Go.Maps

def pick (S : List FieldA) (p : Txt → Bool) : List Txt := (S.map FieldA.name).filter p
end Go.Proofs.YtiinohibmcefkaaGreatDoor
