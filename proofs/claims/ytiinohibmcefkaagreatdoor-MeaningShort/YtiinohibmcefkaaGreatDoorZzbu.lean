import Derived.Test.YtiinohibmcefkaaGreatDoorZzbm
import Derived.Test.YtiinohibmcefkaaGreatDoorZzbl
import Derived.Test.YtiinohibmcefkaaGreatDoorZzbj
import Derived.Handy
import Derived.Deep.DeepCutAuto
namespace Go.Proofs.YtiinohibmcefkaaGreatDoor
open Go.RowKit Go.Maps

/-- A statement without its expression. -/
def stB (k : Int) (nm : Txt) : Value := .agg #[.int .i64 k, str nm, .slice none 0 0, .slice none 0 0, .slice none 0 0]
/-- A value that is this statement. -/
def isSt (w : World) (v : Value) (k : Int) (nm : Txt) (e : XE) : Prop := ∃ xv, v = .agg #[.int .i64 k, str nm, xv, .slice none 0 0, .slice none 0 0] ∧ isL w xv (e.el .nil)
/-- A slice of these statements. -/
def isP (w : World) (v : Value) (l : SL) : Prop := SlS (argZ w.heap.size) w 0 v l
theorem isP.keep {w w' : World} {v : Value} {l : SL} (h : isP w v l) (hk : Keeps (fun _ => False) w w') : isP w' v l := sls_top h hk
theorem isP_nil (w : World) : isP w (.slice none 0 0) .nil := ⟨none, 0, rfl, Nat.le_refl _, fun h => absurd rfl h⟩
set_option maxRecDepth 100000 in
theorem stmt_v (k : Int) (nm : Txt) (w : World) : Calls Tryz.prog 15 #[.int .i64 k, str nm] w fun e w' => e = .returned (stB k nm) ∧ Keeps (fun _ => False) w w' := by
  have gB := heap_alloc_new w (.cells #[.int .i64 k, str nm, .slice none 0 0, .slice none 0 0, .slice none 0 0] 39)
  obtain ⟨y0, y1, y2, y3, y4⟩ := cl5 gB
  have HK := hide (kAlloc w (.cells #[.int .i64 k, str nm, .slice none 0 0, .slice none 0 0, .slice none 0 0] 39))
  unfold stB
  go_enter Tryz.func15, Tryz.ntmps15
  go_wp2_with fail
  refine bodyPost_ret (v := .agg #[.int .i64 k, str nm, .slice none 0 0, .slice none 0 0, .slice none 0 0]) (by simp [results, go_sem, y0, y1, y2, y3, y4]) rfl ?_
  exact ⟨rfl, unhide HK⟩
set_option maxRecDepth 100000 in
theorem with_v (k : Int) (nm : Txt) (e : XE) (xv : Value) (w : World) (hx : SlE (argZ w.heap.size) w 0 xv e.kids) : Calls Tryz.prog 16 #[stB k nm, exV e.op e.n e.s xv] w fun r w' => ∃ v, r = .returned v ∧ isSt w' v k nm e ∧ Keeps (fun _ => False) w w' := by
  obtain ⟨xo, xc, rfl, _⟩ := hx.head
  unfold exV stB
  obtain ⟨P1, h1⟩ : ∃ P, w.alloc (.cells #[.int .i64 k, str nm, .slice (some ⟨w.heap.size + 1 + 1 + 1, 0, none⟩) 1 1, .slice none 0 0, .slice none 0 0] 39) = P := ⟨_, rfl⟩
  obtain ⟨P2, h2⟩ : ∃ P, P1.alloc (.cells #[.int .i64 e.op, .int .i64 e.n, str e.s, .slice xo e.kids.len xc] 27) = P := ⟨_, rfl⟩
  obtain ⟨P3, h3⟩ : ∃ P, P2.alloc (.cells #[.int .i64 k, str nm, .slice (some ⟨w.heap.size + 1 + 1 + 1, 0, none⟩) 1 1, .slice none 0 0, .slice none 0 0] 39) = P := ⟨_, rfl⟩
  have k1 : Keeps (fun _ => False) w P1 := h1 ▸ kAlloc w _
  have k2 : Keeps (fun _ => False) P1 P2 := h2 ▸ kAlloc P1 _
  have k3 : Keeps (fun _ => False) P2 P3 := h3 ▸ kAlloc P2 _
  have s1 : P1.heap.size = w.heap.size + 1 := by rw [← h1]; simp
  have s2 : P2.heap.size = w.heap.size + 1 + 1 := by rw [← h2]; simp [s1]
  have s3 : P3.heap.size = w.heap.size + 1 + 1 + 1 := by rw [← h3]; simp [s2]
  have hl := isL_new (w := P3) (l := e.el .nil) (xs := [.int .i64 e.op, .int .i64 e.n, str e.s, .slice xo e.kids.len xc]) ⟨_, _, rfl, sl_top hx ((k1.trans k2).trans k3), rfl⟩
  rw [s3] at hl
  have gB : (P3.alloc (.cells #[.int .i64 e.op, .int .i64 e.n, str e.s, .slice xo e.kids.len xc] 27)).heap[w.heap.size + 1 + 1]? = some (.cells #[.int .i64 k, str nm, .slice (some ⟨w.heap.size + 1 + 1 + 1, 0, none⟩) 1 1, .slice none 0 0, .slice none 0 0] 39 (0, 0)) := by
    have g := heap_alloc_new P2 (.cells #[.int .i64 k, str nm, .slice (some ⟨w.heap.size + 1 + 1 + 1, 0, none⟩) 1 1, .slice none 0 0, .slice none 0 0] 39)
    rw [h3, s2] at g
    exact blk_keep g (kAlloc P3 _)
  obtain ⟨y0, y1, y2, y3, y4⟩ := cl5 gB
  have HK := hide (((k1.trans k2).trans k3).trans (kAlloc P3 (.cells #[.int .i64 e.op, .int .i64 e.n, str e.s, .slice xo e.kids.len xc] 27)))
  have HL := hide hl
  subst h3 h2 h1
  clear gB hl k1 k2 k3 s1 s2 s3 hx
  go_enter Tryz.func16, Tryz.ntmps16
  go_wp2_with fail
  refine bodyPost_ret (v := .agg #[.int .i64 k, str nm, .slice (some ⟨w.heap.size + 1 + 1 + 1, 0, none⟩) 1 1, .slice none 0 0, .slice none 0 0]) (by simp [results, go_sem, y0, y1, y2, y3, y4]) rfl ?_
  exact ⟨_, rfl, ⟨_, rfl, unhide HL⟩, unhide HK⟩
/-- How alike answers. -/
def AlPost (R1 R2 : (Bool × List ValA) × Int) (w : World) (e : Ending) (w' : World) : Prop := ∃ r : Bool, e = .returned (.bool r) ∧ ((R1.2 = 0 → R2.2 = 0 → R1.1 = R2.1) → r = true) ∧ Keeps (fun _ => False) w w'
set_option maxRecDepth 100000 in
set_option maxHeartbeats 2000000 in
theorem alike_v (S : List FieldA) (h : Bool) (vals : List ValA) (p q : SL) (hp : p.size ≤ 4294967294) (hq : q.size ≤ 4294967294) (sv u pv qv : Value) (w : World) (hT : Types w) (hF : Forms w) (hf : FldsAt w sv S) (hu : ValsAt w u vals) (hpv : isP w pv p) (hqv : isP w qv q) :
    Calls Tryz.prog 17 #[.agg #[sv], .agg #[.bool h, u], pv, qv] w (AlPost (runP S p h vals) (runP S q h vals) w) := by
  obtain ⟨so, sc, rfl⟩ := RowAt.form hf
  obtain ⟨uo, uc, rfl⟩ := RowAt.form hu
  have hpv' := hpv
  have hqv' := hqv
  obtain ⟨po, pc, rfl, _⟩ := SlS.head hpv
  obtain ⟨qo, qc, rfl, _⟩ := SlS.head hqv
  obtain ⟨X, hX, hkX, g0, g1⟩ := boxA2 w #[.slice so S.length sc] #[.bool h, .slice uo vals.length uc] 24 31
  have HKX := hide hkX
  have H0 := hide (fun (W' : World) (hk : Keeps (fun _ => False) X W') => blk_keep g0 hk)
  have H1 := hide (fun (W' : World) (hk : Keeps (fun _ => False) X W') => blk_keep g1 hk)
  have HP := hide (mrun_v _ S p hp h vals (.slice so S.length sc) (.slice uo vals.length uc) (.slice po p.len pc) X 0 (hT.keepF hkX) (hF.keepF hkX) (hf.keepF hkX) (hu.keepF hkX) (SlS.keepF hpv' hkX))
  have HQ := hide (fun (W' : World) (hk : Keeps (fun _ => False) X W') => mrun_v _ S q hq h vals (.slice so S.length sc) (.slice uo vals.length uc) (.slice qo q.len qc) W' 0 (hT.keepF (hkX.trans hk)) (hF.keepF (hkX.trans hk)) (hf.keepF (hkX.trans hk)) (hu.keepF (hkX.trans hk)) (SlS.keepF hqv' (hkX.trans hk)))
  have HRL : Hid ((runP S p h vals).1.2.length ≤ maxLen) := by
    have := chain_len S [p] h vals
    show (chainP S [p] h vals).1.2.length ≤ maxLen
    unfold maxLen
    omega
  have p0 := cl1 g0
  obtain ⟨r0, r1⟩ := cl2 g1
  clear hT hF hf hu hpv hqv hpv' hqv' g0 g1 hkX hp hq
  generalize runP S p h vals = R1 at *
  generalize runP S q h vals = R2 at *
  obtain ⟨⟨h1, v1⟩, E1⟩ := R1
  obtain ⟨⟨h2, v2⟩, E2⟩ := R2
  go_enter Tryz.func17, Tryz.ntmps17
  go_wp2_with fail
  refine (unhide HP).mono ?_
  rintro e w1 ⟨ro, rc, rfl, hown1, hk1⟩
  have kA := kAlloc w1 (.cells #[.bool h1, .slice ro v1.length rc] 31)
  have HB1 := hide (row_box (h := h1) hown1)
  have HX1 := hide (hk1.trans kA)
  clear hk1 kA hown1 p0 r0 r1
  have p0 := cl1 (unhide H0 _ (unhide HX1))
  obtain ⟨r0, r1⟩ := cl2 (unhide H1 _ (unhide HX1))
  generalize hY1 : w1.alloc (.cells #[.bool h1, .slice ro v1.length rc] 31) = Y1 at *
  go_wp2_with fail
  refine (unhide HQ Y1 (unhide HX1)).mono ?_
  rintro e w2 ⟨no, nc, rfl, hown2, hk2⟩
  have kA := kAlloc w2 (.cells #[.bool h2, .slice no v2.length nc] 31)
  obtain ⟨b0, b1, hb2⟩ := row_box (h := h2) hown2 _ (Keeps.refl _ _)
  obtain ⟨a0, a1, ha2⟩ := unhide HB1 _ (hk2.trans kA)
  have HX2 := hide ((unhide HX1).trans (hk2.trans kA))
  have HEQ := hide (eqRow_v _ h1 h2 _ _ v1 v2 (unhide ha2) (unhide hb2) (unhide HRL))
  clear hk2 kA hown2 p0 r0 r1 ha2 hb2
  generalize hY2 : w2.alloc (.cells #[.bool h2, .slice no v2.length nc] 31) = Y2 at *
  by_cases e1 : E1 = 0
  · subst e1
    by_cases e2 : E2 = 0
    · subst e2
      generalize hRB : (decide (h1 = h2) && decide (v1 = v2)) = RB at *
      have HRB := hide hRB
      clear hRB
      go_wp2_with fail
      refine (unhide HEQ).mono ?_
      rintro e w3 ⟨rfl, hk3⟩
      have HKE := hide (((unhide HKX).trans (unhide HX2)).trans hk3)
      clear hk3
      go_wp2_with fail
      go_ret
      refine ⟨RB, rfl, fun hh => ?_, unhide HKE⟩
      rw [← unhide HRB]
      exact eq_pair (hh rfl rfl)
    · have n2 : (E2 != 0) = true := by simpa using e2
      clear e2
      go_wp2_with fail
      go_ret
      exact ⟨true, rfl, fun _ => rfl, (unhide HKX).trans (unhide HX2)⟩
  · have n1 : (E1 != 0) = true := by simpa using e1
    clear e1
    go_wp2_with fail
    go_ret
    exact ⟨true, rfl, fun _ => rfl, (unhide HKX).trans (unhide HX2)⟩
theorem box_keep {N g : Nat} {w w' : World} {v : Value} {l : EL} (hN : N ≤ g) (hg : w.heap[g]? = some zBox) (hks : Keeps (fun q => q = g) w w') (h : SlE (boxZ N) w 0 v l) : SlE (boxZ N) w' 0 v l := by
  refine SlE.keep (Q := fun _ => True) (fun _ _ _ _ => trivial) hks (fun s k _ hk1 hG => ?_) trivial h
  have hne : k ≠ g := fun e => by
    subst e
    rcases hG with q | q
    · omega
    · exact q hg
  refine ⟨hne, hG.imp id (fun q => ?_)⟩
  rw [hks.block k hk1 hne]
  exact q
set_option maxRecDepth 100000 in
set_option maxHeartbeats 2000000 in
theorem plainOr_v (f : FieldA) (o : XE) (ov : Value) (w : World) (ho : SlE (argZ w.heap.size) w 0 ov o.kids) : Calls Tryz.prog 19 #[.agg #[str f.name, .int .i64 f.type, .bool f.opt], exV o.op o.n o.s ov] w fun r w' => ∃ v, r = .returned v ∧ isE w' v (plainOrX f o) ∧ Keeps (fun _ => False) w w' := by
  obtain ⟨xo, xc, rfl, _⟩ := ho.head
  obtain ⟨nm, ft, fo⟩ := f
  unfold exV
  obtain ⟨X0, e0⟩ : ∃ P, w.alloc (.cells #[str nm, .int .i64 ft, .bool fo] 47) = P := ⟨_, rfl⟩
  obtain ⟨X1, e1⟩ : ∃ P, X0.alloc (.cells #[.int .i64 o.op, .int .i64 o.n, str o.s, .slice xo o.kids.len xc] 27) = P := ⟨_, rfl⟩
  have k0 : Keeps (fun _ => False) w X0 := e0 ▸ kAlloc w _
  have k1 : Keeps (fun _ => False) X0 X1 := e1 ▸ kAlloc X0 _
  have s0 : X0.heap.size = w.heap.size + 1 := by rw [← e0]; simp
  have s1 : X1.heap.size = w.heap.size + 1 + 1 := by rw [← e1]; simp [s0]
  cases fo with
  | false =>
    have gB : ((X1.alloc (.cells #[.int .i64 4, .int .i64 0, .string ⟨nm.toArray⟩, .slice none 0 0] 27)).alloc (.cells #[.int .i64 4, .int .i64 0, str nm, .slice none 0 0] 27)).heap[w.heap.size + 1 + 1]? = some (.cells #[.int .i64 4, .int .i64 0, .string ⟨nm.toArray⟩, .slice none 0 0] 27 (0, 0)) := by
      have g := heap_alloc_new X1 (.cells #[.int .i64 4, .int .i64 0, .string ⟨nm.toArray⟩, .slice none 0 0] 27)
      rw [s1] at g
      exact blk_keep g (kAlloc _ _)
    obtain ⟨y0, y1, y2, y3⟩ := cl4 gB
    have HK := hide (((k0.trans k1).trans (kAlloc X1 (.cells #[.int .i64 4, .int .i64 0, .string ⟨nm.toArray⟩, .slice none 0 0] 27))).trans (kAlloc _ (.cells #[.int .i64 4, .int .i64 0, str nm, .slice none 0 0] 27)))
    clear gB k0 k1 s0 s1 ho
    subst e1 e0
    go_enter Tryz.func19, Tryz.ntmps19
    go_wp2_with fail
    refine bodyPost_ret (v := exV 4 0 nm (.slice none 0 0)) (by simp [results, go_sem, y0, y1, y2, y3, exV, str]) rfl ?_
    exact ⟨_, rfl, ⟨_, rfl, slE_nil _ _ _⟩, unhide HK⟩
  | true =>
    obtain ⟨X2, e2⟩ : ∃ P, X1.alloc (.cells #[.int .i64 0, .int .i64 0, .string ⟨#[]⟩, .slice none 0 0] 27) = P := ⟨_, rfl⟩
    obtain ⟨X3, e3⟩ : ∃ P, X2.alloc (.cells #[.int .i64 4, .int .i64 0, str nm, .slice none 0 0] 27) = P := ⟨_, rfl⟩
    have k2 : Keeps (fun _ => False) X1 X2 := e2 ▸ kAlloc X1 _
    have k3 : Keeps (fun _ => False) X2 X3 := e3 ▸ kAlloc X2 _
    have s2 : X2.heap.size = w.heap.size + 1 + 1 + 1 := by rw [← e2]; simp [s1]
    have s3 : X3.heap.size = w.heap.size + 1 + 1 + 1 + 1 := by rw [← e3]; simp [s2]
    have kw3 := ((k0.trans k1).trans k2).trans k3
    have gz : X3.heap[w.heap.size + 1 + 1]? = some zBox := by
      have g := heap_alloc_new X1 (.cells #[.int .i64 0, .int .i64 0, .string ⟨#[]⟩, .slice none 0 0] 27)
      rw [e2, s1] at g
      exact blk_keep g k3
    have hl : SlE (boxZ w.heap.size) (X3.alloc (.cells #[.int .i64 4, .int .i64 0, str nm, .slice none 0 0, .int .i64 o.op, .int .i64 o.n, str o.s, .slice xo o.kids.len xc] 27)) 0 (.slice (some ⟨w.heap.size + 1 + 1 + 1 + 1, 0, none⟩) 2 2) ((fldX nm).el (o.el .nil)) := by
      have ho3 : SlE (boxZ w.heap.size) X3 0 (.slice xo o.kids.len xc) o.kids := (ho.keepF kw3).zone (fun _ _ => trivial) (fun k _ (q : k < w.heap.size) => Or.inl q)
      have hE : EsIn (boxZ w.heap.size) X3 ((fldX nm).el (o.el .nil)) [.int .i64 4, .int .i64 0, str nm, .slice none 0 0, .int .i64 o.op, .int .i64 o.n, str o.s, .slice xo o.kids.len xc] := ⟨_, _, rfl, ⟨none, 0, rfl, Nat.le_refl _, fun h => absurd rfl h⟩, ⟨_, _, rfl, ho3, rfl⟩⟩
      obtain ⟨HB, hxb, hxc⟩ := boxed X3 #[.int .i64 4, .int .i64 0, str nm, .slice none 0 0, .int .i64 o.op, .int .i64 o.n, str o.s, .slice xo o.kids.len xc] 27
      have hcc : ∀ j z, ([.int .i64 4, .int .i64 0, str nm, .slice none 0 0, .int .i64 o.op, .int .i64 o.n, str o.s, .slice xo o.kids.len xc] : List Value)[j]? = some z → (X3.alloc (.cells #[.int .i64 4, .int .i64 0, str nm, .slice none 0 0, .int .i64 o.op, .int .i64 o.n, str o.s, .slice xo o.kids.len xc] 27)).cell? ⟨X3.heap.size, 0 + j, none⟩ = some z := fun j z hz => by
        rw [Nat.zero_add]
        exact hxc j z (by simpa using hz)
      have hres := (hE.keepF (unhide HB)).exZ (fun _ _ => trivial) hxb (Or.inr (no_box (by simp) hcc)) hcc
      rw [s3] at hres
      exact ⟨_, _, rfl, Nat.le_refl _, fun _ => ⟨w.heap.size + 1 + 1 + 1 + 1, 0, rfl, trivial, hres⟩⟩
    have k4 := kAlloc X3 (.cells #[.int .i64 4, .int .i64 0, str nm, .slice none 0 0, .int .i64 o.op, .int .i64 o.n, str o.s, .slice xo o.kids.len xc] 27)
    have HOP := hide (op_z (boxZ w.heap.size) (fun _ _ => trivial) 20 ((fldX nm).el (o.el .nil)) (by simp [XE.el, EL.len]) _ _ hl)
    have HKW := hide (kw3.trans k4)
    have HGZ := hide (blk_keep gz k4)
    clear hl gz kw3 k0 k1 k2 k3 k4 s0 s1 s2 s3 ho
    subst e3 e2 e1 e0
    go_enter Tryz.func19, Tryz.ntmps19
    go_wp2_with fail
    refine (unhide HOP).mono ?_
    rintro e w5 ⟨ao, c, xs, rfl, hown, hes, hk5⟩
    rw [show ((fldX nm).el (o.el .nil)).len = 2 from rfl] at hown ⊢
    unfold exV
    have hz := blk_keep (unhide HGZ) hk5
    unfold zBox at hz
    obtain ⟨m0, m1, m2, m3⟩ := cl4 hz
    have g0 := frozen_of_blk hz 0
    have g1 := frozen_of_blk hz 1
    have g2 := frozen_of_blk hz 2
    have g3 := frozen_of_blk hz 3
    have z := set4b hz (.int .i64 20) (.int .i64 0) (.string ⟨#[]⟩) (.slice ao 2 c)
    obtain ⟨o0, o1, o2, o3⟩ := cl4 z
    have kq := keeps_set4 w5 (w.heap.size + 1 + 1) (.int .i64 20) (.int .i64 0) (.string ⟨#[]⟩) (.slice ao 2 c)
    have hkl : SlE (boxZ w.heap.size) w5 0 (.slice ao 2 c) ((fldX nm).el (o.el .nil)) := by
      refine ⟨ao, c, rfl, (rowAt_own hown).room _ _ _ rfl, fun h0 => ?_⟩
      obtain ⟨g, goff, gc, e, hg, hgc⟩ := (rowAt_own hown).cells (by omega)
      simp at e
      obtain ⟨rfl, rfl⟩ := e
      have hlen := hes.length
      exact ⟨g, goff, rfl, trivial, (hes.keepF hk5).exZ (fun _ _ => trivial) hg (Or.inr (no_box (by rw [hlen]; simp [XE.el, EL.len]) hgc)) hgc⟩
    have HL := hide ((box_keep (by omega) hz kq hkl).argUp (Nat.le_refl _) 0)
    have HKE := hide (((unhide HKW).trans hk5).narrow kq (fun q e => by omega))
    clear hz z kq hkl hown hes hk5
    go_wp2_with fail
    refine bodyPost_ret (v := exV 20 0 [] (.slice ao 2 c)) (by simp [results, go_sem, o0, o1, o2, o3, exV]) rfl ?_
    exact ⟨_, rfl, ⟨_, rfl, unhide HL⟩, unhide HKE⟩
end Go.Proofs.YtiinohibmcefkaaGreatDoor
