import Derived.Test.YtjhppnecadnekaaDoorJs
namespace Go.Proofs.YtjhppnecadnekaaDoor
open Go.RowKit Go.Maps

/-- The number of the first statement of a list that goes wrong on one of two rows; -1: none does. -/
def firstW (S : List FieldA) (ra rb : List Int) : SL → Nat → Int
  | .nil, _ => -1
  | .cons op f x _ _ r, k => if wrongG S ra op f x || wrongG S rb op f x then (k : Int) else firstW S ra rb r (k + 1)
theorem firstW_low (S : List FieldA) (ra rb : List Int) : ∀ (l : SL) (k : Nat), firstW S ra rb l k = -1 ∨ ((k : Int) ≤ firstW S ra rb l k ∧ firstW S ra rb l k < (k : Int) + l.len)
  | .nil, _ => Or.inl rfl
  | .cons op f x t e r, k => by
    unfold firstW
    split
    · right; simp only [SL.len]; omega
    · rcases firstW_low S ra rb r (k + 1) with h | h
      · exact Or.inl h
      · right; simp only [SL.len]; omega
theorem firstW_shift (S : List FieldA) (ra rb : List Int) : ∀ (l : SL) (k d : Nat), firstW S ra rb l (k + d) = if 0 ≤ firstW S ra rb l k then firstW S ra rb l k + d else -1
  | .nil, _, _ => rfl
  | .cons op f x t e r, k, d => by
    unfold firstW
    split
    · rw [if_pos (by omega)]; omega
    · rw [show k + d + 1 = k + 1 + d by omega]
      exact firstW_shift S ra rb r (k + 1) d
theorem firstW_app (S : List FieldA) (ra rb : List Int) : ∀ (l m : SL) (k : Nat), firstW S ra rb (l.app m) k = if 0 ≤ firstW S ra rb l k then firstW S ra rb l k else firstW S ra rb m (k + l.len)
  | .nil, m, k => by simp [SL.app, firstW, SL.len]
  | .cons op f x t e r, m, k => by
    have ih := firstW_app S ra rb r m (k + 1)
    have hc : firstW S ra rb (.cons op f x t e r) k = if wrongG S ra op f x || wrongG S rb op f x then (k : Int) else firstW S ra rb r (k + 1) := rfl
    show (if wrongG S ra op f x || wrongG S rb op f x then (k : Int) else firstW S ra rb (r.app m) (k + 1)) = _
    by_cases h : (wrongG S ra op f x || wrongG S rb op f x) = true
    · rw [if_pos h] at hc ⊢
      rw [hc, if_pos (by omega)]
    · rw [if_neg h] at hc ⊢
      rw [hc, ih, show (SL.cons op f x t e r).len = r.len + 1 from rfl, show k + 1 + r.len = k + (r.len + 1) by omega]
/-- One round of the loop. -/
theorem firstW_step (S : List FieldA) (ra rb : List Int) (op : Int) (f : Txt) (x : EL) (t e r : SL) (n : Nat) :
    firstW S ra rb (flatS (.cons op f x t e r)) n = if wrongG S ra op f x || wrongG S rb op f x then (n : Int) else if 0 ≤ firstW S ra rb (flatS t) 0 then ((n + 1 : Nat) : Int) + firstW S ra rb (flatS t) 0
      else if 0 ≤ firstW S ra rb (flatS e) 0 then ((n + 1 + countS t : Nat) : Int) + firstW S ra rb (flatS e) 0 else firstW S ra rb (flatS r) (n + 1 + countS t + countS e) := by
  rw [flatS]
  rw [firstW]
  split
  · rfl
  · rw [firstW_app, firstW_app, flatS_len, flatS_len]
    have h1 := firstW_shift S ra rb (flatS t) 0 (n + 1)
    have h2 := firstW_shift S ra rb (flatS e) 0 (n + 1 + countS t)
    rw [Nat.zero_add] at h1 h2
    rw [h1, h2]
    by_cases a : 0 ≤ firstW S ra rb (flatS t) 0
    · rw [if_pos a, if_pos a, if_pos (by omega)]; omega
    · rw [if_neg a, if_neg a, if_neg (by omega)]
      by_cases c : 0 ≤ firstW S ra rb (flatS e) 0
      · rw [if_pos c, if_pos c, if_pos (by omega)]; omega
      · rw [if_neg c, if_neg c, if_neg (by omega)]
/-- What the walk over a program answers. -/
def FPost (S : List FieldA) (ra rb : List Int) (l : SL) (w : World) (e : Ending) (w' : World) : Prop := e = .returned (.tuple #[.int .i64 (firstW S ra rb (flatS l) 0), .int .i64 (countS l : Int)]) ∧ Keeps (fun _ => False) w w'

set_option maxRecDepth 100000 in
set_option maxHeartbeats 32000000 in
theorem first_v (Z : Zone) (S : List FieldA) (hS : schemaB S = true) (so : Option Addr) (sc : Nat) (A B : List ValA) (ro bo : Option Addr) (rc bc : Nat) (hA : A.length = S.length ∨ A.length = 0) (hB : B.length = S.length ∨ B.length = 0) (N : Nat) : ∀ (l : SL), l.size < N → l.size ≤ 4294967294 → ∀ (w : World) (up : Nat) (v : Value), SlS Z w up v l → FldsAt w (.slice so S.length sc) S → ValsAt w (.slice ro A.length rc) A → ValsAt w (.slice bo B.length bc) B → wellS l = true →
    Calls Tryd.prog 13 #[.agg #[.slice so S.length sc], .slice ro A.length rc, .slice bo B.length bc, v] w (FPost S (A.map ValA.kind) (B.map ValA.kind) l w) := by
  induction N with
  | zero => intro l h; omega
  | succ N ih =>
    intro l hsz hlen' w up v hSl hf hva hvb hwl
    have hlen : l.len ≤ 4294967294 := by have := SL.len_le l; omega
    have hcl : countS l ≤ 4294967294 := Nat.le_trans (countS_le l) hlen'
    obtain ⟨ao, cap, b, off, rfl, hcap, ha, hx⟩ := hSl.open
    obtain ⟨HBk, hxb, hxc⟩ := boxedT w #[.slice so S.length sc] 24
    have HXC : Hid (∀ W, Keeps (fun _ => False) (w.alloc (.cells #[.slice so S.length sc] 24)) W → W.cell? ⟨w.heap.size, 0, none⟩ = some (.slice so S.length sc)) := fun W hk => (hk.cell hxb id).trans (hxc 0 _ rfl)
    have IH := hide ih
    have HX := hide hx
    have HA := hide ha
    have HF := hide hf
    have HVA := hide hva
    have HVB := hide hvb
    have HWL := hide hwl
    have HHA := hide hA
    have HHB := hide hB
    clear hSl ih hx ha hxc hf hva hvb hwl hA hB
    unfold FPost
    obtain ⟨ra, hra⟩ : ∃ r, r = A.map ValA.kind := ⟨_, rfl⟩
    obtain ⟨rb, hrb⟩ : ∃ r, r = B.map ValA.kind := ⟨_, rfl⟩
    rw [← hra, ← hrb]
    have HRA := hide hra
    have HRB := hide hrb
    clear hra hrb
    go_enter Tryd.func13, Tryd.ntmps13
    go_wp2_with fail
    go_loopw [10, 11, 12] (fun nv bv i wr => ∃ (rest : SL) (k n : Nat) (bad : Int), nv = .int .i64 (n : Int) ∧ bv = .int .i64 bad ∧ i = .int .i64 k ∧ k + rest.len = l.len ∧ rest.size ≤ l.size ∧ wellS rest = true ∧ n + countS rest = countS l ∧ (bad = -1 ∨ 0 ≤ bad ∧ bad ≤ 4294967294) ∧ (if 0 ≤ bad then bad else firstW S ra rb (flatS rest) n) = firstW S ra rb (flatS l) 0 ∧ Keeps (fun _ => False) (w.alloc (.cells #[.slice so S.length sc] 24)) wr ∧ StIn Z w rest b (off + k * 5)) (fun _ _ i _ => l.len - (intOf i).toNat)
    case atStart => exact ⟨l, 0, 0, -1, rfl, rfl, rfl, by omega, Nat.le_refl _, unhide HWL, by omega, Or.inl rfl, rfl, Keeps.refl _ _, by simpa using unhide HX⟩
    case round =>
      obtain ⟨rest, k, n, bad, rfl, rfl, rfl, hkl, hrs, hwr, hnc, hbad, heq, hkeep, hr⟩ := hrel
      have HK := hide hkeep
      have HEQ := hide heq
      cases rest with
      | nil =>
        simp only [SL.len, countS, Nat.add_zero] at hkl hnc
        have i1 : ¬ (k : Int) < (l.len : Int) := by omega
        have HNC := hide hnc
        clear hr heq hkeep hnc
        go_wp2_with fail
        refine bodyPost_ret (v := .tuple #[.int .i64 bad, .int .i64 (n : Int)]) (by simp [results, go_sem]) rfl ?_
        refine ⟨?_, (unhide HBk).trans (unhide HK)⟩
        have h := unhide HEQ
        have h2 : bad = firstW S ra rb (flatS l) 0 := by
          rcases hbad with hb | hb
          · rw [if_neg (by omega)] at h
            rw [← h, hb]
            rfl
          · rw [if_pos hb.1] at h
            exact h
        rw [h2, unhide HNC]
      | cons op f x t el rest =>
        obtain ⟨h1, h2, h3, h4, ⟨xv, h5, hxs⟩, ⟨tao, tcap, h6, h7, h8⟩, ⟨eao, ecap, j6, j7, j8⟩, h9⟩ := hr
        simp only [SL.len, SL.size, countS, wellS, Bool.and_eq_true] at hkl hrs hwr hnc
        obtain ⟨hhd, hwx, hwt, hwe, hwrr⟩ := hwr
        obtain ⟨xao, xcap, rfl, hxl⟩ := hxs.head
        obtain ⟨rfl, hp⟩ := (unhide HA) (by omega)
        have HTS : Hid (SlS Z w b (.slice tao t.len tcap) t) := ⟨tao, tcap, rfl, h7, h8⟩
        have HES : Hid (SlS Z w b (.slice eao el.len ecap) el) := ⟨eao, ecap, rfl, j7, j8⟩
        have HR := hide h9
        have HWRR := hide hwrr
        have i1 : (k : Int) < (l.len : Int) := by omega
        have ix0 : (0 : Int) ≤ (k : Int) := by omega
        have QX : ∀ W, Keeps (fun _ => False) (w.alloc (.cells #[.slice so S.length sc] 24)) W → W.cell? ⟨w.heap.size, 0, none⟩ = some (.slice so S.length sc) ∧ W.cell? ⟨b, off + k * 5, none⟩ = some (.int .i64 op) ∧ W.cell? ⟨b, off + k * 5 + 1, none⟩ = some (str f) ∧ W.cell? ⟨b, off + k * 5 + 2, none⟩ = some (.slice xao x.len xcap) ∧ W.cell? ⟨b, off + k * 5 + 3, none⟩ = some (.slice tao t.len tcap) ∧ W.cell? ⟨b, off + k * 5 + 4, none⟩ = some (.slice eao el.len ecap) := fun W hk =>
          ⟨unhide HXC W hk, (((unhide HBk).trans hk).cell h1 id).trans h3, (((unhide HBk).trans hk).cell h1 id).trans h4, (((unhide HBk).trans hk).cell h1 id).trans h5, (((unhide HBk).trans hk).cell h1 id).trans h6, (((unhide HBk).trans hk).cell h1 id).trans j6⟩
        have HQX := hide QX
        have HW1 := hide (fun (W : World) (hk : Keeps (fun _ => False) w W) => wrong_v Z S hS so sc A ro rc (unhide HHA) op f x t el _ (.slice tao t.len tcap) (.slice eao el.len ecap) b W ((unhide HF).keepF hk) ((unhide HVA).keepF hk) (hxs.keepF hk) ⟨_, _, _, _, _, _, rfl, rfl⟩ hhd hwx)
        have HW2 := hide (fun (W : World) (hk : Keeps (fun _ => False) w W) => wrong_v Z S hS so sc B bo bc (unhide HHB) op f x t el _ (.slice tao t.len tcap) (.slice eao el.len ecap) b W ((unhide HF).keepF hk) ((unhide HVB).keepF hk) (hxs.keepF hk) ⟨_, _, _, _, _, _, rfl, rfl⟩ hhd hwx)
        have HW3 := hide (fun (W : World) (hk : Keeps (fun _ => False) w W) => unhide IH t (by omega) (by omega) W b _ ((unhide HTS).keepF hk) ((unhide HF).keepF hk) ((unhide HVA).keepF hk) ((unhide HVB).keepF hk) hwt)
        have HW4 := hide (fun (W : World) (hk : Keeps (fun _ => False) w W) => unhide IH el (by omega) (by omega) W b _ ((unhide HES).keepF hk) ((unhide HF).keepF hk) ((unhide HVA).keepF hk) ((unhide HVB).keepF hk) hwe)
        unfold FPost at HW3 HW4
        rw [firstW_step] at heq
        rw [← unhide HRA] at HW1 HW3 HW4
        rw [← unhide HRB] at HW2 HW3 HW4
        have lt := firstW_low S ra rb (flatS t) 0
        have le := firstW_low S ra rb (flatS el) 0
        rw [flatS_len] at lt le
        obtain ⟨wa, hwa⟩ : ∃ q, q = wrongG S ra op f x := ⟨_, rfl⟩
        obtain ⟨wb, hwb⟩ : ∃ q, q = wrongG S rb op f x := ⟨_, rfl⟩
        obtain ⟨kt, hkt⟩ : ∃ q, q = firstW S ra rb (flatS t) 0 := ⟨_, rfl⟩
        obtain ⟨ke, hke⟩ : ∃ q, q = firstW S ra rb (flatS el) 0 := ⟨_, rfl⟩
        obtain ⟨mt, hmt⟩ : ∃ q, q = countS t := ⟨_, rfl⟩
        obtain ⟨me, hme⟩ : ∃ q, q = countS el := ⟨_, rfl⟩
        rw [← hwa, ← hwb, ← hkt, ← hke, ← hmt, ← hme] at heq
        rw [← hwa] at HW1
        rw [← hwb] at HW2
        rw [← hkt, ← hmt] at HW3 lt
        rw [← hke, ← hme] at HW4 le
        rw [← hmt, ← hme] at hnc
        have HEQ := hide heq
        have hn : n + 1 + mt + me ≤ 4294967294 := by omega
        have hkt2 : -1 ≤ kt ∧ kt ≤ 4294967294 := by omega
        have hke2 : -1 ≤ ke ∧ ke ≤ 4294967294 := by omega
        clear h2 h3 h4 h5 h6 h8 h9 j6 j8 hxs QX heq hwa hwb hkt hke hmt hme hkeep hhd hwx hwt hwe hwrr
        rcases hbad with rfl | hbad
        · cases wa with
          | true =>
            have b2 : ¬ (n : Int) < 0 := by omega
            have b3 : decide ((n : Int) < 0) = false := decide_eq_false b2
            go_wp2_with fail
            have f0 : ∀ m : KW wr, m.wd.cell? ⟨w.heap.size, 0, none⟩ = some (.slice so S.length sc) := fun m => (unhide HQX m.wd ((unhide HK).trans m.kept)).1
            have f1 : ∀ m : KW wr, m.wd.cell? ⟨b, off + k * 5, none⟩ = some (.int .i64 op) := fun m => (unhide HQX m.wd ((unhide HK).trans m.kept)).2.1
            have f2 : ∀ m : KW wr, m.wd.cell? ⟨b, off + k * 5 + 1, none⟩ = some (str f) := fun m => (unhide HQX m.wd ((unhide HK).trans m.kept)).2.2.1
            have f3 : ∀ m : KW wr, m.wd.cell? ⟨b, off + k * 5 + 2, none⟩ = some (.slice xao x.len xcap) := fun m => (unhide HQX m.wd ((unhide HK).trans m.kept)).2.2.2.1
            have f4 : ∀ m : KW wr, m.wd.cell? ⟨b, off + k * 5 + 3, none⟩ = some (.slice tao t.len tcap) := fun m => (unhide HQX m.wd ((unhide HK).trans m.kept)).2.2.2.2.1
            have f5 : ∀ m : KW wr, m.wd.cell? ⟨b, off + k * 5 + 4, none⟩ = some (.slice eao el.len ecap) := fun m => (unhide HQX m.wd ((unhide HK).trans m.kept)).2.2.2.2.2
            have HE := hide (fun (m : KW wr) => kw_of m (unhide HW1 m.wd (((unhide HBk).trans (unhide HK)).trans m.kept)))
            refine region_kept (by kernel_rfl) (by kernel_rfl) ?_
            repeat (go_big_quiet_step ((go_at_call 33; exact unhide HE _)))
            refine wpQuiet_nil ?_
            rintro _ ⟨n1, rfl⟩
            have HK1 := hide ((unhide HK).trans n1.kept)
            clear f0 f1 f2 f3 f4 f5 HE
            go_wp2_with fail
            have f0 : ∀ m : KW n1.wd, m.wd.cell? ⟨w.heap.size, 0, none⟩ = some (.slice so S.length sc) := fun m => (unhide HQX m.wd ((unhide HK1).trans m.kept)).1
            have f1 : ∀ m : KW n1.wd, m.wd.cell? ⟨b, off + k * 5, none⟩ = some (.int .i64 op) := fun m => (unhide HQX m.wd ((unhide HK1).trans m.kept)).2.1
            have f2 : ∀ m : KW n1.wd, m.wd.cell? ⟨b, off + k * 5 + 1, none⟩ = some (str f) := fun m => (unhide HQX m.wd ((unhide HK1).trans m.kept)).2.2.1
            have f3 : ∀ m : KW n1.wd, m.wd.cell? ⟨b, off + k * 5 + 2, none⟩ = some (.slice xao x.len xcap) := fun m => (unhide HQX m.wd ((unhide HK1).trans m.kept)).2.2.2.1
            have f4 : ∀ m : KW n1.wd, m.wd.cell? ⟨b, off + k * 5 + 3, none⟩ = some (.slice tao t.len tcap) := fun m => (unhide HQX m.wd ((unhide HK1).trans m.kept)).2.2.2.2.1
            have f5 : ∀ m : KW n1.wd, m.wd.cell? ⟨b, off + k * 5 + 4, none⟩ = some (.slice eao el.len ecap) := fun m => (unhide HQX m.wd ((unhide HK1).trans m.kept)).2.2.2.2.2
            have HE := hide (fun (m : KW n1.wd) => kw_of m (unhide HW2 m.wd (((unhide HBk).trans (unhide HK1)).trans m.kept)))
            refine region_kept (by kernel_rfl) (by kernel_rfl) ?_
            repeat (go_big_quiet_step ((go_at_call 33; exact unhide HE _)))
            refine wpQuiet_nil ?_
            rintro _ ⟨n2, rfl⟩
            have HK2 := hide ((unhide HK1).trans n2.kept)
            clear f0 f1 f2 f3 f4 f5 HE
            go_wp2_with fail
            have f0 : ∀ m : KW n2.wd, m.wd.cell? ⟨w.heap.size, 0, none⟩ = some (.slice so S.length sc) := fun m => (unhide HQX m.wd ((unhide HK2).trans m.kept)).1
            have f1 : ∀ m : KW n2.wd, m.wd.cell? ⟨b, off + k * 5, none⟩ = some (.int .i64 op) := fun m => (unhide HQX m.wd ((unhide HK2).trans m.kept)).2.1
            have f2 : ∀ m : KW n2.wd, m.wd.cell? ⟨b, off + k * 5 + 1, none⟩ = some (str f) := fun m => (unhide HQX m.wd ((unhide HK2).trans m.kept)).2.2.1
            have f3 : ∀ m : KW n2.wd, m.wd.cell? ⟨b, off + k * 5 + 2, none⟩ = some (.slice xao x.len xcap) := fun m => (unhide HQX m.wd ((unhide HK2).trans m.kept)).2.2.2.1
            have f4 : ∀ m : KW n2.wd, m.wd.cell? ⟨b, off + k * 5 + 3, none⟩ = some (.slice tao t.len tcap) := fun m => (unhide HQX m.wd ((unhide HK2).trans m.kept)).2.2.2.2.1
            have f5 : ∀ m : KW n2.wd, m.wd.cell? ⟨b, off + k * 5 + 4, none⟩ = some (.slice eao el.len ecap) := fun m => (unhide HQX m.wd ((unhide HK2).trans m.kept)).2.2.2.2.2
            have HE := hide (fun (m : KW n2.wd) => kw_of m (unhide HW3 m.wd (((unhide HBk).trans (unhide HK2)).trans m.kept)))
            refine region_kept (by kernel_rfl) (by kernel_rfl) ?_
            repeat (go_big_quiet_step ((go_at_call 13; exact unhide HE _)))
            refine wpQuiet_nil ?_
            rintro _ ⟨n3, rfl⟩
            have HK3 := hide ((unhide HK2).trans n3.kept)
            clear f0 f1 f2 f3 f4 f5 HE
            go_wp2_with fail
            have f0 : ∀ m : KW n3.wd, m.wd.cell? ⟨w.heap.size, 0, none⟩ = some (.slice so S.length sc) := fun m => (unhide HQX m.wd ((unhide HK3).trans m.kept)).1
            have f1 : ∀ m : KW n3.wd, m.wd.cell? ⟨b, off + k * 5, none⟩ = some (.int .i64 op) := fun m => (unhide HQX m.wd ((unhide HK3).trans m.kept)).2.1
            have f2 : ∀ m : KW n3.wd, m.wd.cell? ⟨b, off + k * 5 + 1, none⟩ = some (str f) := fun m => (unhide HQX m.wd ((unhide HK3).trans m.kept)).2.2.1
            have f3 : ∀ m : KW n3.wd, m.wd.cell? ⟨b, off + k * 5 + 2, none⟩ = some (.slice xao x.len xcap) := fun m => (unhide HQX m.wd ((unhide HK3).trans m.kept)).2.2.2.1
            have f4 : ∀ m : KW n3.wd, m.wd.cell? ⟨b, off + k * 5 + 3, none⟩ = some (.slice tao t.len tcap) := fun m => (unhide HQX m.wd ((unhide HK3).trans m.kept)).2.2.2.2.1
            have f5 : ∀ m : KW n3.wd, m.wd.cell? ⟨b, off + k * 5 + 4, none⟩ = some (.slice eao el.len ecap) := fun m => (unhide HQX m.wd ((unhide HK3).trans m.kept)).2.2.2.2.2
            have HE := hide (fun (m : KW n3.wd) => kw_of m (unhide HW4 m.wd (((unhide HBk).trans (unhide HK3)).trans m.kept)))
            refine region_kept (by kernel_rfl) (by kernel_rfl) ?_
            repeat (go_big_quiet_step ((go_at_call 13; exact unhide HE _)))
            refine wpQuiet_nil ?_
            rintro _ ⟨n4, rfl⟩
            have HK4 := hide ((unhide HK3).trans n4.kept)
            clear f0 f1 f2 f3 f4 f5 HE
            go_wp2_with fail
            go_roundw
            case rel =>
              refine ⟨rest, k + 1, n + 1 + mt + me, (n : Int), by push_cast; rfl, rfl, by go_num, by omega, by omega, unhide HWRR, by omega, by omega, ?_, unhide HK4, ?_⟩
              · have h := unhide HEQ
                rw [if_neg (by omega), if_pos (by simp)] at h
                rw [if_pos (by omega)]
                exact h
              · rw [show off + (k + 1) * 5 = off + k * 5 + 5 by omega]
                exact unhide HR
            case measure => simp [intOf]; omega
          | false =>
            cases wb with
            | true =>
              have b2 : ¬ (n : Int) < 0 := by omega
              have b3 : decide ((n : Int) < 0) = false := decide_eq_false b2
              go_wp2_with fail
              have f0 : ∀ m : KW wr, m.wd.cell? ⟨w.heap.size, 0, none⟩ = some (.slice so S.length sc) := fun m => (unhide HQX m.wd ((unhide HK).trans m.kept)).1
              have f1 : ∀ m : KW wr, m.wd.cell? ⟨b, off + k * 5, none⟩ = some (.int .i64 op) := fun m => (unhide HQX m.wd ((unhide HK).trans m.kept)).2.1
              have f2 : ∀ m : KW wr, m.wd.cell? ⟨b, off + k * 5 + 1, none⟩ = some (str f) := fun m => (unhide HQX m.wd ((unhide HK).trans m.kept)).2.2.1
              have f3 : ∀ m : KW wr, m.wd.cell? ⟨b, off + k * 5 + 2, none⟩ = some (.slice xao x.len xcap) := fun m => (unhide HQX m.wd ((unhide HK).trans m.kept)).2.2.2.1
              have f4 : ∀ m : KW wr, m.wd.cell? ⟨b, off + k * 5 + 3, none⟩ = some (.slice tao t.len tcap) := fun m => (unhide HQX m.wd ((unhide HK).trans m.kept)).2.2.2.2.1
              have f5 : ∀ m : KW wr, m.wd.cell? ⟨b, off + k * 5 + 4, none⟩ = some (.slice eao el.len ecap) := fun m => (unhide HQX m.wd ((unhide HK).trans m.kept)).2.2.2.2.2
              have HE := hide (fun (m : KW wr) => kw_of m (unhide HW1 m.wd (((unhide HBk).trans (unhide HK)).trans m.kept)))
              refine region_kept (by kernel_rfl) (by kernel_rfl) ?_
              repeat (go_big_quiet_step ((go_at_call 33; exact unhide HE _)))
              refine wpQuiet_nil ?_
              rintro _ ⟨n1, rfl⟩
              have HK1 := hide ((unhide HK).trans n1.kept)
              clear f0 f1 f2 f3 f4 f5 HE
              go_wp2_with fail
              have f0 : ∀ m : KW n1.wd, m.wd.cell? ⟨w.heap.size, 0, none⟩ = some (.slice so S.length sc) := fun m => (unhide HQX m.wd ((unhide HK1).trans m.kept)).1
              have f1 : ∀ m : KW n1.wd, m.wd.cell? ⟨b, off + k * 5, none⟩ = some (.int .i64 op) := fun m => (unhide HQX m.wd ((unhide HK1).trans m.kept)).2.1
              have f2 : ∀ m : KW n1.wd, m.wd.cell? ⟨b, off + k * 5 + 1, none⟩ = some (str f) := fun m => (unhide HQX m.wd ((unhide HK1).trans m.kept)).2.2.1
              have f3 : ∀ m : KW n1.wd, m.wd.cell? ⟨b, off + k * 5 + 2, none⟩ = some (.slice xao x.len xcap) := fun m => (unhide HQX m.wd ((unhide HK1).trans m.kept)).2.2.2.1
              have f4 : ∀ m : KW n1.wd, m.wd.cell? ⟨b, off + k * 5 + 3, none⟩ = some (.slice tao t.len tcap) := fun m => (unhide HQX m.wd ((unhide HK1).trans m.kept)).2.2.2.2.1
              have f5 : ∀ m : KW n1.wd, m.wd.cell? ⟨b, off + k * 5 + 4, none⟩ = some (.slice eao el.len ecap) := fun m => (unhide HQX m.wd ((unhide HK1).trans m.kept)).2.2.2.2.2
              have HE := hide (fun (m : KW n1.wd) => kw_of m (unhide HW2 m.wd (((unhide HBk).trans (unhide HK1)).trans m.kept)))
              refine region_kept (by kernel_rfl) (by kernel_rfl) ?_
              repeat (go_big_quiet_step ((go_at_call 33; exact unhide HE _)))
              refine wpQuiet_nil ?_
              rintro _ ⟨n2, rfl⟩
              have HK2 := hide ((unhide HK1).trans n2.kept)
              clear f0 f1 f2 f3 f4 f5 HE
              go_wp2_with fail
              have f0 : ∀ m : KW n2.wd, m.wd.cell? ⟨w.heap.size, 0, none⟩ = some (.slice so S.length sc) := fun m => (unhide HQX m.wd ((unhide HK2).trans m.kept)).1
              have f1 : ∀ m : KW n2.wd, m.wd.cell? ⟨b, off + k * 5, none⟩ = some (.int .i64 op) := fun m => (unhide HQX m.wd ((unhide HK2).trans m.kept)).2.1
              have f2 : ∀ m : KW n2.wd, m.wd.cell? ⟨b, off + k * 5 + 1, none⟩ = some (str f) := fun m => (unhide HQX m.wd ((unhide HK2).trans m.kept)).2.2.1
              have f3 : ∀ m : KW n2.wd, m.wd.cell? ⟨b, off + k * 5 + 2, none⟩ = some (.slice xao x.len xcap) := fun m => (unhide HQX m.wd ((unhide HK2).trans m.kept)).2.2.2.1
              have f4 : ∀ m : KW n2.wd, m.wd.cell? ⟨b, off + k * 5 + 3, none⟩ = some (.slice tao t.len tcap) := fun m => (unhide HQX m.wd ((unhide HK2).trans m.kept)).2.2.2.2.1
              have f5 : ∀ m : KW n2.wd, m.wd.cell? ⟨b, off + k * 5 + 4, none⟩ = some (.slice eao el.len ecap) := fun m => (unhide HQX m.wd ((unhide HK2).trans m.kept)).2.2.2.2.2
              have HE := hide (fun (m : KW n2.wd) => kw_of m (unhide HW3 m.wd (((unhide HBk).trans (unhide HK2)).trans m.kept)))
              refine region_kept (by kernel_rfl) (by kernel_rfl) ?_
              repeat (go_big_quiet_step ((go_at_call 13; exact unhide HE _)))
              refine wpQuiet_nil ?_
              rintro _ ⟨n3, rfl⟩
              have HK3 := hide ((unhide HK2).trans n3.kept)
              clear f0 f1 f2 f3 f4 f5 HE
              go_wp2_with fail
              have f0 : ∀ m : KW n3.wd, m.wd.cell? ⟨w.heap.size, 0, none⟩ = some (.slice so S.length sc) := fun m => (unhide HQX m.wd ((unhide HK3).trans m.kept)).1
              have f1 : ∀ m : KW n3.wd, m.wd.cell? ⟨b, off + k * 5, none⟩ = some (.int .i64 op) := fun m => (unhide HQX m.wd ((unhide HK3).trans m.kept)).2.1
              have f2 : ∀ m : KW n3.wd, m.wd.cell? ⟨b, off + k * 5 + 1, none⟩ = some (str f) := fun m => (unhide HQX m.wd ((unhide HK3).trans m.kept)).2.2.1
              have f3 : ∀ m : KW n3.wd, m.wd.cell? ⟨b, off + k * 5 + 2, none⟩ = some (.slice xao x.len xcap) := fun m => (unhide HQX m.wd ((unhide HK3).trans m.kept)).2.2.2.1
              have f4 : ∀ m : KW n3.wd, m.wd.cell? ⟨b, off + k * 5 + 3, none⟩ = some (.slice tao t.len tcap) := fun m => (unhide HQX m.wd ((unhide HK3).trans m.kept)).2.2.2.2.1
              have f5 : ∀ m : KW n3.wd, m.wd.cell? ⟨b, off + k * 5 + 4, none⟩ = some (.slice eao el.len ecap) := fun m => (unhide HQX m.wd ((unhide HK3).trans m.kept)).2.2.2.2.2
              have HE := hide (fun (m : KW n3.wd) => kw_of m (unhide HW4 m.wd (((unhide HBk).trans (unhide HK3)).trans m.kept)))
              refine region_kept (by kernel_rfl) (by kernel_rfl) ?_
              repeat (go_big_quiet_step ((go_at_call 13; exact unhide HE _)))
              refine wpQuiet_nil ?_
              rintro _ ⟨n4, rfl⟩
              have HK4 := hide ((unhide HK3).trans n4.kept)
              clear f0 f1 f2 f3 f4 f5 HE
              go_wp2_with fail
              go_roundw
              case rel =>
                refine ⟨rest, k + 1, n + 1 + mt + me, (n : Int), by push_cast; rfl, rfl, by go_num, by omega, by omega, unhide HWRR, by omega, by omega, ?_, unhide HK4, ?_⟩
                · have h := unhide HEQ
                  rw [if_neg (by omega), if_pos (by simp)] at h
                  rw [if_pos (by omega)]
                  exact h
                · rw [show off + (k + 1) * 5 = off + k * 5 + 5 by omega]
                  exact unhide HR
              case measure => simp [intOf]; omega
            | false =>
              by_cases hk0 : 0 ≤ kt
              · have c1 : decide ((0 : Int) ≤ kt) = true := decide_eq_true hk0
                have b2 : ¬ (n : Int) + 1 + kt < 0 := by omega
                have b3 : decide ((n : Int) + 1 + kt < 0) = false := decide_eq_false b2
                go_wp2_with fail
                have f0 : ∀ m : KW wr, m.wd.cell? ⟨w.heap.size, 0, none⟩ = some (.slice so S.length sc) := fun m => (unhide HQX m.wd ((unhide HK).trans m.kept)).1
                have f1 : ∀ m : KW wr, m.wd.cell? ⟨b, off + k * 5, none⟩ = some (.int .i64 op) := fun m => (unhide HQX m.wd ((unhide HK).trans m.kept)).2.1
                have f2 : ∀ m : KW wr, m.wd.cell? ⟨b, off + k * 5 + 1, none⟩ = some (str f) := fun m => (unhide HQX m.wd ((unhide HK).trans m.kept)).2.2.1
                have f3 : ∀ m : KW wr, m.wd.cell? ⟨b, off + k * 5 + 2, none⟩ = some (.slice xao x.len xcap) := fun m => (unhide HQX m.wd ((unhide HK).trans m.kept)).2.2.2.1
                have f4 : ∀ m : KW wr, m.wd.cell? ⟨b, off + k * 5 + 3, none⟩ = some (.slice tao t.len tcap) := fun m => (unhide HQX m.wd ((unhide HK).trans m.kept)).2.2.2.2.1
                have f5 : ∀ m : KW wr, m.wd.cell? ⟨b, off + k * 5 + 4, none⟩ = some (.slice eao el.len ecap) := fun m => (unhide HQX m.wd ((unhide HK).trans m.kept)).2.2.2.2.2
                have HE := hide (fun (m : KW wr) => kw_of m (unhide HW1 m.wd (((unhide HBk).trans (unhide HK)).trans m.kept)))
                refine region_kept (by kernel_rfl) (by kernel_rfl) ?_
                repeat (go_big_quiet_step ((go_at_call 33; exact unhide HE _)))
                refine wpQuiet_nil ?_
                rintro _ ⟨n1, rfl⟩
                have HK1 := hide ((unhide HK).trans n1.kept)
                clear f0 f1 f2 f3 f4 f5 HE
                go_wp2_with fail
                have f0 : ∀ m : KW n1.wd, m.wd.cell? ⟨w.heap.size, 0, none⟩ = some (.slice so S.length sc) := fun m => (unhide HQX m.wd ((unhide HK1).trans m.kept)).1
                have f1 : ∀ m : KW n1.wd, m.wd.cell? ⟨b, off + k * 5, none⟩ = some (.int .i64 op) := fun m => (unhide HQX m.wd ((unhide HK1).trans m.kept)).2.1
                have f2 : ∀ m : KW n1.wd, m.wd.cell? ⟨b, off + k * 5 + 1, none⟩ = some (str f) := fun m => (unhide HQX m.wd ((unhide HK1).trans m.kept)).2.2.1
                have f3 : ∀ m : KW n1.wd, m.wd.cell? ⟨b, off + k * 5 + 2, none⟩ = some (.slice xao x.len xcap) := fun m => (unhide HQX m.wd ((unhide HK1).trans m.kept)).2.2.2.1
                have f4 : ∀ m : KW n1.wd, m.wd.cell? ⟨b, off + k * 5 + 3, none⟩ = some (.slice tao t.len tcap) := fun m => (unhide HQX m.wd ((unhide HK1).trans m.kept)).2.2.2.2.1
                have f5 : ∀ m : KW n1.wd, m.wd.cell? ⟨b, off + k * 5 + 4, none⟩ = some (.slice eao el.len ecap) := fun m => (unhide HQX m.wd ((unhide HK1).trans m.kept)).2.2.2.2.2
                have HE := hide (fun (m : KW n1.wd) => kw_of m (unhide HW2 m.wd (((unhide HBk).trans (unhide HK1)).trans m.kept)))
                refine region_kept (by kernel_rfl) (by kernel_rfl) ?_
                repeat (go_big_quiet_step ((go_at_call 33; exact unhide HE _)))
                refine wpQuiet_nil ?_
                rintro _ ⟨n2, rfl⟩
                have HK2 := hide ((unhide HK1).trans n2.kept)
                clear f0 f1 f2 f3 f4 f5 HE
                go_wp2_with fail
                have f0 : ∀ m : KW n2.wd, m.wd.cell? ⟨w.heap.size, 0, none⟩ = some (.slice so S.length sc) := fun m => (unhide HQX m.wd ((unhide HK2).trans m.kept)).1
                have f1 : ∀ m : KW n2.wd, m.wd.cell? ⟨b, off + k * 5, none⟩ = some (.int .i64 op) := fun m => (unhide HQX m.wd ((unhide HK2).trans m.kept)).2.1
                have f2 : ∀ m : KW n2.wd, m.wd.cell? ⟨b, off + k * 5 + 1, none⟩ = some (str f) := fun m => (unhide HQX m.wd ((unhide HK2).trans m.kept)).2.2.1
                have f3 : ∀ m : KW n2.wd, m.wd.cell? ⟨b, off + k * 5 + 2, none⟩ = some (.slice xao x.len xcap) := fun m => (unhide HQX m.wd ((unhide HK2).trans m.kept)).2.2.2.1
                have f4 : ∀ m : KW n2.wd, m.wd.cell? ⟨b, off + k * 5 + 3, none⟩ = some (.slice tao t.len tcap) := fun m => (unhide HQX m.wd ((unhide HK2).trans m.kept)).2.2.2.2.1
                have f5 : ∀ m : KW n2.wd, m.wd.cell? ⟨b, off + k * 5 + 4, none⟩ = some (.slice eao el.len ecap) := fun m => (unhide HQX m.wd ((unhide HK2).trans m.kept)).2.2.2.2.2
                have HE := hide (fun (m : KW n2.wd) => kw_of m (unhide HW3 m.wd (((unhide HBk).trans (unhide HK2)).trans m.kept)))
                refine region_kept (by kernel_rfl) (by kernel_rfl) ?_
                repeat (go_big_quiet_step ((go_at_call 13; exact unhide HE _)))
                refine wpQuiet_nil ?_
                rintro _ ⟨n3, rfl⟩
                have HK3 := hide ((unhide HK2).trans n3.kept)
                clear f0 f1 f2 f3 f4 f5 HE
                go_wp2_with fail
                have f0 : ∀ m : KW n3.wd, m.wd.cell? ⟨w.heap.size, 0, none⟩ = some (.slice so S.length sc) := fun m => (unhide HQX m.wd ((unhide HK3).trans m.kept)).1
                have f1 : ∀ m : KW n3.wd, m.wd.cell? ⟨b, off + k * 5, none⟩ = some (.int .i64 op) := fun m => (unhide HQX m.wd ((unhide HK3).trans m.kept)).2.1
                have f2 : ∀ m : KW n3.wd, m.wd.cell? ⟨b, off + k * 5 + 1, none⟩ = some (str f) := fun m => (unhide HQX m.wd ((unhide HK3).trans m.kept)).2.2.1
                have f3 : ∀ m : KW n3.wd, m.wd.cell? ⟨b, off + k * 5 + 2, none⟩ = some (.slice xao x.len xcap) := fun m => (unhide HQX m.wd ((unhide HK3).trans m.kept)).2.2.2.1
                have f4 : ∀ m : KW n3.wd, m.wd.cell? ⟨b, off + k * 5 + 3, none⟩ = some (.slice tao t.len tcap) := fun m => (unhide HQX m.wd ((unhide HK3).trans m.kept)).2.2.2.2.1
                have f5 : ∀ m : KW n3.wd, m.wd.cell? ⟨b, off + k * 5 + 4, none⟩ = some (.slice eao el.len ecap) := fun m => (unhide HQX m.wd ((unhide HK3).trans m.kept)).2.2.2.2.2
                have HE := hide (fun (m : KW n3.wd) => kw_of m (unhide HW4 m.wd (((unhide HBk).trans (unhide HK3)).trans m.kept)))
                refine region_kept (by kernel_rfl) (by kernel_rfl) ?_
                repeat (go_big_quiet_step ((go_at_call 13; exact unhide HE _)))
                refine wpQuiet_nil ?_
                rintro _ ⟨n4, rfl⟩
                have HK4 := hide ((unhide HK3).trans n4.kept)
                clear f0 f1 f2 f3 f4 f5 HE
                go_wp2_with fail
                go_roundw
                case rel =>
                  refine ⟨rest, k + 1, n + 1 + mt + me, (n : Int) + 1 + kt, by push_cast; rfl, rfl, by go_num, by omega, by omega, unhide HWRR, by omega, by omega, ?_, unhide HK4, ?_⟩
                  · have h := unhide HEQ
                    rw [if_neg (by omega), if_neg (by simp), if_pos (by omega)] at h
                    rw [if_pos (by omega), ← h]
                    push_cast
                    rfl
                  · rw [show off + (k + 1) * 5 = off + k * 5 + 5 by omega]
                    exact unhide HR
                case measure => simp [intOf]; omega
              · have c1 : decide ((0 : Int) ≤ kt) = false := decide_eq_false hk0
                by_cases he0 : 0 ≤ ke
                · have c2 : decide ((0 : Int) ≤ ke) = true := decide_eq_true he0
                  go_wp2_with fail
                  have f0 : ∀ m : KW wr, m.wd.cell? ⟨w.heap.size, 0, none⟩ = some (.slice so S.length sc) := fun m => (unhide HQX m.wd ((unhide HK).trans m.kept)).1
                  have f1 : ∀ m : KW wr, m.wd.cell? ⟨b, off + k * 5, none⟩ = some (.int .i64 op) := fun m => (unhide HQX m.wd ((unhide HK).trans m.kept)).2.1
                  have f2 : ∀ m : KW wr, m.wd.cell? ⟨b, off + k * 5 + 1, none⟩ = some (str f) := fun m => (unhide HQX m.wd ((unhide HK).trans m.kept)).2.2.1
                  have f3 : ∀ m : KW wr, m.wd.cell? ⟨b, off + k * 5 + 2, none⟩ = some (.slice xao x.len xcap) := fun m => (unhide HQX m.wd ((unhide HK).trans m.kept)).2.2.2.1
                  have f4 : ∀ m : KW wr, m.wd.cell? ⟨b, off + k * 5 + 3, none⟩ = some (.slice tao t.len tcap) := fun m => (unhide HQX m.wd ((unhide HK).trans m.kept)).2.2.2.2.1
                  have f5 : ∀ m : KW wr, m.wd.cell? ⟨b, off + k * 5 + 4, none⟩ = some (.slice eao el.len ecap) := fun m => (unhide HQX m.wd ((unhide HK).trans m.kept)).2.2.2.2.2
                  have HE := hide (fun (m : KW wr) => kw_of m (unhide HW1 m.wd (((unhide HBk).trans (unhide HK)).trans m.kept)))
                  refine region_kept (by kernel_rfl) (by kernel_rfl) ?_
                  repeat (go_big_quiet_step ((go_at_call 33; exact unhide HE _)))
                  refine wpQuiet_nil ?_
                  rintro _ ⟨n1, rfl⟩
                  have HK1 := hide ((unhide HK).trans n1.kept)
                  clear f0 f1 f2 f3 f4 f5 HE
                  go_wp2_with fail
                  have f0 : ∀ m : KW n1.wd, m.wd.cell? ⟨w.heap.size, 0, none⟩ = some (.slice so S.length sc) := fun m => (unhide HQX m.wd ((unhide HK1).trans m.kept)).1
                  have f1 : ∀ m : KW n1.wd, m.wd.cell? ⟨b, off + k * 5, none⟩ = some (.int .i64 op) := fun m => (unhide HQX m.wd ((unhide HK1).trans m.kept)).2.1
                  have f2 : ∀ m : KW n1.wd, m.wd.cell? ⟨b, off + k * 5 + 1, none⟩ = some (str f) := fun m => (unhide HQX m.wd ((unhide HK1).trans m.kept)).2.2.1
                  have f3 : ∀ m : KW n1.wd, m.wd.cell? ⟨b, off + k * 5 + 2, none⟩ = some (.slice xao x.len xcap) := fun m => (unhide HQX m.wd ((unhide HK1).trans m.kept)).2.2.2.1
                  have f4 : ∀ m : KW n1.wd, m.wd.cell? ⟨b, off + k * 5 + 3, none⟩ = some (.slice tao t.len tcap) := fun m => (unhide HQX m.wd ((unhide HK1).trans m.kept)).2.2.2.2.1
                  have f5 : ∀ m : KW n1.wd, m.wd.cell? ⟨b, off + k * 5 + 4, none⟩ = some (.slice eao el.len ecap) := fun m => (unhide HQX m.wd ((unhide HK1).trans m.kept)).2.2.2.2.2
                  have HE := hide (fun (m : KW n1.wd) => kw_of m (unhide HW2 m.wd (((unhide HBk).trans (unhide HK1)).trans m.kept)))
                  refine region_kept (by kernel_rfl) (by kernel_rfl) ?_
                  repeat (go_big_quiet_step ((go_at_call 33; exact unhide HE _)))
                  refine wpQuiet_nil ?_
                  rintro _ ⟨n2, rfl⟩
                  have HK2 := hide ((unhide HK1).trans n2.kept)
                  clear f0 f1 f2 f3 f4 f5 HE
                  go_wp2_with fail
                  have f0 : ∀ m : KW n2.wd, m.wd.cell? ⟨w.heap.size, 0, none⟩ = some (.slice so S.length sc) := fun m => (unhide HQX m.wd ((unhide HK2).trans m.kept)).1
                  have f1 : ∀ m : KW n2.wd, m.wd.cell? ⟨b, off + k * 5, none⟩ = some (.int .i64 op) := fun m => (unhide HQX m.wd ((unhide HK2).trans m.kept)).2.1
                  have f2 : ∀ m : KW n2.wd, m.wd.cell? ⟨b, off + k * 5 + 1, none⟩ = some (str f) := fun m => (unhide HQX m.wd ((unhide HK2).trans m.kept)).2.2.1
                  have f3 : ∀ m : KW n2.wd, m.wd.cell? ⟨b, off + k * 5 + 2, none⟩ = some (.slice xao x.len xcap) := fun m => (unhide HQX m.wd ((unhide HK2).trans m.kept)).2.2.2.1
                  have f4 : ∀ m : KW n2.wd, m.wd.cell? ⟨b, off + k * 5 + 3, none⟩ = some (.slice tao t.len tcap) := fun m => (unhide HQX m.wd ((unhide HK2).trans m.kept)).2.2.2.2.1
                  have f5 : ∀ m : KW n2.wd, m.wd.cell? ⟨b, off + k * 5 + 4, none⟩ = some (.slice eao el.len ecap) := fun m => (unhide HQX m.wd ((unhide HK2).trans m.kept)).2.2.2.2.2
                  have HE := hide (fun (m : KW n2.wd) => kw_of m (unhide HW3 m.wd (((unhide HBk).trans (unhide HK2)).trans m.kept)))
                  refine region_kept (by kernel_rfl) (by kernel_rfl) ?_
                  repeat (go_big_quiet_step ((go_at_call 13; exact unhide HE _)))
                  refine wpQuiet_nil ?_
                  rintro _ ⟨n3, rfl⟩
                  have HK3 := hide ((unhide HK2).trans n3.kept)
                  clear f0 f1 f2 f3 f4 f5 HE
                  go_wp2_with fail
                  have f0 : ∀ m : KW n3.wd, m.wd.cell? ⟨w.heap.size, 0, none⟩ = some (.slice so S.length sc) := fun m => (unhide HQX m.wd ((unhide HK3).trans m.kept)).1
                  have f1 : ∀ m : KW n3.wd, m.wd.cell? ⟨b, off + k * 5, none⟩ = some (.int .i64 op) := fun m => (unhide HQX m.wd ((unhide HK3).trans m.kept)).2.1
                  have f2 : ∀ m : KW n3.wd, m.wd.cell? ⟨b, off + k * 5 + 1, none⟩ = some (str f) := fun m => (unhide HQX m.wd ((unhide HK3).trans m.kept)).2.2.1
                  have f3 : ∀ m : KW n3.wd, m.wd.cell? ⟨b, off + k * 5 + 2, none⟩ = some (.slice xao x.len xcap) := fun m => (unhide HQX m.wd ((unhide HK3).trans m.kept)).2.2.2.1
                  have f4 : ∀ m : KW n3.wd, m.wd.cell? ⟨b, off + k * 5 + 3, none⟩ = some (.slice tao t.len tcap) := fun m => (unhide HQX m.wd ((unhide HK3).trans m.kept)).2.2.2.2.1
                  have f5 : ∀ m : KW n3.wd, m.wd.cell? ⟨b, off + k * 5 + 4, none⟩ = some (.slice eao el.len ecap) := fun m => (unhide HQX m.wd ((unhide HK3).trans m.kept)).2.2.2.2.2
                  have HE := hide (fun (m : KW n3.wd) => kw_of m (unhide HW4 m.wd (((unhide HBk).trans (unhide HK3)).trans m.kept)))
                  refine region_kept (by kernel_rfl) (by kernel_rfl) ?_
                  repeat (go_big_quiet_step ((go_at_call 13; exact unhide HE _)))
                  refine wpQuiet_nil ?_
                  rintro _ ⟨n4, rfl⟩
                  have HK4 := hide ((unhide HK3).trans n4.kept)
                  clear f0 f1 f2 f3 f4 f5 HE
                  go_wp2_with fail
                  go_roundw
                  case rel =>
                    refine ⟨rest, k + 1, n + 1 + mt + me, (n : Int) + 1 + mt + ke, by push_cast; rfl, rfl, by go_num, by omega, by omega, unhide HWRR, by omega, by omega, ?_, unhide HK4, ?_⟩
                    · have h := unhide HEQ
                      rw [if_neg (by omega), if_neg (by simp), if_neg (by omega), if_pos (by omega)] at h
                      rw [if_pos (by omega), ← h]
                      push_cast
                      rfl
                    · rw [show off + (k + 1) * 5 = off + k * 5 + 5 by omega]
                      exact unhide HR
                  case measure => simp [intOf]; omega
                · have c2 : decide ((0 : Int) ≤ ke) = false := decide_eq_false he0
                  go_wp2_with fail
                  have f0 : ∀ m : KW wr, m.wd.cell? ⟨w.heap.size, 0, none⟩ = some (.slice so S.length sc) := fun m => (unhide HQX m.wd ((unhide HK).trans m.kept)).1
                  have f1 : ∀ m : KW wr, m.wd.cell? ⟨b, off + k * 5, none⟩ = some (.int .i64 op) := fun m => (unhide HQX m.wd ((unhide HK).trans m.kept)).2.1
                  have f2 : ∀ m : KW wr, m.wd.cell? ⟨b, off + k * 5 + 1, none⟩ = some (str f) := fun m => (unhide HQX m.wd ((unhide HK).trans m.kept)).2.2.1
                  have f3 : ∀ m : KW wr, m.wd.cell? ⟨b, off + k * 5 + 2, none⟩ = some (.slice xao x.len xcap) := fun m => (unhide HQX m.wd ((unhide HK).trans m.kept)).2.2.2.1
                  have f4 : ∀ m : KW wr, m.wd.cell? ⟨b, off + k * 5 + 3, none⟩ = some (.slice tao t.len tcap) := fun m => (unhide HQX m.wd ((unhide HK).trans m.kept)).2.2.2.2.1
                  have f5 : ∀ m : KW wr, m.wd.cell? ⟨b, off + k * 5 + 4, none⟩ = some (.slice eao el.len ecap) := fun m => (unhide HQX m.wd ((unhide HK).trans m.kept)).2.2.2.2.2
                  have HE := hide (fun (m : KW wr) => kw_of m (unhide HW1 m.wd (((unhide HBk).trans (unhide HK)).trans m.kept)))
                  refine region_kept (by kernel_rfl) (by kernel_rfl) ?_
                  repeat (go_big_quiet_step ((go_at_call 33; exact unhide HE _)))
                  refine wpQuiet_nil ?_
                  rintro _ ⟨n1, rfl⟩
                  have HK1 := hide ((unhide HK).trans n1.kept)
                  clear f0 f1 f2 f3 f4 f5 HE
                  go_wp2_with fail
                  have f0 : ∀ m : KW n1.wd, m.wd.cell? ⟨w.heap.size, 0, none⟩ = some (.slice so S.length sc) := fun m => (unhide HQX m.wd ((unhide HK1).trans m.kept)).1
                  have f1 : ∀ m : KW n1.wd, m.wd.cell? ⟨b, off + k * 5, none⟩ = some (.int .i64 op) := fun m => (unhide HQX m.wd ((unhide HK1).trans m.kept)).2.1
                  have f2 : ∀ m : KW n1.wd, m.wd.cell? ⟨b, off + k * 5 + 1, none⟩ = some (str f) := fun m => (unhide HQX m.wd ((unhide HK1).trans m.kept)).2.2.1
                  have f3 : ∀ m : KW n1.wd, m.wd.cell? ⟨b, off + k * 5 + 2, none⟩ = some (.slice xao x.len xcap) := fun m => (unhide HQX m.wd ((unhide HK1).trans m.kept)).2.2.2.1
                  have f4 : ∀ m : KW n1.wd, m.wd.cell? ⟨b, off + k * 5 + 3, none⟩ = some (.slice tao t.len tcap) := fun m => (unhide HQX m.wd ((unhide HK1).trans m.kept)).2.2.2.2.1
                  have f5 : ∀ m : KW n1.wd, m.wd.cell? ⟨b, off + k * 5 + 4, none⟩ = some (.slice eao el.len ecap) := fun m => (unhide HQX m.wd ((unhide HK1).trans m.kept)).2.2.2.2.2
                  have HE := hide (fun (m : KW n1.wd) => kw_of m (unhide HW2 m.wd (((unhide HBk).trans (unhide HK1)).trans m.kept)))
                  refine region_kept (by kernel_rfl) (by kernel_rfl) ?_
                  repeat (go_big_quiet_step ((go_at_call 33; exact unhide HE _)))
                  refine wpQuiet_nil ?_
                  rintro _ ⟨n2, rfl⟩
                  have HK2 := hide ((unhide HK1).trans n2.kept)
                  clear f0 f1 f2 f3 f4 f5 HE
                  go_wp2_with fail
                  have f0 : ∀ m : KW n2.wd, m.wd.cell? ⟨w.heap.size, 0, none⟩ = some (.slice so S.length sc) := fun m => (unhide HQX m.wd ((unhide HK2).trans m.kept)).1
                  have f1 : ∀ m : KW n2.wd, m.wd.cell? ⟨b, off + k * 5, none⟩ = some (.int .i64 op) := fun m => (unhide HQX m.wd ((unhide HK2).trans m.kept)).2.1
                  have f2 : ∀ m : KW n2.wd, m.wd.cell? ⟨b, off + k * 5 + 1, none⟩ = some (str f) := fun m => (unhide HQX m.wd ((unhide HK2).trans m.kept)).2.2.1
                  have f3 : ∀ m : KW n2.wd, m.wd.cell? ⟨b, off + k * 5 + 2, none⟩ = some (.slice xao x.len xcap) := fun m => (unhide HQX m.wd ((unhide HK2).trans m.kept)).2.2.2.1
                  have f4 : ∀ m : KW n2.wd, m.wd.cell? ⟨b, off + k * 5 + 3, none⟩ = some (.slice tao t.len tcap) := fun m => (unhide HQX m.wd ((unhide HK2).trans m.kept)).2.2.2.2.1
                  have f5 : ∀ m : KW n2.wd, m.wd.cell? ⟨b, off + k * 5 + 4, none⟩ = some (.slice eao el.len ecap) := fun m => (unhide HQX m.wd ((unhide HK2).trans m.kept)).2.2.2.2.2
                  have HE := hide (fun (m : KW n2.wd) => kw_of m (unhide HW3 m.wd (((unhide HBk).trans (unhide HK2)).trans m.kept)))
                  refine region_kept (by kernel_rfl) (by kernel_rfl) ?_
                  repeat (go_big_quiet_step ((go_at_call 13; exact unhide HE _)))
                  refine wpQuiet_nil ?_
                  rintro _ ⟨n3, rfl⟩
                  have HK3 := hide ((unhide HK2).trans n3.kept)
                  clear f0 f1 f2 f3 f4 f5 HE
                  go_wp2_with fail
                  have f0 : ∀ m : KW n3.wd, m.wd.cell? ⟨w.heap.size, 0, none⟩ = some (.slice so S.length sc) := fun m => (unhide HQX m.wd ((unhide HK3).trans m.kept)).1
                  have f1 : ∀ m : KW n3.wd, m.wd.cell? ⟨b, off + k * 5, none⟩ = some (.int .i64 op) := fun m => (unhide HQX m.wd ((unhide HK3).trans m.kept)).2.1
                  have f2 : ∀ m : KW n3.wd, m.wd.cell? ⟨b, off + k * 5 + 1, none⟩ = some (str f) := fun m => (unhide HQX m.wd ((unhide HK3).trans m.kept)).2.2.1
                  have f3 : ∀ m : KW n3.wd, m.wd.cell? ⟨b, off + k * 5 + 2, none⟩ = some (.slice xao x.len xcap) := fun m => (unhide HQX m.wd ((unhide HK3).trans m.kept)).2.2.2.1
                  have f4 : ∀ m : KW n3.wd, m.wd.cell? ⟨b, off + k * 5 + 3, none⟩ = some (.slice tao t.len tcap) := fun m => (unhide HQX m.wd ((unhide HK3).trans m.kept)).2.2.2.2.1
                  have f5 : ∀ m : KW n3.wd, m.wd.cell? ⟨b, off + k * 5 + 4, none⟩ = some (.slice eao el.len ecap) := fun m => (unhide HQX m.wd ((unhide HK3).trans m.kept)).2.2.2.2.2
                  have HE := hide (fun (m : KW n3.wd) => kw_of m (unhide HW4 m.wd (((unhide HBk).trans (unhide HK3)).trans m.kept)))
                  refine region_kept (by kernel_rfl) (by kernel_rfl) ?_
                  repeat (go_big_quiet_step ((go_at_call 13; exact unhide HE _)))
                  refine wpQuiet_nil ?_
                  rintro _ ⟨n4, rfl⟩
                  have HK4 := hide ((unhide HK3).trans n4.kept)
                  clear f0 f1 f2 f3 f4 f5 HE
                  go_wp2_with fail
                  go_roundw
                  case rel =>
                    refine ⟨rest, k + 1, n + 1 + mt + me, -1, by push_cast; rfl, rfl, by go_num, by omega, by omega, unhide HWRR, by omega, by omega, ?_, unhide HK4, ?_⟩
                    · have h := unhide HEQ
                      rw [if_neg (by omega), if_neg (by simp), if_neg (by omega), if_neg (by omega)] at h
                      rw [if_neg (by omega)]
                      exact h
                    · rw [show off + (k + 1) * 5 = off + k * 5 + 5 by omega]
                      exact unhide HR
                  case measure => simp [intOf]; omega
        · have b0 : ¬ bad < 0 := by omega
          have b1 : decide (bad < 0) = false := decide_eq_false b0
          go_wp2_with fail
          have f0 : ∀ m : KW wr, m.wd.cell? ⟨w.heap.size, 0, none⟩ = some (.slice so S.length sc) := fun m => (unhide HQX m.wd ((unhide HK).trans m.kept)).1
          have f1 : ∀ m : KW wr, m.wd.cell? ⟨b, off + k * 5, none⟩ = some (.int .i64 op) := fun m => (unhide HQX m.wd ((unhide HK).trans m.kept)).2.1
          have f2 : ∀ m : KW wr, m.wd.cell? ⟨b, off + k * 5 + 1, none⟩ = some (str f) := fun m => (unhide HQX m.wd ((unhide HK).trans m.kept)).2.2.1
          have f3 : ∀ m : KW wr, m.wd.cell? ⟨b, off + k * 5 + 2, none⟩ = some (.slice xao x.len xcap) := fun m => (unhide HQX m.wd ((unhide HK).trans m.kept)).2.2.2.1
          have f4 : ∀ m : KW wr, m.wd.cell? ⟨b, off + k * 5 + 3, none⟩ = some (.slice tao t.len tcap) := fun m => (unhide HQX m.wd ((unhide HK).trans m.kept)).2.2.2.2.1
          have f5 : ∀ m : KW wr, m.wd.cell? ⟨b, off + k * 5 + 4, none⟩ = some (.slice eao el.len ecap) := fun m => (unhide HQX m.wd ((unhide HK).trans m.kept)).2.2.2.2.2
          have HE := hide (fun (m : KW wr) => kw_of m (unhide HW1 m.wd (((unhide HBk).trans (unhide HK)).trans m.kept)))
          refine region_kept (by kernel_rfl) (by kernel_rfl) ?_
          repeat (go_big_quiet_step ((go_at_call 33; exact unhide HE _)))
          refine wpQuiet_nil ?_
          rintro _ ⟨n1, rfl⟩
          have HK1 := hide ((unhide HK).trans n1.kept)
          clear f0 f1 f2 f3 f4 f5 HE
          go_wp2_with fail
          have f0 : ∀ m : KW n1.wd, m.wd.cell? ⟨w.heap.size, 0, none⟩ = some (.slice so S.length sc) := fun m => (unhide HQX m.wd ((unhide HK1).trans m.kept)).1
          have f1 : ∀ m : KW n1.wd, m.wd.cell? ⟨b, off + k * 5, none⟩ = some (.int .i64 op) := fun m => (unhide HQX m.wd ((unhide HK1).trans m.kept)).2.1
          have f2 : ∀ m : KW n1.wd, m.wd.cell? ⟨b, off + k * 5 + 1, none⟩ = some (str f) := fun m => (unhide HQX m.wd ((unhide HK1).trans m.kept)).2.2.1
          have f3 : ∀ m : KW n1.wd, m.wd.cell? ⟨b, off + k * 5 + 2, none⟩ = some (.slice xao x.len xcap) := fun m => (unhide HQX m.wd ((unhide HK1).trans m.kept)).2.2.2.1
          have f4 : ∀ m : KW n1.wd, m.wd.cell? ⟨b, off + k * 5 + 3, none⟩ = some (.slice tao t.len tcap) := fun m => (unhide HQX m.wd ((unhide HK1).trans m.kept)).2.2.2.2.1
          have f5 : ∀ m : KW n1.wd, m.wd.cell? ⟨b, off + k * 5 + 4, none⟩ = some (.slice eao el.len ecap) := fun m => (unhide HQX m.wd ((unhide HK1).trans m.kept)).2.2.2.2.2
          have HE := hide (fun (m : KW n1.wd) => kw_of m (unhide HW2 m.wd (((unhide HBk).trans (unhide HK1)).trans m.kept)))
          refine region_kept (by kernel_rfl) (by kernel_rfl) ?_
          repeat (go_big_quiet_step ((go_at_call 33; exact unhide HE _)))
          refine wpQuiet_nil ?_
          rintro _ ⟨n2, rfl⟩
          have HK2 := hide ((unhide HK1).trans n2.kept)
          clear f0 f1 f2 f3 f4 f5 HE
          go_wp2_with fail
          have f0 : ∀ m : KW n2.wd, m.wd.cell? ⟨w.heap.size, 0, none⟩ = some (.slice so S.length sc) := fun m => (unhide HQX m.wd ((unhide HK2).trans m.kept)).1
          have f1 : ∀ m : KW n2.wd, m.wd.cell? ⟨b, off + k * 5, none⟩ = some (.int .i64 op) := fun m => (unhide HQX m.wd ((unhide HK2).trans m.kept)).2.1
          have f2 : ∀ m : KW n2.wd, m.wd.cell? ⟨b, off + k * 5 + 1, none⟩ = some (str f) := fun m => (unhide HQX m.wd ((unhide HK2).trans m.kept)).2.2.1
          have f3 : ∀ m : KW n2.wd, m.wd.cell? ⟨b, off + k * 5 + 2, none⟩ = some (.slice xao x.len xcap) := fun m => (unhide HQX m.wd ((unhide HK2).trans m.kept)).2.2.2.1
          have f4 : ∀ m : KW n2.wd, m.wd.cell? ⟨b, off + k * 5 + 3, none⟩ = some (.slice tao t.len tcap) := fun m => (unhide HQX m.wd ((unhide HK2).trans m.kept)).2.2.2.2.1
          have f5 : ∀ m : KW n2.wd, m.wd.cell? ⟨b, off + k * 5 + 4, none⟩ = some (.slice eao el.len ecap) := fun m => (unhide HQX m.wd ((unhide HK2).trans m.kept)).2.2.2.2.2
          have HE := hide (fun (m : KW n2.wd) => kw_of m (unhide HW3 m.wd (((unhide HBk).trans (unhide HK2)).trans m.kept)))
          refine region_kept (by kernel_rfl) (by kernel_rfl) ?_
          repeat (go_big_quiet_step ((go_at_call 13; exact unhide HE _)))
          refine wpQuiet_nil ?_
          rintro _ ⟨n3, rfl⟩
          have HK3 := hide ((unhide HK2).trans n3.kept)
          clear f0 f1 f2 f3 f4 f5 HE
          go_wp2_with fail
          have f0 : ∀ m : KW n3.wd, m.wd.cell? ⟨w.heap.size, 0, none⟩ = some (.slice so S.length sc) := fun m => (unhide HQX m.wd ((unhide HK3).trans m.kept)).1
          have f1 : ∀ m : KW n3.wd, m.wd.cell? ⟨b, off + k * 5, none⟩ = some (.int .i64 op) := fun m => (unhide HQX m.wd ((unhide HK3).trans m.kept)).2.1
          have f2 : ∀ m : KW n3.wd, m.wd.cell? ⟨b, off + k * 5 + 1, none⟩ = some (str f) := fun m => (unhide HQX m.wd ((unhide HK3).trans m.kept)).2.2.1
          have f3 : ∀ m : KW n3.wd, m.wd.cell? ⟨b, off + k * 5 + 2, none⟩ = some (.slice xao x.len xcap) := fun m => (unhide HQX m.wd ((unhide HK3).trans m.kept)).2.2.2.1
          have f4 : ∀ m : KW n3.wd, m.wd.cell? ⟨b, off + k * 5 + 3, none⟩ = some (.slice tao t.len tcap) := fun m => (unhide HQX m.wd ((unhide HK3).trans m.kept)).2.2.2.2.1
          have f5 : ∀ m : KW n3.wd, m.wd.cell? ⟨b, off + k * 5 + 4, none⟩ = some (.slice eao el.len ecap) := fun m => (unhide HQX m.wd ((unhide HK3).trans m.kept)).2.2.2.2.2
          have HE := hide (fun (m : KW n3.wd) => kw_of m (unhide HW4 m.wd (((unhide HBk).trans (unhide HK3)).trans m.kept)))
          refine region_kept (by kernel_rfl) (by kernel_rfl) ?_
          repeat (go_big_quiet_step ((go_at_call 13; exact unhide HE _)))
          refine wpQuiet_nil ?_
          rintro _ ⟨n4, rfl⟩
          have HK4 := hide ((unhide HK3).trans n4.kept)
          clear f0 f1 f2 f3 f4 f5 HE
          go_wp2_with fail
          go_roundw
          case rel =>
            refine ⟨rest, k + 1, n + 1 + mt + me, bad, by push_cast; rfl, rfl, by go_num, by omega, by omega, unhide HWRR, by omega, by omega, ?_, unhide HK4, ?_⟩
            · have h := unhide HEQ
              rw [if_pos (by omega)] at h
              rw [if_pos hbad.1]
              exact h
            · rw [show off + (k + 1) * 5 = off + k * 5 + 5 by omega]
              exact unhide HR
          case measure => simp [intOf]; omega
end Go.Proofs.YtjhppnecadnekaaDoor
