import Derived.Test.YtlnkleicnkfkpaaDoorGf
namespace Go.Proofs.YtlnkleicnkfkpaaDoor
open Go.RowKit Go.Maps

/-- Statements with a semicolon between them, behind so many others. -/
def tailS : Nat → List Txt → Txt
  | _, [] => []
  | k, t :: r => (if k = 0 then t else [59, 32] ++ t) ++ tailS (k + 1) r
def braceT (l : List Txt) : Txt := if l = [] then [123, 32, 125] else [123, 32] ++ tailS 0 l ++ [32, 125]
/-- The text of the first expression. -/
def headT : EL → Txt
  | .nil => []
  | .cons o n s k _ => textE o n s k
def writtenT (op : Int) (f X : Txt) (t e : List Txt) : Txt :=
  if op = 1 then f ++ [32, 61, 32] ++ X else if op = 2 then f ++ [32, 43, 61, 32] ++ X else if op = 3 then f ++ [32, 109, 105, 110, 61, 32] ++ X else if op = 4 then f ++ [32, 109, 97, 120, 61, 32] ++ X
  else if op = 5 then [99, 108, 101, 97, 114, 32] ++ f else if op = 6 then [110, 101, 119] else if op = 7 then [100, 101, 108, 101, 116, 101]
  else [105, 102, 32] ++ X ++ [32] ++ braceT t ++ (if e = [] then [] else [32, 101, 108, 115, 101, 32] ++ braceT e)
def sts : SL → List Txt
  | .nil => []
  | .cons op f x t e r => writtenT op f (headT x) (sts t) (sts e) :: sts r
theorem sts_len : ∀ l : SL, (sts l).length = l.len
  | .nil => rfl
  | .cons _ _ _ _ _ r => by simp [sts, SL.len, sts_len r]
theorem sts_nil (l : SL) : (sts l = []) = (l.len = 0) := by
  rw [← sts_len l]
  simp
def intS : SL → Prop
  | .nil => True
  | .cons _ _ x t e r => intE x ∧ intS t ∧ intS e ∧ intS r
/-- How long the texts of statements are together. -/
def tlS : SL → Nat
  | .nil => 0
  | .cons op f x t e r => (writtenT op f (headT x) (sts t) (sts e)).length + 2 + tlS r
theorem tail_le : ∀ (l : SL) (k : Nat), (tailS k (sts l)).length ≤ tlS l
  | .nil, _ => by simp [sts, tailS, tlS]
  | .cons op f x t e r, k => by
    have := tail_le r (k + 1)
    simp only [sts, tailS, tlS, List.length_append]
    split
    · omega
    · simp only [List.length_append, List.length_cons, List.length_nil]
      omega
theorem brace_le (l : SL) : (braceT (sts l)).length ≤ tlS l + 4 := by
  have := tail_le l 0
  unfold braceT
  split
  · simp
  · simp only [List.length_append, List.length_cons, List.length_nil]
    omega
theorem head_le (x : EL) (hw : wellE x = true) (hi : intE x) : (headT x).length ≤ 300 * x.size := by
  cases x with
  | nil => simp [headT]
  | cons o n s k r =>
    have := tl_le _ hw hi
    simp only [tl] at this
    show (textE o n s k).length ≤ _
    omega
theorem head_name {op : Int} {f : Txt} {x t e : Nat} (h : headB op f x t e = true) : f.length ≤ 8 := by
  unfold headB at h
  split at h
  · simp at h; exact nameB_len f h.1
  · split at h
    · simp at h; exact nameB_len f h.1
    · split at h
      · simp at h; simp [h.1]
      · split at h
        · simp at h; simp [h.1]
        · cases h
theorem written_le (op : Int) (f X : Txt) (t e : SL) (hf : f.length ≤ 8) : (writtenT op f X (sts t) (sts e)).length ≤ X.length + tlS t + tlS e + 60 := by
  have h1 := brace_le t
  have h2 := brace_le e
  unfold writtenT
  (repeat' split) <;> simp only [List.length_append, List.length_cons, List.length_nil] <;> omega
theorem tlS_le : ∀ l : SL, wellS l = true → intS l → tlS l ≤ 400 * l.size
  | .nil, _, _ => by simp [tlS]
  | .cons op f x t e r, h, hi => by
    simp only [wellS, Bool.and_eq_true] at h
    obtain ⟨h1, h2, h3, h4, h5⟩ := h
    obtain ⟨i1, i2, i3, i4⟩ := hi
    have a := tlS_le t h3 i2
    have b := tlS_le e h4 i3
    have c := tlS_le r h5 i4
    have d := head_le x h2 i1
    have g := written_le op f (headT x) t e (head_name h1)
    simp only [tlS, SL.size]
    omega

/-- The call of joined gives this, in all later worlds. -/
def JoinAt (w : World) (v : Value) (T : Txt) : Prop := ∀ w', Keeps (fun _ => False) w w' → Calls Tryd.prog 35 #[v] w' fun e w'' => e = .returned (str T) ∧ Keeps (fun _ => False) w' w''
theorem JoinAt.keepF {w w' : World} {v : Value} {T : Txt} (h : JoinAt w v T) (hk : Keeps (fun _ => False) w w') : JoinAt w' v T := fun w2 h2 => h w2 (hk.trans h2)

set_option maxRecDepth 100000 in
set_option maxHeartbeats 1600000 in
theorem braced_v (l : SL) (ao : Option Addr) (cap : Nat) (w : World) (hJ : JoinAt w (.slice ao l.len cap) (tailS 0 (sts l))) (hl : tlS l ≤ 10000000000000) :
    Calls Tryd.prog 60 #[.slice ao l.len cap] w fun e w' => e = .returned (str (braceT (sts l))) ∧ Keeps (fun _ => False) w w' := by
  have HJ := hide (hJ w (Keeps.refl _ w))
  have hlen := tail_le l 0
  unfold braceT
  by_cases h0 : l.len = 0
  · rw [if_pos ((sts_nil l).mpr h0), h0]
    clear hJ HJ
    go_enter Tryd.func60, Tryd.ntmps60
    go_wp2_with fail
    go_ret
    exact ⟨rfl, Keeps.refl _ w⟩
  · rw [if_neg (fun h => h0 ((sts_nil l).mp h))]
    have d0 : ((l.len : Int) == 0) = false := by simp; omega
    generalize tailS 0 (sts l) = T at HJ hlen ⊢
    have hT : T.length ≤ 10000000000000 := by omega
    clear hJ h0
    go_enter Tryd.func60, Tryd.ntmps60
    go_wp2_with fail
    refine (unhide HJ).mono ?_
    rintro e w1 ⟨rfl, hk1⟩
    go_wp2_with fail
    go_ret
    refine ⟨congrArg Ending.returned ?_, hk1⟩
    show Value.string (ByteArray.mk [123, 32].toArray ++ ByteArray.mk T.toArray ++ ByteArray.mk [32, 125].toArray) = _
    simp only [cat2]
    rfl
end Go.Proofs.YtlnkleicnkfkpaaDoor
namespace Go.Proofs.YtlnkleicnkfkpaaDoor
open Go.RowKit Go.Maps

set_option maxRecDepth 100000 in
set_option maxHeartbeats 3200000 in
theorem written_v {E : World → Prop} (hL : RLib E) (Z : Zone) (op : Int) (f : Txt) (ex : EL) (th el : SL) (hst : stmtB op f ex th el = true) (hiE : intE ex) (hsz : ex.size ≤ 2147483647) (hlT : tlS th ≤ 1000000000000) (hlE : tlS el ≤ 1000000000000) (w : World) (up : Nat) (xv : Value) (tao eao : Option Addr) (tcap ecap : Nat) (hE : E w) (hT : Tabs w) (hX : SlE Z w up xv ex)
    (hJT : JoinAt w (.slice tao th.len tcap) (tailS 0 (sts th))) (hJE : JoinAt w (.slice eao el.len ecap) (tailS 0 (sts el))) :
    Calls Tryd.prog 45 #[stV op f xv (.slice tao th.len tcap) (.slice eao el.len ecap)] w fun e w' => e = .returned (str (writtenT op f (headT ex) (sts th) (sts el))) ∧ Keeps (fun _ => False) w w' := by
  have hs' : headB op f ex.len th.len el.len = true ∧ wellE ex = true := by
    unfold stmtB at hst
    simp only [Bool.and_eq_true] at hst
    exact ⟨hst.1, hst.2.1⟩
  have hfl := head_name hs'.1
  have hhl := head_le ex hs'.2 hiE
  have hX1 : (headT ex).length ≤ 1000000000000 := by omega
  obtain ⟨xao, xcap, xb, xoff, rfl, hxcap, hxa, hxx⟩ := hX.open
  obtain ⟨HB, hxb, hxc⟩ := boxedT w #[.int .i64 op, str f, .slice xao ex.len xcap, .slice tao th.len tcap, .slice eao el.len ecap] 51
  have c0 := hxc 0 (.int .i64 op) rfl
  have c1 := hxc 1 (str f) rfl
  have c2 := hxc 2 (.slice xao ex.len xcap) rfl
  have c3 := hxc 3 (.slice tao th.len tcap) rfl
  have c4 := hxc 4 (.slice eao el.len ecap) rfl
  have HBT := fun (w' : World) (hk : Keeps (fun _ => False) w w') => hide (braced_v th tao tcap w' (hJT.keepF hk) (by omega))
  have HBE := fun (w' : World) (hk : Keeps (fun _ => False) w w') => hide (braced_v el eao ecap w' (hJE.keepF hk) (by omega))
  have hb1 := brace_le th
  have hb2 := brace_le el
  clear hxc
  by_cases v1 : op = 1
  · subst v1
    have h2 : ex.len = 1 := by
      have h := hs'.1
      simp [headB] at h
      omega
    obtain ⟨o, nn, ss, kk, rfl⟩ := EL.len1 h2
    obtain ⟨rfl, hp⟩ := hxa (by simp [EL.len])
    obtain ⟨a1, a2, a3, a4, a5, ⟨q0, p0, a6, a7, a8⟩, _⟩ := hxx
    have hwr : rootB o nn ss kk.len = true ∧ wellE kk = true := by
      have h := hs'.2
      simp only [wellE, Bool.and_eq_true] at h
      exact ⟨h.1, h.2.1⟩
    have hkz : kk.size ≤ 2147483647 := by simp only [EL.size] at hsz; omega
    have HTX := hide (text_v hL Z (kk.size + 1) kk (by omega) hkz o nn ss hwr.1 hwr.2 hiE.1.1 hiE.1.2 hiE.2.1 _ xb (.slice q0 kk.len p0) (hL.keep hE (unhide HB)) (hT.keepF (unhide HB)) (SlE.keepF ⟨q0, p0, rfl, a7, a8⟩ (unhide HB)))
    have e3 := ((unhide HB).cell a1 id).trans a3
    have e4 := ((unhide HB).cell a1 id).trans a4
    have e5 := ((unhide HB).cell a1 id).trans a5
    have e6 := ((unhide HB).cell a1 id).trans a6
    have el1 : (EL.cons o nn ss kk .nil).len = 1 := rfl
    simp only [el1] at HTX c0 c1 c2 c3 c4 hxb HB e3 e4 e5 e6 ⊢
    have hxt : (textE o nn ss kk).length ≤ 1000000000000 := hX1
    clear hst hs' hiE hX hxa hX1 hhl a2 a3 a4 a5 a6 a7 a8 hwr hJT hJE hE hT h2
    go_enter Tryd.func45, Tryd.ntmps45
    go_wp2_with fail
    refine (unhide HTX).mono ?_
    rintro e w1 ⟨rfl, hk1⟩
    have r0 := (hk1.cell (o := 0) hxb id).trans c0
    have r1 := (hk1.cell (o := 1) hxb id).trans c1
    have r3 := (hk1.cell (o := 3) hxb id).trans c3
    have r4 := (hk1.cell (o := 4) hxb id).trans c4
    have HK1 := hide ((unhide HB).trans hk1)
    have HJ1 := hide hk1
    clear hk1 c0 c1 c2 c3 c4 e3 e4 e5 e6 HTX
    go_wp2_with fail
    go_ret
    refine ⟨congrArg Ending.returned ?_, unhide HK1⟩
    show Value.string (ByteArray.mk f.toArray ++ ByteArray.mk [32, 61, 32].toArray ++ ByteArray.mk (textE o nn ss kk).toArray) = _
    simp only [cat2]
    rfl
  by_cases v2 : op = 2
  · subst v2
    have h2 : ex.len = 1 := by
      have h := hs'.1
      simp [headB] at h
      omega
    obtain ⟨o, nn, ss, kk, rfl⟩ := EL.len1 h2
    obtain ⟨rfl, hp⟩ := hxa (by simp [EL.len])
    obtain ⟨a1, a2, a3, a4, a5, ⟨q0, p0, a6, a7, a8⟩, _⟩ := hxx
    have hwr : rootB o nn ss kk.len = true ∧ wellE kk = true := by
      have h := hs'.2
      simp only [wellE, Bool.and_eq_true] at h
      exact ⟨h.1, h.2.1⟩
    have hkz : kk.size ≤ 2147483647 := by simp only [EL.size] at hsz; omega
    have HTX := hide (text_v hL Z (kk.size + 1) kk (by omega) hkz o nn ss hwr.1 hwr.2 hiE.1.1 hiE.1.2 hiE.2.1 _ xb (.slice q0 kk.len p0) (hL.keep hE (unhide HB)) (hT.keepF (unhide HB)) (SlE.keepF ⟨q0, p0, rfl, a7, a8⟩ (unhide HB)))
    have e3 := ((unhide HB).cell a1 id).trans a3
    have e4 := ((unhide HB).cell a1 id).trans a4
    have e5 := ((unhide HB).cell a1 id).trans a5
    have e6 := ((unhide HB).cell a1 id).trans a6
    have el1 : (EL.cons o nn ss kk .nil).len = 1 := rfl
    simp only [el1] at HTX c0 c1 c2 c3 c4 hxb HB e3 e4 e5 e6 ⊢
    have hxt : (textE o nn ss kk).length ≤ 1000000000000 := hX1
    clear hst hs' hiE hX hxa hX1 hhl a2 a3 a4 a5 a6 a7 a8 hwr hJT hJE hE hT h2
    go_enter Tryd.func45, Tryd.ntmps45
    go_wp2_with fail
    refine (unhide HTX).mono ?_
    rintro e w1 ⟨rfl, hk1⟩
    have r0 := (hk1.cell (o := 0) hxb id).trans c0
    have r1 := (hk1.cell (o := 1) hxb id).trans c1
    have r3 := (hk1.cell (o := 3) hxb id).trans c3
    have r4 := (hk1.cell (o := 4) hxb id).trans c4
    have HK1 := hide ((unhide HB).trans hk1)
    have HJ1 := hide hk1
    clear hk1 c0 c1 c2 c3 c4 e3 e4 e5 e6 HTX
    go_wp2_with fail
    go_ret
    refine ⟨congrArg Ending.returned ?_, unhide HK1⟩
    show Value.string (ByteArray.mk f.toArray ++ ByteArray.mk [32, 43, 61, 32].toArray ++ ByteArray.mk (textE o nn ss kk).toArray) = _
    simp only [cat2]
    rfl
  by_cases v3 : op = 3
  · subst v3
    have h2 : ex.len = 1 := by
      have h := hs'.1
      simp [headB] at h
      omega
    obtain ⟨o, nn, ss, kk, rfl⟩ := EL.len1 h2
    obtain ⟨rfl, hp⟩ := hxa (by simp [EL.len])
    obtain ⟨a1, a2, a3, a4, a5, ⟨q0, p0, a6, a7, a8⟩, _⟩ := hxx
    have hwr : rootB o nn ss kk.len = true ∧ wellE kk = true := by
      have h := hs'.2
      simp only [wellE, Bool.and_eq_true] at h
      exact ⟨h.1, h.2.1⟩
    have hkz : kk.size ≤ 2147483647 := by simp only [EL.size] at hsz; omega
    have HTX := hide (text_v hL Z (kk.size + 1) kk (by omega) hkz o nn ss hwr.1 hwr.2 hiE.1.1 hiE.1.2 hiE.2.1 _ xb (.slice q0 kk.len p0) (hL.keep hE (unhide HB)) (hT.keepF (unhide HB)) (SlE.keepF ⟨q0, p0, rfl, a7, a8⟩ (unhide HB)))
    have e3 := ((unhide HB).cell a1 id).trans a3
    have e4 := ((unhide HB).cell a1 id).trans a4
    have e5 := ((unhide HB).cell a1 id).trans a5
    have e6 := ((unhide HB).cell a1 id).trans a6
    have el1 : (EL.cons o nn ss kk .nil).len = 1 := rfl
    simp only [el1] at HTX c0 c1 c2 c3 c4 hxb HB e3 e4 e5 e6 ⊢
    have hxt : (textE o nn ss kk).length ≤ 1000000000000 := hX1
    clear hst hs' hiE hX hxa hX1 hhl a2 a3 a4 a5 a6 a7 a8 hwr hJT hJE hE hT h2
    go_enter Tryd.func45, Tryd.ntmps45
    go_wp2_with fail
    refine (unhide HTX).mono ?_
    rintro e w1 ⟨rfl, hk1⟩
    have r0 := (hk1.cell (o := 0) hxb id).trans c0
    have r1 := (hk1.cell (o := 1) hxb id).trans c1
    have r3 := (hk1.cell (o := 3) hxb id).trans c3
    have r4 := (hk1.cell (o := 4) hxb id).trans c4
    have HK1 := hide ((unhide HB).trans hk1)
    have HJ1 := hide hk1
    clear hk1 c0 c1 c2 c3 c4 e3 e4 e5 e6 HTX
    go_wp2_with fail
    go_ret
    refine ⟨congrArg Ending.returned ?_, unhide HK1⟩
    show Value.string (ByteArray.mk f.toArray ++ ByteArray.mk [32, 109, 105, 110, 61, 32].toArray ++ ByteArray.mk (textE o nn ss kk).toArray) = _
    simp only [cat2]
    rfl
  by_cases v4 : op = 4
  · subst v4
    have h2 : ex.len = 1 := by
      have h := hs'.1
      simp [headB] at h
      omega
    obtain ⟨o, nn, ss, kk, rfl⟩ := EL.len1 h2
    obtain ⟨rfl, hp⟩ := hxa (by simp [EL.len])
    obtain ⟨a1, a2, a3, a4, a5, ⟨q0, p0, a6, a7, a8⟩, _⟩ := hxx
    have hwr : rootB o nn ss kk.len = true ∧ wellE kk = true := by
      have h := hs'.2
      simp only [wellE, Bool.and_eq_true] at h
      exact ⟨h.1, h.2.1⟩
    have hkz : kk.size ≤ 2147483647 := by simp only [EL.size] at hsz; omega
    have HTX := hide (text_v hL Z (kk.size + 1) kk (by omega) hkz o nn ss hwr.1 hwr.2 hiE.1.1 hiE.1.2 hiE.2.1 _ xb (.slice q0 kk.len p0) (hL.keep hE (unhide HB)) (hT.keepF (unhide HB)) (SlE.keepF ⟨q0, p0, rfl, a7, a8⟩ (unhide HB)))
    have e3 := ((unhide HB).cell a1 id).trans a3
    have e4 := ((unhide HB).cell a1 id).trans a4
    have e5 := ((unhide HB).cell a1 id).trans a5
    have e6 := ((unhide HB).cell a1 id).trans a6
    have el1 : (EL.cons o nn ss kk .nil).len = 1 := rfl
    simp only [el1] at HTX c0 c1 c2 c3 c4 hxb HB e3 e4 e5 e6 ⊢
    have hxt : (textE o nn ss kk).length ≤ 1000000000000 := hX1
    clear hst hs' hiE hX hxa hX1 hhl a2 a3 a4 a5 a6 a7 a8 hwr hJT hJE hE hT h2
    go_enter Tryd.func45, Tryd.ntmps45
    go_wp2_with fail
    refine (unhide HTX).mono ?_
    rintro e w1 ⟨rfl, hk1⟩
    have r0 := (hk1.cell (o := 0) hxb id).trans c0
    have r1 := (hk1.cell (o := 1) hxb id).trans c1
    have r3 := (hk1.cell (o := 3) hxb id).trans c3
    have r4 := (hk1.cell (o := 4) hxb id).trans c4
    have HK1 := hide ((unhide HB).trans hk1)
    have HJ1 := hide hk1
    clear hk1 c0 c1 c2 c3 c4 e3 e4 e5 e6 HTX
    go_wp2_with fail
    go_ret
    refine ⟨congrArg Ending.returned ?_, unhide HK1⟩
    show Value.string (ByteArray.mk f.toArray ++ ByteArray.mk [32, 109, 97, 120, 61, 32].toArray ++ ByteArray.mk (textE o nn ss kk).toArray) = _
    simp only [cat2]
    rfl
  by_cases v8 : op = 8
  · subst v8
    have h2 : ex.len = 1 := by
      have h := hs'.1
      simp [headB] at h
      omega
    obtain ⟨o, nn, ss, kk, rfl⟩ := EL.len1 h2
    obtain ⟨rfl, hp⟩ := hxa (by simp [EL.len])
    obtain ⟨a1, a2, a3, a4, a5, ⟨q0, p0, a6, a7, a8⟩, _⟩ := hxx
    have hwr : rootB o nn ss kk.len = true ∧ wellE kk = true := by
      have h := hs'.2
      simp only [wellE, Bool.and_eq_true] at h
      exact ⟨h.1, h.2.1⟩
    have hkz : kk.size ≤ 2147483647 := by simp only [EL.size] at hsz; omega
    have HTX := hide (text_v hL Z (kk.size + 1) kk (by omega) hkz o nn ss hwr.1 hwr.2 hiE.1.1 hiE.1.2 hiE.2.1 _ xb (.slice q0 kk.len p0) (hL.keep hE (unhide HB)) (hT.keepF (unhide HB)) (SlE.keepF ⟨q0, p0, rfl, a7, a8⟩ (unhide HB)))
    have e3 := ((unhide HB).cell a1 id).trans a3
    have e4 := ((unhide HB).cell a1 id).trans a4
    have e5 := ((unhide HB).cell a1 id).trans a5
    have e6 := ((unhide HB).cell a1 id).trans a6
    have el1 : (EL.cons o nn ss kk .nil).len = 1 := rfl
    simp only [el1] at HTX c0 c1 c2 c3 c4 hxb HB e3 e4 e5 e6 ⊢
    have hxt : (textE o nn ss kk).length ≤ 1000000000000 := hX1
    clear hst hs' hiE hX hxa hX1 hhl a2 a3 a4 a5 a6 a7 a8 hwr hJT hJE hE hT h2
    go_enter Tryd.func45, Tryd.ntmps45
    go_wp2_with fail
    refine (unhide HTX).mono ?_
    rintro e w1 ⟨rfl, hk1⟩
    have r0 := (hk1.cell (o := 0) hxb id).trans c0
    have r1 := (hk1.cell (o := 1) hxb id).trans c1
    have r3 := (hk1.cell (o := 3) hxb id).trans c3
    have r4 := (hk1.cell (o := 4) hxb id).trans c4
    have HK1 := hide ((unhide HB).trans hk1)
    have HJ1 := hide hk1
    have y4 := c4
    clear hk1 c0 c1 c2 c3 c4 e3 e4 e5 e6 HTX
    go_wp2_with fail
    refine (unhide (HBT w1 (unhide HK1))).mono ?_
    rintro e w2 ⟨rfl, hk2⟩
    have s4 := (((unhide HJ1).trans hk2).cell (o := 4) hxb id).trans y4
    have HK2 := hide ((unhide HK1).trans hk2)
    have HEB := HBE w2 (unhide HK2)
    have hn0 : (sts el = []) = (el.len = 0) := sts_nil el
    have HW : Hid (writtenT 8 f (textE o nn ss kk) (sts th) (sts el) = [105, 102, 32] ++ textE o nn ss kk ++ [32] ++ braceT (sts th) ++ (if sts el = [] then [] else [32, 101, 108, 115, 101, 32] ++ braceT (sts el))) := rfl
    have HE0 : Hid (el.len = 0 → sts el = []) := fun h => by rw [hn0]; exact h
    have HE1 : Hid (el.len ≠ 0 → sts el ≠ []) := fun h h' => h (by rw [hn0] at h'; exact h')
    have hX2 := hxt
    generalize braceT (sts th) = BT at hb1 HW ⊢
    generalize braceT (sts el) = BE at hb2 HW HEB ⊢
    generalize hTX : textE o nn ss kk = X at hX2 HW ⊢
    clear hk2 HBT HBE r0 r1 r3 r4 hn0
    by_cases hz : el.len = 0
    · have hz0 : ¬ (0 : Int) < (el.len : Int) := by omega
      go_wp2_with fail
      go_ret
      refine ⟨congrArg Ending.returned ?_, unhide HK2⟩
      show Value.string (ByteArray.mk [105, 102, 32].toArray ++ ByteArray.mk X.toArray ++ ByteArray.mk [32].toArray ++ ByteArray.mk BT.toArray) = _
      have hw := unhide HW
      rw [if_pos ((unhide HE0) hz), List.append_nil] at hw
      simp only [cat2]
      have hh : headT (.cons o nn ss kk .nil) = X := hTX
      rw [hh]
      exact congrArg str hw.symm
    · have hz0 : (0 : Int) < (el.len : Int) := by omega
      go_wp2_with fail
      refine (unhide HEB).mono ?_
      rintro e w3 ⟨rfl, hk3⟩
      go_wp2_with fail
      go_ret
      refine ⟨congrArg Ending.returned ?_, (unhide HK2).trans hk3⟩
      show Value.string (ByteArray.mk [105, 102, 32].toArray ++ ByteArray.mk X.toArray ++ ByteArray.mk [32].toArray ++ ByteArray.mk BT.toArray ++ ByteArray.mk [32, 101, 108, 115, 101, 32].toArray ++ ByteArray.mk BE.toArray) = _
      have hw := unhide HW
      rw [if_neg ((unhide HE1) hz)] at hw
      simp only [cat2]
      refine congrArg str ?_
      have hh : headT (.cons o nn ss kk .nil) = X := hTX
      rw [hh]
      simpa using hw.symm
  by_cases v5 : op = 5
  · subst v5
    have h2 : ex.len = 0 := by
      have h := hs'.1
      simp [headB] at h
      omega
    rw [h2] at HB c0 c1 c2 c3 c4 hxb ⊢
    clear hst hs' hiE hX hxa hxx hX1 hhl hJT hJE hE hT h2
    go_enter Tryd.func45, Tryd.ntmps45
    go_wp2_with fail
    go_ret
    refine ⟨congrArg Ending.returned ?_, unhide HB⟩
    show Value.string (ByteArray.mk [99, 108, 101, 97, 114, 32].toArray ++ ByteArray.mk f.toArray) = _
    simp only [cat2]
    rfl
  by_cases v6 : op = 6
  · subst v6
    have h2 : ex.len = 0 := by
      have h := hs'.1
      simp [headB] at h
      omega
    rw [h2] at HB c0 c1 c2 c3 c4 hxb ⊢
    clear hst hs' hiE hX hxa hxx hX1 hhl hJT hJE hE hT h2
    go_enter Tryd.func45, Tryd.ntmps45
    go_wp2_with fail
    go_ret
    refine ⟨congrArg Ending.returned ?_, unhide HB⟩
    rfl
  by_cases v7 : op = 7
  · subst v7
    have h2 : ex.len = 0 := by
      have h := hs'.1
      simp [headB] at h
      omega
    rw [h2] at HB c0 c1 c2 c3 c4 hxb ⊢
    clear hst hs' hiE hX hxa hxx hX1 hhl hJT hJE hE hT h2
    go_enter Tryd.func45, Tryd.ntmps45
    go_wp2_with fail
    go_ret
    refine ⟨congrArg Ending.returned ?_, unhide HB⟩
    rfl
  exfalso
  have h := hs'.1
  unfold headB at h
  rw [if_neg (by omega), if_neg (by omega), if_neg (by omega), if_neg (by omega)] at h
  cases h
end Go.Proofs.YtlnkleicnkfkpaaDoor
namespace Go.Proofs.YtlnkleicnkfkpaaDoor
open Go.RowKit Go.Maps

set_option maxRecDepth 100000 in
set_option maxHeartbeats 1600000 in
theorem joined_v {E : World → Prop} (hL : RLib E) (Z : Zone) (N : Nat) : ∀ (l : SL), l.size < N → l.size ≤ 2147483647 → wellS l = true → intS l → ∀ (w : World) (up : Nat) (v : Value), E w → Tabs w → SlS Z w up v l →
    Calls Tryd.prog 35 #[v] w fun e w' => e = .returned (str (tailS 0 (sts l))) ∧ Keeps (fun _ => False) w w' := by
  induction N with
  | zero => intro l h; omega
  | succ N ih =>
    intro l hN hsz hw hi w up v hE hT hS
    have hlen : l.len ≤ 2147483647 := by have := SL.len_le l; omega
    have htl := tlS_le l hw hi
    obtain ⟨ao, cap, b, off, rfl, hcap, ha, hx⟩ := hS.open
    have IH := hide ih
    have HX := hide hx
    have HA := hide ha
    have HE := hide hE
    have HT := hide hT
    have HWI := hide (And.intro hw hi)
    clear hS ih hx ha hE hT hw hi
    go_enter Tryd.func35, Tryd.ntmps35
    go_wp2_with fail
    go_loopw [3, 4] (fun tv i wr => ∃ (rest : SL) (k : Nat) (S : Txt), tv = str S ∧ i = .int .i64 k ∧ k + rest.len = l.len ∧ rest.size ≤ l.size ∧ S ++ tailS k (sts rest) = tailS 0 (sts l) ∧ S.length + tlS rest ≤ tlS l ∧ (wellS rest = true ∧ intS rest) ∧ Keeps (fun _ => False) w wr ∧ StIn Z wr rest b (off + k * 5)) (fun _ i _ => l.len - (intOf i).toNat)
    case atStart => exact ⟨l, 0, [], rfl, rfl, by omega, Nat.le_refl _, rfl, by simp, unhide HWI, Keeps.refl _ _, by simpa using unhide HX⟩
    case round =>
      obtain ⟨rest, k, S, rfl, rfl, hkl, hrs, hS, hSl, ⟨hwr, hir⟩, hkeep, hr⟩ := hrel
      have HK := hide hkeep
      have HSS := hide hS
      clear hS hkeep
      cases rest with
      | nil =>
        simp only [SL.len, SL.size, tlS] at hkl hrs hSl
        clear hr
        have i1 : ¬ (k : Int) < (l.len : Int) := by omega
        go_wp2_with fail
        go_ret
        have h : S ++ [] = tailS 0 (sts l) := unhide HSS
        rw [List.append_nil] at h
        exact ⟨by rw [← h]; rfl, unhide HK⟩
      | cons op f ex th el rest =>
        obtain ⟨h1, h2, h3, h4, ⟨xv, h5, hxs⟩, ⟨tao, tcap, h6, h7, h8⟩, ⟨eao, ecap, g6, g7, g8⟩, h9⟩ := hr
        rw [wellS_cons, Bool.and_eq_true] at hwr
        obtain ⟨hst, hwr⟩ := hwr
        obtain ⟨hi1, hi2, hi3, hi4⟩ := hir
        have hst' := hst
        unfold stmtB at hst'
        simp only [Bool.and_eq_true] at hst'
        obtain ⟨hhd, hwx, hwt, hwe⟩ := hst'
        simp only [SL.len, SL.size, tlS] at hkl hrs hSl
        obtain ⟨rfl, hp⟩ := (unhide HA) (by omega)
        have hth : SlS Z wr b (.slice tao th.len tcap) th := ⟨tao, tcap, rfl, h7, h8⟩
        have hel : SlS Z wr b (.slice eao el.len ecap) el := ⟨eao, ecap, rfl, g7, g8⟩
        have hxs' := hxs
        obtain ⟨xao, xcap, rfl, hxl⟩ := hxs'.head
        have hEw := hL.keep (unhide HE) (unhide HK)
        have hTw := (unhide HT).keepF (unhide HK)
        have HWR := fun (w' : World) (hk : Keeps (fun _ => False) wr w') => hide (written_v hL Z op f ex th el hst hi1 (by omega) (by have := tlS_le th hwt hi2; omega) (by have := tlS_le el hwe hi3; omega) w' b _ tao eao tcap ecap (hL.keep hEw hk) (hTw.keepF hk) (hxs.keepF hk)
          (fun w2 hk2 => unhide IH th (by omega) (by omega) hwt hi2 w2 b _ (hL.keep hEw (hk.trans hk2)) (hTw.keepF (hk.trans hk2)) (hth.keepF (hk.trans hk2)))
          (fun w2 hk2 => unhide IH el (by omega) (by omega) hwe hi3 w2 b _ (hL.keep hEw (hk.trans hk2)) (hTw.keepF (hk.trans hk2)) (hel.keepF (hk.trans hk2))))
        have HR := hide h9
        have HWN := hide (And.intro hwr hi4)
        have i1 : (k : Int) < (l.len : Int) := by omega
        have i0 : (0 : Int) ≤ (k : Int) := by omega
        have hc : tailS k (sts (.cons op f ex th el rest)) = (if k = 0 then writtenT op f (headT ex) (sts th) (sts el) else [59, 32] ++ writtenT op f (headT ex) (sts th) (sts el)) ++ tailS (k + 1) (sts rest) := rfl
        rw [hc] at HSS
        generalize writtenT op f (headT ex) (sts th) (sts el) = T at HWR HSS hSl hc
        clear h2 h8 h9 g8 hxs hth hel hc hst hwx hwt hwe hi1 hi2 hi3 hi4 hwr hhd hEw hTw hxs'
        by_cases hk0 : k = 0
        · rw [if_pos hk0] at HSS
          have hk1' : ¬ (0 : Int) < (k : Int) := by omega
          have HSK : Hid (k = 0 → S = S) := fun _ => rfl
          clear hk0
          go_wp2_with fail
          refine (unhide (HWR _ (Keeps.refl _ wr))).mono ?_
          rintro e w1 ⟨rfl, hk1⟩
          go_wp2_with fail
          go_roundw
          case rel =>
            refine ⟨rest, k + 1, S ++ T, congrArg Value.string (cat2 S T), by go_num, by omega, by omega, ?_, by simp; omega, unhide HWN, (unhide HK).trans hk1, ?_⟩
            · rw [List.append_assoc]
              exact unhide HSS
            · rw [show off + (k + 1) * 5 = off + k * 5 + 5 by omega]
              exact (unhide HR).keepF hk1
          case measure => simp [intOf]; omega
        · rw [if_neg hk0] at HSS
          have hk1' : (0 : Int) < (k : Int) := by omega
          go_wp2_with fail
          refine (unhide (HWR _ (Keeps.refl _ wr))).mono ?_
          rintro e w1 ⟨rfl, hk1⟩
          go_wp2_with fail
          go_roundw
          case rel =>
            refine ⟨rest, k + 1, S ++ [59, 32] ++ T, ?_, by go_num, by omega, by omega, ?_, by simp; omega, unhide HWN, (unhide HK).trans hk1, ?_⟩
            · simp only [cat2]
            · have h := unhide HSS
              rw [← h]
              simp
            · rw [show off + (k + 1) * 5 = off + k * 5 + 5 by omega]
              exact (unhide HR).keepF hk1
          case measure => simp [intOf]; omega
end Go.Proofs.YtlnkleicnkfkpaaDoor
