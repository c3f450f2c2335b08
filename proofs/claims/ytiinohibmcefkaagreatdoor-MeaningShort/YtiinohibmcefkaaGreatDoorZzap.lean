import Derived.Test.YtiinohibmcefkaaGreatDoorZzao
import Derived.Test.YtiinohibmcefkaaGreatDoorZzay
namespace Go.Proofs.YtiinohibmcefkaaGreatDoor
open Go.RowKit Go.Maps

theorem Wth.keepG {S : List FieldA} {F : Nat → Prop} {w w' : World} {fv : Value} {f : Bool → List ValA → ValA} (h : Wth S F w fv f) (hk : Keeps F w w') : Wth S F w' fv f := by
  obtain ⟨k, cap, e, h1, h2, h3⟩ := h
  exact ⟨k, cap, e, h1, h2, fun W b u vals hW => h3 W b u vals (hk.trans hW)⟩
theorem Wth.mono {S : List FieldA} {F F' : Nat → Prop} {w : World} {fv : Value} {f : Bool → List ValA → ValA} (h : Wth S F w fv f) (hF : ∀ q, q < w.heap.size → F' q → F q) : Wth S F' w fv f := by
  obtain ⟨k, cap, e, h1, h2, h3⟩ := h
  exact ⟨k, cap, e, h1, h2, fun W b u vals hW => h3 W b u vals (hW.mono hF)⟩
theorem always_w (S : List FieldA) (G : Nat → Prop) (W : World) (hG : ∀ q, G q → q < W.heap.size) (k n : Int) (s : Txt) (hs : s.length ≤ 20) :
    Calls Tryz.prog 76 #[.agg #[.int .i64 k, .int .i64 n, str s]] W (Made S G W (fun _ _ => ⟨k, n, s⟩)) := always_v S G W hG ⟨k, n, s⟩ hs
theorem text_w (s : Txt) (w : World) : Calls Tryz.prog 79 #[str s] w fun e w' => e = .returned (.agg #[.int .i64 3, .int .i64 0, str s]) ∧ Keeps (fun _ => False) w w' := text_v s w
theorem Made.from {S : List FieldA} {G : Nat → Prop} {W W1 : World} {f g : Bool → List ValA → ValA} {e : Ending} {W' : World} (h : Made S G W1 f e W') (hk : Keeps (fun _ => False) W W1) (hg : ∀ b v, f b v = g b v) : Made S G W g e W' := by
  obtain ⟨fv, he, hw, h1⟩ := h
  exact ⟨fv, he, hw.congr hg, hk.trans h1⟩
set_option maxRecDepth 100000 in
set_option maxHeartbeats 1000000 in
theorem leaf1_v (S : List FieldA) (hS : 0 < S.length) (_hS8 : S.length ≤ 8) (n : Int) (s : Txt) (_hs : s.length ≤ 20) (W : World) (G : Nat → Prop) (m mb nn tab : Nat) (zv : Value) (ao : Option Addr) (kn cap : Nat) (hM : MkAt S G W m mb nn tab zv) (hG : ∀ q, G q → q < W.heap.size) :
    Calls Tryz.prog 43 #[.pointer (some ⟨m, 0, none⟩), exV 1 n s (.slice ao kn cap)] W (Made S G W (fun h vals => leafV S h vals 1 n s)) := by
  obtain ⟨HB, hb, hbc⟩ := boxed W #[.int .i64 1, .int .i64 n, str s, .slice ao kn cap] 27
  have b0 := hbc 0 (.int .i64 1) rfl
  have b1 := hbc 1 (.int .i64 n) rfl
  have b2 := hbc 2 (str s) rfl
  have b3 := hbc 3 (.slice ao kn cap) rfl
  have HM := hide (hM.keepF hS (unhide HB))
  have HG : ∀ W', Keeps (fun _ => False) W W' → Hid (∀ q, G q → q < W'.heap.size) := fun W' hk q hq => Nat.lt_of_lt_of_le (hG q hq) hk.size
  generalize hX : W.alloc (.cells #[.int .i64 1, .int .i64 n, str s, .slice ao kn cap] 27) = X at *
  clear hbc hM hG
  go_enter Tryz.func43, Tryz.ntmps43
  go_wp2_with fail
  refine (number_w _ _).mono ?_
  rintro e w1 ⟨rfl, hk1⟩
  have HK := hide ((unhide HB).trans hk1)
  clear hk1
  go_wp2_with fail
  refine (always_w S G _ (unhide (HG _ (unhide HK))) 1 n [] (by simp)).mono ?_
  rintro e w9 hm
  have HR : Hid (Made S G W (fun h vals => leafV S h vals 1 n s) e w9) := hm.from (unhide HK) (fun _ _ => by simp [leafV, numV])
  obtain ⟨fv, rfl, _⟩ := hm
  go_wp2_with fail
  go_ret
  exact unhide HR
set_option maxRecDepth 100000 in
set_option maxHeartbeats 1000000 in
theorem leaf2_v (S : List FieldA) (hS : 0 < S.length) (_hS8 : S.length ≤ 8) (n : Int) (s : Txt) (_hs : s.length ≤ 20) (W : World) (G : Nat → Prop) (m mb nn tab : Nat) (zv : Value) (ao : Option Addr) (kn cap : Nat) (hM : MkAt S G W m mb nn tab zv) (hG : ∀ q, G q → q < W.heap.size) :
    Calls Tryz.prog 43 #[.pointer (some ⟨m, 0, none⟩), exV 2 n s (.slice ao kn cap)] W (Made S G W (fun h vals => leafV S h vals 2 n s)) := by
  obtain ⟨HB, hb, hbc⟩ := boxed W #[.int .i64 2, .int .i64 n, str s, .slice ao kn cap] 27
  have b0 := hbc 0 (.int .i64 2) rfl
  have b1 := hbc 1 (.int .i64 n) rfl
  have b2 := hbc 2 (str s) rfl
  have b3 := hbc 3 (.slice ao kn cap) rfl
  have HM := hide (hM.keepF hS (unhide HB))
  have HG : ∀ W', Keeps (fun _ => False) W W' → Hid (∀ q, G q → q < W'.heap.size) := fun W' hk q hq => Nat.lt_of_lt_of_le (hG q hq) hk.size
  generalize hX : W.alloc (.cells #[.int .i64 2, .int .i64 n, str s, .slice ao kn cap] 27) = X at *
  clear hbc hM hG
  obtain ⟨q, hq⟩ : ∃ q : Int, q = if decide (n = 1) then 1 else 0 := ⟨_, rfl⟩
  have HQ := hide hq
  clear hq
  go_enter Tryz.func43, Tryz.ntmps43
  go_wp2_with fail
  refine (truth_w _ q (unhide HQ) _).mono ?_
  rintro e w1 ⟨rfl, hk1⟩
  have HK := hide ((unhide HB).trans hk1)
  clear hk1
  go_wp2_with fail
  refine (always_w S G _ (unhide (HG _ (unhide HK))) 2 q [] (by simp)).mono ?_
  rintro e w9 hm
  have HR : Hid (Made S G W (fun h vals => leafV S h vals 2 n s) e w9) := hm.from (unhide HK) (fun _ _ => by have := unhide HQ; simp [leafV, truV, this])
  obtain ⟨fv, rfl, _⟩ := hm
  go_wp2_with fail
  go_ret
  exact unhide HR
set_option maxRecDepth 100000 in
set_option maxHeartbeats 1000000 in
theorem leaf3_v (S : List FieldA) (hS : 0 < S.length) (_hS8 : S.length ≤ 8) (n : Int) (s : Txt) (_hs : s.length ≤ 20) (W : World) (G : Nat → Prop) (m mb nn tab : Nat) (zv : Value) (ao : Option Addr) (kn cap : Nat) (hM : MkAt S G W m mb nn tab zv) (hG : ∀ q, G q → q < W.heap.size) :
    Calls Tryz.prog 43 #[.pointer (some ⟨m, 0, none⟩), exV 3 n s (.slice ao kn cap)] W (Made S G W (fun h vals => leafV S h vals 3 n s)) := by
  obtain ⟨HB, hb, hbc⟩ := boxed W #[.int .i64 3, .int .i64 n, str s, .slice ao kn cap] 27
  have b0 := hbc 0 (.int .i64 3) rfl
  have b1 := hbc 1 (.int .i64 n) rfl
  have b2 := hbc 2 (str s) rfl
  have b3 := hbc 3 (.slice ao kn cap) rfl
  have HM := hide (hM.keepF hS (unhide HB))
  have HG : ∀ W', Keeps (fun _ => False) W W' → Hid (∀ q, G q → q < W'.heap.size) := fun W' hk q hq => Nat.lt_of_lt_of_le (hG q hq) hk.size
  generalize hX : W.alloc (.cells #[.int .i64 3, .int .i64 n, str s, .slice ao kn cap] 27) = X at *
  clear hbc hM hG
  go_enter Tryz.func43, Tryz.ntmps43
  go_wp2_with fail
  refine (text_w _ _).mono ?_
  rintro e w1 ⟨rfl, hk1⟩
  have HK := hide ((unhide HB).trans hk1)
  clear hk1
  go_wp2_with fail
  refine (always_w S G _ (unhide (HG _ (unhide HK))) 3 0 s _hs).mono ?_
  rintro e w9 hm
  have HR : Hid (Made S G W (fun h vals => leafV S h vals 3 n s) e w9) := hm.from (unhide HK) (fun _ _ => by simp [leafV, bytV])
  obtain ⟨fv, rfl, _⟩ := hm
  go_wp2_with fail
  go_ret
  exact unhide HR
set_option maxRecDepth 100000 in
set_option maxHeartbeats 1000000 in
theorem leaf4_v (S : List FieldA) (hS : 0 < S.length) (_hS8 : S.length ≤ 8) (n : Int) (s : Txt) (_hs : s.length ≤ 20) (W : World) (G : Nat → Prop) (m mb nn tab : Nat) (zv : Value) (ao : Option Addr) (kn cap : Nat) (hM : MkAt S G W m mb nn tab zv) (hG : ∀ q, G q → q < W.heap.size) :
    Calls Tryz.prog 43 #[.pointer (some ⟨m, 0, none⟩), exV 4 n s (.slice ao kn cap)] W (Made S G W (fun h vals => leafV S h vals 4 n s)) := by
  obtain ⟨HB, hb, hbc⟩ := boxed W #[.int .i64 4, .int .i64 n, str s, .slice ao kn cap] 27
  have b0 := hbc 0 (.int .i64 4) rfl
  have b1 := hbc 1 (.int .i64 n) rfl
  have b2 := hbc 2 (str s) rfl
  have b3 := hbc 3 (.slice ao kn cap) rfl
  have HM := hide (hM.keepF hS (unhide HB))
  have HG : ∀ W', Keeps (fun _ => False) W W' → Hid (∀ q, G q → q < W'.heap.size) := fun W' hk q hq => Nat.lt_of_lt_of_le (hG q hq) hk.size
  generalize hX : W.alloc (.cells #[.int .i64 4, .int .i64 n, str s, .slice ao kn cap] 27) = X at *
  clear hbc hM hG
  have HK := HB
  go_enter Tryz.func43, Tryz.ntmps43
  go_wp2_with fail
  refine (field_v S G _ m mb nn tab zv (unhide HM) hS _hS8 (unhide (HG _ (unhide HB))) s (by have := _hs; omega)).mono ?_
  rintro e w9 hm
  have HR : Hid (Made S G W (fun h vals => leafV S h vals 4 n s) e w9) := hm.from (unhide HK) (fun _ _ => by simp [leafV])
  obtain ⟨fv, rfl, _⟩ := hm
  go_wp2_with fail
  go_ret
  exact unhide HR
set_option maxRecDepth 100000 in
set_option maxHeartbeats 1000000 in
theorem leaf5_v (S : List FieldA) (hS : 0 < S.length) (_hS8 : S.length ≤ 8) (n : Int) (s : Txt) (_hs : s.length ≤ 20) (W : World) (G : Nat → Prop) (m mb nn tab : Nat) (zv : Value) (ao : Option Addr) (kn cap : Nat) (hM : MkAt S G W m mb nn tab zv) (hG : ∀ q, G q → q < W.heap.size) :
    Calls Tryz.prog 43 #[.pointer (some ⟨m, 0, none⟩), exV 5 n s (.slice ao kn cap)] W (Made S G W (fun h vals => leafV S h vals 5 n s)) := by
  obtain ⟨HB, hb, hbc⟩ := boxed W #[.int .i64 5, .int .i64 n, str s, .slice ao kn cap] 27
  have b0 := hbc 0 (.int .i64 5) rfl
  have b1 := hbc 1 (.int .i64 n) rfl
  have b2 := hbc 2 (str s) rfl
  have b3 := hbc 3 (.slice ao kn cap) rfl
  have HM := hide (hM.keepF hS (unhide HB))
  have HG : ∀ W', Keeps (fun _ => False) W W' → Hid (∀ q, G q → q < W'.heap.size) := fun W' hk q hq => Nat.lt_of_lt_of_le (hG q hq) hk.size
  generalize hX : W.alloc (.cells #[.int .i64 5, .int .i64 n, str s, .slice ao kn cap] 27) = X at *
  clear hbc hM hG
  have HK := HB
  go_enter Tryz.func43, Tryz.ntmps43
  go_wp2_with fail
  refine (hasM_v S G _ m mb nn tab zv (unhide HM) hS _hS8 (unhide (HG _ (unhide HB))) s (by have := _hs; omega)).mono ?_
  rintro e w9 hm
  have HR : Hid (Made S G W (fun h vals => leafV S h vals 5 n s) e w9) := hm.from (unhide HK) (fun _ _ => by simp [leafV])
  obtain ⟨fv, rfl, _⟩ := hm
  go_wp2_with fail
  go_ret
  exact unhide HR
set_option maxRecDepth 100000 in
set_option maxHeartbeats 1000000 in
theorem leaf6_v (S : List FieldA) (hS : 0 < S.length) (_hS8 : S.length ≤ 8) (n : Int) (s : Txt) (_hs : s.length ≤ 20) (W : World) (G : Nat → Prop) (m mb nn tab : Nat) (zv : Value) (ao : Option Addr) (kn cap : Nat) (hM : MkAt S G W m mb nn tab zv) (hG : ∀ q, G q → q < W.heap.size) :
    Calls Tryz.prog 43 #[.pointer (some ⟨m, 0, none⟩), exV 6 n s (.slice ao kn cap)] W (Made S G W (fun h vals => leafV S h vals 6 n s)) := by
  obtain ⟨HB, hb, hbc⟩ := boxed W #[.int .i64 6, .int .i64 n, str s, .slice ao kn cap] 27
  have b0 := hbc 0 (.int .i64 6) rfl
  have b1 := hbc 1 (.int .i64 n) rfl
  have b2 := hbc 2 (str s) rfl
  have b3 := hbc 3 (.slice ao kn cap) rfl
  have HM := hide (hM.keepF hS (unhide HB))
  have HG : ∀ W', Keeps (fun _ => False) W W' → Hid (∀ q, G q → q < W'.heap.size) := fun W' hk q hq => Nat.lt_of_lt_of_le (hG q hq) hk.size
  generalize hX : W.alloc (.cells #[.int .i64 6, .int .i64 n, str s, .slice ao kn cap] 27) = X at *
  clear hbc hM hG
  go_enter Tryz.func43, Tryz.ntmps43
  go_wp2_with fail
  go_ret
  exact ⟨_, rfl, (here1_v S G X).congr (fun _ _ => by simp [leafV]), unhide HB⟩
end Go.Proofs.YtiinohibmcefkaaGreatDoor
namespace Go.Proofs.YtiinohibmcefkaaGreatDoor
open Go.RowKit Go.Maps

theorem Tryz.info88 : (Tryz.prog.info? 88).map (fun i => (i.zero, i.size, i.bytes)) = some (some .nilFunc, 1, 8) := by kernel_rfl
/-- A list of closures, made new. -/
theorem run_mkW (n : Nat) (hn : n ≤ 1000) (w : World) : ∃ c : Array Value, c.size = n ∧ (Instr.makeSlice 129 (.int .i64 (n : Int)) (.int .i64 (n : Int))).run Tryz.prog w = .ok (.slice (some ⟨w.heap.size, 0, none⟩) n n) (w.alloc (.cells c 88)) := by
  obtain ⟨i0, hi, hz0, hz1, hz2⟩ := info_parts Tryz.info88
  have q := run_make (P := Tryz.prog) w 129 88 i0 _ Tryz.underlying129 hi hz0 .i64 .i64 (n : Int) (n : Int) (by omega) (by omega) (by rw [hz2]; omega) (by omega)
  rw [hz1] at q
  have e : ((n : Int)).toNat = n := by omega
  rw [e] at q
  exact ⟨_, by rw [size_madeCells]; omega, q⟩
/-- The closures of the kids so far. -/
structure Kids (S : List FieldA) (G : Nat → Prop) (kb n : Nat) (fs : List (Bool → List ValA → ValA)) (w : World) : Prop where
  blk : ∃ c, w.heap[kb]? = some (.cells c 88 (0, 0)) ∧ c.size = n ∧ ∀ (i : Nat) f, fs[i]? = some f → ∃ fv, c[i]? = some fv ∧ Wth S G w fv f
theorem Kids.lt {S : List FieldA} {G : Nat → Prop} {kb n : Nat} {fs : List (Bool → List ValA → ValA)} {w : World} (h : Kids S G kb n fs w) : kb < w.heap.size := by
  obtain ⟨c, hb, _⟩ := h.blk
  exact lt_of_block hb
theorem Kids.keepF {S : List FieldA} {G : Nat → Prop} {kb n : Nat} {fs : List (Bool → List ValA → ValA)} {w w' : World} (h : Kids S G kb n fs w) (hk : Keeps (fun _ => False) w w') : Kids S G kb n fs w' := by
  obtain ⟨c, hb, hc, hf⟩ := h.blk
  refine ⟨c, (hk.block _ (lt_of_block hb) id).trans hb, hc, fun i f hi => ?_⟩
  obtain ⟨fv, h1, h2⟩ := hf i f hi
  exact ⟨fv, h1, h2.keepF hk⟩
theorem Kids.old {S : List FieldA} {G : Nat → Prop} {kb n : Nat} {fs : List (Bool → List ValA → ValA)} {w : World} (h : Kids S G kb n fs w) {k : Nat} (hk : k < n) : (∃ v, w.cell? ⟨kb, k, none⟩ = some v) ∧ w.frozen? ⟨kb, k, none⟩ = false := by
  obtain ⟨c, hb, hc, _⟩ := h.blk
  exact ⟨⟨_, (cell_of_blk hb k).trans (Array.getElem?_eq_getElem (by omega))⟩, frozen_of_blk hb k⟩
theorem Kids.step {S : List FieldA} {G : Nat → Prop} {kb n : Nat} {fs : List (Bool → List ValA → ValA)} {w : World} (h : Kids S G kb n fs w) (hG : G kb) {k : Nat} (hk : k < n) (hl : fs.length = k) {fv : Value} {f : Bool → List ValA → ValA} (hf : Wth S G w fv f) : Kids S G kb n (fs ++ [f]) (w.setCell ⟨kb, k, none⟩ fv) := by
  obtain ⟨c, hb, hc, hd⟩ := h.blk
  have hks : Keeps G w (w.setCell ⟨kb, k, none⟩ fv) := (keeps_set w kb k fv).mono (fun q _ e => by rw [e]; exact hG)
  refine ⟨_, heap_setCell_at hb fv, by simp [hc], fun i g hi => ?_⟩
  rw [List.getElem?_append] at hi
  split at hi
  · rename_i hlt
    obtain ⟨v, h1, h2⟩ := hd i g hi
    exact ⟨v, by rw [Array.getElem?_setIfInBounds_ne (by omega)]; exact h1, h2.keepG hks⟩
  · rename_i hlt
    have hik : i = k := by
      have := (List.getElem?_eq_some_iff.1 hi).1
      simp at this
      omega
    subst hik
    rw [hl] at hi
    simp at hi
    subst hi
    exact ⟨fv, by rw [Array.getElem?_setIfInBounds_self_of_lt (by omega)], hf.keepG hks⟩
theorem Kids.all {S : List FieldA} {G G' : Nat → Prop} {kb n : Nat} {fs : List (Bool → List ValA → ValA)} {w : World} (h : Kids S G kb n fs w) (hl : fs.length = n) (hG : ∀ q, q < w.heap.size → G' q → G q) : WsAt S G' w (.slice (some ⟨kb, 0, none⟩) n n) fs := by
  obtain ⟨c, hb, hc, hd⟩ := h.blk
  refine ⟨kb, by rw [hl], lt_of_block hb, fun i f hi => ?_⟩
  obtain ⟨fv, h1, h2⟩ := hd i f hi
  exact ⟨fv, (cell_of_blk hb i).trans h1, h2.mono hG⟩
set_option maxRecDepth 100000 in
set_option maxHeartbeats 8000000 in
theorem exprBig_v (Z : Zone) (S : List FieldA) (hS : 0 < S.length) (_hS8 : S.length ≤ 8) (l : EL) (hl3 : l.len ≤ 3)
    (ih : ∀ (kids : EL), kids.size < l.size → ∀ (op n : Int) (s : Txt) (W : World) (G : Nat → Prop) (m mb nn tab : Nat) (zv : Value) (up : Nat) (v : Value), MkAt S G W m mb nn tab zv → (∀ q, G q → q < W.heap.size) → SlE Z W up v kids → rootB op n s kids.len = true → wellE kids = true → Calls Tryz.prog 43 #[.pointer (some ⟨m, 0, none⟩), exV op n s v] W (Made S G W (nodeV S op n s kids)))
    (o : Nat) (n : Int) (s : Txt) (h7 : 7 ≤ o) (h25 : o ≤ 25) (hkb : (kidsB o).toNat = l.len) (W : World) (G : Nat → Prop) (m mb nn tab : Nat) (zv : Value) (up : Nat) (v : Value) (hM : MkAt S G W m mb nn tab zv) (hG : ∀ q, G q → q < W.heap.size) (hSl : SlE Z W up v l) (hwell : wellE l = true) :
    Calls Tryz.prog 43 #[.pointer (some ⟨m, 0, none⟩), exV (o : Int) n s v] W (Made S G W (fun h vals => opV o (valsP S h vals l))) := by
  obtain ⟨ao, cap, b, off, rfl, hcap, ha, hx⟩ := hSl.open
  obtain ⟨HB, hxb, hxc⟩ := boxedT W #[.int .i64 (o : Int), .int .i64 n, str s, .slice ao l.len cap] 27
  have x0 := hxc 0 (.int .i64 (o : Int)) rfl
  have x3 := hxc 3 (.slice ao l.len cap) rfl
  generalize hX : W.alloc (.cells #[.int .i64 (o : Int), .int .i64 n, str s, .slice ao l.len cap] 27) = X at *
  obtain ⟨c0, hc0, hrun⟩ := run_mkW l.len (by omega) X
  have hKY : Keeps (fun _ => False) X (X.alloc (.cells c0 88)) := (Keeps.refl _ _).alloc _
  have hbY := heap_alloc_new X (.cells c0 88)
  have y3 := (hKY.cell (o := 3) hxb id).trans x3
  generalize hY : X.alloc (.cells c0 88) = Y at *
  have hXW := (unhide HB).size
  have hmk : ∀ q, (G q ∨ q = X.heap.size) → q < W.heap.size → G q := fun q h hq => h.elim id (fun e => by omega)
  have hMY : MkAt S (fun q => G q ∨ q = X.heap.size) Y m mb nn tab zv := hM.shift hS ((unhide HB).trans hKY).any hmk
  have HK0 : Hid (Kids S (fun q => G q ∨ q = X.heap.size) X.heap.size l.len [] Y) := ⟨c0, hbY, hc0, fun i f hi => by simp at hi⟩
  have HWY := hide ((unhide HB).trans hKY)
  have HXY := hide hKY
  have IH := hide ih
  have HX := hide hx
  have HA := hide ha
  have HMY := hide hMY
  have HW := hide hwell
  have HG := hide hG
  have hxX : W.heap.size < X.heap.size := hxb
  have n0 : ((o : Int) == 1) = false := by simp; omega
  have n1 : ((o : Int) == 2) = false := by simp; omega
  have n2 : ((o : Int) == 3) = false := by simp; omega
  have n3 : ((o : Int) == 4) = false := by simp; omega
  have n4 : ((o : Int) == 5) = false := by simp; omega
  have n5 : ((o : Int) == 6) = false := by simp; omega
  clear hSl ih hx ha hM hMY hwell hG hxc hKY hc0 hmk hbY
  go_enter Tryz.func43, Tryz.ntmps43
  go_wp2_with fail
  go_loopw [50] (fun i wr => ∃ (rest : EL) (k : Nat) (fs : List (Bool → List ValA → ValA)), i = .int .i64 k ∧ k + rest.len = l.len ∧ rest.size ≤ l.size ∧ fs.length = k ∧ wellE rest = true ∧ Hid (∀ h vals, valsP S h vals l = fs.map (fun f => f h vals) ++ valsP S h vals rest) ∧ Hid (Kids S (fun q => G q ∨ q = X.heap.size) X.heap.size l.len fs wr) ∧ Keeps (fun q => q = X.heap.size) Y wr ∧ Hid (ExIn Z W rest b (off + k * 4))) (fun i _ => l.len - (intOf i).toNat)
  case atStart =>
    exact ⟨l, 0, [], rfl, by omega, Nat.le_refl _, rfl, unhide HW, fun h vals => rfl, HK0, Keeps.refl _ _, by show ExIn _ _ _ _ _; simpa using unhide HX⟩
  case round =>
    obtain ⟨rest, k, fs, rfl, hkl, hrs, hfl, hwe, HEQ, HKD, hkp, HEX⟩ := hrel
    have HK := hide hkp
    have hkb2 := (unhide HKD).lt
    clear HK0 hrun y3
    cases rest with
    | cons op' n' s' kids rest =>
      obtain ⟨h1, h2, h3, h4, h5, ⟨kao, kcap, h6, h7', h8⟩, h9⟩ := unhide HEX
      simp only [EL.len, EL.size, wellE, Bool.and_eq_true] at hkl hrs hwe
      obtain ⟨rfl, hp⟩ := (unhide HA) (by omega)
      have hKw : Keeps (fun q => q = X.heap.size) W wr := (unhide HWY).any.trans (unhide HK)
      have HKID : Hid (SlE Z W b (.slice kao kids.len kcap) kids) := ⟨kao, kcap, rfl, h7', h8⟩
      have HR9 := hide h9
      have HWR := hide hwe.2.2
      have i1 : (k : Int) < (l.len : Int) := by omega
      have i0 : (0 : Int) ≤ (k : Int) := by omega
      have q0 := (hKw.cell h1 (by omega)).trans h3
      have q1 := (hKw.cell h1 (by omega)).trans h4
      have q2 := (hKw.cell h1 (by omega)).trans h5
      have q3 := (hKw.cell h1 (by omega)).trans h6
      obtain ⟨HBk, hkbb, hkc⟩ := boxedT wr #[.int .i64 op', .int .i64 n', str s', .slice kao kids.len kcap] 27
      have HV : Hid (Keeps (fun q => q = X.heap.size) Y (wr.alloc (.cells #[.int .i64 op', .int .i64 n', str s', .slice kao kids.len kcap] 27))) := (unhide HK).trans (unhide HBk).any
      have hMV : MkAt S (fun q => G q ∨ q = X.heap.size) (wr.alloc (.cells #[.int .i64 op', .int .i64 n', str s', .slice kao kids.len kcap] 27)) m mb nn tab zv := (unhide HMY).shift hS ((unhide HV).mono (fun q _ e => Or.inr e)) (fun q h _ => h)
      have hSV : SlE Z (wr.alloc (.cells #[.int .i64 op', .int .i64 n', str s', .slice kao kids.len kcap] 27)) b (.slice kao kids.len kcap) kids := (unhide HKID).keepF (((unhide HWY).narrow (unhide HK) (fun q e => by omega)).trans (unhide HBk))
      have HC := hide (unhide IH kids (by omega) op' n' s' _ (fun q => G q ∨ q = X.heap.size) m mb nn tab zv b (.slice kao kids.len kcap) hMV (fun q h => by
        have e1 := hKw.size
        have e2 := (unhide HBk).size
        rcases h with h | h
        · have := unhide HG q h
          omega
        · omega) hSV hwe.1 hwe.2.1)
      have HKk := hide ((unhide HKD).keepF (unhide HBk))
      clear h2 h3 h4 h5 h6 h8 h9 hwe hkc hkp hMV hSV hKw HKID
      go_wp2_with fail
      refine (unhide HC).mono ?_
      rintro e w1 ⟨fv, rfl, hfw, hk1⟩
      have hK1 := (unhide HKk).keepF hk1
      obtain ⟨⟨old, a0⟩, z0⟩ := hK1.old (show k < l.len by omega)
      have HK2 := hide (hK1.step (Or.inr rfl) (by omega) hfl hfw)
      have HKN := hide ((unhide HV).trans hk1.any)
      obtain ⟨kf, capf, rfl, _⟩ := hfw
      clear hK1 hk1
      go_wp2_with fail
      go_roundw
      case rel =>
        refine ⟨rest, k + 1, fs ++ [nodeV S op' n' s' kids], by go_num, by omega, by omega, by simp [hfl], unhide HWR, ?_, HK2, (unhide HKN).trans (keeps_set _ _ _ _), ?_⟩
        · intro h vals
          rw [unhide HEQ h vals, valsP_cons]
          simp
        · show ExIn _ _ _ _ _
          rw [show off + (k + 1) * 4 = off + k * 4 + 4 by omega]
          exact unhide HR9
      case measure => simp [intOf]; omega
    | nil =>
      simp only [EL.len, EL.size] at hkl hrs
      have i1 : ¬ (k : Int) < (l.len : Int) := by omega
      have hfl2 : fs.length = l.len := by omega
      have HEQ2 : Hid (∀ h vals, valsP S h vals l = fs.map (fun f => f h vals)) := fun h vals => by
        rw [unhide HEQ h vals]
        simp [valsP]
      have hMw : MkAt S (fun q => G q ∨ q = X.heap.size) wr m mb nn tab zv := (unhide HMY).shift hS (hkp.mono (fun q _ e => Or.inr e)) (fun q h _ => h)
      obtain ⟨ov, ho, hof⟩ := hMw.ops o h7 h25
      obtain ⟨ko, capo, rfl, eo, hcall⟩ := hof
      have hKD : Kids S (fun q => G q ∨ q = X.heap.size) X.heap.size l.len fs wr.drew := (unhide HKD).keepF (Keeps.refl _ _).drew
      have hsz : W.heap.size ≤ wr.heap.size := by have := (unhide HWY).size; have := hkp.size; omega
      have HC := hide (hcall wr.drew G (.slice (some ⟨X.heap.size, 0, none⟩) l.len l.len) fs (Keeps.refl _ _).drew (fun q h _ => Or.inl h) (fun q h => Nat.lt_of_lt_of_le (unhide HG q h) hsz) (by omega) (hKD.all hfl2 (fun q _ h => Or.inl h)))
      have c2 := hMw.c2
      have xw : wr.cell? ⟨W.heap.size, 0, none⟩ = some (.int .i64 (o : Int)) := (hkp.cell (Nat.lt_of_lt_of_le hxb (unhide HXY).size) (by omega)).trans (((unhide HXY).cell hxb id).trans x0)
      have lm := hMw.lt
      have lt := hMw.tl
      have lx := Nat.lt_of_lt_of_le hxb (Nat.le_trans (unhide HXY).size hkp.size)
      have o0 : (0 : Int) ≤ (o : Int) := by omega
      have o1 : (o : Int) < 26 := by omega
      have SB : ∀ w' : World, Keeps (fun _ => False) wr w' → w'.cell? ⟨m, 2, none⟩ = some (.slice (some ⟨tab, 0, none⟩) 26 26) ∧ w'.cell? ⟨tab, o, none⟩ = some (.func (.func ko) #[] capo) ∧ w'.cell? ⟨W.heap.size, 0, none⟩ = some (.int .i64 (o : Int)) := fun w' hk => ⟨(hk.cell lm id).trans c2, (hk.cell lt id).trans ho, (hk.cell lx id).trans xw⟩
      have HSB := hide SB
      have s0 := SB wr (Keeps.refl _ _)
      have HKW : Hid (Keeps (fun _ => False) W wr) := (unhide HWY).narrow hkp (fun q e => by omega)
      unfold Enters at eo
      clear hMw hcall ho c2 xw SB hkp hKD
      go_wp2_with fail
      go_region_held3 (fun w' => w'.cell? ⟨m, 2, none⟩ = some (.slice (some ⟨tab, 0, none⟩) 26 26) ∧ w'.cell? ⟨tab, o, none⟩ = some (.func (.func ko) #[] capo) ∧ w'.cell? ⟨W.heap.size, 0, none⟩ = some (.int .i64 (o : Int)))
        (first | with_reducible exact s0 | with_reducible exact r0 | with_reducible exact unhide HSB _ (Keeps.refl _ _).drew)
        (first | ((with_reducible refine (unhide HC).mono ?_); rintro e w1 ⟨fv, rfl, hfw, hk1⟩; have HFW := hide hfw; have HK1 := hide ((Keeps.refl (fun _ => False) wr).drew.trans hk1); have r0 := unhide HSB _ (unhide HK1); obtain ⟨kq, capq, rfl, _⟩ := hfw; clear hk1))
      go_wp2_with fail
      go_ret
      exact ⟨_, rfl, (unhide HFW).congr (fun h vals => by rw [unhide HEQ2 h vals]), (unhide HKW).trans (unhide HK1)⟩
theorem leaf_text {op n : Int} {s : Txt} {k : Nat} (h : rootB op n s k = true) (_h6 : op ≤ 6) : s.length ≤ 20 := by
  unfold rootB at h
  simp only [Bool.and_eq_true] at h
  have h2 := h.2.2
  unfold leafB at h2
  split at h2
  · simp only [decide_eq_true_eq] at h2; simp [h2]
  · split at h2
    · simp only [Bool.and_eq_true, decide_eq_true_eq] at h2; simp [h2.1]
    · split at h2
      · simp only [Bool.and_eq_true, decide_eq_true_eq] at h2; exact h2.2
      · split at h2
        · simp only [Bool.and_eq_true] at h2
          have := name_short h2.2
          omega
        · simp only [Bool.and_eq_true, decide_eq_true_eq] at h2; simp [h2.2]
theorem exprM_v (Z : Zone) (S : List FieldA) (hS : 0 < S.length) (hS8 : S.length ≤ 8) (N : Nat) : ∀ (l : EL), l.size < N → ∀ (op n : Int) (s : Txt) (W : World) (G : Nat → Prop) (m mb nn tab : Nat) (zv : Value) (up : Nat) (v : Value), MkAt S G W m mb nn tab zv → (∀ q, G q → q < W.heap.size) → SlE Z W up v l → rootB op n s l.len = true → wellE l = true →
    Calls Tryz.prog 43 #[.pointer (some ⟨m, 0, none⟩), exV op n s v] W (Made S G W (nodeV S op n s l)) := by
  induction N with
  | zero => intro l h; omega
  | succ N ih =>
    intro l hsz op n s W G m mb nn tab zv up v hM hG hSl hroot hwell
    obtain ⟨o, r, rfl, ho25, hr, hrk, hl3, _⟩ := root_open hroot
    have hkb : kidsB o = l.len ∧ 1 ≤ o := by
      unfold rootB at hroot
      simp only [Bool.and_eq_true, decide_eq_true_eq] at hroot
      obtain ⟨m', h1, h2, h3, _⟩ := kidsB_range _ hroot.1
      exact ⟨hroot.2.1.symm, by omega⟩
    by_cases h6 : (o : Int) ≤ 6
    · have ht := leaf_text hroot h6
      obtain ⟨ao, cap, rfl, _⟩ := hSl.head
      have hn : nodeV S o n s l = fun h vals => leafV S h vals o n s := by funext h vals; simp [nodeV, h6]
      rw [hn]
      rcases (show o = 1 ∨ o = 2 ∨ o = 3 ∨ o = 4 ∨ o = 5 ∨ o = 6 by omega) with rfl | rfl | rfl | rfl | rfl | rfl
      · exact leaf1_v S hS hS8 n s ht W G m mb nn tab zv ao _ cap hM hG
      · exact leaf2_v S hS hS8 n s ht W G m mb nn tab zv ao _ cap hM hG
      · exact leaf3_v S hS hS8 n s ht W G m mb nn tab zv ao _ cap hM hG
      · exact leaf4_v S hS hS8 n s ht W G m mb nn tab zv ao _ cap hM hG
      · exact leaf5_v S hS hS8 n s ht W G m mb nn tab zv ao _ cap hM hG
      · exact leaf6_v S hS hS8 n s ht W G m mb nn tab zv ao _ cap hM hG
    · have hn : nodeV S o n s l = fun h vals => opV o (valsP S h vals l) := by funext h vals; simp [nodeV, h6]
      rw [hn]
      exact exprBig_v Z S hS hS8 l hl3 (fun kids hk => ih kids (by omega)) o n s (by omega) ho25 (by omega) W G m mb nn tab zv up v hM hG hSl hwell
end Go.Proofs.YtiinohibmcefkaaGreatDoor
