import Derived.Test.YtiinohibmcefkaaGreatDoorJag
import Derived.Test.YtiinohibmcefkaaGreatDoorJab
namespace Go.Proofs.YtiinohibmcefkaaGreatDoor
open Go.RowKit Go.Maps
set_option maxRecDepth 100000
set_option maxHeartbeats 1600000
theorem parts_stmts (B c : Nat) (hBc : B ≤ c) (N : Nat) : ∀ (l : SL), l.size < N → ∀ (w : World) (up : Nat) (v : Value) (n left : Int), SlS (argZ B) w up v l → w.heap[c]? = some (.cells #[.int .i64 n] 80 (0, 0)) → 0 ≤ n → n ≤ 2147483647 → 0 ≤ left → left ≤ 65536 →
  Calls Tryz.prog 39 #[.pointer (some ⟨c, 0, none⟩), v, .int .i64 left] w (PPost c n l.size w) := by
 induction N with
 | zero => intro l h; omega
 | succ N ih =>
  intro l hsz w up v n left hS hb hn0 hn1 hl0 hl1
  obtain ⟨ao, cap, b, off, rfl, hcap, ha, hx⟩ := hS.open
  have IH := hide ih
  have HX := hide hx
  have HA := hide ha
  have HB := hide hb
  clear hS ih hx ha hb
  go_enter Tryz.func39, Tryz.ntmps39
  go_wp2_with fail
  go_loopw [7] (fun i wr => ∃ (rest : SL) (k : Nat) (m : Int), i = .int .i64 k ∧ k + rest.len = l.len ∧ rest.size ≤ l.size ∧ m + rest.size = n + l.size ∧ n + k ≤ m ∧ m ≤ 2147483647 ∧ wr.heap[c]? = some (.cells #[.int .i64 m] 80 (0, 0)) ∧ Keeps (fun k => k = c) w wr ∧ StIn (argZ B) wr rest b (off + k * 5)) (fun i _ => l.len - (intOf i).toNat)
  case atStart => exact ⟨l, 0, n, rfl, by omega, Nat.le_refl _, rfl, by omega, hn1, uh HB, Keeps.refl _ _, by simpa using uh HX⟩
  case round =>
   obtain ⟨rest, k, m, rfl, hkl, hrs, hm, hnk, hm1, hc, hkeep, hr⟩ := hrel
   cases rest with
   | nil =>
    simp only [SL.len, SL.size] at hkl hm hrs
    have HC := hide hc
    have HK := hide hkeep
    clear hc hkeep hr
    have i1 : ¬ (k : Int) < (l.len : Int) := by omega
    go_wp2_with fail
    go_ret
    exact ⟨_, _, rfl, uh HC, uh HK, by omega, fun _ => ⟨by omega, hm1⟩⟩
   | cons op f ex th el rest =>
    obtain ⟨h1, h2, h3, h4, ⟨xv, h5, hxs⟩, ⟨tao, tcap, h6, h7, h8⟩, ⟨eao, ecap, g6, g7, g8⟩, h9⟩ := hr
    simp only [SL.len, SL.size] at hkl hm hrs
    obtain ⟨rfl, hp⟩ := (uh HA) (by omega)
    have HEX := hide hxs
    have HTH : Hid (SlS (argZ B) wr b (.slice tao th.len tcap) th) := ⟨tao, tcap, rfl, h7, h8⟩
    have HEL : Hid (SlS (argZ B) wr b (.slice eao el.len ecap) el) := ⟨eao, ecap, rfl, g7, g8⟩
    have HR := hide h9
    have HK := hide hkeep
    have HC := hide hc
    have hcc := cB hc 0
    have hfz := fB hc 0
    simp at hcc
    have i1 : (k : Int) < (l.len : Int) := by omega
    have i0 : (0 : Int) ≤ (k : Int) := by omega
    have hbc : b ≠ c := by have : b < B := h2; omega
    have hcb : c ≠ b := fun e => hbc e.symm
    have HC1 : Hid ((wr.setCell ⟨c, 0, none⟩ (.int .i64 (m + 1))).heap[c]? = some (.cells #[.int .i64 (m + 1)] 80 (0, 0))) := by
     have := heap_setCell_at (uh HC) (o := 0) (.int .i64 (m + 1))
     exact hide (by simpa using this)
    have HK1 : Hid (Keeps (fun k => k = c) w (wr.setCell ⟨c, 0, none⟩ (.int .i64 (m + 1)))) := (uh HK).setCell (fun _ => rfl) _
    have HKS : Hid (Keeps (fun k => k = c) wr (wr.setCell ⟨c, 0, none⟩ (.int .i64 (m + 1)))) := (Keeps.refl (fun k => k = c) wr).setCell (fun _ => rfl) _
    clear hc hkeep h2 h3 h4 h8 g8 h9 hxs
    by_cases hq : left = 0
    ·subst hq
     go_wp2_with fail
     go_ret
     exact ⟨true, _, rfl, uh HC1, uh HK1, by omega, fun h => by cases h⟩
    ·have hq' : (left == 0) = false := by simpa using hq
     by_cases hm2 : m = 2147483647
     ·subst hm2
      go_wp2_with fail
      go_ret
      exact ⟨true, _, rfl, uh HC1, uh HK1, by omega, fun h => by cases h⟩
     ·have hm3 : ¬ (2147483647 : Int) < m + 1 := by omega
      obtain ⟨xao, xcap, rfl, hxl⟩ := (uh HEX).head
      have HCALL := hide (parts_exprs B c hBc (ex.size + 1) ex (by omega) _ b (.slice xao ex.len xcap) (m + 1) (left - 1) ((uh HEX).argKeep (uh HKS) (fun k e => by omega)) (uh HC1) (by omega) (by omega) (by omega) (by omega))
      go_wp2_with (first
       | (go_at_call 37; refine (uh HCALL).mono ?_; rintro e w1 ⟨r, n1, rfl, hc1, hk1, hn1, hr1⟩; have HC2 := hide hc1; have HN1 := hide hn1; have HR1 := hide hr1; have HKW := hide ((uh HKS).trans hk1); have HKT := hide ((uh HK1).trans hk1); have q6 := ((uh HKW).cell h1 hbc).trans h6; have q7 := ((uh HKW).cell h1 hbc).trans g6; clear hc1 hk1 hn1 hr1)
       | (go_at_call_of 39 (Value.slice tao th.len tcap); have HE1 := hide ((uh HR1) (by assumption)); refine (uh IH th (by omega) _ b _ n1 (left - 1) ((uh HTH).argKeep (uh HKW) (fun k e => by omega)) (uh HC2) (uh HN1) (uh HE1).2 (by omega) (by omega)).mono ?_; rintro e w2 ⟨r2, n2, rfl, hc1, hk1, hn1, hr1⟩; have HC3 := hide hc1; have HN2 := hide hn1; have HR2 := hide hr1; have HKW2 := hide ((uh HKW).trans hk1); have HKT2 := hide ((uh HKT).trans hk1); have q8 := ((uh HKW2).cell h1 hbc).trans g6; clear hc1 hk1 hn1 hr1)
       | (go_at_call_of 39 (Value.slice eao el.len ecap); have HE2 := hide ((uh HR2) (by assumption)); refine (uh IH el (by omega) _ b _ n2 (left - 1) ((uh HEL).argKeep (uh HKW2) (fun k e => by omega)) (uh HC3) (uh HN2) (uh HE2).2 (by omega) (by omega)).mono ?_; rintro e w3 ⟨r3, n3, rfl, hc1, hk1, hn1, hr1⟩; have HC4 := hide hc1; have HN3 := hide hn1; have HR3 := hide hr1; have HKW3 := hide ((uh HKW2).trans hk1); have HKT3 := hide ((uh HKT2).trans hk1); clear hc1 hk1 hn1 hr1))
      ·go_ret
       exact ⟨true, _, rfl, uh HC2, uh HKT, uh HN1, fun h => by cases h⟩
      ·go_ret
       exact ⟨true, _, rfl, uh HC3, uh HKT2, uh HN2, fun h => by cases h⟩
      ·go_ret
       exact ⟨true, _, rfl, uh HC4, uh HKT3, uh HN3, fun h => by cases h⟩
      ·obtain ⟨e1, e2⟩ := (uh HR1) (by assumption)
       obtain ⟨e3, e4⟩ := (uh HR2) (by assumption)
       obtain ⟨e5, e6⟩ := (uh HR3) (by assumption)
       go_roundw
       case rel =>
        refine ⟨rest, k + 1, n3, by go_num, by omega, by omega, by omega, by omega, e6, uh HC4, uh HKT3, ?_⟩
        rw [show off + (k + 1) * 5 = off + k * 5 + 5 by omega]
        exact (uh HR).argKeep (uh HKW3) (fun k e => by omega)
       case measure => simp [intOf]; omega
end Go.Proofs.YtiinohibmcefkaaGreatDoor
namespace Go.Proofs.YtiinohibmcefkaaGreatDoor
open Go.RowKit Go.Maps
set_option maxRecDepth 100000
set_option maxHeartbeats 1000000
def wordsT (l : List Txt) : Txt := 32 :: l.flatMap (fun x => x ++ [32])
def standsB (t w : Txt) (i : Nat) : Bool := (List.range (t.length + 1 - w.length - i)).any fun k => decide ((t.drop (i + k)).take w.length = w)
def listedB (t x : Txt) : Bool := decide (x ≠ []) && (x.all (fun c => decide (c ≠ 32)) && standsB t (32 :: (x ++ [32])) 0)
theorem stands_step {t w : Txt} {i : Nat} (h : i + w.length ≤ t.length) : standsB t w i = (decide ((t.drop i).take w.length = w) || standsB t w (i + 1)) := by
 unfold standsB
 rw [show t.length + 1 - w.length - i = (t.length + 1 - w.length - (i + 1)) + 1 by omega, List.range_succ_eq_map, List.any_cons, List.any_map]
 congr 2
 funext k
 simp [Nat.add_assoc, Nat.add_comm 1 k]
theorem stands_end {t w : Txt} {i : Nat} (h : t.length < i + w.length) : standsB t w i = false := by
 unfold standsB
 rw [show t.length + 1 - w.length - i = 0 by omega]
 rfl
theorem stands_iff {t w : Txt} : standsB t w 0 = true ↔ ∃ i, i + w.length ≤ t.length ∧ (t.drop i).take w.length = w := by
 unfold standsB
 simp only [List.any_eq_true, List.mem_range, decide_eq_true_eq, Nat.zero_add]
 constructor
 ·rintro ⟨k, hk, h⟩; exact ⟨k, by omega, h⟩
 ·rintro ⟨k, hk, h⟩; exact ⟨k, by omega, h⟩
theorem tw {x r : Txt} (h : x.all (fun c => decide (c ≠ 32)) = true) : (x ++ 32 :: r).takeWhile (fun c => decide (c ≠ 32)) = x := by
 induction x with
 | nil => rfl
 | cons c x ih =>
  simp only [List.all_cons, Bool.and_eq_true] at h
  simp only [List.cons_append, List.takeWhile_cons, h.1, if_true]
  rw [ih h.2]
def afters (t : Txt) : List Txt := (List.range t.length).filterMap fun i => if t[i]? = some 32 then some ((t.drop (i + 1)).takeWhile (fun c => decide (c ≠ 32))) else none
theorem listed_mem {t x : Txt} (h : listedB t x = true) : x ∈ afters t := by
 unfold listedB at h
 simp only [Bool.and_eq_true, decide_eq_true_eq] at h
 obtain ⟨_, ha, hs⟩ := h
 obtain ⟨i, hi, he⟩ := stands_iff.1 hs
 have hd : t.drop i = (32 :: (x ++ [32])) ++ (t.drop i).drop (32 :: (x ++ [32]) : Txt).length := by
  conv => lhs; rw [← List.take_append_drop (32 :: (x ++ [32]) : Txt).length (t.drop i)]
  rw [he]
 have h1 : t[i]? = some 32 := by
  have := congrArg (fun l => l[0]?) hd
  simpa [List.getElem?_drop] using this
 have h2 : t.drop (i + 1) = x ++ 32 :: (t.drop i).drop (32 :: (x ++ [32]) : Txt).length := by
  rw [show t.drop (i + 1) = (t.drop i).drop 1 by rw [List.drop_drop, Nat.add_comm]]
  conv => lhs; rw [hd]
  simp
 unfold afters
 rw [List.mem_filterMap]
 refine ⟨i, ?_, ?_⟩
 ·rw [List.mem_range]; simp at hi; omega
 ·rw [if_pos h1, h2, tw ha]
theorem listed_kws (x : Txt) : listedB (wordsT kws) x = decide (x ∈ kws) := by
 apply Bool.eq_iff_iff.2
 constructor
 ·intro h
  have h0 : x ≠ [] := by intro e; subst e; simp [listedB] at h
  have hm := listed_mem h
  have ha : (afters (wordsT kws)).all (fun y => decide (y = []) || decide (y ∈ kws)) = true := by decide +kernel
  have := List.all_eq_true.1 ha x hm
  simpa [h0] using this
 ·intro h
  have hx : x ∈ kws := of_decide_eq_true h
  have ha : kws.all (fun y => listedB (wordsT kws) y) = true := by decide +kernel
  exact List.all_eq_true.1 ha x hx
theorem str_cat (a b c : Txt) (h : a ++ b = c) : Value.string (ByteArray.mk a.toArray ++ ByteArray.mk b.toArray) = str c := by
 rw [ByteArray.mk_append_mk, ← h]
theorem listed_v (l x : Txt) (hl : l.length ≤ 4096) (hx : x.length ≤ 140737488355328) (w : World) :
  Calls Tryz.prog 223 #[str l, str x] w fun e w' => e = .returned (.bool (listedB l x)) ∧ w' = w := by
 obtain ⟨D, HD⟩ : ∃ D, Hid (listedB l x = D) := ⟨_, rfl⟩
 rw [uh HD]
 by_cases h0 : x = []
 ·subst h0
  have HE : Hid (D = false) := by show _ = _; rw [← uh HD]; simp [listedB]
  go_enter Tryz.func223, Tryz.ntmps223
  go_wp2_with fail
  go_ret
  exact ⟨ret_bool (uh HE).symm, rfl⟩
 have hne : (x == []) = false := by simpa using h0
 go_enter Tryz.func223, Tryz.ntmps223
 go_wp2_with fail
 go_loopw [5] (fun i wr => ∃ j : Nat, j ≤ x.length ∧ i = .int .i64 j ∧ Hid ((x.take j).all (fun c => decide (c ≠ 32)) = true) ∧ wr = w) (fun i _ => x.length - (intOf i).toNat)
 case atStart => exact ⟨0, Nat.zero_le _, rfl, by simp [Hid], rfl⟩
 case round =>
  obtain ⟨j, hj, rfl, HA, rfl⟩ := hrel
  cases hy : x[j]? with
  | some y =>
   have h1 := get_lt hy
   have q := str_at hy
   have e1 : (y.toNat : Int) = num y := rfl
   have HY := hide hy
   clear hy
   by_cases h32 : num y = 32
   ·have HE : Hid (D = false) := by
     show _ = _
     rw [← uh HD]
     unfold listedB
     rw [show x.all (fun c => decide (c ≠ 32)) = false by
      rw [List.all_eq_false]
      exact ⟨y, List.mem_of_getElem? (uh HY), by simp [num_inj (a := y) (b := 32) h32]⟩]
     simp
    have e32 : (num y == 32) = true := by simpa using h32
    go_wp2_with fail
    go_ret
    exact ⟨ret_bool (uh HE).symm, rfl⟩
   ·have e32 : (num y == 32) = false := by simpa using h32
    have HN : Hid (y ≠ 32) := fun e => h32 (by rw [e]; rfl)
    go_wp2_with fail
    go_roundw
    case rel =>
     refine ⟨j + 1, by omega, by go_num, ?_, trivial⟩
     show _ = true
     rw [take_snoc _ _ _ (uh HY), List.all_append, uh HA]
     simpa using uh HN
    case measure => simp [intOf]; omega
  | none =>
   have h1 := get_ge hy
   obtain rfl : j = x.length := by omega
   clear hy
   rw [List.take_length] at HA
   obtain ⟨W, HW⟩ : ∃ W : Txt, Hid ((32 :: (x ++ [32]) : Txt) = W) := ⟨_, hide rfl⟩
   have hWl : W.length ≤ 140737488355330 := by rw [← uh HW]; simp; omega
   have hcat1 : Value.string (ByteArray.mk #[32] ++ ByteArray.mk x.toArray) = str (32 :: x) := str_cat [32] x _ rfl
   have hcat2 : Value.string (ByteArray.mk (32 :: x).toArray ++ ByteArray.mk #[32]) = str W := str_cat (32 :: x) [32] _ (by rw [← uh HW]; rfl)
   have HS : Hid (D = standsB l W 0) := by
    show _ = _
    rw [← uh HD]
    unfold listedB
    rw [uh HA, uh HW, decide_eq_true h0]
    rfl
   clear h1
   go_wp2_with fail
   obtain ⟨w0, hw0⟩ : ∃ w0, w0 = wr := ⟨_, rfl⟩
   subst hw0
   go_loopw [7] (fun i wr => ∃ k : Nat, k ≤ l.length + 1 ∧ i = .int .i64 k ∧ Hid (D = standsB l W k) ∧ wr = w0) (fun i _ => l.length + 1 - (intOf i).toNat)
   case atStart => exact ⟨0, Nat.zero_le _, rfl, uh HS, rfl⟩
   case round =>
    obtain ⟨k, hk, rfl, HK, rfl⟩ := hrel
    by_cases hkl : k + W.length ≤ l.length
    ·have HT := hide (stands_step hkl)
     have hsl : (ByteArray.mk l.toArray).extract k (k + W.length) = ⟨((l.drop k).take W.length).toArray⟩ := by rw [ext_str, Nat.add_sub_cancel_left]
     obtain ⟨Y, HY⟩ : ∃ Y : Txt, Hid ((l.drop k).take W.length = Y) := ⟨_, hide rfl⟩
     rw [uh HY] at hsl HT
     have hk1 : (k : Int) + (W.length : Int) ≤ (l.length : Int) := by omega
     by_cases hyw : Y = W
     ·have HE : Hid (D = true) := by show _ = _; rw [uh HK, uh HT, decide_eq_true hyw]; rfl
      have e1 : (Y == W) = true := by simpa using hyw
      clear hyw
      go_wp2_with fail
      go_ret
      exact ⟨ret_bool (uh HE).symm, rfl⟩
     ·have HE : Hid (D = standsB l W (k + 1)) := by show _ = _; rw [uh HK, uh HT, decide_eq_false hyw]; rfl
      have e1 : (Y == W) = false := by simpa using hyw
      clear hyw
      go_wp2_with fail
      go_roundw
      case rel => exact ⟨k + 1, by omega, by go_num, uh HE, trivial⟩
      case measure => simp [intOf]; omega
    ·have HE : Hid (D = false) := by show _ = _; rw [uh HK, stands_end (by omega)]
     have hk1 : (l.length : Int) < (k : Int) + (W.length : Int) := by omega
     go_wp2_with fail
     go_ret
     exact ⟨ret_bool (uh HE).symm, rfl⟩
theorem refKeyword_v (x : Txt) (hx : x.length ≤ 140737488355328) (w : World) : Calls Tryz.prog 221 #[str x] w fun e w' => e = .returned (.bool (decide (x ∈ kws))) ∧ w' = w := by
 have HQ := hide (listed_v (wordsT kws) x (by decide +kernel) hx w)
 rw [listed_kws] at HQ
 have e : wordsT kws = [32, 97, 110, 100, 32, 99, 97, 116, 32, 99, 108, 101, 97, 114, 32, 100, 101, 108, 101, 116, 101, 32, 101, 108, 115, 101, 32, 102, 97, 108, 115, 101, 32, 104, 97, 115, 32, 104, 101, 114, 101, 32, 105, 102, 32, 108, 101, 110, 32, 109, 97, 120, 32, 109, 105, 110, 32, 110, 101, 119, 32, 110, 111, 116, 32, 111, 114, 32, 112, 105, 99, 107, 32, 116, 114, 117, 101, 32] := by decide +kernel
 rw [e] at HQ
 clear e
 go_enter Tryz.func221, Tryz.ntmps221
 go_wp2_with fail
 refine (uh HQ).mono ?_
 rintro e w' ⟨rfl, rfl⟩
 go_wp2_with fail
 go_ret
 exact ⟨rfl, rfl⟩
end Go.Proofs.YtiinohibmcefkaaGreatDoor
