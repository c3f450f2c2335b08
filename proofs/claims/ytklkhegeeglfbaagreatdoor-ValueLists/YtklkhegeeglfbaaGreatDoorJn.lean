import Derived.Test.YtklkhegeeglfbaaGreatDoorJk
import Derived.Test.YtklkhegeeglfbaaGreatDoorJzad
import Derived.Lib.LaidTab
import Derived.Test.YtklkhegeeglfbaaGreatDoorShelf
import Derived.Test.YtklkhegeeglfbaaGreatDoorJi
import Derived.Test.YtklkhegeeglfbaaGreatDoorJc
import Derived.Test.YtklkhegeeglfbaaGreatDoorJe
namespace Go.Proofs.YtklkhegeeglfbaaGreatDoor
open Go.RowKit Go.Maps

/-- The table of powers of ten stands as its text lays it. -/
def Pow (w : World) : Prop := Lib.TabIs Tryz.prog w "internal/strconv.uint64pow10" .u64 Lib.pow10Tab
theorem Pow.keepF {w w' : World} (h : Pow w) (k : Keeps (fun _ => False) w w') : Pow w' := by
  unfold Pow Lib.TabIs World.var? at h ⊢
  cases hg : Tryz.prog.globalNamed "internal/strconv.uint64pow10" with
  | none => simp [hg] at h
  | some g =>
    simp only [hg, Option.bind_some] at h ⊢
    have hlt : g < w.heap.size := by
      rcases Nat.lt_or_ge g w.heap.size with h' | h'
      · exact h'
      · simp [Array.getElem?_eq_none h'] at h
    rw [k.block g hlt id]
    exact h
theorem keeps_grow (w : World) (n : Nat) (os : Array Obj) : Keeps (fun _ => False) w (Go.Sort.grow (w.drewN n) os) := by
  obtain ⟨h1, h2, h3, h4⟩ := drewN_os w n
  refine ⟨h1, h2, h3, ?_, fun k hk _ => ?_⟩
  · unfold Go.Sort.grow; simp only [Array.size_append, h4]; omega
  · unfold Go.Sort.grow; simp only [h4]; exact Array.getElem?_append_left hk
theorem dec_eq : ∀ u : Nat, 0 < u → Lib.decDigits u = decN u := by
  intro u
  induction u using Nat.strongRecOn with
  | ind u ih =>
    intro h
    rw [Lib.decDigits, decN_pos h]
    split
    · rename_i h10
      rw [show u / 10 = 0 by omega, decN_zero, show u % 10 = u by omega]
      rfl
    · rw [ih (u / 10) (by omega) (by omega)]
theorem itoa_eq (n : Int) : Lib.itoa n = decimal n := by
  unfold Lib.itoa decimal
  by_cases h0 : n = 0
  · subst h0
    rw [if_neg (by omega), if_pos rfl, Lib.decDigits]
    rfl
  · rw [if_neg h0]
    by_cases h : n < 0
    · rw [if_pos h, if_pos h, dec_eq _ (by omega)]
    · rw [if_neg h, if_neg h, show n.toNat = n.natAbs by omega, dec_eq _ (by omega)]

set_option maxRecDepth 100000 in
theorem formatInt_v (n : Int) (h0 : -9223372036854775808 ≤ n) (h1 : n ≤ 9223372036854775807) (w : World) (hP : Pow w) :
    Calls Tryz.prog 73 #[.int .i64 n, .int .i64 10] w fun e w' => e = .returned (str (decimal n)) ∧ Keeps (fun _ => False) w w' := by
  have HQ := hide (Tryz.internal_strconv_FormatInt_10 n h0 h1 w hP)
  rw [itoa_eq] at HQ
  clear hP h0 h1
  go_enter Tryz.func73, Tryz.ntmps73
  go_wp2_with fail
  refine (unhide HQ).mono ?_
  rintro e w2 ⟨rfl, k, os, rfl⟩
  have HK := hide (keeps_grow w k os)
  generalize Go.Sort.grow (w.drewN k) os = w2 at *
  go_wp2_with fail
  go_ret
  exact ⟨rfl, unhide HK⟩

def boolT (b : Bool) : Txt := if b = true then [116, 114, 117, 101] else [102, 97, 108, 115, 101]
set_option maxRecDepth 100000 in
theorem boolText_v (b : Bool) (w : World) : Calls Tryz.prog 93 #[.bool b] w fun e w' => e = .returned (str (boolT b)) ∧ w' = w := by
  cases b
  all_goals
    go_enter Tryz.func93, Tryz.ntmps93
    go_wp2_with fail
    go_ret
    exact ⟨rfl, rfl⟩
set_option maxRecDepth 100000 in
theorem formatBool_v (b : Bool) (w : World) : Calls Tryz.prog 74 #[.bool b] w fun e w' => e = .returned (str (boolT b)) ∧ w' = w := by
  have HQ := hide (boolText_v b w)
  go_enter Tryz.func74, Tryz.ntmps74
  go_wp2_with fail
  refine (unhide HQ).mono ?_
  rintro e w2 ⟨rfl, rfl⟩
  go_wp2_with fail
  go_ret
  exact ⟨rfl, rfl⟩

set_option maxRecDepth 100000 in
theorem printValue_v (x : ValA) (hI : -9223372036854775808 ≤ x.n ∧ x.n ≤ 9223372036854775807) (hs : x.s.length ≤ 20) (w : World) (hP : Pow w) :
    Calls Tryz.prog 56 #[x.v] w fun e w' => e = .returned (str (shownB x)) ∧ Keeps (fun _ => False) w w' := by
  obtain ⟨k, n, s⟩ := x
  simp only at hI hs
  unfold ValA.v shownB
  simp only
  obtain ⟨HX, hxb, hxc⟩ := boxed w #[.int .i64 k, .int .i64 n, str s] 40
  have c0 := hxc 0 _ rfl
  have c1 := hxc 1 _ rfl
  have c2 := hxc 2 _ rfl
  have HP := hide (hP.keepF (unhide HX))
  clear hP hxc
  by_cases h1 : k = 1
  · subst h1
    have HQ := hide (formatInt_v n hI.1 hI.2 _ (unhide HP))
    rw [if_pos rfl]
    clear hI
    go_enter Tryz.func56, Tryz.ntmps56
    go_wp2_with fail
    refine (unhide HQ).mono ?_
    rintro e w2 ⟨rfl, hk⟩
    have HK := hide ((unhide HX).trans hk)
    clear hk
    go_wp2_with fail
    go_ret
    exact ⟨rfl, unhide HK⟩
  · rw [if_neg h1]
    have d1 : (k == 1) = false := by simpa using h1
    by_cases h2 : k = 2
    · subst h2
      have HQ := hide (formatBool_v (n == 1) (w.alloc (.cells #[.int .i64 2, .int .i64 n, str s] 40)))
      have hb : (if n = 1 then [116, 114, 117, 101] else [102, 97, 108, 115, 101] : Txt) = boolT (n == 1) := by unfold boolT; simp only [beq_iff_eq]
      rw [if_pos rfl, hb]
      clear hI
      go_enter Tryz.func56, Tryz.ntmps56
      go_wp2_with fail
      refine (unhide HQ).mono ?_
      rintro e w2 ⟨rfl, rfl⟩
      go_wp2_with fail
      go_ret
      exact ⟨rfl, unhide HX⟩
    · rw [if_neg h2]
      have d2 : (k == 2) = false := by simpa using h2
      have HQ := hide (quote_v s (w.alloc (.cells #[.int .i64 k, .int .i64 n, str s] 40)) (by omega))
      clear hI
      go_enter Tryz.func56, Tryz.ntmps56
      go_wp2_with fail
      refine (unhide HQ).mono ?_
      rintro e w2 ⟨rfl, hk⟩
      have HK := hide ((unhide HX).trans hk)
      clear hk
      go_wp2_with fail
      go_ret
      exact ⟨rfl, unhide HK⟩
end Go.Proofs.YtklkhegeeglfbaaGreatDoor
namespace Go.Proofs.YtklkhegeeglfbaaGreatDoor
open Go.RowKit Go.Maps

/-- The package variables that the calls read lie as their own texts lay them. -/
structure Env (w : World) : Prop where
  types : Types w
  pow : Pow w
  most : ∃ m, w.cell? ⟨1, 0, none⟩ = some (.int .i64 m)
  tabs : Lib.Utf8Tabs 7 8 w
  synt : ∃ ev, w.cell? ⟨3, 0, none⟩ = some ev ∧ (ev = .nilIface ∨ ∃ te pe, ev = .iface te pe)
  rang : ∃ ev, w.cell? ⟨4, 0, none⟩ = some ev ∧ (ev = .nilIface ∨ ∃ te pe, ev = .iface te pe)
theorem Keeps.cellF {w w' : World} (h : Keeps (fun _ => False) w w') {k o : Nat} {v : Value} (hc : w.cell? ⟨k, o, none⟩ = some v) : w'.cell? ⟨k, o, none⟩ = some v := by
  rw [h.cell (World.block_lt_of_cell? w _ hc) id]
  exact hc
theorem Env.keepF {w w' : World} (h : Env w) (hk : Keeps (fun _ => False) w w') : Env w' :=
  ⟨h.types.keepF hk, h.pow.keepF hk, h.most.imp fun _ e => hk.cellF e, ⟨fun i hi => hk.cellF (h.tabs.1 i hi), fun i hi => ⟨hk.cellF (h.tabs.2 i hi).1, hk.cellF (h.tabs.2 i hi).2⟩⟩, h.synt.imp fun _ e => ⟨hk.cellF e.1, e.2⟩, h.rang.imp fun _ e => ⟨hk.cellF e.1, e.2⟩⟩
theorem keeps_below {w w' : World} (h : Below w.heap.size w w') : Keeps (fun _ => False) w w' := ⟨h.os, h.tape, h.output, h.size, fun k hk _ => h.block k hk⟩
end Go.Proofs.YtklkhegeeglfbaaGreatDoor
namespace Go.Proofs.YtklkhegeeglfbaaGreatDoor
open Go.RowKit Go.Maps

theorem vcs_setk {R Z : List ValA} {t : Int} : (vcs (R ++ zeroVal :: Z)).toArray.setIfInBounds (R.length * 3) (.int .i64 t) = (vcs (R ++ ⟨t, 0, []⟩ :: Z)).toArray := by
  have hv : ∀ y : ValA, vcs (R ++ y :: Z) = vcs R ++ (y.cs ++ vcs Z) := fun y => by simp [vcs]
  have hl := vcs_length R
  rw [hv, hv, ← hl]
  apply Array.ext'
  simp [ValA.cs, zeroVal]
def zeroTo (l : List FieldA) (k : Nat) : List ValA := zeros (l.take k) ++ List.replicate (l.length - k) zeroVal
theorem zeroTo_zero (l : List FieldA) : zeroTo l 0 = List.replicate l.length zeroVal := by simp [zeroTo, zeros]
theorem zeroTo_full (l : List FieldA) : zeroTo l l.length = zeros l := by simp [zeroTo]
theorem zeroTo_at {l : List FieldA} {k : Nat} {f : FieldA} (h : l[k]? = some f) : zeroTo l k = zeros (l.take k) ++ zeroVal :: List.replicate (l.length - (k + 1)) zeroVal ∧ zeroTo l (k + 1) = zeros (l.take k) ++ zeroV f :: List.replicate (l.length - (k + 1)) zeroVal := by
  have hl := get_lt h
  unfold zeroTo
  constructor
  · rw [show l.length - k = (l.length - (k + 1)) + 1 by omega, List.replicate_succ]
  · rw [take_snoc _ _ _ h, zeros_snoc, List.append_assoc]
    rfl
theorem zeros_take_len {l : List FieldA} {k : Nat} (h : k ≤ l.length) : (zeros (l.take k)).length = k := by rw [zeros_length, List.length_take, Nat.min_eq_left h]

set_option maxRecDepth 100000 in
set_option maxHeartbeats 2000000 in
theorem zero_v (l : List FieldA) (v : Value) (w : World) (h : FldsAt w v l) (hl8 : l.length ≤ 8) :
    Calls Tryz.prog 35 #[.agg #[v]] w fun e w' => ∃ g, e = .returned (.slice (some ⟨g, 0, none⟩) l.length l.length) ∧ w.heap.size ≤ g ∧ w'.heap[g]? = some (.cells (vcs (zeros l)).toArray 40 (0, 0)) ∧ Keeps (fun _ => False) w w' := by
  obtain ⟨ao, cap, rfl⟩ := RowAt.form h
  obtain ⟨HB, hb, hbc⟩ := boxed w #[.slice ao l.length cap] 26
  have hp := hbc 0 (.slice ao l.length cap) rfl
  have HF := hide (h.keepF (unhide HB))
  clear hbc h
  have hmk := run_mkv l.length (by omega) (w.alloc (.cells #[.slice ao l.length cap] 26))
  have HG := hide (heap_alloc_new (w.alloc (.cells #[.slice ao l.length cap] 26)) (.cells (vcs (List.replicate l.length zeroVal)).toArray 40))
  have HA : Hid (Keeps (fun q => w.heap.size + 1 ≤ q) (w.alloc (.cells #[.slice ao l.length cap] 26)) ((w.alloc (.cells #[.slice ao l.length cap] 26)).alloc (.cells (vcs (List.replicate l.length zeroVal)).toArray 40))) := (Keeps.refl _ _).alloc _
  have hS3 : (w.alloc (.cells #[.slice ao l.length cap] 26)).heap.size = w.heap.size + 1 := by simp
  have hS4 : w.heap.size + 1 < ((w.alloc (.cells #[.slice ao l.length cap] 26)).alloc (.cells (vcs (List.replicate l.length zeroVal)).toArray 40)).heap.size := by simp
  have hp4 := ((unhide HA).cell (o := 0) hb (by omega)).trans hp
  rw [hS3] at hmk HG
  have HS3 := hide hS3
  clear hS3
  go_enter Tryz.func35, Tryz.ntmps35
  go_wp2_with fail
  generalize (w.alloc (.cells #[.slice ao l.length cap] 26)).alloc (.cells (vcs (List.replicate l.length zeroVal)).toArray 40) = w4 at *
  generalize w.alloc (.cells #[.slice ao l.length cap] 26) = w3 at *
  clear hmk
  go_loopw [13] (fun i wr => ∃ (k : Nat), k ≤ l.length ∧ i = .int .i64 k ∧ Hid (wr.heap[w.heap.size + 1]? = some (.cells (vcs (zeroTo l k)).toArray 40 (0, 0))) ∧ Keeps (fun q => w.heap.size + 1 ≤ q) w4 wr) (fun i _ => l.length - (intOf i).toNat)
  case atStart => exact ⟨0, Nat.zero_le _, rfl, by show _ = _; rw [zeroTo_zero]; exact unhide HG, Keeps.refl _ _⟩
  case round =>
    obtain ⟨k, hk, rfl, HBk, hkp⟩ := hrel
    have HK := hide ((unhide HA).trans hkp)
    have HKP := hide hkp
    have hS5 : w.heap.size + 1 < wr.heap.size := Nat.lt_of_lt_of_le hS4 hkp.size
    clear hkp
    by_cases hlt : k < l.length
    · obtain ⟨f, hf⟩ : ∃ f, l[k]? = some f := ⟨_, List.getElem?_eq_getElem hlt⟩
      obtain ⟨b5, off5, c5, e5, hbl, hc⟩ := (unhide HF).cells (by omega)
      have hbl2 : ¬ w.heap.size + 1 ≤ b5 := by have := unhide HS3; omega
      simp at e5
      obtain ⟨rfl, rfl⟩ := e5
      have c0 := ((unhide HK).cell hbl hbl2).trans (hc k f hf).1
      have c1 := ((unhide HK).cell hbl hbl2).trans (hc k f hf).2.1
      have c2 := ((unhide HK).cell hbl hbl2).trans (hc k f hf).2.2
      have HZ := hide (zeroTo_at hf)
      have HKN := hide ((unhide HKP).alloc (.cells #[str f.name, .int .i64 f.type, .bool f.opt] 69))
      have HBN : (wr.alloc (.cells #[str f.name, .int .i64 f.type, .bool f.opt] 69)).heap[w.heap.size + 1]? = some (.cells (vcs (zeros (l.take k) ++ zeroVal :: List.replicate (l.length - (k + 1)) zeroVal)).toArray 40 (0, 0)) := by
        rw [← (unhide HZ).1]
        exact (Below.heap_alloc _ _ _ hS5).trans (unhide HBk)
      have HRL := hide (zeros_take_len hk)
      obtain ⟨d0, d1, d2, g0, g1, g2⟩ := cells3 HBN (unhide HRL)
      have HN := hide HBN
      have i5 : (k : Int) < (l.length : Int) := by omega
      have s0 : w.heap.size + 1 < (wr.alloc (.cells #[str f.name, .int .i64 f.type, .bool f.opt] 69)).heap.size := lt_of_block HBN
      clear hc hf HBN
      cases hfo : f.opt with
      | true =>
        rw [hfo] at c2 HKN HN d0 d1 d2 g0 g1 g2 s0
        have HE : Hid (zeroV f = zeroVal) := by show _ = _; unfold zeroV; rw [if_pos hfo]; rfl
        go_wp2_with fail
        go_roundw
        case rel => exact ⟨k + 1, by omega, by go_num, by show _ = _; rw [(unhide HZ).2, unhide HE]; exact unhide HN, unhide HKN⟩
        case measure => simp [intOf]; omega
      | false =>
        rw [hfo] at c2 HKN HN d0 d1 d2 g0 g1 g2 s0
        have HE : Hid (zeroV f = ⟨f.type, 0, []⟩) := by show _ = _; unfold zeroV; rw [if_neg (by simp [hfo])]
        go_wp2_with fail
        go_roundw
        case rel =>
          refine ⟨k + 1, by omega, by go_num, ?_, ((unhide HKP).then (keeps_set _ _ _ _) (fun i _ e => by omega)).alloc _⟩
          show _ = _
          rw [(unhide HZ).2, unhide HE, ← vcs_setk, unhide HRL, Below.heap_alloc _ _ _ (by simpa using hS5), ← (unhide HZ).1]
          exact heap_setCell_at (unhide HBk) _
        case measure => simp [intOf]; omega
    · obtain rfl : k = l.length := by omega
      go_wp2_with fail
      go_ret
      refine ⟨_, rfl, by omega, ?_, (unhide HB).narrow (F := fun q => w.heap.size + 1 ≤ q) (unhide HK) (fun q hq => by omega)⟩
      have := unhide HBk
      rw [zeroTo_full] at this
      exact this

set_option maxRecDepth 100000 in
theorem val_zero (l : List FieldA) (v : Value) (w : World) (hT : Types w) (h : FldsAt w v l) :
    Calls Tryz.prog 13 #[.agg #[v]] w fun e w' => ∃ v', e = .returned v' ∧ w'.ownsRow w.heap.size 40 3 v' (zeroB l).length (vcs (zeroB l)) ∧ Keeps (fun _ => False) w w' := by
  obtain ⟨ao, cap, rfl⟩ := RowAt.form h
  obtain ⟨HB, hb, hbc⟩ := boxed w #[.slice ao l.length cap] 26
  have hp := hbc 0 (.slice ao l.length cap) rfl
  have HF := hide (h.keepF (unhide HB))
  have HS := hide (checkSchema_v l _ _ (hT.keepF (unhide HB)) (unhide HF))
  clear hbc h hT
  go_enter Tryz.func13, Tryz.ntmps13
  go_wp2_with fail
  refine (unhide HS).mono ?_
  rintro e w2 ⟨rfl, hk2⟩
  have hp2 := (hk2.cell (o := 0) hb id).trans hp
  have HF2 := hide ((unhide HF).keepF hk2)
  have HB2 := hide ((unhide HB).trans hk2)
  clear HS HF HB hk2 hp
  rcases errS_eq l with ⟨hs, he⟩ | ⟨hs, he⟩
  · rw [he]
    have HZ : Hid (zeroB l = zeros l) := by show _ = _; simp [zeroB, hs]
    have HQ := hide (zero_v l _ _ (unhide HF2) (schemaB_len hs).2)
    have hl8 := (schemaB_len hs).2
    clear hs he
    go_wp2_with fail
    refine (unhide HQ).mono ?_
    rintro e w4 ⟨g, rfl, hg, hblk, hk4⟩
    have HG := hide hg
    have HBL := hide hblk
    have HK4 := hide hk4
    clear hg hblk hk4 HQ
    go_wp2_with fail
    go_ret
    refine ⟨_, rfl, ?_, (unhide HB2).trans (unhide HK4)⟩
    rw [unhide HZ]
    exact owns_vals (Nat.le_trans (unhide HB2).size (unhide HG)) (by omega) (zeros_length l) (unhide HBL)
  · rw [he]
    have HZ : Hid (zeroB l = []) := by show _ = _; simp [zeroB, hs]
    clear hs he
    go_wp2_with fail
    go_ret
    refine ⟨_, rfl, ?_, unhide HB2⟩
    rw [unhide HZ]
    exact World.ownsRow_nil _ w.heap.size 40 3
end Go.Proofs.YtklkhegeeglfbaaGreatDoor
