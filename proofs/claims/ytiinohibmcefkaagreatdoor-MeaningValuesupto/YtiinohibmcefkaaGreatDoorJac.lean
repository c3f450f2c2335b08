import Derived.Test.YtiinohibmcefkaaGreatDoorJab
import Derived.Test.YtiinohibmcefkaaGreatDoorJaa
namespace Go.Proofs.YtiinohibmcefkaaGreatDoor
open Go.RowKit Go.Maps

theorem errS_bad {l : List FieldA} (h : schemaB l = false) : errS l = 60 := by simp [errS, h]
theorem errS_good {l : List FieldA} (h : schemaB l = true) : errS l = 0 := by simp [errS, h]
theorem schemaB_name {l : List FieldA} {f : FieldA} (hm : f ∈ l) (h : fieldOK f = false) : schemaB l = false := by
  have : l.all fieldOK = false := List.all_eq_false.2 ⟨f, hm, by simp [h]⟩
  simp [schemaB, this]
theorem schemaB_twice {l : List FieldA} {i j : Nat} {f g : FieldA} (hi : l[i]? = some f) (hj : l[j]? = some g) (hij : j < i) (h : g.name = f.name) : schemaB l = false := by
  have : ¬ (l.map FieldA.name).Nodup := by
    intro hn
    have e1 : (l.map FieldA.name)[j]? = some g.name := by simp [hj]
    have e2 : (l.map FieldA.name)[i]? = some f.name := by simp [hi]
    obtain ⟨hjl, e1'⟩ := List.getElem?_eq_some_iff.1 e1
    obtain ⟨hil, e2'⟩ := List.getElem?_eq_some_iff.1 e2
    have := List.pairwise_iff_getElem.1 hn j i hjl hil hij
    exact this (by rw [e1', e2', h])
  simp [schemaB, this]
theorem schemaB_end {l : List FieldA} (h1 : 1 ≤ l.length) (h2 : l.length ≤ 8) (h3 : l.all fieldOK = true) (h4 : (l.map FieldA.name).Nodup) : schemaB l = decide (widthB l ≤ 64) := by
  unfold schemaB
  rw [h3, decide_eq_true h1, decide_eq_true h2, decide_eq_true h4]
  rfl
theorem nodup_snoc {l : List FieldA} {f : FieldA} (h : (l.map FieldA.name).Nodup) (hn : ∀ g ∈ l, g.name ≠ f.name) : ((l ++ [f]).map FieldA.name).Nodup := by
  rw [List.map_append, List.nodup_append]
  refine ⟨h, by simp, ?_⟩
  intro a ha b hb
  obtain ⟨g, hg, rfl⟩ := List.mem_map.1 ha
  simp at hb
  subst hb
  exact hn g hg

set_option maxRecDepth 100000 in
set_option maxHeartbeats 2000000 in
theorem checkSchema_any (l : List FieldA) (v : Value) (w : World) (h : FldsAt w v l) :
    Calls Tryz.prog 67 #[.agg #[v]] w fun e w' => e = .returned (.int .i64 (errS l)) ∧ Keeps (fun _ => False) w w' := by
  obtain ⟨ao, cap, rfl⟩ := RowAt.form h
  obtain ⟨HB, hb, hbc⟩ := boxed w #[.slice ao l.length cap] 24
  have hp := hbc 0 (.slice ao l.length cap) rfl
  have HF := hide (h.keepF (unhide HB))
  clear hbc h
  by_cases hl1 : (l.length : Int) < 1
  · have HE : Hid (errS l = 60) := errS_bad (by unfold schemaB; rw [decide_eq_false (show ¬ 1 ≤ l.length by omega)]; simp)
    go_enter Tryz.func67, Tryz.ntmps67
    go_wp2
    go_ret
    exact ⟨ret_int (unhide HE).symm, (Keeps.refl _ _).alloc _⟩
  by_cases hl2 : (8 : Int) < (l.length : Int)
  · have HE : Hid (errS l = 60) := errS_bad (by unfold schemaB; rw [decide_eq_false (show ¬ l.length ≤ 8 by omega)]; simp)
    go_enter Tryz.func67, Tryz.ntmps67
    go_wp2
    go_ret
    exact ⟨ret_int (unhide HE).symm, (Keeps.refl _ _).alloc _⟩
  have hl3 : (1 : Int) ≤ (l.length : Int) := by omega
  have hl4 : (l.length : Int) ≤ 8 := by omega
  clear hl1 hl2
  go_enter Tryz.func67, Tryz.ntmps67
  go_wp2_with fail
  generalize w.alloc (.cells #[.slice ao l.length cap] 24) = w2 at *
  generalize w.heap.size = sb at *
  go_loopw [3] (fun i wr => ∃ k : Nat, k ≤ l.length ∧ i = .int .i64 k ∧ Hid ((l.take k).all fieldOK = true) ∧ Hid ((l.take k).map FieldA.name).Nodup ∧ Keeps (fun _ => False) w2 wr) (fun i _ => l.length - (intOf i).toNat)
  case atStart => exact ⟨0, Nat.zero_le _, rfl, by simp [Hid], by simp [Hid], Keeps.refl _ _⟩
  case round =>
    obtain ⟨k, hk, rfl, HA, HN, hkp⟩ := hrel
    have hp' := (hkp.cell (o := 0) hb id).trans hp
    cases h : l[k]? with
    | none =>
      have h1 := get_ge h
      obtain rfl : k = l.length := by omega
      rw [List.take_length] at HA HN
      have HW := hide (width_any l _ _ ((unhide HF).keepF hkp) (by omega))
      have HE := hide (schemaB_end (by omega) (by omega) (unhide HA) (unhide HN))
      have HK := hide hkp
      clear hkp h h1
      go_wp2_with fail
      refine (unhide HW).mono ?_
      rintro e w3 ⟨rfl, hk3⟩
      have HK3 := hide hk3
      clear hk3
      by_cases hw : (64 : Int) < widthB l
      · go_wp2_with fail
        go_ret
        exact ⟨ret_int (errS_bad (by rw [unhide HE]; exact decide_eq_false (by omega))).symm, ((unhide HB).trans (unhide HK)).trans (unhide HK3)⟩
      · go_wp2_with fail
        go_ret
        exact ⟨ret_int (errS_good (by rw [unhide HE]; exact decide_eq_true (by omega))).symm, ((unhide HB).trans (unhide HK)).trans (unhide HK3)⟩
    | some f =>
      have h1 := get_lt h
      obtain ⟨b, off, c, e, hbl, hc⟩ := (unhide HF).cells (by omega)
      simp at e
      obtain ⟨rfl, rfl⟩ := e
      have c0 := (hkp.cell hbl id).trans (hc k f h).1
      have c1 := (hkp.cell hbl id).trans (hc k f h).2.1
      have c2 := (hkp.cell hbl id).trans (hc k f h).2.2
      have HC := hide hc
      have HH := hide h
      have HK := hide hkp
      clear hkp h hc
      obtain ⟨HX, hxb, hxc⟩ := boxed wr #[str f.name, .int .i64 f.type, .bool f.opt] 47
      have x0 := hxc 0 (str f.name) rfl
      have x1 := hxc 1 (.int .i64 f.type) rfl
      go_wp2_with fail
      refine (name_any f.name _).mono ?_
      rintro e w4 ⟨rfl, hk4⟩
      have x0' := (hk4.cell hxb id).trans x0
      have x1' := (hk4.cell hxb id).trans x1
      have hxb' := Nat.lt_of_lt_of_le hxb hk4.size
      have HK4 := hide (((unhide HK).trans (unhide HX)).trans hk4)
      clear hxc x0 x1 hxb hk4 HX c0 c1 c2 hp'
      generalize wr.alloc _ = wd at *
      generalize wr.heap.size = fb at *
      have HO : Hid (fieldOK f = (nameB f.name && decide (0 ≤ wideB f.type))) := rfl
      go_wp2_with fail
      refine (wide_any f.type w4).mono ?_
      rintro e w5 ⟨rfl, rfl⟩
      have hp' := ((unhide HK4).cell (o := 0) hb id).trans hp
      cases hfo : fieldOK f with
      | false =>
        have HE : Hid (errS l = 60) := errS_bad (schemaB_name (List.mem_of_getElem? (unhide HH)) hfo)
        have ho := (unhide HO).symm.trans hfo
        generalize nameB f.name = nm at *
        generalize wideB f.type = wi at *
        clear hfo HO
        cases nm
        · go_wp2_with fail
          go_ret
          exact ⟨ret_int (unhide HE).symm, (unhide HB).trans (unhide HK4)⟩
        · have hw : wi < 0 := by simpa using ho
          clear ho
          go_wp2_with fail
          go_ret
          exact ⟨ret_int (unhide HE).symm, (unhide HB).trans (unhide HK4)⟩
      | true =>
        have ho := (unhide HO).symm.trans hfo
        rw [Bool.and_eq_true, decide_eq_true_eq] at ho
        obtain ⟨hnm, hwi⟩ := ho
        rw [hnm]
        generalize wideB f.type = wi at *
        have HFO := hide hfo
        clear hnm hfo HO
        go_wp2_with fail
        go_loopw [7] (fun i w6 => ∃ j : Nat, j ≤ k ∧ i = .int .i64 j ∧ Hid (∀ g ∈ l.take j, g.name ≠ f.name) ∧ Keeps (fun _ => False) w5 w6) (fun i _ => k - (intOf i).toNat)
        case atStart => exact ⟨0, Nat.zero_le _, rfl, by simp [Hid], Keeps.refl _ _⟩
        case round =>
          obtain ⟨j, hj, rfl, HD, hk6⟩ := hrel
          have HK6 := hide hk6
          by_cases hjk : j < k
          · obtain ⟨g, hg⟩ : ∃ g, l[j]? = some g := ⟨_, List.getElem?_eq_getElem (by omega)⟩
            have y0 := (hk6.cell hxb' id).trans x0'
            have hp6 := (hk6.cell (o := 0) (Nat.lt_of_lt_of_le hb (unhide HK4).size) id).trans hp'
            have g0 := (((unhide HK4).trans hk6).cell hbl id).trans ((unhide HC) j g hg).1
            have HG := hide hg
            clear hk6 hg
            have i1 : (j : Int) < (k : Int) := by omega
            have i2 : (j : Int) < (l.length : Int) := by omega
            go_wp2_with fail
            go_quiet (fail)
            go_wp2_with fail
            case roundEnd =>
              rename_i hne
              go_roundw
              case rel =>
                refine ⟨j + 1, by omega, by go_num, ?_, (unhide HK6).drewN _⟩
                intro x hx
                rw [take_snoc _ _ _ (unhide HG), List.mem_append] at hx
                rcases hx with hx | hx
                · exact unhide HD x hx
                · simp at hx; rw [hx]; simpa using hne
              case measure => simp [intOf]; omega
            rename_i hne
            have HE : Hid (errS l = 60) := errS_bad (schemaB_twice (unhide HH) (unhide HG) hjk (by simpa using hne))
            go_ret
            exact ⟨ret_int (unhide HE).symm, ((unhide HB).trans ((unhide HK4).trans (unhide HK6))).drewN _⟩
          · obtain rfl : j = k := by omega
            clear hk6
            go_wp2_with fail
            go_roundw
            case rel =>
              refine ⟨j + 1, by omega, by go_num, ?_, ?_, (unhide HK4).trans (unhide HK6)⟩
              · show _ = true
                rw [take_snoc _ _ _ (unhide HH), List.all_append, unhide HA]
                simp [unhide HFO]
              · show List.Nodup _
                rw [take_snoc _ _ _ (unhide HH)]
                exact nodup_snoc (unhide HN) (unhide HD)
            case measure => simp [intOf]; omega

end Go.Proofs.YtiinohibmcefkaaGreatDoor
namespace Go.Proofs.YtiinohibmcefkaaGreatDoor
open Go.RowKit Go.Maps

/-- Is it a record of the fields? -/
def fitAll (l : List FieldA) (r : List ValA) : Bool := (l.zip r).all fun p => fitsB p.1 p.2
def recB (l : List FieldA) (r : List ValA) : Bool := decide (r.length = l.length) && fitAll l r
def errR (l : List FieldA) (r : List ValA) : Int := if schemaB l then (if recB l r then 0 else 61) else 60

theorem zip_get {l : List FieldA} {r : List ValA} {k : Nat} {f : FieldA} {x : ValA} (h : l[k]? = some f) (g : r[k]? = some x) : (l.zip r)[k]? = some (f, x) := by
  simp [List.getElem?_zip_eq_some, h, g]
theorem schemaB_len {l : List FieldA} (h : schemaB l = true) : 1 ≤ l.length ∧ l.length ≤ 8 := by
  unfold schemaB at h
  simp only [Bool.and_eq_true, decide_eq_true_eq] at h
  exact ⟨h.1.1.1.1, h.1.1.1.2⟩
theorem errS_eq (l : List FieldA) : (schemaB l = true ∧ errS l = 0) ∨ (schemaB l = false ∧ errS l = 60) := by
  unfold errS
  cases h : schemaB l <;> simp

end Go.Proofs.YtiinohibmcefkaaGreatDoor
namespace Go.Proofs.YtiinohibmcefkaaGreatDoor
open Go.RowKit Go.Maps

/-- The zero record. -/
def zeros (l : List FieldA) : List ValA := l.map zeroV
def zeroB (l : List FieldA) : List ValA := if schemaB l then zeros l else []
theorem zeros_snoc (l : List FieldA) (f : FieldA) : zeros (l ++ [f]) = zeros l ++ [zeroV f] := by simp [zeros]
theorem zeros_length (l : List FieldA) : (zeros l).length = l.length := by simp [zeros]

end Go.Proofs.YtiinohibmcefkaaGreatDoor
namespace Go.Proofs.YtiinohibmcefkaaGreatDoor
open Go.RowKit Go.Maps
def zeroVal : ValA := ⟨0, 0, []⟩
theorem run_mkv (n : Nat) (hn : n ≤ 1024) (w : World) : (Instr.makeSlice 29 (.int .i64 (n : Int)) (.int .i64 (n : Int))).run Tryz.prog w = .ok (.slice (some ⟨w.heap.size, 0, none⟩) n n) (w.alloc (.cells (vcs (List.replicate n zeroVal)).toArray 41)) := by
  obtain ⟨i0, hi, hz0, hz1, hz2⟩ := info_parts Tryz.info41
  have q := run_make (P := Tryz.prog) w 29 41 i0 (.agg #[.int .i64 0, .int .i64 0, .string ⟨#[]⟩]) Tryz.underlying29 hi hz0 .i64 .i64 (n : Int) (n : Int) (by omega) (by omega) (by rw [hz2]; omega) (by omega)
  rw [hz1] at q
  have e : madeCells (Value.agg #[.int .i64 0, .int .i64 0, .string ⟨#[]⟩]).cells (n * 3) = (vcs (List.replicate n zeroVal)).toArray := by
    apply Array.ext_getElem?
    intro i
    have h3 : (Value.agg #[Value.int .i64 0, .int .i64 0, .string ⟨#[]⟩]).cells = #[.int .i64 0, .int .i64 0, .string ⟨#[]⟩] := rfl
    rw [h3]
    simp only [madeCells, Array.getElem?_map, Array.getElem?_range, List.getElem?_toArray]
    by_cases h : i < n * 3
    · have hl : (List.replicate n zeroVal)[i / 3]? = some zeroVal := by rw [List.getElem?_replicate, if_pos (by omega)]
      have hf := flat_get ValA.cs (fun _ => rfl) (List.replicate n zeroVal) (i / 3) zeroVal (i % 3) hl (by omega)
      rw [show i / 3 * 3 + i % 3 = i by omega] at hf
      unfold vcs
      rw [hf, if_pos h]
      have : i % 3 = 0 ∨ i % 3 = 1 ∨ i % 3 = 2 := by omega
      rcases this with h | h | h <;> simp [h, zeroVal, ValA.cs]
    · rw [if_neg h, List.getElem?_eq_none (by rw [vcs_length, List.length_replicate]; omega)]
      rfl
  simpa [e] using q
theorem owns_vals {w : World} {B g n : Nat} {R : List ValA} (hB : B ≤ g) (hn : n ≤ 1024) (hl : R.length = n) (h : w.heap[g]? = some (.cells (vcs R).toArray 41 (0, 0))) : w.ownsRow B 41 3 (.slice (some ⟨g, 0, none⟩) n n) R.length (vcs R) := by
  subst hl
  refine ⟨vcs_length R, Or.inr ⟨g, _, _, rfl, hB, h, Nat.le_refl _, by unfold maxLen; omega, by simp [vcs_length], ?_⟩⟩
  simp only
  rw [List.take_of_length_le (by rw [vcs_length]; exact Nat.le_refl _)]
/-- The cells of one value in a row of values. -/
theorem cells3 {w : World} {g k : Nat} {R Z : List ValA} {y : ValA} (h : w.heap[g]? = some (.cells (vcs (R ++ y :: Z)).toArray 41 (0, 0))) (hk : R.length = k) :
    w.cell? ⟨g, k * 3, none⟩ = some (.int .i64 y.kind) ∧ w.cell? ⟨g, k * 3 + 1, none⟩ = some (.int .i64 y.n) ∧ w.cell? ⟨g, k * 3 + 2, none⟩ = some (str y.s) ∧ w.frozen? ⟨g, k * 3, none⟩ = false ∧ w.frozen? ⟨g, k * 3 + 1, none⟩ = false ∧ w.frozen? ⟨g, k * 3 + 2, none⟩ = false := by
  have hy : (R ++ y :: Z)[k]? = some y := by rw [← hk]; simp
  have f := fun j hj => flat_get ValA.cs (fun _ => rfl) (R ++ y :: Z) k y j hy hj
  refine ⟨?_, ?_, ?_, frozen_of_blk h _, frozen_of_blk h _, frozen_of_blk h _⟩
  · rw [cell_of_blk h, List.getElem?_toArray]; exact f 0 (by omega)
  · rw [cell_of_blk h, List.getElem?_toArray]; exact f 1 (by omega)
  · rw [cell_of_blk h, List.getElem?_toArray]; exact f 2 (by omega)
theorem keeps_set3 (w4 : World) (b : Nat) (x y z : Value) : Keeps (fun q => q = b) w4 (((w4.setCell ⟨b, 0, none⟩ x).setCell ⟨b, 1, none⟩ y).setCell ⟨b, 2, none⟩ z) :=
  Keeps.setCell (F := fun q => q = b) (p := ⟨b, 2, none⟩) (Keeps.setCell (F := fun q => q = b) (p := ⟨b, 1, none⟩) (Keeps.setCell (F := fun q => q = b) (p := ⟨b, 0, none⟩) (Keeps.refl (fun q => q = b) w4) (fun _ => rfl) x) (fun _ => rfl) y) (fun _ => rfl) z
theorem set3v {w4 : World} {b : Nat} {c0 c1 c2 : Value} {t : TypeId} (h : w4.heap[b]? = some (.cells #[c0, c1, c2] t (0, 0))) (x y z : Value) :
    (((w4.setCell ⟨b, 0, none⟩ x).setCell ⟨b, 1, none⟩ y).setCell ⟨b, 2, none⟩ z).cell? ⟨b, 0, none⟩ = some x ∧ (((w4.setCell ⟨b, 0, none⟩ x).setCell ⟨b, 1, none⟩ y).setCell ⟨b, 2, none⟩ z).cell? ⟨b, 1, none⟩ = some y ∧ (((w4.setCell ⟨b, 0, none⟩ x).setCell ⟨b, 1, none⟩ y).setCell ⟨b, 2, none⟩ z).cell? ⟨b, 2, none⟩ = some z := by
  have hb := heap_setCell_at (o := 2) (heap_setCell_at (o := 1) (heap_setCell_at (o := 0) h x) y) z
  refine ⟨?_, ?_, ?_⟩
  · rw [cell_of_blk hb]; rfl
  · rw [cell_of_blk hb]; rfl
  · rw [cell_of_blk hb]; rfl
/-- A block that is new to w may be written. -/
theorem Keeps.fresh {w w4 w5 : World} {b : Nat} (h : Keeps (fun _ => False) w w4) (hb : w.heap.size ≤ b) (k : Keeps (fun q => q = b) w4 w5) : Keeps (fun _ => False) w w5 :=
  h.then k (fun i hi e => by omega)
end Go.Proofs.YtiinohibmcefkaaGreatDoor
namespace Go.Proofs.YtiinohibmcefkaaGreatDoor
open Go.RowKit Go.Maps

/-- A list of expressions, as a tree. -/
inductive EL where
  | nil
  | cons (op n : Int) (s : Txt) (kids rest : EL)
/-- A list of statements. -/
inductive SL where
  | nil
  | cons (op : Int) (f : Txt) (ex : EL) (th el rest : SL)
namespace EL
def len : EL → Nat
  | nil => 0
  | cons _ _ _ _ r => r.len + 1
def size : EL → Nat
  | nil => 0
  | cons _ _ _ k r => k.size + r.size + 1
def app : EL → EL → EL
  | nil, m => m
  | cons o n s k r, m => cons o n s k (r.app m)
theorem app_nil : ∀ l : EL, l.app nil = l
  | nil => rfl
  | cons o n s k r => by simp [app, app_nil r]
theorem app_assoc : ∀ l m k : EL, (l.app m).app k = l.app (m.app k)
  | nil, _, _ => rfl
  | cons o n s k r, m, q => by simp [app, app_assoc r m q]
theorem len_app : ∀ l m : EL, (l.app m).len = l.len + m.len
  | nil, _ => by simp [app, len]
  | cons o n s k r, m => by simp [app, len, len_app r m]; omega
theorem size_app : ∀ l m : EL, (l.app m).size = l.size + m.size
  | nil, _ => by simp [app, size]
  | cons o n s k r, m => by simp [app, size, size_app r m]; omega
theorem len_le : ∀ l : EL, l.len ≤ l.size
  | nil => Nat.le_refl _
  | cons o n s k r => by have := len_le r; simp [len, size]; omega
end EL
namespace SL
def len : SL → Nat
  | nil => 0
  | cons _ _ _ _ _ r => r.len + 1
def size : SL → Nat
  | nil => 0
  | cons _ _ x t e r => x.size + t.size + e.size + r.size + 1
def app : SL → SL → SL
  | nil, m => m
  | cons o f x t e r, m => cons o f x t e (r.app m)
theorem app_nil : ∀ l : SL, l.app nil = l
  | nil => rfl
  | cons o f x t e r => by simp [app, app_nil r]
theorem app_assoc : ∀ l m k : SL, (l.app m).app k = l.app (m.app k)
  | nil, _, _ => rfl
  | cons o f x t e r, m, q => by simp [app, app_assoc r m q]
theorem len_app : ∀ l m : SL, (l.app m).len = l.len + m.len
  | nil, _ => by simp [app, len]
  | cons o f x t e r, m => by simp [app, len, len_app r m]; omega
theorem size_app : ∀ l m : SL, (l.app m).size = l.size + m.size
  | nil, _ => by simp [app, size]
  | cons o f x t e r, m => by simp [app, size, size_app r m]; omega
theorem len_le : ∀ l : SL, l.len ≤ l.size
  | nil => Nat.le_refl _
  | cons o f x t e r => by have := len_le r; simp [len, size]; omega
end SL

/-- Where trees may lie: G tells the blocks of expressions (false) and of statements (true), P which block may hang below which. -/
structure Zone where
  G : World → Bool → Nat → Prop
  P : Nat → Nat → Prop
  stable : ∀ {w w' : World} {s : Bool} {k : Nat}, Keeps (fun _ => False) w w' → k < w.heap.size → G w s k → G w' s k

/-- Expressions lie in a block, from a cell on. -/
def ExIn (Z : Zone) (w : World) : EL → Nat → Nat → Prop
  | .nil, _, _ => True
  | .cons op n s kids rest, b, o =>
    b < w.heap.size ∧ Z.G w false b ∧ w.cell? ⟨b, o, none⟩ = some (.int .i64 op) ∧ w.cell? ⟨b, o + 1, none⟩ = some (.int .i64 n) ∧ w.cell? ⟨b, o + 2, none⟩ = some (str s) ∧
      (∃ ao cap, w.cell? ⟨b, o + 3, none⟩ = some (.slice ao kids.len cap) ∧ kids.len ≤ cap ∧
        (kids.len ≠ 0 → ∃ b' o', ao = some ⟨b', o', none⟩ ∧ Z.P b b' ∧ ExIn Z w kids b' o')) ∧ ExIn Z w rest b (o + 4)
/-- A slice of expressions, hanging below a block. -/
def SlE (Z : Zone) (w : World) (up : Nat) (v : Value) (l : EL) : Prop :=
  ∃ ao cap, v = .slice ao l.len cap ∧ l.len ≤ cap ∧ (l.len ≠ 0 → ∃ b o, ao = some ⟨b, o, none⟩ ∧ Z.P up b ∧ ExIn Z w l b o)
theorem EL.len0 : ∀ {l : EL}, l.len = 0 → l = .nil
  | .nil, _ => rfl
section
variable {Z : Zone} {w w' : World} {F : Nat → Prop} {Q : Nat → Prop}
/-- What is not written stays. -/
theorem ExIn.keep (hQ : ∀ b b', Q b → Z.P b b' → Q b') (hk : Keeps F w w') (hG : ∀ s k, Q k → k < w.heap.size → Z.G w s k → ¬ F k ∧ Z.G w' s k) :
    ∀ {l : EL} {b o : Nat}, Q b → ExIn Z w l b o → ExIn Z w' l b o
  | .nil, _, _, _, _ => trivial
  | .cons op n s kids rest, b, o, hq, ⟨h1, h2, h3, h4, h5, ⟨ao, cap, h6, h7, h8⟩, h9⟩ => by
    obtain ⟨hF, hg⟩ := hG _ _ hq h1 h2
    refine ⟨Nat.lt_of_lt_of_le h1 hk.size, hg, (hk.cell h1 hF).trans h3, (hk.cell h1 hF).trans h4, (hk.cell h1 hF).trans h5, ⟨ao, cap, (hk.cell h1 hF).trans h6, h7, fun h0 => ?_⟩, ExIn.keep hQ hk hG hq h9⟩
    obtain ⟨b', o', e, hp, hr⟩ := h8 h0
    exact ⟨b', o', e, hp, ExIn.keep hQ hk hG (hQ _ _ hq hp) hr⟩
theorem SlE.keep (hQ : ∀ b b', Q b → Z.P b b' → Q b') (hk : Keeps F w w') (hG : ∀ s k, Q k → k < w.heap.size → Z.G w s k → ¬ F k ∧ Z.G w' s k) {up : Nat} {v : Value} {l : EL} (hu : Q up) (h : SlE Z w up v l) : SlE Z w' up v l := by
  obtain ⟨ao, cap, e, hc, hr⟩ := h
  refine ⟨ao, cap, e, hc, fun h0 => ?_⟩
  obtain ⟨b, o, e1, hp, hx⟩ := hr h0
  exact ⟨b, o, e1, hp, ExIn.keep hQ hk hG (hQ _ _ hu hp) hx⟩
end
section
variable {Z : Zone} {w w' : World}
theorem ExIn.keepF {l : EL} {b o : Nat} (h : ExIn Z w l b o) (hk : Keeps (fun _ => False) w w') : ExIn Z w' l b o :=
  ExIn.keep (Q := fun _ => True) (fun _ _ _ _ => trivial) hk (fun _ _ _ hl hg => ⟨id, Z.stable hk hl hg⟩) trivial h
theorem SlE.keepF {up : Nat} {v : Value} {l : EL} (h : SlE Z w up v l) (hk : Keeps (fun _ => False) w w') : SlE Z w' up v l :=
  SlE.keep (Q := fun _ => True) (fun _ _ _ _ => trivial) hk (fun _ _ _ hl hg => ⟨id, Z.stable hk hl hg⟩) trivial h
theorem SlE.head {up : Nat} {v : Value} {l : EL} (h : SlE Z w up v l) : ∃ ao cap, v = .slice ao l.len cap ∧ l.len ≤ cap := by
  obtain ⟨ao, cap, e, hc, _⟩ := h
  exact ⟨ao, cap, e, hc⟩
end
end Go.Proofs.YtiinohibmcefkaaGreatDoor
namespace Go.Proofs.YtiinohibmcefkaaGreatDoor
open Go.RowKit Go.Maps

def digitB (c : Int) : Bool := decide (48 ≤ c) && decide (c ≤ 57)

set_option maxRecDepth 100000 in
theorem digit_any (c : Int) (w : World) : Calls Tryz.prog 162 #[.int .u8 c] w fun e w' => e = .returned (.bool (digitB c)) ∧ w' = w := by
  go_enter Tryz.func162, Tryz.ntmps162
  go_wp2
  all_goals (go_ret; refine ⟨ret_bool ?_, rfl⟩; apply Bool.eq_iff_iff.2; simp [digitB] at *; try omega)

set_option maxRecDepth 100000 in
theorem inRun_any (c : Int) (w : World) : Calls Tryz.prog 201 #[.int .u8 c] w fun e w' => e = .returned (.bool (partB c)) ∧ w' = w := by
  have HQ := hide (digit_any c w)
  go_enter Tryz.func201, Tryz.ntmps201
  go_wp2_with (go_at_call 162; refine (unhide HQ).mono ?_; rintro e w' ⟨rfl, rfl⟩)
  all_goals (go_ret; refine ⟨ret_bool ?_, rfl⟩; apply Bool.eq_iff_iff.2; simp [partB, digitB] at *; try omega)

set_option maxRecDepth 100000 in
set_option maxHeartbeats 1000000 in
theorem keyword_v (x : Txt) (w : World) : Calls Tryz.prog 164 #[str x] w fun e w' => e = .returned (.bool (decide (x ∈ kws))) ∧ w' = w := by
  go_enter Tryz.func164, Tryz.ntmps164
  go_wp2
  all_goals (go_ret; refine ⟨ret_bool ?_, rfl⟩; simp_all [kws])

end Go.Proofs.YtiinohibmcefkaaGreatDoor
