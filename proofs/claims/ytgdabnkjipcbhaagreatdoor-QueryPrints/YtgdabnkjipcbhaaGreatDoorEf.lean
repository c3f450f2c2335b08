import Derived.Test.YtgdabnkjipcbhaaGreatDoorJzac
import Derived.Test.YtgdabnkjipcbhaaGreatDoorLa
namespace Go.Proofs.YtgdabnkjipcbhaaGreatDoor
open Go.RowKit Go.Maps

/-- A row of the table of forms. -/
structure FormA where
  shape : Int
  text : Txt
  kids : Int
  rank : Int
  left : Int
  right : Int
def FormA.cs (f : FormA) : List Value := [.int .i64 f.shape, str f.text, .int .i64 f.kids, .int .i64 f.rank, .int .i64 f.left, .int .i64 f.right]
def formsL : List FormA := [⟨0, [], 0, 0, 0, 0⟩, ⟨1, [], 0, 9, 0, 0⟩, ⟨1, [], 0, 9, 0, 0⟩, ⟨1, [], 0, 9, 0, 0⟩, ⟨1, [], 0, 9, 0, 0⟩, ⟨1, [], 0, 9, 0, 0⟩, ⟨1, [], 0, 9, 0, 0⟩,
  ⟨2, [110, 111, 116], 1, 3, 0, 3⟩, ⟨2, [45], 1, 8, 0, 8⟩, ⟨3, [43], 2, 6, 6, 7⟩, ⟨3, [45], 2, 6, 6, 7⟩, ⟨3, [42], 2, 7, 7, 8⟩, ⟨3, [60], 2, 4, 5, 5⟩, ⟨3, [60, 61], 2, 4, 5, 5⟩, ⟨3, [62], 2, 4, 5, 5⟩, ⟨3, [62, 61], 2, 4, 5, 5⟩, ⟨3, [61, 61], 2, 4, 5, 5⟩, ⟨3, [33, 61], 2, 4, 5, 5⟩,
  ⟨3, [97, 110, 100], 2, 2, 2, 3⟩, ⟨3, [111, 114], 2, 1, 1, 2⟩, ⟨3, [63, 63], 2, 5, 6, 5⟩, ⟨4, [109, 105, 110], 2, 9, 0, 0⟩, ⟨4, [109, 97, 120], 2, 9, 0, 0⟩, ⟨4, [108, 101, 110], 1, 9, 0, 0⟩, ⟨4, [99, 97, 116], 2, 9, 0, 0⟩, ⟨4, [112, 105, 99, 107], 3, 9, 0, 0⟩]
/-- The table of forms lies as its initialiser lays it. -/
structure Forms (w : World) : Prop where
  lt : 4 < w.heap.size
  cell : ∀ (i : Nat) (f : FormA), formsL[i]? = some f → ∀ (j : Nat) (x : Value), f.cs[j]? = some x → w.cell? ⟨4, i * 6 + j, none⟩ = some x
theorem Forms.keep {F : Nat → Prop} {w w' : World} (h : Forms w) (hk : Keeps F w w') (hF : ¬ F 4) : Forms w' :=
  ⟨Nat.lt_of_lt_of_le h.lt hk.size, fun i f hf j x hx => by rw [hk.cell h.lt hF]; exact h.cell i f hf j x hx⟩
theorem Forms.keepF {w w' : World} (h : Forms w) (hk : Keeps (fun _ => False) w w') : Forms w' := h.keep hk id
theorem formsL_kids : ∀ m : Nat, 1 ≤ m → m ≤ 25 → (formsL[m]?).map (fun f => f.kids) = some (kidsB m) := by
  have h : ∀ m : Fin 26, 1 ≤ m.val → (formsL[m.val]?).map (fun f => f.kids) = some (kidsB m.val) := by decide
  intro m h1 h2
  exact h ⟨m, by omega⟩ h1
theorem Forms.kids {w : World} (h : Forms w) {m : Nat} (h1 : 1 ≤ m) (h2 : m ≤ 25) : w.cell? ⟨4, m * 6 + 2, none⟩ = some (.int .i64 (kidsB m)) := by
  have e := formsL_kids m h1 h2
  cases hf : formsL[m]? with
  | none => rw [hf] at e; cases e
  | some f =>
    rw [hf] at e
    simp at e
    have := h.cell m f hf 2 (.int .i64 f.kids) rfl
    rw [e] at this
    exact this
theorem boxedT (w : World) (cs : Array Value) (t : TypeId) : Hid (Keeps (fun _ => False) w (w.alloc (.cells cs t))) ∧ w.heap.size < (w.alloc (.cells cs t)).heap.size ∧ ∀ (j : Nat) (x : Value), cs[j]? = some x → (w.alloc (.cells cs t)).cell? ⟨w.heap.size, j, none⟩ = some x :=
  ⟨(Keeps.refl _ _).alloc _, by simp, fun j x h => by rw [cell_of_blk (heap_alloc_new w _)]; exact h⟩
/-- An expression as a value. -/
abbrev exV (op n : Int) (s : Txt) (kv : Value) : Value := .agg #[.int .i64 op, .int .i64 n, str s, kv]
/-- A statement as a value. -/
abbrev stV (op : Int) (f : Txt) (xv tv ev : Value) : Value := .agg #[.int .i64 op, str f, xv, tv, ev]

/-- The worlds in which all that a world holds stands still. -/
structure KW (W0 : World) where
  wd : World
  kept : Keeps (fun _ => False) W0 wd
instance (W0 : World) : Nonempty (KW W0) := ⟨⟨W0, Keeps.refl _ W0⟩⟩
/-- A region that draws its order, whose operations only read and whose callees only lay new blocks: walked once, in the order of the text. -/
theorem region_kept {P : Program} {id : Nat} {Q : Exit → Act → World → Prop} {a : Act} {w : World} {l : List Oper} (hm : P.follows .mixedOrders = true) (hB : Region.lexB .any l.toArray = true)
    (h : wpQuiet P l.toArray (fun w' => ∃ n : KW w, w' = n.wd) (fun a' => ∀ w', (∃ n : KW w, w' = n.wd) → Q .normal a' w') l a) : (Code.region id l.toArray true).wp P Q a w :=
  wp_region_quiet (C := fun w' => ∃ n : KW w, w' = n.wd) hm hB ⟨⟨_, (Keeps.refl _ w).drew⟩, rfl⟩ (by simpa using h)
/-- A contract with no effect but new blocks, at any such world. -/
theorem kw_of {P : Program} {f : FuncId} {args : Array Value} {W0 : World} {v : Value} (n : KW W0) (h : Calls P f args n.wd fun e w' => e = .returned v ∧ Keeps (fun _ => False) n.wd w') :
    Calls P f args n.wd fun e w' => e = .returned v ∧ ∃ m : KW W0, w' = m.wd :=
  h.mono fun _ w' ⟨he, hk⟩ => ⟨he, ⟨w', n.kept.trans hk⟩, rfl⟩
set_option maxRecDepth 100000 in
set_option maxHeartbeats 1600000 in
theorem rootFits_v (op n : Int) (s : Txt) (ao : Option Addr) (k cap : Nat) (w : World) (hF : Forms w) :
    Calls Tryz.prog 91 #[exV op n s (.slice ao k cap)] w fun e w' => e = .returned (.bool (rootB op n s k)) ∧ Keeps (fun _ => False) w w' := by
  obtain ⟨HX, hxb, hxc⟩ := boxedT w #[.int .i64 op, .int .i64 n, str s, .slice ao k cap] 54
  have f0 : ∀ m : KW (w.alloc (.cells #[.int .i64 op, .int .i64 n, str s, .slice ao k cap] 54)), m.wd.cell? ⟨w.heap.size, 0, none⟩ = some (.int .i64 op) := fun m => (m.kept.cell (o := 0) hxb id).trans (hxc 0 (.int .i64 op) rfl)
  have f1 : ∀ m : KW (w.alloc (.cells #[.int .i64 op, .int .i64 n, str s, .slice ao k cap] 54)), m.wd.cell? ⟨w.heap.size, 1, none⟩ = some (.int .i64 n) := fun m => (m.kept.cell (o := 1) hxb id).trans (hxc 1 (.int .i64 n) rfl)
  have f2 : ∀ m : KW (w.alloc (.cells #[.int .i64 op, .int .i64 n, str s, .slice ao k cap] 54)), m.wd.cell? ⟨w.heap.size, 2, none⟩ = some (str s) := fun m => (m.kept.cell (o := 2) hxb id).trans (hxc 2 (str s) rfl)
  have f3 : ∀ m : KW (w.alloc (.cells #[.int .i64 op, .int .i64 n, str s, .slice ao k cap] 54)), m.wd.cell? ⟨w.heap.size, 3, none⟩ = some (.slice ao k cap) := fun m => (m.kept.cell (o := 3) hxb id).trans (hxc 3 (.slice ao k cap) rfl)
  have HF := hide (hF.keepF (unhide HX))
  clear hF hxc
  by_cases hop : 1 ≤ op ∧ op ≤ 25
  · obtain ⟨m, rfl⟩ := Int.eq_ofNat_of_zero_le (show 0 ≤ op by omega)
    have fk : ∀ q : KW (w.alloc (.cells #[.int .i64 (m : Int), .int .i64 n, str s, .slice ao k cap] 54)), q.wd.cell? ⟨4, m * 6 + 2, none⟩ = some (.int .i64 (kidsB m)) := fun q => ((unhide HF).keepF q.kept).kids (m := m) (by omega) (by omega)
    have o0 : (0 : Int) ≤ (m : Int) := by omega
    have o1 : (m : Int) < 26 := by omega
    have o2 : decide ((m : Int) < 1) = false := by simp; omega
    have o3 : decide ((25 : Int) < (m : Int)) = false := by simp; omega
    have hkb : decide (0 ≤ kidsB m) = true := by
      have : ∀ q : Fin 26, 1 ≤ q.val → decide (0 ≤ kidsB q.val) = true := by decide
      exact this ⟨m, by omega⟩ (by show 1 ≤ m; omega)
    unfold rootB
    rw [hkb, Bool.true_and]
    generalize kidsB m = K at fk ⊢
    clear hkb HF
    by_cases hkk : (k : Int) = K
    · subst hkk
      rw [decide_eq_true rfl, Bool.true_and]
      unfold leafB
      by_cases h1 : (m : Int) = 1
      · rw [if_pos h1]
        have d1 : ((m : Int) == 1) = true := by simpa using h1
        clear h1
        go_enter Tryz.func91, Tryz.ntmps91
        go_wp2_with fail
        refine region_kept (by kernel_rfl) (by kernel_rfl) ?_
        repeat (go_big_quiet_step (fail))
        refine wpQuiet_nil ?_
        rintro _ ⟨nq, rfl⟩
        go_wp2_with (fail)
        go_ret
        exact ⟨ret_bool (by cases s <;> simp), (unhide HX).trans nq.kept⟩
      rw [if_neg h1]
      have d1 : ((m : Int) == 1) = false := by simpa using h1
      by_cases h2 : (m : Int) = 2
      · rw [if_pos h2]
        have d2 : ((m : Int) == 2) = true := by simpa using h2
        clear h1 h2
        by_cases hn0 : n = 0
        · subst hn0
          go_enter Tryz.func91, Tryz.ntmps91
          go_wp2_with fail
          refine region_kept (by kernel_rfl) (by kernel_rfl) ?_
          repeat (go_big_quiet_step (fail))
          refine wpQuiet_nil ?_
          rintro _ ⟨nq, rfl⟩
          go_wp2_with (fail)
          go_ret
          exact ⟨ret_bool (by cases s <;> simp), (unhide HX).trans nq.kept⟩
        · have n0 : (n == 0) = false := by simpa using hn0
          by_cases hn1 : n = 1
          · subst hn1
            go_enter Tryz.func91, Tryz.ntmps91
            go_wp2_with fail
            refine region_kept (by kernel_rfl) (by kernel_rfl) ?_
            repeat (go_big_quiet_step (fail))
            refine wpQuiet_nil ?_
            rintro _ ⟨nq, rfl⟩
            go_wp2_with (fail)
            go_ret
            exact ⟨ret_bool (by cases s <;> simp), (unhide HX).trans nq.kept⟩
          · have n1 : (n == 1) = false := by simpa using hn1
            rw [decide_eq_false hn0, decide_eq_false hn1]
            clear hn0 hn1
            go_enter Tryz.func91, Tryz.ntmps91
            go_wp2_with fail
            refine region_kept (by kernel_rfl) (by kernel_rfl) ?_
            repeat (go_big_quiet_step (fail))
            refine wpQuiet_nil ?_
            rintro _ ⟨nq, rfl⟩
            go_wp2_with (fail)
            go_ret
            exact ⟨ret_bool (by simp), (unhide HX).trans nq.kept⟩
      rw [if_neg h2]
      have d2 : ((m : Int) == 2) = false := by simpa using h2
      by_cases h3 : (m : Int) = 3
      · rw [if_pos h3]
        have d3 : ((m : Int) == 3) = true := by simpa using h3
        clear h1 h2 h3
        by_cases hn0 : n = 0
        · subst hn0
          go_enter Tryz.func91, Tryz.ntmps91
          go_wp2_with fail
          refine region_kept (by kernel_rfl) (by kernel_rfl) ?_
          repeat (go_big_quiet_step (fail))
          refine wpQuiet_nil ?_
          rintro _ ⟨nq, rfl⟩
          go_wp2_with (fail)
          go_ret
          exact ⟨ret_bool (by simp <;> omega), (unhide HX).trans nq.kept⟩
        · have n0 : (n == 0) = false := by simpa using hn0
          rw [decide_eq_false hn0]
          clear hn0
          go_enter Tryz.func91, Tryz.ntmps91
          go_wp2_with fail
          refine region_kept (by kernel_rfl) (by kernel_rfl) ?_
          repeat (go_big_quiet_step (fail))
          refine wpQuiet_nil ?_
          rintro _ ⟨nq, rfl⟩
          go_wp2_with (fail)
          go_ret
          exact ⟨ret_bool (by simp), (unhide HX).trans nq.kept⟩
      rw [if_neg h3]
      have d3 : ((m : Int) == 3) = false := by simpa using h3
      by_cases h4 : (m : Int) = 4 ∨ (m : Int) = 5
      · rw [if_pos h4]
        have HN := hide (name_v s)
        have d45 : ((m : Int) == 4) = true ∨ ((m : Int) == 4) = false ∧ ((m : Int) == 5) = true := by
          rcases h4 with h4 | h4
          · exact Or.inl (by simpa using h4)
          · exact Or.inr ⟨by simp; omega, by simpa using h4⟩
        clear h1 h2 h3 h4
        by_cases hn0 : n = 0
        · subst hn0
          rcases d45 with d4 | ⟨d4, d5⟩
          ·
            go_enter Tryz.func91, Tryz.ntmps91
            go_wp2_with fail
            refine region_kept (by kernel_rfl) (by kernel_rfl) ?_
            repeat (go_big_quiet_step (fail))
            refine wpQuiet_nil ?_
            rintro _ ⟨nq, rfl⟩
            go_wp2_with (go_at_call 104; refine (unhide HN _).mono ?_; rintro e w1 ⟨rfl, rfl⟩)
            go_ret
            exact ⟨ret_bool (by simp), (unhide HX).trans nq.kept⟩
          ·
            go_enter Tryz.func91, Tryz.ntmps91
            go_wp2_with fail
            refine region_kept (by kernel_rfl) (by kernel_rfl) ?_
            repeat (go_big_quiet_step (fail))
            refine wpQuiet_nil ?_
            rintro _ ⟨nq, rfl⟩
            go_wp2_with (go_at_call 104; refine (unhide HN _).mono ?_; rintro e w1 ⟨rfl, rfl⟩)
            go_ret
            exact ⟨ret_bool (by simp), (unhide HX).trans nq.kept⟩
        · have n0 : (n == 0) = false := by simpa using hn0
          rw [decide_eq_false hn0]
          clear hn0
          rcases d45 with d4 | ⟨d4, d5⟩
          ·
            go_enter Tryz.func91, Tryz.ntmps91
            go_wp2_with fail
            refine region_kept (by kernel_rfl) (by kernel_rfl) ?_
            repeat (go_big_quiet_step (fail))
            refine wpQuiet_nil ?_
            rintro _ ⟨nq, rfl⟩
            go_wp2_with (fail)
            go_ret
            exact ⟨ret_bool (by simp), (unhide HX).trans nq.kept⟩
          ·
            go_enter Tryz.func91, Tryz.ntmps91
            go_wp2_with fail
            refine region_kept (by kernel_rfl) (by kernel_rfl) ?_
            repeat (go_big_quiet_step (fail))
            refine wpQuiet_nil ?_
            rintro _ ⟨nq, rfl⟩
            go_wp2_with (fail)
            go_ret
            exact ⟨ret_bool (by simp), (unhide HX).trans nq.kept⟩
      rw [if_neg h4]
      have d4 : ((m : Int) == 4) = false := by simp at h4 ⊢; omega
      have d5 : ((m : Int) == 5) = false := by simp at h4 ⊢; omega
      clear h1 h2 h3 h4
      by_cases hn0 : n = 0
      · subst hn0
        go_enter Tryz.func91, Tryz.ntmps91
        go_wp2_with fail
        refine region_kept (by kernel_rfl) (by kernel_rfl) ?_
        repeat (go_big_quiet_step (fail))
        refine wpQuiet_nil ?_
        rintro _ ⟨nq, rfl⟩
        go_wp2_with (fail)
        go_ret
        exact ⟨ret_bool (by cases s <;> simp), (unhide HX).trans nq.kept⟩
      · have n0 : (n == 0) = false := by simpa using hn0
        rw [decide_eq_false hn0]
        clear hn0
        go_enter Tryz.func91, Tryz.ntmps91
        go_wp2_with fail
        refine region_kept (by kernel_rfl) (by kernel_rfl) ?_
        repeat (go_big_quiet_step (fail))
        refine wpQuiet_nil ?_
        rintro _ ⟨nq, rfl⟩
        go_wp2_with (fail)
        go_ret
        exact ⟨ret_bool (by simp), (unhide HX).trans nq.kept⟩
    · have hkd : ((k : Int) != K) = true := by simpa using hkk
      rw [decide_eq_false hkk, Bool.false_and]
      clear hkk
      go_enter Tryz.func91, Tryz.ntmps91
      go_wp2_with fail
      refine region_kept (by kernel_rfl) (by kernel_rfl) ?_
      repeat (go_big_quiet_step (fail))
      refine wpQuiet_nil ?_
      rintro _ ⟨nq, rfl⟩
      go_wp2_with (fail)
      go_ret
      exact ⟨rfl, (unhide HX).trans nq.kept⟩
  · have hkb : rootB op n s k = false := by
      have : kidsB op = -1 := by
        unfold kidsB
        rw [if_neg (by omega), if_neg (by omega), if_neg (by omega), if_neg (by omega)]
      unfold rootB
      rw [this]
      rfl
    rw [hkb]
    clear hkb HF
    by_cases hlo : op < 1
    · have l1 : decide (op < 1) = true := by simpa using hlo
      go_enter Tryz.func91, Tryz.ntmps91
      go_wp2_with fail
      refine region_kept (by kernel_rfl) (by kernel_rfl) ?_
      repeat (go_big_quiet_step (fail))
      refine wpQuiet_nil ?_
      rintro _ ⟨nq, rfl⟩
      go_wp2_with (fail)
      go_ret
      exact ⟨rfl, (unhide HX).trans nq.kept⟩
    · have l1 : decide (op < 1) = false := by simpa using hlo
      have hh : decide (25 < op) = true := by simp; omega
      go_enter Tryz.func91, Tryz.ntmps91
      go_wp2_with fail
      refine region_kept (by kernel_rfl) (by kernel_rfl) ?_
      repeat (go_big_quiet_step (fail))
      refine wpQuiet_nil ?_
      rintro _ ⟨nq, rfl⟩
      go_wp2_with (fail)
      go_ret
      exact ⟨rfl, (unhide HX).trans nq.kept⟩
end Go.Proofs.YtgdabnkjipcbhaaGreatDoor
