import Derived.Test.YtcicaifioghciaaGreatDoorOf
namespace Go.Proofs.YtcicaifioghciaaGreatDoor
open Go.RowKit Go.Maps

def zeros64 : List Value := (Builtin.zeroCells #[Value.int .i64 0, .int .i64 0, .string ⟨#[]⟩] 64).toList
theorem zeros64_vcs : zeros64 = vcs (List.replicate 64 zV0) := made_vcs 64
theorem zeros64_len : zeros64.length = 64 * 3 := by rw [zeros64_vcs, vcs_length]; simp
theorem zeros64_one : ∀ u ∈ zeros64, u.oneCell' = true := by
  intro u hu
  rw [zeros64_vcs] at hu
  unfold vcs at hu
  obtain ⟨f, _, hf⟩ := List.mem_flatMap.1 hu
  have hf' : u ∈ [Value.int .i64 f.kind, .int .i64 f.n, str f.s] := hf
  simp only [List.mem_cons, List.not_mem_nil, or_false] at hf'
  rcases hf' with rfl | rfl | rfl <;> rfl

/-- append(s, make([]T, 64)...). -/
theorem run_append_made (w : World) (ty : TypeId) (base : Nat) (v : Value) (n : Nat) (xs : List Value) (hown : w.ownsRow base 51 3 v n xs) (hn : n ≤ 1000) (hbase : base ≤ w.heap.size) :
    ∃ g cap w', (Builtin.append_ #[25, 3] ty #[v, .int .i64 64]).run Tryz.prog w = .ok (.slice (some ⟨g, 0, none⟩) (n + 64) cap) w' ∧ w'.ownsRow base 51 3 (.slice (some ⟨g, 0, none⟩) (n + 64) cap) (n + 64) (xs ++ zeros64) ∧
      ((v = .slice (some ⟨g, 0, none⟩) n cap ∧ w.grownBy w' (some g)) ∨ (w.heap.size ≤ g ∧ w.grownBy w' none)) := by
  obtain ⟨i, hi, hz0, hz1, hz2⟩ := info_parts Tryz.info51
  have ht := Tryz.underlying25
  have hu : Tryz.prog.underlying 3 = some (.int .i64) := by kernel_rfl
  have hlen : (xs ++ zeros64).length = (n + 64) * 3 := by rw [List.length_append, hown.1, zeros64_len, Nat.add_mul]
  have hw64 : IntKind.i64.wrap 64 = 64 := by decide
  have grown : ∀ (old : Nat), old < n + 64 → 
      (w.drew.alloc (.cells (xs.toArray ++ zeros64.toArray ++ Builtin.zeroCells #[Value.int .i64 0, .int .i64 0, .string ⟨#[]⟩] (grownCap w (n + 64) old 51 - (n + 64))) 51)).ownsRow base 51 3
        (.slice (some ⟨w.heap.size, 0, none⟩) (n + 64) (grownCap w (n + 64) old 51)) (n + 64) (xs ++ zeros64) ∧
      w.grownBy (w.drew.alloc (.cells (xs.toArray ++ zeros64.toArray ++ Builtin.zeroCells #[Value.int .i64 0, .int .i64 0, .string ⟨#[]⟩] (grownCap w (n + 64) old 51 - (n + 64))) 51)) none := by
    intro old ho
    have hge := grownCap_ge w (n + 64) old 51
    have hcm : grownCap w (n + 64) old 51 ≤ maxLen := grownCap_le_maxLen w (n + 64) old 51 (by unfold maxLen; omega)
    refine ⟨⟨hlen, .inr ⟨w.heap.size, _, _, rfl, hbase, heap_alloc_new w.drew _, hge, hcm, ?_, ?_⟩⟩, ⟨rfl, rfl, rfl, by simp, fun k hk _ => heap_alloc_old w.drew _ hk⟩⟩
    · simp only [Array.size_append, List.size_toArray, size_zeroCells, hown.1, zeros64_len]
      simp
      omega
    · simp only [Array.toList_append, List.append_assoc]
      rw [← List.append_assoc, ← hlen]
      exact List.take_left
  rcases hown.2 with ⟨rfl, rfl⟩ | ⟨g, cap, cur, rfl, hbg, hg, hnc, hcm, hcs, htake⟩
  · have hx : xs = [] := List.eq_nil_of_length_eq_zero (by simpa using hown.1)
    subst hx
    have hgr := grown 0 (by omega)
    have h48 : ¬ (281474976710656 < Builtin.nextslicecap 64 0 * 32) := by decide
    have hr : (Builtin.append_ #[25, 3] ty #[.slice none 0 0, .int .i64 64]).run Tryz.prog w = .ok (.slice (some ⟨w.heap.size, 0, none⟩) 64 (grownCap w 64 0 51)) (w.drew.alloc (.cells (zeros64.toArray ++ Builtin.zeroCells #[Value.int .i64 0, .int .i64 0, .string ⟨#[]⟩] (grownCap w 64 0 51 - 64)) 51)) := by
      simp [Builtin.append_, run_underlying ht, run_underlying hu, sizeOf, typeInfo, zeroValue, hi, hz0, hz1, hz2, Builtin.firstCells, asInt, asIntOf, hw64, h48, Question.forced, newRow, grownCap, zeros64, Value.cells]
      intro h
      exfalso
      omega
    simp only [Nat.zero_add, List.nil_append, Array.empty_append] at hgr ⊢
    exact ⟨_, _, _, hr, hgr.1, Or.inr ⟨Nat.le_refl _, hgr.2⟩⟩
  · by_cases hroom : n + 64 ≤ cap
    · have hfit : n * 3 + zeros64.length ≤ cur.size := by rw [zeros64_len, hcs]; omega
      have hst := run_storeCells_at Tryz.prog g (n * 3) 51 zeros64 0 cur w hg (by simpa using hfit) zeros64_one
      simp only [Nat.add_zero] at hst
      have hr : (Builtin.append_ #[25, 3] ty #[.slice (some ⟨g, 0, none⟩) n cap, .int .i64 64]).run Tryz.prog w = .ok (.slice (some ⟨g, 0, none⟩) (n + 64) cap) (w.setRow g (cur.toList.take (n * 3) ++ zeros64 ++ cur.toList.drop (n * 3 + zeros64.length)).toArray) := by
        have e0 : (Builtin.zeroCells #[Value.int .i64 0, .int .i64 0, .string ⟨#[]⟩] 64).toList = zeros64 := rfl
        simp [Builtin.append_, run_underlying ht, run_underlying hu, sizeOf, typeInfo, zeroValue, hi, hz0, hz1, hz2, asInt, asIntOf, hw64, hroom, Addr.add_lit, e0, hst, Value.cells]
      refine ⟨g, cap, _, hr, ⟨hlen, .inr ⟨g, cap, _, rfl, hbg, setRow_heap w g cur _ 51 _ hg, hroom, hcm, ?_, ?_⟩⟩, Or.inl ⟨rfl, ⟨rfl, rfl, rfl, by simp, fun k _ hk => setRow_other w g k _ (fun e => hk (by simp [e]))⟩⟩⟩
      · simp only [List.size_toArray, List.length_append, List.length_take, List.length_drop, Array.length_toList]
        omega
      · rw [htake, ← hlen]
        exact List.take_left
    · have holds : ∀ j u, xs[j]? = some u → w.drew.cell? ((⟨g, 0, none⟩ : Addr).add j) = some u := hown.cells (g := g) rfl
      have hfo := run_firstCells_some (P := Tryz.prog) w.drew 3 n ⟨g, 0, none⟩ n cap xs hown.1 holds
      have hgr := grown cap (by omega)
      have h48 : ¬ (281474976710656 < Builtin.nextslicecap (n + 64) cap * 32) := by
        have := growslice_fits (need := n + 64) (bytes := 32) (old := cap) (by omega) (by omega)
        omega
      have h63 : ¬ (9223372036854775807 < ((n : Int) + 64)) := by omega
      have hr : (Builtin.append_ #[25, 3] ty #[.slice (some ⟨g, 0, none⟩) n cap, .int .i64 64]).run Tryz.prog w = .ok (.slice (some ⟨w.heap.size, 0, none⟩) (n + 64) (grownCap w (n + 64) cap 51)) (w.drew.alloc (.cells (xs.toArray ++ zeros64.toArray ++ Builtin.zeroCells #[Value.int .i64 0, .int .i64 0, .string ⟨#[]⟩] (grownCap w (n + 64) cap 51 - (n + 64))) 51)) := by
        simp [Builtin.append_, run_underlying ht, run_underlying hu, sizeOf, typeInfo, zeroValue, hi, hz0, hz1, hz2, asInt, asIntOf, hw64, hroom, h48, Question.forced, hfo, newRow, grownCap, zeros64, Value.cells]
        intro h
        exfalso
        omega
      exact ⟨_, _, _, hr, hgr.1, Or.inr ⟨Nat.le_refl _, hgr.2⟩⟩
theorem append_made {w : World} {ops : Array Oper} {rest : List Oper} {o : Oper} {a : Act} {Q : Exit → Act → World → Prop} (hgd : o.guard = none) (s x : Operand)
    (ho : o.op = .call { callee := .builtin .append, args := #[s, x], argTypes := #[25, 3] }) (base : Nat) (v : Value) (n : Nat) (xs : List Value) (hs : a.eval s = v) (hown : w.ownsRow base 51 3 v n xs)
    (hx : a.eval x = .int .i64 64) (hn : n ≤ 1000) (hbase : base ≤ w.heap.size)
    (h : ∀ g cap w', w'.ownsRow base 51 3 (.slice (some ⟨g, 0, none⟩) (n + 64) cap) (n + 64) (xs ++ zeros64) → ((v = .slice (some ⟨g, 0, none⟩) n cap ∧ w.grownBy w' (some g)) ∨ (w.heap.size ≤ g ∧ w.grownBy w' none)) → wpList Tryz.prog ops Q rest (a.put o.dst (.slice (some ⟨g, 0, none⟩) (n + 64) cap)) w') : wpList Tryz.prog ops Q (o :: rest) a w :=
  wpList_plain hgd fun _ hK => by
    obtain ⟨g, cap, w', hr, h2, h3⟩ := run_append_made w o.type base v n xs hown hn hbase
    unfold Oper.wp execOp
    simp only [ho, resolve, invoke, builtin, Sem.run_bind, Sem.run_pure, Result.andThen_ok, List.map_toArray, List.map_cons, List.map_nil, hs, hx, hr]
    exact hK _ _ (h g cap w' h2 h3)

theorem Tryz.info5' : (Tryz.prog.info? 5).map (fun i => (i.zero, i.size, i.bytes)) = some (some (.int .u8 0), 1, 1) := by kernel_rfl
theorem Tryz.info9' : (Tryz.prog.info? 9).map (fun i => (i.zero, i.size, i.bytes)) = some (some (.string ⟨#[]⟩), 1, 16) := by kernel_rfl
/-- Items that were just laid, appended to bytes of one's own. -/
theorem append_bytes {w : World} {ops : Array Oper} {rest : List Oper} {o : Oper} {a : Act} {Q : Exit → Act → World → Prop} (hgd : o.guard = none) (s x : Operand)
    (ho : o.op = .call { callee := .builtin .append, args := #[s, x], argTypes := #[29, 29] }) (base : Nat) (v : Value) (n : Nat) (xs : List Value) (hs : a.eval s = v) (hown : w.ownsRow base 5 1 v n xs)
    (ad m c C : Nat) (news : List Value) (hx : a.eval x = .slice (some ⟨ad, 0, none⟩) m c) (hx2 : w.ownsRow C 5 1 (.slice (some ⟨ad, 0, none⟩) m c) m news) (h1 : ∀ u ∈ news, u.oneCell' = true) (hm : 0 < m) (hl : n + m ≤ 1000) (hbase : base ≤ w.heap.size)
    (h : ∀ g cap w', w'.ownsRow base 5 1 (.slice (some ⟨g, 0, none⟩) (n + m) cap) (n + m) (xs ++ news) → ((v = .slice (some ⟨g, 0, none⟩) n cap ∧ w.grownBy w' (some g)) ∨ (w.heap.size ≤ g ∧ w.grownBy w' none)) → wpList Tryz.prog ops Q rest (a.put o.dst (.slice (some ⟨g, 0, none⟩) (n + m) cap)) w') : wpList Tryz.prog ops Q (o :: rest) a w := by
  obtain ⟨i, hi, hz0, hz1, hz2⟩ := info_parts Tryz.info5'
  exact append_two (P := Tryz.prog) w hgd s x 29 ho base 5 i _ 1 1 Tryz.underlying29 hi hz0 hz1 hz2 rfl (by omega) v n xs hs hown _ m c news hx hx2.1 (hx2.cells rfl) h1 hm (by unfold maxLen; omega) (by omega) hbase h
theorem append_strs {w : World} {ops : Array Oper} {rest : List Oper} {o : Oper} {a : Act} {Q : Exit → Act → World → Prop} (hgd : o.guard = none) (s x : Operand)
    (ho : o.op = .call { callee := .builtin .append, args := #[s, x], argTypes := #[33, 33] }) (base : Nat) (v : Value) (n : Nat) (xs : List Value) (hs : a.eval s = v) (hown : w.ownsRow base 9 1 v n xs)
    (ad m c C : Nat) (news : List Value) (hx : a.eval x = .slice (some ⟨ad, 0, none⟩) m c) (hx2 : w.ownsRow C 9 1 (.slice (some ⟨ad, 0, none⟩) m c) m news) (h1 : ∀ u ∈ news, u.oneCell' = true) (hm : 0 < m) (hl : n + m ≤ 4398046511104) (hbase : base ≤ w.heap.size)
    (h : ∀ g cap w', w'.ownsRow base 9 1 (.slice (some ⟨g, 0, none⟩) (n + m) cap) (n + m) (xs ++ news) → ((v = .slice (some ⟨g, 0, none⟩) n cap ∧ w.grownBy w' (some g)) ∨ (w.heap.size ≤ g ∧ w.grownBy w' none)) → wpList Tryz.prog ops Q rest (a.put o.dst (.slice (some ⟨g, 0, none⟩) (n + m) cap)) w') : wpList Tryz.prog ops Q (o :: rest) a w := by
  obtain ⟨i, hi, hz0, hz1, hz2⟩ := info_parts Tryz.info9'
  exact append_two (P := Tryz.prog) w hgd s x 33 ho base 9 i _ 1 16 (by kernel_rfl) hi hz0 hz1 hz2 rfl (by omega) v n xs hs hown _ m c news hx hx2.1 (hx2.cells rfl) h1 hm (by unfold maxLen; omega) (by omega) hbase h
end Go.Proofs.YtcicaifioghciaaGreatDoor
