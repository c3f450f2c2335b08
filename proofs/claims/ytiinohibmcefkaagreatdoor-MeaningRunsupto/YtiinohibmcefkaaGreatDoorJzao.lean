import Derived.Test.YtiinohibmcefkaaGreatDoorJba
import Derived.Deep.RegionLaw
import Derived.Deep.AppendLies
import Derived.Test.YtiinohibmcefkaaGreatDoorJbb
import Derived.Test.YtiinohibmcefkaaGreatDoorJzaj
import Derived.Test.YtiinohibmcefkaaGreatDoorJzaf
import Derived.Test.YtiinohibmcefkaaGreatDoorJzaa
import Derived.Test.YtiinohibmcefkaaGreatDoorJzal
import Derived.Test.YtiinohibmcefkaaGreatDoorJzak
namespace Go.Proofs.YtiinohibmcefkaaGreatDoor
open Go.RowKit Go.Maps
theorem step_appendV {w : World} {ops : Array Oper} {o : Oper} {a : Act} {K : Act → World → Prop} {Q : Exit → Act → World → Prop} {E : Prop} (hgd : o.guard = none) (s x : Operand)
  (ho : o.op = .call { callee := .builtin .append, args := #[s, x], argTypes := #[29, 29] }) (base : Nat) (v : Value) (n : Nat) (xs : List Value) (hs : a.eval s = v) (hown : w.ownsRow base 41 3 v n xs)
  (u : Value) (G : List ValA) (hx : a.eval x = u) (hu : ValsAt w u G) (h63 : n + G.length ≤ maxLen) (hbytes : n + G.length ≤ 4398046511104) (hbase : base ≤ w.heap.size)
  (h : ∀ ao c w', w'.ownsRow base 41 3 (.slice ao (n + G.length) c) (n + G.length) (xs ++ vcs G) → w.grownBy w' v.ownBlock → K (a.put o.dst (.slice ao (n + G.length) c)) w') : if Region.wanted o (yielded ops a.tmps) = true then Oper.wp Tryz.prog o a w K Q else E := by
 have hw : Region.wanted o (yielded ops a.tmps) = true := by simp [Region.wanted, hgd]
 rw [if_pos hw]
 obtain ⟨v', w', hr, h2, h3⟩ := run_appendV_any w o.type base v n xs hown u G hu h63 hbytes hbase
 obtain ⟨ao, c, rfl⟩ := RowAt.form (rowAt_own h2)
 unfold Oper.wp execOp
 simp only [ho, resolve, invoke, builtin, Sem.run_bind, Sem.run_pure, Result.andThen_ok, List.map_toArray, List.map_cons, List.map_nil, hs, hx, hr]
 exact h ao c w' h2 h3
theorem own_none (w : World) (base : Nat) (hb : base ≤ w.heap.size) : (w.alloc (.cells #[] 41)).ownsRow base 41 3 (.slice (some ⟨w.heap.size, 0, none⟩) 0 0) 0 [] :=
 World.ownsRow_lit (base := base) (e := 41) (size := 3) w #[] 0 hb (by unfold maxLen; omega) rfl
theorem blk28a {w2 w5 : World} (hg : (((w2.alloc (.cells #[] 41)).alloc (.cells #[.bool false, .slice none 0 0] 31)).drew).grownBy w5 (Value.slice (some ⟨w2.heap.size, 0, none⟩) 0 0).ownBlock) : w5.heap[w2.heap.size + 1]? = some (.cells #[.bool false, .slice none 0 0] 31 (0, 0)) := by
 rw [hg.block (w2.heap.size + 1) (by simp [World.drew]) (by simp [Value.ownBlock])]
 have := heap_alloc_new (w2.alloc (.cells #[] 41)) (.cells #[.bool false, .slice none 0 0] 31)
 rw [show (w2.alloc (.cells #[] 41)).heap.size = w2.heap.size + 1 by simp] at this
 exact this
theorem own_noneb (w2 : World) (base : Nat) (hb : base ≤ w2.heap.size) : ((w2.alloc (.cells #[.bool false, .slice none 0 0] 31)).alloc (.cells #[] 41)).ownsRow base 41 3 (.slice (some ⟨w2.heap.size + 1, 0, none⟩) 0 0) 0 [] := by
 have := own_none (w2.alloc (.cells #[.bool false, .slice none 0 0] 31)) base (by simp; omega)
 rwa [show (w2.alloc (.cells #[.bool false, .slice none 0 0] 31)).heap.size = w2.heap.size + 1 by simp] at this
theorem blk28b {w2 w5 : World} (hg : (((w2.alloc (.cells #[.bool false, .slice none 0 0] 31)).alloc (.cells #[] 41)).drew).grownBy w5 (Value.slice (some ⟨w2.heap.size + 1, 0, none⟩) 0 0).ownBlock) : w5.heap[w2.heap.size]? = some (.cells #[.bool false, .slice none 0 0] 31 (0, 0)) := by
 rw [hg.block w2.heap.size (by simp [World.drew]; omega) (by simp [Value.ownBlock])]
 exact ((kAlloc (w2.alloc (.cells #[.bool false, .slice none 0 0] 31)) (.cells #[] 41)).block w2.heap.size (by simp) id).trans (heap_alloc_new w2 (.cells #[.bool false, .slice none 0 0] 31))
def OnlyN (R : Act → World → Prop) : Exit → Act → World → Prop
 | .normal, a, w => R a w
 | _, _, _ => False
theorem OnlyN.mk {R : Act → World → Prop} {a : Act} {w : World} (h : R a w) : OnlyN R .normal a w := h
end Go.Proofs.YtiinohibmcefkaaGreatDoor
namespace Go.Proofs.YtiinohibmcefkaaGreatDoor
open Go.RowKit Go.Maps
theorem schema_8 {S : List FieldA} (hS : schemaB S = true) : S.length ≤ 8 := by
 unfold schemaB at hS
 simp only [Bool.and_eq_true, decide_eq_true_eq] at hS
 exact hS.1.1.1.2
theorem idx_some {S : List FieldA} (hS : schemaB S = true) {nm : Txt} {k : Nat} {f : FieldA} (hk : S[k]? = some f) (h : fieldOf S nm = some f) : idxF S nm = some k := by
 have hn : f.name = nm := by
  unfold fieldOf at h
  have := List.find?_some h
  simpa using this
 have hnd : (S.map FieldA.name).Nodup := by
  unfold schemaB at hS
  simp only [Bool.and_eq_true, decide_eq_true_eq] at hS
  exact hS.1.2
 unfold idxF
 rw [List.findIdx?_eq_some_iff_getElem]
 obtain ⟨hlt, hke⟩ := List.getElem?_eq_some_iff.1 hk
 refine ⟨hlt, by simp [hke, hn], fun j hj => ?_⟩
 have hjl : j < S.length := by omega
 simp only [decide_eq_true_eq]
 intro hc
 have h1 : (S.map FieldA.name)[j]? = some nm := by rw [List.getElem?_map, List.getElem?_eq_getElem hjl]; simp [hc]
 have h2 : (S.map FieldA.name)[k]? = some nm := by rw [List.getElem?_map, hk]; simp [hn]
 have := (List.getElem?_inj (by simpa using hjl) hnd).1 (h1.trans h2.symm)
 omega
end Go.Proofs.YtiinohibmcefkaaGreatDoor
namespace Go.Proofs.YtiinohibmcefkaaGreatDoor
open Go.RowKit Go.Maps
theorem field_at {S : List FieldA} {nm : Txt} {d : FieldA} (h : fieldOf S nm = some d) : ∃ k : Nat, S[k]? = some d := by
 unfold fieldOf at h
 exact List.mem_iff_getElem?.1 (List.mem_of_find?_eq_some h)
end Go.Proofs.YtiinohibmcefkaaGreatDoor
namespace Go.Proofs.YtiinohibmcefkaaGreatDoor
open Go.RowKit Go.Maps
theorem orL_skip (r : List Int) : orL (0 :: r) = orL r := rfl
theorem orL_head {a : Int} (h : a ≠ 0) (r : List Int) : orL (a :: r) = a := by show (if a = 0 then orL r else a) = a; rw [if_neg h]
end Go.Proofs.YtiinohibmcefkaaGreatDoor
namespace Go.Proofs.YtiinohibmcefkaaGreatDoor
open Go.RowKit Go.Maps
theorem checkS_well {l : SL} (h : checkS l = 0) : wellS l = true := by
 unfold checkS at h
 split at h
 ·cases h
 ·rename_i h0; simpa using h0
end Go.Proofs.YtiinohibmcefkaaGreatDoor
namespace Go.Proofs.YtiinohibmcefkaaGreatDoor
open Go.RowKit Go.Maps
theorem checkP_zero {S : List FieldA} {l : SL} (h : (checkP S l).1 = 0) : schemaB S = true ∧ checkS l = 0 := by
 unfold checkP at h
 cases hs : schemaB S with
 | false => rw [errS_bad hs, if_pos (by decide)] at h; simp at h
 | true =>
  rw [errS_good hs, if_neg (by simp)] at h
  by_cases hc : checkS l = 0
  ·exact ⟨rfl, hc⟩
  ·rw [if_pos hc] at h
   exact absurd h hc
end Go.Proofs.YtiinohibmcefkaaGreatDoor
