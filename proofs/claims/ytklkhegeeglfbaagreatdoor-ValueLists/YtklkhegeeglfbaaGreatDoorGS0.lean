import Derived.Test.YtklkhegeeglfbaaGreatDoorGQ
import Derived.Test.YtklkhegeeglfbaaGreatDoorGR
import Derived.Test.YtklkhegeeglfbaaGreatDoorJzak
import Derived.Test.YtklkhegeeglfbaaGreatDoorGK
import Derived.Test.YtklkhegeeglfbaaGreatDoorJzaa
import Derived.Test.YtklkhegeeglfbaaGreatDoorJx
import Derived.Test.YtklkhegeeglfbaaGreatDoorJy
namespace Go.Proofs.YtklkhegeeglfbaaGreatDoor
open Go.RowKit Go.Maps

set_option maxRecDepth 100000 in
theorem mod_2 (n : Int) (w : World) : Calls Tryz.prog 6 #[.int .i64 n, .int .i64 2] w fun e w' => ∃ k : Nat, e = .returned (.int .i64 (k : Int)) ∧ k < 2 ∧ w' = w := by
  have hb : -2 < n.tmod 2 ∧ n.tmod 2 < 2 := by
    rw [Int.tmod_eq_emod]
    split <;> simp at * <;> omega
  go_enter Tryz.func6, Tryz.ntmps6
  go_wp2
  · rename_i h
    go_ret
    exact ⟨(n.tmod 2 + 2).toNat, ret_int (by omega), by omega, rfl⟩
  · rename_i h
    go_ret
    exact ⟨(n.tmod 2).toNat, ret_int (by omega), by omega, rfl⟩
set_option maxRecDepth 100000 in
theorem mod_3 (n : Int) (w : World) : Calls Tryz.prog 6 #[.int .i64 n, .int .i64 3] w fun e w' => ∃ k : Nat, e = .returned (.int .i64 (k : Int)) ∧ k < 3 ∧ w' = w := by
  have hb : -3 < n.tmod 3 ∧ n.tmod 3 < 3 := by
    rw [Int.tmod_eq_emod]
    split <;> simp at * <;> omega
  go_enter Tryz.func6, Tryz.ntmps6
  go_wp2
  · rename_i h
    go_ret
    exact ⟨(n.tmod 3 + 3).toNat, ret_int (by omega), by omega, rfl⟩
  · rename_i h
    go_ret
    exact ⟨(n.tmod 3).toNat, ret_int (by omega), by omega, rfl⟩
set_option maxRecDepth 100000 in
theorem mod_4 (n : Int) (w : World) : Calls Tryz.prog 6 #[.int .i64 n, .int .i64 4] w fun e w' => ∃ k : Nat, e = .returned (.int .i64 (k : Int)) ∧ k < 4 ∧ w' = w := by
  have hb : -4 < n.tmod 4 ∧ n.tmod 4 < 4 := by
    rw [Int.tmod_eq_emod]
    split <;> simp at * <;> omega
  go_enter Tryz.func6, Tryz.ntmps6
  go_wp2
  · rename_i h
    go_ret
    exact ⟨(n.tmod 4 + 4).toNat, ret_int (by omega), by omega, rfl⟩
  · rename_i h
    go_ret
    exact ⟨(n.tmod 4).toNat, ret_int (by omega), by omega, rfl⟩
set_option maxRecDepth 100000 in
theorem mod_5 (n : Int) (w : World) : Calls Tryz.prog 6 #[.int .i64 n, .int .i64 5] w fun e w' => ∃ k : Nat, e = .returned (.int .i64 (k : Int)) ∧ k < 5 ∧ w' = w := by
  have hb : -5 < n.tmod 5 ∧ n.tmod 5 < 5 := by
    rw [Int.tmod_eq_emod]
    split <;> simp at * <;> omega
  go_enter Tryz.func6, Tryz.ntmps6
  go_wp2
  · rename_i h
    go_ret
    exact ⟨(n.tmod 5 + 5).toNat, ret_int (by omega), by omega, rfl⟩
  · rename_i h
    go_ret
    exact ⟨(n.tmod 5).toNat, ret_int (by omega), by omega, rfl⟩
set_option maxRecDepth 100000 in
theorem mod_6 (n : Int) (w : World) : Calls Tryz.prog 6 #[.int .i64 n, .int .i64 6] w fun e w' => ∃ k : Nat, e = .returned (.int .i64 (k : Int)) ∧ k < 6 ∧ w' = w := by
  have hb : -6 < n.tmod 6 ∧ n.tmod 6 < 6 := by
    rw [Int.tmod_eq_emod]
    split <;> simp at * <;> omega
  go_enter Tryz.func6, Tryz.ntmps6
  go_wp2
  · rename_i h
    go_ret
    exact ⟨(n.tmod 6 + 6).toNat, ret_int (by omega), by omega, rfl⟩
  · rename_i h
    go_ret
    exact ⟨(n.tmod 6).toNat, ret_int (by omega), by omega, rfl⟩
set_option maxRecDepth 100000 in
theorem mod_7 (n : Int) (w : World) : Calls Tryz.prog 6 #[.int .i64 n, .int .i64 7] w fun e w' => ∃ k : Nat, e = .returned (.int .i64 (k : Int)) ∧ k < 7 ∧ w' = w := by
  have hb : -7 < n.tmod 7 ∧ n.tmod 7 < 7 := by
    rw [Int.tmod_eq_emod]
    split <;> simp at * <;> omega
  go_enter Tryz.func6, Tryz.ntmps6
  go_wp2
  · rename_i h
    go_ret
    exact ⟨(n.tmod 7 + 7).toNat, ret_int (by omega), by omega, rfl⟩
  · rename_i h
    go_ret
    exact ⟨(n.tmod 7).toNat, ret_int (by omega), by omega, rfl⟩
set_option maxRecDepth 100000 in
theorem mod_8 (n : Int) (w : World) : Calls Tryz.prog 6 #[.int .i64 n, .int .i64 8] w fun e w' => ∃ k : Nat, e = .returned (.int .i64 (k : Int)) ∧ k < 8 ∧ w' = w := by
  have hb : -8 < n.tmod 8 ∧ n.tmod 8 < 8 := by
    rw [Int.tmod_eq_emod]
    split <;> simp at * <;> omega
  go_enter Tryz.func6, Tryz.ntmps6
  go_wp2
  · rename_i h
    go_ret
    exact ⟨(n.tmod 8 + 8).toNat, ret_int (by omega), by omega, rfl⟩
  · rename_i h
    go_ret
    exact ⟨(n.tmod 8).toNat, ret_int (by omega), by omega, rfl⟩
set_option maxRecDepth 100000 in
theorem mod_9 (n : Int) (w : World) : Calls Tryz.prog 6 #[.int .i64 n, .int .i64 9] w fun e w' => ∃ k : Nat, e = .returned (.int .i64 (k : Int)) ∧ k < 9 ∧ w' = w := by
  have hb : -9 < n.tmod 9 ∧ n.tmod 9 < 9 := by
    rw [Int.tmod_eq_emod]
    split <;> simp at * <;> omega
  go_enter Tryz.func6, Tryz.ntmps6
  go_wp2
  · rename_i h
    go_ret
    exact ⟨(n.tmod 9 + 9).toNat, ret_int (by omega), by omega, rfl⟩
  · rename_i h
    go_ret
    exact ⟨(n.tmod 9).toNat, ret_int (by omega), by omega, rfl⟩
theorem mod_any (n : Int) (L : Nat) (h1 : 1 ≤ L) (h8 : L ≤ 8) (w : World) : Calls Tryz.prog 6 #[.int .i64 n, .int .i64 ((L : Int) + 1)] w fun e w' => ∃ k : Nat, e = .returned (.int .i64 (k : Int)) ∧ k < L + 1 ∧ w' = w := by
  have hc : L = 1 ∨ L = 2 ∨ L = 3 ∨ L = 4 ∨ L = 5 ∨ L = 6 ∨ L = 7 ∨ L = 8 := by omega
  rcases hc with rfl | rfl | rfl | rfl | rfl | rfl | rfl | rfl
  · exact mod_2 n w
  · exact mod_3 n w
  · exact mod_4 n w
  · exact mod_5 n w
  · exact mod_6 n w
  · exact mod_7 n w
  · exact mod_8 n w
  · exact mod_9 n w
/-- Make of the first values of a record. -/
theorem make_take {S : List FieldA} {V N : List ValA} {b t s : Txt} (hR : RightA S V N b t s) {k : Nat} (hk : k ≤ S.length) : makeB S (V.take k) = (overN V N k, 0) := by
  have hl : (V.take k).length = k := by rw [List.length_take, hR.nV]; omega
  have hf : fitAll S (V.take k) = true := by
    have h := (errR_zero hR.errV).2.2
    unfold fitAll at *
    rw [List.all_eq_true] at *
    intro p hp
    refine h p ?_
    obtain ⟨i, hi⟩ := List.mem_iff_getElem?.1 hp
    rw [List.getElem?_zip_eq_some] at hi
    refine List.mem_iff_getElem?.2 ⟨i, ?_⟩
    rw [List.getElem?_zip_eq_some]
    refine ⟨hi.1, ?_⟩
    have := hi.2
    rw [List.getElem?_take] at this
    split at this
    · exact this
    · cases this
  rw [makeB_eq hR.sch (by omega), if_pos hf]
  unfold madeR overN
  rw [hl]
  have hz : zeros S = N := by
    have := hR.zero
    unfold zeroB at this
    rwa [if_pos hR.sch] at this
  rw [← hz]
  unfold zeros
  rw [List.map_drop]
theorem vals_take {w : World} {B n g c k : Nat} {V : List ValA} (h : w.ownsRow B 40 3 (.slice (some ⟨g, 0, none⟩) n c) n (vcs V)) (hV : V.length = n) (hk : k ≤ n) : ValsAt w (.slice (some ⟨g, 0, none⟩) k c) (V.take k) := by
  have e : vcs V = vcs (V.take k) ++ vcs (V.drop k) := by rw [← vcs_app, List.take_append_drop]
  have hl : (V.take k).length = k := by rw [List.length_take]; omega
  rw [e] at h
  have := own_head (n := k) h (by rw [vcs_length, hl]) (by decide)
  exact vals_of this hl
theorem vals_nil (w : World) : ValsAt w (.slice none 0 0) [] := rowAt_own (World.ownsRow_nil w 0 40 3)
section
variable {w w' : World} {B b : Nat} {a : BookA} {E E' its : List Rowp}
theorem BookAt.keepF (h : BookAt w B b a E its) (hk : Keeps (fun _ => False) w w') : BookAt w' B b a E its :=
  ⟨(hk.block b (lt_of_block h.box) id).trans h.box, h.new, h.sack.keepF hk, h.pL, h.pB, h.pF⟩
theorem BookAt.newRow {e : TypeId} {z n : Nat} {v : Value} {X : List Value} (h : BookAt w B b a E its) (hB : B ≤ w.heap.size) (hk : Keeps (fun _ => False) w w') (ho : w'.ownsRow w.heap.size e z v n X) (hz : 0 < z) : BookAt w' B b a (solo e z n v X :: E) its :=
  ⟨(hk.block b (lt_of_block h.box) id).trans h.box, h.new, (h.sack.new hB hk (solo_at ho hz)).perm List.perm_middle.symm, h.pL, h.pB, h.pF⟩
theorem BookAt.perm (h : BookAt w B b a E its) (hp : E.Perm E') : BookAt w B b a E' its :=
  ⟨h.box, h.new, h.sack.perm (List.Perm.append_left _ (List.Perm.append_right _ hp)), h.pL, h.pB, h.pF⟩
theorem BookAt.drop (h : BookAt w B b a E its) : BookAt w B b a [] its :=
  ⟨h.box, h.new, h.sack.sub (List.Sublist.append (List.Sublist.refl _) (List.sublist_append_right E its)), h.pL, h.pB, h.pF⟩
theorem BookAt.at_ (h : BookAt w B b a E its) {p : Rowp} (hp : p ∈ E) : p.at_ w B := h.sack.all p (List.mem_append_right _ (List.mem_append_left _ hp))
/-- A list is cut shorter. -/
theorem BookAt.shrink {e : TypeId} {z n m g c : Nat} {X Y : List Value} (h : BookAt w B b a (solo e z m (.slice (some ⟨g, 0, none⟩) m c) (X ++ Y) :: E) its) (hn : X.length = n * z) : BookAt w B b a (solo e z n (.slice (some ⟨g, 0, none⟩) n c) X :: E) its := by
  have hp := h.at_ (List.mem_cons_self ..)
  have ho : w.ownsRow B e z (.slice (some ⟨g, 0, none⟩) n c) n X := own_head hp.x hn hp.pos
  have hs := h.sack.perm (List.perm_middle (l₁ := a.rows) (a := solo e z m (.slice (some ⟨g, 0, none⟩) m c) (X ++ Y)) (l₂ := E ++ its))
  obtain ⟨h2, h3⟩ := List.pairwise_cons.1 hs.apart
  have hs2 : Sack w B (solo e z n (.slice (some ⟨g, 0, none⟩) n c) X :: (a.rows ++ (E ++ its))) := ⟨fun q hq => by
    rcases List.mem_cons.1 hq with rfl | hq
    · exact solo_at ho hp.pos
    · exact hs.all q (List.mem_cons_of_mem _ hq), List.Pairwise.cons (fun q hq b' hb => h2 q hq b' (Or.inl (by have := solo_has hb; exact this))) h3⟩
  exact ⟨h.box, h.new, hs2.perm List.perm_middle.symm, h.pL, h.pB, h.pF⟩
end
def book0 : BookA := ⟨0, ⟨.slice none 0 0, []⟩, ⟨.slice none 0 0, []⟩, ⟨.slice none 0 0, []⟩, ⟨.slice none 0 0, []⟩, ⟨.slice none 0 0, []⟩, ⟨.slice none 0 0, []⟩⟩
theorem book_start (w : World) : BookAt (w.alloc (.cells #[.slice none 0 0, .slice none 0 0, .slice none 0 0, .slice none 0 0, .slice none 0 0, .slice none 0 0, .int .i64 0] 46)) w.heap.size w.heap.size book0 [] [] :=
  ⟨heap_alloc_new _ _, Nat.le_refl _, (((((Sack.nil.nowhere (by decide)).nowhere (by decide)).nowhere (by decide)).nowhere (by decide)).nowhere (by decide)).nowhere (by decide), ⟨rfl, fun i x y h _ => by simp [book0] at h⟩, ⟨rfl, fun i x y h _ => by simp [book0] at h⟩, ⟨rfl, fun i x y h _ => by simp [book0] at h⟩⟩
end Go.Proofs.YtklkhegeeglfbaaGreatDoor
