import Derived.Test.YtajklagdjokojaaGreatDoorJe
namespace Go.Proofs.YtajklagdjokojaaGreatDoor
open Go.RowKit Go.Maps

theorem ownsRow_kept {w w' : World} {B e size n : Nat} {v : Value} {xs : List Value} (h : w.ownsRow B e size v n xs) {F : Nat → Prop} (hk : Keeps F w w') (hF : ∀ k, v.ownBlock = some k → ¬ F k) : w'.ownsRow B e size v n xs := by
  obtain ⟨h1, h2⟩ := h
  refine ⟨h1, ?_⟩
  rcases h2 with h2 | ⟨g, cap, cur, hv, hb, hg, rest⟩
  · exact Or.inl h2
  · exact Or.inr ⟨g, cap, cur, hv, hb, by rw [hk.block g (lt_of_block hg) (hF g (by rw [hv]; rfl))]; exact hg, rest⟩
theorem ownsRow_ne {w : World} {B e size n : Nat} {v : Value} {xs : List Value} (h : w.ownsRow B e size v n xs) {k : Nat} {c : Array Value} {t : TypeId} {fr : Nat × Nat} (hb : w.heap[k]? = some (.cells c t fr)) (ht : t ≠ e) : v.ownBlock ≠ some k := by
  rcases h.2 with ⟨hv, _⟩ | ⟨g, cap, cur, hv, _, hg, _⟩
  · rw [hv]; simp [Value.ownBlock]
  · rw [hv]
    simp only [Value.ownBlock, ne_eq, Option.some.injEq]
    rintro rfl
    rw [hb] at hg
    simp at hg
    exact ht hg.2.1
theorem ownsRow_lower {w : World} {B C e size n : Nat} {v : Value} {xs : List Value} (h : w.ownsRow B e size v n xs) (hC : C ≤ B) : w.ownsRow C e size v n xs := by
  obtain ⟨h1, h2⟩ := h
  refine ⟨h1, ?_⟩
  rcases h2 with h2 | ⟨g, cap, cur, hv, hb, rest⟩
  · exact Or.inl h2
  · exact Or.inr ⟨g, cap, cur, hv, Nat.le_trans hC hb, rest⟩
theorem Keeps.narrow {F : Nat → Prop} {a b c : World} (h : Keeps (fun _ => False) a b) (k : Keeps F b c) (hF : ∀ i, F i → a.heap.size ≤ i) : Keeps (fun _ => False) a c :=
  ⟨k.os.trans h.os, k.tape.trans h.tape, k.output.trans h.output, Nat.le_trans h.size k.size, fun i hi _ => (k.block i (Nat.lt_of_lt_of_le hi h.size) (fun f => by have := hF i f; omega)).trans (h.block i hi id)⟩

theorem keeps_set (w : World) (b o : Nat) (u : Value) : Keeps (fun q => q = b) w (w.setCell ⟨b, o, none⟩ u) :=
  (Keeps.refl (fun q => q = b) w).setCell (p := ⟨b, o, none⟩) (fun _ => rfl) u

set_option maxRecDepth 100000 in
set_option maxHeartbeats 2000000 in
theorem copySchema_any (w : World) (v : Value) (l : List FieldA) (h : FldsAt w v l) (hl : l.length ≤ 1099511627776) :
    Calls Tryz.prog 38 #[.agg #[v]] w fun e w' => ∃ v', e = .returned (.agg #[v']) ∧ w'.ownsRow w.heap.size 75 3 v' l.length (fcs l) ∧ Keeps (fun _ => False) w w' := by
  obtain ⟨i0, hi, hz0, hz1, hz2⟩ := info_parts Tryz.info75
  obtain ⟨ao, cap, rfl⟩ := RowAt.form h
  obtain ⟨w3, hw3⟩ : ∃ w3, w3 = ((w.alloc (.cells #[.slice ao l.length cap] 26)).alloc (.cells #[.slice none 0 0] 26)).alloc (.cells #[.slice none 0 0] 26) := ⟨_, rfl⟩
  have hK : Keeps (fun _ => False) w w3 := by rw [hw3]; exact (((Keeps.refl _ _).alloc _).alloc _).alloc _
  have hs3 : w3.heap.size = w.heap.size + 3 := by rw [hw3]; simp
  have b0 : w3.heap[w.heap.size]? = some (.cells #[.slice ao l.length cap] 26 (0, 0)) := by
    rw [hw3, Below.heap_alloc _ _ _ (by simp; omega), Below.heap_alloc _ _ _ (by simp)]
    exact heap_alloc_new w _
  have b1 : w3.heap[w.heap.size + 1]? = some (.cells #[.slice none 0 0] 26 (0, 0)) := by
    rw [hw3, Below.heap_alloc _ _ _ (by simp)]
    have := heap_alloc_new (w.alloc (.cells #[.slice ao l.length cap] 26)) (.cells #[.slice none 0 0] 26)
    simpa using this
  have b2 : w3.heap[w.heap.size + 1 + 1]? = some (.cells #[.slice none 0 0] 26 (0, 0)) := by
    rw [hw3]
    have := heap_alloc_new ((w.alloc (.cells #[.slice ao l.length cap] 26)).alloc (.cells #[.slice none 0 0] 26)) (.cells #[.slice none 0 0] 26)
    simpa using this
  have HF := hide (h.keepF hK)
  have HW := hide hw3
  have HK := hide hK
  have HL := hide hl
  have B0 := hide b0
  have B1 := hide b1
  have B2 := hide b2
  have HS := hide hs3
  clear h hw3 hK b0 b1 b2 hs3 hl
  have hl' : l.length ≤ 9223372036854775807 := by have := unhide HL; omega
  go_enter Tryz.func38, Tryz.ntmps38
  go_wp2
  rw [← unhide HW]
  go_loopw [4] (fun i wr => ∃ (k : Nat) (o : Value), k ≤ l.length ∧ i = .int .i64 k ∧ wr.heap[w.heap.size + 1 + 1]? = some (.cells #[o] 26 (0, 0)) ∧ wr.ownsRow w3.heap.size 75 3 o k (fcs (l.take k)) ∧ Keeps (fun q => q = w.heap.size + 1 + 1) w3 wr) (fun i _ => l.length - (intOf i).toNat)
  case atStart => exact ⟨0, _, Nat.zero_le _, rfl, unhide B2, by simpa [fcs] using World.ownsRow_nil w3 w3.heap.size 75 3, Keeps.refl _ _⟩
  case round =>
    obtain ⟨k, o, hk, rfl, hbo, hown, hkp⟩ := hrel
    obtain ⟨oo, oc, rfl⟩ := (rowAt_own hown).form
    have HBo := hide hbo
    have HO := hide hown
    have HP := hide hkp
    have p0 : wr.cell? ⟨w.heap.size, 0, none⟩ = some (.slice ao l.length cap) := (hkp.cell (lt_of_block (unhide B0)) (by show ¬ _ = _; omega)).trans (by rw [cell_of_blk (unhide B0)]; rfl)
    have p2 : wr.cell? ⟨w.heap.size + 1 + 1, 0, none⟩ = some (.slice oo k oc) := by rw [cell_of_blk hbo]; rfl
    have f2 := frozen_of_blk hbo 0
    have z2 := lt_of_block hbo
    have z0 : w.heap.size < wr.heap.size := by omega
    by_cases hlt : k < l.length
    · obtain ⟨b, off, c1, e1, hbl, hc⟩ := (unhide HF).cells (by omega)
      simp at e1
      obtain ⟨rfl, rfl⟩ := e1
      obtain ⟨f, hf⟩ : ∃ f, l[k]? = some f := ⟨_, List.getElem?_eq_getElem hlt⟩
      have hbne : b ≠ w.heap.size + 1 + 1 := by
        rintro rfl
        have h1 := (hc k f hf).2.1
        have h2 := (hc k f hf).2.2
        rw [cell_of_blk (unhide B2)] at h1 h2
        rw [Array.getElem?_eq_none (by simp)] at h2
        cases h2
      have c0 := (hkp.cell hbl (by show ¬ _ = _; omega)).trans (hc k f hf).1
      have c1 := (hkp.cell hbl (by show ¬ _ = _; omega)).trans (hc k f hf).2.1
      have c2 := (hkp.cell hbl (by show ¬ _ = _; omega)).trans (hc k f hf).2.2
      have z1 : b < wr.heap.size := Nat.lt_of_lt_of_le hbl hkp.size
      have HX := hide hf
      have HN := hide (ownsRow_ne hown hbo (by decide))
      have i1 : (k : Int) < (l.length : Int) := by omega
      have i0' : (0 : Int) ≤ (k : Int) := by omega
      clear hc hf hbo hown hkp
      go_wp2_with fail
      go_region_law (first
        | (refine step_append_lies _ (by rfl) _ _ _ (by rfl) w3.heap.size 75 i0 _ 3 32 Tryz.underlying24 hi hz0 hz1 hz2 rfl (by omega) (.slice oo k oc) k (fcs (l.take k)) (by rfl) (((unhide HO).alloc _).drew)
            ⟨wr.heap.size, 0, none⟩ 1 1 f.cs (by rfl) (by rfl) (World.news_of_block (cs := #[str f.name, .int .i64 f.type, .bool f.opt]) (t := 75) (fr := (0, 0)) (by exact heap_alloc_new wr _)) (by simp [Value.oneCell', FieldA.cs])
            (by omega) (by unfold maxLen; omega) (by have := unhide HL; omega) (by have := (unhide HP).size; simp; omega) (wr.heap.size + 1) (by simp) ?_; intro g cap' w5 hown2 hgrow hat hlt2
           have f2' : w5.frozen? ⟨w.heap.size + 1 + 1, 0, none⟩ = false := by (rw [hgrow.frozen_far _ (by simp; omega) (Ne.symm (unhide HN))]; simpa [World.frozen?_alloc_past, z2] using f2)
           have p2' : w5.cell? ⟨w.heap.size + 1 + 1, 0, none⟩ = some (.slice oo k oc) := by (rw [hgrow.cell_far _ (by simp; omega) (Ne.symm (unhide HN))]; simpa [World.cell?_alloc_past, z2] using p2)))
      all_goals
        have hb5 : w5.heap[w.heap.size + 1 + 1]? = some (.cells #[.slice oo k oc] 26 (0, 0)) := by
          rw [hgrow.block (w.heap.size + 1 + 1) (by simp; omega) (Ne.symm (unhide HN))]
          show (wr.alloc _).heap[w.heap.size + 1 + 1]? = _
          rw [Below.heap_alloc _ _ _ z2]
          exact unhide HBo
        have H5 := hide hb5
        have HO2 := hide hown2
        have HG2 := hide hgrow
        clear hb5 hown2 hgrow
        go_wp2
        go_roundw
        case rel =>
          refine ⟨k + 1, .slice (some ⟨g, 0, none⟩) (k + 1) cap', by omega, by go_num, ?_, ?_, ?_⟩
          · rw [heap_setCell_at (unhide H5)]; rfl
          · rw [take_snoc _ _ _ (unhide HX)]
            have h1 : w5.ownsRow w3.heap.size 75 3 (.slice (some ⟨g, 0, none⟩) (k + 1) cap') (k + 1) (fcs (l.take k ++ [f])) := by simpa [fcs] using unhide HO2
            exact ownsRow_kept (F := fun q => q = w.heap.size + 1 + 1) h1 (keeps_set w5 _ 0 _) (fun q e e2 => by subst e2; exact ownsRow_ne h1 (unhide H5) (by decide) e)
          · exact ((((unhide HP).alloc _).drew).grown (unhide HG2) (fun q e hq => by have := ((unhide HO).lt q e).1; omega)).setCell (fun _ => rfl) _
        case measure => simp [intOf]; omega
    · obtain rfl : k = l.length := by omega
      have hb1 : wr.heap[w.heap.size + 1]? = some (.cells #[.slice none 0 0] 26 (0, 0)) := by rw [hkp.block _ (lt_of_block (unhide B1)) (by show ¬ _ = _; omega)]; exact unhide B1
      have p1 : wr.cell? ⟨w.heap.size + 1, 0, none⟩ = some (.slice none 0 0) := by rw [cell_of_blk hb1]; rfl
      have f1 := frozen_of_blk hb1 0
      have H1 := hide hb1
      have HN1 := hide (ownsRow_ne hown hb1 (by decide))
      clear hb1 hown hkp hbo
      go_wp2
      have hq : (wr.setCell ⟨w.heap.size + 1, 0, none⟩ (.slice oo l.length oc)).cell? ⟨w.heap.size + 1, 0, none⟩ = some (.slice oo l.length oc) := by rw [cell_of_blk (heap_setCell_at (unhide H1) _)]; rfl
      refine bodyPost_ret (v := .agg #[.slice oo l.length oc]) (by simp [results, go_sem, hq]) rfl ?_
      refine ⟨.slice oo l.length oc, rfl, ?_, ?_⟩
      · have h1 := unhide HO
        rw [List.take_length] at h1
        exact ownsRow_lower (ownsRow_kept (F := fun q => q = w.heap.size + 1) h1 (keeps_set wr _ 0 _) (fun q e e2 => unhide HN1 (by rw [← e2]; exact e))) (unhide HK).size
      · exact (unhide HK).narrow (F := fun q => q = w.heap.size + 1 + 1 ∨ q = w.heap.size + 1) (((unhide HP).mono (fun q _ h => Or.inl h)).then (keeps_set wr (w.heap.size + 1) 0 _) (fun q _ h => Or.inr h)) (fun q h => by omega)

end Go.Proofs.YtajklagdjokojaaGreatDoor
namespace Go.Proofs.YtajklagdjokojaaGreatDoor
open Go.RowKit Go.Maps

/-- The groups of a number. -/
def groups (u : Nat) : Txt := if _h : u < 128 then [UInt8.ofNat u] else UInt8.ofNat (u % 128 + 128) :: groups (u / 128)
theorem groups_small {u : Nat} (h : u < 128) : groups u = [UInt8.ofNat u] := by rw [groups, dif_pos h]
theorem groups_big {u : Nat} (h : 128 ≤ u) : groups u = UInt8.ofNat (u % 128 + 128) :: groups (u / 128) := by rw [groups, dif_neg (by omega)]
theorem groups_length (k : Nat) : ∀ u, u < 128 ^ (k + 1) → (groups u).length ≤ k + 1 := by
  induction k with
  | zero => intro u h; rw [groups_small (by simpa using h)]; simp
  | succ k ih =>
    intro u h
    by_cases h0 : u < 128
    · rw [groups_small h0]; simp
    · rw [groups_big (by omega)]
      have := ih (u / 128) (by rw [Nat.pow_succ] at h; omega)
      simp; omega
theorem groups_10 (u : Nat) (h : u ≤ 18446744073709551615) : (groups u).length ≤ 10 := groups_length 9 u (by omega)
theorem num_of (u : Nat) (h : u < 256) : num (UInt8.ofNat u) = u := by unfold num; rw [UInt8.toNat_ofNat']; omega

/-- A slice that is appended to: its own block is the old one, or a new one. -/
theorem own_step {S' : Nat} {v o o' : Value} {S g : Nat} {n c : Nat} (h : o.ownBlock = v.ownBlock ∨ ∀ q, o.ownBlock = some q → S ≤ q) (hat : o.ownBlock = some g ∨ g = S') (hS : S ≤ S') (e : o' = .slice (some ⟨g, 0, none⟩) n c) : o'.ownBlock = v.ownBlock ∨ ∀ q, o'.ownBlock = some q → S ≤ q := by
  subst e
  have e1 : (Value.slice (some ⟨g, 0, none⟩) n c).ownBlock = some g := rfl
  rw [e1]
  rcases hat with hat | rfl
  · rcases h with h | h
    · left; rw [← h, hat]
    · right; intro q hq; simp at hq; subst hq; exact h _ hat
  · right; intro q hq; simp at hq; omega

def tn (n : Int) : Nat := (turned n).toNat
theorem tn_eq (n : Int) : turned n = (tn n : Int) := by unfold tn turned; split <;> omega
theorem tn_le (n : Int) (h0 : -9223372036854775808 ≤ n) (h1 : n ≤ 9223372036854775807) : tn n ≤ 18446744073709551615 := by unfold tn turned; split <;> omega

/-- The int at a place of some bytes, and the place behind it (-1: none). -/
def readG : Nat → Txt → Nat → Nat → Option (Nat × Nat)
  | 0, _, _, _ => none
  | _ + 1, [], _, _ => none
  | f + 1, c :: r, u, k =>
    if c.toNat < 128 then some ((u + 128 ^ k * (c.toNat % 128)) % 18446744073709551616, k + 1)
    else readG f r ((u + 128 ^ k * (c.toNat % 128)) % 18446744073709551616) (k + 1)
def readIntB (t : Txt) (a : Nat) : Int × Int := match readG 10 (t.drop a) 0 0 with
  | none => (0, -1)
  | some (u, k) => (backB u, (a + k : Nat))
theorem pow128 (k : Nat) (h : k ≤ 9) : 128 ^ k ≤ 9223372036854775808 := by
  have : 128 ^ k ≤ 128 ^ 9 := Nat.pow_le_pow_right (by omega) h
  omega
theorem wrapU_add (U X : Int) : IntKind.u64.wrap (U + IntKind.u64.wrap X) = (U + X) % 18446744073709551616 := by
  rw [IntKind.wrap_u64, IntKind.wrap_u64]; omega

theorem ret_ii {k j : IntKind} {a b c d : Int} (h : a = b) (h2 : c = d) : Ending.returned (.tuple #[.int k a, .int j c]) = .returned (.tuple #[.int k b, .int j d]) := by rw [h, h2]

end Go.Proofs.YtajklagdjokojaaGreatDoor
