import Derived.Test.YtdkihkgmldnpmabD
namespace Go.Proofs.Ytdkihkgmldnpmab
open Go.RowKit Go.Maps

theorem take_snoc {α : Type} (ws : List α) (k : Nat) (x : α) (h : ws[k]? = some x) : ws.take (k + 1) = ws.take k ++ [x] := by
  obtain ⟨hk, rfl⟩ := List.getElem?_eq_some_iff.1 h
  rw [List.take_succ_eq_append_getElem hk]

theorem Keeps.then {F G : Nat → Prop} {a b c : World} (h : Keeps G a b) (k : Keeps F b c) (hF : ∀ i, i < a.heap.size → F i → G i) : Keeps G a c :=
  ⟨k.os.trans h.os, k.tape.trans h.tape, k.output.trans h.output, Nat.le_trans h.size k.size, fun i hi hG => (k.block i (Nat.lt_of_lt_of_le hi h.size) (fun f => hG (hF i hi f))).trans (h.block i hi hG)⟩
theorem keeps_drewN (w : World) (n : Nat) : Keeps (fun _ => False) w (w.drewN n) := (Keeps.refl _ w).drewN n

def is (l : List Int) : List Value := l.map (Value.int .i64)
theorem is_length (l : List Int) : (is l).length = l.length := by simp [is]
theorem is_get (l : List Int) (j : Nat) : (is l)[j]? = (l[j]?).map (Value.int .i64) := by simp [is]
theorem Try.info3 : (Try.prog.info? 3).map (fun i => (i.zero, i.size, i.bytes)) = some (some (.int .i64 0), 1, 8) := by kernel_rfl

/-- A slice whose elements are of one cell and read as l. -/
structure Cells (w : World) (v : Value) (l : List Value) : Prop where
  form : ∃ ao cap, v = .slice ao l.length cap
  cells : 0 < l.length → ∃ b off cap, v = .slice (some ⟨b, off, none⟩) l.length cap ∧ b < w.heap.size ∧ ∀ j x, l[j]? = some x → w.cell? ⟨b, off + j, none⟩ = some x

theorem Cells.kept {w w' : World} {v : Value} {l : List Value} (h : Cells w v l) {F : Nat → Prop} (hk : Keeps F w w') (hF : ∀ k, v.ownBlock = some k → ¬ F k) : Cells w' v l := by
  refine ⟨h.form, fun h0 => ?_⟩
  obtain ⟨b, off, cap, e, hb, hc⟩ := h.cells h0
  refine ⟨b, off, cap, e, Nat.lt_of_lt_of_le hb hk.size, fun j x hx => ?_⟩
  rw [hk.cell hb (hF b (by rw [e]; rfl))]
  exact hc j x hx
theorem Cells.keepF {w w' : World} {v : Value} {l : List Value} (h : Cells w v l) (hk : Keeps (fun _ => False) w w') : Cells w' v l := h.kept hk (fun _ _ => id)
theorem Cells.drewN {w : World} {v : Value} {l : List Value} (h : Cells w v l) (n : Nat) : Cells (w.drewN n) v l := h.keepF (keeps_drewN w n)
theorem Cells.below {w w' : World} {v : Value} {l : List Value} (h : Cells w v l) (hk : Below w.heap.size w w') : Cells w' v l := by
  refine ⟨h.form, fun h0 => ?_⟩
  obtain ⟨b, off, cap, e, hb, hc⟩ := h.cells h0
  refine ⟨b, off, cap, e, Nat.lt_of_lt_of_le hb hk.size, fun j x hx => ?_⟩
  rw [hk.cell (p := ⟨b, off + j, none⟩) hb]
  exact hc j x hx
theorem cells_row {w : World} {B t n : Nat} {v : Value} {l : List Value} (h : w.ownsRow B t 1 v n l) (hl : l.length = n) : Cells w v l := by
  subst hl
  have hh := h.2
  rcases hh with ⟨hv, hn⟩ | ⟨g, cap, cur, hv, hb, hg, rest⟩
  · exact ⟨⟨none, 0, by rw [hn]; exact hv⟩, fun h0 => by omega⟩
  · refine ⟨⟨_, _, hv⟩, fun _ => ⟨g, 0, cap, hv, lt_of_block hg, fun j x hx => ?_⟩⟩
    have := h.cells (g := g) (by rw [hv]; rfl) j x hx
    rwa [Addr.add_lit] at this
theorem cells_block {w : World} {b t : Nat} {l : List Value} {p : Nat × Nat} {c : Nat} (h : w.heap[b]? = some (.cells l.toArray t p)) : Cells w (.slice (some ⟨b, 0, none⟩) l.length c) l :=
  ⟨⟨_, _, rfl⟩, fun _ => ⟨b, 0, c, rfl, lt_of_block h, fun j x hx => by rw [cell_of_blk h]; simpa using hx⟩⟩

def usedTo (f : List Bool) (k : Nat) : List Int := ((List.range k).filter (on f)).map (fun (i : Nat) => (i : Int))
theorem usedTo_succ (f : List Bool) (k : Nat) : usedTo f (k + 1) = usedTo f k ++ (if on f k then [(k : Int)] else []) := by
  unfold usedTo
  rw [List.range_succ, List.filter_append]
  cases h : on f k <;> simp [h]
theorem usedTo_le (f : List Bool) (k : Nat) : (usedTo f k).length ≤ k := by
  unfold usedTo
  have := List.length_filter_le (on f) (List.range k)
  simp at *
  omega

set_option maxRecDepth 100000 in
set_option maxHeartbeats 1000000 in
theorem members_any (w : World) (a b n : Nat) (f : List Bool) (h : SetAt w a b n f) :
    Calls Try.prog 31 #[.pointer (some ⟨a, 0, none⟩)] w fun e w' => ∃ v, e = .returned v ∧ w'.ownsRow w.heap.size 3 1 v (usedTo f n).length (is (usedTo f n)) ∧ Keeps (fun _ => False) w w' := by
  obtain ⟨i0, hi, hz0, hz1, hz2⟩ := info_parts Try.info3
  have c0 := h.c0
  have n2 := h.n2
  have HS := hide h
  clear h
  go_enter Try.func31, Try.ntmps31
  go_wp2
  go_loopw [3, 4, 9] (fun o _ i wr => ∃ k : Nat, k ≤ n ∧ i = .int .i64 k ∧ wr.ownsRow w.heap.size 3 1 o (usedTo f k).length (is (usedTo f k)) ∧ Keeps (fun _ => False) w wr) (fun _ _ i _ => n - (intOf i).toNat)
  case atStart => exact ⟨0, Nat.zero_le _, rfl, by simpa [is, usedTo] using World.ownsRow_nil w w.heap.size 3 1, Keeps.refl _ _⟩
  case round =>
    obtain ⟨k, hk, rfl, hown, hkeep⟩ := hrel
    have hul := usedTo_le f k
    have HO := hide hown
    have HK := hide hkeep
    have HU := hide (usedTo_succ f k)
    clear hown hkeep
    obtain ⟨u, HE⟩ : ∃ u, Hid (usedTo f k = u) := ⟨_, rfl⟩
    rw [unhide HE] at HO HU hul
    by_cases hlt : k < n
    · have HH := hide (has_in wr a b n f ((unhide HS).kept (unhide HK) id id) k hlt)
      cases ho : on f k with
      | true =>
        rw [ho] at HH
        have HO2 := hide ho
        clear ho
        go_wp2_with fail
        refine (unhide HH).mono ?_
        rintro e w1 ⟨rfl, k1, rfl⟩
        have HR : Hid ((wr.drewN k1).ownsRow w.heap.size 3 1 _ u.length (is u)) := unhide HO
        have HK1 := hide ((unhide HK).drewN k1)
        generalize wr.drewN k1 = wq at *
        go_wp2_with (at_builtin; refine wpList_append_lies _ rfl _ _ _ rfl w.heap.size 3 i0 _ 1 8 Try.underlying51 hi hz0 hz1 hz2 rfl (by omega) u3 u.length (is u) rfl ((unhide HR).alloc _) ⟨wq.heap.size, 0, none⟩ 1 1 [.int .i64 (k : Int)] rfl rfl (World.news_of_block (cs := #[.int .i64 (k : Int)]) (t := 3) (fr := (0, 0)) (heap_alloc_new wq _)) (by simp [Value.oneCell']) (by omega) (by unfold maxLen; omega) (by omega) (by have := (unhide HK1).size; simp; omega) (wq.heap.size + 1) (by simp) ?_; intro g cap w1 hown1 hgrow hat hlt1)
        go_roundw
        case rel =>
          refine ⟨k + 1, by omega, by go_num, ?_, ((unhide HK1).alloc _).grown hgrow (fun q e hq => by have := ((unhide HR).lt q e).1; omega)⟩
          rw [unhide HU, unhide HO2]
          simpa [is] using hown1
        case measure => simp [intOf]; omega
      | false =>
        rw [ho] at HH
        have HO2 := hide ho
        clear ho
        go_wp2_with fail
        refine (unhide HH).mono ?_
        rintro e w1 ⟨rfl, k1, rfl⟩
        go_wp2
        go_roundw
        case rel =>
          refine ⟨k + 1, by omega, by go_num, ?_, (unhide HK).drewN k1⟩
          rw [unhide HU, unhide HO2]
          simp only [Bool.false_eq_true, if_false, List.append_nil]
          exact unhide HO
        case measure => simp [intOf]; omega
    · go_wp2
      go_ret
      obtain rfl : k = n := by omega
      refine ⟨_, rfl, ?_, unhide HK⟩
      rw [unhide HE]
      exact unhide HO

set_option maxRecDepth 100000 in
set_option maxHeartbeats 400000 in
theorem used_any (w : World) (B : Nat) (s : SP) (h : SpaceAt w B s) :
    Calls Try.prog 14 #[.pointer (some ⟨s.S, 0, none⟩)] w fun e w' => ∃ v, e = .returned v ∧ w'.ownsRow w.heap.size 3 1 v (usedTo s.now s.n).length (is (usedTo s.now s.n)) ∧ Keeps (fun _ => False) w w' := by
  have c1 := h.c1
  have HM := hide (members_any w s.a s.x s.n s.now h.now)
  clear h
  go_enter Try.func14, Try.ntmps14
  go_wp2_with fail
  refine (unhide HM).mono ?_
  rintro e w1 ⟨v, rfl, h1, h2⟩
  go_wp2
  go_ret
  exact ⟨_, rfl, h1, h2⟩

set_option maxHeartbeats 400000 in
theorem used_nil (w : World) : Calls Try.prog 14 #[.pointer none] w fun e w' => e = .returned (.slice none 0 0) ∧ w' = w := by
  go_enter Try.func14, Try.ntmps14
  go_wp2
  go_ret
  exact ⟨rfl, rfl⟩

def SP.leftTo (s : SP) (k : Nat) : Nat := ((List.range k).filter s.isOpen).length
theorem SP.leftTo_succ (s : SP) (k : Nat) : s.leftTo (k + 1) = s.leftTo k + (if s.isOpen k then 1 else 0) := by
  unfold SP.leftTo
  rw [List.range_succ, List.filter_append]
  cases h : s.isOpen k <;> simp [h]
theorem SP.leftTo_le (s : SP) (k : Nat) : s.leftTo k ≤ k := by
  unfold SP.leftTo
  have := List.length_filter_le s.isOpen (List.range k)
  simp at *
  omega

set_option maxRecDepth 100000 in
set_option maxHeartbeats 400000 in
theorem left_any (w : World) (B : Nat) (s : SP) (h : SpaceAt w B s) :
    Calls Try.prog 52 #[.pointer (some ⟨s.S, 0, none⟩)] w fun e w' => e = .returned (.int .i64 (s.leftTo s.n)) ∧ ∃ k, w' = w.drewN k := by
  have c0 := h.c0
  have n2 := h.n2
  have HS := hide h
  clear h
  go_enter Try.func52, Try.ntmps52
  go_wp2
  go_loopw [3, 4, 11] (fun a _ t wr => ∃ k : Nat, k ≤ s.n ∧ a = .int .i64 (s.leftTo k) ∧ t = .int .i64 k ∧ ∃ m, wr = w.drewN m) (fun _ _ t _ => s.n - (intOf t).toNat)
  case atStart => exact ⟨0, Nat.zero_le _, rfl, rfl, 0, rfl⟩
  case round =>
    obtain ⟨k, hk, rfl, rfl, m, rfl⟩ := hrel
    have hle := s.leftTo_le k
    have HSU := hide (s.leftTo_succ k)
    by_cases hlt : k < s.n
    · have HC := hide (open_any _ B s ((unhide HS).drewN m) k (by omega))
      cases ho : s.isOpen k with
      | true =>
        rw [ho] at HC HSU
        clear ho
        generalize s.leftTo k = L at *
        go_wp2_with fail
        refine (unhide HC).mono ?_
        rintro e w1 ⟨rfl, k1, rfl⟩
        rw [World.drewN_drewN]
        go_wp2
        go_roundw
        case rel => exact ⟨k + 1, by omega, by rw [unhide HSU]; simp, by go_num, _, rfl⟩
        case measure => simp [intOf]; omega
      | false =>
        rw [ho] at HC HSU
        clear ho
        generalize s.leftTo k = L at *
        go_wp2_with fail
        refine (unhide HC).mono ?_
        rintro e w1 ⟨rfl, k1, rfl⟩
        rw [World.drewN_drewN]
        go_wp2
        go_roundw
        case rel => exact ⟨k + 1, by omega, by rw [unhide HSU]; simp, by go_num, _, rfl⟩
        case measure => simp [intOf]; omega
    · have e : k = s.n := by omega
      go_wp2
      go_ret
      subst e
      exact ⟨rfl, _, rfl⟩

set_option maxHeartbeats 400000 in
theorem left_nil (w : World) : Calls Try.prog 52 #[.pointer none] w fun e w' => e = .returned (.int .i64 0) ∧ w' = w := by
  go_enter Try.func52, Try.ntmps52
  go_wp2
  go_ret
  exact ⟨rfl, rfl⟩

set_option maxRecDepth 100000 in
set_option maxHeartbeats 400000 in
theorem bits_any (w : World) (a b n : Nat) (f : List Bool) (h : SetAt w a b n f) :
    Calls Try.prog 33 #[.pointer (some ⟨a, 0, none⟩)] w fun e w' => e = .returned (.slice (some ⟨w.heap.size, 0, none⟩) (nb n) (nb n)) ∧ w' = w.alloc (.cells (bs (pack f)).toArray 5) := by
  have c1 := h.c1
  have hm : nb n ≤ 16777216 := by have := h.n2; unfold nb; omega
  have hmk := run_mk (nb n) hm w
  rw [made_zero] at hmk
  have hk : Keeps (fun _ => False) w (w.alloc (.cells (bs (List.replicate (nb n) 0)).toArray 5)) := (Keeps.refl _ _).alloc _
  have h' := h.kept hk id id
  have d1 := h'.c1
  have hcp := fun ty => copy_bits (w.alloc (.cells (bs (List.replicate (nb n) 0)).toArray 5)) w.heap.size b (nb n) (List.replicate (nb n) 0) (pack f) (heap_alloc_new w _) h'.bits (by simp) (by rw [pack_length, h.len]; rfl) ty
  rw [setRow_alloc] at hcp
  generalize (bs (List.replicate (nb n) 0)).toArray = X at *
  generalize (bs (pack f)).toArray = Y at *
  generalize nb n = m at *
  clear h h' hk hm
  go_enter Try.func33, Try.ntmps33
  go_wp2
  go_ret
  exact ⟨rfl, rfl⟩

set_option maxRecDepth 100000 in
set_option maxHeartbeats 400000 in
theorem bitmap_any (w : World) (B : Nat) (s : SP) (h : SpaceAt w B s) :
    Calls Try.prog 18 #[.pointer (some ⟨s.S, 0, none⟩)] w fun e w' => e = .returned (.slice (some ⟨w.heap.size, 0, none⟩) (nb s.n) (nb s.n)) ∧ w' = w.alloc (.cells (bs (pack s.now)).toArray 5) := by
  have c1 := h.c1
  have HM := hide (bits_any w s.a s.x s.n s.now h.now)
  clear h
  go_enter Try.func18, Try.ntmps18
  go_wp2_with fail
  refine (unhide HM).mono ?_
  rintro e w1 ⟨rfl, rfl⟩
  go_wp2
  go_ret
  exact ⟨rfl, rfl⟩

set_option maxHeartbeats 400000 in
theorem bitmap_nil (w : World) : Calls Try.prog 18 #[.pointer none] w fun e w' => e = .returned (.slice none 0 0) ∧ w' = w := by
  go_enter Try.func18, Try.ntmps18
  go_wp2
  go_ret
  exact ⟨rfl, rfl⟩

end Go.Proofs.Ytdkihkgmldnpmab
