import Derived.Test.YtjmbcelkhiopeaaJ
namespace Go.Proofs.Ytjmbcelkhiopeaa
open Go.RowKit Go.Maps
attribute [local go_sem ↓] Go.wp_at_zero Go.wp_at_succ

set_option maxRecDepth 100000 in
set_option maxHeartbeats 1000000 in
theorem copyBytes_any (w : World) (v : Value) (l : List Int) (hR : Reads w v l) (hb : ∀ b off n c, v = .slice (some ⟨b, off, none⟩) n c → 0 < l.length → b < w.heap.size) (hl : l.length ≤ 140737488355328) :
    Calls Try.prog 61 #[v] w fun e w' => ∃ v', e = .returned v' ∧ w'.ownsRow w.heap.size 5 1 v' l.length (bs l) ∧ Keeps (fun _ => False) w w' := by
  obtain ⟨i0, hi, hz0, hz1, hz2⟩ := info_parts Try.info5
  obtain ⟨ao, cap, rfl⟩ := hR.form
  have HR := hide hR
  have HB := hide hb
  have HL := hide hl
  have hl' : l.length ≤ 9223372036854775807 := by omega
  clear hR hb hl
  go_enter Try.func61, Try.ntmps61
  go_wp2
  go_loopw [3, 4] (fun o i wr => ∃ k : Nat, k ≤ l.length ∧ i = .int .i64 k ∧ wr.ownsRow w.heap.size 5 1 o k (bs (l.take k)) ∧ Keeps (fun _ => False) w wr) (fun _ i _ => l.length - (intOf i).toNat)
  case atStart => exact ⟨0, Nat.zero_le _, rfl, by simpa [bs] using World.ownsRow_nil w w.heap.size 5 1, Keeps.refl _ _⟩
  case round =>
    obtain ⟨k, hk, rfl, hown, hkeep⟩ := hrel
    have HO := hide hown
    have HK := hide hkeep
    clear hown hkeep
    by_cases hlt : k < l.length
    · obtain ⟨b, off, c, e1, hc⟩ := (unhide HR).cells (by omega)
      simp at e1
      obtain ⟨rfl, rfl⟩ := e1
      have hblt := unhide HB b off _ _ rfl (by omega)
      obtain ⟨x, hx⟩ : ∃ x, l[k]? = some x := ⟨_, List.getElem?_eq_getElem hlt⟩
      have p0 := ((unhide HK).cell (o := off + k) hblt id).trans (hc k x hx)
      have HX := hide hx
      have i1 : (k : Int) < (l.length : Int) := by omega
      have i0' : (0 : Int) ≤ (k : Int) := by omega
      clear hc hx
      go_wp2_with (at_builtin; refine wpList_append_lies _ rfl _ _ _ rfl w.heap.size 5 i0 _ 1 1 Try.underlying32 hi hz0 hz1 hz2 rfl (by omega) u3 k (bs (l.take k)) rfl ((unhide HO).alloc _) ⟨wr.heap.size, 0, none⟩ 1 1 [.int .u8 x] rfl rfl (World.news_of_block (cs := #[.int .u8 x]) (t := 5) (fr := (0, 0)) (heap_alloc_new wr _)) (by simp [Value.oneCell']) (by omega) (by unfold maxLen; omega) (by have := unhide HL; omega) (by have := (unhide HK).size; simp; omega) (wr.heap.size + 1) (by simp) ?_; intro g cap w1 hown1 hgrow hat hlt1)
      go_roundw
      case rel =>
        refine ⟨k + 1, by omega, by go_num, ?_, ((unhide HK).alloc _).grown hgrow (fun q e hq => by have := ((unhide HO).lt q e).1; omega)⟩
        rw [take_snoc _ _ _ (unhide HX)]
        simpa [bs] using hown1
      case measure => simp [intOf]; omega
    · go_wp2
      go_ret
      obtain rfl : k = l.length := by omega
      refine ⟨_, rfl, ?_, unhide HK⟩
      have := unhide HO
      rwa [List.take_length] at this

/-- One write of the document's list. -/
structure LW where
  sec : Nat
  v : Value
  bytes : List Int

structure RS where
  D : Nat
  secs : Nat
  size : Nat
  bv : Value
  base : List Int
  lv : Value
  log : List LW
  firm : Nat
  fuse : Int
  gone : Bool
  r : Int
  wr : Int
  f : Int

def RS.cells (R : RS) : Array Value := #[.int .i64 R.secs, .int .i64 R.size, R.bv, R.lv, .int .i64 R.firm, .int .i64 R.fuse, .bool R.gone, .int .i64 R.r, .int .i64 R.wr, .int .i64 R.f]
def lcells (log : List LW) : List Value := log.flatMap fun x => [.int .i64 x.sec, x.v]

structure RefAt (w : World) (B : Nat) (R : RS) : Prop where
  blk : w.heap[R.D]? = some (.cells R.cells 103 (0, 0))
  base : (R.bv = .slice none 0 0 ∧ R.base = List.replicate (R.secs * R.size) 0) ∨ w.ownsRow B 5 1 R.bv (R.secs * R.size) (bs R.base)
  blen : R.base.length = R.secs * R.size
  row : w.ownsRow B 60 2 R.lv R.log.length (lcells R.log)
  each : ∀ x ∈ R.log, x.bytes.length = R.size ∧ x.sec < R.secs ∧ w.ownsRow B 5 1 x.v R.size (bs x.bytes)
  firm : R.firm ≤ R.log.length
  lo : B ≤ R.D
  secs1 : 1 ≤ R.secs
  secs2 : R.secs ≤ 16384
  size1 : 32 ≤ R.size
  size2 : R.size ≤ 1024

def RS.own (R : RS) (k : Nat) : Prop := k = R.D ∨ R.lv.ownBlock = some k

theorem ownsRow_kept {w w' : World} {base : Nat} {e : TypeId} {size : Nat} {v : Value} {n : Nat} {xs : List Value} (h : w.ownsRow base e size v n xs) {F : Nat → Prop} (hk : Keeps F w w') (hF : ∀ b, v.ownBlock = some b → ¬ F b) : w'.ownsRow base e size v n xs := by
  refine ⟨h.1, ?_⟩
  rcases h.2 with hn | ⟨g, cap, cur, hv, hb, hg, rest⟩
  · exact Or.inl hn
  · exact Or.inr ⟨g, cap, cur, hv, hb, by rw [hk.block _ (lt_of_block hg) (hF g (by rw [hv]; rfl))]; exact hg, rest⟩

theorem RefAt.kept {w w' : World} {B : Nat} {R : RS} (h : RefAt w B R) {F : Nat → Prop} (hk : Keeps F w w') (h1 : ∀ k, R.own k → ¬ F k) (h2 : ∀ b, R.bv.ownBlock = some b → ¬ F b) (h3 : ∀ x ∈ R.log, ∀ b, x.v.ownBlock = some b → ¬ F b) : RefAt w' B R where
  blk := by rw [hk.block _ (lt_of_block h.blk) (h1 _ (Or.inl rfl))]; exact h.blk
  base := h.base.elim Or.inl (fun h' => Or.inr (ownsRow_kept h' hk h2))
  blen := h.blen
  row := ownsRow_kept h.row hk (fun b hb => h1 b (Or.inr hb))
  each := fun x hx => ⟨(h.each x hx).1, (h.each x hx).2.1, ownsRow_kept (h.each x hx).2.2 hk (h3 x hx)⟩
  firm := h.firm
  lo := h.lo
  secs1 := h.secs1
  secs2 := h.secs2
  size1 := h.size1
  size2 := h.size2

def newRS (N n s : Nat) : RS := ⟨N, n, s, .slice none 0 0, List.replicate (n * s) 0, .slice none 0 0, [], 0, -1, false, 0, 0, 0⟩

set_option maxRecDepth 100000 in
set_option maxHeartbeats 400000 in
theorem refNew_yes (n s : Nat) (w : World) (h1 : 1 ≤ n) (h2 : n ≤ 16384) (h3 : 32 ≤ s) (h4 : s ≤ 1024) :
    Calls Try.prog 63 #[.int .i64 n, .int .i64 s] w fun e w' => e = .returned (.tuple #[.pointer (some ⟨w.heap.size, 0, none⟩), .int .i64 0]) ∧ RefAt w' w.heap.size (newRS w.heap.size n s) ∧ Keeps (fun _ => False) w w' := by
  have HD : Hid (RefAt (w.alloc (.cells (newRS w.heap.size n s).cells 103)) w.heap.size (newRS w.heap.size n s)) :=
    ⟨heap_alloc_new w _, Or.inl ⟨rfl, rfl⟩, by simp [newRS], World.ownsRow_nil _ _ _ _, fun x hx => (by cases hx), Nat.le_refl _, Nat.le_refl _, h1, h2, h3, h4⟩
  have HK := hide ((Keeps.refl (fun _ => False) w).alloc (.cells (newRS w.heap.size n s).cells 103))
  go_enter Try.func63, Try.ntmps63
  go_wp2
  go_ret2
  exact ⟨rfl, unhide HD, unhide HK⟩

set_option maxRecDepth 100000 in
set_option maxHeartbeats 400000 in
theorem refNew_no (n s : Int) (w : World) (h : ¬ (1 ≤ n ∧ n ≤ 16384 ∧ 32 ≤ s ∧ s ≤ 1024)) :
    Calls Try.prog 63 #[.int .i64 n, .int .i64 s] w fun e w' => e = .returned (.tuple #[.pointer none, .int .i64 1]) ∧ w' = w := by
  by_cases h1 : n < 1
  · go_enter Try.func63, Try.ntmps63
    go_wp2
    go_ret2
    exact ⟨rfl, rfl⟩
  · by_cases h2 : 16384 < n
    · go_enter Try.func63, Try.ntmps63
      go_wp2
      go_ret2
      exact ⟨rfl, rfl⟩
    · by_cases h3 : s < 32
      · go_enter Try.func63, Try.ntmps63
        go_wp2
        go_ret2
        exact ⟨rfl, rfl⟩
      · have h4 : 1024 < s := by omega
        clear h
        go_enter Try.func63, Try.ntmps63
        go_wp2
        go_ret2
        exact ⟨rfl, rfl⟩

end Go.Proofs.Ytjmbcelkhiopeaa
