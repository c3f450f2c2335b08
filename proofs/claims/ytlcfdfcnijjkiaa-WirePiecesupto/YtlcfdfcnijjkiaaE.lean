import Derived.Test.YtlcfdfcnijjkiaaD
namespace Go.Proofs.Ytlcfdfcnijjkiaa
open Go.RowKit Go.Maps

/-- The bytes behind a list that was lent. -/
def padT (k : Nat) : Txt := (List.range k).map fun i => UInt8.ofNat (150 + i)
theorem padT_len (k : Nat) : (padT k).length = k := by simp [padT]
theorem padT_succ (k : Nat) : padT (k + 1) = padT k ++ [UInt8.ofNat (150 + k)] := by simp [padT, List.range_succ]
theorem pad_num {k : Nat} (h : k < 64) : num (UInt8.ofNat (150 + k)) = (150 : Int) + k := by
  unfold num
  rw [UInt8.toNat_ofNat']
  omega
theorem padT_get {k n : Nat} (h : k < n) : (padT n)[k]? = some (UInt8.ofNat (150 + k)) := by
  simp [padT, h]

theorem cell1 {w : World} {t : TypeId} {x : Int} {c : UInt8} (hx : num c = x) : ∀ j k, [c][j]? = some k → (w.alloc (.cells #[.int .u8 x] t)).cell? ⟨w.heap.size, 0 + j, none⟩ = some (.int .u8 (num k)) := by
  intro j k hj
  cases j with
  | zero =>
    simp at hj
    subst hj
    subst hx
    rw [cell_of_blk (heap_alloc_new w _)]
    rfl
  | succ j => simp at hj
theorem BtAt.keep {w w' : World} {B : Nat} {v : Value} {l : Txt} (h : BtAt w B v l) {F : Nat → Prop} (hk : Keeps F w w') (hF : ∀ k, v.ownBlock = some k → ¬ F k) : BtAt w' B v l := ownsRow_kept h hk hF
theorem BtAt.keepF {w w' : World} {B : Nat} {v : Value} {l : Txt} (h : BtAt w B v l) (hk : Keeps (fun _ => False) w w') : BtAt w' B v l := ownsRow_kept h hk (fun _ _ => id)
theorem BtAt.alloc {w : World} {B : Nat} {v : Value} {l : Txt} (h : BtAt w B v l) (o : Obj) : BtAt (w.alloc o) B v l := h.keepF ((Keeps.refl _ _).alloc _)
theorem GrewL.bt {w w' : World} {B m g cap : Nat} {v : Value} {l c : Txt} (h : GrewL w w' B 5 l.length m v g cap (bs l) (bs c)) (hc : c.length = m) : BtAt w' B (.slice (some ⟨g, 0, none⟩) (l ++ c).length cap) (l ++ c) := by
  unfold BtAt
  rw [bs_app, List.length_append, hc]
  exact h.own
/-- What grows in new memory leaves all that was. -/
theorem GrewL.new {w0 w1 w w' : World} {B e n m g cap : Nat} {v : Value} {xs news : List Value} (h : GrewL w w' B e n m v g cap xs news) (h1 : Keeps (fun _ => False) w0 w1) (hk : Keeps (fun _ => False) w1 w) (hv : ∀ q, v.ownBlock = some q → w0.heap.size ≤ q) : Keeps (fun _ => False) w0 w' :=
  narrowO (h1.trans hk) h.keeps hv
theorem BtAt.ge {w : World} {B : Nat} {v : Value} {l : Txt} (h : BtAt w B v l) (q : Nat) (hq : v.ownBlock = some q) : B ≤ q := own_geO h hq
theorem BtAt.form {w : World} {B : Nat} {v : Value} {l : Txt} (h : BtAt w B v l) (h0 : 0 < l.length) : ∃ g cap, v = .slice (some ⟨g, 0, none⟩) l.length cap ∧ l.length ≤ cap ∧ B ≤ g ∧ g < w.heap.size ∧ (∀ k c, l[k]? = some c → w.cell? ⟨g, k, none⟩ = some (.int .u8 (num c))) := by
  obtain ⟨ao, cap, rfl⟩ := (rowAt_own h).form
  obtain ⟨g, rfl, hc⟩ := own_some h h0
  refine ⟨g, cap, rfl, hc, own_geO h rfl, own_lt h rfl, fun k c hk => ?_⟩
  obtain ⟨b, off, cap', e, _, hx⟩ := (rowAt_own h).cells h0
  simp at e
  obtain ⟨⟨rfl, rfl⟩, rfl⟩ := e
  have := hx k (.int .u8 (num c)) (by rw [bs_get, hk]; rfl)
  simpa using this

set_option maxRecDepth 100000 in
set_option maxHeartbeats 1000000 in
theorem roomy_v (w : World) (v : Value) (l : Txt) (hR : BytesAt w v l) (hl : l.length ≤ 1073741824) :
    Calls Try.prog 7 #[v] w fun e w' => ∃ g cap, e = .returned (.slice (some ⟨g, 0, none⟩) l.length cap) ∧ BtAt w' w.heap.size (.slice (some ⟨g, 0, none⟩) (l ++ padT 64).length cap) (l ++ padT 64) ∧ Keeps (fun _ => False) w w' := by
  obtain ⟨ao, cap, rfl⟩ := RowAt.form hR
  have HC := hide (copyBytes_any w _ l hR (by omega))
  have HL := hide hl
  clear hR
  go_enter Try.func7, Try.ntmps7
  go_wp2_with fail
  refine (unhide HC).mono ?_
  rintro e w1 ⟨v1, rfl, ho1, hk1⟩
  have HO1 : Hid (BtAt w1 w.heap.size v1 (l ++ padT 0)) := by show _; rw [show padT 0 = [] from rfl, List.append_nil]; exact ho1
  have HK1 := hide hk1
  clear ho1 hk1
  go_wp2_with fail
  go_loopw [3, 4] (fun o i wr => ∃ k : Nat, k ≤ 64 ∧ i = .int .i64 k ∧ Hid (BtAt wr w.heap.size o (l ++ padT k)) ∧ Hid (Keeps (fun _ => False) w wr)) (fun _ i _ => 64 - (intOf i).toNat)
  case atStart => exact ⟨0, by omega, rfl, HO1, HK1⟩
  case round =>
    obtain ⟨k, hk, rfl, HO, HK⟩ := hrel
    by_cases hlt : k < 64
    · have i1 : (k : Int) < 64 := by omega
      have HA : Hid ((l ++ padT k).length + 1 ≤ 140737488355328) := by show _ ≤ _; rw [List.length_append, padT_len]; have := unhide HL; omega
      have HW : Hid (w.heap.size ≤ wr.heap.size) := (unhide HK).size
      go_wp2_with (at_builtin; refine append_bytes rfl _ _ rfl w.heap.size u3 (l ++ padT k) rfl ((unhide HO).alloc _) wr.heap.size 0 1 1 [UInt8.ofNat (150 + k)] rfl rfl (cell1 (pad_num hlt)) (by omega) (unhide HA) (Nat.le_trans (unhide HW) (by simp)) ?_; intro g cap' w' HG)
      go_roundw
      case rel =>
        refine ⟨k + 1, by omega, by go_num, ?_, ?_⟩
        · show BtAt _ _ _ _
          have := HG.bt rfl
          rw [List.append_assoc, ← padT_succ] at this
          simp only [List.length_append, padT_len] at this ⊢
          exact this
        · exact HG.new (unhide HK) ((Keeps.refl _ _).alloc _) (unhide HO).ge
      case measure => simp [intOf]; omega
    · obtain rfl : k = 64 := by omega
      obtain ⟨g, c, rfl, hc, hg, _, _⟩ := (unhide HO).form (by rw [List.length_append, padT_len]; omega)
      have i0 : (l.length : Int) ≤ (c : Int) := by rw [List.length_append] at hc; omega
      clear hc
      go_wp2_with fail
      go_ret
      exact ⟨g, c, rfl, unhide HO, unhide HK⟩

theorem BtAt.len {w : World} {B g n c : Nat} {l : Txt} (h : BtAt w B (.slice (some ⟨g, 0, none⟩) n c) l) : n = l.length ∧ n ≤ c := by
  rcases h.2 with ⟨h0, _⟩ | ⟨g', cap, cur, hv, _, _, hnc, _⟩
  · cases h0
  · simp only [Value.slice.injEq] at hv
    obtain ⟨_, rfl, rfl⟩ := hv
    exact ⟨rfl, hnc⟩
theorem BtAt.put {w : World} {B g n c j : Nat} {l : Txt} (h : BtAt w B (.slice (some ⟨g, 0, none⟩) n c) l) (x : UInt8) : BtAt (w.setCell ⟨g, j, none⟩ (.int .u8 (num x))) B (.slice (some ⟨g, 0, none⟩) n c) (l.set j x) := by
  obtain rfl := h.len.1
  unfold BtAt
  rw [bs_setL, List.length_set]
  exact (World.ownsRow.stored h j _).1
theorem BtAt.open_ {w : World} {B g n c j : Nat} {l : Txt} (h : BtAt w B (.slice (some ⟨g, 0, none⟩) n c) l) (hj : j < l.length) : (∃ d, w.cell? ⟨g, j, none⟩ = some d) ∧ w.frozen? ⟨g, j, none⟩ = false := by
  obtain rfl := h.len.1
  exact ⟨⟨_, (World.ownsRow.cellAt h j (by omega)).trans (List.getElem?_eq_getElem (by rw [bs_length]; exact hj))⟩, World.ownsRow.frozenAt h _⟩
theorem BtAt.at_ {w : World} {B g n c j : Nat} {l : Txt} (h : BtAt w B (.slice (some ⟨g, 0, none⟩) n c) l) {x : UInt8} (hj : l[j]? = some x) : w.cell? ⟨g, j, none⟩ = some (.int .u8 (num x)) := by
  have hl := get_lt hj
  obtain rfl := h.len.1
  exact (World.ownsRow.cellAt h j (by omega)).trans (by rw [bs_get, hj]; rfl)

set_option maxRecDepth 100000 in
set_option maxHeartbeats 1000000 in
/-- What was lent is as it was. -/
theorem untouched_v (w : World) (v : Value) (l : Txt) (g cap B : Nat) (hR : BytesAt w v l) (hX : BtAt w B (.slice (some ⟨g, 0, none⟩) (l ++ padT 64).length cap) (l ++ padT 64)) (hl : l.length ≤ 1073741824) :
    Calls Try.prog 8 #[.slice (some ⟨g, 0, none⟩) l.length cap, v] w fun e w' => e = .returned (.bool true) ∧ ∃ n, w' = w.drewN n := by
  obtain ⟨ao, vc, rfl⟩ := RowAt.form hR
  have hlen : (l ++ padT 64).length = l.length + 64 := by rw [List.length_append, padT_len]
  have hc := hX.len.2
  have hxl : BytesAt w (.slice (some ⟨g, 0, none⟩) l.length cap) l := by
    refine ⟨⟨_, _, rfl⟩, fun _ => ⟨g, 0, cap, rfl, own_lt hX rfl, fun j x hx => ?_⟩, fun ao m c e => by simp at e; omega⟩
    rw [bs_get] at hx
    cases hk : l[j]? with
    | none => rw [hk] at hx; cases hx
    | some c =>
      rw [hk] at hx
      simp at hx
      rw [Nat.zero_add, hX.at_ (x := c) (by rw [List.getElem?_append_left (get_lt hk), hk]), hx]
  have HQ := hide (fun n : Nat => eqBytes_any (w.drewN n) _ _ l l (hxl.keepF (keeps_drewN w n)) (hR.keepF (keeps_drewN w n)) (by unfold maxLen; omega))
  have HP : Hid (∀ k, k < 64 → w.cell? ⟨g, l.length + k, none⟩ = some (.int .u8 (150 + (k : Int)))) := by
    intro k hk
    rw [hX.at_ (x := UInt8.ofNat (150 + k)) (by rw [List.getElem?_append_right (by omega), Nat.add_sub_cancel_left, padT_get hk]), pad_num hk]
  have i0 : (l.length : Int) + 64 ≤ (cap : Int) := by omega
  clear hR hX hxl hc hlen
  go_enter Try.func8, Try.ntmps8
  go_wp2_with fail
  go_loopw [6] (fun i wr => ∃ k : Nat, k ≤ 64 ∧ i = .int .i64 k ∧ ∃ n, wr = w.drewN n) (fun i _ => 64 - (intOf i).toNat)
  case atStart => exact ⟨0, by omega, rfl, 0, rfl⟩
  case round =>
    obtain ⟨k, hk, rfl, n, rfl⟩ := hrel
    by_cases hlt : k < 64
    · have c0 := (unhide HP) k hlt
      have i1 : (k : Int) < 64 := by omega
      go_wp2_with fail
      go_roundw
      case rel => exact ⟨k + 1, by omega, by go_num, n, rfl⟩
      case measure => simp [intOf]; omega
    · obtain rfl : k = 64 := by omega
      go_wp2_with fail
      refine ((unhide HQ) n).mono ?_
      rintro e w' ⟨rfl, m, rfl⟩
      go_wp2_with fail
      go_ret
      exact ⟨ret_bool (by simp), n + m, by simp⟩
set_option maxRecDepth 100000 in
set_option maxHeartbeats 1000000 in
/-- A mark into each byte of a list. -/
theorem scribble_v (w : World) (l : Txt) (n g cap B : Nat) (hX : BtAt w B (.slice (some ⟨g, 0, none⟩) l.length cap) l) (hn : n ≤ l.length) (hl : l.length ≤ 2147483648) :
    Calls Try.prog 11 #[.slice (some ⟨g, 0, none⟩) n cap, .int .u8 77] w fun e w' => e = .returned (.tuple #[]) ∧ Keeps (fun q => q = g) w w' := by
  have HX := hide hX
  have HN := hide hn
  clear hX
  go_enter Try.func11, Try.ntmps11
  go_wp2_with fail
  go_loopw [4] (fun i wr => ∃ (k : Nat) (m : Txt), k ≤ n ∧ i = .int .i64 k ∧ m.length = l.length ∧ Hid (BtAt wr B (.slice (some ⟨g, 0, none⟩) l.length cap) m) ∧ Hid (Keeps (fun q => q = g) w wr)) (fun i _ => n - (intOf i).toNat)
  case atStart => exact ⟨0, l, by omega, rfl, rfl, HX, hide (Keeps.refl _ _)⟩
  case round =>
    obtain ⟨k, m, hk, rfl, hm, HM, HK⟩ := hrel
    by_cases hlt : k < n
    · obtain ⟨⟨d, c0⟩, f0⟩ := (unhide HM).open_ (j := k) (by omega)
      have i1 : (k : Int) < (n : Int) := by omega
      have i0 : (0 : Int) ≤ (k : Int) := by omega
      have HM2 : Hid (BtAt (wr.setCell ⟨g, k, none⟩ (.int .u8 77)) B (.slice (some ⟨g, 0, none⟩) l.length cap) (m.set k 77)) := (unhide HM).put 77
      have HK2 : Hid (Keeps (fun q => q = g) w (wr.setCell ⟨g, k, none⟩ (.int .u8 77))) := (unhide HK).trans (keeps_set _ _ _ _)
      go_wp2_with fail
      go_roundw
      case rel => exact ⟨k + 1, _, by omega, by go_num, by rw [List.length_set]; exact hm, HM2, HK2⟩
      case measure => simp [intOf]; omega
    · go_wp2_with fail
      go_end0
      exact ⟨rfl, unhide HK⟩
/-- How many bytes wait. -/
theorem rest_none (w : World) : Calls Try.prog 6 #[.pointer none] w fun e w' => e = .returned (.int .i64 0) ∧ w' = w := by
  go_enter Try.func6, Try.ntmps6
  go_wp2
  go_ret
  exact ⟨rfl, rfl⟩
theorem rest_v (w : World) (sb : Nat) (ao : Option Addr) (n cap : Nat) (bb : Bool) (hs : w.heap[sb]? = some (.cells #[.slice ao n cap, .bool bb] 37 (0, 0))) : Calls Try.prog 6 #[.pointer (some ⟨sb, 0, none⟩)] w fun e w' => e = .returned (.int .i64 n) ∧ w' = w := by
  have p0 := cell_of_blk hs 0
  simp at p0
  clear hs
  go_enter Try.func6, Try.ntmps6
  go_wp2
  go_ret
  exact ⟨rfl, rfl⟩
theorem new_v (w : World) : Calls Try.prog 5 #[] w fun e w' => e = .returned (.pointer (some ⟨w.heap.size, 0, none⟩)) ∧ w' = w.alloc (.cells #[.slice none 0 0, .bool false] 37) := by
  go_enter Try.func5, Try.ntmps5
  go_wp2
  go_ret
  exact ⟨rfl, rfl⟩
end Go.Proofs.Ytlcfdfcnijjkiaa
