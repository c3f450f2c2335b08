import Derived.Test.YtbgapbaeegloaabGreatDoorJa
namespace Go.Proofs.YtbgapbaeegloaabGreatDoor
open Go.RowKit Go.Maps

def decN (u : Nat) : Txt := if _h : u = 0 then [] else decN (u / 10) ++ [UInt8.ofNat (48 + u % 10)]
def decimal (n : Int) : Txt := if n = 0 then [48] else if n < 0 then 45 :: decN n.natAbs else decN n.natAbs

theorem decN_zero : decN 0 = [] := by unfold decN; simp
theorem decN_pos {u : Nat} (h : 0 < u) : decN u = decN (u / 10) ++ [UInt8.ofNat (48 + u % 10)] := by
  rw [decN, dif_neg (by omega)]
theorem decN_length (k : Nat) : ∀ u, u < 10 ^ k → (decN u).length ≤ k := by
  induction k with
  | zero => intro u h; simp at h; subst h; simp [decN_zero]
  | succ k ih =>
    intro u h
    by_cases h0 : u = 0
    · subst h0; simp [decN_zero]
    · rw [decN_pos (by omega)]
      have := ih (u / 10) (by rw [Nat.pow_succ] at h; omega)
      simp; omega
theorem decN_20 (u : Nat) (h : u ≤ 9223372036854775808) : (decN u).length ≤ 19 := decN_length 19 u (by omega)

theorem conv_bytes (w : World) (b cap : Nat) (l : Txt) (h : ∀ j c, l[j]? = some c → w.cell? ⟨b, j, none⟩ = some (.int .u8 (num c))) :
    (convert 51 9 (.slice (some ⟨b, 0, none⟩) l.length cap)).run Tryz.prog w = .ok (str l) w :=
  run_convert_bytes_back w 51 9 5 ⟨b, 0, none⟩ cap l Tryz.underlying51 Tryz.underlying5 Tryz.underlying9 (fun j hj => by
    have := h j l[j] (List.getElem?_eq_getElem hj)
    rw [Addr.add_lit]
    simpa [num] using this)

theorem add_str (w : World) (a b : Txt) (h : a.length + b.length ≤ 9223372036854775807) : (Op.stringOp .add ⟨a.toArray⟩ ⟨b.toArray⟩).run Tryz.prog w = .ok (str (a ++ b)) w := by
  have ha : (ByteArray.mk a.toArray).size = a.length := rfl
  have hb : (ByteArray.mk b.toArray).size = b.length := rfl
  rw [run_string_add_sum w _ _ (by omega), ByteArray.mk_append_mk]

theorem digit_num (u : Nat) : num (UInt8.ofNat (48 + u % 10)) = 48 + (u : Int) % 10 := by
  unfold num
  rw [UInt8.toNat_ofNat']
  have : u % 10 < 10 := Nat.mod_lt _ (by decide)
  omega
theorem decN_digit {u : Nat} (h : 0 < u) : ∃ c, num c = 48 + (u : Int) % 10 ∧ decN u = decN (u / 10) ++ [c] := ⟨_, digit_num u, decN_pos h⟩

/-- The start of a decimal's loop. -/
def startU (n : Int) : Int := if n < 0 then IntKind.u64.wrap (-IntKind.u64.wrap n) else IntKind.u64.wrap n
theorem startU_eq (n : Int) (h0 : -9223372036854775808 ≤ n) (h1 : n ≤ 9223372036854775807) : startU n = (n.natAbs : Int) := by
  unfold startU
  rw [IntKind.wrap_u64, IntKind.wrap_u64]
  split <;> omega

end Go.Proofs.YtbgapbaeegloaabGreatDoor
namespace Go.Proofs.YtbgapbaeegloaabGreatDoor
open Go.RowKit Go.Maps

/-- A list of words with a blank ahead of each and behind it. -/
def wordsT (l : List Txt) : Txt := 32 :: l.flatMap (fun x => x ++ [32])
/-- Does a word stand, between blanks, in the text from a place on? -/
def standsB (t w : Txt) (i : Nat) : Bool := (List.range (t.length + 1 - w.length - i)).any fun k => decide ((t.drop (i + k)).take w.length = w)
def listedB (t x : Txt) : Bool := decide (x ≠ []) && (x.all (fun c => decide (c ≠ 32)) && standsB t (32 :: (x ++ [32])) 0)

theorem stands_step {t w : Txt} {i : Nat} (h : i + w.length ≤ t.length) : standsB t w i = (decide ((t.drop i).take w.length = w) || standsB t w (i + 1)) := by
  unfold standsB
  rw [show t.length + 1 - w.length - i = (t.length + 1 - w.length - (i + 1)) + 1 by omega, List.range_succ_eq_map, List.any_cons, List.any_map]
  congr 2
  funext k
  simp [Nat.add_assoc, Nat.add_comm 1 k]
theorem stands_end {t w : Txt} {i : Nat} (h : t.length < i + w.length) : standsB t w i = false := by
  unfold standsB
  rw [show t.length + 1 - w.length - i = 0 by omega]
  rfl
theorem stands_iff {t w : Txt} : standsB t w 0 = true ↔ ∃ i, i + w.length ≤ t.length ∧ (t.drop i).take w.length = w := by
  unfold standsB
  simp only [List.any_eq_true, List.mem_range, decide_eq_true_eq, Nat.zero_add]
  constructor
  · rintro ⟨k, hk, h⟩; exact ⟨k, by omega, h⟩
  · rintro ⟨k, hk, h⟩; exact ⟨k, by omega, h⟩
theorem tw {x r : Txt} (h : x.all (fun c => decide (c ≠ 32)) = true) : (x ++ 32 :: r).takeWhile (fun c => decide (c ≠ 32)) = x := by
  induction x with
  | nil => rfl
  | cons c x ih =>
    simp only [List.all_cons, Bool.and_eq_true] at h
    simp only [List.cons_append, List.takeWhile_cons, h.1, if_true]
    rw [ih h.2]
/-- What stands behind a blank. -/
def afters (t : Txt) : List Txt := (List.range t.length).filterMap fun i => if t[i]? = some 32 then some ((t.drop (i + 1)).takeWhile (fun c => decide (c ≠ 32))) else none
theorem listed_mem {t x : Txt} (h : listedB t x = true) : x ∈ afters t := by
  unfold listedB at h
  simp only [Bool.and_eq_true, decide_eq_true_eq] at h
  obtain ⟨_, ha, hs⟩ := h
  obtain ⟨i, hi, he⟩ := stands_iff.1 hs
  have hd : t.drop i = (32 :: (x ++ [32])) ++ (t.drop i).drop (32 :: (x ++ [32]) : Txt).length := by
    conv => lhs; rw [← List.take_append_drop (32 :: (x ++ [32]) : Txt).length (t.drop i)]
    rw [he]
  have h1 : t[i]? = some 32 := by
    have := congrArg (fun l => l[0]?) hd
    simpa [List.getElem?_drop] using this
  have h2 : t.drop (i + 1) = x ++ 32 :: (t.drop i).drop (32 :: (x ++ [32]) : Txt).length := by
    rw [show t.drop (i + 1) = (t.drop i).drop 1 by rw [List.drop_drop, Nat.add_comm]]
    conv => lhs; rw [hd]
    simp
  unfold afters
  rw [List.mem_filterMap]
  refine ⟨i, ?_, ?_⟩
  · rw [List.mem_range]; simp at hi; omega
  · rw [if_pos h1, h2, tw ha]
/-- Just the words of the list stand in its text. -/
theorem listed_kws (x : Txt) : listedB (wordsT kws) x = decide (x ∈ kws) := by
  apply Bool.eq_iff_iff.2
  constructor
  · intro h
    have h0 : x ≠ [] := by intro e; subst e; simp [listedB] at h
    have hm := listed_mem h
    have ha : (afters (wordsT kws)).all (fun y => decide (y = []) || decide (y ∈ kws)) = true := by decide +kernel
    have := List.all_eq_true.1 ha x hm
    simpa [h0] using this
  · intro h
    have hx : x ∈ kws := of_decide_eq_true h
    have ha : kws.all (fun y => listedB (wordsT kws) y) = true := by decide +kernel
    exact List.all_eq_true.1 ha x hx

def marks : List Txt := [[61, 61], [33, 61], [60, 61], [62, 61], [43, 61], [63, 63], [61], [60], [62], [43], [45], [42], [40], [41], [123], [125], [44], [59]]
theorem listed_marks (x : Txt) : listedB (wordsT marks) x = decide (x ∈ marks) := by
  apply Bool.eq_iff_iff.2
  constructor
  · intro h
    have h0 : x ≠ [] := by intro e; subst e; simp [listedB] at h
    have hm := listed_mem h
    have ha : (afters (wordsT marks)).all (fun y => decide (y = []) || decide (y ∈ marks)) = true := by decide +kernel
    have := List.all_eq_true.1 ha x hm
    simpa [h0] using this
  · intro h
    have hx : x ∈ marks := of_decide_eq_true h
    have ha : marks.all (fun y => listedB (wordsT marks) y) = true := by decide +kernel
    exact List.all_eq_true.1 ha x hx
theorem str_cat (a b c : Txt) (h : a ++ b = c) : Value.string (ByteArray.mk a.toArray ++ ByteArray.mk b.toArray) = str c := by
  rw [ByteArray.mk_append_mk, ← h]

set_option maxRecDepth 100000 in
set_option maxHeartbeats 1000000 in
theorem listed_v (l x : Txt) (hl : l.length ≤ 4096) (hx : x.length ≤ 140737488355328) (w : World) :
    Calls Tryz.prog 34 #[str l, str x] w fun e w' => e = .returned (.bool (listedB l x)) ∧ w' = w := by
  obtain ⟨D, HD⟩ : ∃ D, Hid (listedB l x = D) := ⟨_, rfl⟩
  rw [unhide HD]
  by_cases h0 : x = []
  · subst h0
    have HE : Hid (D = false) := by show _ = _; rw [← unhide HD]; simp [listedB]
    go_enter Tryz.func34, Tryz.ntmps34
    go_wp2_with fail
    go_ret
    exact ⟨ret_bool (unhide HE).symm, rfl⟩
  have hne : (x == []) = false := by simpa using h0
  go_enter Tryz.func34, Tryz.ntmps34
  go_wp2_with fail
  go_loopw [5] (fun i wr => ∃ j : Nat, j ≤ x.length ∧ i = .int .i64 j ∧ Hid ((x.take j).all (fun c => decide (c ≠ 32)) = true) ∧ wr = w) (fun i _ => x.length - (intOf i).toNat)
  case atStart => exact ⟨0, Nat.zero_le _, rfl, by simp [Hid], rfl⟩
  case round =>
    obtain ⟨j, hj, rfl, HA, rfl⟩ := hrel
    cases hy : x[j]? with
    | some y =>
      have h1 := get_lt hy
      have q := str_at hy
      have e1 : (y.toNat : Int) = num y := rfl
      have HY := hide hy
      clear hy
      by_cases h32 : num y = 32
      · have HE : Hid (D = false) := by
          show _ = _
          rw [← unhide HD]
          unfold listedB
          rw [show x.all (fun c => decide (c ≠ 32)) = false by
            rw [List.all_eq_false]
            exact ⟨y, List.mem_of_getElem? (unhide HY), by simp [num_inj (a := y) (b := 32) h32]⟩]
          simp
        have e32 : (num y == 32) = true := by simpa using h32
        go_wp2_with fail
        go_ret
        exact ⟨ret_bool (unhide HE).symm, rfl⟩
      · have e32 : (num y == 32) = false := by simpa using h32
        have HN : Hid (y ≠ 32) := fun e => h32 (by rw [e]; rfl)
        go_wp2_with fail
        go_roundw
        case rel =>
          refine ⟨j + 1, by omega, by go_num, ?_, trivial⟩
          show _ = true
          rw [take_snoc _ _ _ (unhide HY), List.all_append, unhide HA]
          simpa using unhide HN
        case measure => simp [intOf]; omega
    | none =>
      have h1 := get_ge hy
      obtain rfl : j = x.length := by omega
      clear hy
      rw [List.take_length] at HA
      obtain ⟨W, HW⟩ : ∃ W : Txt, Hid ((32 :: (x ++ [32]) : Txt) = W) := ⟨_, hide rfl⟩
      have hWl : W.length ≤ 140737488355330 := by rw [← unhide HW]; simp; omega
      have hcat1 : Value.string (ByteArray.mk #[32] ++ ByteArray.mk x.toArray) = str (32 :: x) := str_cat [32] x _ rfl
      have hcat2 : Value.string (ByteArray.mk (32 :: x).toArray ++ ByteArray.mk #[32]) = str W := str_cat (32 :: x) [32] _ (by rw [← unhide HW]; rfl)
      have HS : Hid (D = standsB l W 0) := by
        show _ = _
        rw [← unhide HD]
        unfold listedB
        rw [unhide HA, unhide HW, decide_eq_true h0]
        rfl
      clear h1
      go_wp2_with fail
      obtain ⟨w0, hw0⟩ : ∃ w0, w0 = wr := ⟨_, rfl⟩
      subst hw0
      go_loopw [7] (fun i wr => ∃ k : Nat, k ≤ l.length + 1 ∧ i = .int .i64 k ∧ Hid (D = standsB l W k) ∧ wr = w0) (fun i _ => l.length + 1 - (intOf i).toNat)
      case atStart => exact ⟨0, Nat.zero_le _, rfl, unhide HS, rfl⟩
      case round =>
        obtain ⟨k, hk, rfl, HK, rfl⟩ := hrel
        by_cases hkl : k + W.length ≤ l.length
        · have HT := hide (stands_step hkl)
          have hsl : (ByteArray.mk l.toArray).extract k (k + W.length) = ⟨((l.drop k).take W.length).toArray⟩ := by rw [ext_str, Nat.add_sub_cancel_left]
          obtain ⟨Y, HY⟩ : ∃ Y : Txt, Hid ((l.drop k).take W.length = Y) := ⟨_, hide rfl⟩
          rw [unhide HY] at hsl HT
          have hk1 : (k : Int) + (W.length : Int) ≤ (l.length : Int) := by omega
          by_cases hyw : Y = W
          · have HE : Hid (D = true) := by show _ = _; rw [unhide HK, unhide HT, decide_eq_true hyw]; rfl
            have e1 : (Y == W) = true := by simpa using hyw
            clear hyw
            go_wp2_with fail
            go_ret
            exact ⟨ret_bool (unhide HE).symm, rfl⟩
          · have HE : Hid (D = standsB l W (k + 1)) := by show _ = _; rw [unhide HK, unhide HT, decide_eq_false hyw]; rfl
            have e1 : (Y == W) = false := by simpa using hyw
            clear hyw
            go_wp2_with fail
            go_roundw
            case rel => exact ⟨k + 1, by omega, by go_num, unhide HE, trivial⟩
            case measure => simp [intOf]; omega
        · have HE : Hid (D = false) := by show _ = _; rw [unhide HK, stands_end (by omega)]
          have hk1 : (l.length : Int) < (k : Int) + (W.length : Int) := by omega
          go_wp2_with fail
          go_ret
          exact ⟨ret_bool (unhide HE).symm, rfl⟩
set_option maxRecDepth 100000 in
theorem refKeyword_v (x : Txt) (hx : x.length ≤ 140737488355328) (w : World) : Calls Tryz.prog 30 #[str x] w fun e w' => e = .returned (.bool (decide (x ∈ kws))) ∧ w' = w := by
  have HQ := hide (listed_v (wordsT kws) x (by decide +kernel) hx w)
  rw [listed_kws] at HQ
  have e : wordsT kws = [32, 97, 110, 100, 32, 99, 97, 116, 32, 99, 108, 101, 97, 114, 32, 100, 101, 108, 101, 116, 101, 32, 101, 108, 115, 101, 32, 102, 97, 108, 115, 101, 32, 104, 97, 115, 32, 104, 101, 114, 101, 32, 105, 102, 32, 108, 101, 110, 32, 109, 97, 120, 32, 109, 105, 110, 32, 110, 101, 119, 32, 110, 111, 116, 32, 111, 114, 32, 112, 105, 99, 107, 32, 116, 114, 117, 101, 32] := by decide +kernel
  rw [e] at HQ
  clear e
  go_enter Tryz.func30, Tryz.ntmps30
  go_wp2_with fail
  refine (unhide HQ).mono ?_
  rintro e w' ⟨rfl, rfl⟩
  go_wp2_with fail
  go_ret
  exact ⟨rfl, rfl⟩


set_option maxRecDepth 100000 in
set_option maxHeartbeats 1000000 in
theorem isMark_v (x : Txt) (w : World) : Calls Tryz.prog 37 #[str x] w fun e w' => e = .returned (.bool (decide (x ∈ marks))) ∧ w' = w := by
  go_enter Tryz.func37, Tryz.ntmps37
  go_wp2
  all_goals (go_ret; refine ⟨ret_bool ?_, rfl⟩; simp_all [marks])

theorem rdigit_v (c : Int) (w : World) : Calls Tryz.prog 19 #[.int .u8 c] w fun e w' => e = .returned (.bool (digitB c)) ∧ w' = w := by
  go_enter Tryz.func19, Tryz.ntmps19
  go_wp2
  all_goals (go_ret; refine ⟨ret_bool ?_, rfl⟩; apply Bool.eq_iff_iff.2; simp [digitB] at *; try omega)
def letterB (c : Int) : Bool := decide (97 ≤ c) && decide (c ≤ 122) || decide (65 ≤ c) && decide (c ≤ 90) || decide (c = 95)
theorem rletter_v (c : Int) (w : World) : Calls Tryz.prog 16 #[.int .u8 c] w fun e w' => e = .returned (.bool (letterB c)) ∧ w' = w := by
  go_enter Tryz.func16, Tryz.ntmps16
  go_wp2
  all_goals (go_ret; refine ⟨ret_bool ?_, rfl⟩; unfold letterB; apply Bool.eq_iff_iff.2; simp at *; try omega)
theorem part_split (c : Int) : partB c = (letterB c || digitB c) := by
  unfold partB letterB digitB
  apply Bool.eq_iff_iff.2
  simp
  omega
end Go.Proofs.YtbgapbaeegloaabGreatDoor
namespace Go.Proofs.YtbgapbaeegloaabGreatDoor
open Go.RowKit Go.Maps

theorem Tryz.info5 : (Tryz.prog.info? 5).map (fun i => (i.zero, i.size, i.bytes)) = some (some (.int .u8 0), 1, 1) := by kernel_rfl

theorem BytesAt.cells {w : World} {v : Value} {l : Txt} (h : BytesAt w v l) (h0 : 0 < l.length) :
    ∃ b off cap, v = .slice (some ⟨b, off, none⟩) l.length cap ∧ b < w.heap.size ∧ ∀ i c, l[i]? = some c → w.cell? ⟨b, off + i, none⟩ = some (.int .u8 (num c)) := by
  obtain ⟨b, off, cap, e, hb, hc⟩ := RowAt.cells h h0
  exact ⟨b, off, cap, e, hb, fun i c hi => hc i _ (by rw [bs_get, hi]; rfl)⟩

end Go.Proofs.YtbgapbaeegloaabGreatDoor
namespace Go.Proofs.YtbgapbaeegloaabGreatDoor
open Go.RowKit Go.Maps

theorem take_succ_eq {α : Type} {a b : List α} {k : Nat} (h : a.take k = b.take k) {x : α} (ha : a[k]? = some x) (hb : b[k]? = some x) : a.take (k + 1) = b.take (k + 1) := by
  rw [take_snoc _ _ _ ha, take_snoc _ _ _ hb, h]
theorem take_end {α : Type} {a b : List α} (hl : a.length = b.length) {k : Nat} (hk : a.length ≤ k) (h : a.take k = b.take k) : a = b := by
  rwa [List.take_of_length_le hk, List.take_of_length_le (by omega)] at h
theorem get_ne {α : Type} {a b : List α} {k : Nat} {x y : α} (ha : a[k]? = some x) (hb : b[k]? = some y) (h : x ≠ y) : a ≠ b := by
  intro e
  rw [e, hb] at ha
  exact h (by simpa using ha.symm)

end Go.Proofs.YtbgapbaeegloaabGreatDoor
namespace Go.Proofs.YtbgapbaeegloaabGreatDoor
open Go.RowKit Go.Maps

end Go.Proofs.YtbgapbaeegloaabGreatDoor
namespace Go.Proofs.YtbgapbaeegloaabGreatDoor
open Go.RowKit Go.Maps

theorem ownsRow_kept {w w' : World} {B e size n : Nat} {v : Value} {xs : List Value} (h : w.ownsRow B e size v n xs) {F : Nat → Prop} (hk : Keeps F w w') (hF : ∀ k, v.ownBlock = some k → ¬ F k) : w'.ownsRow B e size v n xs := by
  obtain ⟨h1, h2⟩ := h
  refine ⟨h1, ?_⟩
  rcases h2 with h2 | ⟨g, cap, cur, hv, hb, hg, rest⟩
  · exact Or.inl h2
  · exact Or.inr ⟨g, cap, cur, hv, hb, by rw [hk.block g (lt_of_block hg) (hF g (by rw [hv]; rfl))]; exact hg, rest⟩
theorem ownsRow_ne {w : World} {B e size n : Nat} {v : Value} {xs : List Value} (h : w.ownsRow B e size v n xs) {k : Nat} {c : Array Value} {t : TypeId} {fr : Nat × Nat} (hb : w.heap[k]? = some (.cells c t fr)) (ht : t ≠ e) : v.ownBlock ≠ some k := by
  rcases h.2 with ⟨hv, _⟩ | ⟨g, cap, cur, hv, _, hg, _⟩
  · rw [hv]; simp [Value.ownBlock]
  · rw [hv]
    simp only [Value.ownBlock, ne_eq, Option.some.injEq]
    rintro rfl
    rw [hb] at hg
    simp at hg
    exact ht hg.2.1
theorem ownsRow_lower {w : World} {B C e size n : Nat} {v : Value} {xs : List Value} (h : w.ownsRow B e size v n xs) (hC : C ≤ B) : w.ownsRow C e size v n xs := by
  obtain ⟨h1, h2⟩ := h
  refine ⟨h1, ?_⟩
  rcases h2 with h2 | ⟨g, cap, cur, hv, hb, rest⟩
  · exact Or.inl h2
  · exact Or.inr ⟨g, cap, cur, hv, Nat.le_trans hC hb, rest⟩
theorem Keeps.narrow {F : Nat → Prop} {a b c : World} (h : Keeps (fun _ => False) a b) (k : Keeps F b c) (hF : ∀ i, F i → a.heap.size ≤ i) : Keeps (fun _ => False) a c :=
  ⟨k.os.trans h.os, k.tape.trans h.tape, k.output.trans h.output, Nat.le_trans h.size k.size, fun i hi _ => (k.block i (Nat.lt_of_lt_of_le hi h.size) (fun f => by have := hF i f; omega)).trans (h.block i hi id)⟩

theorem keeps_set (w : World) (b o : Nat) (u : Value) : Keeps (fun q => q = b) w (w.setCell ⟨b, o, none⟩ u) :=
  (Keeps.refl (fun q => q = b) w).setCell (p := ⟨b, o, none⟩) (fun _ => rfl) u

end Go.Proofs.YtbgapbaeegloaabGreatDoor
namespace Go.Proofs.YtbgapbaeegloaabGreatDoor
open Go.RowKit Go.Maps

/-- The groups of a number. -/
def groups (u : Nat) : Txt := if _h : u < 128 then [UInt8.ofNat u] else UInt8.ofNat (u % 128 + 128) :: groups (u / 128)
theorem groups_small {u : Nat} (h : u < 128) : groups u = [UInt8.ofNat u] := by rw [groups, dif_pos h]
theorem groups_big {u : Nat} (h : 128 ≤ u) : groups u = UInt8.ofNat (u % 128 + 128) :: groups (u / 128) := by rw [groups, dif_neg (by omega)]
theorem groups_length (k : Nat) : ∀ u, u < 128 ^ (k + 1) → (groups u).length ≤ k + 1 := by
  induction k with
  | zero => intro u h; rw [groups_small (by simpa using h)]; simp
  | succ k ih =>
    intro u h
    by_cases h0 : u < 128
    · rw [groups_small h0]; simp
    · rw [groups_big (by omega)]
      have := ih (u / 128) (by rw [Nat.pow_succ] at h; omega)
      simp; omega
theorem groups_10 (u : Nat) (h : u ≤ 18446744073709551615) : (groups u).length ≤ 10 := groups_length 9 u (by omega)
theorem num_of (u : Nat) (h : u < 256) : num (UInt8.ofNat u) = u := by unfold num; rw [UInt8.toNat_ofNat']; omega

/-- A slice that is appended to: its own block is the old one, or a new one. -/
theorem own_step {S' : Nat} {v o o' : Value} {S g : Nat} {n c : Nat} (h : o.ownBlock = v.ownBlock ∨ ∀ q, o.ownBlock = some q → S ≤ q) (hat : o.ownBlock = some g ∨ g = S') (hS : S ≤ S') (e : o' = .slice (some ⟨g, 0, none⟩) n c) : o'.ownBlock = v.ownBlock ∨ ∀ q, o'.ownBlock = some q → S ≤ q := by
  subst e
  have e1 : (Value.slice (some ⟨g, 0, none⟩) n c).ownBlock = some g := rfl
  rw [e1]
  rcases hat with hat | rfl
  · rcases h with h | h
    · left; rw [← h, hat]
    · right; intro q hq; simp at hq; subst hq; exact h _ hat
  · right; intro q hq; simp at hq; omega

def tn (n : Int) : Nat := (turned n).toNat
theorem tn_eq (n : Int) : turned n = (tn n : Int) := by unfold tn turned; split <;> omega
theorem tn_le (n : Int) (h0 : -9223372036854775808 ≤ n) (h1 : n ≤ 9223372036854775807) : tn n ≤ 18446744073709551615 := by unfold tn turned; split <;> omega

/-- The int at a place of some bytes, and the place behind it (-1: none). -/
def readG : Nat → Txt → Nat → Nat → Option (Nat × Nat)
  | 0, _, _, _ => none
  | _ + 1, [], _, _ => none
  | f + 1, c :: r, u, k =>
    if c.toNat < 128 then some ((u + 128 ^ k * (c.toNat % 128)) % 18446744073709551616, k + 1)
    else readG f r ((u + 128 ^ k * (c.toNat % 128)) % 18446744073709551616) (k + 1)
def readIntB (t : Txt) (a : Nat) : Int × Int := match readG 10 (t.drop a) 0 0 with
  | none => (0, -1)
  | some (u, k) => (backB u, (a + k : Nat))
theorem pow128 (k : Nat) (h : k ≤ 9) : 128 ^ k ≤ 9223372036854775808 := by
  have : 128 ^ k ≤ 128 ^ 9 := Nat.pow_le_pow_right (by omega) h
  omega
theorem wrapU_add (U X : Int) : IntKind.u64.wrap (U + IntKind.u64.wrap X) = (U + X) % 18446744073709551616 := by
  rw [IntKind.wrap_u64, IntKind.wrap_u64]; omega

theorem ret_ii {k j : IntKind} {a b c d : Int} (h : a = b) (h2 : c = d) : Ending.returned (.tuple #[.int k a, .int j c]) = .returned (.tuple #[.int k b, .int j d]) := by rw [h, h2]

end Go.Proofs.YtbgapbaeegloaabGreatDoor
namespace Go.Proofs.YtbgapbaeegloaabGreatDoor
open Go.RowKit Go.Maps

/-- The value of a field at a place of some bytes, and the place behind it (-1: the bytes end too early). -/
def readB (f : FieldA) (t : Txt) (a : Nat) : ValA × Int :=
  if f.type = 1 then (⟨1, (readIntB t a).1, []⟩, (readIntB t a).2)
  else match t[a]? with
    | none => (⟨0, 0, []⟩, -1)
    | some c =>
      if f.type = 2 then (⟨2, num c, []⟩, (a + 1 : Nat))
      else if t.length < a + 1 + c.toNat then (⟨0, 0, []⟩, -1)
      else (⟨3, 0, (t.drop (a + 1)).take c.toNat⟩, (a + 1 + c.toNat : Nat))

theorem conv_at (w : World) (b off cap : Nat) (l : Txt) (h : ∀ j c, l[j]? = some c → w.cell? ⟨b, off + j, none⟩ = some (.int .u8 (num c))) :
    (convert 51 9 (.slice (some ⟨b, off, none⟩) l.length cap)).run Tryz.prog w = .ok (str l) w :=
  run_convert_bytes_back w 51 9 5 ⟨b, off, none⟩ cap l Tryz.underlying51 Tryz.underlying5 Tryz.underlying9 (fun j hj => by
    have := h j l[j] (List.getElem?_eq_getElem hj)
    rw [Addr.add_lit]
    simpa [num] using this)

end Go.Proofs.YtbgapbaeegloaabGreatDoor
namespace Go.Proofs.YtbgapbaeegloaabGreatDoor
open Go.RowKit Go.Maps

def hexD (n : Nat) : UInt8 := if n < 10 then UInt8.ofNat (48 + n) else UInt8.ofNat (87 + n)
/-- A byte as it stands in a literal. -/
def quote1 (c : UInt8) : Txt := if c = 34 ∨ c = 92 then [92, c] else if 32 ≤ c.toNat ∧ c.toNat ≤ 126 then [c] else [92, 120, hexD (c.toNat / 16), hexD (c.toNat % 16)]
def quoteB (t : Txt) : Txt := 34 :: (t.flatMap quote1 ++ [34])
theorem quote1_le (c : UInt8) : (quote1 c).length ≤ 4 := by unfold quote1; repeat' split
                                                            all_goals simp
def digs : Txt := [48, 49, 50, 51, 52, 53, 54, 55, 56, 57, 97, 98, 99, 100, 101, 102]
theorem digs_at : ∀ n, n < 16 → digs[n]? = some (hexD n) := by decide +kernel
def quoteTo (t : Txt) (k : Nat) : Txt := 34 :: (t.take k).flatMap quote1
theorem quoteTo_snoc {t : Txt} {k : Nat} {c : UInt8} (h : t[k]? = some c) : quoteTo t (k + 1) = quoteTo t k ++ quote1 c := by
  unfold quoteTo
  rw [take_snoc _ _ _ h, List.flatMap_append]
  simp
theorem flat_le4 : ∀ l : Txt, (l.flatMap quote1).length ≤ 4 * l.length
  | [] => by simp
  | c :: r => by
    have h1 := flat_le4 r
    have h2 := quote1_le c
    simp only [List.flatMap_cons, List.length_append, List.length_cons]
    omega
theorem quoteTo_le (t : Txt) : ∀ k, (quoteTo t k).length ≤ 1 + 4 * k := by
  intro k
  unfold quoteTo
  have h := flat_le4 (t.take k)
  rw [List.length_take] at h
  simp only [List.length_cons]
  have : 4 * min k t.length ≤ 4 * k := Nat.mul_le_mul_left _ (Nat.min_le_left _ _)
  omega

/-- One byte more behind a slice that was begun behind W0. -/
theorem wp_app1 {ops : Array Oper} {rest : List Oper} {o : Oper} {a : Act} {Q : Exit → Act → World → Prop} (hgd : o.guard = none) (s x : Operand)
    (ho : o.op = .call { callee := .builtin .append, args := #[s, x], argTypes := #[51, 51] }) {W0 wr : World} {v : Value} {n : Nat} {xs : List Value} {y : Int} (hs : a.eval s = v) (hx : a.eval x = .slice (some ⟨wr.heap.size, 0, none⟩) 1 1)
    (hown : wr.ownsRow W0.heap.size 5 1 v n xs) (hk : Keeps (fun _ => False) W0 wr) (hn : n ≤ 17592186044416)
    (h : ∀ g c w', w'.ownsRow W0.heap.size 5 1 (.slice (some ⟨g, 0, none⟩) (n + 1) c) (n + 1) (xs ++ [.int .u8 y]) → Keeps (fun _ => False) W0 w' → wpList Tryz.prog ops Q rest (a.put o.dst (.slice (some ⟨g, 0, none⟩) (n + 1) c)) w') :
    wpList Tryz.prog ops Q (o :: rest) a (wr.alloc (.cells #[.int .u8 y] 5)) := by
  obtain ⟨i0, hi, hz0, hz1, hz2⟩ := info_parts Tryz.info5
  refine wpList_append_lies _ hgd s x 51 ho W0.heap.size 5 i0 _ 1 1 Tryz.underlying51 hi hz0 hz1 hz2 rfl (by omega) v n xs hs (hown.alloc _) ⟨wr.heap.size, 0, none⟩ 1 1 [.int .u8 y] hx rfl (World.news_of_block (cs := #[.int .u8 y]) (t := 5) (fr := (0, 0)) (heap_alloc_new wr _)) (by simp [Value.oneCell']) (by omega) (by unfold maxLen; omega) (by omega) (by have := hk.size; simp; omega) (wr.heap.size + 1) (by simp) ?_
  intro g c w' h1 h2 h3 h4
  exact h g c w' h1 ((hk.alloc _).grown h2 (fun q e hq => by have := (hown.lt q e).1; omega))

theorem quote1_num (c : UInt8) (n1 n2 : Nat) (h1 : n1 = c.toNat / 16) (h2 : n2 = c.toNat % 16) : quote1 c = if num c = 34 ∨ num c = 92 then [92, c] else if 32 ≤ num c ∧ num c ≤ 126 then [c] else [92, 120, hexD n1, hexD n2] := by
  subst h1 h2
  unfold quote1
  have e34 : (c = 34) ↔ num c = 34 := ⟨fun e => by rw [e]; rfl, fun e => num_inj (a := c) (b := 34) e⟩
  have e92 : (c = 92) ↔ num c = 92 := ⟨fun e => by rw [e]; rfl, fun e => num_inj (a := c) (b := 92) e⟩
  have e3 : (32 ≤ c.toNat ∧ c.toNat ≤ 126) ↔ (32 ≤ num c ∧ num c ≤ 126) := by unfold num; omega
  simp only [e34, e92, e3]
theorem own_str {w5 : World} {B g n c : Nat} {A : Txt} {d : UInt8} {y : Int} (h : w5.ownsRow B 5 1 (.slice (some ⟨g, 0, none⟩) n c) n (bs A ++ [.int .u8 y])) (hd : num d = y) : ∀ j x, (A ++ [d])[j]? = some x → w5.cell? ⟨g, j, none⟩ = some (.int .u8 (num x)) := by
  intro j x hj
  have h1 := h.cells (g := g) rfl j (.int .u8 (num x)) (by
    rw [show bs A ++ [.int .u8 y] = bs (A ++ [d]) by simp [bs, hd], bs_get, hj]; rfl)
  rwa [Addr.add_lit, Nat.zero_add] at h1

theorem conv_own {w5 : World} {B g c : Nat} {A : Txt} {d : UInt8} {y : Int} (h : w5.ownsRow B 5 1 (.slice (some ⟨g, 0, none⟩) (A.length + 1) c) (A.length + 1) (bs A ++ [.int .u8 y])) (hd : num d = y) : (convert 51 9 (.slice (some ⟨g, 0, none⟩) (A.length + 1) c)).run Tryz.prog w5 = .ok (str (A ++ [d])) w5 := by
  have hcv := conv_bytes w5 g c (A ++ [d]) (own_str h hd)
  rwa [show (A ++ [d]).length = A.length + 1 by simp] at hcv
theorem q_fin {t A E : Txt} {k g1 c1 n : Nat} {c : UInt8} {w w5 : World} {xs : List Value} (hA : A = quoteTo t k) (hS : quoteTo t (k + 1) = quoteTo t k ++ quote1 c) (hE : quote1 c = E) (hO : w5.ownsRow w.heap.size 5 1 (.slice (some ⟨g1, 0, none⟩) n c1) n xs) (hn : n = A.length + E.length) (hxs : xs = bs A ++ bs E) :
    ∃ A' : Txt, A' = quoteTo t (k + 1) ∧ n = A'.length ∧ w5.ownsRow w.heap.size 5 1 (.slice (some ⟨g1, 0, none⟩) A'.length c1) A'.length (bs A') := by
  have hl : n = (A ++ E).length := by rw [hn, List.length_append]
  refine ⟨A ++ E, by rw [hS, hE, hA], hl, ?_⟩
  rw [← hl, show bs (A ++ E) = xs by rw [hxs]; simp [bs]]
  exact hO

end Go.Proofs.YtbgapbaeegloaabGreatDoor
