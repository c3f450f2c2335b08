import Derived.Test.YtajklagdjokojaaGreatDoorNl
import Derived.Test.YtajklagdjokojaaGreatDoorJh
namespace Go.Proofs.YtajklagdjokojaaGreatDoor
open Go.RowKit Go.Maps

set_option maxRecDepth 100000 in
theorem number_none (a : Option Addr) (cap : Nat) (w : World) : Calls Tryz.prog 77 #[.slice a 0 cap] w fun e w' => e = .returned (.int .u64 0) ∧ w' = w := by
  go_enter Tryz.func77, Tryz.ntmps77
  go_wp2
  go_loopw [3, 8] (fun n i wr => n = .int .u64 0 ∧ i = .int .i64 0 ∧ wr = w) (fun _ _ _ => 0)
  case atStart => exact ⟨rfl, rfl, rfl⟩
  case round =>
    obtain ⟨rfl, rfl, rfl⟩ := hrel
    go_wp2
    go_ret
    exact ⟨rfl, rfl⟩

theorem or_zero64 (a : Int) (h0 : 0 ≤ a) (h1 : a ≤ 255) : bits .or .u64 0 a = a := by
  show IntKind.u64.wrap ((BitVec.ofInt 64 0 ||| BitVec.ofInt 64 a).toNat : Int) = a
  rw [show BitVec.ofInt 64 0 = 0#64 from rfl, BitVec.zero_or, BitVec.toNat_ofInt, IntKind.wrap_u64]
  omega

set_option maxRecDepth 100000 in
theorem number_one (b off cap : Nat) (c : UInt8) (w : World) (hc : w.cell? ⟨b, off, none⟩ = some (.int .u8 (num c))) :
    Calls Tryz.prog 77 #[.slice (some ⟨b, off, none⟩) 1 cap] w fun e w' => e = .returned (.int .u64 (num c)) ∧ w' = w := by
  have hcr := num_range c
  have HO := hide (or_zero64 (num c) hcr.1 hcr.2)
  go_enter Tryz.func77, Tryz.ntmps77
  go_wp2
  go_loopw [3, 8] (fun n i wr => (n = .int .u64 0 ∧ i = .int .i64 0 ∧ wr = w) ∨ (n = .int .u64 (num c) ∧ i = .int .i64 1 ∧ wr = w)) (fun _ i _ => 1 - (intOf i).toNat)
  case atStart => exact Or.inl ⟨rfl, rfl, rfl⟩
  case round =>
    rcases hrel with ⟨rfl, rfl, rfl⟩ | ⟨rfl, rfl, rfl⟩
    · go_wp2
      go_roundw
      case rel => exact Or.inr ⟨congrArg (Value.int .u64) (unhide HO), rfl, trivial⟩
      case measure => simp [intOf]
    · go_wp2
      go_ret
      exact ⟨rfl, rfl⟩

/-- What a taking's three answers tell. -/
def TookM (w' : World) (x : ValA) (y : Value) (ok : Bool) : Option (ValA × Txt) → Prop
  | none => ok = false
  | some p => ok = true ∧ x = p.1 ∧ BytesAt w' y p.2
theorem Took.form {w' : World} {e : Ending} {o : Option (ValA × Txt)} (h : Took w' e o) : ∃ (x : ValA) (y : Value) (ok : Bool), e = .returned (.tuple #[x.v, y, .bool ok]) ∧ TookM w' x y ok o := by
  cases o with
  | none =>
    obtain ⟨x, y, rfl⟩ := h
    exact ⟨x, y, false, rfl, rfl⟩
  | some p =>
    obtain ⟨y, rfl, hb⟩ := h
    exact ⟨p.1, y, true, rfl, rfl, rfl, hb⟩
theorem TookM.took {w' : World} {o : Option (ValA × Txt)} {x : ValA} {y : Value} {ok : Bool} (h : TookM w' x y ok o) : Took w' (.returned (.tuple #[x.v, y, .bool ok])) o := by
  cases o with
  | none =>
    obtain rfl : ok = false := h
    exact ⟨x, y, rfl⟩
  | some p =>
    obtain ⟨rfl, rfl, hb⟩ := h
    exact ⟨y, rfl, hb⟩
theorem TookM.keep {F : Nat → Prop} {w w' : World} {o : Option (ValA × Txt)} {x : ValA} {y : Value} {ok : Bool} (h : TookM w x y ok o) (hk : Keeps F w w') (hF : ∀ k, y.ownBlock = some k → ¬ F k) : TookM w' x y ok o := by
  cases o with
  | none => exact h
  | some p => exact ⟨h.1, h.2.1, RowAt.kept h.2.2 hk hF⟩

theorem bytes_apart {w w' : World} {y : Value} {r : Txt} {B : Nat} {cs : Array Value} {t : TypeId} (h : BytesAt w y r) (hb : w.heap[B]? = some (.cells cs t (0, 0))) (hcs : ∀ (k : Nat) (c : Int), cs[k]? ≠ some (Value.int .u8 c)) (hk : Keeps (fun q => q = B) w w') : BytesAt w' y r := by
  refine ⟨RowAt.form h, fun h0 => ?_, RowAt.room h⟩
  obtain ⟨b, off, cap, e, hlt, hc⟩ := RowAt.cells h h0
  refine ⟨b, off, cap, e, Nat.lt_of_lt_of_le hlt hk.size, fun j x hx => ?_⟩
  have hne : b ≠ B := by
    rintro rfl
    cases r with
    | nil => simp at h0
    | cons c r =>
      have := hc 0 (.int .u8 (num c)) rfl
      rw [cell_of_blk hb] at this
      exact hcs _ _ this
  rw [hk.cell hlt hne]
  exact hc j x hx
theorem taken_end {w w2 : World} {x : ValA} {y : Value} {ok : Bool} {o : Option (ValA × Txt)} (hk : Keeps (fun _ => False) w w2) (hb : w2.heap[w.heap.size]? = some (.cells #[.int .i64 0, .int .i64 0, .string ⟨#[]⟩] 50 (0, 0))) (hm : TookM w2 x y ok o) :
    Keeps (fun _ => False) w (((w2.setCell ⟨w.heap.size, 0, none⟩ (.int .i64 x.kind)).setCell ⟨w.heap.size, 1, none⟩ (.int .i64 x.n)).setCell ⟨w.heap.size, 2, none⟩ (.string ⟨x.s.toArray⟩)) ∧
    TookM (((w2.setCell ⟨w.heap.size, 0, none⟩ (.int .i64 x.kind)).setCell ⟨w.heap.size, 1, none⟩ (.int .i64 x.n)).setCell ⟨w.heap.size, 2, none⟩ (.string ⟨x.s.toArray⟩)) x y ok o ∧
    (((w2.setCell ⟨w.heap.size, 0, none⟩ (.int .i64 x.kind)).setCell ⟨w.heap.size, 1, none⟩ (.int .i64 x.n)).setCell ⟨w.heap.size, 2, none⟩ (.string ⟨x.s.toArray⟩)).cell? ⟨w.heap.size, 0, none⟩ = some (.int .i64 x.kind) ∧
    (((w2.setCell ⟨w.heap.size, 0, none⟩ (.int .i64 x.kind)).setCell ⟨w.heap.size, 1, none⟩ (.int .i64 x.n)).setCell ⟨w.heap.size, 2, none⟩ (.string ⟨x.s.toArray⟩)).cell? ⟨w.heap.size, 1, none⟩ = some (.int .i64 x.n) ∧
    (((w2.setCell ⟨w.heap.size, 0, none⟩ (.int .i64 x.kind)).setCell ⟨w.heap.size, 1, none⟩ (.int .i64 x.n)).setCell ⟨w.heap.size, 2, none⟩ (.string ⟨x.s.toArray⟩)).cell? ⟨w.heap.size, 2, none⟩ = some (.string ⟨x.s.toArray⟩) := by
  have hb3 := heap_setCell_at (o := 2) (heap_setCell_at (o := 1) (heap_setCell_at (o := 0) hb (.int .i64 x.kind)) (.int .i64 x.n)) (.string ⟨x.s.toArray⟩)
  have hs : ∀ (a : World) (o : Nat) (v : Value), Keeps (fun q => q = w.heap.size) w2 a → Keeps (fun q => q = w.heap.size) w2 (a.setCell ⟨w.heap.size, o, none⟩ v) := fun a o v h => h.setCell (fun _ => rfl) v
  have hk3 := hs _ 2 (.string ⟨x.s.toArray⟩) (hs _ 1 (.int .i64 x.n) (hs _ 0 (.int .i64 x.kind) (Keeps.refl _ w2)))
  refine ⟨hk.narrowS hk3 (fun i e => by omega), ?_, ?_, ?_, ?_⟩
  · cases o with
    | none => exact hm
    | some p =>
      refine ⟨hm.1, hm.2.1, bytes_apart hm.2.2 hb (fun k c => ?_) hk3⟩
      match k with
      | 0 => simp
      | 1 => simp
      | 2 => simp
      | k + 3 => simp
  · rw [cell_of_blk hb3]; rfl
  · rw [cell_of_blk hb3]; rfl
  · rw [cell_of_blk hb3]; rfl

set_option maxRecDepth 100000 in
set_option maxHeartbeats 2000000 in
theorem takeValue_v (ty : Int) (w : World) (v : Value) (t : Txt) (h : BytesAt w v t) (ht : t.length ≤ 140737488355328) :
    Calls Tryz.prog 78 #[.int .i64 ty, v] w fun e w' => Keeps (fun _ => False) w w' ∧ Took w' e (takeP ty t) := by
  obtain ⟨ao, cap, rfl⟩ := RowAt.form h
  obtain ⟨HB, hb, hbc⟩ := boxed w #[.int .i64 0, .int .i64 0, .string ⟨#[]⟩] 50
  have HF := hide (h.keepF (unhide HB))
  have HN := hide (heap_alloc_new w (.cells #[.int .i64 0, .int .i64 0, .string ⟨#[]⟩] 50))
  clear h hbc
  by_cases h1 : ty = 1
  · subst h1
    have HE : Hid (takeP 1 t = takeIntP t) := rfl
    have HQ := hide (takeInt_took _ _ t (unhide HF) ht)
    rw [unhide HE]
    go_enter Tryz.func78, Tryz.ntmps78
    go_wp2_with fail
    refine (unhide HQ).mono ?_
    rintro e w2 ⟨hk, hT⟩
    obtain ⟨x, y, ok, rfl, hm⟩ := hT.form
    have hblk : w2.heap[w.heap.size]? = some (.cells #[.int .i64 0, .int .i64 0, .string ⟨#[]⟩] 50 (0, 0)) := (hk.block _ hb id).trans (unhide HN)
    have c0 := cell_of_blk hblk 0
    have c1 := cell_of_blk hblk 1
    have c2 := cell_of_blk hblk 2
    have f0 := frozen_of_blk hblk 0
    have f1 := frozen_of_blk hblk 1
    have f2 := frozen_of_blk hblk 2
    have HEND := hide (taken_end ((unhide HB).trans hk) hblk hm)
    clear hblk hm hk hT HQ
    unfold ValA.v
    go_wp2_with fail
    obtain ⟨hK, hM, e0, e1, e2⟩ := unhide HEND
    generalize ((w2.setCell ⟨w.heap.size, 0, none⟩ (.int .i64 x.kind)).setCell ⟨w.heap.size, 1, none⟩ (.int .i64 x.n)).setCell ⟨w.heap.size, 2, none⟩ (.string ⟨x.s.toArray⟩) = w3 at *
    refine bodyPost_ret (v := .tuple #[x.v, y, .bool ok]) (by simp [results, go_sem, ValA.v, e0, e1, e2]) rfl ?_
    exact ⟨hK, hM.took⟩
  by_cases h2 : ty = 2
  · subst h2
    have HE : Hid (takeP 2 t = takeBoolP t) := rfl
    have HQ := hide (takeBool_v _ _ t (unhide HF) ht)
    rw [unhide HE]
    clear h1
    go_enter Tryz.func78, Tryz.ntmps78
    go_wp2_with fail
    refine (unhide HQ).mono ?_
    rintro e w2 ⟨hk, hT⟩
    obtain ⟨x, y, ok, rfl, hm⟩ := hT.form
    have hblk : w2.heap[w.heap.size]? = some (.cells #[.int .i64 0, .int .i64 0, .string ⟨#[]⟩] 50 (0, 0)) := (hk.block _ hb id).trans (unhide HN)
    have c0 := cell_of_blk hblk 0
    have c1 := cell_of_blk hblk 1
    have c2 := cell_of_blk hblk 2
    have f0 := frozen_of_blk hblk 0
    have f1 := frozen_of_blk hblk 1
    have f2 := frozen_of_blk hblk 2
    have HEND := hide (taken_end ((unhide HB).trans hk) hblk hm)
    clear hblk hm hk hT HQ
    unfold ValA.v
    go_wp2_with fail
    obtain ⟨hK, hM, e0, e1, e2⟩ := unhide HEND
    generalize ((w2.setCell ⟨w.heap.size, 0, none⟩ (.int .i64 x.kind)).setCell ⟨w.heap.size, 1, none⟩ (.int .i64 x.n)).setCell ⟨w.heap.size, 2, none⟩ (.string ⟨x.s.toArray⟩) = w3 at *
    refine bodyPost_ret (v := .tuple #[x.v, y, .bool ok]) (by simp [results, go_sem, ValA.v, e0, e1, e2]) rfl ?_
    exact ⟨hK, hM.took⟩
  · have HE : Hid (takeP ty t = takeBytesP t) := by show _ = _; unfold takeP; rw [if_neg h1, if_neg h2]
    have HQ := hide (takeBytes_v _ _ t (unhide HF) ht)
    rw [unhide HE]
    have h1' : (ty == 1) = false := beq_eq_false_iff_ne.2 h1
    have h2' : (ty == 2) = false := beq_eq_false_iff_ne.2 h2
    clear h1 h2
    go_enter Tryz.func78, Tryz.ntmps78
    go_wp2_with fail
    refine (unhide HQ).mono ?_
    rintro e w2 ⟨hk, hT⟩
    obtain ⟨x, y, ok, rfl, hm⟩ := hT.form
    have hblk : w2.heap[w.heap.size]? = some (.cells #[.int .i64 0, .int .i64 0, .string ⟨#[]⟩] 50 (0, 0)) := (hk.block _ hb id).trans (unhide HN)
    have c0 := cell_of_blk hblk 0
    have c1 := cell_of_blk hblk 1
    have c2 := cell_of_blk hblk 2
    have f0 := frozen_of_blk hblk 0
    have f1 := frozen_of_blk hblk 1
    have f2 := frozen_of_blk hblk 2
    have HEND := hide (taken_end ((unhide HB).trans hk) hblk hm)
    clear hblk hm hk hT HQ
    unfold ValA.v
    go_wp2_with fail
    obtain ⟨hK, hM, e0, e1, e2⟩ := unhide HEND
    generalize ((w2.setCell ⟨w.heap.size, 0, none⟩ (.int .i64 x.kind)).setCell ⟨w.heap.size, 1, none⟩ (.int .i64 x.n)).setCell ⟨w.heap.size, 2, none⟩ (.string ⟨x.s.toArray⟩) = w3 at *
    refine bodyPost_ret (v := .tuple #[x.v, y, .bool ok]) (by simp [results, go_sem, ValA.v, e0, e1, e2]) rfl ?_
    exact ⟨hK, hM.took⟩

end Go.Proofs.YtajklagdjokojaaGreatDoor
namespace Go.Proofs.YtajklagdjokojaaGreatDoor
open Go.RowKit Go.Maps

/-- Reading leniently, field by field. -/
def decLoop : List FieldA → Txt → Nat → Nat → Option (List ValA)
  | [], _, _, _ => some []
  | f :: rest, t, h, a =>
    if f.opt = true ∧ h % 2 ≠ 1 then (decLoop rest t (h / 2) a).map (⟨0, 0, []⟩ :: ·)
    else if (readB f t a).2 < 0 then none
    else (decLoop rest t (if f.opt then h / 2 else h) (readB f t a).2.toNat).map ((readB f t a).1 :: ·)
def head0 (l : List FieldA) (t : Txt) : Nat := if 0 < headB l then (t.getD 0 0).toNat else 0
def decodeB (l : List FieldA) (t : Txt) : List ValA × Int :=
  if schemaB l = false then ([], 60)
  else if t.length < headB l ∨ 64 < t.length then ([], 62)
  else match decLoop l t (head0 l t) (headB l) with
    | none => ([], 62)
    | some r => if errR l r = 0 ∧ encB l r = t then (r, 0) else ([], 62)

theorem readG_len : ∀ (f : Nat) (l : Txt) (u k u' k' : Nat), readG f l u k = some (u', k') → k' ≤ k + l.length ∧ k + 1 ≤ k' ∧ u' < 18446744073709551616
  | 0, _, _, _, _, _, h => by simp [readG] at h
  | _ + 1, [], _, _, _, _, h => by simp [readG] at h
  | f + 1, c :: r, u, k, u', k', h => by
    rw [readG] at h
    split at h
    · simp at h
      obtain ⟨rfl, rfl⟩ := h
      exact ⟨by simp, by omega, Nat.mod_lt _ (by omega)⟩
    · have := readG_len f r _ _ _ _ h
      simp only [List.length_cons]
      omega
theorem backB_range (u : Nat) (h : u < 18446744073709551616) : -9223372036854775808 ≤ backB u ∧ backB u ≤ 9223372036854775807 := by
  unfold backB
  split <;> omega
theorem readB_facts (f : FieldA) (t : Txt) (a : Nat) (ha : a ≤ t.length) : (readB f t a).2 ≤ (t.length : Int) ∧ -9223372036854775808 ≤ (readB f t a).1.n ∧ (readB f t a).1.n ≤ 9223372036854775807 := by
  unfold readB
  split
  · unfold readIntB
    cases h : readG 10 (t.drop a) 0 0 with
    | none => simp
    | some p =>
      obtain ⟨u, k⟩ := p
      have h1 := readG_len _ _ _ _ _ _ h
      rw [List.length_drop] at h1
      have h2 := backB_range u h1.2.2
      simp only
      omega
  · cases h : t[a]? with
    | none => simp
    | some c =>
      have h1 := get_lt h
      have h2 := num_range c
      simp only
      split
      · simp only; omega
      · split
        · simp only; omega
        · simp only; omega
theorem readB_pos (f : FieldA) (t : Txt) (a : Nat) : -1 ≤ (readB f t a).2 := by
  unfold readB
  split
  · unfold readIntB
    cases h : readG 10 (t.drop a) 0 0 with
    | none => simp
    | some p => simp only; omega
  · cases h : t[a]? with
    | none => simp
    | some c =>
      simp only
      split
      · simp only; omega
      · split
        · simp
        · simp only; omega

end Go.Proofs.YtajklagdjokojaaGreatDoor
