import Derived.Test.YtafniangljmjeaaDoorJo
namespace Go.Proofs.YtafniangljmjeaaDoor
open Go.RowKit Go.Maps

def TookC (w' : World) (x : ValA) (y : Value) (ok : Bool) (bk : Nat) : Option (ValA × Txt) → Prop
  | none => ok = false
  | some (i, r) => ok = true ∧ x = i ∧ BytesAt w' y r ∧ y.ownBlock = some bk
theorem keeps_set3 (w4 : World) (b : Nat) (x y z : Value) : Keeps (fun q => q = b) w4 (((w4.setCell ⟨b, 0, none⟩ x).setCell ⟨b, 1, none⟩ y).setCell ⟨b, 2, none⟩ z) :=
  Keeps.setCell (F := fun q => q = b) (p := ⟨b, 2, none⟩) (Keeps.setCell (F := fun q => q = b) (p := ⟨b, 1, none⟩) (Keeps.setCell (F := fun q => q = b) (p := ⟨b, 0, none⟩) (Keeps.refl (fun q => q = b) w4) (fun _ => rfl) x) (fun _ => rfl) y) (fun _ => rfl) z
theorem keeps_set1 (w4 : World) (b o : Nat) (x : Value) : Keeps (fun q => q = b) w4 (w4.setCell ⟨b, o, none⟩ x) :=
  Keeps.setCell (F := fun q => q = b) (p := ⟨b, o, none⟩) (Keeps.refl (fun q => q = b) w4) (fun _ => rfl) x
theorem set3 {w4 : World} {b : Nat} {c0 c1 c2 : Value} {t : TypeId} (h : w4.heap[b]? = some (.cells #[c0, c1, c2] t (0, 0))) (x y z : Value) :
    (((w4.setCell ⟨b, 0, none⟩ x).setCell ⟨b, 1, none⟩ y).setCell ⟨b, 2, none⟩ z).cell? ⟨b, 0, none⟩ = some x ∧ (((w4.setCell ⟨b, 0, none⟩ x).setCell ⟨b, 1, none⟩ y).setCell ⟨b, 2, none⟩ z).cell? ⟨b, 1, none⟩ = some y ∧ (((w4.setCell ⟨b, 0, none⟩ x).setCell ⟨b, 1, none⟩ y).setCell ⟨b, 2, none⟩ z).cell? ⟨b, 2, none⟩ = some z := by
  have hb := heap_setCell_at (o := 2) (heap_setCell_at (o := 1) (heap_setCell_at (o := 0) h x) y) z
  refine ⟨?_, ?_, ?_⟩
  · rw [cell_of_blk hb]; rfl
  · rw [cell_of_blk hb]; rfl
  · rw [cell_of_blk hb]; rfl
/-- A block that is new to w may be written. -/
theorem Keeps.fresh {w w4 w5 : World} {b : Nat} (h : Keeps (fun _ => False) w w4) (hb : w.heap.size ≤ b) (k : Keeps (fun q => q = b) w4 w5) : Keeps (fun _ => False) w w5 :=
  h.then k (fun i hi e => by omega)

set_option maxRecDepth 100000 in
set_option maxHeartbeats 4000000 in
theorem take_bad (w : World) (b off cap : Nat) (c : UInt8) (r : Txt) (m : Nat) (hm : num c = m) (hO : Ops w) (hT : Types w) (h : BytesAt w (.slice (some ⟨b, off, none⟩) (c :: r).length cap) (c :: r)) (ht : (c :: r).length ≤ 4096) (ho : opdB (m : Int) = -1) :
    Calls Tryd.prog 30 #[.slice (some ⟨b, off, none⟩) (c :: r).length cap] w fun e w' => Keeps (fun _ => False) w w' ∧ ∃ x y ok, e = .returned (.tuple #[ValA.v x, y, .bool ok]) ∧ TookC w' x y ok b none := by
  obtain ⟨b', off', cc, e1, hblt, hc⟩ := RowAt.cells h (by simp)
  simp only [Value.slice.injEq, Option.some.injEq, Addr.mk.injEq] at e1
  obtain ⟨⟨rfl, rfl, _⟩, _, rfl⟩ := e1
  have c0 := (((Keeps.refl (fun _ => False) w).alloc (.cells #[.int .i64 0, .int .i64 0, .string ⟨#[]⟩] 52)).cell hblt id).trans (hc 0 (.int .u8 (num c)) rfl)
  rw [Nat.add_zero, hm] at c0
  have hcr := num_range c
  have hroom := RowAt.room h _ _ _ rfl
  have HRB := hide (rest_bytes h (k := 1) (by simp))
  have hlen : ((c :: r).length : Int) = (r.length : Int) + 1 := by simp
  have i1 : (1 : Int) ≤ (cap : Int) := by simp at hroom; omega
  have m255 : (m : Int) ≤ 255 := by omega
  have m0 : (0 : Int) ≤ (m : Int) := by omega
  generalize hL : (c :: r).length = L at *
  have HLL := hide hL
  have i2 : (L : Int) ≤ (cap : Int) := by omega
  have i3 : (1 : Int) ≤ (L : Int) := by omega
  have HRL : Hid (L - 1 = r.length) := by show _ = _; omega
  clear h hc hlen hroom hL
  obtain ⟨HX, hxb, hxc⟩ := boxed w #[.int .i64 (m : Int), .int .i64 0, .string ⟨#[]⟩] 52
  have HO := hide (hO.keepF (unhide HX))
  have HT := hide (hT.keepF (unhide HX))
  have HQ := hide (isOperation_v (m : Int) (w.alloc (.cells #[.int .i64 (m : Int), .int .i64 0, .string ⟨#[]⟩] 52)))
  have f0 := hxc 0 (.int .i64 (m : Int)) rfl
  have f1 := hxc 1 (.int .i64 0) rfl
  have f2 := hxc 2 (.string ⟨#[]⟩) rfl
  have hHB := heap_alloc_new w (.cells #[.int .i64 (m : Int), .int .i64 0, .string ⟨#[]⟩] 52)
  have HHB := hide hHB
  clear hxc hO hT hHB
  rw [decide_eq_false (by simpa using ho)] at HQ
  clear ho
  go_enter Tryd.func30, Tryd.ntmps30
  go_wp2_with fail
  refine (unhide HQ).mono ?_
  rintro e w2 ⟨rfl, rfl⟩
  go_wp2_with fail
  refine bodyPost_ret (v := .tuple #[ValA.v ⟨0, 0, []⟩, .slice none 0 0, .bool false]) (by simp [results, go_sem, ValA.v]) rfl ?_
  exact ⟨(Keeps.refl _ _).alloc _, ⟨0, 0, []⟩, _, _, rfl, rfl⟩

set_option maxRecDepth 100000 in
set_option maxHeartbeats 4000000 in
theorem take_plain (w : World) (b off cap : Nat) (c : UInt8) (r : Txt) (m : Nat) (hm : num c = m) (hO : Ops w) (hT : Types w) (h : BytesAt w (.slice (some ⟨b, off, none⟩) (c :: r).length cap) (c :: r)) (ht : (c :: r).length ≤ 4096) (ho : opdB (m : Int) ≠ -1) (hopd : (opA (m : Int)).opd = 0) (ho2 : opdB (m : Int) = 0) :
    Calls Tryd.prog 30 #[.slice (some ⟨b, off, none⟩) (c :: r).length cap] w fun e w' => Keeps (fun _ => False) w w' ∧ ∃ x y ok, e = .returned (.tuple #[ValA.v x, y, .bool ok]) ∧ TookC w' x y ok b (some (⟨m, 0, []⟩, r)) := by
  obtain ⟨b', off', cc, e1, hblt, hc⟩ := RowAt.cells h (by simp)
  simp only [Value.slice.injEq, Option.some.injEq, Addr.mk.injEq] at e1
  obtain ⟨⟨rfl, rfl, _⟩, _, rfl⟩ := e1
  have c0 := (((Keeps.refl (fun _ => False) w).alloc (.cells #[.int .i64 0, .int .i64 0, .string ⟨#[]⟩] 52)).cell hblt id).trans (hc 0 (.int .u8 (num c)) rfl)
  rw [Nat.add_zero, hm] at c0
  have hcr := num_range c
  have hroom := RowAt.room h _ _ _ rfl
  have HRB := hide (rest_bytes h (k := 1) (by simp))
  have hlen : ((c :: r).length : Int) = (r.length : Int) + 1 := by simp
  have i1 : (1 : Int) ≤ (cap : Int) := by simp at hroom; omega
  have m255 : (m : Int) ≤ 255 := by omega
  have m0 : (0 : Int) ≤ (m : Int) := by omega
  generalize hL : (c :: r).length = L at *
  have HLL := hide hL
  have i2 : (L : Int) ≤ (cap : Int) := by omega
  have i3 : (1 : Int) ≤ (L : Int) := by omega
  have HRL : Hid (L - 1 = r.length) := by show _ = _; omega
  clear h hc hlen hroom hL
  obtain ⟨HX, hxb, hxc⟩ := boxed w #[.int .i64 (m : Int), .int .i64 0, .string ⟨#[]⟩] 52
  have HO := hide (hO.keepF (unhide HX))
  have HT := hide (hT.keepF (unhide HX))
  have HQ := hide (isOperation_v (m : Int) (w.alloc (.cells #[.int .i64 (m : Int), .int .i64 0, .string ⟨#[]⟩] 52)))
  have f0 := hxc 0 (.int .i64 (m : Int)) rfl
  have f1 := hxc 1 (.int .i64 0) rfl
  have f2 := hxc 2 (.string ⟨#[]⟩) rfl
  have hHB := heap_alloc_new w (.cells #[.int .i64 (m : Int), .int .i64 0, .string ⟨#[]⟩] 52)
  have HHB := hide hHB
  clear hxc hO hT hHB
  have g1 := ((unhide HO).at (m := m) (by have := opdB_range ho; omega)).1
  have m27 : (m : Int) < 27 := by have := opdB_range ho; omega
  rw [decide_eq_true ho] at HQ
  have HR : Hid (∀ (n : Int) (s : Txt) (w4 : World), Ops w4 → Calls Tryd.prog 39 #[.agg #[.int .i64 (m : Int), .int .i64 n, str s]] w4 _) := fun n s w4 h4 => rightOperand_v ⟨m, n, s⟩ w4 h4 ho
  rw [hopd] at g1
  have HRT : Hid (rightB ⟨m, 0, []⟩ = true) := by show _ = _; simp [rightB, ho2]
  clear ho hopd ho2
  go_enter Tryd.func30, Tryd.ntmps30
  go_wp2_with fail
  refine (unhide HQ).mono ?_
  rintro e w2 ⟨rfl, rfl⟩
  generalize w.alloc (.cells #[.int .i64 (m : Int), .int .i64 0, .string ⟨#[]⟩] 52) = w2 at f0 f1 f2 g1 HO HT HX HHB hxb ⊢
  have HRW : Hid (∀ w4, Ops w4 → Calls Tryd.prog 39 #[.agg #[.int .i64 (m : Int), .int .i64 0, .string ⟨#[]⟩]] w4 fun e w' => e = .returned (.bool true) ∧ Keeps (fun _ => False) w4 w') := fun w4 h4 => by have h := (unhide HR) 0 [] w4 h4; rw [unhide HRT] at h; exact h
  clear HR HQ
  by_cases hcap : cap = 1
  case' pos =>
    subst hcap
    rw [if_pos rfl] at HRB
  case' neg =>
    rw [if_neg hcap] at HRB
  all_goals
    go_wp2_with fail
    go_region_held3 (fun w' => w'.cell? ⟨w.heap.size, 0, none⟩ = some (.int .i64 (m : Int)) ∧ w'.cell? ⟨w.heap.size, 1, none⟩ = some (.int .i64 0) ∧ w'.cell? ⟨w.heap.size, 2, none⟩ = some (.string ⟨#[]⟩))
      (first | with_reducible exact s50 | with_reducible exact s51 | with_reducible exact s52 | (go_keep; done) | assumption)
      (first
        | (go_at_call 39; refine ((unhide HRW) _ ((unhide HO).keepF (Keeps.refl _ w2).drew)).mono ?_; rintro e w4 ⟨rfl, hk4⟩; have q0 := (hk4.cell (o := 0) hxb id).trans f0; have q1 := (hk4.cell (o := 1) hxb id).trans f1; have q2 := (hk4.cell (o := 2) hxb id).trans f2; have hB4 := (hk4.block w.heap.size hxb id).trans (unhide HHB); have z0 := frozen_of_blk hB4 0; have z1 := frozen_of_blk hB4 1; have z2 := frozen_of_blk hB4 2; obtain ⟨s50, s51, s52⟩ := set3 hB4 (.int .i64 (m : Int)) (.int .i64 0) (.string ⟨#[]⟩); have HB4 := hide hB4; clear hB4))
    have HK5 := hide (((unhide HX).drew.trans hk4).fresh (Nat.le_refl _) (keeps_set3 w4 w.heap.size (.int .i64 (m : Int)) (.int .i64 0) (.string ⟨#[]⟩)))
    generalize (((w4.setCell ⟨w.heap.size, 0, none⟩ (.int .i64 (m : Int))).setCell ⟨w.heap.size, 1, none⟩ (.int .i64 0)).setCell ⟨w.heap.size, 2, none⟩ (.string ⟨#[]⟩)) = w5 at s50 s51 s52 HK5 ⊢
    clear hk4 q0 q1 q2 z0 z1 z2 f0 f1 f2 g1
    go_wp2_with fail
    refine bodyPost_ret (v := .tuple #[ValA.v ⟨m, 0, []⟩, _, .bool true]) (by simp [results, go_sem, ValA.v, s50, s51, s52]; rfl) rfl ?_
    exact ⟨unhide HK5, ⟨m, 0, []⟩, _, _, rfl, rfl, rfl, (unhide HRB).keepF (unhide HK5), rfl⟩

end Go.Proofs.YtafniangljmjeaaDoor
