import Derived.Test.YtbokbdcjpbnodaaGreatDoorQJm
import Derived.Test.YtbokbdcjpbnodaaGreatDoorQJh
namespace Go.Proofs.YtbokbdcjpbnodaaGreatDoor
open Go.RowKit Go.Maps
set_option maxRecDepth 100000
set_option maxHeartbeats 4000000
theorem take_int (w : World) (b off cap : Nat) (c : UInt8) (r : Txt) (m : Nat) (hm : num c = m) (hO : Ops w) (hT : Types w) (h : BytesAt w (.slice (some ⟨b, off, none⟩) (c :: r).length cap) (c :: r)) (ht : (c :: r).length ≤ 4096) (hO0 : Ops w) (ho : opdB (m : Int) ≠ -1) (hx : (opA (m : Int)).opd = 1) :
  Calls Tryz.prog 108 #[.slice (some ⟨b, off, none⟩) (c :: r).length cap] w fun e w' => Keeps (fun _ => False) w w' ∧ ∃ x y ok, e = .returned (.tuple #[ValA.v x, y, .bool ok]) ∧ TookC w' x y ok b ((intP r).bind fun p => if rightB ⟨m, p.1, []⟩ then some (⟨m, p.1, []⟩, p.2) else none) := by
 obtain ⟨b', off', cc, e1, hblt, hc⟩ := RowAt.cells h (by simp)
 simp only [Value.slice.injEq, Option.some.injEq, Addr.mk.injEq] at e1
 obtain ⟨⟨rfl, rfl, _⟩, _, rfl⟩ := e1
 have c0 := (((Keeps.refl (fun _ => False) w).alloc (.cells #[.int .i64 0, .int .i64 0, .string ⟨#[]⟩] 106)).cell hblt id).trans (hc 0 (.int .u8 (num c)) rfl)
 rw [Nat.add_zero, hm] at c0
 have hcr := num_range c
 have hroom := RowAt.room h _ _ _ rfl
 have HRB := hide (rest_bytes h (k := 1) (by simp))
 have hlen : ((c :: r).length : Int) = (r.length : Int) + 1 := by simp
 have i1 : (1 : Int) ≤ (cap : Int) := by simp at hroom; omega
 have m255 : (m : Int) ≤ 255 := by omega
 have m0 : (0 : Int) ≤ (m : Int) := by omega
 generalize hL : (c :: r).length = L at *
 have HLL := hide hL
 have i2 : (L : Int) ≤ (cap : Int) := by omega
 have i3 : (1 : Int) ≤ (L : Int) := by omega
 have HRL : Hid (L - 1 = r.length) := by show _ = _; omega
 clear h hc hlen hroom hL
 obtain ⟨HX, hxb, hxc⟩ := boxed w #[.int .i64 (m : Int), .int .i64 0, .string ⟨#[]⟩] 106
 have HO := hide (hO.keepF (uh HX))
 have HT := hide (hT.keepF (uh HX))
 have HQ := hide (isOperation_v (m : Int) (w.alloc (.cells #[.int .i64 (m : Int), .int .i64 0, .string ⟨#[]⟩] 106)))
 have f0 := hxc 0 (.int .i64 (m : Int)) rfl
 have f1 := hxc 1 (.int .i64 0) rfl
 have f2 := hxc 2 (.string ⟨#[]⟩) rfl
 have hHB := heap_alloc_new w (.cells #[.int .i64 (m : Int), .int .i64 0, .string ⟨#[]⟩] 106)
 have HHB := hide hHB
 clear hxc hO hT hHB
 have HO0 : Hid (Ops w) := hO0
 have HY0 : Hid (Keeps (fun _ => False) w w) := Keeps.refl _ _
 have g1 := ((uh HO).at (m := m) (by have := opdB_range ho; omega)).1
 have m27 : (m : Int) < 27 := by have := opdB_range ho; omega
 rw [decide_eq_true ho] at HQ
 have HR : Hid (∀ (n : Int) (s : Txt) (w4 : World), Ops w4 → Calls Tryz.prog 148 #[.agg #[.int .i64 (m : Int), .int .i64 n, str s]] w4 _) := fun n s w4 h4 => rightOperand_v ⟨m, n, s⟩ w4 h4 ho
 rw [hx] at g1
 clear ho hx
 go_enter Tryz.func108, Tryz.ntmps108
 go_wp2_with fail
 refine (uh HQ).mono ?_
 rintro e w2 ⟨rfl, rfl⟩
 generalize w.alloc (.cells #[.int .i64 (m : Int), .int .i64 0, .string ⟨#[]⟩] 106) = w2 at f0 f1 f2 g1 HO HT HX HHB hxb ⊢
 obtain ⟨b2, off2, cap2, hsl, HRX⟩ : ∃ b2 off2 cap2, ((cap = 1 → b2 = b ∧ off2 = off ∧ cap2 = 0) ∧ (cap ≠ 1 → b2 = b ∧ off2 = off + 1 ∧ cap2 = cap - 1)) ∧ Hid (BytesAt w2 (.slice (some ⟨b2, off2, none⟩) r.length cap2) r) := by
  have h := (uh HRB).keepF (uh HX)
  rw [uh HRL] at h
  by_cases hcap : cap = 1
  ·rw [if_pos hcap] at h
   exact ⟨b, off, 0, ⟨fun _ => ⟨rfl, rfl, rfl⟩, fun hn => absurd hcap hn⟩, (by simpa [hcap] using h : BytesAt w2 _ r)⟩
  ·rw [if_neg hcap] at h
   exact ⟨b, off + 1, cap - 1, ⟨fun hn => absurd hn hcap, fun _ => ⟨rfl, rfl, rfl⟩⟩, h⟩
 have HCC := hide (codeInt_v w2 b2 off2 cap2 r (uh HT) (uh HRX) (by have := uh HLL; simp at this; omega))
 rw [← uh HRL] at HCC
 by_cases hcap : cap = 1
 case' pos =>
  obtain ⟨rfl, rfl, rfl⟩ := hsl.1 hcap
  subst hcap
 case' neg =>
  obtain ⟨rfl, rfl, rfl⟩ := hsl.2 hcap
 all_goals
  clear hsl
  go_wp2_with fail
  refine (uh HCC).mono ?_
  rintro e w3 ⟨hk3, n3, y3, ok, rfl, hTK⟩
  have hB3 := (hk3.block w.heap.size hxb id).trans (uh HHB)
  have z1 := frozen_of_blk hB3 1
  have p1 := (hk3.cell (o := 1) hxb id).trans f1
  have hB5 := heap_setCell_at (o := 1) hB3 (.int .i64 n3)
  have HHB5 : Hid ((w3.setCell ⟨w.heap.size, 1, none⟩ (.int .i64 n3)).heap[w.heap.size]? = some (.cells #[.int .i64 (m : Int), .int .i64 n3, .string ⟨#[]⟩] 106 (0, 0))) := hB5
  have HX5 := hide (((uh HX).trans hk3).fresh (Nat.le_refl _) (keeps_set1 w3 w.heap.size 1 (.int .i64 n3)))
  have HS5 := hide (keeps_set1 w3 w.heap.size 1 (.int .i64 n3))
  have hxb5 : w.heap.size < (w3.setCell ⟨w.heap.size, 1, none⟩ (.int .i64 n3)).heap.size := by have := hk3.size; simp; omega
  have HO5 := hide (((uh HO).keepF hk3).keep (uh HS5) (by have := (uh HO0).lt; show ¬ 2 = w.heap.size; omega))
  have HTK5 := hide hTK
  have HB3 := hide hB3
  clear hB3 hB5 HCC hTK g1 f0 f1 f2
  go_wp2_with fail
  generalize (w3.setCell ⟨w.heap.size, 1, none⟩ (.int .i64 n3)) = w5 at HHB5 HX5 HO5 HS5 hxb5 ⊢
  have f50 := (cell_of_blk (uh HHB5) 0).trans (show (#[.int .i64 (m : Int), .int .i64 n3, .string ⟨#[]⟩] : Array Value)[0]? = some (.int .i64 (m : Int)) from rfl)
  have f51 := (cell_of_blk (uh HHB5) 1).trans (show (#[.int .i64 (m : Int), .int .i64 n3, .string ⟨#[]⟩] : Array Value)[1]? = some (.int .i64 n3) from rfl)
  have f52 := (cell_of_blk (uh HHB5) 2).trans (show (#[.int .i64 (m : Int), .int .i64 n3, .string ⟨#[]⟩] : Array Value)[2]? = some (.string ⟨#[]⟩) from rfl)
  clear z1 p1
  cases hp : intP r with
  | none =>
   have hok : ok = false := by have h := uh HTK5; rw [hp] at h; exact h
   subst hok
   have z0 := frozen_of_blk (uh HHB5) 0
   have z1 := frozen_of_blk (uh HHB5) 1
   have z2 := frozen_of_blk (uh HHB5) 2
   obtain ⟨s50, s51, s52⟩ := set3 (uh HHB5) (.int .i64 (m : Int)) (.int .i64 n3) (.string ⟨#[]⟩)
   go_region
   have HK7 := hide ((uh HX5).fresh (Nat.le_refl _) (keeps_set3 w5 w.heap.size (.int .i64 (m : Int)) (.int .i64 n3) (.string ⟨#[]⟩)))
   generalize (((w5.setCell ⟨w.heap.size, 0, none⟩ (.int .i64 (m : Int))).setCell ⟨w.heap.size, 1, none⟩ (.int .i64 n3)).setCell ⟨w.heap.size, 2, none⟩ (.string ⟨#[]⟩)) = w7 at s50 s51 s52 HK7 ⊢
   have e50 : w7.drew.cell? ⟨w.heap.size, 0, none⟩ = some (.int .i64 (m : Int)) := s50
   have e51 : w7.drew.cell? ⟨w.heap.size, 1, none⟩ = some (.int .i64 n3) := s51
   have e52 : w7.drew.cell? ⟨w.heap.size, 2, none⟩ = some (.string ⟨#[]⟩) := s52
   have HK8 := hide ((uh HK7).drew)
   generalize w7.drew = w8 at e50 e51 e52 HK8 ⊢
   clear z0 z1 z2 f50 f51 f52 s50 s51 s52
   go_wp2_with fail
   refine bodyPost_ret (v := .tuple #[ValA.v ⟨m, n3, []⟩, _, .bool false]) (by simp [results, go_sem, ValA.v, e50, e51, e52]; rfl) rfl ?_
   exact ⟨uh HK8, _, _, _, rfl, by rw [hp]; rfl⟩
  | some p =>
   obtain ⟨n4, r3⟩ := p
   obtain ⟨hok, hn4, hby, hob⟩ : ok = true ∧ n3 = n4 ∧ BytesAt w3 y3 r3 ∧ y3.ownBlock = some _ := by have h := uh HTK5; rw [hp] at h; exact h
   subst hok hn4
   have HBY := hide (bytes_apart hby (uh HB3) (fun k c e => by have h := List.mem_of_getElem? (by simpa using e); simp at h) (uh HS5))
   have HP := hide hp
   have HOB := hide hob
   obtain ⟨R, HRR⟩ : ∃ R, Hid (rightB ⟨m, n3, []⟩ = R) := ⟨_, rfl⟩
   have HRW : Hid (∀ w4, Ops w4 → Calls Tryz.prog 148 #[.agg #[.int .i64 (m : Int), .int .i64 n3, .string ⟨#[]⟩]] w4 fun e w' => e = .returned (.bool R) ∧ Keeps (fun _ => False) w4 w') := fun w4 h4 => by have h := (uh HR) n3 [] w4 h4; rw [uh HRR] at h; exact h
   clear hby hp hob
   go_region_held3 (fun w' => w'.cell? ⟨w.heap.size, 0, none⟩ = some (.int .i64 (m : Int)) ∧ w'.cell? ⟨w.heap.size, 1, none⟩ = some (.int .i64 n3) ∧ w'.cell? ⟨w.heap.size, 2, none⟩ = some (.string ⟨#[]⟩))
    (first | with_reducible exact s50 | with_reducible exact s51 | with_reducible exact s52 | (go_keep; done) | assumption)
    (first
      | (go_at_call 148; refine ((uh HRW) _ ((uh HO5).keepF (Keeps.refl _ w5).drew)).mono ?_; rintro e w6 ⟨rfl, hk6⟩; have q0 := (hk6.cell (o := 0) hxb5 id).trans f50; have q1 := (hk6.cell (o := 1) hxb5 id).trans f51; have q2 := (hk6.cell (o := 2) hxb5 id).trans f52; have hB6 := (hk6.block w.heap.size hxb5 id).trans (uh HHB5); have z0 := frozen_of_blk hB6 0; have z1 := frozen_of_blk hB6 1; have z2 := frozen_of_blk hB6 2; obtain ⟨s50, s51, s52⟩ := set3 hB6 (.int .i64 (m : Int)) (.int .i64 n3) (.string ⟨#[]⟩); have HB6 := hide hB6; clear hB6))
   have HK7 := hide (((uh HX5).drew.trans hk6).fresh (Nat.le_refl _) (keeps_set3 w6 w.heap.size (.int .i64 (m : Int)) (.int .i64 n3) (.string ⟨#[]⟩)))
   have HB5 := hide ((uh HBY).keepF ((Keeps.refl _ w5).drew.trans hk6))
   have HF7 := hide (keeps_set3 w6 w.heap.size (.int .i64 (m : Int)) (.int .i64 n3) (.string ⟨#[]⟩))
   generalize (((w6.setCell ⟨w.heap.size, 0, none⟩ (.int .i64 (m : Int))).setCell ⟨w.heap.size, 1, none⟩ (.int .i64 n3)).setCell ⟨w.heap.size, 2, none⟩ (.string ⟨#[]⟩)) = w7 at s50 s51 s52 HK7 HF7 ⊢
   have HB7 := hide (bytes_apart (uh HB5) (uh HB6) (fun k c e => by have h := List.mem_of_getElem? (by simpa using e); simp at h) (uh HF7))
   clear hk6 q0 q1 q2 z0 z1 z2 f50 f51 f52
   go_wp2_with fail
   refine bodyPost_ret (v := .tuple #[ValA.v ⟨m, n3, []⟩, _, .bool R]) (by simp [results, go_sem, ValA.v, s50, s51, s52]; rfl) rfl ?_
   refine ⟨uh HK7, _, _, _, rfl, ?_⟩
   rw [uh HP]
   simp only [Option.bind_some]
   rw [uh HRR]
   cases R with
   | false => rfl
   | true => exact ⟨rfl, rfl, uh HB7, uh HOB⟩
end Go.Proofs.YtbokbdcjpbnodaaGreatDoor
namespace Go.Proofs.YtbokbdcjpbnodaaGreatDoor
open Go.RowKit Go.Maps
set_option maxRecDepth 100000
set_option maxHeartbeats 4000000
theorem take_text (w : World) (b off cap : Nat) (c : UInt8) (r : Txt) (m : Nat) (hm : num c = m) (hO : Ops w) (hT : Types w) (h : BytesAt w (.slice (some ⟨b, off, none⟩) (c :: r).length cap) (c :: r)) (ht : (c :: r).length ≤ 4096) (hO0 : Ops w) (ho : opdB (m : Int) ≠ -1) (hx : (opA (m : Int)).opd = 2) :
  Calls Tryz.prog 108 #[.slice (some ⟨b, off, none⟩) (c :: r).length cap] w fun e w' => Keeps (fun _ => False) w w' ∧ ∃ x y ok, e = .returned (.tuple #[ValA.v x, y, .bool ok]) ∧ TookC w' x y ok b ((textP r).bind fun p => if rightB ⟨m, 0, p.1⟩ then some (⟨m, 0, p.1⟩, p.2) else none) := by
 obtain ⟨b', off', cc, e1, hblt, hc⟩ := RowAt.cells h (by simp)
 simp only [Value.slice.injEq, Option.some.injEq, Addr.mk.injEq] at e1
 obtain ⟨⟨rfl, rfl, _⟩, _, rfl⟩ := e1
 have c0 := (((Keeps.refl (fun _ => False) w).alloc (.cells #[.int .i64 0, .int .i64 0, .string ⟨#[]⟩] 106)).cell hblt id).trans (hc 0 (.int .u8 (num c)) rfl)
 rw [Nat.add_zero, hm] at c0
 have hcr := num_range c
 have hroom := RowAt.room h _ _ _ rfl
 have HRB := hide (rest_bytes h (k := 1) (by simp))
 have hlen : ((c :: r).length : Int) = (r.length : Int) + 1 := by simp
 have i1 : (1 : Int) ≤ (cap : Int) := by simp at hroom; omega
 have m255 : (m : Int) ≤ 255 := by omega
 have m0 : (0 : Int) ≤ (m : Int) := by omega
 generalize hL : (c :: r).length = L at *
 have HLL := hide hL
 have i2 : (L : Int) ≤ (cap : Int) := by omega
 have i3 : (1 : Int) ≤ (L : Int) := by omega
 have HRL : Hid (L - 1 = r.length) := by show _ = _; omega
 clear h hc hlen hroom hL
 obtain ⟨HX, hxb, hxc⟩ := boxed w #[.int .i64 (m : Int), .int .i64 0, .string ⟨#[]⟩] 106
 have HO := hide (hO.keepF (uh HX))
 have HT := hide (hT.keepF (uh HX))
 have HQ := hide (isOperation_v (m : Int) (w.alloc (.cells #[.int .i64 (m : Int), .int .i64 0, .string ⟨#[]⟩] 106)))
 have f0 := hxc 0 (.int .i64 (m : Int)) rfl
 have f1 := hxc 1 (.int .i64 0) rfl
 have f2 := hxc 2 (.string ⟨#[]⟩) rfl
 have hHB := heap_alloc_new w (.cells #[.int .i64 (m : Int), .int .i64 0, .string ⟨#[]⟩] 106)
 have HHB := hide hHB
 clear hxc hO hT hHB
 have HO0 : Hid (Ops w) := hO0
 have HY0 : Hid (Keeps (fun _ => False) w w) := Keeps.refl _ _
 have g1 := ((uh HO).at (m := m) (by have := opdB_range ho; omega)).1
 have m27 : (m : Int) < 27 := by have := opdB_range ho; omega
 rw [decide_eq_true ho] at HQ
 have HR : Hid (∀ (n : Int) (s : Txt) (w4 : World), Ops w4 → Calls Tryz.prog 148 #[.agg #[.int .i64 (m : Int), .int .i64 n, str s]] w4 _) := fun n s w4 h4 => rightOperand_v ⟨m, n, s⟩ w4 h4 ho
 rw [hx] at g1
 clear ho hx
 go_enter Tryz.func108, Tryz.ntmps108
 go_wp2_with fail
 refine (uh HQ).mono ?_
 rintro e w2 ⟨rfl, rfl⟩
 generalize w.alloc (.cells #[.int .i64 (m : Int), .int .i64 0, .string ⟨#[]⟩] 106) = w2 at f0 f1 f2 g1 HO HT HX HHB hxb ⊢
 obtain ⟨b2, off2, cap2, hsl, HRX⟩ : ∃ b2 off2 cap2, ((cap = 1 → b2 = b ∧ off2 = off ∧ cap2 = 0) ∧ (cap ≠ 1 → b2 = b ∧ off2 = off + 1 ∧ cap2 = cap - 1)) ∧ Hid (BytesAt w2 (.slice (some ⟨b2, off2, none⟩) r.length cap2) r) := by
  have h := (uh HRB).keepF (uh HX)
  rw [uh HRL] at h
  by_cases hcap : cap = 1
  ·rw [if_pos hcap] at h
   exact ⟨b, off, 0, ⟨fun _ => ⟨rfl, rfl, rfl⟩, fun hn => absurd hcap hn⟩, (by simpa [hcap] using h : BytesAt w2 _ r)⟩
  ·rw [if_neg hcap] at h
   exact ⟨b, off + 1, cap - 1, ⟨fun hn => absurd hn hcap, fun _ => ⟨rfl, rfl, rfl⟩⟩, h⟩
 have HCC := hide (takeText_v w2 (.slice (some ⟨b2, off2, none⟩) r.length cap2) r (uh HRX) (by have := uh HLL; simp at this; omega))
 rw [← uh HRL] at HCC
 by_cases hcap : cap = 1
 case' pos =>
  obtain ⟨rfl, rfl, rfl⟩ := hsl.1 hcap
  subst hcap
 case' neg =>
  obtain ⟨rfl, rfl, rfl⟩ := hsl.2 hcap
 all_goals
  clear hsl
  go_wp2_with fail
  refine (uh HCC).mono ?_
  rintro e w3 ⟨hk3, n3, y3, ok, rfl, hTK⟩
  have hB3 := (hk3.block w.heap.size hxb id).trans (uh HHB)
  have z1 := frozen_of_blk hB3 2
  have p1 := (hk3.cell (o := 2) hxb id).trans f2
  have hB5 := heap_setCell_at (o := 2) hB3 (str n3)
  have HHB5 : Hid ((w3.setCell ⟨w.heap.size, 2, none⟩ (str n3)).heap[w.heap.size]? = some (.cells #[.int .i64 (m : Int), .int .i64 0, str n3] 106 (0, 0))) := hB5
  have HX5 := hide (((uh HX).trans hk3).fresh (Nat.le_refl _) (keeps_set1 w3 w.heap.size 2 (str n3)))
  have HS5 := hide (keeps_set1 w3 w.heap.size 2 (str n3))
  have hxb5 : w.heap.size < (w3.setCell ⟨w.heap.size, 2, none⟩ (str n3)).heap.size := by have := hk3.size; simp; omega
  have HO5 := hide (((uh HO).keepF hk3).keep (uh HS5) (by have := (uh HO0).lt; show ¬ 2 = w.heap.size; omega))
  have HTK5 := hide hTK
  have HB3 := hide hB3
  clear hB3 hB5 HCC hTK g1 f0 f1 f2
  go_wp2_with fail
  generalize (w3.setCell ⟨w.heap.size, 2, none⟩ (str n3)) = w5 at HHB5 HX5 HO5 HS5 hxb5 ⊢
  have f50 := (cell_of_blk (uh HHB5) 0).trans (show (#[.int .i64 (m : Int), .int .i64 0, str n3] : Array Value)[0]? = some (.int .i64 (m : Int)) from rfl)
  have f51 := (cell_of_blk (uh HHB5) 1).trans (show (#[.int .i64 (m : Int), .int .i64 0, str n3] : Array Value)[1]? = some (.int .i64 0) from rfl)
  have f52 := (cell_of_blk (uh HHB5) 2).trans (show (#[.int .i64 (m : Int), .int .i64 0, str n3] : Array Value)[2]? = some (str n3) from rfl)
  clear z1 p1
  cases hp : textP r with
  | none =>
   have hok : ok = false := by have h := uh HTK5; rw [hp] at h; exact h
   subst hok
   have z0 := frozen_of_blk (uh HHB5) 0
   have z1 := frozen_of_blk (uh HHB5) 1
   have z2 := frozen_of_blk (uh HHB5) 2
   obtain ⟨s50, s51, s52⟩ := set3 (uh HHB5) (.int .i64 (m : Int)) (.int .i64 0) (str n3)
   go_region
   have HK7 := hide ((uh HX5).fresh (Nat.le_refl _) (keeps_set3 w5 w.heap.size (.int .i64 (m : Int)) (.int .i64 0) (str n3)))
   generalize (((w5.setCell ⟨w.heap.size, 0, none⟩ (.int .i64 (m : Int))).setCell ⟨w.heap.size, 1, none⟩ (.int .i64 0)).setCell ⟨w.heap.size, 2, none⟩ (str n3)) = w7 at s50 s51 s52 HK7 ⊢
   have e50 : w7.drew.cell? ⟨w.heap.size, 0, none⟩ = some (.int .i64 (m : Int)) := s50
   have e51 : w7.drew.cell? ⟨w.heap.size, 1, none⟩ = some (.int .i64 0) := s51
   have e52 : w7.drew.cell? ⟨w.heap.size, 2, none⟩ = some (str n3) := s52
   have HK8 := hide ((uh HK7).drew)
   generalize w7.drew = w8 at e50 e51 e52 HK8 ⊢
   clear z0 z1 z2 f50 f51 f52 s50 s51 s52
   go_wp2_with fail
   refine bodyPost_ret (v := .tuple #[ValA.v ⟨m, 0, n3⟩, _, .bool false]) (by simp [results, go_sem, ValA.v, e50, e51, e52]; rfl) rfl ?_
   exact ⟨uh HK8, _, _, _, rfl, by rw [hp]; rfl⟩
  | some p =>
   obtain ⟨n4, r3⟩ := p
   obtain ⟨hok, hn4, hby, hob⟩ : ok = true ∧ n3 = n4 ∧ BytesAt w3 y3 r3 ∧ y3.ownBlock = some _ := by have h := uh HTK5; rw [hp] at h; exact h
   subst hok hn4
   have HBY := hide (bytes_apart hby (uh HB3) (fun k c e => by have h := List.mem_of_getElem? (by simpa using e); simp at h) (uh HS5))
   have HP := hide hp
   have HOB := hide hob
   obtain ⟨R, HRR⟩ : ∃ R, Hid (rightB ⟨m, 0, n3⟩ = R) := ⟨_, rfl⟩
   have HRW : Hid (∀ w4, Ops w4 → Calls Tryz.prog 148 #[.agg #[.int .i64 (m : Int), .int .i64 0, str n3]] w4 fun e w' => e = .returned (.bool R) ∧ Keeps (fun _ => False) w4 w') := fun w4 h4 => by have h := (uh HR) 0 n3 w4 h4; rw [uh HRR] at h; exact h
   clear hby hp hob
   go_region_held3 (fun w' => w'.cell? ⟨w.heap.size, 0, none⟩ = some (.int .i64 (m : Int)) ∧ w'.cell? ⟨w.heap.size, 1, none⟩ = some (.int .i64 0) ∧ w'.cell? ⟨w.heap.size, 2, none⟩ = some (str n3))
    (first | with_reducible exact s50 | with_reducible exact s51 | with_reducible exact s52 | (go_keep; done) | assumption)
    (first
      | (go_at_call 148; refine ((uh HRW) _ ((uh HO5).keepF (Keeps.refl _ w5).drew)).mono ?_; rintro e w6 ⟨rfl, hk6⟩; have q0 := (hk6.cell (o := 0) hxb5 id).trans f50; have q1 := (hk6.cell (o := 1) hxb5 id).trans f51; have q2 := (hk6.cell (o := 2) hxb5 id).trans f52; have hB6 := (hk6.block w.heap.size hxb5 id).trans (uh HHB5); have z0 := frozen_of_blk hB6 0; have z1 := frozen_of_blk hB6 1; have z2 := frozen_of_blk hB6 2; obtain ⟨s50, s51, s52⟩ := set3 hB6 (.int .i64 (m : Int)) (.int .i64 0) (str n3); have HB6 := hide hB6; clear hB6))
   have HK7 := hide (((uh HX5).drew.trans hk6).fresh (Nat.le_refl _) (keeps_set3 w6 w.heap.size (.int .i64 (m : Int)) (.int .i64 0) (str n3)))
   have HB5 := hide ((uh HBY).keepF ((Keeps.refl _ w5).drew.trans hk6))
   have HF7 := hide (keeps_set3 w6 w.heap.size (.int .i64 (m : Int)) (.int .i64 0) (str n3))
   generalize (((w6.setCell ⟨w.heap.size, 0, none⟩ (.int .i64 (m : Int))).setCell ⟨w.heap.size, 1, none⟩ (.int .i64 0)).setCell ⟨w.heap.size, 2, none⟩ (str n3)) = w7 at s50 s51 s52 HK7 HF7 ⊢
   have HB7 := hide (bytes_apart (uh HB5) (uh HB6) (fun k c e => by have h := List.mem_of_getElem? (by simpa using e); simp at h) (uh HF7))
   clear hk6 q0 q1 q2 z0 z1 z2 f50 f51 f52
   go_wp2_with fail
   refine bodyPost_ret (v := .tuple #[ValA.v ⟨m, 0, n3⟩, _, .bool R]) (by simp [results, go_sem, ValA.v, s50, s51, s52]; rfl) rfl ?_
   refine ⟨uh HK7, _, _, _, rfl, ?_⟩
   rw [uh HP]
   simp only [Option.bind_some]
   rw [uh HRR]
   cases R with
   | false => rfl
   | true => exact ⟨rfl, rfl, uh HB7, uh HOB⟩
end Go.Proofs.YtbokbdcjpbnodaaGreatDoor
namespace Go.Proofs.YtbokbdcjpbnodaaGreatDoor
open Go.RowKit Go.Maps
set_option maxRecDepth 100000
set_option maxHeartbeats 4000000
theorem take_byte (w : World) (b off cap : Nat) (c : UInt8) (r : Txt) (m : Nat) (hm : num c = m) (hO : Ops w) (hT : Types w) (h : BytesAt w (.slice (some ⟨b, off, none⟩) (c :: r).length cap) (c :: r)) (ht : (c :: r).length ≤ 4096) (hO0 : Ops w) (ho : opdB (m : Int) ≠ -1) (d : Int) (hx : (opA (m : Int)).opd = d) (t0 : (d == 0) = false) (t1 : (d == 1) = false) (t2 : (d == 2) = false) :
  Calls Tryz.prog 108 #[.slice (some ⟨b, off, none⟩) (c :: r).length cap] w fun e w' => Keeps (fun _ => False) w w' ∧ ∃ x y ok, e = .returned (.tuple #[ValA.v x, y, .bool ok]) ∧ TookC w' x y ok b ((byteP r).bind fun p => if rightB ⟨m, p.1, []⟩ then some (⟨m, p.1, []⟩, p.2) else none) := by
 obtain ⟨b', off', cc, e1, hblt, hc⟩ := RowAt.cells h (by simp)
 simp only [Value.slice.injEq, Option.some.injEq, Addr.mk.injEq] at e1
 obtain ⟨⟨rfl, rfl, _⟩, _, rfl⟩ := e1
 have c0 := (((Keeps.refl (fun _ => False) w).alloc (.cells #[.int .i64 0, .int .i64 0, .string ⟨#[]⟩] 106)).cell hblt id).trans (hc 0 (.int .u8 (num c)) rfl)
 rw [Nat.add_zero, hm] at c0
 have hcr := num_range c
 have hroom := RowAt.room h _ _ _ rfl
 have HRB := hide (rest_bytes h (k := 1) (by simp))
 have hlen : ((c :: r).length : Int) = (r.length : Int) + 1 := by simp
 have i1 : (1 : Int) ≤ (cap : Int) := by simp at hroom; omega
 have m255 : (m : Int) ≤ 255 := by omega
 have m0 : (0 : Int) ≤ (m : Int) := by omega
 generalize hL : (c :: r).length = L at *
 have HLL := hide hL
 have i2 : (L : Int) ≤ (cap : Int) := by omega
 have i3 : (1 : Int) ≤ (L : Int) := by omega
 have HRL : Hid (L - 1 = r.length) := by show _ = _; omega
 clear h hc hlen hroom hL
 obtain ⟨HX, hxb, hxc⟩ := boxed w #[.int .i64 (m : Int), .int .i64 0, .string ⟨#[]⟩] 106
 have HO := hide (hO.keepF (uh HX))
 have HT := hide (hT.keepF (uh HX))
 have HQ := hide (isOperation_v (m : Int) (w.alloc (.cells #[.int .i64 (m : Int), .int .i64 0, .string ⟨#[]⟩] 106)))
 have f0 := hxc 0 (.int .i64 (m : Int)) rfl
 have f1 := hxc 1 (.int .i64 0) rfl
 have f2 := hxc 2 (.string ⟨#[]⟩) rfl
 have hHB := heap_alloc_new w (.cells #[.int .i64 (m : Int), .int .i64 0, .string ⟨#[]⟩] 106)
 have HHB := hide hHB
 clear hxc hO hT hHB
 have HO0 : Hid (Ops w) := hO0
 have HY0 : Hid (Keeps (fun _ => False) w w) := Keeps.refl _ _
 have g1 := ((uh HO).at (m := m) (by have := opdB_range ho; omega)).1
 have m27 : (m : Int) < 27 := by have := opdB_range ho; omega
 rw [decide_eq_true ho] at HQ
 have HR : Hid (∀ (n : Int) (s : Txt) (w4 : World), Ops w4 → Calls Tryz.prog 148 #[.agg #[.int .i64 (m : Int), .int .i64 n, str s]] w4 _) := fun n s w4 h4 => rightOperand_v ⟨m, n, s⟩ w4 h4 ho
 rw [hx] at g1
 clear ho hx
 go_enter Tryz.func108, Tryz.ntmps108
 go_wp2_with fail
 refine (uh HQ).mono ?_
 rintro e w2 ⟨rfl, rfl⟩
 generalize w.alloc (.cells #[.int .i64 (m : Int), .int .i64 0, .string ⟨#[]⟩] 106) = w2 at f0 f1 f2 g1 HO HT HX HHB hxb ⊢
 obtain ⟨b2, off2, cap2, hsl, HRX⟩ : ∃ b2 off2 cap2, ((cap = 1 → b2 = b ∧ off2 = off ∧ cap2 = 0) ∧ (cap ≠ 1 → b2 = b ∧ off2 = off + 1 ∧ cap2 = cap - 1)) ∧ Hid (BytesAt w2 (.slice (some ⟨b2, off2, none⟩) r.length cap2) r) := by
  have h := (uh HRB).keepF (uh HX)
  rw [uh HRL] at h
  by_cases hcap : cap = 1
  ·rw [if_pos hcap] at h
   exact ⟨b, off, 0, ⟨fun _ => ⟨rfl, rfl, rfl⟩, fun hn => absurd hcap hn⟩, (by simpa [hcap] using h : BytesAt w2 _ r)⟩
  ·rw [if_neg hcap] at h
   exact ⟨b, off + 1, cap - 1, ⟨fun hn => absurd hn hcap, fun _ => ⟨rfl, rfl, rfl⟩⟩, h⟩
 have HCC := hide (takeByte_v w2 (.slice (some ⟨b2, off2, none⟩) r.length cap2) r (uh HRX) (by have := uh HLL; simp at this; omega))
 rw [← uh HRL] at HCC
 by_cases hcap : cap = 1
 case' pos =>
  obtain ⟨rfl, rfl, rfl⟩ := hsl.1 hcap
  subst hcap
 case' neg =>
  obtain ⟨rfl, rfl, rfl⟩ := hsl.2 hcap
 all_goals
  clear hsl
  go_wp2_with fail
  refine (uh HCC).mono ?_
  rintro e w3 ⟨hk3, n3, y3, ok, rfl, hTK⟩
  have hB3 := (hk3.block w.heap.size hxb id).trans (uh HHB)
  have z1 := frozen_of_blk hB3 1
  have p1 := (hk3.cell (o := 1) hxb id).trans f1
  have hB5 := heap_setCell_at (o := 1) hB3 (.int .i64 n3)
  have HHB5 : Hid ((w3.setCell ⟨w.heap.size, 1, none⟩ (.int .i64 n3)).heap[w.heap.size]? = some (.cells #[.int .i64 (m : Int), .int .i64 n3, .string ⟨#[]⟩] 106 (0, 0))) := hB5
  have HX5 := hide (((uh HX).trans hk3).fresh (Nat.le_refl _) (keeps_set1 w3 w.heap.size 1 (.int .i64 n3)))
  have HS5 := hide (keeps_set1 w3 w.heap.size 1 (.int .i64 n3))
  have hxb5 : w.heap.size < (w3.setCell ⟨w.heap.size, 1, none⟩ (.int .i64 n3)).heap.size := by have := hk3.size; simp; omega
  have HO5 := hide (((uh HO).keepF hk3).keep (uh HS5) (by have := (uh HO0).lt; show ¬ 2 = w.heap.size; omega))
  have HTK5 := hide hTK
  have HB3 := hide hB3
  clear hB3 hB5 HCC hTK g1 f0 f1 f2
  go_wp2_with fail
  generalize (w3.setCell ⟨w.heap.size, 1, none⟩ (.int .i64 n3)) = w5 at HHB5 HX5 HO5 HS5 hxb5 ⊢
  have f50 := (cell_of_blk (uh HHB5) 0).trans (show (#[.int .i64 (m : Int), .int .i64 n3, .string ⟨#[]⟩] : Array Value)[0]? = some (.int .i64 (m : Int)) from rfl)
  have f51 := (cell_of_blk (uh HHB5) 1).trans (show (#[.int .i64 (m : Int), .int .i64 n3, .string ⟨#[]⟩] : Array Value)[1]? = some (.int .i64 n3) from rfl)
  have f52 := (cell_of_blk (uh HHB5) 2).trans (show (#[.int .i64 (m : Int), .int .i64 n3, .string ⟨#[]⟩] : Array Value)[2]? = some (.string ⟨#[]⟩) from rfl)
  clear z1 p1
  cases hp : byteP r with
  | none =>
   have hok : ok = false := by have h := uh HTK5; rw [hp] at h; exact h
   subst hok
   have z0 := frozen_of_blk (uh HHB5) 0
   have z1 := frozen_of_blk (uh HHB5) 1
   have z2 := frozen_of_blk (uh HHB5) 2
   obtain ⟨s50, s51, s52⟩ := set3 (uh HHB5) (.int .i64 (m : Int)) (.int .i64 n3) (.string ⟨#[]⟩)
   go_region
   have HK7 := hide ((uh HX5).fresh (Nat.le_refl _) (keeps_set3 w5 w.heap.size (.int .i64 (m : Int)) (.int .i64 n3) (.string ⟨#[]⟩)))
   generalize (((w5.setCell ⟨w.heap.size, 0, none⟩ (.int .i64 (m : Int))).setCell ⟨w.heap.size, 1, none⟩ (.int .i64 n3)).setCell ⟨w.heap.size, 2, none⟩ (.string ⟨#[]⟩)) = w7 at s50 s51 s52 HK7 ⊢
   have e50 : w7.drew.cell? ⟨w.heap.size, 0, none⟩ = some (.int .i64 (m : Int)) := s50
   have e51 : w7.drew.cell? ⟨w.heap.size, 1, none⟩ = some (.int .i64 n3) := s51
   have e52 : w7.drew.cell? ⟨w.heap.size, 2, none⟩ = some (.string ⟨#[]⟩) := s52
   have HK8 := hide ((uh HK7).drew)
   generalize w7.drew = w8 at e50 e51 e52 HK8 ⊢
   clear z0 z1 z2 f50 f51 f52 s50 s51 s52
   go_wp2_with fail
   refine bodyPost_ret (v := .tuple #[ValA.v ⟨m, n3, []⟩, _, .bool false]) (by simp [results, go_sem, ValA.v, e50, e51, e52]; rfl) rfl ?_
   exact ⟨uh HK8, _, _, _, rfl, by rw [hp]; rfl⟩
  | some p =>
   obtain ⟨n4, r3⟩ := p
   obtain ⟨hok, hn4, hby, hob⟩ : ok = true ∧ n3 = n4 ∧ BytesAt w3 y3 r3 ∧ y3.ownBlock = some _ := by have h := uh HTK5; rw [hp] at h; exact h
   subst hok hn4
   have HBY := hide (bytes_apart hby (uh HB3) (fun k c e => by have h := List.mem_of_getElem? (by simpa using e); simp at h) (uh HS5))
   have HP := hide hp
   have HOB := hide hob
   obtain ⟨R, HRR⟩ : ∃ R, Hid (rightB ⟨m, n3, []⟩ = R) := ⟨_, rfl⟩
   have HRW : Hid (∀ w4, Ops w4 → Calls Tryz.prog 148 #[.agg #[.int .i64 (m : Int), .int .i64 n3, .string ⟨#[]⟩]] w4 fun e w' => e = .returned (.bool R) ∧ Keeps (fun _ => False) w4 w') := fun w4 h4 => by have h := (uh HR) n3 [] w4 h4; rw [uh HRR] at h; exact h
   clear hby hp hob
   go_region_held3 (fun w' => w'.cell? ⟨w.heap.size, 0, none⟩ = some (.int .i64 (m : Int)) ∧ w'.cell? ⟨w.heap.size, 1, none⟩ = some (.int .i64 n3) ∧ w'.cell? ⟨w.heap.size, 2, none⟩ = some (.string ⟨#[]⟩))
    (first | with_reducible exact s50 | with_reducible exact s51 | with_reducible exact s52 | (go_keep; done) | assumption)
    (first
      | (go_at_call 148; refine ((uh HRW) _ ((uh HO5).keepF (Keeps.refl _ w5).drew)).mono ?_; rintro e w6 ⟨rfl, hk6⟩; have q0 := (hk6.cell (o := 0) hxb5 id).trans f50; have q1 := (hk6.cell (o := 1) hxb5 id).trans f51; have q2 := (hk6.cell (o := 2) hxb5 id).trans f52; have hB6 := (hk6.block w.heap.size hxb5 id).trans (uh HHB5); have z0 := frozen_of_blk hB6 0; have z1 := frozen_of_blk hB6 1; have z2 := frozen_of_blk hB6 2; obtain ⟨s50, s51, s52⟩ := set3 hB6 (.int .i64 (m : Int)) (.int .i64 n3) (.string ⟨#[]⟩); have HB6 := hide hB6; clear hB6))
   have HK7 := hide (((uh HX5).drew.trans hk6).fresh (Nat.le_refl _) (keeps_set3 w6 w.heap.size (.int .i64 (m : Int)) (.int .i64 n3) (.string ⟨#[]⟩)))
   have HB5 := hide ((uh HBY).keepF ((Keeps.refl _ w5).drew.trans hk6))
   have HF7 := hide (keeps_set3 w6 w.heap.size (.int .i64 (m : Int)) (.int .i64 n3) (.string ⟨#[]⟩))
   generalize (((w6.setCell ⟨w.heap.size, 0, none⟩ (.int .i64 (m : Int))).setCell ⟨w.heap.size, 1, none⟩ (.int .i64 n3)).setCell ⟨w.heap.size, 2, none⟩ (.string ⟨#[]⟩)) = w7 at s50 s51 s52 HK7 HF7 ⊢
   have HB7 := hide (bytes_apart (uh HB5) (uh HB6) (fun k c e => by have h := List.mem_of_getElem? (by simpa using e); simp at h) (uh HF7))
   clear hk6 q0 q1 q2 z0 z1 z2 f50 f51 f52
   go_wp2_with fail
   refine bodyPost_ret (v := .tuple #[ValA.v ⟨m, n3, []⟩, _, .bool R]) (by simp [results, go_sem, ValA.v, s50, s51, s52]; rfl) rfl ?_
   refine ⟨uh HK7, _, _, _, rfl, ?_⟩
   rw [uh HP]
   simp only [Option.bind_some]
   rw [uh HRR]
   cases R with
   | false => rfl
   | true => exact ⟨rfl, rfl, uh HB7, uh HOB⟩
end Go.Proofs.YtbokbdcjpbnodaaGreatDoor
namespace Go.Proofs.YtbokbdcjpbnodaaGreatDoor
open Go.RowKit Go.Maps
set_option maxRecDepth 100000
set_option maxHeartbeats 2000000
theorem take_v (w : World) (b off cap : Nat) (c : UInt8) (r : Txt) (hO : Ops w) (hT : Types w) (h : BytesAt w (.slice (some ⟨b, off, none⟩) (c :: r).length cap) (c :: r)) (ht : (c :: r).length ≤ 4096) :
  Calls Tryz.prog 108 #[.slice (some ⟨b, off, none⟩) (c :: r).length cap] w fun e w' => Keeps (fun _ => False) w w' ∧ ∃ x y ok, e = .returned (.tuple #[ValA.v x, y, .bool ok]) ∧ TookC w' x y ok b (takeC (c :: r)) := by
 have hm : num c = (c.toNat : Int) := rfl
 have hcc := num_range c
 by_cases ho : opdB (num c) = -1
 ·have e : takeC (c :: r) = none := by simp only [takeC]; rw [if_pos ho]
  rw [e]
  exact take_bad w b off cap c r c.toNat hm hO hT h ht ho
 ·rcases opd_cases ho with ⟨e1, e2⟩ | ⟨e1, e2⟩ | ⟨e1, e2⟩ | hd
  ·have e : takeC (c :: r) = some (⟨c.toNat, 0, []⟩, r) := by simp only [takeC]; rw [if_neg ho, if_pos e2]; rfl
   rw [e]
   exact take_plain w b off cap c r c.toNat hm hO hT h ht ho e1 e2
  ·have e : takeC (c :: r) = (intP r).bind fun p => if rightB ⟨c.toNat, p.1, []⟩ then some (⟨c.toNat, p.1, []⟩, p.2) else none := by
    simp only [takeC]
    rw [if_neg ho, if_neg (by rw [e2]; decide), if_pos e2]
    have hr : ∀ n, rightB ⟨c.toNat, n, []⟩ = true := fun n => by
     have e3 : opdB (c.toNat : Int) = 1 := e2
     simp [rightB, e3]
    unfold intP
    cases takeG 0 r 0 with
    | none => rfl
    | some p => simp [hr, hm]
   rw [e]
   exact take_int w b off cap c r c.toNat hm hO hT h ht hO ho e1
  ·have e : takeC (c :: r) = (textP r).bind fun p => if rightB ⟨c.toNat, 0, p.1⟩ then some (⟨c.toNat, 0, p.1⟩, p.2) else none := by
    simp only [takeC]
    rw [if_neg ho, if_neg (by rw [e2]; decide), if_neg (by rw [e2]; decide), if_pos e2]
    have hr : ∀ s, rightB ⟨c.toNat, 0, s⟩ = decide (s.length ≤ 20) := fun s => by
     have e3 : opdB (c.toNat : Int) = 2 := e2
     simp [rightB, e3]
    cases r with
    | nil => rfl
    | cons k q =>
     simp only [textP]
     by_cases h1 : q.length < k.toNat
     ·rw [if_pos h1, if_pos (Or.inl h1)]
      rfl
     ·rw [if_neg h1]
      simp only [Option.bind_some, hr]
      have hl : (q.take k.toNat).length = k.toNat := by rw [List.length_take]; omega
      rw [hl]
      by_cases h2 : 20 < k.toNat
      ·rw [if_pos (Or.inr h2), if_neg (by simp; omega)]
      ·rw [if_neg (by omega), if_pos (by simp; omega)]
       rfl
   rw [e]
   exact take_text w b off cap c r c.toNat hm hO hT h ht hO ho e1
  ·have hd2 : ∃ d, (opA (num c)).opd = d ∧ (d == 0) = false ∧ (d == 1) = false ∧ (d == 2) = false ∧ (opdB (num c) = 3 ∨ opdB (num c) = 4) := by
    rcases hd with ⟨e1, e2⟩ | ⟨e1, e2⟩ | ⟨e1, e2⟩ | ⟨e1, e2⟩
    ·exact ⟨_, e1, rfl, rfl, rfl, Or.inl e2⟩
    ·exact ⟨_, e1, rfl, rfl, rfl, Or.inl e2⟩
    ·exact ⟨_, e1, rfl, rfl, rfl, Or.inl e2⟩
    ·exact ⟨_, e1, rfl, rfl, rfl, Or.inr e2⟩
   obtain ⟨d, e1, t0, t1, t2, e2⟩ := hd2
   have e : takeC (c :: r) = (byteP r).bind fun p => if rightB ⟨c.toNat, p.1, []⟩ then some (⟨c.toNat, p.1, []⟩, p.2) else none := by
    simp only [takeC]
    rw [if_neg ho, if_neg (by rcases e2 with e2 | e2 <;> rw [e2] <;> decide), if_neg (by rcases e2 with e2 | e2 <;> rw [e2] <;> decide), if_neg (by rcases e2 with e2 | e2 <;> rw [e2] <;> decide)]
    cases r with
    | nil => rfl
    | cons k q =>
     have hk := num_range k
     simp only [byteP, Option.bind_some]
     rcases e2 with e2 | e2
     ·have e3 : opdB (c.toNat : Int) = 3 := e2
      have hr : rightB ⟨c.toNat, num k, []⟩ = decide (num k < 8) := by simp [rightB, e3]; intro; exact hk.1
      rw [hr]
      by_cases h8 : 8 ≤ k.toNat
      ·rw [if_pos ⟨e2, h8⟩, if_neg (by simp; unfold num; omega)]
      ·rw [if_neg (fun h => h8 h.2), if_pos (by simp; unfold num; omega)]
       rfl
     ·have e3 : opdB (c.toNat : Int) = 4 := e2
      have hr : rightB ⟨c.toNat, num k, []⟩ = true := by simp [rightB, e3]; exact hk
      rw [hr, if_neg (by rw [e2]; simp), if_pos rfl]
      rfl
   rw [e]
   exact take_byte w b off cap c r c.toNat hm hO hT h ht hO ho d e1 t0 t1 t2
theorem takeC_len {b r : Txt} {i : ValA} (h : takeC b = some (i, r)) : r.length < b.length := by
 obtain ⟨_, e, _⟩ := takeC_sound h
 rw [e]
 simp [oneB]
 omega
theorem decF_fuel : ∀ (n m : Nat) (b : Txt), b.length ≤ n → b.length ≤ m → decF n b = decF m b
 | 0, 0, _, _, _ => rfl
 | 0, m + 1, b, h, _ => by
  have : b = [] := List.eq_nil_of_length_eq_zero (by omega)
  subst this
  simp [decF]
 | n + 1, 0, b, _, h => by
  have : b = [] := List.eq_nil_of_length_eq_zero (by omega)
  subst this
  simp [decF]
 | n + 1, m + 1, b, h1, h2 => by
  rw [decF, decF]
  split
  ·rfl
  ·cases ht : takeC b with
   | none => rfl
   | some p =>
    have := takeC_len (i := p.1) (r := p.2) ht
    simp only [Option.bind_some]
    rw [decF_fuel n m p.2 (by omega) (by omega)]
def decD (b : Txt) : Option (List ValA) := decF b.length b
theorem decD_nil : decD [] = some [] := by simp [decD, decF]
theorem decD_cons (c : UInt8) (r : Txt) : decD (c :: r) = (takeC (c :: r)).bind fun p => (decD p.2).map (p.1 :: ·) := by
 unfold decD
 rw [List.length_cons, decF, if_neg (by simp)]
 cases ht : takeC (c :: r) with
 | none => rfl
 | some p =>
  have := takeC_len (i := p.1) (r := p.2) ht
  simp only [List.length_cons] at this
  simp only [Option.bind_some]
  rw [decF_fuel r.length p.2.length p.2 (by omega) (by omega)]
theorem decC_D (b : Txt) (h : b.length ≤ 96) : decC b = match decD b with
  | none => ([], 110)
  | some l => (l, 0) := by
 unfold decC
 rw [if_neg (by omega)]
 rfl
theorem decode_c (t : Txt) (v : Value) (w : World) (hO : Ops w) (hT : Types w) (h : BytesAt w v t) :
  Calls Tryz.prog 75 #[v] w fun e w' => ∃ r', e = .returned (.tuple #[r', .int .i64 (decC t).2]) ∧ w'.ownsRow w.heap.size 106 3 r' (decC t).1.length (vcs (decC t).1) ∧ Keeps (fun _ => False) w w' := by
 obtain ⟨ao, cap, rfl⟩ := RowAt.form h
 by_cases h96 : 96 < t.length
 ·have e : decC t = ([], 110) := by unfold decC; rw [if_pos h96]
  rw [e]
  have i1 : (96 : Int) < (t.length : Int) := by omega
  clear h hO hT
  go_enter Tryz.func75, Tryz.ntmps75
  go_wp2_with fail
  go_ret2
  exact ⟨_, rfl, World.ownsRow_nil _ w.heap.size 106 3, Keeps.refl _ _⟩
 ·have hl : t.length ≤ 96 := by omega
  have i1 : ¬ (96 : Int) < (t.length : Int) := by omega
  obtain ⟨i0, hi, hz0, hz1, hz2⟩ := info_parts Tryz.info106
  have HO := hide hO
  have HT := hide hT
  have HV := hide h
  have HDC := hide (decC_D t hl)
  have HVB : t ≠ [] → ∀ k, (Value.slice ao t.length cap).ownBlock = some k → k < w.heap.size := fun hne k hk => by
   obtain ⟨b, off, cc, e, hb, _⟩ := RowAt.cells h (by cases t <;> simp at hne ⊢)
   rw [e] at hk
   cases hk
   exact hb
  clear hO hT h h96
  go_enter Tryz.func75, Tryz.ntmps75
  go_wp2_with fail
  go_loopw [0, 4] (fun u o wr => ∃ (rest : Txt) (dn : List ValA), BytesAt wr u rest ∧ (rest ≠ [] → ∀ k, u.ownBlock = some k → k < w.heap.size) ∧ dn.length + rest.length ≤ t.length ∧ wr.ownsRow w.heap.size 106 3 o dn.length (vcs dn) ∧ Hid (decD t = (decD rest).map (dn ++ ·)) ∧ Keeps (fun _ => False) w wr) (fun u _ _ => match u with | .slice _ n _ => n | _ => 0)
  case atStart => exact ⟨t, [], uh HV, HVB, by simp, World.ownsRow_nil _ w.heap.size 106 3, by show _ = _; simp, Keeps.refl _ _⟩
  case round =>
   obtain ⟨rest, dn, hby, hub, hln, hown, HS, hkp⟩ := hrel
   obtain ⟨oo, oc, rfl⟩ := (rowAt_own hown).form
   have HW := hide hown
   have HK := hide hkp
   have hsz := hkp.size
   cases rest with
   | nil =>
    obtain ⟨bo, bc, rfl⟩ := RowAt.form hby
    have HE : Hid (decC t = (dn, 0)) := by
     show _ = _
     rw [uh HDC, uh HS, decD_nil]
     simp
    clear hby hown hkp
    go_wp2_with fail
    go_ret2
    rw [uh HE]
    exact ⟨_, rfl, uh HW, uh HK⟩
   | cons c r =>
    obtain ⟨b, off, cc, rfl, hblt, _⟩ := RowAt.cells hby (by simp)
    have hbw : b < w.heap.size := hub (by simp) b rfl
    have HQ := hide (take_v wr b off cc c r ((uh HO).keepF hkp) ((uh HT).keepF hkp) hby (by omega))
    have HD := hide (decD_cons c r)
    have i2 : (0 : Int) < ((c :: r).length : Int) := by simp
    have HLC : Hid ((c :: r).length = r.length + 1) := by simp [Hid]
    have HTL : Hid (∀ i q, takeC (c :: r) = some (i, q) → q.length < (c :: r).length) := fun i q h => takeC_len h
    generalize hL : (c :: r).length = L at *
    have hL1 : 1 ≤ L := by have := uh HLC; omega
    clear hby hown hkp hL
    go_wp2_with fail
    refine (uh HQ).mono ?_
    rintro e w2 ⟨hk2, x, y, ok, rfl, hTK⟩
    have HTK := hide hTK
    have HK2 := hide ((uh HK).trans hk2)
    have HW2 := hide (ownsRow_kept (uh HW) hk2 (fun _ _ => id))
    have hs2 : w.heap.size ≤ w2.heap.size := (uh HK2).size
    clear hTK hk2 HQ
    cases hp : takeC (c :: r) with
    | none =>
     have hok : ok = false := by have h := uh HTK; rw [hp] at h; exact h
     subst hok
     have HE : Hid (decC t = ([], 110)) := by
      show _ = _
      rw [uh HDC, uh HS, uh HD, hp]
      rfl
     clear hp
     unfold ValA.v
     go_wp2_with fail
     go_ret2
     rw [uh HE]
     exact ⟨_, rfl, World.ownsRow_nil _ w.heap.size 106 3, (uh HK2).alloc _⟩
    | some p =>
     obtain ⟨i, q⟩ := p
     obtain ⟨hok, hxi, hby, hob⟩ : ok = true ∧ x = i ∧ BytesAt w2 y q ∧ y.ownBlock = some b := by have h := uh HTK; rw [hp] at h; exact h
     subst hok hxi
     have hql := (uh HTL) x q hp
     have HE : Hid (decD t = (decD q).map ((dn ++ [x]) ++ ·)) := by
      show _ = _
      rw [uh HS, uh HD, hp]
      simp only [Option.bind_some]
      cases decD q <;> simp
     obtain ⟨yo, yc, rfl⟩ := RowAt.form hby
     have HBY := hide hby
     have HOB := hide hob
     clear hp hby hob HTK HTL HD
     unfold ValA.v
     obtain ⟨HX, hxb, hxc⟩ := boxed w2 #[.int .i64 x.kind, .int .i64 x.n, str x.s] 106
     have a0 := hxc 0 (.int .i64 x.kind) rfl
     have a1 := hxc 1 (.int .i64 x.n) rfl
     have a2 := hxc 2 (str x.s) rfl
     go_wp2_with (at_builtin; refine wpList_append_lies _ rfl _ _ _ rfl w.heap.size 106 i0 _ 3 32 Tryz.underlying25 hi hz0 hz1 hz2 rfl (by omega) (.slice oo dn.length oc) dn.length (vcs dn) rfl (((uh HW2).alloc _).alloc _) ⟨w2.heap.size + 1, 0, none⟩ 1 1 x.cs rfl rfl (World.news_of_block (cs := #[.int .i64 x.kind, .int .i64 x.n, str x.s]) (t := 106) (fr := (0, 0)) (by have q := heap_alloc_new (w2.alloc (.cells #[.int .i64 x.kind, .int .i64 x.n, str x.s] 106)) (.cells #[.int .i64 x.kind, .int .i64 x.n, str x.s] 106); rw [World.size_alloc] at q; exact q)) (by simp [Value.oneCell', ValA.cs]) (by omega) (by unfold maxLen; omega) (by omega) (by simp; omega) (w2.heap.size + 2) (by simp) ?_; intro g3 cap3 w3 hown3 hgrow3 hat3 hlt3; have HO3 := hide hown3; have HK3 := hide ((((uh HK2).alloc _).alloc _).grown hgrow3 (fun q e hq => by have := ((uh HW2).lt q e).1; omega)); have HB3 := hide (RowAt.kept (uh HBY) ((((Keeps.refl (fun q => (Value.slice oo dn.length oc).ownBlock = some q) w2).alloc _).alloc _).grown hgrow3 (fun q e _ => e)) (fun k hk e => by have h1 := ((uh HW2).lt k e).1; have h2 := (uh HOB).symm.trans hk; simp at h2; omega)); clear hown3 hgrow3 hat3)
     go_roundw
     case rel =>
      refine ⟨q, dn ++ [x], uh HB3, fun _ k hk => ?_, by simp; omega, ?_, HE, uh HK3⟩
      ·have h2 := (uh HOB).symm.trans hk
       simp at h2
       omega
      ·simpa [vcs] using uh HO3
     case measure => simp; omega
end Go.Proofs.YtbokbdcjpbnodaaGreatDoor
