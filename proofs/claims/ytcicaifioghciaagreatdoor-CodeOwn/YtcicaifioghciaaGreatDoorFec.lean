import Derived.Test.YtcicaifioghciaaGreatDoorJzal
namespace Go.Proofs.YtcicaifioghciaaGreatDoor
open Go.RowKit Go.Maps

set_option maxRecDepth 100000 in
set_option maxHeartbeats 4000000 in
theorem take_byte (w : World) (b off cap : Nat) (c : UInt8) (r : Txt) (m : Nat) (hm : num c = m) (hO : Ops w) (hT : Types w) (h : BytesAt w (.slice (some ⟨b, off, none⟩) (c :: r).length cap) (c :: r)) (ht : (c :: r).length ≤ 4096) (hO0 : Ops w) (ho : opdB (m : Int) ≠ -1) (d : Int) (hx : (opA (m : Int)).opd = d) (t0 : (d == 0) = false) (t1 : (d == 1) = false) (t2 : (d == 2) = false) :
    Calls Tryz.prog 35 #[.slice (some ⟨b, off, none⟩) (c :: r).length cap] w fun e w' => Keeps (fun _ => False) w w' ∧ ∃ x y ok, e = .returned (.tuple #[ValA.v x, y, .bool ok]) ∧ TookC w' x y ok b ((byteP r).bind fun p => if rightB ⟨m, p.1, []⟩ then some (⟨m, p.1, []⟩, p.2) else none) := by
  obtain ⟨b', off', cc, e1, hblt, hc⟩ := RowAt.cells h (by simp)
  simp only [Value.slice.injEq, Option.some.injEq, Addr.mk.injEq] at e1
  obtain ⟨⟨rfl, rfl, _⟩, _, rfl⟩ := e1
  have c0 := (((Keeps.refl (fun _ => False) w).alloc (.cells #[.int .i64 0, .int .i64 0, .string ⟨#[]⟩] 51)).cell hblt id).trans (hc 0 (.int .u8 (num c)) rfl)
  rw [Nat.add_zero, hm] at c0
  have hcr := num_range c
  have hroom := RowAt.room h _ _ _ rfl
  have HRB := hide (rest_bytes h (k := 1) (by simp))
  have hlen : ((c :: r).length : Int) = (r.length : Int) + 1 := by simp
  have i1 : (1 : Int) ≤ (cap : Int) := by simp at hroom; omega
  have m255 : (m : Int) ≤ 255 := by omega
  have m0 : (0 : Int) ≤ (m : Int) := by omega
  generalize hL : (c :: r).length = L at *
  have HLL := hide hL
  have i2 : (L : Int) ≤ (cap : Int) := by omega
  have i3 : (1 : Int) ≤ (L : Int) := by omega
  have HRL : Hid (L - 1 = r.length) := by show _ = _; omega
  clear h hc hlen hroom hL
  obtain ⟨HX, hxb, hxc⟩ := boxed w #[.int .i64 (m : Int), .int .i64 0, .string ⟨#[]⟩] 51
  have HO := hide (hO.keepF (unhide HX))
  have HT := hide (hT.keepF (unhide HX))
  have HQ := hide (isOperation_v (m : Int) (w.alloc (.cells #[.int .i64 (m : Int), .int .i64 0, .string ⟨#[]⟩] 51)))
  have f0 := hxc 0 (.int .i64 (m : Int)) rfl
  have f1 := hxc 1 (.int .i64 0) rfl
  have f2 := hxc 2 (.string ⟨#[]⟩) rfl
  have hHB := heap_alloc_new w (.cells #[.int .i64 (m : Int), .int .i64 0, .string ⟨#[]⟩] 51)
  have HHB := hide hHB
  clear hxc hO hT hHB
  have HO0 : Hid (Ops w) := hO0
  have HY0 : Hid (Keeps (fun _ => False) w w) := Keeps.refl _ _
  have g1 := ((unhide HO).at (m := m) (by have := opdB_range ho; omega)).1
  have m27 : (m : Int) < 27 := by have := opdB_range ho; omega
  rw [decide_eq_true ho] at HQ
  have HR : Hid (∀ (n : Int) (s : Txt) (w4 : World), Ops w4 → Calls Tryz.prog 43 #[.agg #[.int .i64 (m : Int), .int .i64 n, str s]] w4 _) := fun n s w4 h4 => rightOperand_v ⟨m, n, s⟩ w4 h4 ho
  rw [hx] at g1
  clear ho hx
  go_enter Tryz.func35, Tryz.ntmps35
  go_wp2_with fail
  refine (unhide HQ).mono ?_
  rintro e w2 ⟨rfl, rfl⟩
  generalize w.alloc (.cells #[.int .i64 (m : Int), .int .i64 0, .string ⟨#[]⟩] 51) = w2 at f0 f1 f2 g1 HO HT HX HHB hxb ⊢
  obtain ⟨b2, off2, cap2, hsl, HRX⟩ : ∃ b2 off2 cap2, ((cap = 1 → b2 = b ∧ off2 = off ∧ cap2 = 0) ∧ (cap ≠ 1 → b2 = b ∧ off2 = off + 1 ∧ cap2 = cap - 1)) ∧ Hid (BytesAt w2 (.slice (some ⟨b2, off2, none⟩) r.length cap2) r) := by
    have h := (unhide HRB).keepF (unhide HX)
    rw [unhide HRL] at h
    by_cases hcap : cap = 1
    · rw [if_pos hcap] at h
      exact ⟨b, off, 0, ⟨fun _ => ⟨rfl, rfl, rfl⟩, fun hn => absurd hcap hn⟩, (by simpa [hcap] using h : BytesAt w2 _ r)⟩
    · rw [if_neg hcap] at h
      exact ⟨b, off + 1, cap - 1, ⟨fun hn => absurd hn hcap, fun _ => ⟨rfl, rfl, rfl⟩⟩, h⟩
  have HCC := hide (takeByte_v w2 (.slice (some ⟨b2, off2, none⟩) r.length cap2) r (unhide HRX) (by have := unhide HLL; simp at this; omega))
  rw [← unhide HRL] at HCC
  by_cases hcap : cap = 1
  case' pos =>
    obtain ⟨rfl, rfl, rfl⟩ := hsl.1 hcap
    subst hcap
  case' neg =>
    obtain ⟨rfl, rfl, rfl⟩ := hsl.2 hcap
  all_goals
    clear hsl
    go_wp2_with fail
    refine (unhide HCC).mono ?_
    rintro e w3 ⟨hk3, n3, y3, ok, rfl, hTK⟩
    have hB3 := (hk3.block w.heap.size hxb id).trans (unhide HHB)
    have z1 := frozen_of_blk hB3 1
    have p1 := (hk3.cell (o := 1) hxb id).trans f1
    have hB5 := heap_setCell_at (o := 1) hB3 (.int .i64 n3)
    have HHB5 : Hid ((w3.setCell ⟨w.heap.size, 1, none⟩ (.int .i64 n3)).heap[w.heap.size]? = some (.cells #[.int .i64 (m : Int), .int .i64 n3, .string ⟨#[]⟩] 51 (0, 0))) := hB5
    have HX5 := hide (((unhide HX).trans hk3).fresh (Nat.le_refl _) (keeps_set1 w3 w.heap.size 1 (.int .i64 n3)))
    have HS5 := hide (keeps_set1 w3 w.heap.size 1 (.int .i64 n3))
    have hxb5 : w.heap.size < (w3.setCell ⟨w.heap.size, 1, none⟩ (.int .i64 n3)).heap.size := by have := hk3.size; simp; omega
    have HO5 := hide (((unhide HO).keepF hk3).keep (unhide HS5) (by have := (unhide HO0).lt; show ¬ 0 = w.heap.size; omega))
    have HTK5 := hide hTK
    have HB3 := hide hB3
    clear hB3 hB5 HCC hTK g1 f0 f1 f2
    go_wp2_with fail
    generalize (w3.setCell ⟨w.heap.size, 1, none⟩ (.int .i64 n3)) = w5 at HHB5 HX5 HO5 HS5 hxb5 ⊢
    have f50 := (cell_of_blk (unhide HHB5) 0).trans (show (#[.int .i64 (m : Int), .int .i64 n3, .string ⟨#[]⟩] : Array Value)[0]? = some (.int .i64 (m : Int)) from rfl)
    have f51 := (cell_of_blk (unhide HHB5) 1).trans (show (#[.int .i64 (m : Int), .int .i64 n3, .string ⟨#[]⟩] : Array Value)[1]? = some (.int .i64 n3) from rfl)
    have f52 := (cell_of_blk (unhide HHB5) 2).trans (show (#[.int .i64 (m : Int), .int .i64 n3, .string ⟨#[]⟩] : Array Value)[2]? = some (.string ⟨#[]⟩) from rfl)
    clear z1 p1
    cases hp : byteP r with
    | none =>
      have hok : ok = false := by have h := unhide HTK5; rw [hp] at h; exact h
      subst hok
      have z0 := frozen_of_blk (unhide HHB5) 0
      have z1 := frozen_of_blk (unhide HHB5) 1
      have z2 := frozen_of_blk (unhide HHB5) 2
      obtain ⟨s50, s51, s52⟩ := set3 (unhide HHB5) (.int .i64 (m : Int)) (.int .i64 n3) (.string ⟨#[]⟩)
      go_region
      have HK7 := hide ((unhide HX5).fresh (Nat.le_refl _) (keeps_set3 w5 w.heap.size (.int .i64 (m : Int)) (.int .i64 n3) (.string ⟨#[]⟩)))
      generalize (((w5.setCell ⟨w.heap.size, 0, none⟩ (.int .i64 (m : Int))).setCell ⟨w.heap.size, 1, none⟩ (.int .i64 n3)).setCell ⟨w.heap.size, 2, none⟩ (.string ⟨#[]⟩)) = w7 at s50 s51 s52 HK7 ⊢
      have e50 : w7.drew.cell? ⟨w.heap.size, 0, none⟩ = some (.int .i64 (m : Int)) := s50
      have e51 : w7.drew.cell? ⟨w.heap.size, 1, none⟩ = some (.int .i64 n3) := s51
      have e52 : w7.drew.cell? ⟨w.heap.size, 2, none⟩ = some (.string ⟨#[]⟩) := s52
      have HK8 := hide ((unhide HK7).drew)
      generalize w7.drew = w8 at e50 e51 e52 HK8 ⊢
      clear z0 z1 z2 f50 f51 f52 s50 s51 s52
      go_wp2_with fail
      refine bodyPost_ret (v := .tuple #[ValA.v ⟨m, n3, []⟩, _, .bool false]) (by simp [results, go_sem, ValA.v, e50, e51, e52]; rfl) rfl ?_
      exact ⟨unhide HK8, _, _, _, rfl, by rw [hp]; rfl⟩
    | some p =>
      obtain ⟨n4, r3⟩ := p
      obtain ⟨hok, hn4, hby, hob⟩ : ok = true ∧ n3 = n4 ∧ BytesAt w3 y3 r3 ∧ y3.ownBlock = some _ := by have h := unhide HTK5; rw [hp] at h; exact h
      subst hok hn4
      have HBY := hide (bytes_apart hby (unhide HB3) (fun k c e => by have h := List.mem_of_getElem? (by simpa using e); simp at h) (unhide HS5))
      have HP := hide hp
      have HOB := hide hob
      obtain ⟨R, HRR⟩ : ∃ R, Hid (rightB ⟨m, n3, []⟩ = R) := ⟨_, rfl⟩
      have HRW : Hid (∀ w4, Ops w4 → Calls Tryz.prog 43 #[.agg #[.int .i64 (m : Int), .int .i64 n3, .string ⟨#[]⟩]] w4 fun e w' => e = .returned (.bool R) ∧ Keeps (fun _ => False) w4 w') := fun w4 h4 => by have h := (unhide HR) n3 [] w4 h4; rw [unhide HRR] at h; exact h
      clear hby hp hob
      go_region_held3 (fun w' => w'.cell? ⟨w.heap.size, 0, none⟩ = some (.int .i64 (m : Int)) ∧ w'.cell? ⟨w.heap.size, 1, none⟩ = some (.int .i64 n3) ∧ w'.cell? ⟨w.heap.size, 2, none⟩ = some (.string ⟨#[]⟩))
        (first | with_reducible exact s50 | with_reducible exact s51 | with_reducible exact s52 | (go_keep; done) | assumption)
        (first
          | (go_at_call 43; refine ((unhide HRW) _ ((unhide HO5).keepF (Keeps.refl _ w5).drew)).mono ?_; rintro e w6 ⟨rfl, hk6⟩; have q0 := (hk6.cell (o := 0) hxb5 id).trans f50; have q1 := (hk6.cell (o := 1) hxb5 id).trans f51; have q2 := (hk6.cell (o := 2) hxb5 id).trans f52; have hB6 := (hk6.block w.heap.size hxb5 id).trans (unhide HHB5); have z0 := frozen_of_blk hB6 0; have z1 := frozen_of_blk hB6 1; have z2 := frozen_of_blk hB6 2; obtain ⟨s50, s51, s52⟩ := set3 hB6 (.int .i64 (m : Int)) (.int .i64 n3) (.string ⟨#[]⟩); have HB6 := hide hB6; clear hB6))
      have HK7 := hide (((unhide HX5).drew.trans hk6).fresh (Nat.le_refl _) (keeps_set3 w6 w.heap.size (.int .i64 (m : Int)) (.int .i64 n3) (.string ⟨#[]⟩)))
      have HB5 := hide ((unhide HBY).keepF ((Keeps.refl _ w5).drew.trans hk6))
      have HF7 := hide (keeps_set3 w6 w.heap.size (.int .i64 (m : Int)) (.int .i64 n3) (.string ⟨#[]⟩))
      generalize (((w6.setCell ⟨w.heap.size, 0, none⟩ (.int .i64 (m : Int))).setCell ⟨w.heap.size, 1, none⟩ (.int .i64 n3)).setCell ⟨w.heap.size, 2, none⟩ (.string ⟨#[]⟩)) = w7 at s50 s51 s52 HK7 HF7 ⊢
      have HB7 := hide (bytes_apart (unhide HB5) (unhide HB6) (fun k c e => by have h := List.mem_of_getElem? (by simpa using e); simp at h) (unhide HF7))
      clear hk6 q0 q1 q2 z0 z1 z2 f50 f51 f52
      go_wp2_with fail
      refine bodyPost_ret (v := .tuple #[ValA.v ⟨m, n3, []⟩, _, .bool R]) (by simp [results, go_sem, ValA.v, s50, s51, s52]; rfl) rfl ?_
      refine ⟨unhide HK7, _, _, _, rfl, ?_⟩
      rw [unhide HP]
      simp only [Option.bind_some]
      rw [unhide HRR]
      cases R with
      | false => rfl
      | true => exact ⟨rfl, rfl, unhide HB7, unhide HOB⟩

end Go.Proofs.YtcicaifioghciaaGreatDoor
