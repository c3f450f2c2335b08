import Derived.Test.YtbokbdcjpbnodaaGreatDoorQMa
import Derived.Deep.Onto
import Derived.Test.YtbokbdcjpbnodaaGreatDoorQJv
import Derived.Test.YtbokbdcjpbnodaaGreatDoorQJc
import Derived.Test.YtbokbdcjpbnodaaGreatDoorQKg
namespace Go.Proofs.YtbokbdcjpbnodaaGreatDoor
open Go.RowKit Go.Maps
set_option maxRecDepth 100000
set_option maxHeartbeats 2000000
theorem spareBytes_v (w : World) (g n cap : Nat) (xs : List Value) (h : Wide w (.slice (some ⟨g, 0, none⟩) n cap) 1 n xs markB) (hn : n ≤ 1048576) :
  Calls Tryz.prog 45 #[.slice (some ⟨g, 0, none⟩) n cap] w fun e w' => e = .returned (.bool true) ∧ Keeps (fun _ => False) w w' := by
 obtain ⟨g', cap', cur, e, h1, h2, h3, h4, h5, h6⟩ := h
 simp only [Value.slice.injEq, Option.some.injEq, Addr.mk.injEq, and_true, true_and] at h1
 obtain ⟨rfl, rfl⟩ := h1
 have HM : Hid (∀ i, i < 16 → ∀ j x, (markB i)[j]? = some x → w.cell? ⟨g, (n + i) * 1 + j, none⟩ = some x) := fun i hi j x hx => Wide.mark h4 h5 h6 (fun _ => rfl) hi hx
 have hg0 := lt_of_block h4
 have b1 : (n : Int) + 16 ≤ (cap : Int) := by omega
 have b2 : n + 16 ≤ cap := h2
 have b0 : (0 : Int) ≤ (n : Int) := by omega
 clear h4 h5 h6 h2 h3
 go_enter Tryz.func45, Tryz.ntmps45
 go_wp2_with fail
 go_loopw [4] (fun i wr => ∃ k : Nat, k ≤ 16 ∧ i = .int .i64 (k : Int) ∧ Hid (Keeps (fun _ => False) w wr)) (fun i _ => 16 - (intOf i).toNat)
 case atStart => exact ⟨0, by omega, rfl, Keeps.refl _ _⟩
 case round =>
  obtain ⟨k, hk, rfl, HK⟩ := hrel
  by_cases hlt : k < 16
  ·have i1 : (k : Int) < 16 := by omega
   have i0' : (0 : Int) ≤ (k : Int) := by omega
   have q1 : (n : Int) + (k : Int) < (n : Int) + 16 := by omega
   have q0 : (0 : Int) ≤ (n : Int) + (k : Int) := by omega
   have qn : ((n : Int) + (k : Int)).toNat = n + k := by omega
   have p0 : wr.cell? ⟨g, n + k, none⟩ = some (.int .u8 (165 + (k : Int))) := by have := ((uh HK).cell hg0 id).trans (uh HM k hlt 0 (.int .u8 (165 + (k : Int))) rfl); simpa using this
   have hcv : IntKind.u8.wrap (165 + (k : Int)) = 165 + (k : Int) := by have e : IntKind.u8.wrap (165 + (k : Int)) = (165 + (k : Int)) % 256 := rfl; rw [e]; omega
   go_wp2_with fail
   go_roundw
   case rel => exact ⟨k + 1, by omega, by go_num, uh HK⟩
   case measure => simp [intOf]; omega
  ·obtain rfl : k = 16 := by omega
   go_wp2_with fail
   go_ret
   exact ⟨rfl, uh HK⟩
end Go.Proofs.YtbokbdcjpbnodaaGreatDoor
namespace Go.Proofs.YtbokbdcjpbnodaaGreatDoor
open Go.RowKit Go.Maps
set_option maxRecDepth 100000
set_option maxHeartbeats 2000000
theorem spareCode_v (w : World) (g n cap : Nat) (xs : List Value) (h : Wide w (.slice (some ⟨g, 0, none⟩) n cap) 3 n xs markC) (hn : n ≤ 1048576) :
  Calls Tryz.prog 44 #[.slice (some ⟨g, 0, none⟩) n cap] w fun e w' => e = .returned (.bool true) ∧ Keeps (fun _ => False) w w' := by
 obtain ⟨g', cap', cur, e, h1, h2, h3, h4, h5, h6⟩ := h
 simp only [Value.slice.injEq, Option.some.injEq, Addr.mk.injEq, and_true, true_and] at h1
 obtain ⟨rfl, rfl⟩ := h1
 have HM : Hid (∀ i, i < 16 → ∀ j x, (markC i)[j]? = some x → w.cell? ⟨g, (n + i) * 3 + j, none⟩ = some x) := fun i hi j x hx => Wide.mark h4 h5 h6 (fun _ => rfl) hi hx
 have hg0 := lt_of_block h4
 have b1 : (n : Int) + 16 ≤ (cap : Int) := by omega
 have b2 : n + 16 ≤ cap := h2
 have b0 : (0 : Int) ≤ (n : Int) := by omega
 clear h4 h5 h6 h2 h3
 go_enter Tryz.func44, Tryz.ntmps44
 go_wp2_with fail
 go_loopw [4] (fun i wr => ∃ k : Nat, k ≤ 16 ∧ i = .int .i64 (k : Int) ∧ Hid (Keeps (fun _ => False) w wr)) (fun i _ => 16 - (intOf i).toNat)
 case atStart => exact ⟨0, by omega, rfl, Keeps.refl _ _⟩
 case round =>
  obtain ⟨k, hk, rfl, HK⟩ := hrel
  by_cases hlt : k < 16
  ·have i1 : (k : Int) < 16 := by omega
   have i0' : (0 : Int) ≤ (k : Int) := by omega
   have q1 : (n : Int) + (k : Int) < (n : Int) + 16 := by omega
   have q0 : (0 : Int) ≤ (n : Int) + (k : Int) := by omega
   have qn : ((n : Int) + (k : Int)).toNat = n + k := by omega
   have p0 : wr.cell? ⟨g, (n + k) * 3, none⟩ = some (.int .i64 (-77 - (k : Int))) := by have := ((uh HK).cell hg0 id).trans (uh HM k hlt 0 (.int .i64 (-77 - (k : Int))) rfl); simpa using this
   have p1 : wr.cell? ⟨g, (n + k) * 3 + 1, none⟩ = some (.int .i64 0) := by have := ((uh HK).cell hg0 id).trans (uh HM k hlt 1 (.int .i64 0) rfl); simpa using this
   have p2 : wr.cell? ⟨g, (n + k) * 3 + 2, none⟩ = some (.string ⟨#[115, 112, 97, 114, 101]⟩) := by have := ((uh HK).cell hg0 id).trans (uh HM k hlt 2 (.string ⟨#[115, 112, 97, 114, 101]⟩) rfl); simpa using this
   go_wp2_with fail
   go_roundw
   case rel => exact ⟨k + 1, by omega, by go_num, uh HK⟩
   case measure => simp [intOf]; omega
  ·obtain rfl : k = 16 := by omega
   go_wp2_with fail
   go_ret
   exact ⟨rfl, uh HK⟩
end Go.Proofs.YtbokbdcjpbnodaaGreatDoor
namespace Go.Proofs.YtbokbdcjpbnodaaGreatDoor
open Go.RowKit Go.Maps
set_option maxRecDepth 100000
set_option maxHeartbeats 2000000
theorem spareVals_v (w : World) (g n cap : Nat) (xs : List Value) (h : Wide w (.slice (some ⟨g, 0, none⟩) n cap) 3 n xs markV) (hn : n ≤ 1048576) :
  Calls Tryz.prog 46 #[.slice (some ⟨g, 0, none⟩) n cap] w fun e w' => e = .returned (.bool true) ∧ Keeps (fun _ => False) w w' := by
 obtain ⟨g', cap', cur, e, h1, h2, h3, h4, h5, h6⟩ := h
 simp only [Value.slice.injEq, Option.some.injEq, Addr.mk.injEq, and_true, true_and] at h1
 obtain ⟨rfl, rfl⟩ := h1
 have HM : Hid (∀ i, i < 16 → ∀ j x, (markV i)[j]? = some x → w.cell? ⟨g, (n + i) * 3 + j, none⟩ = some x) := fun i hi j x hx => Wide.mark h4 h5 h6 (fun _ => rfl) hi hx
 have hg0 := lt_of_block h4
 have b1 : (n : Int) + 16 ≤ (cap : Int) := by omega
 have b2 : n + 16 ≤ cap := h2
 have b0 : (0 : Int) ≤ (n : Int) := by omega
 clear h4 h5 h6 h2 h3
 go_enter Tryz.func46, Tryz.ntmps46
 go_wp2_with fail
 go_loopw [4] (fun i wr => ∃ k : Nat, k ≤ 16 ∧ i = .int .i64 (k : Int) ∧ Hid (Keeps (fun _ => False) w wr)) (fun i _ => 16 - (intOf i).toNat)
 case atStart => exact ⟨0, by omega, rfl, Keeps.refl _ _⟩
 case round =>
  obtain ⟨k, hk, rfl, HK⟩ := hrel
  by_cases hlt : k < 16
  ·have i1 : (k : Int) < 16 := by omega
   have i0' : (0 : Int) ≤ (k : Int) := by omega
   have q1 : (n : Int) + (k : Int) < (n : Int) + 16 := by omega
   have q0 : (0 : Int) ≤ (n : Int) + (k : Int) := by omega
   have qn : ((n : Int) + (k : Int)).toNat = n + k := by omega
   have p0 : wr.cell? ⟨g, (n + k) * 3, none⟩ = some (.int .i64 (-77)) := by have := ((uh HK).cell hg0 id).trans (uh HM k hlt 0 (.int .i64 (-77)) rfl); simpa using this
   have p1 : wr.cell? ⟨g, (n + k) * 3 + 1, none⟩ = some (.int .i64 (k : Int)) := by have := ((uh HK).cell hg0 id).trans (uh HM k hlt 1 (.int .i64 (k : Int)) rfl); simpa using this
   have p2 : wr.cell? ⟨g, (n + k) * 3 + 2, none⟩ = some (.string ⟨#[115, 112, 97, 114, 101]⟩) := by have := ((uh HK).cell hg0 id).trans (uh HM k hlt 2 (.string ⟨#[115, 112, 97, 114, 101]⟩) rfl); simpa using this
   have HQ : Hid (∀ m : KW wr, Calls Tryz.prog 73 #[.int .i64 (k : Int)] m.wd fun e w' => e = .returned (.agg #[.int .i64 (-77), .int .i64 (k : Int), .string ⟨#[115, 112, 97, 114, 101]⟩]) ∧ ∃ m2 : KW wr, w' = m2.wd) := fun m => kw_of m (markV_v k m.wd)
   have r0 : ∀ m : KW wr, m.wd.cell? ⟨g, (n + k) * 3, none⟩ = some (.int .i64 (-77)) := fun m => (m.kept.cell (Nat.lt_of_lt_of_le hg0 (uh HK).size) id).trans p0
   have r1 : ∀ m : KW wr, m.wd.cell? ⟨g, (n + k) * 3 + 1, none⟩ = some (.int .i64 (k : Int)) := fun m => (m.kept.cell (Nat.lt_of_lt_of_le hg0 (uh HK).size) id).trans p1
   have r2 : ∀ m : KW wr, m.wd.cell? ⟨g, (n + k) * 3 + 2, none⟩ = some (.string ⟨#[115, 112, 97, 114, 101]⟩) := fun m => (m.kept.cell (Nat.lt_of_lt_of_le hg0 (uh HK).size) id).trans p2
   go_wp2_with fail
   refine region_kept (by kernel_rfl) (by kernel_rfl) ?_
   repeat (go_big_quiet_step ((go_at_call 73; exact uh HQ _)))
   refine wpQuiet_nil ?_
   rintro _ ⟨nq, rfl⟩
   go_wp2_with fail
   go_roundw
   case rel => exact ⟨k + 1, by omega, by go_num, (uh HK).trans nq.kept⟩
   case measure => simp [intOf]; omega
  ·obtain rfl : k = 16 := by omega
   go_wp2_with fail
   go_ret
   exact ⟨rfl, uh HK⟩
end Go.Proofs.YtbokbdcjpbnodaaGreatDoor
namespace Go.Proofs.YtbokbdcjpbnodaaGreatDoor
open Go.RowKit Go.Maps
set_option maxRecDepth 100000
set_option maxHeartbeats 2000000
theorem spareSchema_v (w : World) (g n cap : Nat) (xs : List Value) (h : Wide w (.slice (some ⟨g, 0, none⟩) n cap) 3 n xs markF) (hn : n ≤ 1048576) :
  Calls Tryz.prog 43 #[.agg #[.slice (some ⟨g, 0, none⟩) n cap]] w fun e w' => e = .returned (.bool true) ∧ Keeps (fun _ => False) w w' := by
 have hkW := kAlloc w (.cells #[.slice (some ⟨g, 0, none⟩) n cap] 24)
 have g0 := heap_alloc_new w (.cells #[.slice (some ⟨g, 0, none⟩) n cap] 24)
 generalize hW : w.alloc (.cells #[.slice (some ⟨g, 0, none⟩) n cap] 24) = W at *
 have cc0 := cl1 g0
 have HWX := hide hkW
 have hs0 := lt_of_block g0
 replace h := h.keepF hkW
 clear g0 hkW
 obtain ⟨g', cap', cur, e, h1, h2, h3, h4, h5, h6⟩ := h
 simp only [Value.slice.injEq, Option.some.injEq, Addr.mk.injEq, and_true, true_and] at h1
 obtain ⟨rfl, rfl⟩ := h1
 have HM : Hid (∀ i, i < 16 → ∀ j x, (markF i)[j]? = some x → W.cell? ⟨g, (n + i) * 3 + j, none⟩ = some x) := fun i hi j x hx => Wide.mark h4 h5 h6 (fun _ => rfl) hi hx
 have hg0 := lt_of_block h4
 have b1 : (n : Int) + 16 ≤ (cap : Int) := by omega
 have b2 : n + 16 ≤ cap := h2
 have b0 : (0 : Int) ≤ (n : Int) := by omega
 clear h4 h5 h6 h2 h3
 go_enter Tryz.func43, Tryz.ntmps43
 go_wp2_with fail
 go_loopw [5] (fun i wr => ∃ k : Nat, k ≤ 16 ∧ i = .int .i64 (k : Int) ∧ Hid (Keeps (fun _ => False) W wr)) (fun i _ => 16 - (intOf i).toNat)
 case atStart => exact ⟨0, by omega, rfl, Keeps.refl _ _⟩
 case round =>
  obtain ⟨k, hk, rfl, HK⟩ := hrel
  by_cases hlt : k < 16
  ·have i1 : (k : Int) < 16 := by omega
   have i0' : (0 : Int) ≤ (k : Int) := by omega
   have q1 : (n : Int) + (k : Int) < (n : Int) + 16 := by omega
   have q0 : (0 : Int) ≤ (n : Int) + (k : Int) := by omega
   have qn : ((n : Int) + (k : Int)).toNat = n + k := by omega
   have p0 : wr.cell? ⟨g, (n + k) * 3, none⟩ = some (.string ⟨#[115, 112, 97, 114, 101]⟩) := by have := ((uh HK).cell hg0 id).trans (uh HM k hlt 0 (.string ⟨#[115, 112, 97, 114, 101]⟩) rfl); simpa using this
   have p1 : wr.cell? ⟨g, (n + k) * 3 + 1, none⟩ = some (.int .i64 (-77 - (k : Int))) := by have := ((uh HK).cell hg0 id).trans (uh HM k hlt 1 (.int .i64 (-77 - (k : Int))) rfl); simpa using this
   have p2 : wr.cell? ⟨g, (n + k) * 3 + 2, none⟩ = some (.bool false) := by have := ((uh HK).cell hg0 id).trans (uh HM k hlt 2 (.bool false) rfl); simpa using this
   have pc := ((uh HK).cell hs0 id).trans cc0
   go_wp2_with fail
   go_roundw
   case rel => exact ⟨k + 1, by omega, by go_num, uh HK⟩
   case measure => simp [intOf]; omega
  ·obtain rfl : k = 16 := by omega
   go_wp2_with fail
   go_ret
   exact ⟨rfl, (uh HWX).trans (uh HK)⟩
end Go.Proofs.YtbokbdcjpbnodaaGreatDoor
namespace Go.Proofs.YtbokbdcjpbnodaaGreatDoor
open Go.RowKit Go.Maps
set_option maxRecDepth 100000
set_option maxHeartbeats 2000000
theorem eqCode_self (w : World) (va vb : Value) (l : List ValA) (h1 : ValsAt w va l) (h2 : ValsAt w vb l) (hl : l.length ≤ maxLen) :
  Calls Tryz.prog 42 #[va, vb] w fun e w' => e = .returned (.bool true) ∧ Keeps (fun _ => False) w w' := by
 obtain ⟨ao, ac, rfl⟩ := RowAt.form h1
 obtain ⟨bo, bc, rfl⟩ := RowAt.form h2
 have H1 := hide h1
 have H2 := hide h2
 have hl' : l.length ≤ 9223372036854775807 := by unfold maxLen at hl; omega
 have hln : (((l.length : Nat) : Int) != ((l.length : Nat) : Int)) = false := by simp
 clear h1 h2 hl
 go_enter Tryz.func42, Tryz.ntmps42
 go_wp2_with fail
 go_loopw [5] (fun i wr => ∃ k : Nat, k ≤ l.length ∧ i = .int .i64 (k : Int) ∧ Hid (Keeps (fun _ => False) w wr)) (fun i _ => l.length - (intOf i).toNat)
 case atStart => exact ⟨0, by omega, rfl, Keeps.refl _ _⟩
 case round =>
  obtain ⟨k, hk, rfl, HK⟩ := hrel
  by_cases hlt : k < l.length
  ·have i1 : (k : Int) < (l.length : Int) := by omega
   have i0' : (0 : Int) ≤ (k : Int) := by omega
   obtain ⟨x, hx⟩ : ∃ x, l[k]? = some x := ⟨_, List.getElem?_eq_getElem hlt⟩
   obtain ⟨b1, off1, c1, e1, hb1, hc1⟩ := (uh H1).cells (by omega)
   simp at e1
   obtain ⟨rfl, rfl⟩ := e1
   obtain ⟨b2, off2, c2, e2, hb2, hc2⟩ := (uh H2).cells (by omega)
   simp at e2
   obtain ⟨rfl, rfl⟩ := e2
   have p0 := ((uh HK).cell hb1 id).trans (hc1 k x hx).1
   have p1 := ((uh HK).cell hb1 id).trans (hc1 k x hx).2.1
   have p2 := ((uh HK).cell hb1 id).trans (hc1 k x hx).2.2
   have q0 := ((uh HK).cell hb2 id).trans (hc2 k x hx).1
   have q1 := ((uh HK).cell hb2 id).trans (hc2 k x hx).2.1
   have q2 := ((uh HK).cell hb2 id).trans (hc2 k x hx).2.2
   have r0 : ∀ m : KW wr, m.wd.cell? ⟨b1, off1 + k * 3, none⟩ = some (.int .i64 x.kind) := fun m => (m.kept.cell (Nat.lt_of_lt_of_le hb1 (uh HK).size) id).trans p0
   have r1 : ∀ m : KW wr, m.wd.cell? ⟨b1, off1 + k * 3 + 1, none⟩ = some (.int .i64 x.n) := fun m => (m.kept.cell (Nat.lt_of_lt_of_le hb1 (uh HK).size) id).trans p1
   have r2 : ∀ m : KW wr, m.wd.cell? ⟨b1, off1 + k * 3 + 2, none⟩ = some (str x.s) := fun m => (m.kept.cell (Nat.lt_of_lt_of_le hb1 (uh HK).size) id).trans p2
   have s0 : ∀ m : KW wr, m.wd.cell? ⟨b2, off2 + k * 3, none⟩ = some (.int .i64 x.kind) := fun m => (m.kept.cell (Nat.lt_of_lt_of_le hb2 (uh HK).size) id).trans q0
   have s1 : ∀ m : KW wr, m.wd.cell? ⟨b2, off2 + k * 3 + 1, none⟩ = some (.int .i64 x.n) := fun m => (m.kept.cell (Nat.lt_of_lt_of_le hb2 (uh HK).size) id).trans q1
   have s2 : ∀ m : KW wr, m.wd.cell? ⟨b2, off2 + k * 3 + 2, none⟩ = some (str x.s) := fun m => (m.kept.cell (Nat.lt_of_lt_of_le hb2 (uh HK).size) id).trans q2
   have e0 : (x.kind != x.kind) = false := by simp
   have e1 : (x.n != x.n) = false := by simp
   have e2 : (x.s != x.s) = false := by simp
   clear hc1 hc2 hx p0 p1 p2 q0 q1 q2
   go_wp2_with fail
   refine region_kept (by kernel_rfl) (by kernel_rfl) ?_
   repeat (go_big_quiet_step (fail))
   refine wpQuiet_nil ?_
   rintro _ ⟨nq, rfl⟩
   go_wp2_with fail
   go_roundw
   case rel => exact ⟨k + 1, by omega, by go_num, (uh HK).trans nq.kept⟩
   case measure => simp [intOf]; omega
  ·obtain rfl : k = l.length := by omega
   go_wp2_with fail
   go_ret
   exact ⟨rfl, uh HK⟩
end Go.Proofs.YtbokbdcjpbnodaaGreatDoor
namespace Go.Proofs.YtbokbdcjpbnodaaGreatDoor
open Go.RowKit Go.Maps
structure Giv (W : World) (S : List FieldA) (cs : List ValA) (bt : Txt) (vals : List ValA) (o1 o2 o3 o4 : Option (Nat × Nat)) (cur : World) : Prop where
 kept : Keeps (fun _ => False) W cur
 s : ∀ g c, o1 = some (g, c) → Wide cur (.slice (some ⟨g, 0, none⟩) S.length c) 3 S.length (fcs S) markF
 c : ∀ g c, o2 = some (g, c) → Wide cur (.slice (some ⟨g, 0, none⟩) cs.length c) 3 cs.length (vcs cs) markC
 b : ∀ g c, o3 = some (g, c) → Wide cur (.slice (some ⟨g, 0, none⟩) bt.length c) 1 bt.length (bs bt) markB
 r : ∀ g c, o4 = some (g, c) → Wide cur (.slice (some ⟨g, 0, none⟩) vals.length c) 3 vals.length (vcs vals) markV
theorem Giv.keepF {W : World} {S : List FieldA} {cs : List ValA} {bt : Txt} {vals : List ValA} {o1 o2 o3 o4 : Option (Nat × Nat)} {cur : World} {w' : World} (h : Giv W S cs bt vals o1 o2 o3 o4 cur) (hk : Keeps (fun _ => False) cur w') : Giv W S cs bt vals o1 o2 o3 o4 w' :=
 ⟨h.kept.trans hk, fun g c e => (h.s g c e).keepF hk, fun g c e => (h.c g c e).keepF hk, fun g c e => (h.b g c e).keepF hk, fun g c e => (h.r g c e).keepF hk⟩
theorem Giv.drew {W : World} {S : List FieldA} {cs : List ValA} {bt : Txt} {vals : List ValA} {o1 o2 o3 o4 : Option (Nat × Nat)} {cur : World} (h : Giv W S cs bt vals o1 o2 o3 o4 cur) : Giv W S cs bt vals o1 o2 o3 o4 cur.drew := h.keepF (Keeps.refl _ _).drew
theorem giv_s {W : World} {S : List FieldA} {cs : List ValA} {bt : Txt} {vals : List ValA} {o2 o3 o4 : Option (Nat × Nat)} {cur : World} {v : Value} (h : Giv W S cs bt vals none o2 o3 o4 cur) (hv : FldsAt W v S) (hl : S.length ≤ 1048576) :
  Calls Tryz.prog 33 #[.agg #[v]] cur fun e w' => ∃ g c, e = .returned (.agg #[.slice (some ⟨g, 0, none⟩) S.length c]) ∧ Giv W S cs bt vals (some (g, c)) o2 o3 o4 w' := by
 refine (wideSchema_v cur v S (hv.keepF h.kept) hl).mono ?_
 rintro e w' ⟨g, c, rfl, _, hw, hk⟩
 have h2 := h.keepF hk
 refine ⟨g, c, rfl, h2.kept, fun g' c' e => ?_, h2.c, h2.b, h2.r⟩
 simp only [Option.some.injEq, Prod.mk.injEq] at e
 obtain ⟨rfl, rfl⟩ := e
 exact hw
theorem giv_c {W : World} {S : List FieldA} {cs : List ValA} {bt : Txt} {vals : List ValA} {o1 o3 o4 : Option (Nat × Nat)} {cur : World} {v : Value} (h : Giv W S cs bt vals o1 none o3 o4 cur) (hv : ValsAt W v cs) (hl : cs.length ≤ 1048576) :
  Calls Tryz.prog 34 #[v] cur fun e w' => ∃ g c, e = .returned (.slice (some ⟨g, 0, none⟩) cs.length c) ∧ Giv W S cs bt vals o1 (some (g, c)) o3 o4 w' := by
 refine (wideCode_v cur v cs (hv.keepF h.kept) hl).mono ?_
 rintro e w' ⟨g, c, rfl, _, hw, hk⟩
 have h2 := h.keepF hk
 refine ⟨g, c, rfl, h2.kept, h2.s, fun g' c' e => ?_, h2.b, h2.r⟩
 simp only [Option.some.injEq, Prod.mk.injEq] at e
 obtain ⟨rfl, rfl⟩ := e
 exact hw
theorem giv_b {W : World} {S : List FieldA} {cs : List ValA} {bt : Txt} {vals : List ValA} {o1 o2 o4 : Option (Nat × Nat)} {cur : World} {v : Value} (h : Giv W S cs bt vals o1 o2 none o4 cur) (hv : BytesAt W v bt) (hl : bt.length ≤ 1048576) :
  Calls Tryz.prog 35 #[v] cur fun e w' => ∃ g c, e = .returned (.slice (some ⟨g, 0, none⟩) bt.length c) ∧ Giv W S cs bt vals o1 o2 (some (g, c)) o4 w' := by
 refine (wideBytes_v cur v bt (hv.keepF h.kept) hl).mono ?_
 rintro e w' ⟨g, c, rfl, _, hw, hk⟩
 have h2 := h.keepF hk
 refine ⟨g, c, rfl, h2.kept, h2.s, h2.c, fun g' c' e => ?_, h2.r⟩
 simp only [Option.some.injEq, Prod.mk.injEq] at e
 obtain ⟨rfl, rfl⟩ := e
 exact hw
theorem giv_r {W : World} {S : List FieldA} {cs : List ValA} {bt : Txt} {vals : List ValA} {o1 o2 o3 : Option (Nat × Nat)} {cur : World} {v : Value} (hh : Bool) (h : Giv W S cs bt vals o1 o2 o3 none cur) (hv : ValsAt W v vals) (hl : vals.length ≤ 1048576) :
  Calls Tryz.prog 36 #[.agg #[.bool hh, v]] cur fun e w' => ∃ g c, e = .returned (.agg #[.bool hh, .slice (some ⟨g, 0, none⟩) vals.length c]) ∧ Giv W S cs bt vals o1 o2 o3 (some (g, c)) w' := by
 refine (wideRow_v cur hh v vals (hv.keepF h.kept) hl).mono ?_
 rintro e w' ⟨g, c, rfl, _, hw, hk⟩
 have h2 := h.keepF hk
 refine ⟨g, c, rfl, h2.kept, h2.s, h2.c, h2.b, fun g' c' e => ?_⟩
 simp only [Option.some.injEq, Prod.mk.injEq] at e
 obtain ⟨rfl, rfl⟩ := e
 exact hw
structure GivenAt (w : World) (p : Nat) (S : List FieldA) (cs : List ValA) (bt : Txt) (hh : Bool) (vals : List ValA) (gs ks gc kc gb kb gr kr : Nat) : Prop where
 blk : w.heap[p]? = some (.cells #[.slice (some ⟨gs, 0, none⟩) S.length ks, .slice (some ⟨gc, 0, none⟩) cs.length kc, .slice (some ⟨gb, 0, none⟩) bt.length kb, .bool hh, .slice (some ⟨gr, 0, none⟩) vals.length kr] 38 (0, 0))
 s : Wide w (.slice (some ⟨gs, 0, none⟩) S.length ks) 3 S.length (fcs S) markF
 c : Wide w (.slice (some ⟨gc, 0, none⟩) cs.length kc) 3 cs.length (vcs cs) markC
 b : Wide w (.slice (some ⟨gb, 0, none⟩) bt.length kb) 1 bt.length (bs bt) markB
 r : Wide w (.slice (some ⟨gr, 0, none⟩) vals.length kr) 3 vals.length (vcs vals) markV
theorem GivenAt.keepF {w w' : World} {p : Nat} {S : List FieldA} {cs : List ValA} {bt : Txt} {hh : Bool} {vals : List ValA} {gs ks gc kc gb kb gr kr : Nat} (h : GivenAt w p S cs bt hh vals gs ks gc kc gb kb gr kr) (hk : Keeps (fun _ => False) w w') : GivenAt w' p S cs bt hh vals gs ks gc kc gb kb gr kr :=
 ⟨blk_keep h.blk hk, h.s.keepF hk, h.c.keepF hk, h.b.keepF hk, h.r.keepF hk⟩
theorem Giv.fin {W : World} {S : List FieldA} {cs : List ValA} {bt : Txt} {vals : List ValA} {cur : World} {gs ks gc kc gb kb gr kr : Nat} (hh : Bool) (h : Giv W S cs bt vals (some (gs, ks)) (some (gc, kc)) (some (gb, kb)) (some (gr, kr)) cur) :
  GivenAt (cur.alloc (.cells #[.slice (some ⟨gs, 0, none⟩) S.length ks, .slice (some ⟨gc, 0, none⟩) cs.length kc, .slice (some ⟨gb, 0, none⟩) bt.length kb, .bool hh, .slice (some ⟨gr, 0, none⟩) vals.length kr] 38)) cur.heap.size S cs bt hh vals gs ks gc kc gb kb gr kr :=
 have hk := kAlloc cur (.cells #[.slice (some ⟨gs, 0, none⟩) S.length ks, .slice (some ⟨gc, 0, none⟩) cs.length kc, .slice (some ⟨gb, 0, none⟩) bt.length kb, .bool hh, .slice (some ⟨gr, 0, none⟩) vals.length kr] 38)
 ⟨heap_alloc_new cur _, (h.s _ _ rfl).keepF hk, (h.c _ _ rfl).keepF hk, (h.b _ _ rfl).keepF hk, (h.r _ _ rfl).keepF hk⟩
theorem cl5 {w : World} {b : Nat} {c0 c1 c2 c3 c4 : Value} {t : TypeId} (h : w.heap[b]? = some (.cells #[c0, c1, c2, c3, c4] t (0, 0))) : w.cell? ⟨b, 0, none⟩ = some c0 ∧ w.cell? ⟨b, 1, none⟩ = some c1 ∧ w.cell? ⟨b, 2, none⟩ = some c2 ∧ w.cell? ⟨b, 3, none⟩ = some c3 ∧ w.cell? ⟨b, 4, none⟩ = some c4 :=
 ⟨(cell_of_blk h _).trans rfl, (cell_of_blk h _).trans rfl, (cell_of_blk h _).trans rfl, (cell_of_blk h _).trans rfl, (cell_of_blk h _).trans rfl⟩
end Go.Proofs.YtbokbdcjpbnodaaGreatDoor
namespace Go.Proofs.YtbokbdcjpbnodaaGreatDoor
open Go.RowKit Go.Maps
set_option maxRecDepth 100000
set_option maxHeartbeats 8000000
theorem given_v (S : List FieldA) (cs : List ValA) (bt : Txt) (hh : Bool) (vals : List ValA) (sv cv bv rv : Value) (w : World) (hS : FldsAt w sv S) (hc : ValsAt w cv cs) (hb : BytesAt w bv bt) (hr : ValsAt w rv vals) (lS : S.length ≤ 1048576) (lc : cs.length ≤ 1048576) (lb : bt.length ≤ 1048576) (lr : vals.length ≤ 1048576) :
  Calls Tryz.prog 9 #[.agg #[sv], cv, bv, .agg #[.bool hh, rv]] w fun e w' => ∃ p gs ks gc kc gb kb gr kr, e = .returned (.pointer (some ⟨p, 0, none⟩)) ∧ GivenAt w' p S cs bt hh vals gs ks gc kc gb kb gr kr ∧ Keeps (fun _ => False) w w' := by
 obtain ⟨so, sc, rfl⟩ := RowAt.form hS
 obtain ⟨co, cc, rfl⟩ := RowAt.form hc
 obtain ⟨bo, bc, rfl⟩ := RowAt.form hb
 obtain ⟨ro, rc, rfl⟩ := RowAt.form hr
 obtain ⟨W, hW, hkW, g0, g1⟩ := boxes2 w #[.slice so S.length sc] #[.bool hh, .slice ro vals.length rc] 24 28
 have HWX := hide hkW
 have Ps := hide (hS.keepF hkW)
 have Pc := hide (hc.keepF hkW)
 have Pb := hide (hb.keepF hkW)
 have Pr := hide (hr.keepF hkW)
 have HSK : Hid (∀ w', Keeps (fun _ => False) W w' → w'.cell? ⟨w.heap.size, 0, none⟩ = some (.slice so S.length sc) ∧ w'.cell? ⟨w.heap.size + 1, 0, none⟩ = some (.bool hh) ∧ w'.cell? ⟨w.heap.size + 1, 1, none⟩ = some (.slice ro vals.length rc)) := fun w' hk => by
  have x1 := blk_keep g0 hk
  have x2 := blk_keep g1 hk
  exact ⟨(cell_of_blk x1 _).trans rfl, (cell_of_blk x2 _).trans rfl, (cell_of_blk x2 _).trans rfl⟩
 have HL : Hid (Giv W S cs bt vals none none none none W) := ⟨Keeps.refl _ _, fun _ _ e => (by cases e), fun _ _ e => (by cases e), fun _ _ e => (by cases e), fun _ _ e => (by cases e)⟩
 obtain ⟨a0, a1, a2⟩ := uh HSK W (Keeps.refl _ _)
 clear g0 g1 hkW hS hc hb hr
 go_enter Tryz.func9, Tryz.ntmps9
 go_wp2_with fail
 go_region_held3 (fun w' => w'.cell? ⟨w.heap.size, 0, none⟩ = some (.slice so S.length sc) ∧ w'.cell? ⟨w.heap.size + 1, 0, none⟩ = some (.bool hh) ∧ w'.cell? ⟨w.heap.size + 1, 1, none⟩ = some (.slice ro vals.length rc))
  (first | with_reducible exact uh HSK _ (uh HL).kept | with_reducible exact uh HSK _ (uh HL).kept.drew | with_reducible exact uh HSK _ ((uh HL).kept.alloc _))
  ((first
  | (go_at_call 33; refine (giv_s (by first | with_reducible exact uh HL | with_reducible exact (uh HL).drew) (uh Ps) lS).mono ?_; rintro e w1 ⟨gs, ks, rfl, hl1⟩; have HL := hide hl1; clear hl1)
  | (go_at_call 34; refine (giv_c (by first | with_reducible exact uh HL | with_reducible exact (uh HL).drew) (uh Pc) lc).mono ?_; rintro e w1 ⟨gc, kc, rfl, hl1⟩; have HL := hide hl1; clear hl1)
  | (go_at_call 35; refine (giv_b (by first | with_reducible exact uh HL | with_reducible exact (uh HL).drew) (uh Pb) lb).mono ?_; rintro e w1 ⟨gb, kb, rfl, hl1⟩; have HL := hide hl1; clear hl1)
  | (go_at_call 36; refine (giv_r hh (by first | with_reducible exact uh HL | with_reducible exact (uh HL).drew) (uh Pr) lr).mono ?_; rintro e w1 ⟨gr, kr, rfl, hl1⟩; have HL := hide hl1; clear hl1)))
 all_goals go_wp2_with fail
 all_goals
  go_ret
  exact ⟨_, _, _, _, _, _, _, _, _, rfl, (uh HL).fin hh, (uh HWX).trans ((uh HL).kept.alloc _)⟩
end Go.Proofs.YtbokbdcjpbnodaaGreatDoor
namespace Go.Proofs.YtbokbdcjpbnodaaGreatDoor
open Go.RowKit Go.Maps
set_option maxRecDepth 100000
set_option maxHeartbeats 8000000
theorem still_v (S : List FieldA) (cs : List ValA) (bt : Txt) (hh : Bool) (vals : List ValA) (sv cv bv rv : Value) (w : World) (p gs ks gc kc gb kb gr kr : Nat) (hG : GivenAt w p S cs bt hh vals gs ks gc kc gb kb gr kr) (hS : FldsAt w sv S) (hc : ValsAt w cv cs) (hb : BytesAt w bv bt) (hr : ValsAt w rv vals) (lS : S.length ≤ 1048576) (lc : cs.length ≤ 1048576) (lb : bt.length ≤ 1048576) (lr : vals.length ≤ 1048576) :
  Calls Tryz.prog 13 #[.pointer (some ⟨p, 0, none⟩), .agg #[sv], cv, bv, .agg #[.bool hh, rv]] w fun e w' => e = .returned (.bool true) ∧ Keeps (fun _ => False) w w' := by
 obtain ⟨so, sc, rfl⟩ := RowAt.form hS
 obtain ⟨co, cc, rfl⟩ := RowAt.form hc
 obtain ⟨bo, bc, rfl⟩ := RowAt.form hb
 obtain ⟨ro, rc, rfl⟩ := RowAt.form hr
 obtain ⟨W, hW, hkW, g0, g1⟩ := boxes2 w #[.slice so S.length sc] #[.bool hh, .slice ro vals.length rc] 24 28
 have HWX := hide hkW
 have Ps := hide (hS.keepF hkW)
 have Pc := hide (hc.keepF hkW)
 have Pb := hide (hb.keepF hkW)
 have Pr := hide (hr.keepF hkW)
 have HG := hide (hG.keepF hkW)
 have B0 := hide g0
 have B1 := hide g1
 have mS : S.length ≤ maxLen := by unfold maxLen; omega
 have mc : cs.length ≤ maxLen := by unfold maxLen; omega
 have mb : bt.length ≤ maxLen := by unfold maxLen; omega
 have mr : vals.length ≤ maxLen := by unfold maxLen; omega
 have HSK : Hid (∀ X : World, Keeps (fun _ => False) W X → ∀ m : KW X, m.wd.cell? ⟨w.heap.size, 0, none⟩ = some (.slice so S.length sc) ∧ m.wd.cell? ⟨w.heap.size + 1, 0, none⟩ = some (.bool hh) ∧ m.wd.cell? ⟨w.heap.size + 1, 1, none⟩ = some (.slice ro vals.length rc) ∧
   m.wd.cell? ⟨p, 0, none⟩ = some (.slice (some ⟨gs, 0, none⟩) S.length ks) ∧ m.wd.cell? ⟨p, 1, none⟩ = some (.slice (some ⟨gc, 0, none⟩) cs.length kc) ∧ m.wd.cell? ⟨p, 2, none⟩ = some (.slice (some ⟨gb, 0, none⟩) bt.length kb) ∧ m.wd.cell? ⟨p, 3, none⟩ = some (.bool hh) ∧ m.wd.cell? ⟨p, 4, none⟩ = some (.slice (some ⟨gr, 0, none⟩) vals.length kr)) := fun X hX m => by
  have hk := hX.trans m.kept
  have x1 := blk_keep (uh B0) hk
  have x2 := blk_keep (uh B1) hk
  obtain ⟨y0, y1, y2, y3, y4⟩ := cl5 (blk_keep (uh HG).blk hk)
  exact ⟨(cell_of_blk x1 _).trans rfl, (cell_of_blk x2 _).trans rfl, (cell_of_blk x2 _).trans rfl, y0, y1, y2, y3, y4⟩
 have Q24 : Hid (∀ X : World, Keeps (fun _ => False) W X → ∀ m : KW X, Calls Tryz.prog 24 #[.agg #[.slice (some ⟨gs, 0, none⟩) S.length ks], .agg #[.slice so S.length sc]] m.wd fun e w' => e = .returned (.bool true) ∧ ∃ m2 : KW X, w' = m2.wd) := fun X hX m => by
  have h := eqSchema_any m.wd _ _ S S ((uh HG).s.row.keepF (hX.trans m.kept)) ((uh Ps).keepF (hX.trans m.kept)) mS
  rw [decide_eq_true (show S = S from rfl)] at h
  exact kw_of m h
 have Q42 : Hid (∀ X : World, Keeps (fun _ => False) W X → ∀ m : KW X, Calls Tryz.prog 42 #[.slice (some ⟨gc, 0, none⟩) cs.length kc, .slice co cs.length cc] m.wd fun e w' => e = .returned (.bool true) ∧ ∃ m2 : KW X, w' = m2.wd) := fun X hX m =>
  kw_of m (eqCode_self m.wd _ _ cs ((uh HG).c.row.keepF (hX.trans m.kept)) ((uh Pc).keepF (hX.trans m.kept)) mc)
 have Q47 : Hid (∀ X : World, Keeps (fun _ => False) W X → ∀ m : KW X, Calls Tryz.prog 47 #[.slice (some ⟨gb, 0, none⟩) bt.length kb, .slice bo bt.length bc] m.wd fun e w' => e = .returned (.bool true) ∧ ∃ m2 : KW X, w' = m2.wd) := fun X hX m => by
  have h := eqBytes_any m.wd _ _ bt bt ((uh HG).b.row.keepF (hX.trans m.kept)) ((uh Pb).keepF (hX.trans m.kept)) mb
  rw [decide_eq_true (show bt = bt from rfl)] at h
  exact kw_of m (h.mono fun e w' ⟨he, n, hn⟩ => ⟨he, by rw [hn]; exact (Keeps.refl _ _).drewN n⟩)
 have Q12 : Hid (∀ X : World, Keeps (fun _ => False) W X → ∀ m : KW X, Calls Tryz.prog 12 #[.agg #[.bool hh, .slice (some ⟨gr, 0, none⟩) vals.length kr], .agg #[.bool hh, .slice ro vals.length rc]] m.wd fun e w' => e = .returned (.bool true) ∧ ∃ m2 : KW X, w' = m2.wd) := fun X hX m => by
  have h := eqRow_v m.wd hh hh _ _ vals vals ((uh HG).r.row.keepF (hX.trans m.kept)) ((uh Pr).keepF (hX.trans m.kept)) mr
  rw [decide_eq_true (show hh = hh from rfl), decide_eq_true (show vals = vals from rfl)] at h
  simp only [Bool.and_true] at h
  exact kw_of m h
 have a0 := cl1 (uh B0)
 obtain ⟨a1, a2⟩ := cl2 (uh B1)
 obtain ⟨a3, a4, a5, a6, a7⟩ := cl5 (uh HG).blk
 clear g0 g1 hkW hS hc hb hr hG
 go_enter Tryz.func13, Tryz.ntmps13
 go_wp2_with fail
 have k0 := fun m => (uh HSK W (Keeps.refl _ _) m).1
 have k3 := fun m => (uh HSK W (Keeps.refl _ _) m).2.2.2.1
 have k4 := fun m => (uh HSK W (Keeps.refl _ _) m).2.2.2.2.1
 refine region_kept (by kernel_rfl) (by kernel_rfl) ?_
 repeat (go_big_quiet_step ((first | (go_at_call 24; exact uh Q24 W (Keeps.refl _ _) _) | (go_at_call 42; exact uh Q42 W (Keeps.refl _ _) _))))
 refine wpQuiet_nil ?_
 rintro _ ⟨n1, rfl⟩
 clear k0 k3 k4 a0 a1 a2 a3 a4 a5 a6 a7
 have K1 := hide n1.kept
 generalize n1.wd = X1 at *
 obtain ⟨_, _, _, b3, b4, b5, _, b7⟩ := uh HSK X1 (uh K1) ⟨X1, Keeps.refl _ _⟩
 have HQ := hide (spareSchema_v X1 gs S.length ks _ ((uh HG).s.keepF (uh K1)) lS)
 go_wp2_with fail
 refine (uh HQ).mono ?_
 rintro e w2 ⟨rfl, hk⟩
 have K2 := hide ((uh K1).trans hk)
 clear HQ b3 b4 b5 b7 hk
 obtain ⟨_, _, _, b3, b4, b5, _, b7⟩ := uh HSK w2 (uh K2) ⟨w2, Keeps.refl _ _⟩
 have HQ := hide (spareCode_v w2 gc cs.length kc _ ((uh HG).c.keepF (uh K2)) lc)
 go_wp2_with fail
 refine (uh HQ).mono ?_
 rintro e w3 ⟨rfl, hk⟩
 have K3 := hide ((uh K2).trans hk)
 clear HQ b3 b4 b5 b7 hk
 obtain ⟨_, _, _, b3, b4, b5, _, b7⟩ := uh HSK w3 (uh K3) ⟨w3, Keeps.refl _ _⟩
 have HQ := hide (spareBytes_v w3 gb bt.length kb _ ((uh HG).b.keepF (uh K3)) lb)
 go_wp2_with fail
 refine (uh HQ).mono ?_
 rintro e w4 ⟨rfl, hk⟩
 have K4 := hide ((uh K3).trans hk)
 clear HQ b3 b4 b5 b7 hk
 obtain ⟨_, _, _, b3, b4, b5, _, b7⟩ := uh HSK w4 (uh K4) ⟨w4, Keeps.refl _ _⟩
 have HQ := hide (spareVals_v w4 gr vals.length kr _ ((uh HG).r.keepF (uh K4)) lr)
 go_wp2_with fail
 refine (uh HQ).mono ?_
 rintro e w5 ⟨rfl, hk⟩
 have K5 := hide ((uh K4).trans hk)
 clear HQ b3 b4 b5 b7 hk
 have k1 := fun m => (uh HSK w5 (uh K5) m).2.1
 have k2 := fun m => (uh HSK w5 (uh K5) m).2.2.1
 have k5 := fun m => (uh HSK w5 (uh K5) m).2.2.2.2.2.1
 have k6 := fun m => (uh HSK w5 (uh K5) m).2.2.2.2.2.2.1
 have k7 := fun m => (uh HSK w5 (uh K5) m).2.2.2.2.2.2.2
 go_wp2_with fail
 refine region_kept (by kernel_rfl) (by kernel_rfl) ?_
 repeat (go_big_quiet_step ((first | (go_at_call 47; exact uh Q47 w5 (uh K5) _) | (go_at_call 12; exact uh Q12 w5 (uh K5) _))))
 refine wpQuiet_nil ?_
 rintro _ ⟨n6, rfl⟩
 go_wp2_with fail
 go_ret
 exact ⟨rfl, (uh HWX).trans ((uh K5).trans n6.kept)⟩
end Go.Proofs.YtbokbdcjpbnodaaGreatDoor
namespace Go.Proofs.YtbokbdcjpbnodaaGreatDoor
open Go.RowKit Go.Maps
theorem vals_nil (w : World) : ValsAt w (.slice none 0 0) [] := ⟨⟨_, _, rfl⟩, fun h => absurd h (by simp), fun ao m c e => by simp at e; omega⟩
theorem kset2N {w : World} {N b : Nat} (h : N ≤ b) (x y : Value) : Keeps (fun q => N ≤ q) w ((w.setCell ⟨b, 0, none⟩ x).setCell ⟨b, 1, none⟩ y) :=
 Keeps.setCell (F := fun q => N ≤ q) (p := ⟨b, 1, none⟩) (Keeps.setCell (F := fun q => N ≤ q) (p := ⟨b, 0, none⟩) (Keeps.refl _ w) (fun _ => h) x) (fun _ => h) y
theorem kset4N {w : World} {N b : Nat} (h : N ≤ b) (x y z v : Value) : Keeps (fun q => N ≤ q) w ((((w.setCell ⟨b, 0, none⟩ x).setCell ⟨b, 1, none⟩ y).setCell ⟨b, 2, none⟩ z).setCell ⟨b, 3, none⟩ v) :=
 Keeps.setCell (F := fun q => N ≤ q) (p := ⟨b, 3, none⟩) (Keeps.setCell (F := fun q => N ≤ q) (p := ⟨b, 2, none⟩) (kset2N h x y) (fun _ => h) z) (fun _ => h) v
theorem bytes_nil (w : World) : BytesAt w (.slice none 0 0) [] := ⟨⟨_, _, rfl⟩, fun h => absurd h (by simp), fun ao m c e => by simp at e; omega⟩
end Go.Proofs.YtbokbdcjpbnodaaGreatDoor
