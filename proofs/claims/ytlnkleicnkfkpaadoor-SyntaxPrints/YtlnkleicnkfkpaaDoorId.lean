import Derived.Test.YtlnkleicnkfkpaaDoorIc
namespace Go.Proofs.YtlnkleicnkfkpaaDoor
open Go.RowKit Go.Maps

set_option maxRecDepth 100000 in
set_option maxHeartbeats 600000 in
theorem writeSet_v (B b : Nat) (t f : Txt) (xa ta ea : Option Addr) (xn xc tn tc en ec : Nat) (w : World) (X : Txt) (hC : ∀ w', Keeps (fun _ => False) w w' → Calls Tryd.prog 58 #[.pointer (some ⟨b, 0, none⟩), stV 1 f (.slice xa xn xc) (.slice ta tn tc) (.slice ea en ec), str [32, 61, 32]] w' fun e w'' => e = .returned (.tuple #[]) ∧ Lib.IsBuilder 60 5 B b (bs (t ++ X)) w'' ∧ Keeps (KB w' B b) w' w'') :
    Calls Tryd.prog 44 #[.pointer (some ⟨b, 0, none⟩), stV 1 f (.slice xa xn xc) (.slice ta tn tc) (.slice ea en ec)] w fun e w' => e = .returned (.tuple #[]) ∧ Lib.IsBuilder 60 5 B b (bs (t ++ X)) w' ∧ Keeps (KB w B b) w w' := by
  obtain ⟨hk1, hz1, hx1, hxc⟩ := boxA w #[.int .i64 1, str f, .slice xa xn xc, .slice ta tn tc, .slice ea en ec] 51
  have HK1 := hide hk1
  have c0 := hxc 0 (.int .i64 1) rfl
  have c1 := hxc 1 (str f) rfl
  have c2 := hxc 2 (.slice xa xn xc) rfl
  have c3 := hxc 3 (.slice ta tn tc) rfl
  have c4 := hxc 4 (.slice ea en ec) rfl
  have HC := hide (hC _ hk1)
  clear hxc hk1 hx1 hC
  generalize hw1 : w.alloc (.cells #[.int .i64 1, str f, .slice xa xn xc, .slice ta tn tc, .slice ea en ec] 51) = w1 at *
  go_enter Tryd.func44, Tryd.ntmps44
  go_wp2_with fail
  clear hw1
  refine (unhide HC).mono ?_
  rintro e w3 ⟨rfl, hi3, hk3⟩
  have HI3 := hide hi3
  have HK3 := hide (kb_trans (unhide HK1).any hk3)
  clear hi3 hk3
  go_wp2_with fail
  go_end0
  exact ⟨rfl, unhide HI3, unhide HK3⟩

set_option maxRecDepth 100000 in
set_option maxHeartbeats 600000 in
theorem writeAdd_v (B b : Nat) (t f : Txt) (xa ta ea : Option Addr) (xn xc tn tc en ec : Nat) (w : World) (X : Txt) (hC : ∀ w', Keeps (fun _ => False) w w' → Calls Tryd.prog 58 #[.pointer (some ⟨b, 0, none⟩), stV 2 f (.slice xa xn xc) (.slice ta tn tc) (.slice ea en ec), str [32, 43, 61, 32]] w' fun e w'' => e = .returned (.tuple #[]) ∧ Lib.IsBuilder 60 5 B b (bs (t ++ X)) w'' ∧ Keeps (KB w' B b) w' w'') :
    Calls Tryd.prog 44 #[.pointer (some ⟨b, 0, none⟩), stV 2 f (.slice xa xn xc) (.slice ta tn tc) (.slice ea en ec)] w fun e w' => e = .returned (.tuple #[]) ∧ Lib.IsBuilder 60 5 B b (bs (t ++ X)) w' ∧ Keeps (KB w B b) w w' := by
  obtain ⟨hk1, hz1, hx1, hxc⟩ := boxA w #[.int .i64 2, str f, .slice xa xn xc, .slice ta tn tc, .slice ea en ec] 51
  have HK1 := hide hk1
  have c0 := hxc 0 (.int .i64 2) rfl
  have c1 := hxc 1 (str f) rfl
  have c2 := hxc 2 (.slice xa xn xc) rfl
  have c3 := hxc 3 (.slice ta tn tc) rfl
  have c4 := hxc 4 (.slice ea en ec) rfl
  have HC := hide (hC _ hk1)
  clear hxc hk1 hx1 hC
  generalize hw1 : w.alloc (.cells #[.int .i64 2, str f, .slice xa xn xc, .slice ta tn tc, .slice ea en ec] 51) = w1 at *
  go_enter Tryd.func44, Tryd.ntmps44
  go_wp2_with fail
  clear hw1
  refine (unhide HC).mono ?_
  rintro e w3 ⟨rfl, hi3, hk3⟩
  have HI3 := hide hi3
  have HK3 := hide (kb_trans (unhide HK1).any hk3)
  clear hi3 hk3
  go_wp2_with fail
  go_end0
  exact ⟨rfl, unhide HI3, unhide HK3⟩

set_option maxRecDepth 100000 in
set_option maxHeartbeats 600000 in
theorem writeMin_v (B b : Nat) (t f : Txt) (xa ta ea : Option Addr) (xn xc tn tc en ec : Nat) (w : World) (X : Txt) (hC : ∀ w', Keeps (fun _ => False) w w' → Calls Tryd.prog 58 #[.pointer (some ⟨b, 0, none⟩), stV 3 f (.slice xa xn xc) (.slice ta tn tc) (.slice ea en ec), str [32, 109, 105, 110, 61, 32]] w' fun e w'' => e = .returned (.tuple #[]) ∧ Lib.IsBuilder 60 5 B b (bs (t ++ X)) w'' ∧ Keeps (KB w' B b) w' w'') :
    Calls Tryd.prog 44 #[.pointer (some ⟨b, 0, none⟩), stV 3 f (.slice xa xn xc) (.slice ta tn tc) (.slice ea en ec)] w fun e w' => e = .returned (.tuple #[]) ∧ Lib.IsBuilder 60 5 B b (bs (t ++ X)) w' ∧ Keeps (KB w B b) w w' := by
  obtain ⟨hk1, hz1, hx1, hxc⟩ := boxA w #[.int .i64 3, str f, .slice xa xn xc, .slice ta tn tc, .slice ea en ec] 51
  have HK1 := hide hk1
  have c0 := hxc 0 (.int .i64 3) rfl
  have c1 := hxc 1 (str f) rfl
  have c2 := hxc 2 (.slice xa xn xc) rfl
  have c3 := hxc 3 (.slice ta tn tc) rfl
  have c4 := hxc 4 (.slice ea en ec) rfl
  have HC := hide (hC _ hk1)
  clear hxc hk1 hx1 hC
  generalize hw1 : w.alloc (.cells #[.int .i64 3, str f, .slice xa xn xc, .slice ta tn tc, .slice ea en ec] 51) = w1 at *
  go_enter Tryd.func44, Tryd.ntmps44
  go_wp2_with fail
  clear hw1
  refine (unhide HC).mono ?_
  rintro e w3 ⟨rfl, hi3, hk3⟩
  have HI3 := hide hi3
  have HK3 := hide (kb_trans (unhide HK1).any hk3)
  clear hi3 hk3
  go_wp2_with fail
  go_end0
  exact ⟨rfl, unhide HI3, unhide HK3⟩

set_option maxRecDepth 100000 in
set_option maxHeartbeats 600000 in
theorem writeMax_v (B b : Nat) (t f : Txt) (xa ta ea : Option Addr) (xn xc tn tc en ec : Nat) (w : World) (X : Txt) (hC : ∀ w', Keeps (fun _ => False) w w' → Calls Tryd.prog 58 #[.pointer (some ⟨b, 0, none⟩), stV 4 f (.slice xa xn xc) (.slice ta tn tc) (.slice ea en ec), str [32, 109, 97, 120, 61, 32]] w' fun e w'' => e = .returned (.tuple #[]) ∧ Lib.IsBuilder 60 5 B b (bs (t ++ X)) w'' ∧ Keeps (KB w' B b) w' w'') :
    Calls Tryd.prog 44 #[.pointer (some ⟨b, 0, none⟩), stV 4 f (.slice xa xn xc) (.slice ta tn tc) (.slice ea en ec)] w fun e w' => e = .returned (.tuple #[]) ∧ Lib.IsBuilder 60 5 B b (bs (t ++ X)) w' ∧ Keeps (KB w B b) w w' := by
  obtain ⟨hk1, hz1, hx1, hxc⟩ := boxA w #[.int .i64 4, str f, .slice xa xn xc, .slice ta tn tc, .slice ea en ec] 51
  have HK1 := hide hk1
  have c0 := hxc 0 (.int .i64 4) rfl
  have c1 := hxc 1 (str f) rfl
  have c2 := hxc 2 (.slice xa xn xc) rfl
  have c3 := hxc 3 (.slice ta tn tc) rfl
  have c4 := hxc 4 (.slice ea en ec) rfl
  have HC := hide (hC _ hk1)
  clear hxc hk1 hx1 hC
  generalize hw1 : w.alloc (.cells #[.int .i64 4, str f, .slice xa xn xc, .slice ta tn tc, .slice ea en ec] 51) = w1 at *
  go_enter Tryd.func44, Tryd.ntmps44
  go_wp2_with fail
  clear hw1
  refine (unhide HC).mono ?_
  rintro e w3 ⟨rfl, hi3, hk3⟩
  have HI3 := hide hi3
  have HK3 := hide (kb_trans (unhide HK1).any hk3)
  clear hi3 hk3
  go_wp2_with fail
  go_end0
  exact ⟨rfl, unhide HI3, unhide HK3⟩

set_option maxRecDepth 100000 in
set_option maxHeartbeats 600000 in
theorem writeIf_v (B b : Nat) (t f : Txt) (xa ta ea : Option Addr) (xn xc tn tc en ec : Nat) (w : World) (X : Txt) (hC : ∀ w', Keeps (fun _ => False) w w' → Calls Tryd.prog 59 #[.pointer (some ⟨b, 0, none⟩), stV 8 f (.slice xa xn xc) (.slice ta tn tc) (.slice ea en ec)] w' fun e w'' => e = .returned (.tuple #[]) ∧ Lib.IsBuilder 60 5 B b (bs (t ++ X)) w'' ∧ Keeps (KB w' B b) w' w'') :
    Calls Tryd.prog 44 #[.pointer (some ⟨b, 0, none⟩), stV 8 f (.slice xa xn xc) (.slice ta tn tc) (.slice ea en ec)] w fun e w' => e = .returned (.tuple #[]) ∧ Lib.IsBuilder 60 5 B b (bs (t ++ X)) w' ∧ Keeps (KB w B b) w w' := by
  obtain ⟨hk1, hz1, hx1, hxc⟩ := boxA w #[.int .i64 8, str f, .slice xa xn xc, .slice ta tn tc, .slice ea en ec] 51
  have HK1 := hide hk1
  have c0 := hxc 0 (.int .i64 8) rfl
  have c1 := hxc 1 (str f) rfl
  have c2 := hxc 2 (.slice xa xn xc) rfl
  have c3 := hxc 3 (.slice ta tn tc) rfl
  have c4 := hxc 4 (.slice ea en ec) rfl
  have HC := hide (hC _ hk1)
  clear hxc hk1 hx1 hC
  generalize hw1 : w.alloc (.cells #[.int .i64 8, str f, .slice xa xn xc, .slice ta tn tc, .slice ea en ec] 51) = w1 at *
  go_enter Tryd.func44, Tryd.ntmps44
  go_wp2_with fail
  clear hw1
  refine (unhide HC).mono ?_
  rintro e w3 ⟨rfl, hi3, hk3⟩
  have HI3 := hide hi3
  have HK3 := hide (kb_trans (unhide HK1).any hk3)
  clear hi3 hk3
  go_wp2_with fail
  go_end0
  exact ⟨rfl, unhide HI3, unhide HK3⟩

set_option maxRecDepth 100000 in
set_option maxHeartbeats 600000 in
theorem writeNew_v (B b : Nat) (t f : Txt) (xa ta ea : Option Addr) (xn xc tn tc en ec : Nat) (w : World) (hE : Env B b w) (hI : Lib.IsBuilder 60 5 B b (bs t) w) (hl : t.length + 100 ≤ 70368744177000) :
    Calls Tryd.prog 44 #[.pointer (some ⟨b, 0, none⟩), stV 6 f (.slice xa xn xc) (.slice ta tn tc) (.slice ea en ec)] w fun e w' => e = .returned (.tuple #[]) ∧ Lib.IsBuilder 60 5 B b (bs (t ++ [110, 101, 119])) w' ∧ Keeps (KB w B b) w w' := by
  obtain ⟨hk1, hz1, hx1, hxc⟩ := boxA w #[.int .i64 6, str f, .slice xa xn xc, .slice ta tn tc, .slice ea en ec] 51
  have HK1 := hide hk1
  have c0 := hxc 0 (.int .i64 6) rfl
  have c1 := hxc 1 (str f) rfl
  have c2 := hxc 2 (.slice xa xn xc) rfl
  have c3 := hxc 3 (.slice ta tn tc) rfl
  have c4 := hxc 4 (.slice ea en ec) rfl
  have HC := hide (ws_step (s := [110, 101, 119]) hk1.any (ib_keepF hI hk1) (by simp; omega) (hE.keepF hk1).size)
  clear hxc hk1 hx1 hE hI
  generalize hw1 : w.alloc (.cells #[.int .i64 6, str f, .slice xa xn xc, .slice ta tn tc, .slice ea en ec] 51) = w1 at *
  go_enter Tryd.func44, Tryd.ntmps44
  go_wp2_with fail
  clear hw1
  refine (unhide HC).mono ?_
  rintro e w3 ⟨rfl, hi3, _, hk3⟩
  have HI3 := hide hi3
  have HK3 := hide hk3
  clear hi3 hk3
  go_wp2_with fail
  go_end0
  exact ⟨rfl, unhide HI3, unhide HK3⟩

set_option maxRecDepth 100000 in
set_option maxHeartbeats 600000 in
theorem writeDelete_v (B b : Nat) (t f : Txt) (xa ta ea : Option Addr) (xn xc tn tc en ec : Nat) (w : World) (hE : Env B b w) (hI : Lib.IsBuilder 60 5 B b (bs t) w) (hl : t.length + 100 ≤ 70368744177000) :
    Calls Tryd.prog 44 #[.pointer (some ⟨b, 0, none⟩), stV 7 f (.slice xa xn xc) (.slice ta tn tc) (.slice ea en ec)] w fun e w' => e = .returned (.tuple #[]) ∧ Lib.IsBuilder 60 5 B b (bs (t ++ [100, 101, 108, 101, 116, 101])) w' ∧ Keeps (KB w B b) w w' := by
  obtain ⟨hk1, hz1, hx1, hxc⟩ := boxA w #[.int .i64 7, str f, .slice xa xn xc, .slice ta tn tc, .slice ea en ec] 51
  have HK1 := hide hk1
  have c0 := hxc 0 (.int .i64 7) rfl
  have c1 := hxc 1 (str f) rfl
  have c2 := hxc 2 (.slice xa xn xc) rfl
  have c3 := hxc 3 (.slice ta tn tc) rfl
  have c4 := hxc 4 (.slice ea en ec) rfl
  have HC := hide (ws_step (s := [100, 101, 108, 101, 116, 101]) hk1.any (ib_keepF hI hk1) (by simp; omega) (hE.keepF hk1).size)
  clear hxc hk1 hx1 hE hI
  generalize hw1 : w.alloc (.cells #[.int .i64 7, str f, .slice xa xn xc, .slice ta tn tc, .slice ea en ec] 51) = w1 at *
  go_enter Tryd.func44, Tryd.ntmps44
  go_wp2_with fail
  clear hw1
  refine (unhide HC).mono ?_
  rintro e w3 ⟨rfl, hi3, _, hk3⟩
  have HI3 := hide hi3
  have HK3 := hide hk3
  clear hi3 hk3
  go_wp2_with fail
  go_end0
  exact ⟨rfl, unhide HI3, unhide HK3⟩

set_option maxRecDepth 100000 in
set_option maxHeartbeats 600000 in
theorem writeClear_v (B b : Nat) (t f : Txt) (xa ta ea : Option Addr) (xn xc tn tc en ec : Nat) (w : World) (hE : Env B b w) (hI : Lib.IsBuilder 60 5 B b (bs t) w) (hf : f.length ≤ 8) (hl : t.length + 100 ≤ 70368744177000) :
    Calls Tryd.prog 44 #[.pointer (some ⟨b, 0, none⟩), stV 5 f (.slice xa xn xc) (.slice ta tn tc) (.slice ea en ec)] w fun e w' => e = .returned (.tuple #[]) ∧ Lib.IsBuilder 60 5 B b (bs (t ++ ([99, 108, 101, 97, 114, 32] ++ f))) w' ∧ Keeps (KB w B b) w w' := by
  obtain ⟨hk1, hz1, hx1, hxc⟩ := boxA w #[.int .i64 5, str f, .slice xa xn xc, .slice ta tn tc, .slice ea en ec] 51
  have HK1 := hide hk1
  have c0 := hxc 0 (.int .i64 5) rfl
  have c1 := hxc 1 (str f) rfl
  have c2 := hxc 2 (.slice xa xn xc) rfl
  have c3 := hxc 3 (.slice ta tn tc) rfl
  have c4 := hxc 4 (.slice ea en ec) rfl
  have HI1 := hide (ib_keepF hI hk1)
  have HE1 := hide (hE.keepF hk1)
  have HB1 := hide hx1
  have HC := hide (ws_step (s := [99, 108, 101, 97, 114, 32]) hk1.any (ib_keepF hI hk1) (by simp; omega) (hE.keepF hk1).size)
  clear hxc hk1 hx1 hE hI
  generalize hw1 : w.alloc (.cells #[.int .i64 5, str f, .slice xa xn xc, .slice ta tn tc, .slice ea en ec] 51) = w1 at *
  go_enter Tryd.func44, Tryd.ntmps44
  go_wp2_with fail
  clear hw1
  refine (unhide HC).mono ?_
  rintro e w3 ⟨rfl, hi3, hk13, hk3⟩
  have g1 := box_kb (unhide HI1) hk13 (unhide HB1) (by decide) (by decide) c1
  have HC3 := hide (ws_step (s := f) hk3 hi3 (by simp; omega) ((unhide HE1).kb hk13).size)
  clear hi3 hk3 hk13 HC
  go_wp2_with fail
  refine (unhide HC3).mono ?_
  rintro e w4 ⟨rfl, hi4, _, hk4⟩
  have HI4 := hide hi4
  have HK4 := hide hk4
  clear hi4 hk4
  go_wp2_with fail
  go_end0
  refine ⟨rfl, ?_, unhide HK4⟩
  simpa [List.append_assoc] using unhide HI4
end Go.Proofs.YtlnkleicnkfkpaaDoor
