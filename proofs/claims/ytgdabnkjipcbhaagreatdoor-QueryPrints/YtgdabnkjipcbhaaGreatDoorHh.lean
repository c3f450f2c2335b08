import Derived.Test.YtgdabnkjipcbhaaGreatDoorHg
namespace Go.Proofs.YtgdabnkjipcbhaaGreatDoor
open Go.RowKit Go.Maps

set_option maxRecDepth 100000 in
set_option maxHeartbeats 1600000 in
theorem wPlain_v (B b : Nat) (t : Txt) (m : Nat) (n : Int) (s : Txt) (want : Int) (ao : Option Addr) (k cap : Nat) (f : FormA) (w : World) (hf : formsL[m]? = some f) (hm : m < 26) (hsh : f.shape = 1) (hw : ¬ f.rank < want) (hE : Env B b w) (hI : Lib.IsBuilder 64 5 B b (bs t) w) (h0 : -9223372036854775808 ≤ n) (h1 : n ≤ 9223372036854775807) (hs : s.length ≤ 20) (hl : t.length + 100 ≤ 70368744177000) :
    Calls Tryz.prog 45 #[.pointer (some ⟨b, 0, none⟩), exV m n s (.slice ao k cap), .int .i64 want] w fun e w' => e = .returned (.tuple #[]) ∧ Lib.IsBuilder 64 5 B b (bs (t ++ simpleT m n s)) w' ∧ Keeps (KB w B b) w w' := by
  obtain ⟨fsh, ftx, fk, frk, fle, fri⟩ := f
  simp only at hsh hw
  subst hsh
  obtain ⟨hk1, hz1, hx1, hxc⟩ := boxA w #[.int .i64 m, .int .i64 n, str s, .slice ao k cap] 54
  have HE1 := hide (hE.keepF hk1)
  have F0 := fun (x : Value) (j : Nat) (hj : (FormA.cs ⟨1, ftx, fk, frk, fle, fri⟩)[j]? = some x) => (unhide HE1).forms.cell m _ hf j x hj
  have f0 : (w.alloc (.cells #[.int .i64 m, .int .i64 n, str s, .slice ao k cap] 54)).cell? ⟨4, m * 6, none⟩ = some (.int .i64 1) := F0 (.int .i64 1) 0 rfl
  have f1 := F0 (str ftx) 1 rfl
  have f2 := F0 (.int .i64 fk) 2 rfl
  have f3 := F0 (.int .i64 frk) 3 rfl
  have f4 := F0 (.int .i64 fle) 4 rfl
  have f5 := F0 (.int .i64 fri) 5 rfl
  have c0 := hxc 0 (.int .i64 m) rfl
  have c1 := hxc 1 (.int .i64 n) rfl
  have c2 := hxc 2 (str s) rfl
  have c3 := hxc 3 (.slice ao k cap) rfl
  have i0 : (0 : Int) ≤ (m : Int) := by omega
  have i1 : (m : Int) < 26 := by omega
  clear F0 hxc hk1 hf hx1 HE1
  obtain ⟨w2, hw2, hk2, hz2, hx2, hy2, hxc, hyc⟩ := boxed2 w #[.int .i64 m, .int .i64 n, str s, .slice ao k cap] #[.int .i64 1, str ftx, .int .i64 fk, .int .i64 frk, .int .i64 fle, .int .i64 fri] 54 111
  have d0 := hyc 0 (.int .i64 1) rfl
  have d1 := hyc 1 (str ftx) rfl
  have d2 := hyc 2 (.int .i64 fk) rfl
  have d3 := hyc 3 (.int .i64 frk) rfl
  have d4 := hyc 4 (.int .i64 fle) rfl
  have d5 := hyc 5 (.int .i64 fri) rfl
  have e0 := hxc 0 (.int .i64 m) rfl
  have e1 := hxc 1 (.int .i64 n) rfl
  have e2 := hxc 2 (str s) rfl
  have e3 := hxc 3 (.slice ao k cap) rfl
  have HK2 := hide hk2
  have HI2 := hide (ib_keepF hI hk2)
  have HE2 := hide (hE.keepF hk2)
  have HSL := hide (simple_len m n s h0 h1 hs)
  have HP := hide (plainText_v m n s ao k cap w2 (unhide HE2).pows h0 h1 (by omega))
  clear hE hI h0 h1 hk2 hx2 hy2 hxc hyc
  go_enter Tryz.func45, Tryz.ntmps45
  go_wp2_with fail
  clear hw2
  refine (unhide HP).mono ?_
  rintro e w3 ⟨rfl, hk3⟩
  have HC := hide (ws_step (s := simpleT m n s) (kb_trans (unhide HK2).any hk3.any) (ib_keepF (unhide HI2) hk3) (by have := unhide HSL; omega) ((unhide HE2).keepF hk3).size)
  clear hk3
  go_wp2_with fail
  refine (unhide HC).mono ?_
  rintro e w4 ⟨rfl, hi4, _, hk4⟩
  have HI4 := hide hi4
  have HK4 := hide hk4
  clear hi4 hk4
  go_wp2_with fail
  go_end0
  exact ⟨rfl, unhide HI4, unhide HK4⟩

set_option maxRecDepth 100000 in
set_option maxHeartbeats 1600000 in
theorem wAhead_v (B b : Nat) (t : Txt) (m : Nat) (n : Int) (s : Txt) (want : Int) (ao : Option Addr) (k cap : Nat) (f : FormA) (w : World) (hf : formsL[m]? = some f) (hm : m < 26) (hsh : f.shape = 2) (hw : ¬ f.rank < want) (hE : Env B b w) (X : Txt) (hC : ∀ w', Keeps (fun _ => False) w w' → Calls Tryz.prog 70 #[.pointer (some ⟨b, 0, none⟩), exV m n s (.slice ao k cap), formV f] w' fun e w'' => e = .returned (.tuple #[]) ∧ Lib.IsBuilder 64 5 B b (bs (t ++ X)) w'' ∧ Keeps (KB w' B b) w' w'') :
    Calls Tryz.prog 45 #[.pointer (some ⟨b, 0, none⟩), exV m n s (.slice ao k cap), .int .i64 want] w fun e w' => e = .returned (.tuple #[]) ∧ Lib.IsBuilder 64 5 B b (bs (t ++ X)) w' ∧ Keeps (KB w B b) w w' := by
  obtain ⟨fsh, ftx, fk, frk, fle, fri⟩ := f
  simp only at hsh hw hC
  subst hsh
  obtain ⟨hk1, hz1, hx1, hxc⟩ := boxA w #[.int .i64 m, .int .i64 n, str s, .slice ao k cap] 54
  have HE1 := hide (hE.keepF hk1)
  have F0 := fun (x : Value) (j : Nat) (hj : (FormA.cs ⟨2, ftx, fk, frk, fle, fri⟩)[j]? = some x) => (unhide HE1).forms.cell m _ hf j x hj
  have f0 : (w.alloc (.cells #[.int .i64 m, .int .i64 n, str s, .slice ao k cap] 54)).cell? ⟨4, m * 6, none⟩ = some (.int .i64 2) := F0 (.int .i64 2) 0 rfl
  have f1 := F0 (str ftx) 1 rfl
  have f2 := F0 (.int .i64 fk) 2 rfl
  have f3 := F0 (.int .i64 frk) 3 rfl
  have f4 := F0 (.int .i64 fle) 4 rfl
  have f5 := F0 (.int .i64 fri) 5 rfl
  have c0 := hxc 0 (.int .i64 m) rfl
  have c1 := hxc 1 (.int .i64 n) rfl
  have c2 := hxc 2 (str s) rfl
  have c3 := hxc 3 (.slice ao k cap) rfl
  have i0 : (0 : Int) ≤ (m : Int) := by omega
  have i1 : (m : Int) < 26 := by omega
  clear F0 hxc hk1 hf hx1 HE1
  obtain ⟨w2, hw2, hk2, hz2, hx2, hy2, hxc, hyc⟩ := boxed2 w #[.int .i64 m, .int .i64 n, str s, .slice ao k cap] #[.int .i64 2, str ftx, .int .i64 fk, .int .i64 frk, .int .i64 fle, .int .i64 fri] 54 111
  have d0 := hyc 0 (.int .i64 2) rfl
  have d1 := hyc 1 (str ftx) rfl
  have d2 := hyc 2 (.int .i64 fk) rfl
  have d3 := hyc 3 (.int .i64 frk) rfl
  have d4 := hyc 4 (.int .i64 fle) rfl
  have d5 := hyc 5 (.int .i64 fri) rfl
  have e0 := hxc 0 (.int .i64 m) rfl
  have e1 := hxc 1 (.int .i64 n) rfl
  have e2 := hxc 2 (str s) rfl
  have e3 := hxc 3 (.slice ao k cap) rfl
  have HK2 := hide hk2
  have HC := hide (hC w2 hk2)
  clear hE hC hk2 hx2 hy2 hxc hyc
  go_enter Tryz.func45, Tryz.ntmps45
  go_wp2_with fail
  clear hw2
  refine (unhide HC).mono ?_
  rintro e w3 ⟨rfl, hi3, hk3⟩
  have HI3 := hide hi3
  have HK3 := hide (kb_trans (unhide HK2).any hk3)
  clear hi3 hk3
  go_wp2_with fail
  go_end0
  exact ⟨rfl, unhide HI3, unhide HK3⟩

set_option maxRecDepth 100000 in
set_option maxHeartbeats 1600000 in
theorem wCall_v (B b : Nat) (t : Txt) (m : Nat) (n : Int) (s : Txt) (want : Int) (ao : Option Addr) (k cap : Nat) (f : FormA) (w : World) (hf : formsL[m]? = some f) (hm : m < 26) (hsh : f.shape = 4) (hw : ¬ f.rank < want) (hE : Env B b w) (X : Txt) (hC : ∀ w', Keeps (fun _ => False) w w' → Calls Tryz.prog 71 #[.pointer (some ⟨b, 0, none⟩), exV m n s (.slice ao k cap), formV f] w' fun e w'' => e = .returned (.tuple #[]) ∧ Lib.IsBuilder 64 5 B b (bs (t ++ X)) w'' ∧ Keeps (KB w' B b) w' w'') :
    Calls Tryz.prog 45 #[.pointer (some ⟨b, 0, none⟩), exV m n s (.slice ao k cap), .int .i64 want] w fun e w' => e = .returned (.tuple #[]) ∧ Lib.IsBuilder 64 5 B b (bs (t ++ X)) w' ∧ Keeps (KB w B b) w w' := by
  obtain ⟨fsh, ftx, fk, frk, fle, fri⟩ := f
  simp only at hsh hw hC
  subst hsh
  obtain ⟨hk1, hz1, hx1, hxc⟩ := boxA w #[.int .i64 m, .int .i64 n, str s, .slice ao k cap] 54
  have HE1 := hide (hE.keepF hk1)
  have F0 := fun (x : Value) (j : Nat) (hj : (FormA.cs ⟨4, ftx, fk, frk, fle, fri⟩)[j]? = some x) => (unhide HE1).forms.cell m _ hf j x hj
  have f0 : (w.alloc (.cells #[.int .i64 m, .int .i64 n, str s, .slice ao k cap] 54)).cell? ⟨4, m * 6, none⟩ = some (.int .i64 4) := F0 (.int .i64 4) 0 rfl
  have f1 := F0 (str ftx) 1 rfl
  have f2 := F0 (.int .i64 fk) 2 rfl
  have f3 := F0 (.int .i64 frk) 3 rfl
  have f4 := F0 (.int .i64 fle) 4 rfl
  have f5 := F0 (.int .i64 fri) 5 rfl
  have c0 := hxc 0 (.int .i64 m) rfl
  have c1 := hxc 1 (.int .i64 n) rfl
  have c2 := hxc 2 (str s) rfl
  have c3 := hxc 3 (.slice ao k cap) rfl
  have i0 : (0 : Int) ≤ (m : Int) := by omega
  have i1 : (m : Int) < 26 := by omega
  clear F0 hxc hk1 hf hx1 HE1
  obtain ⟨w2, hw2, hk2, hz2, hx2, hy2, hxc, hyc⟩ := boxed2 w #[.int .i64 m, .int .i64 n, str s, .slice ao k cap] #[.int .i64 4, str ftx, .int .i64 fk, .int .i64 frk, .int .i64 fle, .int .i64 fri] 54 111
  have d0 := hyc 0 (.int .i64 4) rfl
  have d1 := hyc 1 (str ftx) rfl
  have d2 := hyc 2 (.int .i64 fk) rfl
  have d3 := hyc 3 (.int .i64 frk) rfl
  have d4 := hyc 4 (.int .i64 fle) rfl
  have d5 := hyc 5 (.int .i64 fri) rfl
  have e0 := hxc 0 (.int .i64 m) rfl
  have e1 := hxc 1 (.int .i64 n) rfl
  have e2 := hxc 2 (str s) rfl
  have e3 := hxc 3 (.slice ao k cap) rfl
  have HK2 := hide hk2
  have HC := hide (hC w2 hk2)
  clear hE hC hk2 hx2 hy2 hxc hyc
  go_enter Tryz.func45, Tryz.ntmps45
  go_wp2_with fail
  clear hw2
  refine (unhide HC).mono ?_
  rintro e w3 ⟨rfl, hi3, hk3⟩
  have HI3 := hide hi3
  have HK3 := hide (kb_trans (unhide HK2).any hk3)
  clear hi3 hk3
  go_wp2_with fail
  go_end0
  exact ⟨rfl, unhide HI3, unhide HK3⟩

end Go.Proofs.YtgdabnkjipcbhaaGreatDoor
