import Derived.Test.YtiinohibmcefkaaGreatDoorJak
import Derived.Test.YtiinohibmcefkaaGreatDoorJah
namespace Go.Proofs.YtiinohibmcefkaaGreatDoor
open Go.RowKit Go.Maps

set_option maxRecDepth 100000 in
set_option maxHeartbeats 800000 in
theorem eqExpr_same (op n : Int) (s : Txt) (ka kb ca cb : Nat) (oa ob : Option Addr) (w : World)
    (hK : ∀ w', Keeps (fun _ => False) w w' → Calls Tryz.prog 56 #[.slice oa ka ca, .slice ob kb cb] w' fun e w'' => e = .returned (.bool true) ∧ Keeps (fun _ => False) w' w'') :
    Calls Tryz.prog 95 #[exV op n s (.slice oa ka ca), exV op n s (.slice ob kb cb)] w fun e w' => e = .returned (.bool true) ∧ Keeps (fun _ => False) w w' := by
  have HK := hide hK
  have HB : Hid (Keeps (fun _ => False) w ((w.alloc (.cells #[.int .i64 op, .int .i64 n, str s, .slice oa ka ca] 27)).alloc (.cells #[.int .i64 op, .int .i64 n, str s, .slice ob kb cb] 27))) := hide (((Keeps.refl _ w).alloc _).alloc _)
  clear hK
  go_enter Tryz.func95, Tryz.ntmps95
  go_wp2_with (go_at_call 56; refine (unhide HK _ (unhide HB)).mono ?_; rintro e w1 ⟨rfl, hk1⟩)
  go_ret
  exact ⟨rfl, (unhide HB).trans hk1⟩

set_option maxRecDepth 100000 in
set_option maxHeartbeats 1600000 in
theorem eqExprs_same (Z Y : Zone) (N : Nat) : ∀ (l : EL), l.size < N → l.size ≤ 4294967294 → ∀ (w : World) (ua ub : Nat) (va vb : Value), SlE Z w ua va l → SlE Y w ub vb l →
    Calls Tryz.prog 56 #[va, vb] w fun e w' => e = .returned (.bool true) ∧ Keeps (fun _ => False) w w' := by
  induction N with
  | zero => intro l h; omega
  | succ N ih =>
    intro l hsz hlen' w ua ub va vb hS hT
    have hlen : l.len ≤ 4294967294 := by have := EL.len_le l; omega
    obtain ⟨ao, ac, a, ai, rfl, hac, haa, hax⟩ := hS.open
    obtain ⟨bo, bc, b, bi, rfl, hbc, hba, hbx⟩ := hT.open
    have IH := hide ih
    have HX := hide hax
    have HY := hide hbx
    have HA := hide haa
    have HB := hide hba
    clear hS hT ih hax hbx haa hba
    go_enter Tryz.func56, Tryz.ntmps56
    go_wp2_with fail
    go_loopw [5] (fun i wr => ∃ (rest : EL) (k : Nat), i = .int .i64 k ∧ k + rest.len = l.len ∧ rest.size ≤ l.size ∧ Keeps (fun _ => False) w wr ∧ ExIn Z wr rest a (ai + k * 4) ∧ ExIn Y wr rest b (bi + k * 4)) (fun i _ => l.len - (intOf i).toNat)
    case atStart => exact ⟨l, 0, rfl, by omega, Nat.le_refl _, Keeps.refl _ _, by simpa using unhide HX, by simpa using unhide HY⟩
    case round =>
      obtain ⟨rest, k, rfl, hkl, hrs, hkeep, hr, hq⟩ := hrel
      have HK := hide hkeep
      clear hkeep
      cases rest with
      | nil =>
        simp only [EL.len, EL.size] at hkl hrs
        clear hr hq
        have i1 : ¬ (k : Int) < (l.len : Int) := by omega
        go_wp2_with fail
        go_ret
        exact ⟨rfl, unhide HK⟩
      | cons op n s kids rest =>
        obtain ⟨h1, h2, h3, h4, h5, ⟨kao, kac, h6, h7, h8⟩, h9⟩ := hr
        obtain ⟨g1, g2, g3, g4, g5, ⟨kbo, kbc, g6, g7, g8⟩, g9⟩ := hq
        simp only [EL.len, EL.size] at hkl hrs
        obtain ⟨rfl, hp⟩ := (unhide HA) (by omega)
        obtain ⟨rfl, hp'⟩ := (unhide HB) (by omega)
        have hka : SlE Z wr a (.slice kao kids.len kac) kids := ⟨kao, kac, rfl, h7, h8⟩
        have hkb : SlE Y wr b (.slice kbo kids.len kbc) kids := ⟨kbo, kbc, rfl, g7, g8⟩
        have HR := hide h9
        have HQ := hide g9
        have i1 : (k : Int) < (l.len : Int) := by omega
        have i0 : (0 : Int) ≤ (k : Int) := by omega
        have HE := hide (fun (m : KW wr) => kw_of m (eqExpr_same op n s kids.len kids.len kac kbc kao kbo m.wd (fun w' hk => unhide IH kids (by omega) (by omega) w' a b _ _ (hka.keepF (m.kept.trans hk)) (hkb.keepF (m.kept.trans hk)))))
        have f0 : ∀ m : KW wr, m.wd.cell? ⟨a, ai + k * 4, none⟩ = some (.int .i64 op) := fun m => (m.kept.cell h1 id).trans h3
        have f1 : ∀ m : KW wr, m.wd.cell? ⟨a, ai + k * 4 + 1, none⟩ = some (.int .i64 n) := fun m => (m.kept.cell h1 id).trans h4
        have f2 : ∀ m : KW wr, m.wd.cell? ⟨a, ai + k * 4 + 2, none⟩ = some (str s) := fun m => (m.kept.cell h1 id).trans h5
        have f3 : ∀ m : KW wr, m.wd.cell? ⟨a, ai + k * 4 + 3, none⟩ = some (.slice kao kids.len kac) := fun m => (m.kept.cell h1 id).trans h6
        have e0 : ∀ m : KW wr, m.wd.cell? ⟨b, bi + k * 4, none⟩ = some (.int .i64 op) := fun m => (m.kept.cell g1 id).trans g3
        have e1 : ∀ m : KW wr, m.wd.cell? ⟨b, bi + k * 4 + 1, none⟩ = some (.int .i64 n) := fun m => (m.kept.cell g1 id).trans g4
        have e2 : ∀ m : KW wr, m.wd.cell? ⟨b, bi + k * 4 + 2, none⟩ = some (str s) := fun m => (m.kept.cell g1 id).trans g5
        have e3 : ∀ m : KW wr, m.wd.cell? ⟨b, bi + k * 4 + 3, none⟩ = some (.slice kbo kids.len kbc) := fun m => (m.kept.cell g1 id).trans g6
        clear h2 h8 h9 g2 g8 g9 hka hkb
        go_wp2_with fail
        refine region_kept (by kernel_rfl) (by kernel_rfl) ?_
        repeat (go_big_quiet_step ((go_at_call 95; exact unhide HE _)))
        refine wpQuiet_nil ?_
        rintro _ ⟨nq, rfl⟩
        have HK1 := hide nq.kept
        go_wp2_with fail
        go_roundw
        case rel =>
          refine ⟨rest, k + 1, by go_num, by omega, by omega, (unhide HK).trans (unhide HK1), ?_, ?_⟩
          · rw [show ai + (k + 1) * 4 = ai + k * 4 + 4 by omega]
            exact (unhide HR).keepF (unhide HK1)
          · rw [show bi + (k + 1) * 4 = bi + k * 4 + 4 by omega]
            exact (unhide HQ).keepF (unhide HK1)
        case measure => simp [intOf]; omega

end Go.Proofs.YtiinohibmcefkaaGreatDoor
namespace Go.Proofs.YtiinohibmcefkaaGreatDoor
open Go.RowKit Go.Maps

theorem Tryz.info113 : (Tryz.prog.info? 113).map (fun i => (i.zero, i.size, i.bytes)) = some (some (kindV ⟨0, false⟩), 2, 16) := by kernel_rfl
/-- A list of kinds, made new. -/
theorem run_mkK (n : Nat) (hn : n ≤ 1000) (w : World) : ∃ c : Array Value, c.size = n * 2 ∧ (Instr.makeSlice 159 (.int .i64 (n : Int)) (.int .i64 (n : Int))).run Tryz.prog w = .ok (.slice (some ⟨w.heap.size, 0, none⟩) n n) (w.alloc (.cells c 113)) := by
  obtain ⟨i0, hi, hz0, hz1, hz2⟩ := info_parts Tryz.info113
  have q := run_make (P := Tryz.prog) w 159 113 i0 _ Tryz.underlying159 hi hz0 .i64 .i64 (n : Int) (n : Int) (by omega) (by omega) (by rw [hz2]; omega) (by omega)
  rw [hz1] at q
  have e : ((n : Int)).toNat = n := by omega
  rw [e] at q
  exact ⟨_, by rw [size_madeCells], q⟩
/-- This function value is that rule. -/
def RuleV (w : World) (j : Nat) (r : RuleA) (fv : Value) : Prop := match r with
  | .takes is ts => ∃ tb ib tv, fv = .func (.func 207) #[] #[.pointer (some ⟨tb, 0, none⟩), .pointer (some ⟨ib, 0, none⟩)] ∧ ib < w.heap.size ∧ tb < w.heap.size ∧ w.cell? ⟨ib, 0, none⟩ = some (.int .i64 is) ∧ w.cell? ⟨tb, 0, none⟩ = some tv ∧ IntsAt w tv ts
  | .compares ts => ∃ tb tv, fv = .func (.func 213) #[] #[.pointer (some ⟨tb, 0, none⟩)] ∧ tb < w.heap.size ∧ w.cell? ⟨tb, 0, none⟩ = some tv ∧ IntsAt w tv ts
  | .field => fv = .func (.func 176) #[.pointer (some ⟨j, 0, none⟩)] #[]
  | .has => fv = .func (.func 177) #[.pointer (some ⟨j, 0, none⟩)] #[]
  | .orElse => fv = .func (.func 179) #[] #[]
  | .pick => fv = .func (.func 180) #[] #[]
theorem RuleV.keepF {w w' : World} {j : Nat} {r : RuleA} {fv : Value} (h : RuleV w j r fv) (hk : Keeps (fun _ => False) w w') : RuleV w' j r fv := by
  cases r with
  | takes is ts =>
    obtain ⟨tb, ib, tv, e, h1, h2, h3, h4, h5⟩ := h
    exact ⟨tb, ib, tv, e, Nat.lt_of_lt_of_le h1 hk.size, Nat.lt_of_lt_of_le h2 hk.size, (hk.cell h1 id).trans h3, (hk.cell h2 id).trans h4, h5.keepF hk⟩
  | compares ts =>
    obtain ⟨tb, tv, e, h2, h4, h5⟩ := h
    exact ⟨tb, tv, e, Nat.lt_of_lt_of_le h2 hk.size, (hk.cell h2 id).trans h4, h5.keepF hk⟩
  | field => exact h
  | has => exact h
  | orElse => exact h
  | pick => exact h
/-- A judge over a schema. -/
structure JudgeAt (w : World) (j mb nn tab : Nat) (S : List FieldA) : Prop where
  map : MapAt w j mb nn S
  lt : tab < w.heap.size
  exprs : w.cell? ⟨j, 1, none⟩ = some (.slice (some ⟨tab, 0, none⟩) 26 26)
  rules : ∀ (m : Nat) (r : RuleA), (ruleL[m]?).join = some r → ∃ fv, w.cell? ⟨tab, m, none⟩ = some fv ∧ RuleV w j r fv
theorem JudgeAt.keepF {w w' : World} {j mb nn tab : Nat} {S : List FieldA} (h : JudgeAt w j mb nn tab S) (hk : Keeps (fun _ => False) w w') : JudgeAt w' j mb nn tab S :=
  ⟨h.map.keepF hk, Nat.lt_of_lt_of_le h.lt hk.size, (hk.cell h.map.lt id).trans h.exprs, fun m r hr => by
    obtain ⟨fv, h1, h2⟩ := h.rules m r hr
    exact ⟨fv, (hk.cell h.lt id).trans h1, h2.keepF hk⟩⟩
/-- The kinds of the kids, so far. -/
theorem kindsP_step (S : List FieldA) (op n : Int) (s : Txt) (kids rest : EL) (done : List KA) (all : List KA × Int)
    (h : all = if (kindsP S (.cons op n s kids rest)).2 ≠ 0 then ([], (kindsP S (.cons op n s kids rest)).2) else (done ++ (kindsP S (.cons op n s kids rest)).1, 0)) :
    ((kindP S op s kids).2 ≠ 0 → all = ([], (kindP S op s kids).2)) ∧ ((kindP S op s kids).2 = 0 → all = if (kindsP S rest).2 ≠ 0 then ([], (kindsP S rest).2) else (done ++ [(kindP S op s kids).1] ++ (kindsP S rest).1, 0)) := by
  rw [kindsP_cons] at h
  constructor
  · intro h0
    rw [if_pos h0] at h
    simpa [h0] using h
  · intro h0
    have e : ∀ A B : List KA × Int, (if (kindP S op s kids).2 ≠ 0 then A else B) = B := fun A B => if_neg (by simp [h0])
    simp only [e] at h
    by_cases h1 : (kindsP S rest).2 = 0
    · simp [h1] at h ⊢
      exact h
    · rw [if_pos h1]
      simpa [h1] using h
end Go.Proofs.YtiinohibmcefkaaGreatDoor
