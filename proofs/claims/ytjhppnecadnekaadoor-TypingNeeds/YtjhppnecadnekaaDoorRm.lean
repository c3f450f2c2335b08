import Derived.Test.YtjhppnecadnekaaDoorJj
import Derived.Test.YtjhppnecadnekaaDoorKy
namespace Go.Proofs.YtjhppnecadnekaaDoor
open Go.RowKit Go.Maps

theorem schema_8 {S : List FieldA} (hS : schemaB S = true) : S.length ≤ 8 := by
  unfold schemaB at hS
  simp only [Bool.and_eq_true, decide_eq_true_eq] at hS
  exact hS.1.1.1.2
theorem idx_none {S : List FieldA} {nm : Txt} (h : fieldOf S nm = none) : idxF S nm = none := by
  unfold fieldOf at h
  unfold idxF
  rw [List.findIdx?_eq_none_iff]
  intro f hf
  have := List.find?_eq_none.1 h f hf
  simpa using this
theorem idx_some {S : List FieldA} (hS : schemaB S = true) {nm : Txt} {k : Nat} {f : FieldA} (hk : S[k]? = some f) (h : fieldOf S nm = some f) : idxF S nm = some k := by
  have hn : f.name = nm := by
    unfold fieldOf at h
    have := List.find?_some h
    simpa using this
  have hnd : (S.map FieldA.name).Nodup := by
    unfold schemaB at hS
    simp only [Bool.and_eq_true, decide_eq_true_eq] at hS
    exact hS.1.2
  unfold idxF
  rw [List.findIdx?_eq_some_iff_getElem]
  obtain ⟨hlt, hke⟩ := List.getElem?_eq_some_iff.1 hk
  refine ⟨hlt, by simp [hke, hn], fun j hj => ?_⟩
  have hjl : j < S.length := by omega
  simp only [decide_eq_true_eq]
  intro hc
  have h1 : (S.map FieldA.name)[j]? = some nm := by rw [List.getElem?_map, List.getElem?_eq_getElem hjl]; simp [hc]
  have h2 : (S.map FieldA.name)[k]? = some nm := by rw [List.getElem?_map, hk]; simp [hn]
  have := (List.getElem?_inj (by simpa using hjl) hnd).1 (h1.trans h2.symm)
  omega
set_option maxRecDepth 100000 in
set_option maxHeartbeats 8000000 in
theorem goes_leaf (S : List FieldA) (hS : schemaB S = true) (so : Option Addr) (sc : Nat) (R : List ValA) (ro : Option Addr) (rc : Nat) (hR : R.length = S.length ∨ R.length = 0) (m : Nat) (n : Int) (s : Txt) (l : EL) (ao : Option Addr) (cap : Nat) (w : World) (h1 : 1 ≤ m) (h6 : m ≤ 6) (hf : FldsAt w (.slice so S.length sc) S) (hr : ValsAt w (.slice ro R.length rc) R) :
    Calls Tryd.prog 52 #[.agg #[.slice so S.length sc], .slice ro R.length rc, exV (m : Int) n s (.slice ao l.len cap)] w fun e w' => Worked e (nodeG S (R.map ValA.kind) (m : Int) s l) ∧ Keeps (fun _ => False) w w' := by
  have hl8 := schema_8 hS
  obtain ⟨HX, hxb, hxc⟩ := boxedT w #[.slice so S.length sc] 24
  obtain ⟨HY, hyb, hyc⟩ := boxedT (w.alloc (.cells #[.slice so S.length sc] 24)) #[.int .i64 (m : Int), .int .i64 n, str s, .slice ao l.len cap] 78
  have y0 := hyc 0 (.int .i64 (m : Int)) rfl
  have y2 := hyc 2 (str s) rfl
  have x0 := ((unhide HY).cell hxb id).trans (hxc 0 (.slice so S.length sc) rfl)
  rw [World.size_alloc] at y0 y2 hyb
  have HK := hide ((unhide HX).trans (unhide HY))
  have HF := hide (hf.keepF (unhide HK))
  have HR := hide (hr.keepF (unhide HK))
  have HNG : Hid (nodeG S (R.map ValA.kind) (m : Int) s l = leafG S (R.map ValA.kind) (m : Int) s) := by show _ = _; unfold nodeG; rw [if_pos (by omega)]
  have hws : w.heap.size < ((w.alloc (.cells #[.slice so S.length sc] 24)).alloc (.cells #[.int .i64 (m : Int), .int .i64 n, str s, .slice ao l.len cap] 78)).heap.size := by simp; omega
  clear hxc hyc hxb HX HY hf hr
  have hm : m = 1 ∨ m = 2 ∨ m = 3 ∨ m = 4 ∨ m = 5 ∨ m = 6 := by omega
  rcases hm with rfl | rfl | rfl | rfl | rfl | rfl
  · have HW : Hid (nodeG S (R.map ValA.kind) ((1 : Nat) : Int) s l = some 1) := by show _ = _; rw [unhide HNG]; rfl
    go_enter Tryd.func52, Tryd.ntmps52
    go_wp2_with fail
    go_ret2
    exact ⟨by rw [unhide HW]; exact worked_yes rfl, unhide HK⟩
  · have HW : Hid (nodeG S (R.map ValA.kind) ((2 : Nat) : Int) s l = some 2) := by show _ = _; rw [unhide HNG]; rfl
    go_enter Tryd.func52, Tryd.ntmps52
    go_wp2_with fail
    go_ret2
    exact ⟨by rw [unhide HW]; exact worked_yes rfl, unhide HK⟩
  · have HW : Hid (nodeG S (R.map ValA.kind) ((3 : Nat) : Int) s l = some 3) := by show _ = _; rw [unhide HNG]; rfl
    go_enter Tryd.func52, Tryd.ntmps52
    go_wp2_with fail
    go_ret2
    exact ⟨by rw [unhide HW]; exact worked_yes rfl, unhide HK⟩
  · have HLG : Hid (leafG S (R.map ValA.kind) ((4 : Nat) : Int) s = (idxF S s).bind (fun i => (R.map ValA.kind)[i]?)) := rfl
    go_enter Tryd.func52, Tryd.ntmps52
    go_wp2_with fail
    generalize (w.alloc (.cells #[.slice so S.length sc] 24)).alloc (.cells #[.int .i64 4, .int .i64 n, str s, .slice ao l.len cap] 78) = w1 at *
    refine (find_v S (.slice so S.length sc) s w1 (unhide HF) hl8).mono ?_
    rintro e w2 ⟨⟨ix, rfl, hix⟩, hk2⟩
    have HK2 := hide ((unhide HK).trans hk2)
    have HR2 := hide ((unhide HR).keepF hk2)
    clear hk2 y0 y2 x0
    rcases hix with ⟨hno, rfl⟩ | ⟨k, f, hkf, hsome, rfl⟩
    · have HW : Hid (nodeG S (R.map ValA.kind) ((4 : Nat) : Int) s l = none) := by show _ = _; rw [unhide HNG, unhide HLG, idx_none hno]; rfl
      go_wp2_with fail
      go_ret2
      exact ⟨by rw [unhide HW]; exact worked_no rfl, unhide HK2⟩
    · have hkl := get_lt hkf
      rcases hR with hR | hR
      rotate_left
      · have HW : Hid (nodeG S (R.map ValA.kind) ((4 : Nat) : Int) s l = none) := by
          show _ = _
          rw [unhide HNG, unhide HLG, idx_some hS hkf hsome]
          simp [List.length_eq_zero_iff.1 hR]
        have g1 : decide ((k : Int) < 0) = false := decide_eq_false (by omega)
        have i1 : ¬ (k : Int) < (R.length : Int) := by omega
        have i0 : (R.length : Int) ≤ (k : Int) := by omega
        clear hkf hsome
        go_wp2_with fail
        go_ret2
        exact ⟨by rw [unhide HW]; exact worked_no rfl, unhide HK2⟩
      obtain ⟨x, hx⟩ : ∃ x, R[k]? = some x := ⟨_, List.getElem?_eq_getElem (by omega)⟩
      obtain ⟨rb, roff, rcc, re, hrb, hrc⟩ := (unhide HR2).cells (by omega)
      simp only [Value.slice.injEq] at re
      obtain ⟨rfl, _, rfl⟩ := re
      have c0 := (hrc k x hx).1
      have HW : Hid (nodeG S (R.map ValA.kind) ((4 : Nat) : Int) s l = some x.kind) := by
        show _ = _
        rw [unhide HNG, unhide HLG, idx_some hS hkf hsome]
        simp [hx]
      have g1 : decide ((k : Int) < 0) = false := decide_eq_false (by omega)
      have i1 : (k : Int) < (R.length : Int) := by omega
      have i0 : (0 : Int) ≤ (k : Int) := by omega
      clear hrc hx hkf hsome
      go_wp2_with fail
      go_ret2
      exact ⟨by rw [unhide HW]; exact worked_yes rfl, unhide HK2⟩
  · have HLG : Hid (leafG S (R.map ValA.kind) ((5 : Nat) : Int) s = (fieldOf S s).bind (fun f => if f.opt then some 2 else none)) := rfl
    go_enter Tryd.func52, Tryd.ntmps52
    go_wp2_with fail
    generalize (w.alloc (.cells #[.slice so S.length sc] 24)).alloc (.cells #[.int .i64 5, .int .i64 n, str s, .slice ao l.len cap] 78) = w1 at *
    refine (find_v S (.slice so S.length sc) s w1 (unhide HF) hl8).mono ?_
    rintro e w2 ⟨⟨ix, rfl, hix⟩, hk2⟩
    have HK2 := hide ((unhide HK).trans hk2)
    have HF2 := hide ((unhide HF).keepF hk2)
    have p0 := (hk2.cell (o := 0) hws id).trans x0
    clear hk2 y0 y2 x0
    rcases hix with ⟨hno, rfl⟩ | ⟨k, f, hkf, hsome, rfl⟩
    · have HW : Hid (nodeG S (R.map ValA.kind) ((5 : Nat) : Int) s l = none) := by show _ = _; rw [unhide HNG, unhide HLG, hno]; rfl
      go_wp2_with fail
      go_quiet (fail)
      go_wp2
      go_ret2
      exact ⟨by rw [unhide HW]; exact worked_no rfl, (unhide HK2).drewN _⟩
    · have hkl := get_lt hkf
      obtain ⟨fb, foff, fc, fe, hfb, hfc⟩ := (unhide HF2).cells (by omega)
      simp only [Value.slice.injEq] at fe
      obtain ⟨rfl, _, rfl⟩ := fe
      have f2 := (hfc k f hkf).2.2
      have g1 : decide ((0 : Int) ≤ (k : Int)) = true := decide_eq_true (by omega)
      have i1 : (k : Int) < (S.length : Int) := by omega
      have i0 : (0 : Int) ≤ (k : Int) := by omega
      clear hfc hkf
      cases hfo : f.opt with
      | false =>
        rw [hfo] at f2
        have HW : Hid (nodeG S (R.map ValA.kind) ((5 : Nat) : Int) s l = none) := by show _ = _; rw [unhide HNG, unhide HLG, hsome]; simp [hfo]
        clear hsome hfo
        go_wp2_with fail
        go_quiet (fail)
        go_wp2
        go_ret2
        exact ⟨by rw [unhide HW]; exact worked_no rfl, (unhide HK2).drewN _⟩
      | true =>
        rw [hfo] at f2
        have HW : Hid (nodeG S (R.map ValA.kind) ((5 : Nat) : Int) s l = some 2) := by show _ = _; rw [unhide HNG, unhide HLG, hsome]; simp [hfo]
        clear hsome hfo
        go_wp2_with fail
        go_quiet (fail)
        go_wp2
        go_ret2
        exact ⟨by rw [unhide HW]; exact worked_yes rfl, (unhide HK2).drewN _⟩
  · have HW : Hid (nodeG S (R.map ValA.kind) ((6 : Nat) : Int) s l = some 2) := by show _ = _; rw [unhide HNG]; rfl
    go_enter Tryd.func52, Tryd.ntmps52
    go_wp2_with fail
    go_ret2
    exact ⟨by rw [unhide HW]; exact worked_yes rfl, unhide HK⟩

end Go.Proofs.YtjhppnecadnekaaDoor
