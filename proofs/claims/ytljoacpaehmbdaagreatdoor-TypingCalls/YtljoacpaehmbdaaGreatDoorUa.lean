import Derived.Test.YtljoacpaehmbdaaGreatDoorJzam
import Derived.Test.YtljoacpaehmbdaaGreatDoorJzao
import Derived.Test.YtljoacpaehmbdaaGreatDoorJzaj
import Derived.Maps.OwnSet
namespace Go.Proofs.YtljoacpaehmbdaaGreatDoor
open Go.RowKit Go.Maps

/-- A map of counts. -/
def Cnt (w : World) (mb n : Nat) (c : Txt → Nat) : Prop :=
  ∃ D : DataW Unit, w.ownsMap Tryz.prog 9 (plainElem Tryz.prog 3) mb n D ∧ (∀ s, D.atKey (.string s) (.lit (.int .i64 0)) = .lit (.int .i64 (c s))) ∧ ∀ s, c s ≤ n
def bump (c : Txt → Nat) (nm : Txt) (s : Txt) : Nat := if s = nm then c s + 1 else c s
theorem zero3 (w : World) : (zeroValue 3).run Tryz.prog w = .ok (.int .i64 0) w := by kernel_rfl
theorem Cnt.congr {w : World} {mb n : Nat} {c c' : Txt → Nat} (h : Cnt w mb n c) (e : ∀ s, c s = c' s) : Cnt w mb n c' := by
  have : c = c' := funext e
  rw [← this]
  exact h
theorem Cnt.keep {w w' : World} {mb n : Nat} {c : Txt → Nat} (h : Cnt w mb n c) {F : Nat → Prop} (hk : Keeps F w w') (hF : ¬ F mb) : Cnt w' mb n c := by
  obtain ⟨D, ⟨es, clock, hb, r⟩, h2⟩ := h
  exact ⟨D, ⟨es, clock, (hk.block _ (lt_of_block hb) hF).trans hb, r⟩, h2⟩
theorem Cnt.lt {w : World} {mb n : Nat} {c : Txt → Nat} (h : Cnt w mb n c) : mb < w.heap.size := by
  obtain ⟨D, h1, _⟩ := h
  exact h1.lt
theorem Cnt.le {w : World} {mb n : Nat} {c : Txt → Nat} (h : Cnt w mb n c) (s : Txt) : c s ≤ n := by
  obtain ⟨D, _, _, h1⟩ := h
  exact h1 s
theorem Cnt.made (w : World) : Cnt (w.alloc (.map #[] 0)) w.heap.size 0 (fun _ => 0) :=
  ⟨.map [], World.ownsMap_made w Tryz.prog 9 _, fun _ => rfl, fun _ => Nat.le_refl _⟩
theorem Cnt.look {w : World} {mb n : Nat} {c : Txt → Nat} (h : Cnt w mb n c) {nm : Txt} (hl : nm.length ≤ 1000) :
    (Instr.lookup 94 (.map (some mb)) (str nm) false).run Tryz.prog w = .ok (.int .i64 (c nm)) w := by
  obtain ⟨D, h1, h2, _⟩ := h
  obtain ⟨x, hrun, hat, _⟩ := h1.lookup_int strKeyed Tryz.underlying94 Tryz.underlying3 (zero3 w) (keyStr hl)
  rw [h2 nm] at hat
  simp at hat
  rw [hrun, hat]
theorem Cnt.store {w : World} {mb n : Nat} {c : Txt → Nat} (h : Cnt w mb n c) {nm : Txt} (hl : nm.length ≤ 1000) (hn : n ≤ 4611686018427387904) :
    ∃ w', (Instr.mapUpdate 94 (.map (some mb)) (str nm) (.int .i64 ((c nm : Int) + 1))).run Tryz.prog w = .ok () w' ∧ Cnt w' mb (n + 1) (bump c nm) ∧ Keeps (fun k => k = mb) w w' := by
  obtain ⟨D, h1, h2, h3⟩ := h
  have hc := h3 nm
  have hw : (Lit.int .i64 ((c nm : Int) + 1)).wf = true := by simp [Lit.wf, IntKind.min, IntKind.max, IntKind.signed, IntKind.bits]; omega
  obtain ⟨w', hrun, hm, ht⟩ := h1.store strKeyed Tryz.underlying94 (by unfold maxLen; omega) (keyStr hl) (plainElem_int Tryz.underlying3 hw)
  refine ⟨w', hrun, ⟨_, hm, fun s => ?_, fun s => ?_⟩, (Keeps.refl _ _).grown ht.grown (fun q e _ => by simpa using e.symm)⟩
  · unfold bump
    by_cases e : s = nm
    · subst e
      rw [atKey_put_same h1.isMap (isKeyStr _), if_pos rfl]
      simp
    · rw [atKey_put_other (fun h => e (by simpa using h)), if_neg e, h2 s]
  · have := h3 s
    unfold bump
    split <;> omega
/-- How often a list of expressions names a field. -/
def cntE : EL → Txt → Nat
  | .nil, _ => 0
  | .cons op _ s kids rest, x => (if (op = 4 ∨ op = 5) ∧ s = x then 1 else 0) + cntE kids x + cntE rest x
theorem rootB_name {op n : Int} {s : Txt} {k : Nat} (h : rootB op n s k = true) (ho : op = 4 ∨ op = 5) : s.length ≤ 1000 := by
  unfold rootB leafB at h
  rw [if_neg (show ¬ op = 1 by omega), if_neg (show ¬ op = 2 by omega), if_neg (show ¬ op = 3 by omega), if_pos ho] at h
  simp only [Bool.and_eq_true] at h
  have := name_short h.2.2.2
  omega

set_option maxRecDepth 100000 in
set_option maxHeartbeats 4000000 in
theorem countNames_v (B mb : Nat) (hBm : B ≤ mb) (N : Nat) : ∀ (l : EL), l.size < N → l.size ≤ 4294967294 → wellE l = true → ∀ (w : World) (up : Nat) (v : Value) (n : Nat) (c : Txt → Nat), SlE (argZ B) w up v l → Cnt w mb n c → n + l.size ≤ 4611686018427387904 →
    Calls Tryz.prog 56 #[.map (some mb), v] w fun e w' => e = .returned (.tuple #[]) ∧ ∃ n', n' ≤ n + l.size ∧ Cnt w' mb n' (fun x => c x + cntE l x) ∧ Keeps (fun k => k = mb) w w' := by
  induction N with
  | zero => intro l h; omega
  | succ N ih =>
    intro l hsz hlen' hwl w up v n c hS hC hn
    have hlen : l.len ≤ 4294967294 := by have := EL.len_le l; omega
    obtain ⟨ao, cap, b, off, rfl, hcap, ha, hx⟩ := hS.open
    have IH := hide ih
    have HX := hide hx
    have HA := hide ha
    have HC := hide hC
    have HWL := hide hwl
    clear hS ih hx ha hC hwl
    go_enter Tryz.func56, Tryz.ntmps56
    go_wp2_with fail
    go_loopw [8] (fun i wr => ∃ (rest : EL) (k m : Nat) (d : Txt → Nat), i = .int .i64 k ∧ k + rest.len = l.len ∧ rest.size ≤ l.size ∧ wellE rest = true ∧ m + rest.size ≤ n + l.size ∧ Hid (∀ x, d x + cntE rest x = c x + cntE l x) ∧ Cnt wr mb m d ∧ Keeps (fun k => k = mb) w wr ∧ ExIn (argZ B) wr rest b (off + k * 4)) (fun i _ => l.len - (intOf i).toNat)
    case atStart => exact ⟨l, 0, n, c, rfl, by omega, Nat.le_refl _, unhide HWL, Nat.le_refl _, fun _ => rfl, unhide HC, Keeps.refl _ _, by simpa using unhide HX⟩
    case round =>
      obtain ⟨rest, k, m, d, rfl, hkl, hrs, hwr, hm, HD, hc, hkeep, hr⟩ := hrel
      have HK := hide hkeep
      have HCN := hide hc
      cases rest with
      | nil =>
        simp only [EL.len, EL.size] at hkl hm hrs
        have i1 : ¬ (k : Int) < (l.len : Int) := by omega
        clear hc hkeep hr hwr
        go_wp2_with fail
        go_end0
        exact ⟨rfl, m, by omega, (unhide HCN).congr (fun x => by have := unhide HD x; simpa [cntE] using this), unhide HK⟩
      | cons op nn s kids rest =>
        obtain ⟨h1, h2, h3, h4, h5, ⟨kao, kcap, h6, h7, h8⟩, h9⟩ := hr
        simp only [EL.len, EL.size] at hkl hm hrs
        simp only [wellE, Bool.and_eq_true] at hwr
        obtain ⟨hroot, hwk, hwr⟩ := hwr
        obtain ⟨rfl, hp⟩ := (unhide HA) (by omega)
        have HKID : Hid (SlE (argZ B) wr b (.slice kao kids.len kcap) kids) := ⟨kao, kcap, rfl, h7, h8⟩
        have HR := hide h9
        have i1 : (k : Int) < (l.len : Int) := by omega
        have ix0 : (0 : Int) ≤ (k : Int) := by omega
        obtain ⟨HB, hxb, hxc⟩ := boxedT wr #[.int .i64 op, .int .i64 nn, str s, .slice kao kids.len kcap] 29
        have y0 := hxc 0 (.int .i64 op) rfl
        have y2 := hxc 2 (str s) rfl
        have y3 := hxc 3 (.slice kao kids.len kcap) rfl
        have HWK := hide hwk
        have HWR := hide hwr
        have hc1 : Cnt (wr.alloc (.cells #[.int .i64 op, .int .i64 nn, str s, .slice kao kids.len kcap] 29)) mb m d := hc.keep (unhide HB) id
        have hmlt := hc.lt
        have HKA : Hid (Keeps (fun k => k = mb) w (wr.alloc (.cells #[.int .i64 op, .int .i64 nn, str s, .slice kao kids.len kcap] 29))) := (unhide HK).alloc _
        have HKB : Hid (Keeps (fun k => k = mb) wr (wr.alloc (.cells #[.int .i64 op, .int .i64 nn, str s, .slice kao kids.len kcap] 29))) := (Keeps.refl _ wr).alloc _
        by_cases ho : op = 4 ∨ op = 5
        · have hl := rootB_name hroot ho
          have hlk := hc1.look hl
          obtain ⟨w1, hst, hc2, hk2⟩ := hc1.store hl (by omega)
          have q3 := (hk2.cell (o := 3) hxb (show ¬ wr.heap.size = mb by omega)).trans y3
          have HCALL := hide (unhide IH kids (by omega) (by omega) (unhide HWK) w1 b (.slice kao kids.len kcap) (m + 1) _ ((unhide HKID).argKeep ((unhide HKB).trans hk2) (fun k e => by omega)) hc2 (by omega))
          have HK2 := hide hk2
          have hd1 : d s ≤ 4611686018427387904 := by have := hc1.le s; omega
          clear hc hkeep h2 h8 h9 hxc hc1 hc2 hk2 hroot hwk hwr hl
          rcases ho with rfl | rfl
          · go_wp2_with (go_at_call 56; refine (unhide HCALL).mono ?_; rintro e w2 ⟨rfl, n2, hn2, hc3, hk3⟩; have HC3 := hide hc3; have HK3 := hide hk3; clear hc3 hk3)
            go_roundw
            case rel =>
              refine ⟨rest, k + 1, n2, _, by go_num, by omega, by omega, unhide HWR, by omega, fun x => ?_, unhide HC3, ((unhide HKA).trans (unhide HK2)).trans (unhide HK3), ?_⟩
              · have h := unhide HD x
                simp only [cntE] at h
                unfold bump
                by_cases e : x = s
                · subst e; simp at h ⊢; omega
                · rw [if_neg e]; rw [if_neg (fun h => e h.2.symm)] at h; omega
              · rw [show off + (k + 1) * 4 = off + k * 4 + 4 by omega]
                exact (unhide HR).argKeep (((unhide HKB).trans (unhide HK2)).trans (unhide HK3)) (fun k e => by omega)
            case measure => simp [intOf]; omega
          · go_wp2_with (go_at_call 56; refine (unhide HCALL).mono ?_; rintro e w2 ⟨rfl, n2, hn2, hc3, hk3⟩; have HC3 := hide hc3; have HK3 := hide hk3; clear hc3 hk3)
            go_roundw
            case rel =>
              refine ⟨rest, k + 1, n2, _, by go_num, by omega, by omega, unhide HWR, by omega, fun x => ?_, unhide HC3, ((unhide HKA).trans (unhide HK2)).trans (unhide HK3), ?_⟩
              · have h := unhide HD x
                simp only [cntE] at h
                unfold bump
                by_cases e : x = s
                · subst e; simp at h ⊢; omega
                · rw [if_neg e]; rw [if_neg (fun h => e h.2.symm)] at h; omega
              · rw [show off + (k + 1) * 4 = off + k * 4 + 4 by omega]
                exact (unhide HR).argKeep (((unhide HKB).trans (unhide HK2)).trans (unhide HK3)) (fun k e => by omega)
            case measure => simp [intOf]; omega
        · have o4 : (op == 4) = false := by simp; omega
          have o5 : (op == 5) = false := by simp; omega
          have HCALL := hide (unhide IH kids (by omega) (by omega) (unhide HWK) _ b (.slice kao kids.len kcap) m _ ((unhide HKID).argKeep (unhide HKB) (fun k e => by omega)) hc1 (by omega))
          have HO := hide ho
          clear hc hkeep h2 h8 h9 hxc hc1 hroot hwk hwr ho
          go_wp2_with (go_at_call 56; refine (unhide HCALL).mono ?_; rintro e w2 ⟨rfl, n2, hn2, hc3, hk3⟩; have HC3 := hide hc3; have HK3 := hide hk3; clear hc3 hk3)
          go_roundw
          case rel =>
            refine ⟨rest, k + 1, n2, _, by go_num, by omega, by omega, unhide HWR, by omega, fun x => ?_, unhide HC3, (unhide HKA).trans (unhide HK3), ?_⟩
            · have h := unhide HD x
              simp only [cntE] at h
              rw [if_neg (fun h => (unhide HO) h.1)] at h
              omega
            · rw [show off + (k + 1) * 4 = off + k * 4 + 4 by omega]
              exact (unhide HR).argKeep ((unhide HKB).trans (unhide HK3)) (fun k e => by omega)
          case measure => simp [intOf]; omega
end Go.Proofs.YtljoacpaehmbdaaGreatDoor
