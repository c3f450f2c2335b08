import Derived.Test.YtbfkoamledkhnaaGreatDoorJl
import Derived.Test.YtbfkoamledkhnaaGreatDoorY
namespace Go.Proofs.YtbfkoamledkhnaaGreatDoor
open Go.RowKit Go.Maps

def shownB (x : ValA) : Txt := if x.kind = 1 then decimal x.n else if x.kind = 2 then (if x.n = 1 then [116, 114, 117, 101] else [102, 97, 108, 115, 101]) else quoteB x.s

set_option maxRecDepth 100000 in
theorem shown_any (x : ValA) (w : World) (h0 : -9223372036854775808 ≤ x.n) (h1 : x.n ≤ 9223372036854775807) (hs : x.s.length ≤ 1099511627776) : Calls Tryz.prog 68 #[x.v] w fun e w' => e = .returned (str (shownB x)) ∧ Keeps (fun _ => False) w w' := by
  unfold ValA.v
  obtain ⟨HB, _, _⟩ := boxed w #[.int .i64 x.kind, .int .i64 x.n, str x.s] 69
  by_cases k1 : x.kind = 1
  · have HS : Hid (shownB x = decimal x.n) := by show _ = _; simp [shownB, k1]
    rw [k1] at HB ⊢
    go_enter Tryz.func68, Tryz.ntmps68
    go_wp2_with fail
    refine (decimal_any x.n h0 h1 _).mono ?_
    rintro e w2 ⟨rfl, hk⟩
    have HK := hide hk
    clear hk
    go_wp2_with fail
    go_ret
    exact ⟨by rw [unhide HS]; rfl, (unhide HB).trans (unhide HK)⟩
  have k1' : (x.kind == 1) = false := by simpa using k1
  by_cases k2 : x.kind = 2
  · rw [k2] at HB k1' ⊢
    by_cases hn : x.n = 1
    · have HS : Hid (shownB x = [116, 114, 117, 101]) := by show _ = _; simp [shownB, k2, hn]
      rw [hn] at HB ⊢
      go_enter Tryz.func68, Tryz.ntmps68
      go_wp2_with fail
      go_ret
      exact ⟨by rw [unhide HS]; rfl, unhide HB⟩
    · have HS : Hid (shownB x = [102, 97, 108, 115, 101]) := by show _ = _; simp [shownB, k2, hn]
      have hn' : (x.n == 1) = false := by simpa using hn
      go_enter Tryz.func68, Tryz.ntmps68
      go_wp2_with fail
      go_ret
      exact ⟨by rw [unhide HS]; rfl, unhide HB⟩
  · have k2' : (x.kind == 2) = false := by simpa using k2
    have HS : Hid (shownB x = quoteB x.s) := by show _ = _; simp [shownB, k1, k2]
    go_enter Tryz.func68, Tryz.ntmps68
    go_wp2_with fail
    refine (quote_any x.s _ hs).mono ?_
    rintro e w2 ⟨rfl, hk⟩
    have HK := hide hk
    clear hk
    go_wp2_with fail
    go_ret
    exact ⟨by rw [unhide HS]; rfl, (unhide HB).trans (unhide HK)⟩

theorem quoteB_le (t : Txt) : (quoteB t).length ≤ 2 + 4 * t.length := by
  unfold quoteB
  have := flat_le4 t
  simp only [List.length_cons, List.length_append, List.length_nil]
  omega
theorem fitsB_s {f : FieldA} {x : ValA} (h : fitsB f x = true) : x.s.length ≤ 20 := by
  unfold fitsB at h
  repeat' split at h
  all_goals simp_all
theorem shownB_le {f : FieldA} {x : ValA} (h : fitsB f x = true) (hx : -9223372036854775808 ≤ x.n ∧ x.n ≤ 9223372036854775807) : (shownB x).length ≤ 82 := by
  unfold shownB
  have h1 := decimal_length x.n hx.1 hx.2
  have h2 := quoteB_le x.s
  have h3 := fitsB_s h
  split
  · omega
  · split
    · split <;> simp
    · omega
theorem schemaB_name8 {l : List FieldA} (h : schemaB l = true) {f : FieldA} (hf : f ∈ l) : f.name.length ≤ 8 ∧ f.name ≠ [] := by
  unfold schemaB at h
  simp only [Bool.and_eq_true] at h
  have h1 := List.all_eq_true.1 h.1.1.2 f hf
  unfold fieldOK nameB at h1
  simp only [Bool.and_eq_true, decide_eq_true_eq] at h1
  exact ⟨h1.1.1.1.1.2, h1.1.1.1.1.1⟩

/-- A text that grows by one field. -/
def printStep (t : Txt) (p : FieldA × ValA) : Txt := if p.2.kind = 0 then t else (if t = [] then t else t ++ [44]) ++ p.1.name ++ [61] ++ shownB p.2
def printTo (z : List (FieldA × ValA)) : Txt := z.foldl printStep []
def printB (l : List FieldA) (r : List ValA) : Txt := if errR l r = 0 then [123] ++ printTo (l.zip r) ++ [125] else []
theorem printTo_snoc (z : List (FieldA × ValA)) (p : FieldA × ValA) : printTo (z ++ [p]) = printStep (printTo z) p := by simp [printTo]

theorem str_app (a b c : Txt) (h : a ++ b = c) : Value.string (ByteArray.mk a.toArray ++ ByteArray.mk b.toArray) = str c := by
  rw [ByteArray.mk_append_mk, ← h]

set_option maxRecDepth 100000 in
set_option maxHeartbeats 4000000 in
theorem print_any (l : List FieldA) (v : Value) (r : List ValA) (u : Value) (w : World) (h : FldsAt w v l) (hr : ValsAt w u r) (hI : InR r) :
    Calls Tryz.prog 35 #[.agg #[v], u] w fun e w' => e = .returned (.tuple #[str (printB l r), .int .i64 (errR l r)]) ∧ Keeps (fun _ => False) w w' := by
  obtain ⟨ao, cap, rfl⟩ := RowAt.form h
  obtain ⟨bo, cbp, rfl⟩ := RowAt.form hr
  obtain ⟨HB, hb, hbc⟩ := boxed w #[.slice ao l.length cap] 28
  have hp := hbc 0 (.slice ao l.length cap) rfl
  have HF := hide (h.keepF (unhide HB))
  have HV := hide (hr.keepF (unhide HB))
  have HS := hide (check_any l _ r _ _ (unhide HF) (unhide HV))
  have HI := hide hI
  clear hbc h hr hI
  obtain ⟨D, HD⟩ : ∃ D, Hid (printB l r = D) := ⟨_, rfl⟩
  obtain ⟨E, HEE⟩ : ∃ E, Hid (errR l r = E) := ⟨_, rfl⟩
  rw [unhide HD, unhide HEE]
  rw [unhide HEE] at HS
  go_enter Tryz.func35, Tryz.ntmps35
  go_wp2_with fail
  refine (unhide HS).mono ?_
  rintro e w2 ⟨rfl, hk2⟩
  have hp2 := (hk2.cell (o := 0) hb id).trans hp
  have hb2 := Nat.lt_of_lt_of_le hb hk2.size
  have HF2 := hide ((unhide HF).keepF hk2)
  have HV2 := hide ((unhide HV).keepF hk2)
  have HB2 := hide ((unhide HB).trans hk2)
  clear HS HF HV HB hk2 hp hb
  generalize w.alloc (.cells #[.slice ao l.length cap] 28) = w1 at *
  by_cases he : E = 0
  · subst he
    obtain ⟨hs, hlen, hfit⟩ := errR_zero (unhide HEE)
    have hl8 := (schemaB_len hs).2
    have HDE : Hid (D = [123] ++ printTo (l.zip r) ++ [125]) := by show _ = _; rw [← unhide HD]; unfold printB; rw [if_pos (unhide HEE)]
    have HL := hide hlen
    have HT := hide hfit
    have HSS := hide hs
    have hr8 : r.length ≤ 8 := by omega
    clear hs hlen hfit
    go_wp2_with fail
    go_loopw [7, 8] (fun o i wr => ∃ (k : Nat) (T : Txt), k ≤ r.length ∧ i = .int .i64 k ∧ o = str T ∧ T.length ≤ 100 * k ∧ Hid (T = printTo ((l.zip r).take k)) ∧ Keeps (fun _ => False) w2 wr) (fun _ i _ => r.length - (intOf i).toNat)
    case atStart => exact ⟨0, [], Nat.zero_le _, rfl, rfl, by simp, rfl, Keeps.refl _ _⟩
    case round =>
      obtain ⟨k, T, hk, rfl, rfl, hTl, HTT, hkp⟩ := hrel
      have HK := hide hkp
      by_cases hlt : k < r.length
      · obtain ⟨x, hx⟩ : ∃ x, r[k]? = some x := ⟨_, List.getElem?_eq_getElem hlt⟩
        obtain ⟨f, hf⟩ : ∃ f, l[k]? = some f := ⟨_, List.getElem?_eq_getElem (by have := unhide HL; omega)⟩
        obtain ⟨b, off, c, e, hbl, hc⟩ := (unhide HF2).cells (by have := unhide HL; omega)
        simp at e
        obtain ⟨rfl, rfl⟩ := e
        obtain ⟨b', off', c', e', hbl', hc'⟩ := (unhide HV2).cells (by omega)
        simp at e'
        obtain ⟨rfl, rfl⟩ := e'
        have p0 := (hkp.cell (o := 0) hb2 id).trans hp2
        have c0 := (hkp.cell hbl id).trans (hc k f hf).1
        have d0 := (hkp.cell hbl' id).trans (hc' k x hx).1
        have d1 := (hkp.cell hbl' id).trans (hc' k x hx).2.1
        have d2 := (hkp.cell hbl' id).trans (hc' k x hx).2.2
        have i1 : (k : Int) < (r.length : Int) := by omega
        have i2 : (k : Int) < (l.length : Int) := by have := unhide HL; omega
        have HZ : Hid (printTo ((l.zip r).take (k + 1)) = printStep T (f, x)) := by
          show _ = _
          rw [take_snoc _ _ _ (zip_get hf hx), printTo_snoc, ← unhide HTT]
        have hrg := unhide HI x (List.mem_of_getElem? hx)
        have hfx := fitAll_at (unhide HT) hf hx
        have hsh := shownB_le hfx hrg
        have hnm := (schemaB_name8 (unhide HSS) (List.mem_of_getElem? hf)).1
        have HQ := fun w => hide (shown_any x w hrg.1 hrg.2 (by have := fitsB_s hfx; omega))
        unfold ValA.v at HQ
        have z0 : w.heap.size < wr.heap.size := Nat.lt_of_lt_of_le hb2 hkp.size
        have z1 : b < wr.heap.size := Nat.lt_of_lt_of_le hbl hkp.size
        clear hkp hc hc' hf hx hfx hrg
        by_cases hk0 : x.kind = 0
        · have HZ2 : Hid (printStep T (f, x) = T) := by show _ = _; simp [printStep, hk0]
          rw [hk0] at d0
          clear hk0 HQ
          go_wp2_with fail
          go_roundw
          case rel => exact ⟨k + 1, T, by omega, by go_num, rfl, by omega, by show _ = _; rw [unhide HZ, unhide HZ2], unhide HK⟩
          case measure => simp [intOf]; omega
        · have hk0' : (x.kind == 0) = false := by simpa using hk0
          obtain ⟨U, HU⟩ : ∃ U : Txt, Hid ((if T = [] then T else T ++ [44]) = U) := ⟨_, hide rfl⟩
          have HZ2 : Hid (printStep T (f, x) = U ++ f.name ++ [61] ++ shownB x) := by show _ = _; simp only [printStep]; rw [if_neg hk0, unhide HU]
          have hUl : U.length ≤ T.length + 1 := by rw [← unhide HU]; split <;> simp
          have a1 := fun w => add_str w U f.name (by omega)
          have a2 := fun w => add_str w (U ++ f.name) [61] (by simp; omega)
          have a3 := fun w => add_str w (U ++ f.name ++ [61]) (shownB x) (by simp; omega)
          have a0 := fun w => add_str w T [44] (by simp; omega)
          generalize shownB x = V at *
          clear hk0
          have hTl2 : T.length ≤ 800 := by omega
          by_cases hT : T = []
          case' pos =>
            have hUT : U = T := by rw [← unhide HU, if_pos hT]
            have b1 : ∀ w, (Op.stringOp .add ⟨T.toArray⟩ ⟨f.name.toArray⟩).run Tryz.prog w = .ok (str (U ++ f.name)) w := fun w => by rw [hUT]; exact add_str w T f.name (by omega)
            have hT' : (T == []) = true := by simp [hT]
            clear hT hUT HU a0 a1
            go_wp2_with fail
          case' neg =>
            have hUT : U = T ++ [44] := by rw [← unhide HU, if_neg hT]
            have b1 : ∀ w, (Op.stringOp .add ⟨T.toArray⟩ ⟨#[44]⟩).run Tryz.prog w = .ok (str U) w := fun w => by rw [hUT]; exact add_str w T [44] (by simp; omega)
            have hT' : (T == []) = false := by simpa using hT
            clear hT hUT HU a0
            go_wp2_with fail
          all_goals
            refine (unhide (HQ _)).mono ?_
            rintro e w4 ⟨rfl, hk4⟩
            have p4 := (hk4.cell (o := 0) z0 id).trans p0
            have c4 := (hk4.cell z1 id).trans c0
            have HK4 := hide ((unhide HK).trans hk4)
            clear hk4 HQ p0 c0 d0 d1 d2
            go_wp2_with fail
            go_roundw
            case rel => exact ⟨k + 1, U ++ f.name ++ [61] ++ V, by omega, by go_num, str_app _ _ _ (by simp), by simp only [List.length_append, List.length_singleton]; omega, by show _ = _; rw [unhide HZ, unhide HZ2], unhide HK4⟩
            case measure => simp [intOf]; omega
      · obtain rfl : k = r.length := by omega
        have HTE : Hid (T = printTo (l.zip r)) := by
          show _ = _
          rw [unhide HTT, List.take_of_length_le (by rw [List.length_zip]; have := unhide HL; omega)]
        have hTl2 : T.length ≤ 800 := by omega
        have a1 := fun w => add_str w [123] T (by simp; omega)
        have a2 := fun w => add_str w ([123] ++ T) [125] (by simp; omega)
        clear hkp
        go_wp2_with fail
        go_ret2
        exact ⟨by rw [unhide HDE, ← unhide HTE]; rfl, (unhide HB2).trans (unhide HK)⟩
  · have he' : (E != 0) = true := by simpa using he
    have HE9 : Hid (D = []) := by show _ = _; rw [← unhide HD]; unfold printB; rw [if_neg (by rw [unhide HEE]; exact he)]
    clear he
    go_wp2_with fail
    go_ret2
    exact ⟨by rw [unhide HE9]; rfl, unhide HB2⟩

end Go.Proofs.YtbfkoamledkhnaaGreatDoor
