import Derived.Test.YtbgapbaeegloaabGreatDoorMe
import Derived.Lib.OthersKept
namespace Go.Proofs.YtbgapbaeegloaabGreatDoor
open Go.RowKit Go.Maps

theorem keeps_iter {w wr : World} (h : Keeps (fun _ => False) w wr) {k : Nat} (hk : w.heap.size ≤ k) (s : ByteArray) (p : Nat) : Keeps (fun _ => False) w (wr.iterAt k s p) :=
  ⟨h.os, h.tape, h.output, by simp [World.iterAt]; exact h.size, fun q hq hF => by
    rw [← h.block q hq hF]
    simp only [World.iterAt, Array.getElem?_setIfInBounds]
    rw [if_neg (by omega)]⟩
theorem iter_pos {w : World} {k : Nat} {s : ByteArray} {p : Nat} (h : w.heap[k]? = some (.stringIter s p)) : w.iterPos k = p := by
  unfold World.iterPos
  rw [h]
/-- One step of a range over a text. -/
theorem next_v (t : Txt) (w wr : World) (k pos : Nat) (h : wr.heap[k]? = some (.stringIter ⟨t.toArray⟩ pos)) (hp : pos < t.length) (hK : Keeps (fun _ => False) w wr) (hk : w.heap.size ≤ k) :
    ∃ w2, (∀ ty, (Instr.next (.pointer (some ⟨k, 0, none⟩)) true ty).run Tryz.prog wr = .ok (.tuple #[.bool true, .int .i64 pos, .int .i32 (dec (t.drop pos)).1]) w2) ∧ w2.heap[k]? = some (.stringIter ⟨t.toArray⟩ (pos + (dec (t.drop pos)).2)) ∧ Keeps (fun _ => False) w w2 := by
  refine ⟨wr.iterAt k ⟨t.toArray⟩ (pos + (dec (t.drop pos)).2), fun ty => ?_, Lib.iterAt_heap wr k _ pos _ h, keeps_iter hK hk _ _⟩
  have q := Lib.run_next_any_at (P := Tryz.prog) wr k ⟨t.toArray⟩ pos ty h (by simpa [ByteArray.size] using hp)
  rw [decode_dec] at q
  exact q
theorem next_end (t : Txt) (wr : World) (k pos : Nat) (h : wr.heap[k]? = some (.stringIter ⟨t.toArray⟩ pos)) (hp : ¬ pos < t.length) (ty : TypeId) :
    (Instr.next (.pointer (some ⟨k, 0, none⟩)) true ty).run Tryz.prog wr = .ok (.tuple #[.bool false]) wr :=
  Lib.run_next_end_at wr k _ pos ty h (by simpa [ByteArray.size] using hp)

set_option maxRecDepth 100000 in
set_option maxHeartbeats 1000000 in
theorem runes_v (t : Txt) (hl : t.length ≤ 256) (w : World) :
    Calls Tryz.prog 8 #[str t] w fun e w' => e = .returned (.int .i64 (runesB t)) ∧ Keeps (fun _ => False) w w' := by
  obtain ⟨D, HD⟩ : ∃ D, Hid (runesB t = D) := ⟨_, rfl⟩
  rw [unhide HD]
  have H0 : Hid ((w.iter ⟨t.toArray⟩ 0).heap[w.heap.size]? = some (.stringIter ⟨t.toArray⟩ 0)) := World.iter_heap w _ 0
  have HK0 : Hid (Keeps (fun _ => False) w (w.iter ⟨t.toArray⟩ 0)) := (Keeps.refl _ _).alloc _
  go_enter Tryz.func8, Tryz.ntmps8
  go_wp2_with fail
  go_loopw [2] (fun s2 wr => ∃ (pos f : Nat), pos ≤ t.length ∧ t.length + 1 ≤ pos + f ∧ s2 = .int .i64 0 ∧ Hid (D = runesL t f pos) ∧ wr.heap[w.heap.size]? = some (.stringIter ⟨t.toArray⟩ pos) ∧ Keeps (fun _ => False) w wr) (fun _ wr => t.length + 1 - wr.iterPos w.heap.size)
  case atStart => exact ⟨0, t.length + 1, by omega, by omega, rfl, (unhide HD).symm, unhide H0, unhide HK0⟩
  case round =>
    clear H0 HK0
    obtain ⟨pos, f, hp1, hp2, rfl, HR, hit, hkp⟩ := hrel
    have HP := hide (iter_pos hit)
    obtain ⟨f, rfl⟩ : ∃ f', f = f' + 1 := ⟨f - 1, by omega⟩
    by_cases hp : pos < t.length
    · obtain ⟨w2, hnx, h2, hk2⟩ := next_v t w wr _ pos hit hp hkp (Nat.le_refl _)
      have H2 := hide h2
      have HK2 := hide hk2
      have HW := hide (dec_pos (t.drop pos))
      have HFI := hide (dec_fit (t.drop pos) (by rw [List.length_drop]; omega))
      rw [List.length_drop] at HFI
      have HRS := hide (unhide HR)
      rw [runesL, if_pos hp] at HRS
      have HBP := hide (bad_prefix (t.drop pos) (by rw [List.length_drop]; omega))
      have HBB : Hid (badB (t.drop pos) = (decide ((dec (t.drop pos)).1 = 65533) && !decide ((dec (t.drop pos)).2 = 3))) := rfl
      have hsl : (ByteArray.mk t.toArray).extract pos t.length = ⟨(t.drop pos).toArray⟩ := by rw [ext_str, List.take_of_length_le (by simp)]
      have HQ := fun w' => hide (Tryz.strings_HasPrefix ⟨(t.drop pos).toArray⟩ ⟨#[239, 191, 189]⟩ w')
      generalize t.drop pos = T at *
      generalize dec T = dd at *
      obtain ⟨r, wd⟩ := dd
      simp only at hnx H2 HW HFI HRS HBP HBB
      have hpi : (pos : Int) ≤ (t.length : Int) := by omega
      clear h2 hk2 hit hkp HR
      by_cases hr : r = 65533
      · have hpf : Lib.hasPrefix (ByteArray.mk T.toArray).data.toList (ByteArray.mk #[239, 191, 189]).data.toList = decide (wd = 3) := (unhide HBP) hr
        rw [hpf] at HQ
        have hrr : ((r : Int) == 65533) = true := by simp [hr]
        by_cases h3 : wd = 3
        · rw [decide_eq_true h3] at HQ
          have HF : Hid (D = runesL t f (pos + wd)) := by
            show _ = _
            rw [unhide HRS, unhide HBB, decide_eq_true h3]
            simp
          subst hr
          clear hpf
          go_wp2_with (go_at_call 13; refine (unhide (HQ _)).mono ?_; rintro e w' ⟨rfl, rfl⟩)
          all_goals
            go_roundw
            case rel => exact ⟨pos + wd, f, by have := unhide HFI; omega, by have := unhide HW; omega, rfl, unhide HF, unhide H2, unhide HK2⟩
            case measure =>
              rw [iter_pos (unhide H2), unhide HP]
              have := unhide HW
              omega
        · rw [decide_eq_false h3] at HQ
          have HF : Hid (D = pos) := by
            show _ = _
            rw [unhide HRS, unhide HBB, decide_eq_false h3, decide_eq_true hr]
            simp
          subst hr
          clear hpf
          go_wp2_with (go_at_call 13; refine (unhide (HQ _)).mono ?_; rintro e w' ⟨rfl, rfl⟩)
          all_goals
            go_ret
            exact ⟨by rw [unhide HF]; rfl, unhide HK2⟩
      · have hrr : ((r : Int) == 65533) = false := by simp; omega
        have HF : Hid (D = runesL t f (pos + wd)) := by
          show _ = _
          rw [unhide HRS, unhide HBB, decide_eq_false hr]
          simp
        clear hr
        go_wp2_with (go_at_call 13; refine (unhide (HQ _)).mono ?_; rintro e w' ⟨rfl, rfl⟩)
        all_goals
          go_roundw
          case rel => exact ⟨pos + wd, f, by have := unhide HFI; omega, by have := unhide HW; omega, rfl, unhide HF, unhide H2, unhide HK2⟩
          case measure =>
            rw [iter_pos (unhide H2), unhide HP]
            have := unhide HW
            omega
    · have hnx := next_end t wr _ pos hit hp
      have HF : Hid (D = t.length) := by show _ = _; rw [unhide HR, runesL, if_neg hp]
      have HK := hide hkp
      clear hit hkp
      go_wp2_with fail
      go_ret
      exact ⟨by rw [unhide HF]; rfl, unhide HK⟩
end Go.Proofs.YtbgapbaeegloaabGreatDoor
