import Derived.Test.YtbgapbaeegloaabGreatDoorMj
import Derived.Deep.LoopGhost
namespace Go.Proofs.YtbgapbaeegloaabGreatDoor
open Go.RowKit Go.Maps

theorem line_drop (t : Txt) (A : Nat) : lineB t A = A + scan (t.drop A) (fun c => c != 10) 0 := by
  unfold lineB scan
  rw [List.drop_zero, Nat.zero_add]
theorem getD_some {T : Txt} {k : Nat} {x : UInt8} (h : T[k]? = some x) : T.getD k 0 = x := by rw [List.getD_eq_getElem?_getD, h]; rfl
theorem scan_step (T : Txt) (pos : Nat) (hp : pos < T.length) (h : (dec (T.drop pos)).1 ≠ 10) : ∀ j, j ≤ (dec (T.drop pos)).2 → scan T (fun c => c != 10) pos = scan T (fun c => c != 10) (pos + j) := by
  intro j
  have hf := dec_fit (T.drop pos) (by rw [List.length_drop]; omega)
  rw [List.length_drop] at hf
  induction j with
  | zero => intro _; rfl
  | succ j ih =>
    intro hj
    rw [ih (by omega)]
    have hlt : pos + j < T.length := by omega
    have hx : T[pos + j]? = some T[pos + j] := List.getElem?_eq_getElem hlt
    have hne := dec_line (T.drop pos) h j (by omega)
    rw [List.getD_eq_getElem?_getD, List.getElem?_drop, hx] at hne
    rw [scan_go hx (by simpa using hne)]
    rfl
theorem scan_hit (T : Txt) (pos : Nat) (hp : pos < T.length) (h : (dec (T.drop pos)).1 = 10) : scan T (fun c => c != 10) pos = pos ∧ T[pos]? = some 10 := by
  have hx : T[pos]? = some T[pos] := List.getElem?_eq_getElem hp
  have h10 := dec_nl (T.drop pos) h
  rw [List.getD_eq_getElem?_getD, List.getElem?_drop, Nat.add_zero, hx] at h10
  have e : T[pos] = 10 := h10
  rw [e] at hx
  exact ⟨scan_stop hx (by rfl), hx⟩

set_option maxRecDepth 100000 in
set_option maxHeartbeats 4000000 in
theorem cut_v (t : Txt) (hl : t.length ≤ 256) (w : World) (hE : Env w) :
    Calls Tryz.prog 9 #[str t] w fun e w' => ∃ v, e = .returned (.tuple #[v, .int .i64 (cutL t (t.length + 1) [] 0).2.1, .int .i64 (cutL t (t.length + 1) [] 0).2.2]) ∧ w'.ownsRow w.heap.size 31 4 v (cutL t (t.length + 1) [] 0).1.length (tcs (cutL t (t.length + 1) [] 0).1) ∧ Keeps (fun _ => False) w w' := by
  obtain ⟨i0, hi, hz0, hz1, hz2⟩ := info_parts Tryz.info31
  obtain ⟨D, HD⟩ : ∃ D, Hid (cutL t (t.length + 1) [] 0 = D) := ⟨_, rfl⟩
  rw [unhide HD]
  have HE := hide hE
  clear hE
  go_enter Tryz.func9, Tryz.ntmps9
  go_wp2
  go_step3
  go_wp2
  go_step3
  go_wp2
  go_loopg [5, 6] (t.length + 1) (fun f lv at' wr => ∃ (A n : Nat) (acc : List TokA), A ≤ t.length ∧ t.length + 1 ≤ A + f ∧ at' = .int .i64 A ∧ Hid (n = acc.length) ∧ n ≤ A ∧ wr.ownsRow w.heap.size 31 4 lv n (tcs acc) ∧ Hid (D = cutL t f acc A) ∧ Keeps (fun _ => False) w wr)
  case atStart => exact ⟨0, 0, [], by omega, by omega, rfl, rfl, by omega, by simpa [tcs] using World.ownsRow_nil w w.heap.size 31 4, (unhide HD).symm, Keeps.refl _ _⟩
  case round =>
    obtain ⟨A, n, acc, hA, hf, rfl, HN, hnA, hown, HC, hkp⟩ := hrel
    obtain ⟨f, rfl⟩ : ∃ f', gk = f' + 1 := ⟨gk - 1, by omega⟩
    have HO := hide hown
    have HK := hide hkp
    clear hown hkp
    cases hx : t[A]? with
    | none =>
      have h1 := get_ge hx
      obtain rfl : A = t.length := by omega
      have HF : Hid (D = (acc, 0, 0)) := by show _ = _; rw [unhide HC, cut_none hx]
      clear hx h1
      go_wp2
      try rw [Exit.noGoto_ret]
      go_ret3
      refine ⟨u5, ?_, ?_, unhide HK⟩
      · rw [unhide HF]; rfl
      · have := unhide HO
        rw [unhide HF]
        simp only
        rw [← unhide HN]
        exact this
    | some c =>
      have h2 := get_lt hx
      have q := str_at hx
      have ecn : (c.toNat : Int) = num c := rfl
      have hA1 : (A : Int) < (t.length : Int) := by omega
      rcases blank_cases c with ⟨hb, hc⟩ | ⟨hb, d32, d9, d10, d13⟩
      · have HF : Hid (D = cutL t f acc (A + 1)) := by show _ = _; rw [unhide HC, cut_blank hx hb]
        clear hx hb
        rcases hc with hc | hc | hc | hc
        all_goals
          rw [hc] at ecn
          go_wp2
          go_roundg f
          case rel => exact ⟨A + 1, n, acc, by omega, by omega, by go_num, unhide HN, by omega, unhide HO, unhide HF, unhide HK⟩
          case measure => omega
      · by_cases h35 : c = 35
        · have hc : num c = 35 := by rw [h35]; rfl
          have HH := hide ((unhide HC).trans (cut_hash (by rw [hx, h35])))
          rw [hc] at ecn
          obtain ⟨T, HT⟩ : ∃ T : Txt, Hid (t.drop A = T) := ⟨_, hide rfl⟩
          have HT0 : Hid (T[0]? = some 35) := by show _ = _; rw [← unhide HT, List.getElem?_drop, Nat.add_zero, hx, h35]
          have hTl : T.length = t.length - A := by rw [← unhide HT, List.length_drop]
          have hsl : (ByteArray.mk t.toArray).extract A t.length = ⟨T.toArray⟩ := by rw [ext_str, unhide HT, List.take_of_length_le (by omega)]
          have HLD := hide (line_drop t A)
          rw [unhide HT] at HLD
          have HTl := hide hTl
          have hAi : (A : Int) ≤ (t.length : Int) := by omega
          obtain ⟨W2, HW2⟩ : ∃ W2, Hid (wr = W2) := ⟨_, rfl⟩
          rw [unhide HW2] at HO HK ⊢
          clear HW2
          have H0 : Hid ((W2.iter ⟨T.toArray⟩ 0).heap[W2.heap.size]? = some (.stringIter ⟨T.toArray⟩ 0)) := World.iter_heap W2 _ 0
          have HK0 : Hid (Keeps (fun _ => False) W2 (W2.iter ⟨T.toArray⟩ 0)) := (Keeps.refl _ _).alloc _
          clear hx h35 hb hTl HT wr HC
          go_wp2
          go_loopg [6] (T.length + 1) (fun m at' wq => ∃ pos : Nat, pos ≤ T.length ∧ T.length + 1 ≤ pos + m ∧ at' = .int .i64 A ∧ Hid (scan T (fun c => c != 10) 0 = scan T (fun c => c != 10) pos) ∧ wq.heap[W2.heap.size]? = some (.stringIter ⟨T.toArray⟩ pos) ∧ Keeps (fun _ => False) W2 wq)
          case atStart => exact ⟨0, by omega, by omega, rfl, rfl, unhide H0, unhide HK0⟩
          case round =>
            clear H0 HK0
            obtain ⟨pos, hp1, hp2, rfl, HS, hit, hkq⟩ := hrel
            obtain ⟨m, rfl⟩ : ∃ m', gk = m' + 1 := ⟨gk - 1, by omega⟩
            by_cases hp : pos < T.length
            · obtain ⟨w5, hnx, h5, hk5⟩ := next_v T W2 wr _ pos hit hp hkq (Nat.le_refl _)
              have H5 := hide h5
              have HK5 := hide hk5
              have HWD := hide (dec_pos (T.drop pos))
              have HFI := hide (dec_fit (T.drop pos) (by rw [List.length_drop]; omega))
              rw [List.length_drop] at HFI
              have HST := hide (scan_step T pos hp)
              have HHI := hide (scan_hit T pos hp)
              generalize dec (T.drop pos) = dd at *
              obtain ⟨r, wd⟩ := dd
              simp only at hnx H5 HWD HFI HST HHI
              clear h5 hk5 hit hkq
              by_cases hr : r = 10
              · obtain ⟨s1, s2⟩ := (unhide HHI) hr
                have hpos : 1 ≤ pos := by
                  rcases Nat.eq_zero_or_pos pos with h | h
                  · subst h
                    rw [unhide HT0] at s2
                    simp at s2
                  · exact h
                have hln : A + pos < t.length := by have := unhide HTl; omega
                have HF : Hid (D = cutL t f acc (A + pos)) := by
                  show _ = _
                  have e : lineB t A = A + pos := by rw [unhide HLD, unhide HS, s1]
                  rw [unhide HH, e, if_pos hln]
                subst hr
                clear s1 s2
                go_wp2
                go_roundg f
                case rel => exact ⟨A + pos, n, acc, by omega, by omega, by go_num, unhide HN, by omega, owns_keep (unhide HO) (unhide HK5), unhide HF, (unhide HK).trans (unhide HK5)⟩
                case measure => omega
              · have hrr : ((r : Int) == 10) = false := by simp; omega
                have HS2 := hide ((unhide HS).trans ((unhide HST) hr wd (Nat.le_refl _)))
                clear hr
                go_wp2
                go_roundg m
                case rel => exact ⟨pos + wd, by have := unhide HFI; omega, by have := unhide HWD; omega, rfl, unhide HS2, unhide H5, unhide HK5⟩
                case measure => omega
            · have hnx := next_end T wr _ pos hit hp
              have HF : Hid (D = (acc, 0, 0)) := by
                show _ = _
                have e : pos = T.length := by omega
                have e2 : lineB t A = t.length := by
                  rw [unhide HLD, unhide HS, e, scan_none (by simp)]
                  have := unhide HTl
                  omega
                rw [unhide HH, e2, if_neg (by omega)]
              have HKQ := hide hkq
              clear hit hkq
              go_wp2
              try rw [Exit.noGoto_ret]
              go_ret3
              refine ⟨u5, ?_, ?_, (unhide HK).trans (unhide HKQ)⟩
              · rw [unhide HF]; rfl
              · have := owns_keep (unhide HO) (unhide HKQ)
                rw [unhide HF]
                simp only
                rw [← unhide HN]
                exact this
        · have h35' : (num c == 35) = false := by
            have : num c ≠ 35 := fun e => h35 (num_inj (a := c) (b := 35) e)
            simpa using this
          have HTK := hide ((unhide HC).trans (cut_tok hx hb h35))
          obtain ⟨T, HT⟩ : ∃ T : Txt, Hid (t.drop A = T) := ⟨_, hide rfl⟩
          have hT0 : T[0]? = some c := by rw [← unhide HT, List.getElem?_drop, Nat.add_zero]; exact hx
          have hTl : T.length = t.length - A := by rw [← unhide HT, List.length_drop]
          have hsl : (ByteArray.mk t.toArray).extract A t.length = ⟨T.toArray⟩ := by rw [ext_str, unhide HT, List.take_of_length_le (by omega)]
          have HQ := hide (first_v T c hT0 (by omega) wr ((unhide HE).keepF (unhide HK)))
          have HLE := hide (first_le c T hT0)
          rw [unhide HT] at HTK
          generalize firstP c T = L at HQ HTK HLE
          obtain ⟨⟨k, tx, nn, ps⟩, tk, er⟩ := L
          unfold tokV TokA.v at HQ
          simp only at HQ HTK HLE
          have HTl := hide hTl
          have hAi : (A : Int) ≤ (t.length : Int) := by omega
          clear hx h35 hb hTl HC HT hT0
          go_wp2_with fail
          refine (unhide HQ).mono ?_
          rintro e w4 ⟨rfl, hk4⟩
          have HK4 := hide ((unhide HK).trans hk4)
          have HO4 := hide (owns_keep (unhide HO) hk4)
          clear hk4 HQ HO HK
          by_cases her : er = 0
          · subst her
            obtain ⟨t1, t2⟩ := (unhide HLE) rfl
            have HF : Hid (D = cutL t f (acc ++ [⟨k, tx, nn, (A : Int)⟩]) (A + tk)) := by show _ = _; rw [unhide HTK, if_pos rfl]
            have hAt : A + tk ≤ t.length := by have := unhide HTl; omega
            clear HTK HLE HTl t2
            have hnew := heap_alloc_new (w4.alloc (.cells #[.int .i64 k, str tx, .int .i64 nn, .int .i64 (A : Int)] 31)) (.cells #[.int .i64 k, str tx, .int .i64 nn, .int .i64 (A : Int)] 31)
            rw [World.size_alloc] at hnew
            have HNW := hide hnew
            have s4 := (unhide HK4).size
            clear hnew
            go_wp2_with (at_builtin; refine wpList_append_lies _ rfl _ _ _ rfl w.heap.size 31 i0 _ 4 40 Tryz.underlying22 hi hz0 hz1 hz2 rfl (by omega) u5 n (tcs acc) rfl (((unhide HO4).alloc _).alloc _) ⟨w4.heap.size + 1, 0, none⟩ 1 1 (TokA.cs ⟨k, tx, nn, (A : Int)⟩) rfl rfl (World.news_of_block (cs := #[.int .i64 k, str tx, .int .i64 nn, .int .i64 (A : Int)]) (t := 31) (fr := (0, 0)) (unhide HNW)) (by simp [Value.oneCell', TokA.cs]) (by omega) (by unfold maxLen; omega) (by omega) (by simp; omega) (w4.heap.size + 2) (by simp) ?_; intro g cap w5 hown5 hgrow hat hlt5)
            have HO5 : Hid (w5.ownsRow w.heap.size 31 4 (.slice (some ⟨g, 0, none⟩) (n + 1) cap) (n + 1) (tcs (acc ++ [⟨k, tx, nn, (A : Int)⟩]))) := by
              have h := hown5
              show World.ownsRow _ _ _ _ _ _ _
              rw [show tcs (acc ++ [⟨k, tx, nn, (A : Int)⟩]) = tcs acc ++ TokA.cs ⟨k, tx, nn, (A : Int)⟩ by simp [tcs]]
              exact h
            have HK5 := hide ((((unhide HK4).alloc _).alloc _).grown hgrow (fun q e hq => by have := ((unhide HO4).lt q e).1; omega))
            clear hown5 hgrow hat hlt5
            go_wp2_with fail
            go_roundg f
            case rel => exact ⟨A + tk, n + 1, acc ++ [⟨k, tx, nn, (A : Int)⟩], by omega, by omega, by go_num, by show _ = _; rw [List.length_append, ← unhide HN]; rfl, by omega, unhide HO5, HF, unhide HK5⟩
            case measure => omega
          · have HF : Hid (D = ([], er, A)) := by show _ = _; rw [unhide HTK, if_neg her]
            have her' : (er == 0) = false := by simpa using her
            clear HTK HLE HTl her
            go_wp2_with fail
            try rw [Exit.noGoto_ret]
            go_ret3
            refine ⟨.slice none 0 0, ?_, ?_, (unhide HK4).alloc _⟩
            · rw [unhide HF]; rfl
            · rw [unhide HF]
              simpa [tcs] using World.ownsRow_nil _ w.heap.size 31 4
end Go.Proofs.YtbgapbaeegloaabGreatDoor
