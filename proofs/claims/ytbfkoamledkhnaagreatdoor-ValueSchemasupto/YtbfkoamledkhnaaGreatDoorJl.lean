import Derived.Test.YtbfkoamledkhnaaGreatDoorJe
import Derived.Test.YtbfkoamledkhnaaGreatDoorJi
namespace Go.Proofs.YtbfkoamledkhnaaGreatDoor
open Go.RowKit Go.Maps

/-- What digits tell. -/
def val (l : Txt) : Int := l.foldl (fun a c => a * 10 + num c - 48) 0
theorem val_snoc (l : Txt) (c : UInt8) : val (l ++ [c]) = val l * 10 + num c - 48 := by simp [val]
theorem val_decN (k : Nat) : ∀ u, u ≤ k → val (decN u) = u := by
  induction k with
  | zero => intro u h; obtain rfl : u = 0 := by omega
            simp [decN_zero, val]
  | succ k ih =>
    intro u h
    by_cases h0 : u = 0
    · subst h0; simp [decN_zero, val]
    · rw [decN_pos (by omega), val_snoc, digit_num, ih (u / 10) (by omega)]
      omega
theorem decN_ge (k : Nat) : ∀ u, u ≤ k → ∀ c ∈ decN u, 48 ≤ num c := by
  induction k with
  | zero => intro u h; obtain rfl : u = 0 := by omega
            simp [decN_zero]
  | succ k ih =>
    intro u h c hc
    by_cases h0 : u = 0
    · subst h0; simp [decN_zero] at hc
    · rw [decN_pos (by omega), List.mem_append] at hc
      rcases hc with hc | hc
      · exact ih (u / 10) (by omega) c hc
      · simp only [List.mem_singleton] at hc
        rw [hc, digit_num]
        omega

def neg (t : Txt) : Bool := decide (t[0]? = some 45)
/-- What is read of the first k. -/
def pre (t : Txt) (k : Nat) : Txt := if neg t then (t.take k).drop 1 else t.take k
def readN (t : Txt) : Int := if neg t then wrap64 (-wrap64 (val (t.drop 1))) else wrap64 (val t)
def numberB (t : Txt) : Int × Bool := if 20 < t.length then (0, false) else (readN t, decide (decimal (readN t) = t))

theorem wrap64_range (x : Int) : -9223372036854775808 ≤ wrap64 x ∧ wrap64 x ≤ 9223372036854775807 := by unfold wrap64; omega
theorem readN_range (t : Txt) : -9223372036854775808 ≤ readN t ∧ readN t ≤ 9223372036854775807 := by
  unfold readN
  split <;> exact wrap64_range _
theorem readN_decimal (n : Int) (h0 : -9223372036854775808 ≤ n) (h1 : n ≤ 9223372036854775807) : readN (decimal n) = n := by
  by_cases hz : n = 0
  · subst hz; decide +kernel
  unfold decimal
  rw [if_neg hz]
  by_cases hn : n < 0
  · rw [if_pos hn]
    unfold readN
    rw [if_pos (by simp [neg])]
    rw [List.drop_one, List.tail_cons, val_decN _ _ (Nat.le_refl _)]
    unfold wrap64
    omega
  · rw [if_neg hn]
    unfold readN
    rw [if_neg, val_decN _ _ (Nat.le_refl _)]
    · unfold wrap64; omega
    · simp only [neg, decide_eq_true_eq]
      intro e
      have := decN_ge _ _ (Nat.le_refl _) 45 (List.mem_of_getElem? e)
      simp [num] at this
theorem decimal_length (n : Int) (h0 : -9223372036854775808 ≤ n) (h1 : n ≤ 9223372036854775807) : (decimal n).length ≤ 20 := by
  unfold decimal
  have := decN_20 n.natAbs (by omega)
  split
  · simp
  · split
    · simp; omega
    · omega
/-- What is taken is written so, and what is written so is taken. -/
theorem numberB_ok (t : Txt) (h : (numberB t).2 = true) : decimal (numberB t).1 = t ∧ -9223372036854775808 ≤ (numberB t).1 ∧ (numberB t).1 ≤ 9223372036854775807 := by
  unfold numberB at *
  split
  · simp_all
  · rename_i hl
    rw [if_neg hl] at h
    exact ⟨of_decide_eq_true h, readN_range t⟩
theorem numberB_decimal (n : Int) (h0 : -9223372036854775808 ≤ n) (h1 : n ≤ 9223372036854775807) : numberB (decimal n) = (n, true) := by
  unfold numberB
  rw [if_neg (by have := decimal_length n h0 h1; omega), readN_decimal n h0 h1]
  simp

theorem pre_zero (t : Txt) : pre t 0 = [] := by simp [pre]
theorem pre_neg {t : Txt} (h : neg t = true) : pre t 1 = [] := by
  unfold pre
  rw [if_pos h]
  apply List.drop_eq_nil_of_le
  simp; omega
theorem pre_snoc {t : Txt} {k : Nat} {c : UInt8} (h : t[k]? = some c) (hk : neg t = false ∨ 0 < k) : pre t (k + 1) = pre t k ++ [c] := by
  unfold pre
  rw [take_snoc _ _ _ h]
  split
  · rename_i hn
    rw [List.drop_append_of_le_length]
    have := get_lt h
    rcases hk with hk | hk
    · simp [hn] at hk
    · simp; omega
  · rfl
theorem pre_all (t : Txt) : pre t t.length = if neg t then t.drop 1 else t := by unfold pre; rw [List.take_length]
theorem wrap64_step (v c : Int) : wrap64 (wrap64 (wrap64 (wrap64 v * 10) + c) - 48) = wrap64 (v * 10 + c - 48) := by unfold wrap64; omega

theorem ret_ib {k : IntKind} {a b : Int} {p q : Bool} (h : a = b) (h2 : p = q) : Ending.returned (.tuple #[.int k a, .bool p]) = .returned (.tuple #[.int k b, .bool q]) := by rw [h, h2]

set_option maxRecDepth 100000 in
set_option maxHeartbeats 1000000 in
theorem number_any (t : Txt) (w : World) : Calls Tryz.prog 106 #[str t] w fun e w' => e = .returned (.tuple #[.int .i64 (numberB t).1, .bool (numberB t).2]) ∧ Keeps (fun _ => False) w w' := by
  by_cases hl : (20 : Int) < (t.length : Int)
  · have HR : Hid (numberB t = (0, false)) := by show _ = _; unfold numberB; rw [if_pos (by omega)]
    rw [unhide HR]
    go_enter Tryz.func106, Tryz.ntmps106
    go_wp2
    go_ret2
    exact ⟨rfl, Keeps.refl _ _⟩
  have HR : Hid (numberB t = (readN t, decide (decimal (readN t) = t))) := by show _ = _; unfold numberB; rw [if_neg (by omega)]
  rw [unhide HR]
  clear HR
  have hl2 : t.length ≤ 20 := by omega
  clear hl
  go_enter Tryz.func106, Tryz.ntmps106
  go_wp2
  go_loopw [4, 5] (fun n i wr => ∃ (k : Nat) (v : Int), k ≤ t.length ∧ i = .int .i64 k ∧ n = .int .i64 v ∧ -9223372036854775808 ≤ v ∧ v ≤ 9223372036854775807 ∧ Hid (v = wrap64 (val (pre t k))) ∧ wr = w) (fun _ i _ => t.length - (intOf i).toNat)
  case atStart => exact ⟨0, 0, Nat.zero_le _, rfl, rfl, by omega, by omega, by show _ = _; rw [pre_zero]; decide +kernel, rfl⟩
  case round =>
    obtain ⟨k, v, hk, rfl, rfl, hv0, hv1, HV, rfl⟩ := hrel
    cases h : t[k]? with
    | none =>
      have h1 := get_ge h
      obtain rfl : k = t.length := by omega
      clear h h1 hk
      cases h0 : t[0]? with
      | none =>
        obtain rfl : t = [] := List.eq_nil_of_length_eq_zero (by have := get_ge h0; omega)
        obtain rfl : v = 0 := (unhide HV).trans (by decide +kernel)
        go_wp2_with fail
        refine (decimal_any 0 (by omega) (by omega) _).mono ?_
        rintro e w1 ⟨rfl, hkp⟩
        have HK := hide hkp
        clear hkp
        go_wp2
        go_ret2
        exact ⟨ret_ib (by decide +kernel) (by decide +kernel), unhide HK⟩
      | some d =>
        have h0l := get_lt h0
        have q0 := str_at h0
        have e0 : (d.toNat : Int) = num d := rfl
        have hne : (t == []) = false := by cases t <;> simp_all
        by_cases hd : num d = 45
        · have HR : Hid (readN t = wrap64 (-v)) := by
            show _ = _
            obtain rfl : d = 45 := num_inj hd
            have hn : neg t = true := by simp [neg, h0]
            rw [unhide HV, pre_all, if_pos hn]
            unfold readN
            rw [if_pos hn]
          rw [hd] at e0
          clear h0 hd
          go_wp2_with fail
          refine (decimal_any _ (wrap64_range _).1 (wrap64_range _).2 _).mono ?_
          rintro e w1 ⟨rfl, hkp⟩
          have HK := hide hkp
          clear hkp
          go_wp2
          go_ret2
          exact ⟨ret_ib (unhide HR).symm (by rw [unhide HR]; apply Bool.eq_iff_iff.2; simp), unhide HK⟩
        · have HR : Hid (readN t = v) := by
            show _ = _
            have hn : neg t = false := by
              simp only [neg, h0, decide_eq_false_iff_not, Option.some.injEq]
              rintro rfl
              exact hd rfl
            have hn' : ¬ neg t = true := by simp [hn]
            rw [unhide HV, pre_all, if_neg hn']
            unfold readN
            rw [if_neg hn']
          have hd' : (num d == 45) = false := by simpa using hd
          clear h0 hd
          go_wp2_with fail
          refine (decimal_any v hv0 hv1 _).mono ?_
          rintro e w1 ⟨rfl, hkp⟩
          have HK := hide hkp
          clear hkp
          go_wp2
          go_ret2
          exact ⟨ret_ib (unhide HR).symm (by rw [unhide HR]; apply Bool.eq_iff_iff.2; simp), unhide HK⟩
    | some c =>
      have h1 := get_lt h
      have q := str_at h
      have e1 : (c.toNat : Int) = num c := rfl
      have hcr := num_range c
      by_cases hk0 : k = 0
      · subst hk0
        by_cases hc : num c = 45
        · have HN : Hid (pre t 1 = []) := by
            show _ = _
            obtain rfl : c = 45 := num_inj hc
            exact pre_neg (by simp [neg, h])
          rw [hc] at e1
          clear h hc
          go_wp2
          go_roundw
          case rel =>
            refine ⟨1, 0, by omega, rfl, rfl, by omega, by omega, ?_, trivial⟩
            show _ = _
            rw [unhide HN]
            decide +kernel
          case measure => simp [intOf]; omega
        · have HN := hide (pre_snoc h (Or.inl (by
            simp only [neg, h, decide_eq_false_iff_not, Option.some.injEq]
            rintro rfl
            exact hc rfl)))
          have hc' : (num c == 45) = false := by simpa using hc
          clear h hc
          go_wp2
          go_roundw
          case rel =>
            refine ⟨1, _, by omega, rfl, rfl, ?_, ?_, ?_, trivial⟩
            rotate_left 2
            · show _ = _
              rw [unhide HN, val_snoc, ← wrap64_step, ← unhide HV]
            all_goals first | exact (wrap64_range _).1 | exact (wrap64_range _).2
          case measure => simp [intOf]; omega
      · have hk1 : ((k : Int) == 0) = false := by simp; omega
        have HN := hide (pre_snoc h (Or.inr (by omega)))
        clear h
        go_wp2
        go_roundw
        case rel =>
          refine ⟨k + 1, _, by omega, by go_num, rfl, ?_, ?_, ?_, trivial⟩
          rotate_left 2
          · show _ = _
            rw [unhide HN, val_snoc, ← wrap64_step, ← unhide HV]
          all_goals first | exact (wrap64_range _).1 | exact (wrap64_range _).2
        case measure => simp [intOf]; omega

end Go.Proofs.YtbfkoamledkhnaaGreatDoor
namespace Go.Proofs.YtbfkoamledkhnaaGreatDoor
open Go.RowKit Go.Maps

/-- How far a reading has come: what stands for all from here on. -/
def decRest (l : List FieldA) (t : Txt) (k h a : Nat) (R : List ValA) : Option (List ValA) := (decLoop (l.drop k) t h a).map (R ++ ·)
theorem decRest_skip {l : List FieldA} {t : Txt} {k h a : Nat} {R : List ValA} {f : FieldA} (hf : l[k]? = some f) (ho : f.opt = true) (hh : h % 2 ≠ 1) : decRest l t k h a R = decRest l t (k + 1) (h / 2) a (R ++ [⟨0, 0, []⟩]) := by
  unfold decRest
  rw [drop_at hf, decLoop, if_pos ⟨ho, hh⟩, Option.map_map]
  congr 1
  funext x
  simp
theorem decRest_none {l : List FieldA} {t : Txt} {k h a : Nat} {R : List ValA} {f : FieldA} (hf : l[k]? = some f) (hh : ¬ (f.opt = true ∧ h % 2 ≠ 1)) (hn : (readB f t a).2 < 0) : decRest l t k h a R = none := by
  unfold decRest
  rw [drop_at hf, decLoop, if_neg hh, if_pos hn]
  rfl
theorem decRest_some {l : List FieldA} {t : Txt} {k h a : Nat} {R : List ValA} {f : FieldA} (hf : l[k]? = some f) (hh : ¬ (f.opt = true ∧ h % 2 ≠ 1)) (hn : ¬ (readB f t a).2 < 0) : decRest l t k h a R = decRest l t (k + 1) (if f.opt then h / 2 else h) (readB f t a).2.toNat (R ++ [(readB f t a).1]) := by
  unfold decRest
  rw [drop_at hf, decLoop, if_neg hh, if_neg hn, Option.map_map]
  congr 1
  funext x
  simp
theorem decRest_zero (l : List FieldA) (t : Txt) (h a : Nat) : decRest l t 0 h a [] = decLoop l t h a := by
  unfold decRest
  rw [List.drop_zero]
  cases decLoop l t h a <;> simp
theorem ownsRow_max {w : World} {B e size n : Nat} {v : Value} {xs : List Value} (h : w.ownsRow B e size v n xs) : n ≤ maxLen := by
  rcases h.2 with ⟨_, hn⟩ | ⟨g, cap, cur, hv, _, _, h1, h2, _⟩
  · omega
  · omega
theorem InR_nil : InR [] := fun x hx => by cases hx
theorem InR_snoc {R : List ValA} {x : ValA} (h : InR R) (hx : -9223372036854775808 ≤ x.n ∧ x.n ≤ 9223372036854775807) : InR (R ++ [x]) := by
  intro y hy
  rcases List.mem_append.1 hy with hy | hy
  · exact h y hy
  · simp at hy; rw [hy]; exact hx

set_option maxRecDepth 100000 in
set_option maxHeartbeats 4000000 in
theorem decode_any (l : List FieldA) (v : Value) (t : Txt) (u : Value) (w : World) (h : FldsAt w v l) (ht : BytesAt w u t) (htl : t.length ≤ 1099511627776) :
    Calls Tryz.prog 33 #[.agg #[v], u] w fun e w' => ∃ r', e = .returned (.tuple #[r', .int .i64 (decodeB l t).2]) ∧ w'.ownsRow w.heap.size 69 3 r' (decodeB l t).1.length (vcs (decodeB l t).1) ∧ Keeps (fun _ => False) w w' := by
  obtain ⟨i0, hi, hz0, hz1, hz2⟩ := info_parts Tryz.info69
  obtain ⟨ao, cap, rfl⟩ := RowAt.form h
  obtain ⟨bo, cbp, rfl⟩ := RowAt.form ht
  obtain ⟨HB, hb, hbc⟩ := boxed w #[.slice ao l.length cap] 28
  have hp := hbc 0 (.slice ao l.length cap) rfl
  have HF := hide (h.keepF (unhide HB))
  have HT := hide (ht.keepF (unhide HB))
  have HS := hide (checkSchema_any l _ _ (unhide HF))
  clear hbc h ht
  obtain ⟨D, HD⟩ : ∃ D, Hid (decodeB l t = D) := ⟨_, rfl⟩
  rw [unhide HD]
  go_enter Tryz.func33, Tryz.ntmps33
  go_wp2_with fail
  refine (unhide HS).mono ?_
  rintro e w2 ⟨rfl, hk2⟩
  have hp2 := (hk2.cell (o := 0) hb id).trans hp
  have hb2 := Nat.lt_of_lt_of_le hb hk2.size
  have HF2 := hide ((unhide HF).keepF hk2)
  have HT2 := hide ((unhide HT).keepF hk2)
  have HB2 := hide ((unhide HB).trans hk2)
  clear HS HF HT HB hk2 hp hb
  generalize w.alloc (.cells #[.slice ao l.length cap] 28) = w1 at *
  rcases errS_eq l with ⟨hs, he⟩ | ⟨hs, he⟩
  · rw [he]
    have hl8 := (schemaB_len hs).2
    have HH := hide (head_any l _ _ (unhide HF2) (by omega))
    have HS := hide hs
    have hh := headB_le l
    clear he hs
    go_wp2_with fail
    refine (unhide HH).mono ?_
    rintro e w3 ⟨rfl, hk3⟩
    have hp3 := (hk3.cell (o := 0) hb2 id).trans hp2
    have hb3 := Nat.lt_of_lt_of_le hb2 hk3.size
    have HF3 := hide ((unhide HF2).keepF hk3)
    have HT3 := hide ((unhide HT2).keepF hk3)
    have HB3 := hide ((unhide HB2).trans hk3)
    clear HH HF2 HT2 HB2 hk3 hp2 hb2
    obtain ⟨H, HHd⟩ : ∃ H, Hid (headB l = H) := ⟨_, rfl⟩
    rw [unhide HHd] at hh ⊢
    by_cases hl1 : (t.length : Int) < (H : Int)
    · have HE : Hid (D = ([], 62)) := by show _ = _; rw [← unhide HD]; unfold decodeB; rw [if_neg (by simp [unhide HS]), if_pos (Or.inl (by rw [unhide HHd]; omega))]
      go_wp2_with fail
      go_ret2
      refine ⟨_, ret_vi rfl (by rw [unhide HE]), ?_, unhide HB3⟩
      rw [unhide HE]
      exact World.ownsRow_nil w3 w.heap.size 69 3
    by_cases hl2 : (64 : Int) < (t.length : Int)
    · have HE : Hid (D = ([], 62)) := by show _ = _; rw [← unhide HD]; unfold decodeB; rw [if_neg (by simp [unhide HS]), if_pos (Or.inr (by omega))]
      have hl1' : (H : Int) ≤ (t.length : Int) := by omega
      go_wp2_with fail
      go_ret2
      refine ⟨_, ret_vi rfl (by rw [unhide HE]), ?_, unhide HB3⟩
      rw [unhide HE]
      exact World.ownsRow_nil w3 w.heap.size 69 3
    have hl1' : (H : Int) ≤ (t.length : Int) := by omega
    have hl2' : (t.length : Int) ≤ 64 := by omega
    have hd1 : decide (t.length < H) = false := decide_eq_false (by omega)
    have hd2 : decide ((64 : Int) < (t.length : Int)) = false := decide_eq_false (by omega)
    obtain ⟨h0, HH0⟩ : ∃ h0, Hid (head0 l t = h0) := ⟨_, rfl⟩
    have HE : Hid (D = match decRest l t 0 h0 H [] with | none => ([], 62) | some r => if errR l r = 0 ∧ encB l r = t then (r, 0) else ([], 62)) := by
      show _ = _
      rw [← unhide HD, ← unhide HH0, ← unhide HHd]
      unfold decodeB
      rw [if_neg (by simp [unhide HS]), if_neg (by rw [unhide HHd]; omega)]
      rw [decRest_zero]
      cases decLoop l t (head0 l t) (headB l) <;> rfl
    clear hl1 hl2
    have hh0 : h0 ≤ 255 := by
      rw [← unhide HH0]
      unfold head0
      split
      · have := (t.getD 0 0).toNat_lt; omega
      · omega
    by_cases hH : 0 < H
    case' pos =>
      obtain ⟨c, hc⟩ : ∃ c, t[0]? = some c := ⟨_, List.getElem?_eq_getElem (by omega)⟩
      obtain ⟨b, off, cc, e1, hblt, hcs⟩ := (unhide HT3).cells (by omega)
      simp at e1
      obtain ⟨rfl, rfl⟩ := e1
      have c0 := hcs 0 c hc
      have hc0 : num c = (h0 : Int) := by
        rw [← unhide HH0]
        unfold head0
        rw [unhide HHd, if_pos hH]
        simp [List.getD, hc, num]
      rw [hc0] at c0
      rw [Nat.add_zero] at c0
      clear hc hcs hc0
      go_wp2_with fail
    case' neg =>
      have hH' : (H : Int) ≤ 0 := by omega
      have hh00 : h0 = 0 := by
        rw [← unhide HH0]
        unfold head0
        rw [unhide HHd, if_neg hH]
      go_wp2_with fail
    all_goals
      go_loopw [7, 8, 9, 10] (fun at_ hd o i wr => ∃ (k h a : Nat) (R : List ValA), k ≤ l.length ∧ i = .int .i64 k ∧ hd = .int .i64 h ∧ at_ = .int .i64 a ∧ h ≤ 255 ∧ a ≤ t.length ∧ Hid (R.length = k) ∧ wr.ownsRow w3.heap.size 69 3 o k (vcs R) ∧ Hid (decRest l t 0 h0 H [] = decRest l t k h a R) ∧ Hid (InR R) ∧ Keeps (fun _ => False) w3 wr) (fun _ _ _ i _ => l.length - (intOf i).toNat)
      case atStart => exact ⟨0, h0, H, [], Nat.zero_le _, rfl, by first | rfl | (rw [hh00]; rfl), rfl, hh0, by omega, rfl, World.ownsRow_nil w3 w3.heap.size 69 3, rfl, InR_nil, Keeps.refl _ _⟩
      case round =>
        obtain ⟨k, h, a, R, hk, rfl, rfl, rfl, hh255, hat, HRL, hown, HDR, HIR, hkp⟩ := hrel
        have HO := hide hown
        have HK := hide hkp
        have p0 := (hkp.cell (o := 0) hb3 id).trans hp3
        have hkl : k ≤ 8 := by omega
        by_cases hlt : k < l.length
        · obtain ⟨x, hx⟩ : ∃ x, l[k]? = some x := ⟨_, List.getElem?_eq_getElem hlt⟩
          obtain ⟨fb, foff, fc, fe, hfbl, hfc⟩ := (unhide HF3).cells (by omega)
          simp at fe
          obtain ⟨rfl, rfl⟩ := fe
          have c0' := (hkp.cell hfbl id).trans (hfc k x hx).1
          have c1' := (hkp.cell hfbl id).trans (hfc k x hx).2.1
          have c2' := (hkp.cell hfbl id).trans (hfc k x hx).2.2
          have HX := hide hx
          have i1 : (k : Int) < (l.length : Int) := by omega
          have s3 : w3.heap.size ≤ wr.heap.size := hkp.size
          clear hown hkp hx hfc
          obtain ⟨HXB, hxb, hxc⟩ := boxed wr #[str x.name, .int .i64 x.type, .bool x.opt] 56
          have HQ := hide (read_any x _ _ t a (((unhide HT3).keepF (unhide HK)).keepF (unhide HXB)) (by omega) htl)
          unfold FieldA.v ValA.v at HQ
          have hrf := readB_facts x t a hat
          have hrp := readB_pos x t a
          by_cases hskip : x.opt = true ∧ h % 2 ≠ 1
          · obtain ⟨ho, hm⟩ := hskip
            have HD2 := hide (decRest_skip (R := R) (t := t) (a := a) (unhide HX) ho hm)
            rw [ho] at c2' hxc HQ HXB hxb
            have hm0 : (h : Int) % 2 = 0 := by omega
            clear HQ hxc hm HXB hxb hrf hrp
            go_wp2_with (at_builtin; refine wpList_append_lies _ rfl _ _ _ rfl w3.heap.size 69 i0 _ 3 32 Tryz.underlying29 hi hz0 hz1 hz2 rfl (by omega) u9 k (vcs R) rfl (((unhide HO).alloc _).alloc _) ⟨wr.heap.size + 1, 0, none⟩ 1 1 [.int .i64 0, .int .i64 0, str []] rfl rfl (World.news_of_block (cs := #[.int .i64 0, .int .i64 0, str []]) (t := 69) (fr := (0, 0)) (by have q := heap_alloc_new (wr.alloc (.cells #[str x.name, .int .i64 x.type, .bool true] 56)) (.cells #[.int .i64 0, .int .i64 0, str []] 69); rw [World.size_alloc] at q; exact q)) (by simp [Value.oneCell']) (by omega) (by unfold maxLen; omega) (by omega) (by simp; omega) (wr.heap.size + 2) (by simp) ?_; intro g cap' w5 hown1 hgrow hat5 hlt1)
            go_roundw
            case rel =>
              refine ⟨k + 1, h / 2, a, R ++ [⟨0, 0, []⟩], by omega, by go_num, by go_num, rfl, by omega, hat, ?_, ?_, ?_, ?_, (((unhide HK).alloc _).alloc _).grown hgrow (fun q e hq => by have := ((unhide HO).lt q e).1; omega)⟩
              · show _ = _; rw [List.length_append, unhide HRL]; rfl
              · rw [vcs_snoc]; exact hown1
              · show _ = _; rw [unhide HDR, unhide HD2]
              · exact InR_snoc (unhide HIR) (by simp)
            case measure => simp [intOf]; omega
          · have hx0 := hxc 0 (str x.name) rfl
            have hx1 := hxc 1 (.int .i64 x.type) rfl
            have hx2 := hxc 2 (.bool x.opt) rfl
            have HSK := hide hskip
            clear hxc
            by_cases ho : x.opt = true
            case' pos =>
              have hm1 : (h : Int) % 2 = 1 := by
                have : h % 2 = 1 := by
                  rcases Nat.mod_two_eq_zero_or_one h with e | e
                  · exact absurd ⟨ho, by omega⟩ hskip
                  · exact e
                omega
              rw [ho] at c2' hx0 hx1 hx2 HQ HXB hxb
              obtain ⟨h', hh'⟩ : ∃ h', h' = h / 2 := ⟨_, rfl⟩
              have HIF : Hid ((if x.opt then h / 2 else h) = h') := by show _ = _; simp [ho, hh']
              clear hskip ho
              go_wp2_with fail
            case' neg =>
              have ho' : x.opt = false := by simpa using ho
              rw [ho'] at c2' hx0 hx1 hx2 HQ HXB hxb
              obtain ⟨h', hh'⟩ : ∃ h', h' = h := ⟨_, rfl⟩
              have HIF : Hid ((if x.opt then h / 2 else h) = h') := by show _ = _; simp [ho', hh']
              clear hskip ho ho'
              go_wp2_with fail
            all_goals
              refine (unhide HQ).mono ?_
              rintro e w4 ⟨rfl, hk4⟩
              have HO4 : Hid (w4.ownsRow w3.heap.size 69 3 u9 k (vcs R)) := ownsRow_kept (ownsRow_kept (unhide HO) (unhide HXB) (fun _ _ => id)) hk4 (fun _ _ => id)
              have HK4 := hide (((unhide HK).trans (unhide HXB)).trans hk4)
              have s4 : w3.heap.size ≤ w4.heap.size := (unhide HK4).size
              obtain ⟨z, HZ⟩ : ∃ z, Hid ((readB x t a).1 = z) := ⟨_, rfl⟩
              obtain ⟨nx, HNX⟩ : ∃ nx, Hid ((readB x t a).2 = nx) := ⟨_, rfl⟩
              rw [unhide HZ, unhide HNX]
              rw [unhide HZ, unhide HNX] at hrf
              rw [unhide HNX] at hrp
              clear hk4 HQ HXB hxb hx0 hx1 hx2 c0' c1' c2' p0
              by_cases hneg : nx < 0
              · have HE9 : Hid (D = ([], 62)) := by
                  show _ = _
                  rw [unhide HE, unhide HDR, decRest_none (unhide HX) (unhide HSK) (by rw [unhide HNX]; exact hneg)]
                go_wp2_with fail
                go_ret2
                refine ⟨_, ret_vi rfl (by rw [unhide HE9]), ?_, (unhide HB3).trans ((unhide HK4).alloc _)⟩
                rw [unhide HE9]
                exact World.ownsRow_nil _ w.heap.size 69 3
              · obtain ⟨m, hm⟩ : ∃ m : Nat, nx = m := ⟨nx.toNat, by omega⟩
                subst hm
                have HD3 : Hid (decRest l t k h a R = decRest l t (k + 1) h' m (R ++ [z])) := by
                  show _ = _
                  rw [decRest_some (unhide HX) (unhide HSK) (by rw [unhide HNX]; exact hneg), unhide HIF, unhide HNX, unhide HZ, Int.toNat_natCast]
                go_wp2_with (at_builtin; refine wpList_append_lies _ rfl _ _ _ rfl w3.heap.size 69 i0 _ 3 32 Tryz.underlying29 hi hz0 hz1 hz2 rfl (by omega) u9 k (vcs R) rfl (((unhide HO4).alloc _).alloc _) ⟨w4.heap.size + 1, 0, none⟩ 1 1 z.cs rfl rfl (World.news_of_block (cs := #[.int .i64 z.kind, .int .i64 z.n, str z.s]) (t := 69) (fr := (0, 0)) (by have q := heap_alloc_new (w4.alloc (.cells #[.int .i64 z.kind, .int .i64 z.n, str z.s] 69)) (.cells #[.int .i64 z.kind, .int .i64 z.n, str z.s] 69); rw [World.size_alloc] at q; exact q)) (by simp [Value.oneCell', ValA.cs]) (by omega) (by unfold maxLen; omega) (by omega) (by simp; omega) (w4.heap.size + 2) (by simp) ?_; intro g cap' w5 hown1 hgrow hat5 hlt1)
                go_roundw
                case rel =>
                  refine ⟨k + 1, h', m, R ++ [z], by omega, by go_num, by first | rfl | (rw [hh']; done) | (rw [hh']; go_num), rfl, by omega, by omega, ?_, ?_, ?_, ?_, (((unhide HK4).alloc _).alloc _).grown hgrow (fun q e hq => by have := ((unhide HO4).lt q e).1; omega)⟩
                  · show _ = _; rw [List.length_append, unhide HRL]; rfl
                  · rw [vcs_snoc]; exact hown1
                  · show _ = _; rw [unhide HDR, unhide HD3]
                  · exact InR_snoc (unhide HIR) hrf.2
                case measure => simp [intOf]; omega
        · obtain rfl : k = l.length := by omega
          have hRL : R.length = l.length := unhide HRL
          have HDE : Hid (D = if errR l R = 0 ∧ encB l R = t then (R, 0) else ([], 62)) := by
            show _ = _
            rw [unhide HE, unhide HDR]
            unfold decRest
            rw [List.drop_length, decLoop]
            simp
          have HVA : Hid (ValsAt wr u9 R) := by
            have h1 := rowAt_own hown
            rw [← hRL] at h1
            exact h1
          have HQ := hide (encode_any l _ R u9 wr ((unhide HF3).keepF hkp) (unhide HVA) (unhide HIR))
          have HTW := hide ((unhide HT3).keepF hkp)
          clear hown hkp hRL
          go_wp2_with fail
          refine (unhide HQ).mono ?_
          rintro e w4 ⟨b4, rfl, ho4, hk4⟩
          have HQ2 := hide (eqBytes_any w4 b4 _ (encodeB l R) t (rowAt_own ho4) ((unhide HTW).keepF hk4) (by
            exact ownsRow_max ho4))
          have HO4 := hide (ownsRow_kept (unhide HO) hk4 (fun _ _ => id))
          have HK4 := hide ((unhide HK).trans hk4)
          clear ho4 hk4 HQ
          go_wp2_with fail
          refine (unhide HQ2).mono ?_
          rintro e w5 ⟨rfl, nq, rfl⟩
          have HFIN : Hid (errR l R = 0 → encodeB l R = encB l R) := fun e => by unfold encodeB; rw [if_pos e]
          generalize errR l R = E at *
          by_cases he0 : E = 0
          · have he1 : (E != 0) = false := by simp [he0]
            have HEN := hide (unhide HFIN he0)
            by_cases hsame : encodeB l R = t
            · rw [decide_eq_true hsame]
              have HE9 : Hid (D = (R, 0)) := by show _ = _; rw [unhide HDE, if_pos ⟨he0, by rw [← unhide HEN]; exact hsame⟩]
              clear hsame he0
              go_wp2_with fail
              go_ret2
              refine ⟨_, ret_vi rfl (by rw [unhide HE9]), ?_, (unhide HB3).trans ((unhide HK4).drewN _)⟩
              rw [unhide HE9]
              show World.ownsRow _ _ _ _ _ R.length _
              rw [unhide HRL]
              exact ownsRow_lower (ownsRow_kept (unhide HO4) (keeps_drewN _ _) (fun _ _ => id)) (unhide HB3).size
            · rw [decide_eq_false hsame]
              have HE9 : Hid (D = ([], 62)) := by show _ = _; rw [unhide HDE, if_neg (fun e => hsame (by rw [unhide HEN]; exact e.2))]
              clear hsame he0
              go_wp2_with fail
              go_ret2
              refine ⟨_, ret_vi rfl (by rw [unhide HE9]), ?_, (unhide HB3).trans ((unhide HK4).drewN _)⟩
              rw [unhide HE9]
              exact World.ownsRow_nil _ w.heap.size 69 3
          · have he1 : (E != 0) = true := by simpa using he0
            have HE9 : Hid (D = ([], 62)) := by show _ = _; rw [unhide HDE, if_neg (fun e => he0 e.1)]
            clear he0
            go_wp2_with fail
            go_ret2
            refine ⟨_, ret_vi rfl (by rw [unhide HE9]), ?_, (unhide HB3).trans ((unhide HK4).drewN _)⟩
            rw [unhide HE9]
            exact World.ownsRow_nil _ w.heap.size 69 3
  · rw [he]
    have HE : Hid (D = ([], 60)) := by show _ = _; rw [← unhide HD]; unfold decodeB; rw [if_pos hs]
    clear hs he
    go_wp2_with fail
    go_ret2
    refine ⟨_, ret_vi rfl (by rw [unhide HE]), ?_, unhide HB2⟩
    rw [unhide HE]
    exact World.ownsRow_nil w2 w.heap.size 69 3

end Go.Proofs.YtbfkoamledkhnaaGreatDoor
