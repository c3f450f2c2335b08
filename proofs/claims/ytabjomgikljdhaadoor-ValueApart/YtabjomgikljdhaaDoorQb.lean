import Derived.Test.YtabjomgikljdhaaDoorPb
import Derived.Test.YtabjomgikljdhaaDoorZ
import Derived.Lib.LaidTab
namespace Go.Proofs.YtabjomgikljdhaaDoor
open Go.RowKit Go.Maps

/-- The table of powers of ten stands as its text lays it. -/
def Pow (w : World) : Prop := Lib.TabIs Tryd.prog w "internal/strconv.uint64pow10" .u64 Lib.pow10Tab
theorem Pow.keepF {w w' : World} (h : Pow w) (k : Keeps (fun _ => False) w w') : Pow w' := by
  unfold Pow Lib.TabIs World.var? at h ⊢
  cases hg : Tryd.prog.globalNamed "internal/strconv.uint64pow10" with
  | none => simp [hg] at h
  | some g =>
    simp only [hg, Option.bind_some] at h ⊢
    have hlt : g < w.heap.size := by
      rcases Nat.lt_or_ge g w.heap.size with h' | h'
      · exact h'
      · simp [Array.getElem?_eq_none h'] at h
    rw [k.block g hlt id]
    exact h
theorem keeps_grow (w : World) (n : Nat) (os : Array Obj) : Keeps (fun _ => False) w (Go.Sort.grow (w.drewN n) os) := by
  obtain ⟨h1, h2, h3, h4⟩ := drewN_os w n
  refine ⟨h1, h2, h3, ?_, fun k hk _ => ?_⟩
  · unfold Go.Sort.grow; simp only [Array.size_append, h4]; omega
  · unfold Go.Sort.grow; simp only [h4]; exact Array.getElem?_append_left hk
theorem dec_eq : ∀ u : Nat, 0 < u → Lib.decDigits u = decN u := by
  intro u
  induction u using Nat.strongRecOn with
  | ind u ih =>
    intro h
    rw [Lib.decDigits, decN_pos h]
    split
    · rename_i h10
      rw [show u / 10 = 0 by omega, decN_zero, show u % 10 = u by omega]
      rfl
    · rw [ih (u / 10) (by omega) (by omega)]
theorem itoa_eq (n : Int) : Lib.itoa n = decimal n := by
  unfold Lib.itoa decimal
  by_cases h0 : n = 0
  · subst h0
    rw [if_neg (by omega), if_pos rfl, Lib.decDigits]
    rfl
  · rw [if_neg h0]
    by_cases h : n < 0
    · rw [if_pos h, if_pos h, dec_eq _ (by omega)]
    · rw [if_neg h, if_neg h, show n.toNat = n.natAbs by omega, dec_eq _ (by omega)]

set_option maxRecDepth 100000 in
theorem formatInt_v (n : Int) (h0 : -9223372036854775808 ≤ n) (h1 : n ≤ 9223372036854775807) (w : World) (hP : Pow w) :
    Calls Tryd.prog 59 #[.int .i64 n, .int .i64 10] w fun e w' => e = .returned (str (decimal n)) ∧ Keeps (fun _ => False) w w' := by
  have HQ := hide (Tryd.internal_strconv_FormatInt_10 n h0 h1 w hP)
  rw [itoa_eq] at HQ
  clear hP h0 h1
  go_enter Tryd.func59, Tryd.ntmps59
  go_wp2_with fail
  refine (unhide HQ).mono ?_
  rintro e w2 ⟨rfl, k, os, rfl⟩
  have HK := hide (keeps_grow w k os)
  generalize Go.Sort.grow (w.drewN k) os = w2 at *
  go_wp2_with fail
  go_ret
  exact ⟨rfl, unhide HK⟩

def boolT (b : Bool) : Txt := if b = true then [116, 114, 117, 101] else [102, 97, 108, 115, 101]
set_option maxRecDepth 100000 in
theorem boolText_v (b : Bool) (w : World) : Calls Tryd.prog 70 #[.bool b] w fun e w' => e = .returned (str (boolT b)) ∧ w' = w := by
  cases b
  all_goals
    go_enter Tryd.func70, Tryd.ntmps70
    go_wp2_with fail
    go_ret
    exact ⟨rfl, rfl⟩
set_option maxRecDepth 100000 in
theorem formatBool_v (b : Bool) (w : World) : Calls Tryd.prog 60 #[.bool b] w fun e w' => e = .returned (str (boolT b)) ∧ w' = w := by
  have HQ := hide (boolText_v b w)
  go_enter Tryd.func60, Tryd.ntmps60
  go_wp2_with fail
  refine (unhide HQ).mono ?_
  rintro e w2 ⟨rfl, rfl⟩
  go_wp2_with fail
  go_ret
  exact ⟨rfl, rfl⟩

set_option maxRecDepth 100000 in
theorem printValue_v (x : ValA) (hI : -9223372036854775808 ≤ x.n ∧ x.n ≤ 9223372036854775807) (hs : x.s.length ≤ 20) (w : World) (hP : Pow w) :
    Calls Tryd.prog 45 #[x.v] w fun e w' => e = .returned (str (shownB x)) ∧ Keeps (fun _ => False) w w' := by
  obtain ⟨k, n, s⟩ := x
  simp only at hI hs
  unfold ValA.v shownB
  simp only
  obtain ⟨HX, hxb, hxc⟩ := boxed w #[.int .i64 k, .int .i64 n, str s] 54
  have c0 := hxc 0 _ rfl
  have c1 := hxc 1 _ rfl
  have c2 := hxc 2 _ rfl
  have HP := hide (hP.keepF (unhide HX))
  clear hP hxc
  by_cases h1 : k = 1
  · subst h1
    have HQ := hide (formatInt_v n hI.1 hI.2 _ (unhide HP))
    rw [if_pos rfl]
    clear hI
    go_enter Tryd.func45, Tryd.ntmps45
    go_wp2_with fail
    refine (unhide HQ).mono ?_
    rintro e w2 ⟨rfl, hk⟩
    have HK := hide ((unhide HX).trans hk)
    clear hk
    go_wp2_with fail
    go_ret
    exact ⟨rfl, unhide HK⟩
  · rw [if_neg h1]
    have d1 : (k == 1) = false := by simpa using h1
    by_cases h2 : k = 2
    · subst h2
      have HQ := hide (formatBool_v (n == 1) (w.alloc (.cells #[.int .i64 2, .int .i64 n, str s] 54)))
      have hb : (if n = 1 then [116, 114, 117, 101] else [102, 97, 108, 115, 101] : Txt) = boolT (n == 1) := by unfold boolT; simp only [beq_iff_eq]
      rw [if_pos rfl, hb]
      clear hI
      go_enter Tryd.func45, Tryd.ntmps45
      go_wp2_with fail
      refine (unhide HQ).mono ?_
      rintro e w2 ⟨rfl, rfl⟩
      go_wp2_with fail
      go_ret
      exact ⟨rfl, unhide HX⟩
    · rw [if_neg h2]
      have d2 : (k == 2) = false := by simpa using h2
      have HQ := hide (quote_v s (w.alloc (.cells #[.int .i64 k, .int .i64 n, str s] 54)) (by omega))
      clear hI
      go_enter Tryd.func45, Tryd.ntmps45
      go_wp2_with fail
      refine (unhide HQ).mono ?_
      rintro e w2 ⟨rfl, hk⟩
      have HK := hide ((unhide HX).trans hk)
      clear hk
      go_wp2_with fail
      go_ret
      exact ⟨rfl, unhide HK⟩
end Go.Proofs.YtabjomgikljdhaaDoor
