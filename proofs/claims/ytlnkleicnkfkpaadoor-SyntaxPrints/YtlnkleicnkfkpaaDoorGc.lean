import Derived.Test.YtlnkleicnkfkpaaDoorGb
namespace Go.Proofs.YtlnkleicnkfkpaaDoor
open Go.RowKit Go.Maps

/-- What the library's calls and the reference's Quote give, in the worlds that hold what they want. -/
structure RLib (E : World → Prop) : Prop where
  keep : ∀ {w w' : World}, E w → Keeps (fun _ => False) w w' → E w'
  fmt : ∀ (n : Int) (w : World), -9223372036854775808 ≤ n → n ≤ 9223372036854775807 → E w → Calls Tryd.prog 61 #[.int .i64 n, .int .i64 10] w fun e w' => e = .returned (str (decimal n)) ∧ Keeps (fun _ => False) w w'
  quote : ∀ (t : Txt) (w : World), t.length ≤ 1099511627776 → Calls Tryd.prog 65 #[str t] w fun e w' => e = .returned (str (quoteB t)) ∧ Keeps (fun _ => False) w w'

theorem cat2 (a b : Txt) : (ByteArray.mk a.toArray ++ ByteArray.mk b.toArray : ByteArray) = ByteArray.mk (a ++ b).toArray := by
  have := str_cat a b (a ++ b) rfl
  exact Value.string.inj this

set_option maxRecDepth 100000 in
set_option maxHeartbeats 1600000 in
theorem simple_v {E : World → Prop} (hL : RLib E) (op n : Int) (s : Txt) (ao : Option Addr) (k cap : Nat) (w : World) (hE : E w) (h0 : -9223372036854775808 ≤ n) (h1 : n ≤ 9223372036854775807) (hs : s.length ≤ 1099511627776) :
    Calls Tryd.prog 54 #[exV op n s (.slice ao k cap)] w fun e w' => e = .returned (str (simpleT op n s)) ∧ Keeps (fun _ => False) w w' := by
  obtain ⟨HX, hxb, hxc⟩ := boxedT w #[.int .i64 op, .int .i64 n, str s, .slice ao k cap] 25
  have c0 := hxc 0 (.int .i64 op) rfl
  have c1 := hxc 1 (.int .i64 n) rfl
  have c2 := hxc 2 (str s) rfl
  have HF := hide (hL.fmt n _ h0 h1 (hL.keep hE (unhide HX)))
  have HQ := fun w' => hide (hL.quote s w' hs)
  clear hxc hE h0 h1
  unfold simpleT
  by_cases q1 : op = 1
  · subst q1
    rw [if_pos rfl]
    go_enter Tryd.func54, Tryd.ntmps54
    go_wp2_with (go_at_call 61; refine (unhide HF).mono ?_; rintro e w1 ⟨rfl, hk1⟩)
    go_ret
    exact ⟨rfl, (unhide HX).trans hk1⟩
  rw [if_neg q1]
  by_cases q2 : op = 2
  · subst q2
    rw [if_pos rfl]
    by_cases hn : n = 1
    · subst hn
      rw [if_pos rfl]
      go_enter Tryd.func54, Tryd.ntmps54
      go_wp2_with fail
      go_ret
      exact ⟨rfl, unhide HX⟩
    · rw [if_neg hn]
      have d1 : (n == 1) = false := by simpa using hn
      go_enter Tryd.func54, Tryd.ntmps54
      go_wp2_with fail
      go_ret
      exact ⟨rfl, unhide HX⟩
  rw [if_neg q2]
  by_cases q3 : op = 3
  · subst q3
    rw [if_pos rfl]
    go_enter Tryd.func54, Tryd.ntmps54
    go_wp2_with (go_at_call 65; refine (unhide (HQ _)).mono ?_; rintro e w1 ⟨rfl, hk1⟩)
    go_ret
    exact ⟨rfl, (unhide HX).trans hk1⟩
  rw [if_neg q3]
  by_cases q5 : op = 5
  · subst q5
    rw [if_pos rfl]
    go_enter Tryd.func54, Tryd.ntmps54
    go_wp2_with fail
    go_ret
    exact ⟨congrArg Ending.returned (str_cat [104, 97, 115, 32] s _ rfl), unhide HX⟩
  rw [if_neg q5]
  by_cases q6 : op = 6
  · subst q6
    rw [if_pos rfl]
    go_enter Tryd.func54, Tryd.ntmps54
    go_wp2_with fail
    go_ret
    exact ⟨rfl, unhide HX⟩
  rw [if_neg q6]
  have d1 : (op == 1) = false := by simpa using q1
  have d2 : (op == 2) = false := by simpa using q2
  have d3 : (op == 3) = false := by simpa using q3
  have d5 : (op == 5) = false := by simpa using q5
  have d6 : (op == 6) = false := by simpa using q6
  clear q1 q2 q3 q5 q6
  go_enter Tryd.func54, Tryd.ntmps54
  go_wp2_with fail
  go_ret
  exact ⟨rfl, unhide HX⟩

/-- The call of text gives this, in all later worlds. -/
def TextAt (w : World) (op n : Int) (s : Txt) (kv : Value) (T : Txt) : Prop :=
  ∀ w', Keeps (fun _ => False) w w' → Calls Tryd.prog 37 #[exV op n s kv] w' fun e w'' => e = .returned (str T) ∧ Keeps (fun _ => False) w' w''
theorem TextAt.keepF {w w' : World} {op n : Int} {s : Txt} {kv : Value} {T : Txt} (h : TextAt w op n s kv T) (hk : Keeps (fun _ => False) w w') : TextAt w' op n s kv T := fun w2 h2 => h w2 (hk.trans h2)

set_option maxRecDepth 100000 in
set_option maxHeartbeats 1600000 in
theorem at_v (op n want : Int) (s T : Txt) (ao : Option Addr) (k cap : Nat) (w : World) (hT : TextAt w op n s (.slice ao k cap) T) (hl : T.length ≤ 100000000000000) :
    Calls Tryd.prog 52 #[exV op n s (.slice ao k cap), .int .i64 want] w fun e w' => e = .returned (str (atT (op, n, T) want)) ∧ Keeps (fun _ => False) w w' := by
  obtain ⟨HX, hxb, hxc⟩ := boxedT w #[.int .i64 op, .int .i64 n, str s, .slice ao k cap] 25
  have c0 := hxc 0 (.int .i64 op) rfl
  have c1 := hxc 1 (.int .i64 n) rfl
  have c2 := hxc 2 (str s) rfl
  have c3 := hxc 3 (.slice ao k cap) rfl
  have HT := hide (hT _ (unhide HX))
  have HR := fun w' => hide (rank_v op n s ao k cap w')
  clear hT hxc
  unfold atT
  simp only
  generalize rankB op n = R at HR ⊢
  by_cases hr : R < want
  · rw [if_pos hr]
    go_enter Tryd.func52, Tryd.ntmps52
    go_wp2_with (first
      | (go_at_call 37; refine (unhide HT).mono ?_; rintro e w1 ⟨rfl, hk1⟩; have HK1 := hide ((unhide HX).trans hk1); have r0 := (hk1.cell (o := 0) hxb id).trans c0; have r1 := (hk1.cell (o := 1) hxb id).trans c1; have r2 := (hk1.cell (o := 2) hxb id).trans c2; have r3 := (hk1.cell (o := 3) hxb id).trans c3; clear hk1)
      | (go_at_call 64; refine (unhide (HR _)).mono ?_; rintro e w2 ⟨rfl, hk2⟩; have HK2 := hide ((unhide HK1).trans hk2); clear hk2))
    go_ret
    refine ⟨congrArg Ending.returned ?_, unhide HK2⟩
    simp only [cat2]
    rfl
  · rw [if_neg hr]
    go_enter Tryd.func52, Tryd.ntmps52
    go_wp2_with (first
      | (go_at_call 37; refine (unhide HT).mono ?_; rintro e w1 ⟨rfl, hk1⟩; have HK1 := hide ((unhide HX).trans hk1); have r0 := (hk1.cell (o := 0) hxb id).trans c0; have r1 := (hk1.cell (o := 1) hxb id).trans c1; have r2 := (hk1.cell (o := 2) hxb id).trans c2; have r3 := (hk1.cell (o := 3) hxb id).trans c3; clear hk1)
      | (go_at_call 64; refine (unhide (HR _)).mono ?_; rintro e w2 ⟨rfl, hk2⟩; have HK2 := hide ((unhide HK1).trans hk2); clear hk2))
    go_ret
    exact ⟨rfl, unhide HK2⟩
end Go.Proofs.YtlnkleicnkfkpaaDoor
