import Derived.Test.YtbgapbaeegloaaaDoorLb
namespace Go.Proofs.YtbgapbaeegloaaaDoor
open Go.RowKit Go.Maps

/-- A token. -/
structure TokA where
  kind : Int
  text : Txt
  n : Int
  pos : Int
deriving DecidableEq
def TokA.v (t : TokA) : Value := .agg #[.int .i64 t.kind, str t.text, .int .i64 t.n, .int .i64 t.pos]
def TokA.cs (t : TokA) : List Value := [.int .i64 t.kind, str t.text, .int .i64 t.n, .int .i64 t.pos]
/-- A number as uint64. -/
def unat (n : Int) : Nat := (IntKind.u64.wrap n).toNat
theorem unat_eq (n : Int) : IntKind.u64.wrap n = (unat n : Int) := by
  unfold unat
  rw [IntKind.wrap_u64]
  omega
theorem unat_lt (n : Int) : unat n < 18446744073709551616 := by
  unfold unat
  rw [IntKind.wrap_u64]
  omega
/-- A token's own text, and whether it could come out of Lex. -/
def textB (t : TokA) : Txt × Bool :=
  if t.kind = 2 then (decU (unat t.n), decide (t.text = []) && (decide (0 ≤ t.n) || decide (t.n = -9223372036854775808)))
  else if t.n ≠ 0 then ([], false)
  else if t.kind = 1 then (t.text, nameB t.text)
  else if t.kind = 3 then (if 20 < t.text.length then ([], false) else (quoteB t.text, true))
  else if t.kind = 4 then (t.text, decide (t.text ∈ kws))
  else if t.kind = 5 then (t.text, decide (t.text ∈ marks))
  else ([], false)
theorem boxedT (w : World) (cs : Array Value) (t : TypeId) : Hid (Keeps (fun _ => False) w (w.alloc (.cells cs t))) ∧ w.heap.size < (w.alloc (.cells cs t)).heap.size ∧ ∀ (j : Nat) (x : Value), cs[j]? = some x → (w.alloc (.cells cs t)).cell? ⟨w.heap.size, j, none⟩ = some x :=
  ⟨(Keeps.refl _ _).alloc _, by simp, fun j x h => by rw [cell_of_blk (heap_alloc_new w _)]; exact h⟩

set_option maxRecDepth 100000 in
set_option maxHeartbeats 2000000 in
/-- textOf of a token that is no number. -/
theorem textOf_no (t : TokA) (w : World) (hk2 : t.kind ≠ 2) :
    Calls Tryd.prog 15 #[t.v] w fun e w' => e = .returned (.tuple #[str (textB t).1, .bool (textB t).2]) ∧ Keeps (fun _ => False) w w' := by
  obtain ⟨k, s, n, p⟩ := t
  unfold TokA.v textB
  simp only at hk2 ⊢
  obtain ⟨HX, hxb, hxc⟩ := boxedT w #[.int .i64 k, str s, .int .i64 n, .int .i64 p] 25
  have c0 := hxc 0 _ rfl
  have c1 := hxc 1 _ rfl
  have c2 := hxc 2 _ rfl
  clear hxc
  by_cases h2 : k = 2
  · exact absurd h2 hk2
  · have d2 : (k == 2) = false := by simpa using h2
    rw [if_neg h2]
    by_cases hn : n = 0
    · subst hn
      rw [if_neg (by simp)]
      have HN := hide (name_v s)
      have HW := hide (keyword_v s)
      have HM := hide (isMark_v s)
      have HS := fun h => hide (quote_v s (w.alloc (.cells #[.int .i64 k, str s, .int .i64 0, .int .i64 p] 25)) h)
      by_cases h1 : k = 1
      · subst h1
        rw [if_pos rfl]
        clear HW HM HS
        go_enter Tryd.func15, Tryd.ntmps15
        go_wp2_with fail
        go_quiet ((go_at_call 24; exact Calls.quiet_of_same (unhide HN _)))
        go_wp2
        go_ret2
        exact ⟨rfl, (unhide HX).drewN _⟩
      · have d1 : (k == 1) = false := by simpa using h1
        rw [if_neg h1]
        by_cases h3 : k = 3
        · subst h3
          rw [if_pos rfl]
          by_cases hl : 20 < s.length
          · rw [if_pos hl]
            clear HW HM HS HN
            have hl' : (20 : Int) < (s.length : Int) := by omega
            go_enter Tryd.func15, Tryd.ntmps15
            go_wp2_with fail
            go_ret2
            exact ⟨rfl, unhide HX⟩
          · rw [if_neg hl]
            have HQ := HS (by omega)
            have hl' : ¬ (20 : Int) < (s.length : Int) := by omega
            clear HW HM HS HN hl
            go_enter Tryd.func15, Tryd.ntmps15
            go_wp2_with fail
            refine (unhide HQ).mono ?_
            rintro e w2 ⟨rfl, hk⟩
            have HK := hide ((unhide HX).trans hk)
            clear hk
            go_wp2_with fail
            go_ret2
            exact ⟨rfl, unhide HK⟩
        · have d3 : (k == 3) = false := by simpa using h3
          rw [if_neg h3]
          by_cases h4 : k = 4
          · subst h4
            rw [if_pos rfl]
            clear HN HM HS
            go_enter Tryd.func15, Tryd.ntmps15
            go_wp2_with fail
            go_quiet ((go_at_call 26; exact Calls.quiet_of_same (unhide HW _)))
            go_wp2
            go_ret2
            exact ⟨rfl, (unhide HX).drewN _⟩
          · have d4 : (k == 4) = false := by simpa using h4
            rw [if_neg h4]
            by_cases h5 : k = 5
            · subst h5
              rw [if_pos rfl]
              clear HN HW HS
              go_enter Tryd.func15, Tryd.ntmps15
              go_wp2_with fail
              go_quiet ((go_at_call 27; exact Calls.quiet_of_same (unhide HM _)))
              go_wp2
              go_ret2
              exact ⟨rfl, (unhide HX).drewN _⟩
            · have d5 : (k == 5) = false := by simpa using h5
              rw [if_neg h5]
              clear HN HW HM HS
              go_enter Tryd.func15, Tryd.ntmps15
              go_wp2_with fail
              go_ret2
              exact ⟨rfl, unhide HX⟩
    · rw [if_pos hn]
      have dn : (n == 0) = false := by simpa using hn
      go_enter Tryd.func15, Tryd.ntmps15
      go_wp2_with fail
      go_ret2
      exact ⟨rfl, unhide HX⟩
end Go.Proofs.YtbgapbaeegloaaaDoor
