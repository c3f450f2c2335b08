import Derived.Test.YtbgapbaeegloaabGreatDoorLb
namespace Go.Proofs.YtbgapbaeegloaabGreatDoor
open Go.RowKit Go.Maps

/-- A token. -/
structure TokA where
  kind : Int
  text : Txt
  n : Int
  pos : Int
deriving DecidableEq
def TokA.v (t : TokA) : Value := .agg #[.int .i64 t.kind, str t.text, .int .i64 t.n, .int .i64 t.pos]
def TokA.cs (t : TokA) : List Value := [.int .i64 t.kind, str t.text, .int .i64 t.n, .int .i64 t.pos]
/-- A number as uint64. -/
def unat (n : Int) : Nat := (IntKind.u64.wrap n).toNat
theorem unat_eq (n : Int) : IntKind.u64.wrap n = (unat n : Int) := by
  unfold unat
  rw [IntKind.wrap_u64]
  omega
theorem unat_lt (n : Int) : unat n < 18446744073709551616 := by
  unfold unat
  rw [IntKind.wrap_u64]
  omega
/-- A token's own text, and whether it could come out of Lex. -/
def textB (t : TokA) : Txt × Bool :=
  if t.kind = 2 then (decU (unat t.n), decide (t.text = []) && (decide (0 ≤ t.n) || decide (t.n = -9223372036854775808)))
  else if t.n ≠ 0 then ([], false)
  else if t.kind = 1 then (t.text, nameB t.text)
  else if t.kind = 3 then (if 20 < t.text.length then ([], false) else (quoteB t.text, true))
  else if t.kind = 4 then (t.text, decide (t.text ∈ kws))
  else if t.kind = 5 then (t.text, decide (t.text ∈ marks))
  else ([], false)
theorem boxedT (w : World) (cs : Array Value) (t : TypeId) : Hid (Keeps (fun _ => False) w (w.alloc (.cells cs t))) ∧ w.heap.size < (w.alloc (.cells cs t)).heap.size ∧ ∀ (j : Nat) (x : Value), cs[j]? = some x → (w.alloc (.cells cs t)).cell? ⟨w.heap.size, j, none⟩ = some x :=
  ⟨(Keeps.refl _ _).alloc _, by simp, fun j x h => by rw [cell_of_blk (heap_alloc_new w _)]; exact h⟩

end Go.Proofs.YtbgapbaeegloaabGreatDoor
namespace Go.Proofs.YtbgapbaeegloaabGreatDoor
open Go.RowKit Go.Maps

/-- The worlds in which all that a world holds stands still. -/
structure KW (W0 : World) where
  wd : World
  kept : Keeps (fun _ => False) W0 wd
instance (W0 : World) : Nonempty (KW W0) := ⟨⟨W0, Keeps.refl _ W0⟩⟩
/-- A region that draws its order, whose operations only read and whose callees only lay new blocks: walked once, in the order of the text. -/
theorem region_kept {P : Program} {id : Nat} {Q : Exit → Act → World → Prop} {a : Act} {w : World} {l : List Oper} (hm : P.follows .mixedOrders = true) (hB : Region.lexB .any l.toArray = true)
    (h : wpQuiet P l.toArray (fun w' => ∃ n : KW w, w' = n.wd) (fun a' => ∀ w', (∃ n : KW w, w' = n.wd) → Q .normal a' w') l a) : (Code.region id l.toArray true).wp P Q a w :=
  wp_region_quiet (C := fun w' => ∃ n : KW w, w' = n.wd) hm hB ⟨⟨_, (Keeps.refl _ w).drew⟩, rfl⟩ (by simpa using h)
/-- A contract with no effect but new blocks, at any such world. -/
theorem kw_of {P : Program} {f : FuncId} {args : Array Value} {W0 : World} {v : Value} (n : KW W0) (h : Calls P f args n.wd fun e w' => e = .returned v ∧ Keeps (fun _ => False) n.wd w') :
    Calls P f args n.wd fun e w' => e = .returned v ∧ ∃ m : KW W0, w' = m.wd :=
  h.mono fun _ w' ⟨he, hk⟩ => ⟨he, ⟨w', n.kept.trans hk⟩, rfl⟩

end Go.Proofs.YtbgapbaeegloaabGreatDoor
namespace Go.Proofs.YtbgapbaeegloaabGreatDoor
open Go.RowKit Go.Maps

theorem decU_step {u : Nat} (h : 10 ≤ u) : decU u = decU (u / 10) ++ [UInt8.ofNat (48 + u % 10)] := by
  unfold decU
  rw [if_neg (by omega), if_neg (by omega), decN_pos (by omega)]
theorem decU_one {u : Nat} (h : u < 10) : decU u = [UInt8.ofNat (48 + u)] := by
  unfold decU
  split
  · rename_i e; subst e; rfl
  · rw [decN_pos (by omega), show u / 10 = 0 by omega, decN_zero, show u % 10 = u by omega]; rfl
theorem decU_len (u : Nat) (h : u < 18446744073709551616) : (decU u).length ≤ 20 := by
  unfold decU
  split
  · simp
  · exact decN_length 20 u (by omega)
theorem conv1 (W : World) (b : Nat) (c : UInt8) (h : W.cell? ⟨b, 0, none⟩ = some (.int .u8 (num c))) : (convert 51 9 (.slice (some ⟨b, 0, none⟩) 1 1)).run Tryz.prog W = .ok (str [c]) W :=
  conv_bytes _ _ 1 [c] (fun j d hj => by
    cases j with
    | zero => simp at hj; subst hj; exact h
    | succ j => simp at hj)
end Go.Proofs.YtbgapbaeegloaabGreatDoor
namespace Go.Proofs.YtbgapbaeegloaabGreatDoor
open Go.RowKit Go.Maps

set_option maxRecDepth 100000 in
set_option maxHeartbeats 2000000 in
theorem rrun_v (x : Txt) (hx : x.length ≤ 1099511627776) (w : World) : Calls Tryz.prog 17 #[str x, .int .i64 0] w fun e w' => e = .returned (str (x.take (runB x))) ∧ w' = w := by
  obtain ⟨D, HD⟩ : ∃ D, Hid (runB x = D) := ⟨_, rfl⟩
  rw [unhide HD]
  go_enter Tryz.func17, Tryz.ntmps17
  go_wp2_with fail
  go_loopw [5] (fun i wr => ∃ k : Nat, k ≤ x.length ∧ i = .int .i64 k ∧ Hid (D = scan x (fun c => partB (num c)) k) ∧ wr = w) (fun i _ => x.length - (intOf i).toNat)
  case atStart => exact ⟨0, Nat.zero_le _, rfl, (unhide HD).symm, rfl⟩
  case round =>
    obtain ⟨k, hk, rfl, HK, rfl⟩ := hrel
    have hsl : (ByteArray.mk x.toArray).extract 0 k = ⟨(x.take k).toArray⟩ := by rw [ext_str]; simp
    cases hy : x[k]? with
    | none =>
      have h1 := get_ge hy
      obtain rfl : k = x.length := by omega
      have HE : Hid (D = x.length) := by show _ = _; rw [unhide HK, scan_none hy]
      clear hy h1
      go_wp2_with fail
      go_ret
      exact ⟨by rw [unhide HE, List.take_length]; rfl, rfl⟩
    | some c =>
      have h1 := get_lt hy
      have q := str_at hy
      have e1 : (c.toNat : Int) = num c := rfl
      have HY := hide hy
      have hk1 : (k : Int) < (x.length : Int) := by omega
      clear hy
      have HL := hide (rletter_v (num c))
      have HG := hide (rdigit_v (num c))
      have HP := hide (part_split (num c))
      cases hl : letterB (num c) with
      | true =>
        have HT : Hid (D = scan x (fun c => partB (num c)) (k + 1)) := by show _ = _; rw [unhide HK]; exact scan_go (unhide HY) (by rw [unhide HP, hl]; rfl)
        rw [hl] at HL
        clear hl HP
        go_wp2_with (first | (go_at_call 16; refine (unhide HL _).mono ?_; rintro e w1 ⟨rfl, rfl⟩) | (go_at_call 19; refine (unhide HG _).mono ?_; rintro e w1 ⟨rfl, rfl⟩))
        go_roundw
        case rel => exact ⟨k + 1, by omega, by go_num, unhide HT, trivial⟩
        case measure => simp [intOf]; omega
      | false =>
        rw [hl] at HL
        cases hd : digitB (num c) with
        | true =>
          have HT : Hid (D = scan x (fun c => partB (num c)) (k + 1)) := by show _ = _; rw [unhide HK]; exact scan_go (unhide HY) (by rw [unhide HP, hl, hd]; rfl)
          rw [hd] at HG
          clear hl hd HP
          go_wp2_with (first | (go_at_call 16; refine (unhide HL _).mono ?_; rintro e w1 ⟨rfl, rfl⟩) | (go_at_call 19; refine (unhide HG _).mono ?_; rintro e w1 ⟨rfl, rfl⟩))
          go_roundw
          case rel => exact ⟨k + 1, by omega, by go_num, unhide HT, trivial⟩
          case measure => simp [intOf]; omega
        | false =>
          have HE : Hid (D = k) := by show _ = _; rw [unhide HK]; exact scan_stop (unhide HY) (by rw [unhide HP, hl, hd]; rfl)
          rw [hd] at HG
          clear hl hd HP
          go_wp2_with (first | (go_at_call 16; refine (unhide HL _).mono ?_; rintro e w1 ⟨rfl, rfl⟩) | (go_at_call 19; refine (unhide HG _).mono ?_; rintro e w1 ⟨rfl, rfl⟩))
          go_ret
          exact ⟨by rw [unhide HE]; rfl, rfl⟩

theorem run_self (x : Txt) : (x.take (runB x) == x) = x.all (fun c => partB (num c)) := by
  have h := runB_full x
  have hle : runB x ≤ x.length := scan_le x _ 0 (Nat.zero_le _)
  rw [← h]
  apply Bool.eq_iff_iff.2
  simp only [beq_iff_eq]
  constructor
  · intro e
    have := congrArg List.length e
    rw [List.length_take] at this
    omega
  · intro e
    exact List.take_of_length_le (by omega)

end Go.Proofs.YtbgapbaeegloaabGreatDoor
namespace Go.Proofs.YtbgapbaeegloaabGreatDoor
open Go.RowKit Go.Maps

theorem markT (x : Txt) (hx : x.length ≤ 140737488355328) (w : World) : Calls Tryz.prog 34 #[str [32, 61, 61, 32, 33, 61, 32, 60, 61, 32, 62, 61, 32, 43, 61, 32, 63, 63, 32, 61, 32, 60, 32, 62, 32, 43, 32, 45, 32, 42, 32, 40, 32, 41, 32, 123, 32, 125, 32, 44, 32, 59, 32], str x] w fun e w' => e = .returned (.bool (decide (x ∈ marks))) ∧ w' = w := by
  have HQ := listed_v (wordsT marks) x (by decide +kernel) hx w
  rw [listed_marks] at HQ
  exact HQ

end Go.Proofs.YtbgapbaeegloaabGreatDoor
