import Derived.Test.YtiinohibmcefkaaGreatDoorJbe
import Derived.Test.YtiinohibmcefkaaGreatDoorRows
namespace Go.Proofs.YtiinohibmcefkaaGreatDoor
open Go.ChangeShapes Go.WideShapes Go.ChangeAt Go.RowKit Go.Deep
theorem bulk_one {H : Type} (d : DataW H) : 1 ≤ Rows.uptoBulk d := by
  cases d with
  | lit l => cases l <;> simp [Rows.uptoBulk]
  | nil => simp [Rows.uptoBulk]
  | ptr d => simp [Rows.uptoBulk]
  | slice elems spare => simp [Rows.uptoBulk]
  | agg parts => simp [Rows.uptoBulk]
  | iface t d => simp [Rows.uptoBulk]
  | map entries => simp [Rows.uptoBulk]
  | held h => simp [Rows.uptoBulk]
theorem bulk_len {H : Type} : ∀ l : List (DataW H), l.length ≤ Rows.uptoBulkAll l
  | [] => by simp
  | d :: r => by
    have h1 := bulk_one d
    have h2 := bulk_len r
    simp only [Rows.uptoBulkAll, List.length_cons]
    omega
section
variable {H : Type} {enc : TypeId × Value → H} {W : World} {fuel : Nat}
theorem bulk_row {t e : TypeId} (ht : Tryz.prog.underlying t = some (.slice e)) {c : Value} {x : DataW H × List MemPlace} (h : DataW.trod enc Tryz.prog W 0 (fun _ => true) true fuel t [c] = some x) {M : Nat} (hb : Rows.uptoBulk x.1 ≤ M) {n : Nat} {xs : List Value} (hr : RowAt W c n xs) : n ≤ M := by
  obtain ⟨ao, cp, hform⟩ := hr.form
  rcases DataW.trod_slice ht h with ⟨hcs, _⟩ | ⟨a, len, cap, elems, rest, n', hn, hcs, hxx, hle, hlc, _, hel, _, _, _⟩
  · simp at hcs
    rw [hcs] at hform
    simp at hform
    omega
  · rw [hxx] at hb
    simp only [Rows.uptoBulk] at hb
    have h1 := bulk_len (elems.map (·.1))
    simp only [List.length_map] at h1
    simp at hcs
    rw [hcs] at hform
    simp at hform
    omega
end
section
variable {W : World} {H : Type} {enc : TypeId × Value → H}
theorem schema_bulk {fuel : Nat} {sv : Value} {x : DataW H × List MemPlace} (h : DataW.trod enc Tryz.prog W 0 (fun _ => true) true fuel 24 [sv] = some x) {M : Nat} (hb : Rows.uptoBulk x.1 ≤ M) {S : List FieldA} (hS : FldsAt W sv S) : S.length ≤ M := by
  obtain ⟨xs, m, hm, hx, hl, hlen, hf⟩ := DataW.trod_struct Tryz.underlying24 h
  match xs, hlen with
  | [y0], _ =>
    have h0 : DataW.trod enc Tryz.prog W 0 (fun _ => true) true m 22 (([sv].drop 0).take (Tryz.prog.cellsOf 22)) = some y0 := hf 0 _ rfl
    rw [show Tryz.prog.cellsOf 22 = 1 by kernel_rfl] at h0
    simp only [List.drop_zero, List.take_succ_cons, List.take_zero] at h0
    refine bulk_row Tryz.underlying22 h0 ?_ hS
    rw [hx] at hb
    simp only [Rows.uptoBulk, Rows.uptoBulkAll, List.map_cons, List.map_nil] at hb
    omega
theorem row_bulk {fuel : Nat} {c0 c1 : Value} {x : DataW H × List MemPlace} (h : DataW.trod enc Tryz.prog W 0 (fun _ => true) true fuel 31 [c0, c1] = some x) {M : Nat} (hb : Rows.uptoBulk x.1 ≤ M) {l : List ValA} (hr : ValsAt W c1 l) : l.length ≤ M := by
  obtain ⟨xs, m, hm, hx, hl, hlen, hf⟩ := DataW.trod_struct Tryz.underlying31 h
  match xs, hlen with
  | [y0, y1], _ =>
    have h1 : DataW.trod enc Tryz.prog W 0 (fun _ => true) true m 29 (([c0, c1].drop 1).take (Tryz.prog.cellsOf 29)) = some y1 := hf 1 _ rfl
    rw [e29] at h1
    simp only [List.take_succ_cons, List.take_zero, List.drop_succ_cons, List.drop_zero] at h1
    refine bulk_row Tryz.underlying29 h1 ?_ hr
    rw [hx] at hb
    simp only [Rows.uptoBulk, Rows.uptoBulkAll, List.map_cons, List.map_nil] at hb
    omega
end
end Go.Proofs.YtiinohibmcefkaaGreatDoor
