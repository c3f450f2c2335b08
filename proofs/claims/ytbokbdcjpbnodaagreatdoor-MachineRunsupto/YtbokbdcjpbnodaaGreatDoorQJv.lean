import Derived.Test.YtbokbdcjpbnodaaGreatDoorQJu
import Derived.Deep.Onto
import Derived.Test.YtbokbdcjpbnodaaGreatDoorRows
import Derived.Test.YtbokbdcjpbnodaaGreatDoorQJi
namespace Go.Proofs.YtbokbdcjpbnodaaGreatDoor
open Go.RowKit Go.Maps
theorem own_off {w : World} {B e size n : Nat} {v : Value} {xs : List Value} (h : w.ownsRow B e size v n xs) {R : Nat} {cs : Array Value} {t : TypeId} {fr : Nat × Nat} (hR : w.heap[R]? = some (.cells cs t fr)) (ht : t ≠ e) : ∀ k, v.ownBlock = some k → ¬ k = R := by
 intro k hk q
 subst q
 rcases h.2 with ⟨rfl, _⟩ | ⟨g, cap, cur, rfl, _, hb, _⟩
 ·cases hk
 ·simp only [Value.ownBlock, Option.some.injEq] at hk
  subst hk
  rw [hb] at hR
  simp only [Option.some.injEq, Obj.cells.injEq] at hR
  exact ht hR.2.1.symm
end Go.Proofs.YtbokbdcjpbnodaaGreatDoor
namespace Go.Proofs.YtbokbdcjpbnodaaGreatDoor
open Go.ChangeShapes Go.WideShapes Go.ChangeAt Go.RowKit Go.Deep
theorem bulk_one {H : Type} (d : DataW H) : 1 ≤ Rows.uptoBulk d := by
 cases d with
 | lit l => cases l <;> simp [Rows.uptoBulk]
 | nil => simp [Rows.uptoBulk]
 | ptr d => simp [Rows.uptoBulk]
 | slice elems spare => simp [Rows.uptoBulk]
 | agg parts => simp [Rows.uptoBulk]
 | iface t d => simp [Rows.uptoBulk]
 | map entries => simp [Rows.uptoBulk]
 | held h => simp [Rows.uptoBulk]
theorem bulk_len {H : Type} : ∀ l : List (DataW H), l.length ≤ Rows.uptoBulkAll l
 | [] => by simp
 | d :: r => by
  have h1 := bulk_one d
  have h2 := bulk_len r
  simp only [Rows.uptoBulkAll, List.length_cons]
  omega
section
variable {H : Type} {enc : TypeId × Value → H} {W : World} {fuel : Nat}
theorem bulk_row {t e : TypeId} (ht : Tryz.prog.underlying t = some (.slice e)) {c : Value} {x : DataW H × List MemPlace} (h : DataW.trod enc Tryz.prog W 0 (fun _ => true) true fuel t [c] = some x) {M : Nat} (hb : Rows.uptoBulk x.1 ≤ M) {n : Nat} {xs : List Value} (hr : RowAt W c n xs) : n ≤ M := by
 obtain ⟨ao, cp, hform⟩ := hr.form
 rcases DataW.trod_slice ht h with ⟨hcs, _⟩ | ⟨a, len, cap, elems, rest, n', hn, hcs, hxx, hle, hlc, _, hel, _, _, _⟩
 ·simp at hcs
  rw [hcs] at hform
  simp at hform
  omega
 ·rw [hxx] at hb
  simp only [Rows.uptoBulk] at hb
  have h1 := bulk_len (elems.map (·.1))
  simp only [List.length_map] at h1
  simp at hcs
  rw [hcs] at hform
  simp at hform
  omega
end
end Go.Proofs.YtbokbdcjpbnodaaGreatDoor
namespace Go.Proofs.YtbokbdcjpbnodaaGreatDoor
open Go.ChangeShapes Go.WideShapes Go.ChangeAt Go.RowKit Go.Deep
set_option maxRecDepth 100000
theorem env_of2 {W : World} {l : List (String × _)} (hl : l = [("arbor/value.types", Rows.laid_arbor_value_types), ("arbor/code.operations", Rows.laid_arbor_code_operations)]) (h : laidMetH Tryz.prog l W) : Env W := by
 subst hl
 have h1 := h.filter (fun x => x.1 == "arbor/value.types")
 have h2 := h.filter (fun x => x.1 == "arbor/code.operations")
 rw [show [("arbor/value.types", Rows.laid_arbor_value_types), ("arbor/code.operations", Rows.laid_arbor_code_operations)].filter (fun x => x.1 == "arbor/value.types") = [("arbor/value.types", Rows.laid_arbor_value_types)] by rfl] at h1
 rw [show [("arbor/value.types", Rows.laid_arbor_value_types), ("arbor/code.operations", Rows.laid_arbor_code_operations)].filter (fun x => x.1 == "arbor/code.operations") = [("arbor/code.operations", Rows.laid_arbor_code_operations)] by rfl] at h2
 exact ⟨ops_met h2, types_met h1⟩
theorem eRow : Tryz.prog.cellsOf 28 = 2 := by kernel_rfl
section
variable {H : Type} {enc : TypeId × Value → H} {W : World}
theorem row_in {fuel : Nat} {cs : List Value} {x : DataW H × List MemPlace} (h : DataW.trod enc Tryz.prog W 0 (fun _ => true) true fuel 28 cs = some x) (hw : ∀ n ∈ x.1.weights Tryz.prog 28, n ≤ reachBytes) :
  ∃ (hh : Bool) (u : Value) (vals : List ValA), cs = [.bool hh, u] ∧ ValsAt W u vals ∧ vals.length ≤ 4398046511104 := by
 obtain ⟨xs, m, hm, hx, hl, hlen, hf⟩ := DataW.trod_struct Tryz.underlying28 h
 have hl' : cs.length = 2 := hl.trans eRow
 match xs, hlen, cs, hl' with
 | [y0, y1], _, [c0, c1], _ =>
  have h0 : DataW.trod enc Tryz.prog W 0 (fun _ => true) true m 4 (([c0, c1].drop 0).take (Tryz.prog.cellsOf 4)) = some y0 := hf 0 _ rfl
  have h1 : DataW.trod enc Tryz.prog W 0 (fun _ => true) true m 26 (([c0, c1].drop 1).take (Tryz.prog.cellsOf 26)) = some y1 := hf 1 _ rfl
  rw [e4] at h0
  rw [eVals] at h1
  simp only [List.drop_zero, List.take_succ_cons, List.take_zero, List.drop_succ_cons] at h0 h1
  have hws : ∀ n, n ∈ y0.1.weights Tryz.prog 4 ++ y1.1.weights Tryz.prog 26 → n ≤ reachBytes := fun n hn => hw n (by
   rw [hx]
   simp only [DataW.weights, Tryz.underlying28, List.map_cons, List.map_nil, DataW.weightsEach, List.append_nil]
   exact hn)
  obtain ⟨o, q0, _⟩ := DataW.trod_bool Tryz.underlying4 h0
  simp at q0
  obtain ⟨l, hl, _, hn⟩ := vals_in h1 (fun n hn => hws n (List.mem_append_right _ hn))
  exact ⟨o, c1, l, by rw [q0], hl, hn⟩
end
end Go.Proofs.YtbokbdcjpbnodaaGreatDoor
namespace Go.Proofs.YtbokbdcjpbnodaaGreatDoor
open Go.RowKit Go.Maps
variable {W : World} {H : Type} {enc : TypeId × Value → H}
theorem schema_bulk {fuel : Nat} {sv : Value} {x : DataW H × List MemPlace} (h : DataW.trod enc Tryz.prog W 0 (fun _ => true) true fuel 24 [sv] = some x) {M : Nat} (hb : Rows.uptoBulk x.1 ≤ M) {S : List FieldA} (hS : FldsAt W sv S) : S.length ≤ M := by
 obtain ⟨xs, m, hm, hx, hl, hlen, hf⟩ := DataW.trod_struct Tryz.underlying24 h
 match xs, hlen with
 | [y0], _ =>
  have h0 : DataW.trod enc Tryz.prog W 0 (fun _ => true) true m 22 (([sv].drop 0).take (Tryz.prog.cellsOf 22)) = some y0 := hf 0 _ rfl
  rw [e37] at h0
  simp only [List.drop_zero, List.take_succ_cons, List.take_zero] at h0
  refine bulk_row Tryz.underlying22 h0 ?_ hS
  rw [hx] at hb
  simp only [Rows.uptoBulk, Rows.uptoBulkAll, List.map_cons, List.map_nil] at hb
  omega
theorem row_bulk {fuel : Nat} {c0 c1 : Value} {x : DataW H × List MemPlace} (h : DataW.trod enc Tryz.prog W 0 (fun _ => true) true fuel 28 [c0, c1] = some x) {M : Nat} (hb : Rows.uptoBulk x.1 ≤ M) {l : List ValA} (hr : ValsAt W c1 l) : l.length ≤ M := by
 obtain ⟨xs, m, hm, hx, hl, hlen, hf⟩ := DataW.trod_struct Tryz.underlying28 h
 match xs, hlen with
 | [y0, y1], _ =>
  have h1 : DataW.trod enc Tryz.prog W 0 (fun _ => true) true m 26 (([c0, c1].drop 1).take (Tryz.prog.cellsOf 26)) = some y1 := hf 1 _ rfl
  rw [eVals] at h1
  simp only [List.take_succ_cons, List.take_zero, List.drop_succ_cons, List.drop_zero] at h1
  refine bulk_row Tryz.underlying26 h1 ?_ hr
  rw [hx] at hb
  simp only [Rows.uptoBulk, Rows.uptoBulkAll, List.map_cons, List.map_nil] at hb
  omega
end Go.Proofs.YtbokbdcjpbnodaaGreatDoor
