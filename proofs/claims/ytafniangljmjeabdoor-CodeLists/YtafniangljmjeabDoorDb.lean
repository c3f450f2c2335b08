import Derived.Test.YtafniangljmjeabDoorNj

namespace Go.Proofs.YtafniangljmjeabDoor
open Go.RowKit Go.Maps

/-- The schema of one plain int. -/
def intS : List FieldA := [⟨[110], 1, false⟩]
theorem row_new (w1 : World) (cs : Array Value) (t n b : Nat) (hb : b = w1.heap.size) : RowAt (w1.alloc (.cells cs t)) (.slice (some ⟨b, 0, none⟩) n n) n cs.toList := by
  subst hb
  refine ⟨⟨_, _, rfl⟩, fun _ => ⟨_, 0, _, rfl, by simp, fun j x hx => ?_⟩, fun ao m cap e => by simp at e; omega⟩
  rw [cell_of_blk (heap_alloc_new w1 _), Nat.zero_add]
  simpa using hx
set_option maxRecDepth 100000 in
theorem intSchema_v (w : World) : Calls Tryd.prog 88 #[] w fun e w' => ∃ v, e = .returned (.agg #[v]) ∧ FldsAt w' v intS ∧ Keeps (fun _ => False) w w' := by
  go_enter Tryd.func88, Tryd.ntmps88
  go_wp2_with fail
  refine bodyPost_ret (v := .agg #[.slice (some ⟨w.heap.size + 1, 0, none⟩) 1 1]) (by simp [results, go_sem]) rfl ?_
  refine ⟨_, rfl, ?_, ((Keeps.refl _ w).alloc _).alloc _⟩
  exact row_new _ #[.string ⟨#[110]⟩, .int .i64 1, .bool false] 45 1 _ (by simp)

theorem intS_ok : schemaB intS = true := by decide
theorem errR_int (n : Int) : errR intS [⟨1, n, []⟩] = 0 := by
  unfold errR
  rw [intS_ok]
  simp [recB, fitAll, intS, fitsB]
theorem encodeB_int (n : Int) : encodeB intS [⟨1, n, []⟩] = groups (tn n) := by
  unfold encodeB
  rw [if_pos (errR_int n)]
  have : enc1 ⟨1, n, []⟩ = groups (tn n) := enc1_int rfl
  simp [encB, headT, bitsOf, intS, this]
set_option maxRecDepth 100000 in
set_option maxHeartbeats 1000000 in
theorem intBytes_v (n : Int) (w : World) (hT : Types w) (h0 : -9223372036854775808 ≤ n) (h1 : n ≤ 9223372036854775807) :
    Calls Tryd.prog 65 #[.int .i64 n] w fun e w' => ∃ v, e = .returned v ∧ w'.ownsRow w.heap.size 5 1 v (groups (tn n)).length (bs (groups (tn n))) ∧ Keeps (fun _ => False) w w' := by
  have HQ := hide (intSchema_v w)
  have HT := hide hT
  clear hT
  go_enter Tryd.func65, Tryd.ntmps65
  go_wp2_with fail
  refine (unhide HQ).mono ?_
  rintro e w2 ⟨v, rfl, hf, hk⟩
  have HB : Hid (Keeps (fun _ => False) w2 (w2.alloc (.cells #[.int .i64 1, .int .i64 n, .string ⟨#[]⟩] 129))) := (Keeps.refl _ _).alloc _
  have HC := hide (val_encode intS v [⟨1, n, []⟩] (.slice (some ⟨w2.heap.size, 0, none⟩) 1 1) _ (((unhide HT).keepF hk).keepF (unhide HB)) (hf.keepF (unhide HB)) (row_new w2 #[.int .i64 1, .int .i64 n, .string ⟨#[]⟩] 129 1 _ rfl) (by intro x hx; simp at hx; subst hx; exact ⟨h0, h1⟩))
  rw [encodeB_int, errR_int] at HC
  have HK := hide (hk.trans (unhide HB))
  have hs : w.heap.size ≤ (w2.alloc (.cells #[.int .i64 1, .int .i64 n, .string ⟨#[]⟩] 129)).heap.size := (unhide HK).size
  clear HQ hf hk HB
  go_wp2_with fail
  refine (unhide HC).mono ?_
  rintro e w3 ⟨b', rfl, ho, hk3⟩
  have HO := hide (ownsRow_lower ho hs)
  have HK3 := hide ((unhide HK).trans hk3)
  clear ho hk3 HC
  go_wp2_with fail
  go_ret
  exact ⟨_, rfl, unhide HO, unhide HK3⟩

end Go.Proofs.YtafniangljmjeabDoor
