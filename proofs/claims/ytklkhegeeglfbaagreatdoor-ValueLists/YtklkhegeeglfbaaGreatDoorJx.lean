import Derived.Test.YtklkhegeeglfbaaGreatDoorJq
import Derived.Test.YtklkhegeeglfbaaGreatDoorJr
import Derived.Test.YtklkhegeeglfbaaGreatDoorRg
import Derived.Test.YtklkhegeeglfbaaGreatDoorJw
namespace Go.Proofs.YtklkhegeeglfbaaGreatDoor
open Go.RowKit Go.Maps

theorem vv_decode (l : List FieldA) (v : Value) (t : Txt) (u : Value) (w : World) (B : Nat) (hE : Env w) (h : FldsAt w v l) (ho : w.ownsRow B 5 1 u t.length (bs t)) (htl : t.length ≤ 1099511627776) :
    Calls Tryz.prog 15 #[.agg #[v], u] w fun e w' => ∃ r', e = .returned (.tuple #[r', .int .i64 (decodeB l t).2]) ∧ w'.ownsRow w.heap.size 40 3 r' (decodeB l t).1.length (vcs (decodeB l t).1) ∧ Keeps (fun _ => False) w w' := by
  rw [← decode_eq]
  refine val_decode l v t u w hE.types h (rowAt_own ho) (by omega) ?_
  rcases ho.2 with ⟨h1, h2⟩ | ⟨g, cap, cur, hv, _⟩
  · exact .inl ⟨h1, List.eq_nil_of_length_eq_zero h2⟩
  · exact .inr ⟨g, 0, cap, hv⟩
theorem vv_print (l : List FieldA) (v : Value) (r : List ValA) (u : Value) (w : World) (hE : Env w) (h : FldsAt w v l) (hr : ValsAt w u r) (hI : InR r) :
    Calls Tryz.prog 32 #[.agg #[v], u] w fun e w' => e = .returned (.tuple #[str (printB l r), .int .i64 (errR l r)]) ∧ Keeps (fun _ => False) w w' := by
  rw [← print_eq]
  exact val_print l v r u w hE.types hE.pow h hr hI
theorem vv_unquote (t : Txt) (w : World) (hE : Env w) (ht : t.length ≤ 1099511627776) :
    Calls Tryz.prog 102 #[str t] w fun e w' => e = .returned (.tuple #[str (unquoteB t).1, .int .i64 (unquoteB t).2.1, .int .i64 (unquoteB t).2.2]) ∧ Keeps (fun _ => False) w w' := val_unquote t w hE ht
end Go.Proofs.YtklkhegeeglfbaaGreatDoor
namespace Go.Proofs.YtklkhegeeglfbaaGreatDoor
open Go.RowKit Go.Maps

theorem flds_own {w : World} {B : Nat} {v : Value} {l : List FieldA} (h : w.ownsRow B 69 3 v l.length (fcs l)) : FldsAt w v l := rowAt_own h
theorem vals_own {w : World} {B : Nat} {v : Value} {l : List ValA} (h : w.ownsRow B 40 3 v l.length (vcs l)) : ValsAt w v l := rowAt_own h
theorem bytes_own {w : World} {B : Nat} {v : Value} {l : Txt} (h : w.ownsRow B 5 1 v l.length (bs l)) : BytesAt w v l := rowAt_own h
theorem len_max {n : Nat} (h : n ≤ 1099511627776) : n ≤ maxLen := by unfold maxLen; omega

end Go.Proofs.YtklkhegeeglfbaaGreatDoor
namespace Go.Proofs.YtklkhegeeglfbaaGreatDoor
open Go.RowKit Go.Maps

set_option maxRecDepth 100000 in
set_option maxHeartbeats 1000000 in
theorem law_printSchema (l : List FieldA) (v : Value) (w : World) (hE : Env w) (h : FldsAt w v l) (hl : l.length ≤ 1099511627776) :
    Calls Tryz.prog 10 #[.agg #[v]] w fun e w' => e = .returned (.tuple #[str (printSchemaB l), .int .i64 (errS l)]) ∧ Keeps (fun _ => False) w w' := by
  have HEV := hide hE
  clear hE
  obtain ⟨ao, cap, rfl⟩ := RowAt.form h
  obtain ⟨HB, hb, hbc⟩ := boxed w #[.slice ao l.length cap] 26
  have hp := hbc 0 (.slice ao l.length cap) rfl
  have HF := hide (h.keepF (unhide HB))
  have HQ := hide (copySchema_any _ _ l (unhide HF) hl)
  clear hbc h
  obtain ⟨E, HE⟩ : ∃ E, Hid (errS l = E) := ⟨_, rfl⟩
  rw [unhide HE]
  obtain ⟨X, HXX⟩ : ∃ X, Hid (printSchemaB l = X) := ⟨_, rfl⟩
  rw [unhide HXX]
  go_enter Tryz.func10, Tryz.ntmps10
  go_wp2_with fail
  refine (unhide HQ).mono ?_
  rintro e w2 ⟨v1, rfl, ho2, hk2⟩
  obtain ⟨oo, oc, rfl⟩ := (rowAt_own ho2).form
  obtain ⟨HX, hx, hxc⟩ := boxed w2 #[.slice oo l.length oc] 26
  have q0 := hxc 0 (.slice oo l.length oc) rfl
  have p2 := (((unhide HX).cell (o := 0) (Nat.lt_of_lt_of_le hb hk2.size) id).trans (hk2.cell (o := 0) hb id)).trans hp
  have HF3 := hide (((unhide HF).keepF hk2).keepF (unhide HX))
  have HA3 := hide ((flds_own ho2).keepF (unhide HX))
  have HB3 := hide (((unhide HB).trans hk2).trans (unhide HX))
  have hb3 : w.heap.size < (w2.alloc (.cells #[.slice oo l.length oc] 26)).heap.size := Nat.lt_of_lt_of_le (Nat.lt_of_lt_of_le hb hk2.size) (unhide HX).size
  clear hxc HQ hp ho2 hk2 hb HX HB HF
  have HQ2 := hide (val_printSchema l _ _ ((unhide HEV).keepF (unhide HB3)).types (unhide HA3))
  rw [unhide HE, unhide HXX] at HQ2
  go_wp2_with fail
  refine (unhide HQ2).mono ?_
  rintro e w5 ⟨rfl, hk5⟩
  have q5 := (hk5.cell (o := 0) hx id).trans q0
  have p5 := (hk5.cell (o := 0) hb3 id).trans p2
  have HQ3 := hide (eqSchema_any w5 _ _ l l ((unhide HA3).keepF hk5) ((unhide HF3).keepF hk5) (len_max hl))
  rw [decide_eq_true rfl] at HQ3
  have HB5 := hide ((unhide HB3).trans hk5)
  clear HQ2 hk5 q0 p2
  go_wp2_with fail
  refine (unhide HQ3).mono ?_
  rintro e w6 ⟨rfl, hk6⟩
  have HB6 := hide ((unhide HB5).trans hk6)
  clear HQ3 hk6
  go_wp2_with fail
  go_ret2
  exact ⟨rfl, unhide HB6⟩

set_option maxRecDepth 100000 in
set_option maxHeartbeats 1000000 in
theorem law_encode (l : List FieldA) (v : Value) (r : List ValA) (u : Value) (w : World) (hE : Env w) (h : FldsAt w v l) (hr : ValsAt w u r) (hl : l.length ≤ 1099511627776) (hrl : r.length ≤ 1099511627776) (hI : InR r) :
    Calls Tryz.prog 7 #[.agg #[v], u] w fun e w' => ∃ r', e = .returned (.tuple #[r', .int .i64 (errR l r)]) ∧ w'.ownsRow w.heap.size 5 1 r' (encodeB l r).length (bs (encodeB l r)) ∧ Keeps (fun _ => False) w w' := by
  have HEV := hide hE
  clear hE
  obtain ⟨ao, cap, rfl⟩ := RowAt.form h
  obtain ⟨bo, cbp, rfl⟩ := RowAt.form hr
  obtain ⟨HB, hb, hbc⟩ := boxed w #[.slice ao l.length cap] 26
  have hp := hbc 0 (.slice ao l.length cap) rfl
  have HF := hide (h.keepF (unhide HB))
  have HQ := hide (copySchema_any _ _ l (unhide HF) hl)
  have HR := hide (hr.keepF (unhide HB))
  clear hbc h hr
  obtain ⟨E, HE⟩ : ∃ E, Hid (errR l r = E) := ⟨_, rfl⟩
  rw [unhide HE]
  obtain ⟨X, HXX⟩ : ∃ X, Hid (encodeB l r = X) := ⟨_, rfl⟩
  rw [unhide HXX]
  go_enter Tryz.func7, Tryz.ntmps7
  go_wp2_with fail
  refine (unhide HQ).mono ?_
  rintro e w2 ⟨v1, rfl, ho2, hk2⟩
  obtain ⟨oo, oc, rfl⟩ := (rowAt_own ho2).form
  obtain ⟨HX, hx, hxc⟩ := boxed w2 #[.slice oo l.length oc] 26
  have q0 := hxc 0 (.slice oo l.length oc) rfl
  have p2 := (((unhide HX).cell (o := 0) (Nat.lt_of_lt_of_le hb hk2.size) id).trans (hk2.cell (o := 0) hb id)).trans hp
  have HF3 := hide (((unhide HF).keepF hk2).keepF (unhide HX))
  have HA3 := hide ((flds_own ho2).keepF (unhide HX))
  have HB3 := hide (((unhide HB).trans hk2).trans (unhide HX))
  have hb3 : w.heap.size < (w2.alloc (.cells #[.slice oo l.length oc] 26)).heap.size := Nat.lt_of_lt_of_le (Nat.lt_of_lt_of_le hb hk2.size) (unhide HX).size
  have HR3 := hide (((unhide HR).keepF hk2).keepF (unhide HX))
  clear hxc HQ hp ho2 hk2 hb HX HB HF HR
  have HQ1 := hide (copyVals_any (w2.alloc (.cells #[.slice oo l.length oc] 26)) _ r (unhide HR3) hrl)
  go_wp2_with fail
  refine (unhide HQ1).mono ?_
  rintro e w3 ⟨v2, rfl, ho3, hk3⟩
  obtain ⟨uo, uc, rfl⟩ := (rowAt_own ho3).form
  have q3 := (hk3.cell (o := 0) hx id).trans q0
  have p3 := (hk3.cell (o := 0) hb3 id).trans p2
  have hx3 := Nat.lt_of_lt_of_le hx hk3.size
  have hb4 := Nat.lt_of_lt_of_le hb3 hk3.size
  have HF4 := hide ((unhide HF3).keepF hk3)
  have HA4 := hide ((unhide HA3).keepF hk3)
  have HR4 := hide ((unhide HR3).keepF hk3)
  have HC4 := hide (vals_own ho3)
  have HB4 := hide ((unhide HB3).trans hk3)
  clear HQ1 q0 p2 hk3 ho3 HF3 HA3 HR3 HB3
  have HQ2 := hide (val_encode l _ r _ _ ((unhide HEV).keepF (unhide HB4)).types (unhide HA4) (unhide HC4) hI)
  rw [unhide HE, unhide HXX] at HQ2
  go_wp2_with fail
  refine (unhide HQ2).mono ?_
  rintro e w5 ⟨r', rfl, ho5, hk5⟩
  have q5 := (hk5.cell (o := 0) hx3 id).trans q3
  have p5 := (hk5.cell (o := 0) hb4 id).trans p3
  have HQ3 := hide (eqSchema_any w5 _ _ l l ((unhide HA4).keepF hk5) ((unhide HF4).keepF hk5) (len_max hl))
  rw [decide_eq_true rfl] at HQ3
  have HB5 := hide ((unhide HB4).trans hk5)
  have HR5 := hide ((unhide HR4).keepF hk5)
  have HC5 := hide ((unhide HC4).keepF hk5)
  have HO5 := hide (ownsRow_lower ho5 (unhide HB4).size)
  clear ho5
  clear HQ2 hk5 q3 p3
  go_wp2_with fail
  refine (unhide HQ3).mono ?_
  rintro e w6 ⟨rfl, hk6⟩
  have HB6 := hide ((unhide HB5).trans hk6)
  have HO6 := hide (ownsRow_kept (unhide HO5) hk6 (fun _ _ => id))
  have HQ4 := hide (eqVals_any w6 _ _ r r ((unhide HC5).keepF hk6) ((unhide HR5).keepF hk6) (len_max hrl))
  rw [decide_eq_true rfl] at HQ4
  clear HQ3 hk6
  go_wp2_with fail
  refine (unhide HQ4).mono ?_
  rintro e w7 ⟨rfl, hk7⟩
  have HB7 := hide ((unhide HB6).trans hk7)
  have HO7 := hide (ownsRow_kept (unhide HO6) hk7 (fun _ _ => id))
  clear HQ4 hk7
  go_wp2_with fail
  go_ret2
  exact ⟨_, rfl, unhide HO7, unhide HB7⟩

end Go.Proofs.YtklkhegeeglfbaaGreatDoor
