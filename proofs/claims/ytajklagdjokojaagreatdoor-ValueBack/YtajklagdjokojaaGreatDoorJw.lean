import Derived.Test.YtajklagdjokojaaGreatDoorJs
import Derived.Test.YtajklagdjokojaaGreatDoorJt
import Derived.Test.YtajklagdjokojaaGreatDoorRg
import Derived.Test.YtajklagdjokojaaGreatDoorRo
namespace Go.Proofs.YtajklagdjokojaaGreatDoor
open Go.RowKit Go.Maps

theorem vv_decode (l : List FieldA) (v : Value) (t : Txt) (u : Value) (w : World) (B : Nat) (hE : Env w) (h : FldsAt w v l) (ho : w.ownsRow B 5 1 u t.length (bs t)) (htl : t.length ≤ 1099511627776) :
    Calls Tryz.prog 24 #[.agg #[v], u] w fun e w' => ∃ r', e = .returned (.tuple #[r', .int .i64 (decodeB l t).2]) ∧ w'.ownsRow w.heap.size 50 3 r' (decodeB l t).1.length (vcs (decodeB l t).1) ∧ Keeps (fun _ => False) w w' := by
  rw [← decode_eq]
  refine val_decode l v t u w hE.types h (rowAt_own ho) (by omega) ?_
  rcases ho.2 with ⟨h1, h2⟩ | ⟨g, cap, cur, hv, _⟩
  · exact .inl ⟨h1, List.eq_nil_of_length_eq_zero h2⟩
  · exact .inr ⟨g, 0, cap, hv⟩
theorem vv_print (l : List FieldA) (v : Value) (r : List ValA) (u : Value) (w : World) (hE : Env w) (h : FldsAt w v l) (hr : ValsAt w u r) (hI : InR r) :
    Calls Tryz.prog 41 #[.agg #[v], u] w fun e w' => e = .returned (.tuple #[str (printB l r), .int .i64 (errR l r)]) ∧ Keeps (fun _ => False) w w' := by
  rw [← print_eq]
  exact val_print l v r u w hE.types hE.pow h hr hI
theorem vv_unquote (t : Txt) (w : World) (hE : Env w) (ht : t.length ≤ 1099511627776) :
    Calls Tryz.prog 118 #[str t] w fun e w' => e = .returned (.tuple #[str (unquoteB t).1, .int .i64 (unquoteB t).2.1, .int .i64 (unquoteB t).2.2]) ∧ Keeps (fun _ => False) w w' := val_unquote t w hE ht
end Go.Proofs.YtajklagdjokojaaGreatDoor
namespace Go.Proofs.YtajklagdjokojaaGreatDoor
open Go.RowKit Go.Maps

theorem flds_own {w : World} {B : Nat} {v : Value} {l : List FieldA} (h : w.ownsRow B 75 3 v l.length (fcs l)) : FldsAt w v l := rowAt_own h
theorem vals_own {w : World} {B : Nat} {v : Value} {l : List ValA} (h : w.ownsRow B 50 3 v l.length (vcs l)) : ValsAt w v l := rowAt_own h
theorem bytes_own {w : World} {B : Nat} {v : Value} {l : Txt} (h : w.ownsRow B 5 1 v l.length (bs l)) : BytesAt w v l := rowAt_own h
theorem len_max {n : Nat} (h : n ≤ 1099511627776) : n ≤ maxLen := by unfold maxLen; omega

set_option maxRecDepth 100000 in
theorem law_checkSchema (l : List FieldA) (v : Value) (w : World) (hE : Env w) (h : FldsAt w v l) (hl : l.length ≤ 1099511627776) :
    Calls Tryz.prog 105 #[.agg #[v]] w fun e w' => e = .returned (.int .i64 (errS l)) ∧ Keeps (fun _ => False) w w' := by
  have HEV := hide hE
  clear hE
  obtain ⟨ao, cap, rfl⟩ := RowAt.form h
  obtain ⟨HB, hb, hbc⟩ := boxed w #[.slice ao l.length cap] 26
  have hp := hbc 0 (.slice ao l.length cap) rfl
  have HF := hide (h.keepF (unhide HB))
  have HQ := hide (copySchema_any _ _ l (unhide HF) hl)
  clear hbc h
  obtain ⟨E, HE⟩ : ∃ E, Hid (errS l = E) := ⟨_, rfl⟩
  rw [unhide HE]
  go_enter Tryz.func105, Tryz.ntmps105
  go_wp2_with fail
  refine (unhide HQ).mono ?_
  rintro e w2 ⟨v1, rfl, ho2, hk2⟩
  obtain ⟨oo, oc, rfl⟩ := (rowAt_own ho2).form
  obtain ⟨HX, hx, hxc⟩ := boxed w2 #[.slice oo l.length oc] 26
  have q0 := hxc 0 (.slice oo l.length oc) rfl
  have p2 := (((unhide HX).cell (o := 0) (Nat.lt_of_lt_of_le hb hk2.size) id).trans (hk2.cell (o := 0) hb id)).trans hp
  have HF3 := hide (((unhide HF).keepF hk2).keepF (unhide HX))
  have HA3 := hide ((flds_own ho2).keepF (unhide HX))
  have HB3 := hide (((unhide HB).trans hk2).trans (unhide HX))
  have HQ2 := hide (checkSchema_v l _ _ ((unhide HEV).keepF (unhide HB3)).types (unhide HA3))
  rw [unhide HE] at HQ2
  have hb3 : w.heap.size < (w2.alloc (.cells #[.slice oo l.length oc] 26)).heap.size := Nat.lt_of_lt_of_le (Nat.lt_of_lt_of_le hb hk2.size) (unhide HX).size
  clear hxc HQ hp ho2 hk2 hb HX HB HF
  go_wp2_with fail
  refine (unhide HQ2).mono ?_
  rintro e w4 ⟨rfl, hk4⟩
  have q4 := (hk4.cell (o := 0) hx id).trans q0
  have p4 := (hk4.cell (o := 0) hb3 id).trans p2
  have HQ3 := hide (eqSchema_any w4 _ _ l l ((unhide HA3).keepF hk4) ((unhide HF3).keepF hk4) (len_max hl))
  rw [decide_eq_true rfl] at HQ3
  have HB4 := hide ((unhide HB3).trans hk4)
  clear HQ2 hk4 q0 p2
  go_wp2_with fail
  refine (unhide HQ3).mono ?_
  rintro e w5 ⟨rfl, hk5⟩
  have HB5 := hide ((unhide HB4).trans hk5)
  clear hk5 HQ3
  go_wp2_with fail
  go_ret
  exact ⟨rfl, unhide HB5⟩

end Go.Proofs.YtajklagdjokojaaGreatDoor
