import Derived.Test.YtabjomgikljdhaaDoorNn
namespace Go.Proofs.YtabjomgikljdhaaDoor
open Go.RowKit Go.Maps

/-- What Decode answers. -/
def decodeV (l : List FieldA) (t : Txt) : List ValA × Int := if schemaB l = false then ([], 60) else match decodeP l t with
  | none => ([], 62)
  | some r => (r, 0)

set_option maxRecDepth 100000 in
set_option maxHeartbeats 2000000 in
theorem val_decode (l : List FieldA) (v : Value) (t : Txt) (u : Value) (w : World) (hT : Types w) (h : FldsAt w v l) (hr : BytesAt w u t) (htl : t.length ≤ 140737488355328) (hform : (u = .slice none 0 0 ∧ t = []) ∨ ∃ b off cap, u = .slice (some ⟨b, off, none⟩) t.length cap) :
    Calls Tryd.prog 18 #[.agg #[v], u] w fun e w' => ∃ r', e = .returned (.tuple #[r', .int .i64 (decodeV l t).2]) ∧ w'.ownsRow w.heap.size 54 3 r' (decodeV l t).1.length (vcs (decodeV l t).1) ∧ Keeps (fun _ => False) w w' := by
  obtain ⟨ao, cap, rfl⟩ := RowAt.form h
  obtain ⟨HB, hb, hbc⟩ := boxed w #[.slice ao l.length cap] 27
  have hp := hbc 0 (.slice ao l.length cap) rfl
  have HF := hide (h.keepF (unhide HB))
  have HU := hide (hr.keepF (unhide HB))
  have HS := hide (checkSchema_v l _ _ (hT.keepF (unhide HB)) (unhide HF))
  have HFM := hide hform
  have HV : Hid (decodeV l t = if schemaB l = false then (([], 60) : List ValA × Int) else match decodeP l t with | none => (([], 62) : List ValA × Int) | some r => (r, 0)) := rfl
  generalize decodeV l t = D at *
  clear hbc h hr hT hform
  obtain ⟨bo, cbp, rfl⟩ := RowAt.form (unhide HU)
  go_enter Tryd.func18, Tryd.ntmps18
  go_wp2_with fail
  refine (unhide HS).mono ?_
  rintro e w2 ⟨rfl, hk2⟩
  have hp2 := (hk2.cell (o := 0) hb id).trans hp
  have HF2 := hide ((unhide HF).keepF hk2)
  have HU2 := hide ((unhide HU).keepF hk2)
  have HB2 := hide ((unhide HB).trans hk2)
  clear HS HF HU HB hk2 hp hb
  generalize w.alloc (.cells #[.slice ao l.length cap] 27) = w1 at *
  rcases errS_eq l with ⟨hs, he⟩ | ⟨hs, he⟩
  · rw [he]
    have HQ := hide (decode_v l _ t _ _ (unhide HF2) (unhide HU2) (schemaB_len hs).2 htl (unhide HFM))
    rw [hs, if_neg (by simp)] at HV
    clear hs he
    go_wp2_with fail
    refine (unhide HQ).mono ?_
    rintro e w3 ⟨hk3, v', ok, rfl, hD⟩
    have HK3 := hide ((unhide HB2).trans hk3)
    have hsz := (unhide HB2).size
    clear HQ hk3
    cases hdp : decodeP l t with
    | none =>
      rw [hdp] at hD HV
      obtain rfl : ok = false := hD
      obtain rfl : D = ([], 62) := unhide HV
      go_wp2_with fail
      go_ret2
      exact ⟨_, rfl, World.ownsRow_nil _ w.heap.size 54 3, unhide HK3⟩
    | some r =>
      rw [hdp] at hD HV
      obtain ⟨rfl, ho⟩ := hD
      have HO := hide (ownsRow_lower ho hsz)
      obtain rfl : D = (r, 0) := unhide HV
      clear ho
      go_wp2_with fail
      go_ret2
      exact ⟨_, rfl, unhide HO, unhide HK3⟩
  · rw [he]
    rw [hs, if_pos rfl] at HV
    obtain rfl : D = ([], 60) := unhide HV
    clear hs he
    go_wp2_with fail
    go_ret2
    exact ⟨_, rfl, World.ownsRow_nil _ w.heap.size 54 3, unhide HB2⟩

end Go.Proofs.YtabjomgikljdhaaDoor
