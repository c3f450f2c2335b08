import Derived.Test.YtljoacpaehmbdaaGreatDoorJzao
import Derived.Test.YtljoacpaehmbdaaGreatDoorTi
import Derived.Test.YtljoacpaehmbdaaGreatDoorJzac
namespace Go.Proofs.YtljoacpaehmbdaaGreatDoor
open Go.RowKit Go.Maps

set_option maxRecDepth 100000 in
set_option maxHeartbeats 4000000 in
theorem checks_walk (S : List FieldA) (hlS : S.length ≤ 4398046511104) (l : SL) (sv pv : Value) (w : World) (hT : Types w) (hF : Forms w) (hf : FldsAt w sv S) (hp : SlS (argZ w.heap.size) w 0 pv l) :
    Calls Tryz.prog 6 #[.agg #[sv], pv] w fun e w' => e = .returned (.bool true) ∧ Keeps (fun _ => False) w w' := by
  obtain ⟨ao, cap, rfl, hc⟩ := hp.head
  obtain ⟨so, sc, rfl⟩ := RowAt.form hf
  obtain ⟨HB, hxb, hxc⟩ := boxedT w #[.slice so S.length sc] 26
  have SB : ∀ w', Keeps (fun _ => False) (w.alloc (.cells #[.slice so S.length sc] 26)) w' → w'.cell? ⟨w.heap.size, 0, none⟩ = some (.slice so S.length sc) := fun w' hk => (hk.cell hxb id).trans (hxc 0 _ rfl)
  have HSB := hide SB
  have HD := hide (deepStmts w.heap.size 0 l (.slice ao l.len cap) _ (by simp) (hp.keepF (unhide HB)))
  have HCH' := fun (hsz : l.size ≤ 4294967294) w' (hk : Keeps (fun _ => False) w w') => hide (lawCheck_v (argZ w.heap.size) S hlS l hsz (.slice so S.length sc) (.slice ao l.len cap) w' 0 (hT.keepF hk) (hF.keepF hk) (hf.keepF hk) (hp.keepF hk))
  have HRC' := fun (hsz : l.size ≤ 4294967294) w' (hk : Keeps (fun _ => False) w w') => hide (rcheck9_v (argZ w.heap.size) S l hsz (.slice so S.length sc) (.slice ao l.len cap) w' 0 (hf.keepF hk) (hp.keepF hk))
  obtain ⟨⟨E, a⟩, hp⟩ : ∃ z, z = checkP S l := ⟨_, rfl⟩
  rw [← hp] at HCH' HRC'
  clear hT hF hf hp SB hxc
  go_enter Tryz.func6, Tryz.ntmps6
  go_wp2_with fail
  refine (unhide HD).mono ?_
  rintro e w1 ⟨r, rfl, hk1, hsz⟩
  have HK1 := hide ((unhide HB).trans hk1)
  have HKb := hide hk1
  have y1 := unhide HSB _ hk1
  cases r with
  | true =>
    clear hk1 hsz
    go_wp2_with fail
    go_ret
    exact ⟨rfl, unhide HK1⟩
  | false =>
    have hs : l.size ≤ 4294967294 := by have := hsz rfl; omega
    have HCH := HCH' hs
    have HRC := HRC' hs
    clear HCH' HRC' hk1 hsz hs
    go_wp2_with (first
      | (go_at_call 12; refine (unhide (HCH _ (unhide HK1))).mono ?_; rintro e w2 ⟨rfl, hk2⟩; have HK1 := hide ((unhide HK1).trans hk2); have HKb := hide ((unhide HKb).trans hk2); have y2 := unhide HSB _ (unhide HKb); clear hk2)
      | (go_at_call 13; refine (unhide (HRC _ (unhide HK1))).mono ?_; rintro e w3 ⟨rfl, hk2⟩; have HK1 := hide ((unhide HK1).trans hk2); clear hk2))
    go_ret
    exact ⟨rfl, unhide HK1⟩
end Go.Proofs.YtljoacpaehmbdaaGreatDoor
