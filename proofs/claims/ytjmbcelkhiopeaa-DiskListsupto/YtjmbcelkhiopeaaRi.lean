import Derived.Test.YtjmbcelkhiopeaaRh
import Derived.Test.YtjmbcelkhiopeaaY
namespace Go.Proofs.Ytjmbcelkhiopeaa
open Go.RowKit Go.Maps
attribute [local go_sem ↓] Go.wp_at_zero Go.wp_at_succ

def bls (l : List Bool) : List Value := l.map Value.bool
theorem bls_length (l : List Bool) : (bls l).length = l.length := by simp [bls]

theorem bools_of_row' {w : World} {base : Nat} {v : Value} {l : List Bool} (h : w.ownsRow base 4 1 v l.length (bls l)) : Bools w v l := by
  rcases h.2 with ⟨rfl, hn⟩ | ⟨g, cap, cur, rfl, hb, hg, _, _, _, ht⟩
  · rw [List.length_eq_zero_iff] at hn
    subst hn
    exact ⟨⟨_, _, rfl⟩, fun h0 => by simp at h0⟩
  · refine ⟨⟨_, _, rfl⟩, fun _ => ⟨g, 0, cap, rfl, lt_of_block hg, fun j x hx => ?_⟩⟩
    have := h.cells (g := g) rfl j (.bool x) (by rw [bls, List.getElem?_map, hx]; rfl)
    rwa [Addr.add_lit] at this

set_option maxRecDepth 100000 in
set_option maxHeartbeats 1000000 in
theorem copiedBools_any (w : World) (v : Value) (l : List Bool) (hR : Bools w v l) (hl : l.length ≤ 140737488355328) :
    Calls Try.prog 49 #[v] w fun e w' => ∃ v', e = .returned v' ∧ w'.ownsRow w.heap.size 4 1 v' l.length (bls l) ∧ Keeps (fun _ => False) w w' := by
  obtain ⟨i0, hi, hz0, hz1, hz2⟩ := info_parts Try.info4
  obtain ⟨ao, cap, rfl⟩ := hR.form
  have HR := hide hR
  have HL := hide hl
  have hl' : l.length ≤ 9223372036854775807 := by omega
  clear hR hl
  go_enter Try.func49, Try.ntmps49
  go_wp2
  go_loopw [3, 4] (fun o i wr => ∃ k : Nat, k ≤ l.length ∧ i = .int .i64 k ∧ wr.ownsRow w.heap.size 4 1 o k (bls (l.take k)) ∧ Keeps (fun _ => False) w wr) (fun _ i _ => l.length - (intOf i).toNat)
  case atStart => exact ⟨0, Nat.zero_le _, rfl, by simpa [bls] using World.ownsRow_nil w w.heap.size 4 1, Keeps.refl _ _⟩
  case round =>
    obtain ⟨k, hk, rfl, hown, hkeep⟩ := hrel
    have HO := hide hown
    have HK := hide hkeep
    clear hown hkeep
    by_cases hlt : k < l.length
    · obtain ⟨b, off, c, e1, hblt, hc⟩ := (unhide HR).cells (by omega)
      simp at e1
      obtain ⟨rfl, rfl⟩ := e1
      obtain ⟨x, hx⟩ : ∃ x, l[k]? = some x := ⟨_, List.getElem?_eq_getElem hlt⟩
      have p0 := ((unhide HK).cell (o := off + k) hblt id).trans (hc k x hx)
      have HX := hide hx
      have i1 : (k : Int) < (l.length : Int) := by omega
      have i0' : (0 : Int) ≤ (k : Int) := by omega
      clear hc hx
      go_wp2_with (at_builtin; refine wpList_append_lies _ rfl _ _ _ rfl w.heap.size 4 i0 _ 1 1 Try.underlying51 hi hz0 hz1 hz2 rfl (by omega) u3 k (bls (l.take k)) rfl ((unhide HO).alloc _) ⟨wr.heap.size, 0, none⟩ 1 1 [.bool x] rfl rfl (World.news_of_block (cs := #[.bool x]) (t := 4) (fr := (0, 0)) (heap_alloc_new wr _)) (by simp [Value.oneCell']) (by omega) (by unfold maxLen; omega) (by have := unhide HL; omega) (by have := (unhide HK).size; simp; omega) (wr.heap.size + 1) (by simp) ?_; intro g cap w1 hown1 hgrow hat hlt1)
      go_roundw
      case rel =>
        refine ⟨k + 1, by omega, by go_num, ?_, ((unhide HK).alloc _).grown hgrow (fun q e hq => by have := ((unhide HO).lt q e).1; omega)⟩
        rw [List.take_add_one, unhide HX]
        simpa [bls] using hown1
      case measure => simp [intOf]; omega
    · go_wp2
      go_ret
      obtain rfl : k = l.length := by omega
      refine ⟨_, rfl, ?_, unhide HK⟩
      have := unhide HO
      rwa [List.take_length] at this

end Go.Proofs.Ytjmbcelkhiopeaa
