import Derived.Test.YtljoacpaehmbdaaGreatDoorUa
namespace Go.Proofs.YtljoacpaehmbdaaGreatDoor
open Go.RowKit Go.Maps

theorem Tryz.info9 : (Tryz.prog.info? 9).map (fun i => (i.zero, i.size, i.bytes)) = some (some (.string ⟨#[]⟩), 1, 16) := by kernel_rfl
/-- The names of the fields that are meant, as cells. -/
def nmC (l : List Txt) : List Value := l.map str
def pick (S : List FieldA) (p : Txt → Bool) : List Txt := (S.map FieldA.name).filter p
theorem pick_snoc (S : List FieldA) (f : FieldA) (p : Txt → Bool) : pick (S ++ [f]) p = pick S p ++ (if p f.name then [f.name] else []) := by
  unfold pick
  rw [List.map_append, List.filter_append]
  simp [List.filter]
  split <;> simp_all
theorem pick_le (S : List FieldA) (p : Txt → Bool) : (pick S p).length ≤ S.length := by
  unfold pick
  have := List.length_filter_le p (S.map FieldA.name)
  simpa using this
theorem nmC_snoc (l : List Txt) (x : Txt) : nmC (l ++ [x]) = nmC l ++ [str x] := by simp [nmC]
/-- A list of names of one's own. -/
def NmAt (w : World) (base : Nat) (v : Value) (l : List Txt) : Prop := w.ownsRow base 9 1 v l.length (nmC l)

set_option maxRecDepth 100000 in
set_option maxHeartbeats 4000000 in
theorem namesOf_v (S : List FieldA) (hl : S.length ≤ 8) (hn : ∀ f ∈ S, f.name.length ≤ 8) (mb n : Nat) (c : Txt → Nat) (sv : Value) (w : World) (hf : FldsAt w sv S) (hC : Cnt w mb n c) :
    Calls Tryz.prog 57 #[.agg #[sv], .map (some mb)] w fun e w' => ∃ v, e = .returned v ∧ NmAt w' w.heap.size v (pick S (fun s => decide (0 < c s))) ∧ Keeps (fun _ => False) w w' := by
  obtain ⟨i0, hi, hz0, hz1, hz2⟩ := info_parts Tryz.info9
  obtain ⟨ao, cap, rfl⟩ := RowAt.form hf
  have HF := hide hf
  have HC := hide hC
  have HN := hide hn
  obtain ⟨HB, hxb, hxc⟩ := boxedT w #[.slice ao S.length cap] 26
  have c0 := hxc 0 (.slice ao S.length cap) rfl
  have hsz : (w.alloc (.cells #[.slice ao S.length cap] 26)).heap.size = w.heap.size + 1 := by simp
  clear hf hC hn hxc
  go_enter Tryz.func57, Tryz.ntmps57
  go_wp2_with fail
  go_loopw [5, 11] (fun o i wr => ∃ (k : Nat), i = .int .i64 k ∧ k ≤ S.length ∧ NmAt wr w.heap.size o (pick (S.take k) (fun s => decide (0 < c s))) ∧ Keeps (fun _ => False) w wr) (fun _ i _ => S.length - (intOf i).toNat)
  case atStart => exact ⟨0, rfl, Nat.zero_le _, World.ownsRow_nil _ w.heap.size 9 1, unhide HB⟩
  case round =>
    obtain ⟨k, rfl, hk, hown, hkeep⟩ := hrel
    obtain ⟨oo, oc, rfl⟩ := (rowAt_own hown).form
    have HO := hide hown
    have HK := hide hkeep
    cases h : S[k]? with
    | none =>
      have h1 := get_ge h
      obtain rfl : k = S.length := by omega
      have i1 : ¬ (S.length : Int) < (S.length : Int) := by omega
      clear h h1 hown hkeep hk
      go_wp2_with fail
      go_ret
      exact ⟨_, rfl, by have := unhide HO; rwa [List.take_length] at this, unhide HK⟩
    | some f =>
      have h1 := get_lt h
      have hfl := (unhide HN) f (List.mem_of_getElem? h)
      obtain ⟨b, off, c1, e, hbl, hc⟩ := (unhide HF).cells (by omega)
      simp at e
      obtain ⟨rfl, rfl⟩ := e
      have q0 := (hkeep.cell hbl id).trans (hc k f h).1
      have q1 := (hkeep.cell hbl id).trans (hc k f h).2.1
      have q2 := (hkeep.cell hbl id).trans (hc k f h).2.2
      have i1 : (k : Int) < (S.length : Int) := by omega
      have ix0 : (0 : Int) ≤ (k : Int) := by omega
      obtain ⟨HB2, hxb2, hxc2⟩ := boxedT wr #[str f.name, .int .i64 f.type, .bool f.opt] 70
      have y0 := hxc2 0 (str f.name) rfl
      have hlk := (((unhide HC).keep hkeep id).keep (unhide HB2) id).look (nm := f.name) (by omega)
      have HTK := hide (take_snoc _ _ _ h)
      have hm : (pick (S.take k) (fun s => decide (0 < c s))).length ≤ 8 := by have := pick_le (S.take k) (fun s => decide (0 < c s)); simp at this; omega
      have HPS := hide (pick_snoc (S.take k) f (fun s => decide (0 < c s)))
      by_cases hp : 0 < c f.name
      · have hpi : (0 : Int) < (c f.name : Int) := by omega
        have HP := hide hp
        have HNB := hide (heap_alloc_new (wr.alloc (.cells #[str f.name, .int .i64 f.type, .bool f.opt] 70)) (.cells #[str f.name] 9))
        have hs2 : (wr.alloc (.cells #[str f.name, .int .i64 f.type, .bool f.opt] 70)).heap.size = wr.heap.size + 1 := by simp
        rw [hs2] at HNB
        have HOX := hide (ownsRow_kept hown (((Keeps.refl (fun _ => False) wr).alloc (.cells #[str f.name, .int .i64 f.type, .bool f.opt] 70)).alloc (.cells #[str f.name] 9)) (fun _ _ => id))
        have hB0 := hkeep.size
        clear h hc hown hkeep hxc2 hp
        go_wp2_with (at_builtin; refine wpList_append_lies _ rfl _ _ _ rfl w.heap.size 9 i0 _ 1 16 Tryz.underlying43 hi hz0 hz1 hz2 rfl (by omega) (.slice oo _ oc) _ _ rfl (unhide HOX) ⟨wr.heap.size + 1, 0, none⟩ 1 1 [str f.name] rfl rfl (World.news_of_block (cs := #[str f.name]) (t := 9) (fr := (0, 0)) (unhide HNB)) (by simp [Value.oneCell']) (by omega) (by unfold maxLen; omega) (by omega) (by simp; omega) (wr.heap.size + 2) (by simp) ?_; intro g6 c6 w6 hown6 hgrow hat _; have HO6 := hide hown6; have HGR := hide hgrow; clear hown6 hgrow hat)
        go_roundw
        case rel =>
          refine ⟨k + 1, by go_num, by omega, ?_, (((unhide HK).alloc _).alloc _).grown (unhide HGR) (fun q e hq => by have := ((unhide HO).lt q e).1; omega)⟩
          rw [unhide HTK, unhide HPS, if_pos (by simpa using unhide HP)]
          unfold NmAt
          rw [nmC_snoc, List.length_append]
          exact unhide HO6
        case measure => simp [intOf]; omega
      · have hpi : ¬ (0 : Int) < (c f.name : Int) := by omega
        have HP := hide hp
        have HOX := hide (ownsRow_kept hown ((Keeps.refl (fun _ => False) wr).alloc (.cells #[str f.name, .int .i64 f.type, .bool f.opt] 70)) (fun _ _ => id))
        clear h hc hown hkeep hxc2 hp
        go_wp2_with fail
        go_roundw
        case rel =>
          refine ⟨k + 1, by go_num, by omega, ?_, (unhide HK).alloc _⟩
          rw [unhide HTK, unhide HPS, if_neg (by simpa using unhide HP), List.append_nil]
          exact unhide HOX
        case measure => simp [intOf]; omega
end Go.Proofs.YtljoacpaehmbdaaGreatDoor
