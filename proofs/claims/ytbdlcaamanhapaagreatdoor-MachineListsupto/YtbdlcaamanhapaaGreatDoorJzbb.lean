import Derived.Test.YtbdlcaamanhapaaGreatDoorJzba
import Derived.Test.YtbdlcaamanhapaaGreatDoorJzap
import Derived.Test.YtbdlcaamanhapaaGreatDoorJzab
import Derived.BigQuiet
import Derived.Test.YtbdlcaamanhapaaGreatDoorJzat
import Derived.Test.YtbdlcaamanhapaaGreatDoorJzas
import Derived.Test.YtbdlcaamanhapaaGreatDoorJzaz
import Derived.Test.YtbdlcaamanhapaaGreatDoorJzar
namespace Go.Proofs.YtbdlcaamanhapaaGreatDoor
open Go.RowKit Go.Maps
set_option maxRecDepth 100000
set_option maxHeartbeats 2000000
structure KW (W0 : World) where
 wd : World
 kept : Wp (fun _ => False) W0 wd
instance (W0 : World) : Nonempty (KW W0) := ⟨⟨W0, Wp.refl _ W0⟩⟩
theorem region_kept {P : Program} {id : Nat} {Q : Exit → Act → World → Prop} {a : Act} {w : World} {l : List Oper} (hm : P.follows .mixedOrders = true) (hB : Region.lexB .any l.toArray = true)
  (h : wpQuiet P l.toArray (fun w' => ∃ n : KW w, w' = n.wd) (fun a' => ∀ w', (∃ n : KW w, w' = n.wd) → Q .normal a' w') l a) : (Code.region id l.toArray true).wp P Q a w :=
 wp_region_quiet (C := fun w' => ∃ n : KW w, w' = n.wd) hm hB ⟨⟨_, (Wp.refl _ w).drew⟩, rfl⟩ (by simpa using h)
theorem copySchema_v (w : World) (v : Value) (l : List Wq) (h : Wt w v l) (hl : l.length ≤ 4398046511104) :
  Calls Tryz.prog 32 #[.agg #[v]] w fun e w' => ∃ v', e = .returned (.agg #[v']) ∧ w'.ownsRow w.heap.size 58 3 v' l.length (fcs l) ∧ Wp (fun _ => False) w w' := by
 obtain ⟨i0, hi, hz0, hz1, hz2⟩ := info_parts Tryz.info58
 obtain ⟨ao, cap, rfl⟩ := Ws.form h
 obtain ⟨w3, hw3⟩ : ∃ w3, w3 = ((w.alloc (.cells #[.slice ao l.length cap] 24)).alloc (.cells #[.slice none 0 0] 24)).alloc (.cells #[.slice none 0 0] 24) := ⟨_, rfl⟩
 have hK : Wp (fun _ => False) w w3 := by rw [hw3]; exact (((Wp.refl _ _).alloc _).alloc _).alloc _
 have hs3 : w3.heap.size = w.heap.size + 3 := by rw [hw3]; simp
 have b0 : w3.heap[w.heap.size]? = some (.cells #[.slice ao l.length cap] 24 (0, 0)) := by
  rw [hw3, Below.heap_alloc _ _ _ (by simp; omega), Below.heap_alloc _ _ _ (by simp)]
  exact heap_alloc_new w _
 have b1 : w3.heap[w.heap.size + 1]? = some (.cells #[.slice none 0 0] 24 (0, 0)) := by
  rw [hw3, Below.heap_alloc _ _ _ (by simp)]
  have := heap_alloc_new (w.alloc (.cells #[.slice ao l.length cap] 24)) (.cells #[.slice none 0 0] 24)
  simpa using this
 have b2 : w3.heap[w.heap.size + 1 + 1]? = some (.cells #[.slice none 0 0] 24 (0, 0)) := by
  rw [hw3]
  have := heap_alloc_new ((w.alloc (.cells #[.slice ao l.length cap] 24)).alloc (.cells #[.slice none 0 0] 24)) (.cells #[.slice none 0 0] 24)
  simpa using this
 have HF := zB (h.keepF hK)
 have HW := zB hw3
 have HK := zB hK
 have HL := zB hl
 have B0 := zB b0
 have B1 := zB b1
 have B2 := zB b2
 have HS := zB hs3
 clear h hw3 hK b0 b1 b2 hs3 hl
 have hl' : l.length ≤ 9223372036854775807 := by have := zA HL; omega
 go_enter Tryz.func32, Tryz.ntmps32
 go_wp2
 rw [← zA HW]
 go_loopw [4] (fun i wr => ∃ (k : Nat) (o : Value), k ≤ l.length ∧ i = .int .i64 k ∧ wr.heap[w.heap.size + 1 + 1]? = some (.cells #[o] 24 (0, 0)) ∧ wr.ownsRow w3.heap.size 58 3 o k (fcs (l.take k)) ∧ Wp (fun q => q = w.heap.size + 1 + 1) w3 wr) (fun i _ => l.length - (intOf i).toNat)
 case atStart => exact ⟨0, _, Nat.zero_le _, rfl, zA B2, by simpa [fcs] using World.ownsRow_nil w3 w3.heap.size 58 3, Wp.refl _ _⟩
 case round =>
  obtain ⟨k, o, hk, rfl, hbo, hown, hkp⟩ := hrel
  obtain ⟨oo, oc, rfl⟩ := (zG hown).form
  have HBo := zB hbo
  have HO := zB hown
  have HP := zB hkp
  have p0 : wr.cell? ⟨w.heap.size, 0, none⟩ = some (.slice ao l.length cap) := (hkp.cell (zE (zA B0)) (by show ¬ _ = _; omega)).trans (by rw [zC (zA B0)]; rfl)
  have p2 : wr.cell? ⟨w.heap.size + 1 + 1, 0, none⟩ = some (.slice oo k oc) := by rw [zC hbo]; rfl
  have f2 := zF hbo 0
  have z2 := zE hbo
  have z0 : w.heap.size < wr.heap.size := by omega
  by_cases hlt : k < l.length
  ·obtain ⟨b, off, c1, e1, hbl, hc⟩ := (zA HF).cells (by omega)
   simp at e1
   obtain ⟨rfl, rfl⟩ := e1
   obtain ⟨f, hf⟩ : ∃ f, l[k]? = some f := ⟨_, List.getElem?_eq_getElem hlt⟩
   have hbne : b ≠ w.heap.size + 1 + 1 := by
    rintro rfl
    have h1 := (hc k f hf).2.1
    have h2 := (hc k f hf).2.2
    rw [zC (zA B2)] at h1 h2
    rw [Array.getElem?_eq_none (by simp)] at h2
    cases h2
   have c0 := (hkp.cell hbl (by show ¬ _ = _; omega)).trans (hc k f hf).1
   have c1 := (hkp.cell hbl (by show ¬ _ = _; omega)).trans (hc k f hf).2.1
   have c2 := (hkp.cell hbl (by show ¬ _ = _; omega)).trans (hc k f hf).2.2
   have z1 : b < wr.heap.size := Nat.lt_of_lt_of_le hbl hkp.size
   have HX := zB hf
   have HN := zB (ownsRow_ne hown hbo (by decide))
   have i1 : (k : Int) < (l.length : Int) := by omega
   have i0' : (0 : Int) ≤ (k : Int) := by omega
   clear hc hf hbo hown hkp
   go_wp2_with fail
   go_region_law (first
    | (refine step_append_lies _ (by rfl) _ _ _ (by rfl) w3.heap.size 58 i0 _ 3 32 Tryz.underlying22 hi hz0 hz1 hz2 rfl (by omega) (.slice oo k oc) k (fcs (l.take k)) (by rfl) (((zA HO).alloc _).drew)
        ⟨wr.heap.size, 0, none⟩ 1 1 f.cs (by rfl) (by rfl) (World.news_of_block (cs := #[str f.name, .int .i64 f.type, .bool f.opt]) (t := 58) (fr := (0, 0)) (by exact heap_alloc_new wr _)) (by simp [Value.oneCell', Wq.cs])
        (by omega) (by unfold maxLen; omega) (by have := zA HL; omega) (by have := (zA HP).size; simp; omega) (wr.heap.size + 1) (by simp) ?_; intro g cap' w5 hown2 hgrow hat hlt2
       have f2' : w5.frozen? ⟨w.heap.size + 1 + 1, 0, none⟩ = false := by (rw [hgrow.frozen_far _ (by simp; omega) (Ne.symm (zA HN))]; simpa [World.frozen?_alloc_past, z2] using f2)
       have p2' : w5.cell? ⟨w.heap.size + 1 + 1, 0, none⟩ = some (.slice oo k oc) := by (rw [hgrow.cell_far _ (by simp; omega) (Ne.symm (zA HN))]; simpa [World.cell?_alloc_past, z2] using p2)))
   all_goals
    have hb5 : w5.heap[w.heap.size + 1 + 1]? = some (.cells #[.slice oo k oc] 24 (0, 0)) := by
     rw [hgrow.block (w.heap.size + 1 + 1) (by simp; omega) (Ne.symm (zA HN))]
     show (wr.alloc _).heap[w.heap.size + 1 + 1]? = _
     rw [Below.heap_alloc _ _ _ z2]
     exact zA HBo
    have H5 := zB hb5
    have HO2 := zB hown2
    have HG2 := zB hgrow
    clear hb5 hown2 hgrow
    go_wp2
    go_roundw
    case rel =>
     refine ⟨k + 1, .slice (some ⟨g, 0, none⟩) (k + 1) cap', by omega, by go_num, ?_, ?_, ?_⟩
     ·rw [zH (zA H5)]; rfl
     ·rw [take_snoc _ _ _ (zA HX)]
      have h1 : w5.ownsRow w3.heap.size 58 3 (.slice (some ⟨g, 0, none⟩) (k + 1) cap') (k + 1) (fcs (l.take k ++ [f])) := by simpa [fcs] using zA HO2
      exact zI (F := fun q => q = w.heap.size + 1 + 1) h1 (keeps_set w5 _ 0 _) (fun q e e2 => by subst e2; exact ownsRow_ne h1 (zA H5) (by decide) e)
     ·exact ((((zA HP).alloc _).drew).grown (zA HG2) (fun q e hq => by have := ((zA HO).lt q e).1; omega)).setCell (fun _ => rfl) _
    case measure => simp [intOf]; omega
  ·obtain rfl : k = l.length := by omega
   have hb1 : wr.heap[w.heap.size + 1]? = some (.cells #[.slice none 0 0] 24 (0, 0)) := by rw [hkp.block _ (zE (zA B1)) (by show ¬ _ = _; omega)]; exact zA B1
   have p1 : wr.cell? ⟨w.heap.size + 1, 0, none⟩ = some (.slice none 0 0) := by rw [zC hb1]; rfl
   have f1 := zF hb1 0
   have H1 := zB hb1
   have HN1 := zB (ownsRow_ne hown hb1 (by decide))
   clear hb1 hown hkp hbo
   go_wp2
   have hq : (wr.setCell ⟨w.heap.size + 1, 0, none⟩ (.slice oo l.length oc)).cell? ⟨w.heap.size + 1, 0, none⟩ = some (.slice oo l.length oc) := by rw [zC (zH (zA H1) _)]; rfl
   refine bodyPost_ret (v := .agg #[.slice oo l.length oc]) (by simp [results, go_sem, hq]) rfl ?_
   refine ⟨.slice oo l.length oc, rfl, ?_, ?_⟩
   ·have h1 := zA HO
    rw [List.take_length] at h1
    exact ownsRow_lower (zI (F := fun q => q = w.heap.size + 1) h1 (keeps_set wr _ 0 _) (fun q e e2 => zA HN1 (by rw [← e2]; exact e))) (zA HK).size
   ·exact (zA HK).narrow (F := fun q => q = w.heap.size + 1 + 1 ∨ q = w.heap.size + 1) (((zA HP).mono (fun q _ h => Or.inl h)).then (keeps_set wr (w.heap.size + 1) 0 _) (fun q _ h => Or.inr h)) (fun q h => by omega)
theorem typT_snoc (l : List ValA) (x : ValA) : typT (l ++ [x]) = typT l ++ [letR x.kind] := by simp [typT]
theorem typT_length (l : List ValA) : (typT l).length = l.length := by simp [typT]
theorem letters_v (w : World) (v : Value) (l : List ValA) (h : Wr w v l) (hl : l.length ≤ 1024) :
  Calls Tryz.prog 29 #[v] w fun e w' => e = .returned (str (typT l)) ∧ Wp (fun _ => False) w w' := by
 obtain ⟨ao, ac, rfl⟩ := Ws.form h
 have H1 := zB h
 clear h
 go_enter Tryz.func29, Tryz.ntmps29
 go_wp2_with fail
 go_loopw [3, 4] (fun s i wr => ∃ k : Nat, k ≤ l.length ∧ i = .int .i64 (k : Int) ∧ s = str (typT (l.take k)) ∧ wr = w) (fun _ i _ => l.length - (intOf i).toNat)
 case atStart => exact ⟨0, by omega, rfl, rfl, rfl⟩
 case round =>
  obtain ⟨k, hk, rfl, rfl, rfl⟩ := hrel
  by_cases hlt : k < l.length
  ·have i1 : (k : Int) < (l.length : Int) := by omega
   have i0' : (0 : Int) ≤ (k : Int) := by omega
   obtain ⟨x, hx⟩ : ∃ x, l[k]? = some x := ⟨_, List.getElem?_eq_getElem hlt⟩
   obtain ⟨b1, off1, c1, e1, hb1, hc1⟩ := (zA H1).cells (by omega)
   simp at e1
   obtain ⟨rfl, rfl⟩ := e1
   have p0 := (hc1 k x hx).1
   have HN : Hid (typT (l.take (k + 1)) = typT (l.take k) ++ [letR x.kind]) := by show _ = _; rw [take_snoc _ _ _ hx, typT_snoc]
   have hq : (typT (l.take k)).length ≤ 1024 := by rw [typT_length, List.length_take]; omega
   generalize typT (l.take k) = q at *
   have ha : ∀ (c : UInt8) (w' : World), (Op.stringOp .add (ByteArray.mk q.toArray) (ByteArray.mk #[c])).run Tryz.prog w' = .ok (str (q ++ [c])) w' := fun c w' => add_str w' q [c] (by simp; omega)
   have ha1 := ha 105
   have ha2 := ha 98
   have ha3 := ha 115
   clear hc1 hx ha
   by_cases h1 : x.kind = 1
   ·rw [h1] at p0 HN
    go_wp2_with fail
    go_roundw
    case rel => exact ⟨k + 1, by omega, by go_num, (by rw [zA HN]; rfl), trivial⟩
    case measure => simp [intOf]; omega
   ·by_cases h2 : x.kind = 2
    ·rw [h2] at p0 HN
     go_wp2_with fail
     go_roundw
     case rel => exact ⟨k + 1, by omega, by go_num, (by rw [zA HN]; rfl), trivial⟩
     case measure => simp [intOf]; omega
    ·have e1 : (x.kind == 1) = false := by simpa using h1
     have e2 : (x.kind == 2) = false := by simpa using h2
     have HL : Hid (letR x.kind = 115) := by show _ = _; unfold letR; rw [if_neg h1, if_neg h2]
     go_wp2_with fail
     go_roundw
     case rel => exact ⟨k + 1, by omega, by go_num, (by rw [zA HN, zA HL]), trivial⟩
     case measure => simp [intOf]; omega
  ·obtain rfl : k = l.length := by omega
   rw [List.take_length]
   go_wp2_with fail
   go_ret
   exact ⟨rfl, Wp.refl _ _⟩
end Go.Proofs.YtbdlcaamanhapaaGreatDoor
namespace Go.Proofs.YtbdlcaamanhapaaGreatDoor
open Go.RowKit Go.Maps
def S1 : List Wq := [⟨[110], 1, false⟩]
def L1 : List ValA := [⟨23, 0, []⟩, ⟨1, 5, []⟩, ⟨21, 0, []⟩]
def B1 : Txt := [23, 1, 10, 21, 0]
theorem ver1 : verifyA S1 L1 = (1, 0, 0) := by decide +kernel
theorem dec1 : decE S1 B1 = (L1, 0) := by decide +kernel
theorem row1 : rowE S1 false [] = 0 := by decide +kernel
theorem row2 : rowE S1 true [⟨1, 5, []⟩] = 0 := by decide +kernel
theorem play1 : playM S1 L1 3 0 ⟨[], false, []⟩ = ([(0, []), (1, []), (2, [⟨1, 5, []⟩])], ⟨[], true, [⟨1, 5, []⟩]⟩) := by kernel_rfl
theorem play2 : playM S1 L1 3 0 ⟨[], true, [⟨1, 5, []⟩]⟩ = ([(0, []), (1, []), (2, [⟨1, 5, []⟩])], ⟨[], true, [⟨1, 10, []⟩]⟩) := by kernel_rfl
end Go.Proofs.YtbdlcaamanhapaaGreatDoor
namespace Go.Proofs.YtbdlcaamanhapaaGreatDoor
open Go.RowKit Go.Maps
set_option maxRecDepth 100000
set_option maxHeartbeats 4000000
theorem Ran.ok {w w' : World} {T : List (Nat × List ValA) × MS} {e : Ending} (h : Ran w 0 0 T e w') : ∃ rv, e = .returned (.tuple #[.agg #[.bool T.2.here, rv, .int .i64 (T.1.length : Int), .int .i64 (deepD T.1 : Int)], .int .i64 0]) ∧ Wr w' rv T.2.vals ∧ (∀ q, rv.ownBlock = some q → w.heap.size ≤ q) ∧ Wp (fun _ => False) w w' := by
 rcases h with ⟨h, _⟩ | ⟨_, _, rv, e, hv, h⟩
 ·simp at h
 ·exact ⟨rv, e, zG hv, h⟩
theorem Traced.ok {w w' : World} {T : List (Nat × List ValA) × MS} {e : Ending} (h : Traced w 0 0 T e w') : ∃ sl, e = .returned (.tuple #[sl, .int .i64 0]) ∧ w'.ownsRow w.heap.size 53 2 sl T.1.length (stepCs T.1) ∧ Wp (fun _ => False) w w' := by
 rcases h with ⟨h, _⟩ | ⟨_, _, h⟩
 ·simp at h
 ·exact h
theorem Execd.ok {w w' : World} {T : List (Nat × List ValA) × MS} {e : Ending} (h : Execd w 0 0 0 T e w') : ∃ rv, e = .returned (.tuple #[.agg #[.bool T.2.here, rv], .int .i64 0]) ∧ Wr w' rv T.2.vals ∧ Wp (fun _ => False) w w' := by
 rcases h with ⟨h, _⟩ | ⟨_, _, _, h⟩
 ·simp at h
 ·exact h
theorem inR1 : InR L1 := by
 intro x hx
 simp only [L1, List.mem_cons, List.not_mem_nil, or_false] at hx
 rcases hx with rfl | rfl | rfl <;> decide
theorem flds1 (w : World) : Wt (w.alloc (.cells #[.string ⟨#[110]⟩, .int .i64 1, .bool false] 58)) (.slice (some ⟨w.heap.size, 0, none⟩) 1 1) S1 :=
 zG (World.ownsRow_lit (base := 0) (e := 58) (size := 3) w #[.string ⟨#[110]⟩, .int .i64 1, .bool false] 1 (Nat.zero_le _) (by unfold maxLen; omega) rfl)
theorem vals1 (w : World) : Wr (w.alloc (.cells #[.int .i64 23, .int .i64 0, .string ⟨#[]⟩, .int .i64 1, .int .i64 5, .string ⟨#[]⟩, .int .i64 21, .int .i64 0, .string ⟨#[]⟩] 60)) (.slice (some ⟨w.heap.size, 0, none⟩) 3 3) L1 :=
 zG (World.ownsRow_lit (base := 0) (e := 60) (size := 3) w #[.int .i64 23, .int .i64 0, .string ⟨#[]⟩, .int .i64 1, .int .i64 5, .string ⟨#[]⟩, .int .i64 21, .int .i64 0, .string ⟨#[]⟩] 3 (Nat.zero_le _) (by unfold maxLen; omega) rfl)
theorem bytes1 (w : World) : Wv (w.alloc (.cells #[.int .u8 23, .int .u8 1, .int .u8 10, .int .u8 21, .int .u8 0] 5)) (.slice (some ⟨w.heap.size, 0, none⟩) 5 5) B1 :=
 zG (World.ownsRow_lit (base := 0) (e := 5) (size := 1) w #[.int .u8 23, .int .u8 1, .int .u8 10, .int .u8 21, .int .u8 0] 5 (Nat.zero_le _) (by unfold maxLen; omega) rfl)
theorem works_v (w : World) (hE : Env w) : Calls Tryz.prog 4 #[] w fun e w' => e = .returned (.bool true) ∧ Wp (fun _ => False) w w' := by
 have k1 := kA w (.cells #[.string ⟨#[110]⟩, .int .i64 1, .bool false] 58)
 have k2 := kA (w.alloc (.cells #[.string ⟨#[110]⟩, .int .i64 1, .bool false] 58)) (.cells #[.slice (some ⟨w.heap.size, 0, none⟩) 1 1] 24)
 have k3 := kA ((w.alloc (.cells #[.string ⟨#[110]⟩, .int .i64 1, .bool false] 58)).alloc (.cells #[.slice (some ⟨w.heap.size, 0, none⟩) 1 1] 24)) (.cells #[.int .i64 23, .int .i64 0, .string ⟨#[]⟩, .int .i64 1, .int .i64 5, .string ⟨#[]⟩, .int .i64 21, .int .i64 0, .string ⟨#[]⟩] 60)
 have hF := ((flds1 w).keepF k2).keepF k3
 have hI := vals1 ((w.alloc (.cells #[.string ⟨#[110]⟩, .int .i64 1, .bool false] 58)).alloc (.cells #[.slice (some ⟨w.heap.size, 0, none⟩) 1 1] 24))
 rw [show ((w.alloc (.cells #[.string ⟨#[110]⟩, .int .i64 1, .bool false] 58)).alloc (.cells #[.slice (some ⟨w.heap.size, 0, none⟩) 1 1] 24)).heap.size = w.heap.size + 1 + 1 by simp] at hI
 have hb := heap_alloc_new (w.alloc (.cells #[.string ⟨#[110]⟩, .int .i64 1, .bool false] 58)) (.cells #[.slice (some ⟨w.heap.size, 0, none⟩) 1 1] 24)
 rw [show (w.alloc (.cells #[.string ⟨#[110]⟩, .int .i64 1, .bool false] 58)).heap.size = w.heap.size + 1 by simp] at hb
 have hb2 := (k3.block _ (zE hb) id).trans hb
 have HK := zB ((k1.trans k2).trans k3)
 have HE := zB (hE.keepF (zA HK))
 have HQ := zB (machRun_v S1 _ (.slice none 0 0) _ L1 false [] _ (zA HE) hF hI inR1 (nil_vals _))
 rw [ver1, row1] at HQ
 rw [show L1.length = 3 from rfl, play1] at HQ
 have HF := zB hF
 have HI := zB hI
 have HB := zB hb2
 clear hF hI hb hb2 k1 k2 k3 hE
 go_enter Tryz.func4, Tryz.ntmps4
 go_wp2_with fail
 refine (zA HQ).mono ?_
 rintro e w1 hran
 obtain ⟨rv, rfl, hv1, hnw, hk1⟩ := hran.ok
 obtain ⟨xo, xc, rfl⟩ := Ws.form hv1
 have hb1 := (hk1.block _ (zE (zA HB)) id).trans (zA HB)
 have c1 : w1.cell? ⟨w.heap.size + 1, 0, none⟩ = some (.slice (some ⟨w.heap.size, 0, none⟩) 1 1) := (zC hb1 _).trans rfl
 have p1 := zE hb1
 have k5 := kA w1 (.cells #[.bool true, .slice xo 1 xc, .int .i64 3, .int .i64 1] 38)
 have HKW := zB ((zA HK).trans (hk1.trans k5))
 have HF1 := zB (((zA HF).keepF hk1).keepF k5)
 have HI1 := zB (((zA HI).keepF hk1).keepF k5)
 have HV1 := zB (hv1.keepF k5)
 have HE1 := zB (((zA HE).keepF hk1).keepF k5)
 have HQ2 := zB (machTrace_v S1 _ _ _ L1 true [⟨1, 5, []⟩] _ (zA HE1) (zA HF1) (zA HI1) inR1 (zA HV1))
 rw [ver1, row2, show L1.length = 3 from rfl, play2] at HQ2
 have hA := heap_alloc_new w1 (.cells #[.bool true, .slice xo 1 xc, .int .i64 3, .int .i64 1] 38)
 have HA := zB hA
 clear hA k5 hk1 hv1 hnw hran HF HI HB HE HQ hb1 HK
 simp only [List.length_cons, List.length_nil, Nat.zero_add] at *
 go_wp2_with fail
 refine (zA HQ2).mono ?_
 rintro e w2 htr
 obtain ⟨sl, rfl, ho2, hk2⟩ := htr.ok
 obtain ⟨yo, yc, rfl⟩ := Ws.form (zG ho2)
 have k6 := hk2.alloc (.cells #[.int .u8 23, .int .u8 1, .int .u8 10, .int .u8 21, .int .u8 0] 5)
 have HKX := zB ((zA HKW).trans k6)
 have HF2 := zB ((zA HF1).keepF k6)
 have HV2 := zB ((zA HV1).keepF k6)
 have HE2 := zB ((zA HE1).keepF k6)
 have HQ3 := zB (machExec_v S1 _ _ _ B1 true [⟨1, 5, []⟩] _ (zA HE2) (zA HF2) (bytes1 w2) (zA HV2))
 rw [dec1] at HQ3
 simp only at HQ3
 rw [ver1, row2, show L1.length = 3 from rfl, play2] at HQ3
 have hA2 := (k6.block _ (zE (zA HA)) id).trans (zA HA)
 have hb2 : (w2.alloc (.cells #[.int .u8 23, .int .u8 1, .int .u8 10, .int .u8 21, .int .u8 0] 5)).cell? ⟨w.heap.size + 1, 0, none⟩ = some (.slice (some ⟨w.heap.size, 0, none⟩) 1 1) := (k6.cell (by simp; omega) id).trans (((kA w1 _).cell p1 id).trans c1)
 have c2 : w2.cell? ⟨w.heap.size + 1, 0, none⟩ = some (.slice (some ⟨w.heap.size, 0, none⟩) 1 1) := (hk2.cell (by simp; omega) id).trans (((kA w1 _).cell p1 id).trans c1)
 have hA1 := (hk2.block _ (zE (zA HA)) id).trans (zA HA)
 have a0 : w2.cell? ⟨w1.heap.size, 0, none⟩ = some (.bool true) := (zC hA1 _).trans rfl
 have a1 : w2.cell? ⟨w1.heap.size, 1, none⟩ = some (.slice xo 1 xc) := (zC hA1 _).trans rfl
 have p2 : w.heap.size + 1 < w2.heap.size := World.block_lt_of_cell? w2 ⟨w.heap.size + 1, 0, none⟩ c2
 have p3 : w1.heap.size < w2.heap.size := zE hA1
 have HA2 := zB hA2
 clear k6 hk2 ho2 htr HQ2 HKW HF1 HI1 HE1 HV1 HA hA1 hA2 hb2
 simp only [List.length_cons, List.length_nil, Nat.zero_add] at *
 go_wp2_with fail
 refine (zA HQ3).mono ?_
 rintro e w3 hex
 obtain ⟨rv3, rfl, hv3, hk3⟩ := hex.ok
 obtain ⟨zo, zc, rfl⟩ := Ws.form hv3
 have hA3 := (hk3.block _ (zE (zA HA2)) id).trans (zA HA2)
 have b0 : w3.cell? ⟨w1.heap.size, 0, none⟩ = some (.bool true) := (zC hA3 _).trans rfl
 have b1 : w3.cell? ⟨w1.heap.size, 1, none⟩ = some (.slice xo 1 xc) := (zC hA3 _).trans rfl
 have b2 : w3.cell? ⟨w1.heap.size, 2, none⟩ = some (.int .i64 3) := (zC hA3 _).trans rfl
 have b3 : w3.cell? ⟨w1.heap.size, 3, none⟩ = some (.int .i64 1) := (zC hA3 _).trans rfl
 have p4 : w1.heap.size < w3.heap.size := zE hA3
 obtain ⟨g1, o1, q1, e1, hl1, hc1⟩ := ((zA HV2).keepF hk3).cells (by simp)
 simp only [Value.slice.injEq] at e1
 obtain ⟨rfl, _, rfl⟩ := e1
 have d1 : w3.cell? ⟨g1, o1 + 1, none⟩ = some (.int .i64 5) := by simpa using (hc1 0 ⟨1, 5, []⟩ rfl).2.1
 obtain ⟨g2, o2, q2, e2, hl2, hc2⟩ := hv3.cells (by simp)
 simp only [Value.slice.injEq] at e2
 obtain ⟨rfl, _, rfl⟩ := e2
 have d2 : w3.cell? ⟨g2, o2 + 1, none⟩ = some (.int .i64 10) := by simpa using (hc2 0 ⟨1, 10, []⟩ rfl).2.1
 have HKZ := zB ((zA HKX).trans hk3)
 clear hc1 hc2 hA3 hk3 hv3 HQ3 HV2 HA2 HF2 HE2 hex HKX
 simp only [List.length_cons, List.length_nil, Nat.zero_add] at *
 go_wp2_with fail
 go_ret
 exact ⟨rfl, (zA HKZ).alloc _⟩
set_option maxHeartbeats 8000000
theorem deep_mem : ∀ (D : List (Nat × List ValA)) (z : Nat × List ValA), z ∈ D → z.2.length ≤ deepD D
 | [], z, h => by simp at h
 | y :: r, z, h => by
  have e : deepD (y :: r) = max y.2.length (deepD r) := by show (y :: r).foldl _ 0 = _; rw [List.foldl_cons, deep_fold]; simp
  rw [e]
  rcases List.mem_cons.1 h with rfl | h
  ·omega
  ·have := deep_mem r z h; omega
theorem steps_snoc {D : List (Nat × List ValA)} {k : Nat} {z : Nat × List ValA} (h : D[k]? = some z) : stepCs (D.take (k + 1)) = stepCs (D.take k) ++ [.int .i64 (z.1 : Int), str (typT z.2)] := by
 rw [take_snoc _ _ _ h, stepCs_snoc]
theorem traceR_v (S : List Wq) (sv u v : Value) (l : List ValA) (hh : Bool) (vals : List ValA) (w : World) (hS : Wt w sv S) (hl : Wr w v l) (hI : InR l) (hr : Wr w u vals) :
  Calls Tryz.prog 11 #[.agg #[sv], v, .agg #[.bool hh, u]] w fun e w' => ∃ ro rc, e = .returned (.tuple #[.slice ro (traceO S l hh vals).length rc, .int .i64 (runO S l hh vals).e]) ∧ w'.ownsRow w.heap.size 53 2 (.slice ro (traceO S l hh vals).length rc) (traceO S l hh vals).length (stepCs (traceO S l hh vals)) ∧ Wp (fun _ => False) w w' := by
 obtain ⟨so, sc, rfl⟩ := Ws.form hS
 obtain ⟨lo, lc, rfl⟩ := Ws.form hl
 obtain ⟨uo, uc, rfl⟩ := Ws.form hr
 obtain ⟨W, hW, hkW, g0, g1⟩ := boxes2 w #[.slice so S.length sc] #[.bool hh, .slice uo vals.length uc] 24 27
 have p0 := cl1 g0
 obtain ⟨r0, r1⟩ := cl2 g1
 have HQ := zB (checkR_v S _ _ _ l hh vals W (hS.keepF hkW) (hl.keepF hkW) hI (hr.keepF hkW))
 have HKW := zB hkW
 have G0 := zB g0
 have G1 := zB g1
 by_cases hok : (verifyA S l).2.2 = 0 ∧ rowE S hh vals = 0
 ·obtain ⟨hV, hR⟩ := hok
  obtain ⟨ps, _, _, l96, _, _, hdp, hdp2, _, hst0, _, hJ⟩ := run_bounds hV hR
  have hTy : TyM S ⟨[], hh, vals⟩ [] := ⟨rfl, fun v hv => by simp at hv, rowE_ok hR⟩
  have hs := ver_schema hV
  have h' : (lookA S l).2.2 = 0 := hV
  obtain ⟨hv, hH, hF⟩ : ∃ hv, HvOK S l hv ∧ ∀ i ∈ l, formB i = 0 ∧ rightF S i = true := by
   rcases look_tells S l with ⟨_, _, q, r⟩ | ⟨ps, qa, _, ok, ln, l96, hSK, hF, hT⟩
   ·rw [q] at h'; exact absurd h' r
   ·exact ⟨_, ok, hF⟩
  have hro : (runO S l hh vals).e = 0 := by
   unfold runO outO
   rw [hV, hR, if_neg (by simp), if_neg (by simp)]
  have hto : traceO S l hh vals = (playM S l l.length 0 ⟨[], hh, vals⟩).1 := by
   unfold traceO outD
   rw [hV, hR, if_neg (by simp)]
  rw [hro, hto]
  rw [hV, hR, if_neg (by simp)] at HQ
  have HSTS := zB (fun (W2 : World) (h : Wp (fun _ => False) W W2) => statesR_v S _ _ _ l hh vals hv W2 ((hS.keepF hkW).keepF h) ((hl.keepF hkW).keepF h) ((hr.keepF hkW).keepF h) hs l96 hF hJ hH hTy)
  have HTELL : Hid (∀ C : List StC, C.map StC.pair = runS S l l.length 0 ⟨[], hh, vals⟩ → C.length = (playM S l l.length 0 ⟨[], hh, vals⟩).1.length + 1 ∧ (∀ (i : Nat) c, C[i]? = some c → i + 1 < C.length → (playM S l l.length 0 ⟨[], hh, vals⟩).1[i]? = some (c.k, c.m.st))) := fun C hC => by
   obtain ⟨a, _, _, b⟩ := sts_tell hC hst0
   exact ⟨a, b⟩
  have HT96 : Hid ((playM S l l.length 0 ⟨[], hh, vals⟩).1.length ≤ 96) := Nat.le_trans (playM_len _ _ _) l96
  have HD16 : Hid (∀ z ∈ (playM S l l.length 0 ⟨[], hh, vals⟩).1, z.2.length ≤ 1024) := fun z hz => by have := deep_mem _ z hz; omega
  generalize (playM S l l.length 0 ⟨[], hh, vals⟩).1 = T1 at *
  clear hV hR hst0 hJ hTy hs h' hH hF hro hto g0 g1 hkW hS hl hr hdp
  go_enter Tryz.func11, Tryz.ntmps11
  go_wp2_with fail
  refine (zA HQ).mono ?_
  rintro e w1 ⟨rfl, hk1⟩
  have h0 := zD (zA G0) hk1
  have h1 := zD (zA G1) hk1
  have HQ2 := zB ((zA HSTS) w1 hk1)
  have HK1 := zB hk1
  have a0 := cl1 h0
  obtain ⟨c0, c1⟩ := cl2 h1
  clear hk1 h0 h1 HQ HSTS
  go_wp2_with fail
  refine (zA HQ2).mono ?_
  rintro e w2 ⟨sv2, C, rfl, hrow, hall, hmap, hk2⟩
  obtain ⟨t1, t2⟩ := (zA HTELL) C hmap
  obtain ⟨sb, sof, scp, e, hsb, hcl⟩ := sts_cells hrow (by omega)
  subst e
  have HK2 := zB ((zA HK1).trans hk2)
  have HALL := zB hall
  have HCL := zB hcl
  have hT := zA HT96
  have hclen : C.length ≤ 97 := by omega
  have HT2 := zB t2
  have HT1 := zB t1
  clear HQ2 HTELL hmap hk2 hrow hall hcl t2 t1
  go_wp2_with fail
  go_loopw [10, 11] (fun o i wr => ∃ k : Nat, k ≤ T1.length ∧ i = .int .i64 (k : Int) ∧ Hid (wr.ownsRow w2.heap.size 53 2 o k (stepCs (T1.take k))) ∧ Hid (Wp (fun _ => False) w2 wr)) (fun _ i _ => T1.length - (intOf i).toNat)
  case atStart => exact ⟨0, Nat.zero_le _, rfl, by simpa [Hid, stepCs] using World.ownsRow_nil w2 w2.heap.size 53 2, Wp.refl _ _⟩
  case round =>
   obtain ⟨k, hk, rfl, HO, HK⟩ := hrel
   by_cases hlt : k < T1.length
   ·have hlc : k + 1 < C.length := by have := zA HT1; omega
    obtain ⟨c, hc⟩ : ∃ c, C[k]? = some c := ⟨_, List.getElem?_eq_getElem (by omega)⟩
    have hz := (zA HT2) k c hc hlc
    have hst := (zA HD16) _ (List.mem_of_getElem? hz)
    simp only at hst
    have hall := ((zA HALL) c (List.mem_of_getElem? hc)).1.1
    obtain ⟨tO, tc, e1⟩ := Ws.form hall
    have f0 := ((zA HK).cell hsb id).trans ((zA HCL) k c hc).1
    have f1 := ((zA HK).cell hsb id).trans ((zA HCL) k c hc).2.1
    rw [e1] at f1 hall
    have HN : Hid (stepCs (T1.take (k + 1)) = stepCs (T1.take k) ++ [.int .i64 (c.k : Int), str (typT c.m.st)]) := steps_snoc hz
    have HQ := zB (fun (X : World) (h : Wp (fun _ => False) wr X) => letters_v X _ c.m.st ((hall.keepF (zA HK)).keepF h) hst)
    obtain ⟨oo, oc, e2⟩ := Ws.form (zG (zA HO))
    subst e2
    have hsr : sb < wr.heap.size := Nat.lt_of_lt_of_le hsb (zA HK).size
    generalize typT c.m.st = TX at *
    generalize c.m.st.length = SL at *
    have i1 : (k : Int) + 1 < (C.length : Int) := by omega
    have i2 : (k : Int) < (C.length : Int) := by omega
    have i0' : (0 : Int) ≤ (k : Int) := by omega
    have HD := zB (Wp.refl (fun _ => False) wr).drew
    clear hc hz e1 hall hst
    go_wp2_with fail
    go_region_law (first
     | (rw [if_pos (by rfl)]; go_simp; go_at_call 29; refine ((zA HQ) _ (zA HD)).mono ?_; rintro e w3 ⟨rfl, hk3⟩; have HW3 := zB ((zA HD).trans hk3); have f3 := ((zA HW3).cell (o := sof + k * 4) hsr id).trans f0; have hOW := (zI (zA HO) (zA HW3) (fun _ _ => id)).alloc (.cells #[.int .i64 (c.k : Int), str TX] 53); have hBS : w2.heap.size ≤ (w3.alloc (.cells #[.int .i64 (c.k : Int), str TX] 53)).heap.size := (by have := (zA HK).size; have := (zA HW3).size; simp; omega))
     | (refine step_appendS (by rfl) _ _ (by rfl) w2.heap.size oo k oc (stepCs (T1.take k)) (by rfl) hOW w3.heap.size (c.k : Int) _ (by rfl) (heap_alloc_new w3 _) (by omega) hBS ?_; intro g cap' w5 hown5 hgrow5))
    all_goals
     have HO5 := zB hown5
     have HG5 := zB hgrow5
     clear hown5 hgrow5
     go_wp2_with fail
     go_roundw
     case rel =>
      refine ⟨k + 1, by omega, by go_num, ?_, (((zA HK).trans (zA HW3)).alloc _).grown (zA HG5) (fun q e hq => by have := ((zA HO).lt q e).1; omega)⟩
      rw [zA HN]
      exact zA HO5
     case measure => simp [intOf]; omega
   ·obtain rfl : k = T1.length := by omega
    have i1 : ¬ (T1.length : Int) + 1 < (C.length : Int) := by have := zA HT1; omega
    have hO := zA HO
    rw [List.take_length] at hO
    obtain ⟨oo, oc, e2⟩ := Ws.form (zG hO)
    subst e2
    have HF := zB (ownsRow_base hO (Nat.le_trans (zA HKW).size (zA HK2).size))
    clear hO HO
    go_wp2_with fail
    refine bodyPost_ret (v := .tuple #[.slice oo T1.length oc, .int .i64 0]) (by simp [results, go_sem]) rfl ?_
    exact ⟨oo, oc, rfl, zA HF, (zA HKW).trans ((zA HK2).trans (zA HK))⟩
 ·have hE : (if (verifyA S l).2.2 ≠ 0 then (verifyA S l).2.2 else rowE S hh vals) ≠ 0 := by
   by_cases hV : (verifyA S l).2.2 = 0
   ·rw [if_neg (by simp [hV])]
    exact fun q => hok ⟨hV, q⟩
   ·rw [if_pos hV]; exact hV
  have hro : (runO S l hh vals).e = (if (verifyA S l).2.2 ≠ 0 then (verifyA S l).2.2 else rowE S hh vals) ∧ traceO S l hh vals = [] := by
   unfold runO outO traceO outD
   by_cases hV : (verifyA S l).2.2 = 0
   ·have hR : ¬ rowE S hh vals = 0 := fun q => hok ⟨hV, q⟩
    simp [hV, hR]
   ·simp [hV]
  rw [hro.1, hro.2]
  simp only [List.length_nil]
  generalize (if (verifyA S l).2.2 ≠ 0 then (verifyA S l).2.2 else rowE S hh vals) = EE at *
  have e1 : (EE == 0) = false := by simpa using hE
  have e2 : (EE != 0) = true := by simpa using hE
  clear hok hro hE g0 g1 hkW hS hl hr
  go_enter Tryz.func11, Tryz.ntmps11
  go_wp2_with fail
  refine (zA HQ).mono ?_
  rintro e w1 ⟨rfl, hk1⟩
  clear HQ
  go_wp2_with fail
  refine bodyPost_ret (v := .tuple #[.slice none 0 0, .int .i64 EE]) (by simp [results, go_sem]) rfl ?_
  exact ⟨none, 0, rfl, World.ownsRow_nil _ _ 53 2, (zA HKW).trans hk1⟩
set_option maxHeartbeats 2000000
theorem sC_at : ∀ {l : List (Int × Txt)} {k : Nat} {x : Int × Txt}, l[k]? = some x → (sC l)[k * 2]? = some (.int .i64 x.1) ∧ (sC l)[k * 2 + 1]? = some (str x.2)
 | [], k, x, h => by simp at h
 | y :: r, 0, x, h => by
  simp at h
  subst h
  exact ⟨rfl, rfl⟩
 | y :: r, k + 1, x, h => by
  have ih := sC_at (l := r) (k := k) (x := x) (by simpa using h)
  have e : sC (y :: r) = .int .i64 y.1 :: str y.2 :: sC r := rfl
  rw [e, show (k + 1) * 2 = k * 2 + 1 + 1 by omega]
  simpa using ih
theorem steps_cells {w : World} {v : Value} {l : List (Int × Txt)} (h : Ws w v l.length (sC l)) (h0 : 0 < l.length) :
  ∃ b off cap, v = .slice (some ⟨b, off, none⟩) l.length cap ∧ b < w.heap.size ∧ ∀ i z, l[i]? = some z → w.cell? ⟨b, off + i * 2, none⟩ = some (.int .i64 z.1) ∧ w.cell? ⟨b, off + i * 2 + 1, none⟩ = some (str z.2) := by
 obtain ⟨b, off, cap, e, hb, hc⟩ := h.cells h0
 refine ⟨b, off, cap, e, hb, fun i z hz => ?_⟩
 obtain ⟨h1, h2⟩ := sC_at hz
 exact ⟨hc _ _ h1, hc _ _ h2⟩
theorem eqStepsG (w : World) (va vb : Value) (l : List (Int × Txt)) (h1 : Ws w va l.length (sC l)) (h2 : Ws w vb l.length (sC l)) (hl : l.length ≤ 1099511627776) :
  Calls Tryz.prog 13 #[va, vb] w fun e w' => e = .returned (.bool true) ∧ Wp (fun _ => False) w w' := by
 obtain ⟨ao, ac, rfl⟩ := Ws.form h1
 obtain ⟨bo, bc, rfl⟩ := Ws.form h2
 have H1 := zB h1
 have H2 := zB h2
 have hln : (((l.length : Nat) : Int) != ((l.length : Nat) : Int)) = false := by simp
 clear h1 h2
 go_enter Tryz.func13, Tryz.ntmps13
 go_wp2_with fail
 go_loopw [5] (fun i wr => ∃ k : Nat, k ≤ l.length ∧ i = .int .i64 (k : Int) ∧ Hid (Wp (fun _ => False) w wr)) (fun i _ => l.length - (intOf i).toNat)
 case atStart => exact ⟨0, by omega, rfl, Wp.refl _ _⟩
 case round =>
  obtain ⟨k, hk, rfl, HK⟩ := hrel
  by_cases hlt : k < l.length
  ·have i1 : (k : Int) < (l.length : Int) := by omega
   have i0' : (0 : Int) ≤ (k : Int) := by omega
   obtain ⟨x, hx⟩ : ∃ x, l[k]? = some x := ⟨_, List.getElem?_eq_getElem hlt⟩
   obtain ⟨b1, off1, c1, e1, hb1, hc1⟩ := steps_cells (zA H1) (by omega)
   simp at e1
   obtain ⟨rfl, rfl⟩ := e1
   obtain ⟨b2, off2, c2, e2, hb2, hc2⟩ := steps_cells (zA H2) (by omega)
   simp at e2
   obtain ⟨rfl, rfl⟩ := e2
   have p0 := ((zA HK).cell hb1 id).trans (hc1 k x hx).1
   have p1 := ((zA HK).cell hb1 id).trans (hc1 k x hx).2
   have q0 := ((zA HK).cell hb2 id).trans (hc2 k x hx).1
   have q1 := ((zA HK).cell hb2 id).trans (hc2 k x hx).2
   obtain ⟨xk, xs⟩ := x
   simp only at p0 p1 q0 q1
   have r0 : ∀ m : KW wr, m.wd.cell? ⟨b1, off1 + k * 2, none⟩ = some (.int .i64 xk) := fun m => (m.kept.cell (Nat.lt_of_lt_of_le hb1 (zA HK).size) id).trans p0
   have r1 : ∀ m : KW wr, m.wd.cell? ⟨b1, off1 + k * 2 + 1, none⟩ = some (str xs) := fun m => (m.kept.cell (Nat.lt_of_lt_of_le hb1 (zA HK).size) id).trans p1
   have s0 : ∀ m : KW wr, m.wd.cell? ⟨b2, off2 + k * 2, none⟩ = some (.int .i64 xk) := fun m => (m.kept.cell (Nat.lt_of_lt_of_le hb2 (zA HK).size) id).trans q0
   have s1 : ∀ m : KW wr, m.wd.cell? ⟨b2, off2 + k * 2 + 1, none⟩ = some (str xs) := fun m => (m.kept.cell (Nat.lt_of_lt_of_le hb2 (zA HK).size) id).trans q1
   have e0 : (xk != xk) = false := by simp
   have e1 : (xs != xs) = false := by simp
   clear hc1 hc2 hx p0 p1 q0 q1
   go_wp2_with fail
   refine region_kept (by kernel_rfl) (by kernel_rfl) ?_
   repeat (go_big_quiet_step (fail))
   refine wpQuiet_nil ?_
   rintro _ ⟨nq, rfl⟩
   go_wp2_with fail
   go_roundw
   case rel => exact ⟨k + 1, by omega, by go_num, (zA HK).trans nq.kept⟩
   case measure => simp [intOf]; omega
  ·obtain rfl : k = l.length := by omega
   go_wp2_with fail
   go_ret
   exact ⟨rfl, zA HK⟩
def swapL (L : List ValA) (i k : Nat) (x y : ValA) : List ValA := (L.set i y).set k x
theorem swap_len (L : List ValA) (i k : Nat) (x y : ValA) : (swapL L i k x y).length = L.length := by simp [swapL]
theorem swap_mem {L M : List ValA} {i k : Nat} {x y : ValA} (h : ∀ z ∈ L, z ∈ M) (hx : x ∈ M) (hy : y ∈ M) : ∀ z ∈ swapL L i k x y, z ∈ M := by
 intro z hz
 unfold swapL at hz
 rcases List.mem_or_eq_of_mem_set hz with hz | rfl
 ·rcases List.mem_or_eq_of_mem_set hz with hz | rfl
  ·exact h z hz
  ·exact hy
 ·exact hx
theorem vcs_at3 {l : List ValA} {i : Nat} {x : ValA} (h : l[i]? = some x) : (vcs l)[i * 3]? = some (.int .i64 x.kind) ∧ (vcs l)[i * 3 + 1]? = some (.int .i64 x.n) ∧ (vcs l)[i * 3 + 2]? = some (str x.s) := by
 have k := fun j hj => flat_get ValA.cs (fun _ => rfl) l i x j h hj
 exact ⟨k 0 (by omega), k 1 (by omega), k 2 (by omega)⟩
theorem own_cell {w : World} {B e z n g c j : Nat} {xs : List Value} {u : Value} (h : w.ownsRow B e z (.slice (some ⟨g, 0, none⟩) n c) n xs) (hj : xs[j]? = some u) : w.cell? ⟨g, j, none⟩ = some u :=
 (World.ownsRow.cellAt h j (by rw [← h.1]; exact get_lt hj)).trans hj
theorem vals_own {w : World} {B e n : Nat} {v : Value} {l : List ValA} (h : w.ownsRow B e 3 v n (vcs l)) (hn : l.length = n) : Wr w v l := by
 subst hn
 exact zG h
theorem vals_high {w w' : World} {v : Value} {l : List ValA} {B : Nat} (h : Wr w v l) (hB : ∀ q, fullBlock v = some q → B ≤ q) {F : Nat → Prop} (hk : Wp F w w') (hF : ∀ q, F q → q < B) : Wr w' v l :=
 vals_kept h hk (fun q e f => by have h1 := hB q e; have h2 := hF q f; omega)
set_option maxHeartbeats 4000000
theorem markV_v (i : Nat) (w : World) : Calls Tryz.prog 45 #[.int .i64 (i : Int)] w fun e w' => e = .returned (.agg #[.int .i64 (-77), .int .i64 (i : Int), .string ⟨#[115, 112, 97, 114, 101]⟩]) ∧ Wp (fun _ => False) w w' := by
 go_enter Tryz.func45, Tryz.ntmps45
 go_wp2_with fail
 go_returns
 exact ⟨rfl, kA _ _⟩
theorem wideVals_v (w : World) (v : Value) (l : List ValA) (h : Wr w v l) (hl : l.length ≤ 1048576) :
  Calls Tryz.prog 34 #[v] w fun e w' => ∃ g cap, e = .returned (.slice (some ⟨g, 0, none⟩) l.length cap) ∧ w.heap.size ≤ g ∧ Wide w' (.slice (some ⟨g, 0, none⟩) l.length cap) 3 l.length (vcs l) markV ∧ Wp (fun _ => False) w w' := by
 obtain ⟨i0, hi, hz0, hz1, hz2⟩ := info_parts Tryz.info51
 obtain ⟨ao, ac, rfl⟩ := Ws.form h
 have HC := zB (copyVals_any w _ l h (by omega))
 have HLN : Hid ((vcs l).length = l.length * 3) := by show _ = _; simp [vcs_length]
 generalize hfl : vcs l = FL at *
 clear h hfl
 go_enter Tryz.func34, Tryz.ntmps34
 go_wp2_with fail
 refine (zA HC).mono ?_
 rintro e w1 ⟨v1, rfl, hown, hk1⟩
 obtain ⟨bo, bc, rfl⟩ := Ws.form (zG hown)
 have HO1 := zB hown
 have HK1 := zB hk1
 clear hown hk1 HC
 go_wp2_with fail
 go_loopw [3, 4] (fun o i wr => ∃ k : Nat, k ≤ 16 ∧ i = .int .i64 (k : Int) ∧ Hid (wr.ownsRow w.heap.size 51 3 o (l.length + k) (FL ++ marks markV k)) ∧ Hid (Wp (fun _ => False) w wr)) (fun _ i _ => 16 - (intOf i).toNat)
 case atStart => exact ⟨0, by omega, rfl, by simpa [Hid, marks] using zA HO1, zA HK1⟩
 case round =>
  obtain ⟨k, hk, rfl, HO, HK⟩ := hrel
  by_cases hlt : k < 16
  ·have i1 : (k : Int) < 16 := by omega
   have i0' : (0 : Int) ≤ (k : Int) := by omega
   have HM := zB (markV_v k wr)
   go_wp2_with fail
   refine (zA HM).mono ?_
   rintro e w2 ⟨rfl, hk2⟩
   have HO2 := zB (zI (zA HO) hk2 (fun _ _ => id))
   have HK2 := zB ((zA HK).trans hk2)
   clear hk2 HM HO HK
   have HO := HO2
   have HK := HK2
   go_wp2_with (at_builtin; refine wpList_append_lies _ rfl _ _ _ rfl w.heap.size 51 i0 _ 3 32 Tryz.underlying25 hi hz0 hz1 hz2 rfl (by omega) u3 (l.length + k) (FL ++ marks markV k) rfl ((zA HO).alloc _) ⟨w2.heap.size, 0, none⟩ 1 1 (markV k) rfl rfl (World.news_of_block (cs := #[.int .i64 (-77), .int .i64 (k : Int), .string ⟨#[115, 112, 97, 114, 101]⟩]) (t := 51) (fr := (0, 0)) (heap_alloc_new w2 _)) (by simp [Value.oneCell', markV]) (by omega) (by unfold maxLen; omega) (by omega) (by have := (zA HK).size; simp; omega) (w2.heap.size + 1) (by simp) ?_; intro g cap w5 hown5 hgr5 hat5 hlt5)
   go_roundw
   case rel =>
    refine ⟨k + 1, by omega, by go_num, ?_, ((zA HK).alloc _).grown hgr5 (fun q e hq => by have := ((zA HO).lt q e).1; omega)⟩
    rw [marks_snoc, ← List.append_assoc, ← Nat.add_assoc]
    exact hown5
   case measure => simp [intOf]; omega
  ·obtain rfl : k = 16 := by omega
   obtain ⟨g, cap, cur, e, hgl, hgb, hc⟩ : ∃ g cap cur, u3 = .slice (some ⟨g, 0, none⟩) (l.length + 16) cap ∧ w.heap.size ≤ g ∧ wr.heap[g]? = some (.cells cur 51 (0, 0)) ∧ l.length + 16 ≤ cap := by
    rcases (zA HO).2 with ⟨_, h0⟩ | ⟨g, cap, cur, a1, a2, a3, a4, _⟩
    ·omega
    ·exact ⟨g, cap, cur, a1, a2, a3, a4⟩
   subst e
   have HW := zB (wide_of (zA HLN) (zA HO))
   have c1 : (l.length : Int) ≤ (cap : Int) := by omega
   have c2 : l.length ≤ cap := by omega
   have c0 : (0 : Int) ≤ (l.length : Int) := by omega
   clear hgb HO
   go_wp2_with fail
   go_ret
   exact ⟨_, _, rfl, hgl, zA HW, zA HK⟩
theorem wideCode_v (w : World) (v : Value) (l : List ValA) (h : Wr w v l) (hl : l.length ≤ 1048576) :
  Calls Tryz.prog 18 #[v] w fun e w' => ∃ g cap, e = .returned (.slice (some ⟨g, 0, none⟩) l.length cap) ∧ w.heap.size ≤ g ∧ Wide w' (.slice (some ⟨g, 0, none⟩) l.length cap) 3 l.length (vcs l) markC ∧ Wp (fun _ => False) w w' := by
 obtain ⟨i0, hi, hz0, hz1, hz2⟩ := info_parts Tryz.info60
 obtain ⟨ao, ac, rfl⟩ := Ws.form h
 have HC := zB (copyCode_v w _ l h (by omega))
 have HLN : Hid ((vcs l).length = l.length * 3) := by show _ = _; simp [vcs_length]
 generalize hfl : vcs l = FL at *
 clear h hfl
 go_enter Tryz.func18, Tryz.ntmps18
 go_wp2_with fail
 refine (zA HC).mono ?_
 rintro e w1 ⟨v1, rfl, hown, hk1⟩
 obtain ⟨bo, bc, rfl⟩ := Ws.form (zG hown)
 have HO1 := zB hown
 have HK1 := zB hk1
 clear hown hk1 HC
 go_wp2_with fail
 go_loopw [3, 4] (fun o i wr => ∃ k : Nat, k ≤ 16 ∧ i = .int .i64 (k : Int) ∧ Hid (wr.ownsRow w.heap.size 60 3 o (l.length + k) (FL ++ marks markC k)) ∧ Hid (Wp (fun _ => False) w wr)) (fun _ i _ => 16 - (intOf i).toNat)
 case atStart => exact ⟨0, by omega, rfl, by simpa [Hid, marks] using zA HO1, zA HK1⟩
 case round =>
  obtain ⟨k, hk, rfl, HO, HK⟩ := hrel
  by_cases hlt : k < 16
  ·have i1 : (k : Int) < 16 := by omega
   have i0' : (0 : Int) ≤ (k : Int) := by omega
   go_wp2_with (at_builtin; refine wpList_append_lies _ rfl _ _ _ rfl w.heap.size 60 i0 _ 3 32 Tryz.underlying35 hi hz0 hz1 hz2 rfl (by omega) u3 (l.length + k) (FL ++ marks markC k) rfl ((zA HO).alloc _) ⟨wr.heap.size, 0, none⟩ 1 1 (markC k) rfl rfl (World.news_of_block (cs := #[.int .i64 (-77 - (k : Int)), .int .i64 0, .string ⟨#[115, 112, 97, 114, 101]⟩]) (t := 60) (fr := (0, 0)) (heap_alloc_new wr _)) (by simp [Value.oneCell', markC]) (by omega) (by unfold maxLen; omega) (by omega) (by have := (zA HK).size; simp; omega) (wr.heap.size + 1) (by simp) ?_; intro g cap w5 hown5 hgr5 hat5 hlt5)
   go_roundw
   case rel =>
    refine ⟨k + 1, by omega, by go_num, ?_, ((zA HK).alloc _).grown hgr5 (fun q e hq => by have := ((zA HO).lt q e).1; omega)⟩
    rw [marks_snoc, ← List.append_assoc, ← Nat.add_assoc]
    exact hown5
   case measure => simp [intOf]; omega
  ·obtain rfl : k = 16 := by omega
   obtain ⟨g, cap, cur, e, hgl, hgb, hc⟩ : ∃ g cap cur, u3 = .slice (some ⟨g, 0, none⟩) (l.length + 16) cap ∧ w.heap.size ≤ g ∧ wr.heap[g]? = some (.cells cur 60 (0, 0)) ∧ l.length + 16 ≤ cap := by
    rcases (zA HO).2 with ⟨_, h0⟩ | ⟨g, cap, cur, a1, a2, a3, a4, _⟩
    ·omega
    ·exact ⟨g, cap, cur, a1, a2, a3, a4⟩
   subst e
   have HW := zB (wide_of (zA HLN) (zA HO))
   have c1 : (l.length : Int) ≤ (cap : Int) := by omega
   have c2 : l.length ≤ cap := by omega
   have c0 : (0 : Int) ≤ (l.length : Int) := by omega
   clear hgb HO
   go_wp2_with fail
   go_ret
   exact ⟨_, _, rfl, hgl, zA HW, zA HK⟩
theorem wideBytes_v (w : World) (v : Value) (l : Txt) (h : Wv w v l) (hl : l.length ≤ 1048576) :
  Calls Tryz.prog 19 #[v] w fun e w' => ∃ g cap, e = .returned (.slice (some ⟨g, 0, none⟩) l.length cap) ∧ w.heap.size ≤ g ∧ Wide w' (.slice (some ⟨g, 0, none⟩) l.length cap) 1 l.length (bs l) markB ∧ Wp (fun _ => False) w w' := by
 obtain ⟨i0, hi, hz0, hz1, hz2⟩ := info_parts Tryz.info5
 obtain ⟨ao, ac, rfl⟩ := Ws.form h
 have HC := zB (copyBytes_any w _ l h (by omega))
 have HLN : Hid ((bs l).length = l.length * 1) := by show _ = _; simp [bs_length]
 generalize hfl : bs l = FL at *
 clear h hfl
 go_enter Tryz.func19, Tryz.ntmps19
 go_wp2_with fail
 refine (zA HC).mono ?_
 rintro e w1 ⟨v1, rfl, hown, hk1⟩
 obtain ⟨bo, bc, rfl⟩ := Ws.form (zG hown)
 have HO1 := zB hown
 have HK1 := zB hk1
 clear hown hk1 HC
 go_wp2_with fail
 go_loopw [3, 4] (fun o i wr => ∃ k : Nat, k ≤ 16 ∧ i = .int .i64 (k : Int) ∧ Hid (wr.ownsRow w.heap.size 5 1 o (l.length + k) (FL ++ marks markB k)) ∧ Hid (Wp (fun _ => False) w wr)) (fun _ i _ => 16 - (intOf i).toNat)
 case atStart => exact ⟨0, by omega, rfl, by simpa [Hid, marks] using zA HO1, zA HK1⟩
 case round =>
  obtain ⟨k, hk, rfl, HO, HK⟩ := hrel
  by_cases hlt : k < 16
  ·have i1 : (k : Int) < 16 := by omega
   have i0' : (0 : Int) ≤ (k : Int) := by omega
   have hcv : IntKind.u8.wrap (165 + (k : Int)) = 165 + (k : Int) := by have e : IntKind.u8.wrap (165 + (k : Int)) = (165 + (k : Int)) % 256 := rfl; rw [e]; omega
   go_wp2_with (at_builtin; refine wpList_append_lies _ rfl _ _ _ rfl w.heap.size 5 i0 _ 1 1 Tryz.underlying42 hi hz0 hz1 hz2 rfl (by omega) u3 (l.length + k) (FL ++ marks markB k) rfl ((zA HO).alloc _) ⟨wr.heap.size, 0, none⟩ 1 1 (markB k) rfl rfl (World.news_of_block (cs := #[.int .u8 (165 + (k : Int))]) (t := 5) (fr := (0, 0)) (heap_alloc_new wr _)) (by simp [Value.oneCell', markB]) (by omega) (by unfold maxLen; omega) (by omega) (by have := (zA HK).size; simp; omega) (wr.heap.size + 1) (by simp) ?_; intro g cap w5 hown5 hgr5 hat5 hlt5)
   go_roundw
   case rel =>
    refine ⟨k + 1, by omega, by go_num, ?_, ((zA HK).alloc _).grown hgr5 (fun q e hq => by have := ((zA HO).lt q e).1; omega)⟩
    rw [marks_snoc, ← List.append_assoc, ← Nat.add_assoc]
    exact hown5
   case measure => simp [intOf]; omega
  ·obtain rfl : k = 16 := by omega
   obtain ⟨g, cap, cur, e, hgl, hgb, hc⟩ : ∃ g cap cur, u3 = .slice (some ⟨g, 0, none⟩) (l.length + 16) cap ∧ w.heap.size ≤ g ∧ wr.heap[g]? = some (.cells cur 5 (0, 0)) ∧ l.length + 16 ≤ cap := by
    rcases (zA HO).2 with ⟨_, h0⟩ | ⟨g, cap, cur, a1, a2, a3, a4, _⟩
    ·omega
    ·exact ⟨g, cap, cur, a1, a2, a3, a4⟩
   subst e
   have HW := zB (wide_of (zA HLN) (zA HO))
   have c1 : (l.length : Int) ≤ (cap : Int) := by omega
   have c2 : l.length ≤ cap := by omega
   have c0 : (0 : Int) ≤ (l.length : Int) := by omega
   clear hgb HO
   go_wp2_with fail
   go_ret
   exact ⟨_, _, rfl, hgl, zA HW, zA HK⟩
end Go.Proofs.YtbdlcaamanhapaaGreatDoor
