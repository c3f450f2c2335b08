import Derived.Test.YtiinohibmcefkaaGreatDoorZzbk
import Derived.Test.YtiinohibmcefkaaGreatDoorZzas
import Derived.Test.YtiinohibmcefkaaGreatDoorZzag
import Derived.Test.YtiinohibmcefkaaGreatDoorZzay
import Derived.Test.YtiinohibmcefkaaGreatDoorZzae
import Derived.Test.YtiinohibmcefkaaGreatDoorZzax
import Derived.Test.YtiinohibmcefkaaGreatDoorZzat
import Derived.Test.YtiinohibmcefkaaGreatDoorZzak
import Derived.Test.YtiinohibmcefkaaGreatDoorZzbq
import Derived.Test.YtiinohibmcefkaaGreatDoorZzac
import Derived.Test.YtiinohibmcefkaaGreatDoorZzar
import Derived.Test.YtiinohibmcefkaaGreatDoorZzad
import Derived.Deep.RegionHeld3
import Derived.Laws.Rows
namespace Go.Proofs.YtiinohibmcefkaaGreatDoor
open Go.RowKit Go.Maps

/-- The program that works runs. -/
def worksL : SL := .cons 6 [] .nil .nil .nil (.cons 2 [110] (.cons 1 5 [] .nil .nil) .nil .nil .nil)
def worksS : List FieldA := [⟨[110], 1, false⟩]
theorem works_one : runP worksS worksL false [] = ((true, [⟨1, 5, []⟩]), 0) := by decide +kernel
theorem works_two : runP worksS worksL true [⟨1, 5, []⟩] = ((true, [⟨1, 10, []⟩]), 0) := by decide +kernel
end Go.Proofs.YtiinohibmcefkaaGreatDoor
namespace Go.Proofs.YtiinohibmcefkaaGreatDoor
open Go.RowKit Go.Maps

theorem nil_vals (w : World) : ValsAt w (.slice none 0 0) [] := rowAt_own (World.ownsRow_nil w 0 41 3)
theorem nilE (Z : Zone) (w : World) (up : Nat) : SlE Z w up (.slice none 0 0) .nil := ⟨none, 0, rfl, Nat.le_refl _, fun h => absurd rfl h⟩
theorem worksY (w : World) : ∃ Y, ((((w.alloc (.cells #[.string ⟨#[110]⟩, .int .i64 1, .bool false] 47)).alloc (.cells #[.slice (some ⟨w.heap.size, 0, none⟩) 1 1] 24)).alloc (.cells #[.int .i64 1, .int .i64 5, .string ⟨#[]⟩, .slice none 0 0] 27)).alloc (.cells #[.int .i64 1, .int .i64 5, .string ⟨#[]⟩, .slice none 0 0] 27)).alloc (.cells #[.int .i64 6, .string ⟨#[]⟩, .slice none 0 0, .slice none 0 0, .slice none 0 0, .int .i64 2, .string ⟨#[110]⟩, .slice (some ⟨w.heap.size + 1 + 1 + 1, 0, none⟩) 1 1, .slice none 0 0, .slice none 0 0] 39) = Y ∧ Keeps (fun _ => False) w Y ∧ Y.cell? ⟨w.heap.size + 1, 0, none⟩ = some (.slice (some ⟨w.heap.size, 0, none⟩) 1 1) ∧ FldsAt Y (.slice (some ⟨w.heap.size, 0, none⟩) 1 1) worksS ∧ SlS anyZ Y 0 (.slice (some ⟨w.heap.size + 1 + 1 + 1 + 1, 0, none⟩) 2 2) worksL ∧ w.heap.size + 1 < Y.heap.size := by
  have f1 : FldsAt (w.alloc (.cells #[.string ⟨#[110]⟩, .int .i64 1, .bool false] 47)) (.slice (some ⟨w.heap.size, 0, none⟩) 1 1) worksS := rowAt_own (World.ownsRow_lit (base := 0) (e := 47) (size := 3) w #[.string ⟨#[110]⟩, .int .i64 1, .bool false] 1 (Nat.zero_le _) (by unfold maxLen; omega) rfl)
  have kY : Keeps (fun _ => False) (w.alloc (.cells #[.string ⟨#[110]⟩, .int .i64 1, .bool false] 47)) (((((w.alloc (.cells #[.string ⟨#[110]⟩, .int .i64 1, .bool false] 47)).alloc (.cells #[.slice (some ⟨w.heap.size, 0, none⟩) 1 1] 24)).alloc (.cells #[.int .i64 1, .int .i64 5, .string ⟨#[]⟩, .slice none 0 0] 27)).alloc (.cells #[.int .i64 1, .int .i64 5, .string ⟨#[]⟩, .slice none 0 0] 27)).alloc (.cells #[.int .i64 6, .string ⟨#[]⟩, .slice none 0 0, .slice none 0 0, .slice none 0 0, .int .i64 2, .string ⟨#[110]⟩, .slice (some ⟨w.heap.size + 1 + 1 + 1, 0, none⟩) 1 1, .slice none 0 0, .slice none 0 0] 39)) := ((((Keeps.refl _ _).alloc _).alloc _).alloc _).alloc _
  have bS : (((((w.alloc (.cells #[.string ⟨#[110]⟩, .int .i64 1, .bool false] 47)).alloc (.cells #[.slice (some ⟨w.heap.size, 0, none⟩) 1 1] 24)).alloc (.cells #[.int .i64 1, .int .i64 5, .string ⟨#[]⟩, .slice none 0 0] 27)).alloc (.cells #[.int .i64 1, .int .i64 5, .string ⟨#[]⟩, .slice none 0 0] 27)).alloc (.cells #[.int .i64 6, .string ⟨#[]⟩, .slice none 0 0, .slice none 0 0, .slice none 0 0, .int .i64 2, .string ⟨#[110]⟩, .slice (some ⟨w.heap.size + 1 + 1 + 1, 0, none⟩) 1 1, .slice none 0 0, .slice none 0 0] 39)).heap[w.heap.size + 1]? = some (.cells #[.slice (some ⟨w.heap.size, 0, none⟩) 1 1] 24) := (((((Keeps.refl (fun _ => False) _).alloc _).alloc _).alloc _).block _ (by simp) id).trans (alloc_at _ _ _ (by simp))
  have bX : (((((w.alloc (.cells #[.string ⟨#[110]⟩, .int .i64 1, .bool false] 47)).alloc (.cells #[.slice (some ⟨w.heap.size, 0, none⟩) 1 1] 24)).alloc (.cells #[.int .i64 1, .int .i64 5, .string ⟨#[]⟩, .slice none 0 0] 27)).alloc (.cells #[.int .i64 1, .int .i64 5, .string ⟨#[]⟩, .slice none 0 0] 27)).alloc (.cells #[.int .i64 6, .string ⟨#[]⟩, .slice none 0 0, .slice none 0 0, .slice none 0 0, .int .i64 2, .string ⟨#[110]⟩, .slice (some ⟨w.heap.size + 1 + 1 + 1, 0, none⟩) 1 1, .slice none 0 0, .slice none 0 0] 39)).heap[w.heap.size + 1 + 1 + 1]? = some (.cells #[.int .i64 1, .int .i64 5, .string ⟨#[]⟩, .slice none 0 0] 27) := (((Keeps.refl (fun _ => False) _).alloc _).block _ (by simp) id).trans (alloc_at _ _ _ (by simp))
  have bP : (((((w.alloc (.cells #[.string ⟨#[110]⟩, .int .i64 1, .bool false] 47)).alloc (.cells #[.slice (some ⟨w.heap.size, 0, none⟩) 1 1] 24)).alloc (.cells #[.int .i64 1, .int .i64 5, .string ⟨#[]⟩, .slice none 0 0] 27)).alloc (.cells #[.int .i64 1, .int .i64 5, .string ⟨#[]⟩, .slice none 0 0] 27)).alloc (.cells #[.int .i64 6, .string ⟨#[]⟩, .slice none 0 0, .slice none 0 0, .slice none 0 0, .int .i64 2, .string ⟨#[110]⟩, .slice (some ⟨w.heap.size + 1 + 1 + 1, 0, none⟩) 1 1, .slice none 0 0, .slice none 0 0] 39)).heap[w.heap.size + 1 + 1 + 1 + 1]? = some (.cells #[.int .i64 6, .string ⟨#[]⟩, .slice none 0 0, .slice none 0 0, .slice none 0 0, .int .i64 2, .string ⟨#[110]⟩, .slice (some ⟨w.heap.size + 1 + 1 + 1, 0, none⟩) 1 1, .slice none 0 0, .slice none 0 0] 39) := alloc_at _ _ _ (by simp)
  have f2 := f1.keepF kY
  have kw : Keeps (fun _ => False) w (((((w.alloc (.cells #[.string ⟨#[110]⟩, .int .i64 1, .bool false] 47)).alloc (.cells #[.slice (some ⟨w.heap.size, 0, none⟩) 1 1] 24)).alloc (.cells #[.int .i64 1, .int .i64 5, .string ⟨#[]⟩, .slice none 0 0] 27)).alloc (.cells #[.int .i64 1, .int .i64 5, .string ⟨#[]⟩, .slice none 0 0] 27)).alloc (.cells #[.int .i64 6, .string ⟨#[]⟩, .slice none 0 0, .slice none 0 0, .slice none 0 0, .int .i64 2, .string ⟨#[110]⟩, .slice (some ⟨w.heap.size + 1 + 1 + 1, 0, none⟩) 1 1, .slice none 0 0, .slice none 0 0] 39)) := ((Keeps.refl _ _).alloc _).trans kY
  generalize ((((w.alloc (.cells #[.string ⟨#[110]⟩, .int .i64 1, .bool false] 47)).alloc (.cells #[.slice (some ⟨w.heap.size, 0, none⟩) 1 1] 24)).alloc (.cells #[.int .i64 1, .int .i64 5, .string ⟨#[]⟩, .slice none 0 0] 27)).alloc (.cells #[.int .i64 1, .int .i64 5, .string ⟨#[]⟩, .slice none 0 0] 27)).alloc (.cells #[.int .i64 6, .string ⟨#[]⟩, .slice none 0 0, .slice none 0 0, .slice none 0 0, .int .i64 2, .string ⟨#[110]⟩, .slice (some ⟨w.heap.size + 1 + 1 + 1, 0, none⟩) 1 1, .slice none 0 0, .slice none 0 0] 39) = Y at *
  refine ⟨Y, rfl, kw, (cell_of_blk bS 0).trans rfl, f2, ?_, lt_of_block bS⟩
  have cx := fun j => cell_of_blk bX j
  have cp := fun j => cell_of_blk bP j
  have hx : SlE anyZ Y (w.heap.size + 1 + 1 + 1 + 1) (.slice (some ⟨w.heap.size + 1 + 1 + 1, 0, none⟩) 1 1) (.cons 1 5 [] .nil .nil) :=
    ⟨_, 1, rfl, Nat.le_refl _, fun _ => ⟨_, 0, rfl, trivial, lt_of_block bX, trivial, (cx 0).trans rfl, (cx 1).trans rfl, (cx 2).trans rfl, ⟨none, 0, (cx 3).trans rfl, Nat.le_refl _, fun h => absurd rfl h⟩, trivial⟩⟩
  exact ⟨_, 2, rfl, Nat.le_refl _, fun _ => ⟨_, 0, rfl, trivial, lt_of_block bP, trivial, (cp 0).trans rfl, (cp 1).trans rfl, ⟨_, (cp 2).trans rfl, nilE _ _ _⟩, ⟨none, 0, (cp 3).trans rfl, Nat.le_refl _, fun h => absurd rfl h⟩, ⟨none, 0, (cp 4).trans rfl, Nat.le_refl _, fun h => absurd rfl h⟩,
    lt_of_block bP, trivial, (cp 5).trans rfl, (cp 6).trans rfl, ⟨_, (cp 7).trans rfl, hx⟩, ⟨none, 0, (cp 8).trans rfl, Nat.le_refl _, fun h => absurd rfl h⟩, ⟨none, 0, (cp 9).trans rfl, Nat.le_refl _, fun h => absurd rfl h⟩, trivial⟩⟩
set_option maxRecDepth 100000 in
set_option maxHeartbeats 2000000 in
theorem works_v (w : World) (hT : Types w) (hF : Forms w) : Calls Tryz.prog 11 #[] w fun e w' => e = .returned (.bool true) ∧ Keeps (fun _ => False) w w' := by
  obtain ⟨Y, hY, kY, cS, fS, pS, lS⟩ := worksY w
  have h1 := mrun_v anyZ worksS worksL (by decide) false [] (.slice (some ⟨w.heap.size, 0, none⟩) 1 1) (.slice none 0 0) (.slice (some ⟨w.heap.size + 1 + 1 + 1 + 1, 0, none⟩) 2 2) Y 0 (hT.keepF kY) (hF.keepF kY) fS (nil_vals Y) pS
  rw [works_one] at h1
  have HC1 := hide h1
  have HC2 : ∀ W' u, Keeps (fun _ => False) Y W' → ValsAt W' u [⟨1, 5, []⟩] → Hid (Calls Tryz.prog 12 #[.agg #[.slice (some ⟨w.heap.size, 0, none⟩) 1 1], .slice (some ⟨w.heap.size + 1 + 1 + 1 + 1, 0, none⟩) 2 2, .agg #[.bool true, u]] W' (RowPost W' ((true, [⟨1, 10, []⟩]), 0))) := fun W' u hk hu => by
    have := mrun_v anyZ worksS worksL (by decide) true [⟨1, 5, []⟩] (.slice (some ⟨w.heap.size, 0, none⟩) 1 1) u (.slice (some ⟨w.heap.size + 1 + 1 + 1 + 1, 0, none⟩) 2 2) W' 0 (hT.keepF (kY.trans hk)) (hF.keepF (kY.trans hk)) (fS.keepF hk) hu (pS.keepF hk)
    rw [works_two] at this
    exact this
  have HKY := hide kY
  clear hT hF h1 fS pS kY
  go_enter Tryz.func11, Tryz.ntmps11
  go_wp2_with fail
  refine (unhide HC1).mono ?_
  rintro e w1 ⟨ao, ac, rfl, hown, hk1⟩
  have hv : ValsAt w1 (.slice ao 1 ac) [⟨1, 5, []⟩] := rowAt_own hown
  obtain ⟨b, off, cp, e1, hb, hc⟩ := hv.cells (by simp)
  simp at e1
  obtain ⟨rfl, rfl⟩ := e1
  have q5 := (hc 0 ⟨1, 5, []⟩ rfl).2.1
  obtain ⟨HB, hxb, hxc⟩ := boxed w1 #[.bool true, .slice (some ⟨b, off, none⟩) 1 ac] 31
  have x0 := hxc 0 (.bool true) rfl
  have x1 := hxc 1 (.slice (some ⟨b, off, none⟩) 1 ac) rfl
  have cS1 := ((hk1.trans (unhide HB)).cell (o := 0) lS id).trans cS
  have HC3 := hide (unhide (HC2 _ _ (hk1.trans (unhide HB)) (hv.keepF (unhide HB))))
  have q5' := ((unhide HB).cell hb id).trans q5
  have HK1 := hide (hk1.trans (unhide HB))
  have hb' := Nat.lt_of_lt_of_le hb (unhide HB).size
  clear hc hxc hown hv hk1 HC1 HC2
  simp only [List.length_singleton]
  go_wp2_with fail
  generalize hW2 : w1.alloc (.cells #[.bool true, .slice (some ⟨b, off, none⟩) 1 ac] 31) = W2 at *
  refine (unhide HC3).mono ?_
  rintro e w3 ⟨ao3, ac3, rfl, hown3, hk3⟩
  have hv3 : ValsAt w3 (.slice ao3 1 ac3) [⟨1, 10, []⟩] := rowAt_own hown3
  obtain ⟨b3, off3, cp3, e3, hb3, hc3⟩ := hv3.cells (by simp)
  simp at e3
  obtain ⟨rfl, rfl⟩ := e3
  have p10 := (hc3 0 ⟨1, 10, []⟩ rfl).2.1
  obtain ⟨HB3, hyb, hyc⟩ := boxed w3 #[.bool true, .slice (some ⟨b3, off3, none⟩) 1 ac3] 31
  have y0 := hyc 0 (.bool true) rfl
  have y1 := hyc 1 (.slice (some ⟨b3, off3, none⟩) 1 ac3) rfl
  have hk4 := hk3.trans (unhide HB3)
  have z0 := (hk4.cell (o := 0) hxb id).trans x0
  have z1 := (hk4.cell (o := 1) hxb id).trans x1
  have z5 := (hk4.cell hb' id).trans q5'
  have z10 := ((unhide HB3).cell hb3 id).trans p10
  have HK4 := hide ((unhide HKY).trans ((unhide HK1).trans hk4))
  clear hc3 hyc hown3 hv3 hk3 hk4 q5 q5' p10 x0 x1 HC3 HK1 cS1
  simp only [List.length_singleton, Nat.zero_mul, Nat.add_zero] at z5 z10 ⊢
  generalize hW4 : w3.alloc (.cells #[.bool true, .slice (some ⟨b3, off3, none⟩) 1 ac3] 31) = W4 at *
  go_wp2_with fail
  go_ret
  exact ⟨by rfl, unhide HK4⟩
end Go.Proofs.YtiinohibmcefkaaGreatDoor
namespace Go.Proofs.YtiinohibmcefkaaGreatDoor
open Go.RowKit Go.Maps

theorem chain_ok {S : List FieldA} {ls : List SL} {h : Bool} {vals : List ValA} : (chainP S ls h vals).2 = 0 → errS S = 0 ∧ firstE S ls = 0 ∧ rowE S h vals = 0 ∧ chainP S ls h vals = (ls.foldl (fun r l => runS S l r) (h, vals), 0) := by
  unfold chainP
  split
  · intro h0; exact absurd h0 ‹_›
  · split
    · intro h0; exact absurd h0 ‹_›
    · split
      · intro h0; exact absurd h0 ‹_›
      · intro _
        refine ⟨by simpa using ‹¬ errS S ≠ 0›, by simpa using ‹¬ firstE S ls ≠ 0›, by simpa using ‹¬ rowE S h vals ≠ 0›, rfl⟩
theorem firstE_one {S : List FieldA} {p : SL} : firstE S [p] = (checkP S p).1 := by
  simp only [firstE]
  split
  · exact (‹(checkP S p).1 = 0›).symm
  · rfl
theorem foldS_fit {S : List FieldA} (hS : schemaB S = true) : ∀ (ls : List SL) (r : Bool × List ValA), (∀ l ∈ ls, (checkP S l).1 = 0) → RowFit S r.1 r.2 → RowFit S (ls.foldl (fun r l => runS S l r) r).1 (ls.foldl (fun r l => runS S l r) r).2
  | [], _, _, hr => hr
  | l :: ls, r, h, hr => by
    obtain ⟨_, hw, ho⟩ := check_ok (h l (by simp))
    exact foldS_fit hS ls _ (fun m hm => h m (by simp [hm])) (run_fit hS l r hw ho hr)
theorem firstE_all {S : List FieldA} : ∀ {ls : List SL}, firstE S ls = 0 → ∀ l ∈ ls, (checkP S l).1 = 0
  | [], _, l, hl => by simp at hl
  | a :: r, h, l, hl => by
    simp only [firstE] at h
    split at h
    · rcases List.mem_cons.1 hl with rfl | hl
      · assumption
      · exact firstE_all h l hl
    · exact absurd h ‹_›
theorem fit_len {S : List FieldA} (hS : schemaB S = true) {h : Bool} {vals : List ValA} (hr : RowFit S h vals) : vals.length ≤ 8 := by
  unfold RowFit at hr
  split at hr
  · rw [hr.1]; exact (schemaB_len hS).2
  · rw [hr]; simp
/-- A row that comes out of Chain is short. -/
theorem chain_len (S : List FieldA) (ls : List SL) (h : Bool) (vals : List ValA) : (chainP S ls h vals).1.2.length ≤ 8 := by
  by_cases h0 : (chainP S ls h vals).2 = 0
  · obtain ⟨h1, h2, h3, h4⟩ := chain_ok h0
    rw [h4]
    rcases errS_eq S with ⟨hs, _⟩ | ⟨_, he⟩
    · exact fit_len hs (foldS_fit hs ls _ (firstE_all h2) (rowE_fit h3))
    · rw [he] at h1; cases h1
  · unfold chainP at h0 ⊢
    split at h0
    · rw [if_pos ‹_›]; simp
    · rw [if_neg ‹_›]
      split at h0
      · rw [if_pos ‹_›]; simp
      · rw [if_neg ‹_›]
        split at h0
        · rw [if_pos ‹_›]; simp
        · exact absurd rfl h0
end Go.Proofs.YtiinohibmcefkaaGreatDoor
namespace Go.Proofs.YtiinohibmcefkaaGreatDoor
open Go.RowKit Go.Maps

/-- A row in a box. -/
theorem row_box {w : World} {B : Nat} {h : Bool} {ao : Option Addr} {c : Nat} {l : List ValA} (ho : w.ownsRow B 41 3 (.slice ao l.length c) l.length (vcs l)) :
    ∀ W' : World, Keeps (fun _ => False) (w.alloc (.cells #[.bool h, .slice ao l.length c] 31)) W' → W'.cell? ⟨w.heap.size, 0, none⟩ = some (.bool h) ∧ W'.cell? ⟨w.heap.size, 1, none⟩ = some (.slice ao l.length c) ∧ Hid (ValsAt W' (.slice ao l.length c) l) := fun W' hk => by
  obtain ⟨HB, hb, hc⟩ := boxed w #[.bool h, .slice ao l.length c] 31
  exact ⟨(hk.cell (o := 0) hb id).trans (hc 0 _ rfl), (hk.cell (o := 1) hb id).trans (hc 1 _ rfl), hide ((show ValsAt w _ _ from rowAt_own ho).keepF ((unhide HB).trans hk))⟩
end Go.Proofs.YtiinohibmcefkaaGreatDoor
namespace Go.Proofs.YtiinohibmcefkaaGreatDoor
open Go.RowKit Go.Maps

/-- These cells hold these expressions. -/
def EsIn (Z : Zone) (w : World) : EL → List Value → Prop
  | .nil, xs => xs = []
  | .cons op n s kids r, xs => ∃ kv xs', xs = .int .i64 op :: .int .i64 n :: str s :: kv :: xs' ∧ SlE Z w 0 kv kids ∧ EsIn Z w r xs'
theorem EsIn.argKeep {B : Nat} {F : Nat → Prop} {w w' : World} (hk : Keeps F w w') (hF : ∀ k, F k → B ≤ k) : ∀ {l : EL} {xs : List Value}, EsIn (argZ B) w l xs → EsIn (argZ B) w' l xs
  | .nil, _, h => h
  | .cons _ _ _ _ _, _, ⟨kv, xs', e, h1, h⟩ => ⟨kv, xs', e, h1.argKeep hk hF, h.argKeep hk hF⟩
theorem EsIn.app {Z : Zone} {w : World} : ∀ {l m : EL} {xs ys : List Value}, EsIn Z w l xs → EsIn Z w m ys → EsIn Z w (l.app m) (xs ++ ys)
  | .nil, _, _, _, h, h2 => by have h' : _ = _ := h; subst h'; exact h2
  | .cons _ _ _ _ _, _, _, ys, ⟨kv, xs', e, h1, h⟩, hm => ⟨kv, xs' ++ ys, by rw [e]; rfl, h1, h.app hm⟩
theorem SlE.argUp {w : World} {up A : Nat} {Z : Zone} {v : Value} {l : EL} (hA : w.heap.size ≤ A) (up' : Nat) (h : SlE Z w up v l) : SlE (argZ A) w up' v l := by
  obtain ⟨ao, cap, e, hc, hr⟩ := h
  refine ⟨ao, cap, e, hc, fun h0 => ?_⟩
  obtain ⟨b, o, e1, _, hx⟩ := hr h0
  exact ⟨b, o, e1, trivial, hx.arg hA⟩
/-- The cells as expressions in a block. -/
theorem EsIn.exIn {Z : Zone} {w : World} {A b : Nat} (hb : b < w.heap.size) (hA : w.heap.size ≤ A) : ∀ {l : EL} {xs : List Value} {o : Nat}, EsIn Z w l xs → (∀ j x, xs[j]? = some x → w.cell? ⟨b, o + j, none⟩ = some x) → ExIn (argZ A) w l b o
  | .nil, _, _, _, _ => trivial
  | .cons op n s kids r, _, o, ⟨kv, xs', ee, h1, h4⟩, hc => by
    subst ee
    obtain ⟨ao, cap, et, hcap, hr⟩ := h1.argUp hA b
    refine ⟨hb, Nat.lt_of_lt_of_le hb hA, hc 0 _ rfl, hc 1 _ rfl, hc 2 _ rfl, ⟨ao, cap, by rw [← et]; exact hc 3 _ rfl, hcap, hr⟩, EsIn.exIn hb hA h4 (fun j x hx => ?_)⟩
    rw [show o + 4 + j = o + (j + 4) by omega]
    exact hc (j + 4) x (by simpa using hx)
theorem app_oneX (pre : EL) (op n : Int) (s : Txt) (kids rest : EL) : (pre.app (.cons op n s kids .nil)).app rest = pre.app (.cons op n s kids rest) := by rw [EL.app_assoc]; rfl
theorem Tryz.infoE : (Tryz.prog.info? 27).map (fun i => (i.zero, i.size, i.bytes)) = some (some (.agg #[.int .i64 0, .int .i64 0, .string ⟨#[]⟩, .slice none 0 0]), 4, 56) := by kernel_rfl
theorem EL.lenApp : ∀ l m : EL, (l.app m).len = l.len + m.len
  | .nil, _ => by simp [EL.app, EL.len]
  | .cons o n s k r, m => by simp [EL.app, EL.len, EL.lenApp r m]; omega
theorem EL.appNil : ∀ l : EL, l.app .nil = l
  | .nil => rfl
  | .cons o n s k r => by simp [EL.app, EL.appNil r]
theorem set4b {W : World} {R : Nat} {c0 c1 c2 c3 : Value} {t : TypeId} (h : W.heap[R]? = some (.cells #[c0, c1, c2, c3] t (0, 0))) (x y z u : Value) :
    ((((W.setCell ⟨R, 0, none⟩ x).setCell ⟨R, 1, none⟩ y).setCell ⟨R, 2, none⟩ z).setCell ⟨R, 3, none⟩ u).heap[R]? = some (.cells #[x, y, z, u] t (0, 0)) := heap_setCell_at (o := 3) (heap_setCell_at (o := 2) (heap_setCell_at (o := 1) (heap_setCell_at (o := 0) h x) y) z) u
theorem keeps_set4 (w : World) (b : Nat) (x y z u : Value) : Keeps (fun q => q = b) w ((((w.setCell ⟨b, 0, none⟩ x).setCell ⟨b, 1, none⟩ y).setCell ⟨b, 2, none⟩ z).setCell ⟨b, 3, none⟩ u) := (((keeps_set w b 0 x).trans (keeps_set _ b 1 y)).trans (keeps_set _ b 2 z)).trans (keeps_set _ b 3 u)
set_option maxRecDepth 100000 in
set_option maxHeartbeats 4000000 in
/-- An operation on some expressions. -/
theorem op_v (B : Nat) (k : Int) (l : EL) (hls : l.len ≤ 1000) (v : Value) (w : World) (hB : B ≤ w.heap.size) (hx : SlE (argZ B) w 0 v l) :
    Calls Tryz.prog 18 #[.int .i64 k, v] w fun e w' => ∃ ao c, e = .returned (exV k 0 [] (.slice ao l.len c)) ∧ SlE (argZ w'.heap.size) w' 0 (.slice ao l.len c) l ∧ Keeps (fun _ => False) w w' := by
  obtain ⟨i0, hi, hz0, hz1, hz2⟩ := info_parts Tryz.infoE
  obtain ⟨pao, pcap, pb, poff, rfl, hpcap, hpa, hpx⟩ := hx.open
  obtain ⟨X, hX⟩ : ∃ X, w.alloc (.cells #[.int .i64 0, .int .i64 0, .string ⟨#[]⟩, .slice none 0 0] 27) = X := ⟨_, rfl⟩
  have PK : Keeps (fun _ => False) w X := hX ▸ (Keeps.refl _ w).alloc _
  have P0 : X.heap[w.heap.size]? = some (.cells #[.int .i64 0, .int .i64 0, .string ⟨#[]⟩, .slice none 0 0] 27 (0, 0)) := hX ▸ heap_alloc_new w _
  have HPK := hide PK
  have HP0 := hide P0
  have HpX := hide hpx
  have HpA := hide hpa
  clear hx hpx hpa PK P0
  go_enter Tryz.func18, Tryz.ntmps18
  go_wp2_with fail
  go_loopw [5, 6] (fun o i wr => ∃ (pre rest : EL) (k : Nat) (xs : List Value), i = .int .i64 k ∧ l = pre.app rest ∧ k = pre.len ∧ wr.ownsRow X.heap.size 27 4 o k xs ∧ EsIn (argZ B) wr pre xs ∧ Keeps (fun _ => False) X wr ∧ ExIn (argZ B) w rest pb (poff + k * 4)) (fun _ i _ => l.len - (intOf i).toNat)
  case atStart => exact ⟨.nil, l, 0, [], rfl, rfl, rfl, World.ownsRow_nil X X.heap.size 27 4, rfl, Keeps.refl _ _, by simpa using unhide HpX⟩
  case round =>
    obtain ⟨pre, rest, j, xs, rfl, happ, hkp, hown, hss, hkeep, hr⟩ := hrel
    obtain ⟨oo, oc, rfl⟩ := (rowAt_own hown).form
    have hll := congrArg EL.len happ
    rw [EL.lenApp] at hll
    have HO := hide hown
    have HSS := hide hss
    have HK := hide hkeep
    have HKw := hide ((unhide HPK).trans hkeep)
    cases rest with
    | cons op n s kids rest =>
      obtain ⟨h1, h2, h3, h4, h5, ⟨xao, xcap, h6, h7, h8⟩, h9⟩ := hr
      simp only [EL.len] at hll
      obtain ⟨rfl, hp'⟩ := (unhide HpA) (by omega)
      have HXS : Hid (SlE (argZ B) w pb (.slice xao kids.len xcap) kids) := ⟨xao, xcap, rfl, h7, h8⟩
      have HR := hide h9
      have i1 : (j : Int) < (l.len : Int) := by omega
      have ix0 : (0 : Int) ≤ (j : Int) := by omega
      have q0 := ((unhide HKw).cell h1 id).trans h3
      have q1 := ((unhide HKw).cell h1 id).trans h4
      have q2 := ((unhide HKw).cell h1 id).trans h5
      have q3 := ((unhide HKw).cell h1 id).trans h6
      have HNB := hide (heap_alloc_new wr (.cells #[.int .i64 op, .int .i64 n, str s, .slice xao kids.len xcap] 27))
      have HOX := hide (ownsRow_kept hown ((Keeps.refl (fun _ => False) wr).alloc (.cells #[.int .i64 op, .int .i64 n, str s, .slice xao kids.len xcap] 27)) (fun _ _ => id))
      have HB0 : Hid (X.heap.size ≤ wr.heap.size) := hkeep.size
      have HKP := hide hkp
      have HAPP := hide happ
      have hj : j ≤ 1000 := by omega
      clear hown hss hkeep h1 h2 h3 h4 h5 h6 h8 h9 happ hkp
      go_wp2_with (at_builtin; refine wpList_append_lies _ rfl _ _ _ rfl X.heap.size 27 i0 _ 4 56 Tryz.underlying25 hi hz0 hz1 hz2 rfl (by omega) (.slice oo j oc) j xs rfl (unhide HOX) ⟨wr.heap.size, 0, none⟩ 1 1 [.int .i64 op, .int .i64 n, str s, .slice xao kids.len xcap] rfl rfl (World.news_of_block (cs := #[.int .i64 op, .int .i64 n, str s, .slice xao kids.len xcap]) (t := 27) (fr := (0, 0)) (unhide HNB)) (by simp [Value.oneCell']) (by omega) (by unfold maxLen; omega) (by omega) (by have := unhide HB0; simp; omega) (wr.heap.size + 1) (by simp) ?_; intro g6 c6 w6 hown6 hgrow _ _; have HO6 := hide hown6; have HGR := hide hgrow; clear hown6 hgrow)
      go_roundw
      case rel =>
        have hF : ∀ q, X.heap.size ≤ q → B ≤ q := fun q h => Nat.le_trans hB (Nat.le_trans (unhide HPK).size h)
        have kr6 : Keeps (fun q => X.heap.size ≤ q) wr w6 := ((Keeps.refl _ wr).alloc _).grown (unhide HGR) (fun q e _ => ((unhide HO).lt q e).1)
        have kX6 : Keeps (fun q => X.heap.size ≤ q) X w6 := (unhide HK).any.trans kr6
        have kw6 : Keeps (fun q => X.heap.size ≤ q) w w6 := (unhide HPK).any.trans kX6
        have s1 := (unhide HSS).argKeep kr6 hF
        have s2 : EsIn (argZ B) w6 (.cons op n s kids .nil) [.int .i64 op, .int .i64 n, str s, .slice xao kids.len xcap] := ⟨_, [], rfl, ((unhide HXS).argKeep kw6 hF).anyUp 0, rfl⟩
        refine ⟨pre.app (.cons op n s kids .nil), rest, j + 1, by go_num, by rw [app_oneX]; exact unhide HAPP, by rw [EL.lenApp, unhide HKP]; rfl, _, unhide HO6, s1.app s2, kX6.mono (fun q hq e => by have e' : X.heap.size ≤ q := e; omega), ?_⟩
        rw [show poff + (j + 1) * 4 = poff + j * 4 + 4 by omega]
        exact unhide HR
      case measure => simp [intOf]; omega
    | nil =>
      rw [EL.appNil] at happ
      subst happ
      simp only [EL.len, Nat.add_zero] at hll
      have i1 : ¬ (j : Int) < (l.len : Int) := by omega
      subst hkp
      have HZ := hide ((hkeep.block _ (lt_of_block (unhide HP0)) id).trans (unhide HP0))
      have m0 := (cell_of_blk (unhide HZ) 0).trans rfl
      have m1 := (cell_of_blk (unhide HZ) 1).trans rfl
      have m2 := (cell_of_blk (unhide HZ) 2).trans rfl
      have m3 := (cell_of_blk (unhide HZ) 3).trans rfl
      have g0 := frozen_of_blk (unhide HZ) 0
      have g1 := frozen_of_blk (unhide HZ) 1
      have g2 := frozen_of_blk (unhide HZ) 2
      have g3 := frozen_of_blk (unhide HZ) 3
      have z := set4b (unhide HZ) (.int .i64 k) (.int .i64 0) (.string ⟨#[]⟩) (.slice oo l.len oc)
      have o0 := (cell_of_blk z 0).trans rfl
      have o1 := (cell_of_blk z 1).trans rfl
      have o2 := (cell_of_blk z 2).trans rfl
      have o3 := (cell_of_blk z 3).trans rfl
      have HFIN : Hid (SlE (argZ ((((wr.setCell ⟨w.heap.size, 0, none⟩ (.int .i64 k)).setCell ⟨w.heap.size, 1, none⟩ (.int .i64 0)).setCell ⟨w.heap.size, 2, none⟩ (.string ⟨#[]⟩)).setCell ⟨w.heap.size, 3, none⟩ (.slice oo l.len oc)).heap.size) ((((wr.setCell ⟨w.heap.size, 0, none⟩ (.int .i64 k)).setCell ⟨w.heap.size, 1, none⟩ (.int .i64 0)).setCell ⟨w.heap.size, 2, none⟩ (.string ⟨#[]⟩)).setCell ⟨w.heap.size, 3, none⟩ (.slice oo l.len oc)) 0 (.slice oo l.len oc) l) := by
        have kq := keeps_set4 wr w.heap.size (.int .i64 k) (.int .i64 0) (.string ⟨#[]⟩) (.slice oo l.len oc)
        have hs := (unhide HSS).argKeep kq (fun q e => by omega)
        have hlt := (lt_of_block (unhide HP0))
        have ho := ownsRow_kept hown kq (fun q e hq => by have := (hown.lt q e).1; omega)
        refine ⟨oo, oc, rfl, (rowAt_own ho).room _ _ _ rfl, fun h0 => ?_⟩
        obtain ⟨g, goff, gc, e, hg, hgc⟩ := (rowAt_own ho).cells (by omega)
        simp at e
        obtain ⟨rfl, rfl⟩ := e
        exact ⟨g, goff, rfl, trivial, hs.exIn hg (Nat.le_refl _) hgc⟩
      have HKF : Hid (Keeps (fun _ => False) w ((((wr.setCell ⟨w.heap.size, 0, none⟩ (.int .i64 k)).setCell ⟨w.heap.size, 1, none⟩ (.int .i64 0)).setCell ⟨w.heap.size, 2, none⟩ (.string ⟨#[]⟩)).setCell ⟨w.heap.size, 3, none⟩ (.slice oo l.len oc))) := (unhide HKw).narrow (keeps_set4 _ _ _ _ _ _) (fun q e => by omega)
      clear hown hss hkeep hr hll z
      go_wp2_with fail
      refine bodyPost_ret (v := exV k 0 [] (.slice oo l.len oc)) (by simp [results, go_sem, o0, o1, o2, o3, exV]) rfl ?_
      exact ⟨oo, oc, rfl, unhide HFIN, unhide HKF⟩
end Go.Proofs.YtiinohibmcefkaaGreatDoor
namespace Go.Proofs.YtiinohibmcefkaaGreatDoor
open Go.RowKit Go.Maps

set_option maxRecDepth 100000 in
theorem near44 (w : World) (c : Nat) (n : Int) (d : Bool) (h : w.cell? ⟨c, 0, none⟩ = some (.int .i64 n)) :
    Calls Tryz.prog 38 #[.pointer (some ⟨c, 0, none⟩), .bool d] w fun e w' => e = .returned (.bool (d || decide (67108864 < n))) ∧ Keeps (fun _ => False) w w' := by
  go_enter Tryz.func38, Tryz.ntmps38
  cases d with
  | true =>
    go_wp2_with fail
    go_ret
    exact ⟨by first | rfl | simp, Keeps.refl _ _⟩
  | false =>
    go_wp2_with fail
    go_ret
    exact ⟨by first | rfl | simp, Keeps.refl _ _⟩
set_option maxRecDepth 100000 in
set_option maxHeartbeats 800000 in
/-- Would the expressions be too great, if more were built round them? -/
theorem near_v (B up : Nat) (l : EL) (v : Value) (w : World) (hB : B ≤ w.heap.size) (hS : SlE (argZ B) w up v l) :
    Calls Tryz.prog 9 #[v] w fun e w' => ∃ r : Bool, e = .returned (.bool r) ∧ Keeps (fun _ => False) w w' ∧ (r = false → l.size ≤ 67108864) := by
  have HS := hide (hS.keepF ((Keeps.refl _ w).alloc (.cells #[.int .i64 0] 80)))
  have HK : Hid (Keeps (fun _ => False) w (w.alloc (.cells #[.int .i64 0] 80))) := hide ((Keeps.refl _ w).alloc _)
  obtain ⟨ao, cap, rfl, hc⟩ := hS.head
  clear hS
  go_enter Tryz.func9, Tryz.ntmps9
  go_wp2_with fail
  refine (parts_exprs B w.heap.size hB (l.size + 1) l (by omega) _ up _ 0 65528 (unhide HS) (heap_alloc_new w _) (by omega) (by omega) (by omega) (by omega)).mono ?_
  rintro e w1 ⟨r, n1, rfl, hc1, hk1, hn1, hr1⟩
  have m0 := (cell_of_blk hc1 0).trans rfl
  have HKE := hide (keeps_new (unhide HK) hk1)
  have HR1 := hide hr1
  clear hc1 hk1 hr1 HS
  cases r with
  | true =>
    go_wp2_with fail
    refine (near44 w1 w.heap.size n1 true m0).mono ?_
    rintro e w2 ⟨rfl, hk2⟩
    have HK2 := hide ((unhide HKE).trans hk2)
    clear hk2
    go_wp2_with fail
    go_ret
    exact ⟨true, by first | rfl | simp, unhide HK2, fun h => by cases h⟩
  | false =>
    go_wp2_with fail
    refine (near44 w1 w.heap.size n1 false m0).mono ?_
    rintro e w2 ⟨rfl, hk2⟩
    have HK2 := hide ((unhide HKE).trans hk2)
    clear hk2
    go_wp2_with fail
    go_ret
    exact ⟨decide (67108864 < n1), by first | rfl | simp, unhide HK2, fun h => by have := (unhide HR1 (by first | rfl | trivial)).1; have h2 : ¬ (67108864 < n1) := by simpa using h
                                                                                  omega⟩
end Go.Proofs.YtiinohibmcefkaaGreatDoor
namespace Go.Proofs.YtiinohibmcefkaaGreatDoor
open Go.ChangeShapes Go.WideShapes Go.ChangeAt Go.RowKit Go.Deep

theorem e31 : Tryz.prog.cellsOf 31 = 2 := by kernel_rfl
theorem e29 : Tryz.prog.cellsOf 29 = 1 := by kernel_rfl
/-- Ints of 64 bits. -/
def I64 (n : Int) : Prop := -9223372036854775808 ≤ n ∧ n ≤ 9223372036854775807
theorem i64_of {n : Int} (h : (Lit.int .i64 n).wf = true) : I64 n := by
  have h2 : IntKind.i64.min ≤ n ∧ n ≤ IntKind.i64.max := by simpa [Lit.wf] using h
  have a : IntKind.i64.min = -9223372036854775808 := by decide +kernel
  have b : IntKind.i64.max = 9223372036854775807 := by decide +kernel
  rw [a, b] at h2
  exact h2
theorem e40 : Tryz.prog.cellsOf 41 = 3 := by kernel_rfl
instance : Inhabited ValA := ⟨⟨0, 0, []⟩⟩
theorem vcs_at : ∀ (l : List ValA) (j : Nat), (vcs l)[j]? = (l[j / 3]?).bind fun x => x.cs[j % 3]?
  | [], j => by simp [vcs]
  | y :: r, j => by
    have e : vcs (y :: r) = y.cs ++ vcs r := rfl
    have hy : y.cs.length = 3 := rfl
    rw [e]
    by_cases h : j < 3
    · rw [List.getElem?_append_left (by rw [hy]; exact h), Nat.div_eq_of_lt h, Nat.mod_eq_of_lt h]
      rfl
    · rw [List.getElem?_append_right (by rw [hy]; omega), hy, vcs_at r (j - 3)]
      have h1 : j / 3 = (j - 3) / 3 + 1 := by omega
      have h2 : j % 3 = (j - 3) % 3 := by omega
      rw [h1, h2]
      rfl
section
variable {H : Type} {enc : TypeId × Value → H} {W : World}
set_option maxRecDepth 100000 in
theorem val_read {fuel : Nat} {cs : List Value} {x : DataW H × List MemPlace} (h : DataW.trod enc Tryz.prog W 0 (fun _ => true) true fuel 41 cs = some x) : ∃ f : ValA, cs = f.cs ∧ I64 f.n := by
  obtain ⟨xs, m, hm, _, hl, hlen, hf⟩ := DataW.trod_struct Tryz.underlying41 h
  have hl' : cs.length = 3 := hl.trans e40
  match xs, hlen, cs, hl' with
  | [y0, y1, y2], _, [c0, c1, c2], _ =>
    have h0 : DataW.trod enc Tryz.prog W 0 (fun _ => true) true m 3 (([c0, c1, c2].drop 0).take (Tryz.prog.cellsOf 3)) = some y0 := hf 0 _ rfl
    have h1 : DataW.trod enc Tryz.prog W 0 (fun _ => true) true m 2 (([c0, c1, c2].drop 1).take (Tryz.prog.cellsOf 2)) = some y1 := hf 1 _ rfl
    have h2 : DataW.trod enc Tryz.prog W 0 (fun _ => true) true m 9 (([c0, c1, c2].drop 2).take (Tryz.prog.cellsOf 9)) = some y2 := hf 2 _ rfl
    rw [e3] at h0
    rw [e2] at h1
    rw [e9] at h2
    simp only [List.drop_zero, List.take_succ_cons, List.take_zero, List.drop_succ_cons] at h0 h1 h2
    obtain ⟨k, q0, _, _⟩ := DataW.trod_int Tryz.underlying3 h0
    obtain ⟨i, q1, _, w1⟩ := DataW.trod_int Tryz.underlying2 h1
    obtain ⟨s, q2, _, _⟩ := DataW.trod_string Tryz.underlying9 h2
    simp at q0 q1 q2
    exact ⟨⟨k, i, s.data.toList⟩, by rw [q0, q1, q2, str_of]; rfl, i64_of w1⟩
set_option maxRecDepth 100000 in
/-- The values that came in. -/
theorem vals_in {fuel : Nat} {c0 : Value} {x : DataW H × List MemPlace} (h0 : DataW.trod enc Tryz.prog W 0 (fun _ => true) true fuel 29 [c0] = some x) : ∃ l : List ValA, ValsAt W c0 l ∧ ∀ x ∈ l, I64 x.n := by
  rcases slice_read Tryz.underlying29 e40 (by omega) h0 with rfl | ⟨b, off, len, cap, n', spot, rfl, hlc, _, hels⟩
  · exact ⟨[], ⟨⟨_, _, rfl⟩, fun h0 => by simp at h0, fun ao m cap e => by simp at e; omega⟩, by simp⟩
  · have hev : ∀ i, i < len → ∃ f : ValA, (∀ j v, f.cs[j]? = some v → W.cell? ⟨b, off + i * 3 + j, none⟩ = some v) ∧ I64 f.n := fun i hi => by
      obtain ⟨_, _, cs, y, hc, ht, _⟩ := hels i hi
      obtain ⟨f, rfl, hi6⟩ := val_read ht
      exact ⟨f, hc, hi6⟩
    obtain ⟨f, hff⟩ := choose_lt hev
    refine ⟨(List.range len).map f, ⟨⟨_, _, by simp; exact ⟨rfl, rfl⟩⟩, fun h0 => ?_, fun ao m cap e => by simp at e; omega⟩, fun x hx => ?_⟩
    rotate_left
    · simp only [List.mem_map, List.mem_range] at hx
      obtain ⟨i, hi, rfl⟩ := hx
      exact (hff i hi).2
    simp at h0
    obtain ⟨rfl, hb, _⟩ := hels 0 h0
    refine ⟨b, off, cap, by simp, hb, fun j v hv => ?_⟩
    rw [vcs_at] at hv
    cases hi : ((List.range len).map f)[j / 3]? with
    | none => rw [hi] at hv; cases hv
    | some p =>
      rw [hi] at hv
      have hil : j / 3 < len := by
        have := (List.getElem?_eq_some_iff.1 hi).1
        simpa using this
      have hpe : f (j / 3) = p := by simpa [hil] using hi
      have := (hff (j / 3) hil).1 (j % 3) v (by rw [hpe]; exact hv)
      rw [show off + j = off + j / 3 * 3 + j % 3 by omega]
      exact this
set_option maxRecDepth 100000 in
/-- The row that came in. -/
theorem row_in {fuel : Nat} {cs : List Value} {x : DataW H × List MemPlace} (h : DataW.trod enc Tryz.prog W 0 (fun _ => true) true fuel 31 cs = some x) :
    ∃ (hh : Bool) (u : Value) (vals : List ValA), cs = [.bool hh, u] ∧ ValsAt W u vals ∧ ∀ x ∈ vals, I64 x.n := by
  obtain ⟨xs, m, hm, hx, hl, hlen, hf⟩ := DataW.trod_struct Tryz.underlying31 h
  have hl' : cs.length = 2 := hl.trans e31
  match xs, hlen, cs, hl' with
  | [y0, y1], _, [c0, c1], _ =>
    have h0 : DataW.trod enc Tryz.prog W 0 (fun _ => true) true m 4 (([c0, c1].drop 0).take (Tryz.prog.cellsOf 4)) = some y0 := hf 0 _ rfl
    have h1 : DataW.trod enc Tryz.prog W 0 (fun _ => true) true m 29 (([c0, c1].drop 1).take (Tryz.prog.cellsOf 29)) = some y1 := hf 1 _ rfl
    rw [e4] at h0
    rw [e29] at h1
    simp only [List.drop_zero, List.take_succ_cons, List.take_zero, List.drop_succ_cons] at h0 h1
    obtain ⟨o, q0, _⟩ := DataW.trod_bool Tryz.underlying4 h0
    simp at q0
    obtain ⟨l, hl, hi⟩ := vals_in h1
    exact ⟨o, c1, l, by rw [q0], hl, hi⟩
end
end Go.Proofs.YtiinohibmcefkaaGreatDoor
namespace Go.Proofs.YtiinohibmcefkaaGreatDoor
open Go.RowKit Go.Maps

/-- An expression. -/
structure XE where
  op : Int
  n : Int
  s : Txt
  kids : EL
def XE.val (S : List FieldA) (h : Bool) (vals : List ValA) (e : XE) : ValA := nodeV S e.op e.n e.s e.kids h vals
def XE.kind (S : List FieldA) (e : XE) : KA := (kindP S e.op e.s e.kids).1
def XE.ok (S : List FieldA) (e : XE) : Prop := rootB e.op e.n e.s e.kids.len = true ∧ wellE e.kids = true ∧ (kindP S e.op e.s e.kids).2 = 0
def XE.el (e : XE) (r : EL) : EL := .cons e.op e.n e.s e.kids r
def mk2 (k : Int) (a b : XE) : XE := ⟨k, 0, [], a.el (b.el .nil)⟩
theorem ok_fit {S : List FieldA} (hS : schemaB S = true) {h : Bool} {vals : List ValA} (hr : rowE S h vals = 0) {e : XE} (he : e.ok S) : FitK (e.kind S) (e.val S h vals) := node_fit hS (rowE_fit hr) he.1 he.2.1 he.2.2
theorem well_el {e : XE} {r : EL} (h : wellE (e.el r) = true) : rootB e.op e.n e.s e.kids.len = true ∧ wellE e.kids = true ∧ wellE r = true := by
  unfold XE.el at h
  simp only [wellE, Bool.and_eq_true] at h
  exact h
theorem val2 {S : List FieldA} {h : Bool} {vals : List ValA} {k : Int} {a b : XE} (hk : ¬ k ≤ 6) : (mk2 k a b).val S h vals = opV k [a.val S h vals, b.val S h vals] := by
  unfold XE.val mk2 XE.el nodeV
  rw [if_neg hk]
  rfl
/-- A value of int is its number. -/
theorem fit_int {k : KA} {v : ValA} (h : FitK k v) (ht : k.t = 1) (ho : k.o = false) : ∃ x, v = numV x := by
  obtain ⟨hg, hk⟩ := h.plain ho
  rw [ht] at hk
  obtain ⟨vk, vn, vs⟩ := v
  simp only at hk
  subst hk
  rcases hg with ⟨_, hs⟩ | ⟨h2, _⟩ | ⟨h2, _⟩
  · simp only at hs
    subst hs
    exact ⟨vn, rfl⟩
  · simp at h2
  · simp at h2
theorem add_num (x y : Int) : opV 9 [numV x, numV y] = numV (wrap64 (x + y)) := rfl
theorem wrap_eq {x y : Int} (h : ∃ k : Int, x = y + k * 18446744073709551616) : wrap64 x = wrap64 y := by
  obtain ⟨k, rfl⟩ := h
  unfold wrap64
  omega
theorem wrap_off (x : Int) : ∃ k : Int, wrap64 x = x + k * 18446744073709551616 := by
  refine ⟨-((x + 9223372036854775808) / 18446744073709551616), ?_⟩
  unfold wrap64
  omega
theorem wrap_i64 {x : Int} (h : I64 x) : wrap64 x = x := by
  unfold I64 at h
  unfold wrap64
  omega
theorem wrap_in (x : Int) : I64 (wrap64 x) := by
  unfold I64 wrap64
  omega
theorem ring7 (x y z : Int) : wrap64 (wrap64 (x + y) + z) = wrap64 (x + wrap64 (y + z)) := by
  obtain ⟨k, hk⟩ := wrap_off (x + y)
  obtain ⟨j, hj⟩ := wrap_off (y + z)
  exact wrap_eq ⟨k - j, by rw [hk, hj]; omega⟩
/-- The numbers of an expression are ints of 64 bits. -/
def intE : EL → Prop
  | .nil => True
  | .cons _ n _ k r => I64 n ∧ intE k ∧ intE r
theorem tru_in (b : Bool) : I64 (truV b).n := by unfold truV I64; cases b <;> simp
theorem z_in : I64 zV.n := by unfold zV I64; simp
theorem kV_in {l : List ValA} (h : ∀ v ∈ l, I64 v.n) (i : Nat) : I64 (kV l i).n := by
  unfold kV
  rw [List.getD_eq_getElem?_getD]
  cases hi : l[i]? with
  | none => exact z_in
  | some v => exact h v (List.mem_of_getElem? hi)
theorem ite_in {c : Prop} [Decidable c] {a b : ValA} (ha : I64 a.n) (hb : I64 b.n) : I64 (if c then a else b).n := by
  split
  · exact ha
  · exact hb
theorem opV_in (op : Int) {ks : List ValA} (h : ∀ v ∈ ks, I64 v.n) (hs : ∀ v ∈ ks, v.s.length ≤ 20) : I64 (opV op ks).n := by
  have h0 := kV_in h 0
  have h1 := kV_in h 1
  have h2 := kV_in h 2
  have hl := kV_short hs 0
  unfold opV
  repeat' first
    | exact tru_in _
    | exact wrap_in _
    | exact h0
    | exact h1
    | exact h2
    | (show I64 (min _ _); unfold I64 at *; omega)
    | (show I64 (max _ _); unfold I64 at *; omega)
    | (show I64 ((kV ks 0).s.length : Int); unfold I64; omega)
    | (show I64 0; unfold I64; omega)
    | refine ite_in ?_ ?_
theorem zeros_in {S : List FieldA} : ∀ v ∈ zeros S, I64 v.n := by
  intro v hv
  unfold zeros at hv
  obtain ⟨f, _, rfl⟩ := List.mem_map.1 hv
  unfold zeroV I64
  split <;> simp
theorem field_in {S : List FieldA} {h : Bool} {vals : List ValA} (hv : ∀ v ∈ vals, I64 v.n) (nm : Txt) : I64 (fieldV S h vals nm).n := by
  unfold fieldV
  have key : ∀ l : List ValA, (∀ v ∈ l, I64 v.n) → I64 ((l[placeP S nm]?).getD zV).n := fun l hl => by
    cases hi : l[placeP S nm]? with
    | none => exact z_in
    | some v => exact hl v (List.mem_of_getElem? hi)
  cases h with
  | true => exact key vals hv
  | false => exact key (zeros S) zeros_in
theorem leaf_in {S : List FieldA} {h : Bool} {vals : List ValA} (hv : ∀ v ∈ vals, I64 v.n) (op : Int) {n : Int} (hn : I64 n) (s : Txt) : I64 (leafV S h vals op n s).n := by
  unfold leafV
  repeat' split
  all_goals first
    | exact hn
    | exact tru_in _
    | exact field_in hv s
    | (unfold I64 bytV; simp)
theorem vals_in64 {S : List FieldA} {h : Bool} {vals : List ValA} (hr : Rw S h vals) (hv : ∀ v ∈ vals, I64 v.n) : ∀ l : EL, wellE l = true → intE l → ∀ v ∈ valsP S h vals l, I64 v.n
  | .nil, _, _, v, hm => by simp [valsP] at hm
  | .cons op n s kids rest, hw, ⟨hn, hk, hrest⟩, v, hm => by
    simp only [wellE, Bool.and_eq_true] at hw
    rw [valsP_cons] at hm
    rcases List.mem_cons.1 hm with rfl | hm
    · unfold nodeV
      split
      · exact leaf_in hv op hn s
      · exact opV_in op (vals_in64 hr hv kids hw.2.1 hk) (valsP_short hr kids hw.2.1)
    · exact vals_in64 hr hv rest hw.2.2 hrest v hm
def XE.int (e : XE) : Prop := I64 e.n ∧ intE e.kids
theorem val_in {S : List FieldA} {h : Bool} {vals : List ValA} (hr : rowE S h vals = 0) (hv : ∀ v ∈ vals, I64 v.n) {e : XE} (ho : e.ok S) (hi : e.int) : I64 (e.val S h vals).n :=
  vals_in64 (rowE_rw hr) hv (e.el .nil) (by unfold XE.el; simp [wellE, ho.1, ho.2.1]) ⟨hi.1, hi.2, trivial⟩ _ (by unfold XE.el; rw [valsP_cons]; exact List.mem_cons_self ..)
end Go.Proofs.YtiinohibmcefkaaGreatDoor
namespace Go.Proofs.YtiinohibmcefkaaGreatDoor
open Go.ChangeShapes Go.WideShapes Go.ChangeAt Go.RowKit Go.Deep
section
variable {H : Type} {enc : TypeId × Value → H} {W : World}
set_option maxRecDepth 100000 in
/-- What is read of an expression. -/
theorem expr_readI {fuel : Nat} {cs : List Value} {x : DataW H × List MemPlace} (h : DataW.trod enc Tryz.prog W 0 (fun _ => true) true fuel 27 cs = some x) :
    ∃ (op n : Int) (s : Txt) (kv : Value) (m : Nat) (y : DataW H × List MemPlace), fuel = m + 1 ∧ I64 n ∧ cs = [.int .i64 op, .int .i64 n, str s, kv] ∧ DataW.trod enc Tryz.prog W 0 (fun _ => true) true m 25 [kv] = some y := by
  obtain ⟨xs, m, hm, _, hl, hlen, hf⟩ := DataW.trod_struct Tryz.underlying27 h
  have hl' : cs.length = 4 := hl.trans Tryz.cells27
  match xs, hlen, cs, hl' with
  | [y0, y1, y2, y3], _, [c0, c1, c2, c3], _ =>
    have h0 : DataW.trod enc Tryz.prog W 0 (fun _ => true) true m 3 (([c0, c1, c2, c3].drop 0).take (Tryz.prog.cellsOf 3)) = some y0 := hf 0 _ rfl
    have h1 : DataW.trod enc Tryz.prog W 0 (fun _ => true) true m 2 (([c0, c1, c2, c3].drop 1).take (Tryz.prog.cellsOf 2)) = some y1 := hf 1 _ rfl
    have h2 : DataW.trod enc Tryz.prog W 0 (fun _ => true) true m 9 (([c0, c1, c2, c3].drop 2).take (Tryz.prog.cellsOf 9)) = some y2 := hf 2 _ rfl
    have h3 : DataW.trod enc Tryz.prog W 0 (fun _ => true) true m 25 (([c0, c1, c2, c3].drop 3).take (Tryz.prog.cellsOf 25)) = some y3 := hf 3 _ rfl
    rw [e3] at h0
    rw [e2] at h1
    rw [e9] at h2
    rw [e23] at h3
    simp only [List.drop_zero, List.take_succ_cons, List.take_zero, List.drop_succ_cons] at h0 h1 h2 h3
    obtain ⟨k, q0, _, _⟩ := DataW.trod_int Tryz.underlying3 h0
    obtain ⟨i, q1, _, w1⟩ := DataW.trod_int Tryz.underlying2 h1
    obtain ⟨s, q2, _, _⟩ := DataW.trod_string Tryz.underlying9 h2
    simp at q0 q1 q2
    exact ⟨k, i, s.data.toList, c3, m, y3, hm, i64_of w1, by rw [q0, q1, q2, str_of], h3⟩
/-- The expressions that came in. -/
theorem exprs_inI (F : Nat) : ∀ (fuel : Nat) (c : Value) (x : DataW H × List MemPlace), fuel < F → DataW.trod enc Tryz.prog W 0 (fun _ => true) true fuel 25 [c] = some x → ∃ l : EL, intE l ∧ ∀ up, SlE (argZ W.heap.size) W up c l := by
  induction F with
  | zero => intro fuel c x h; omega
  | succ F ih =>
    intro fuel c x hF h
    rcases slice_read Tryz.underlying25 Tryz.cells27 (by omega) h with rfl | ⟨b, off, len, cap, n, spot, rfl, hl, hn, hel⟩
    · exact ⟨.nil, trivial, fun up => ⟨none, 0, rfl, Nat.le_refl _, fun h => absurd rfl h⟩⟩
    · have key : ∀ k i, i + k = len → ∃ l : EL, l.len = k ∧ intE l ∧ ExIn (argZ W.heap.size) W l b (off + i * 4) := by
        intro k
        induction k with
        | zero => exact fun i _ => ⟨.nil, rfl, trivial, trivial⟩
        | succ k ihk =>
          intro i hi
          obtain ⟨r, hr1, hri, hr2⟩ := ihk (i + 1) (by omega)
          obtain ⟨_, hb, cs, y, hc, ht, _⟩ := hel i (by omega)
          obtain ⟨op, nn, s, kv, m, z, hm, hnn, rfl, hk⟩ := expr_readI ht
          obtain ⟨kids, hki, hkids⟩ := ih m kv z (by omega) hk
          obtain ⟨ao, kc, rfl, hkc, hkx⟩ := hkids b
          refine ⟨.cons op nn s kids r, by simp [EL.len, hr1], ⟨hnn, hki, hri⟩, hb, hb, hc 0 _ rfl, hc 1 _ rfl, hc 2 _ rfl, ⟨ao, kc, hc 3 _ rfl, hkc, hkx⟩, ?_⟩
          rw [show off + i * 4 + 4 = off + (i + 1) * 4 by omega]
          exact hr2
      obtain ⟨l, hl1, hli, hl2⟩ := key len 0 (by omega)
      subst hl1
      refine ⟨l, hli, fun up => ⟨_, cap, rfl, hl, fun h0 => ?_⟩⟩
      obtain ⟨rfl, _⟩ := hel 0 (by omega)
      exact ⟨b, off, rfl, trivial, by simpa using hl2⟩
end
end Go.Proofs.YtiinohibmcefkaaGreatDoor
namespace Go.Proofs.YtiinohibmcefkaaGreatDoor
open Go.RowKit Go.Maps

/-- How many of the first n are not done. -/
def undone (d : Nat → Bool) : Nat → Nat
  | 0 => 0
  | n + 1 => undone d n + if d n then 0 else 1
def mark (d : Nat → Bool) (i : Nat) : Nat → Bool := fun j => if j = i then true else d j
theorem undone_ge (d : Nat → Bool) {i : Nat} : ∀ {n : Nat}, n ≤ i → undone (mark d i) n = undone d n
  | 0, _ => rfl
  | n + 1, h => by
    have : mark d i n = d n := by unfold mark; rw [if_neg (by omega)]
    simp only [undone, this, undone_ge d (show n ≤ i by omega)]
theorem undone_mark {d : Nat → Bool} {i : Nat} (hd : d i = false) : ∀ {n : Nat}, i < n → undone (mark d i) n + 1 = undone d n
  | 0, h => by omega
  | n + 1, h => by
    by_cases hn : n = i
    · subst hn
      have : mark d n n = true := by unfold mark; rw [if_pos rfl]
      simp only [undone, this, hd, undone_ge d (Nat.le_refl n)]
      simp
    · have : mark d i n = d n := by unfold mark; rw [if_neg hn]
      have ih := undone_mark hd (show i < n by omega)
      simp only [undone, this]
      omega
theorem undone_zero {d : Nat → Bool} : ∀ {n : Nat}, undone d n = 0 → ∀ i, i < n → d i = true
  | 0, _, i, h => by omega
  | n + 1, h, i, hi => by
    simp only [undone] at h
    by_cases hn : i = n
    · subst hn
      cases hd : d i with
      | true => rfl
      | false => rw [hd] at h; simp at h
    · exact undone_zero (n := n) (by omega) i (by omega)
section
variable {P : Program} {ops : Array Oper} {Q : Exit → Act → World → Prop}
/-- A region whose edges go back alone, and in which none is ready: all are done. -/
theorem all_done (hac : ∀ (i : Nat) (o : Oper), ops[i]? = some o → ∀ e ∈ o.after, e.on < i) {listed : Array Bool} (hl : listed.size = ops.size) (hr : Region.ready .any ops listed = []) : ∀ i, i < ops.size → listed.getD i false = true := by
  intro i
  induction i using Nat.strongRecOn with
  | ind i ih =>
    intro hi
    cases hd : listed.getD i false with
    | true => rfl
    | false =>
      have hm : i ∈ Region.ready .any ops listed := by
        refine mem_ready.2 ⟨?_, ops[i], Array.getElem?_eq_getElem hi, fun e he _ => ih e.on (hac i _ (Array.getElem?_eq_getElem hi) e he) (Nat.lt_trans (hac i _ (Array.getElem?_eq_getElem hi) e he) hi)⟩
        rw [Array.getD_eq_getD_getElem?, Array.getElem?_eq_getElem (by omega)] at hd ⊢
        exact hd
      rw [hr] at hm
      cases hm
theorem wpAny_inv (hac : ∀ (i : Nat) (o : Oper), ops[i]? = some o → ∀ e ∈ o.after, e.on < i) (I : (Nat → Bool) → Act → World → Prop)
    (hs : ∀ (d : Nat → Bool) (a : Act) (w : World) (i : Nat) (o : Oper), I d a w → d i = false → ops[i]? = some o → (∀ e ∈ o.after, Region.binds .any e = true → d e.on = true) → wpOp P ops Q i (fun a' w' => I (mark d i) a' w') a w)
    (he : ∀ (d : Nat → Bool) (a : Act) (w : World), I d a w → (∀ i, i < ops.size → d i = true) → Q .normal a w) :
    ∀ (fuel : Nat) (listed : Array Bool) (a : Act) (w : World), listed.size = ops.size → undone (fun j => listed.getD j false) ops.size ≤ fuel → I (fun j => listed.getD j false) a w → wpAny P .any ops Q fuel listed a w
  | 0, listed, a, w, hl, hf, hI => by
    have hd := undone_zero (Nat.le_zero.1 hf)
    refine ⟨?_, he _ a w hI hd⟩
    cases hr : Region.ready .any ops listed with
    | nil => rfl
    | cons i r =>
      have hm : i ∈ Region.ready .any ops listed := by rw [hr]; exact List.mem_cons_self ..
      obtain ⟨h1, o, ho, _⟩ := mem_ready.1 hm
      have hi : i < ops.size := (Array.getElem?_eq_some_iff.1 ho).1
      have h2 := hd i hi
      rw [Array.getD_eq_getD_getElem?, Array.getElem?_eq_getElem (by omega)] at h1
      simp only [Array.getD_eq_getD_getElem?, Array.getElem?_eq_getElem (show i < listed.size by omega)] at h2
      have h1' : listed[i] = false := h1
      have h2' : listed[i] = true := h2
      rw [h1'] at h2'
      cases h2'
  | fuel + 1, listed, a, w, hl, hf, hI => by
    refine ⟨fun hr => he _ a w hI (all_done hac hl hr), fun i hm => ?_⟩
    obtain ⟨h1, o, ho, hall⟩ := mem_ready.1 hm
    have hi : i < ops.size := (Array.getElem?_eq_some_iff.1 ho).1
    have hd : listed.getD i false = false := by
      rw [Array.getD_eq_getD_getElem?, Array.getElem?_eq_getElem (by omega)] at h1 ⊢
      exact h1
    have heq : (fun j => (listed.setIfInBounds i true).getD j false) = mark (fun j => listed.getD j false) i := by
      funext j
      unfold mark
      by_cases hj : j = i
      · subst hj
        rw [if_pos rfl, Array.getD_eq_getD_getElem?, Array.getElem?_setIfInBounds_self_of_lt (by omega)]
        rfl
      · rw [if_neg hj]
        show (listed.setIfInBounds i true).getD j false = listed.getD j false
        rw [Array.getD_eq_getD_getElem?, Array.getD_eq_getD_getElem?, Array.getElem?_setIfInBounds_ne (fun e => hj e.symm)]
    refine wpOp_mono (fun a' w' hI' => ?_) (hs _ a w i o hI hd ho hall)
    refine wpAny_inv hac I hs he fuel (listed.setIfInBounds i true) a' w' (by simpa using hl) ?_ ?_
    · rw [heq]
      have := undone_mark (d := fun j => listed.getD j false) hd hi
      omega
    · rw [heq]
      exact hI'
/-- A region that draws its order, by what holds of those that are done. -/
theorem wp_region_inv {id : Nat} {a : Act} {w : World} (hm : P.follows .mixedOrders = true) (hac : ∀ (i : Nat) (o : Oper), ops[i]? = some o → ∀ e ∈ o.after, e.on < i) (I : (Nat → Bool) → Act → World → Prop)
    (h0 : I (fun _ => false) a w.drew)
    (hs : ∀ (d : Nat → Bool) (a : Act) (w : World) (i : Nat) (o : Oper), I d a w → d i = false → ops[i]? = some o → (∀ e ∈ o.after, Region.binds .any e = true → d e.on = true) → wpOp P ops Q i (fun a' w' => I (mark d i) a' w') a w)
    (he : ∀ (d : Nat → Bool) (a : Act) (w : World), I d a w → (∀ i, i < ops.size → d i = true) → Q .normal a w) : (Code.region id ops true).wp P Q a w := by
  refine wp_region_any hm ?_
  have e : (fun j => (Array.replicate ops.size false).getD j false) = fun _ => false := by
    funext j
    rw [Array.getD_eq_getD_getElem?, Array.getElem?_replicate]
    split <;> rfl
  have hu : ∀ n, undone (fun _ => false) n = n := fun n => by
    induction n with
    | zero => rfl
    | succ n ih => simp [undone, ih]
  refine wpAny_inv hac I hs he _ _ _ _ (by simp) ?_ ?_
  · rw [e, hu]
    exact Nat.le_refl _
  · rw [e]
    exact h0
end
end Go.Proofs.YtiinohibmcefkaaGreatDoor
namespace Go.Proofs.YtiinohibmcefkaaGreatDoor
open Go.RowKit Go.Maps

theorem put_get (a : Act) (d : Nat) (v : Value) (h : d < a.tmps.size) : (a.put (some d) v).tmps.getD d undef = v := by
  unfold Act.put
  rw [Array.getD_eq_getD_getElem?, Array.getElem?_setIfInBounds_self_of_lt h]
  rfl
theorem put_get_ne (a : Act) {d t : Nat} (v : Value) (h : d ≠ t) : (a.put (some d) v).tmps.getD t undef = a.tmps.getD t undef := by
  unfold Act.put
  simp only
  rw [Array.getD_eq_getD_getElem?, Array.getD_eq_getD_getElem?, Array.getElem?_setIfInBounds_ne h]
/-- The slots that a region doesn't write are as they were. -/
structure Same (a0 : Act) (n : Nat) (dst : Nat → Nat) (a : Act) : Prop where
  size : a.tmps.size = a0.tmps.size
  defers : a.defers = a0.defers
  slot : ∀ t, (∀ i, i < n → dst i ≠ t) → a.tmps.getD t undef = a0.tmps.getD t undef
theorem Same.put {a0 a : Act} {n : Nat} {dst : Nat → Nat} (h : Same a0 n dst a) {i : Nat} (hi : i < n) (v : Value) : Same a0 n dst (a.put (some (dst i)) v) :=
  ⟨by unfold Act.put; simpa using h.size, h.defers, fun t ht => (put_get_ne a v (ht i hi)).trans (h.slot t ht)⟩
section
variable {P : Program} {ops : Array Oper} {Q : Exit → Act → World → Prop}
/-- A region that draws its order and keeps all that was there, by what each of its slots holds, however its operations are drawn: F i v w says what the slot of the i-th holds once it is done. -/
theorem wp_region_slots {id : Nat} {a0 : Act} {w0 X : World} (hm : P.follows .mixedOrders = true) (hac : ∀ (i : Nat) (o : Oper), ops[i]? = some o → ∀ e ∈ o.after, e.on < i)
    (dst : Nat → Nat) (hdst : ∀ (i : Nat) (o : Oper), ops[i]? = some o → o.dst = some (dst i) ∧ o.guard = none ∧ dst i < a0.tmps.size) (hinj : ∀ i j, i < ops.size → j < ops.size → dst i = dst j → i = j)
    (hX : Keeps (fun _ => False) X w0)
    (F : Nat → Value → World → Prop) (hF : ∀ i v w w', F i v w → Keeps (fun _ => False) w w' → F i v w')
    (hs : ∀ (i : Nat) (o : Oper) (a : Act) (w : World), ops[i]? = some o → Same a0 ops.size dst a → Keeps (fun _ => False) X w → (∀ e ∈ o.after, Region.binds .any e = true → F e.on (a.tmps.getD (dst e.on) undef) w) →
      ∀ K' : Act → World → Prop, (∀ v w', F i v w' → Keeps (fun _ => False) w w' → K' (a.put (some (dst i)) v) w') → Oper.wp P o a w K' Q)
    (he : ∀ (a : Act) (w : World), Same a0 ops.size dst a → Keeps (fun _ => False) X w → (∀ i, i < ops.size → F i (a.tmps.getD (dst i) undef) w) → Q .normal a w) : (Code.region id ops true).wp P Q a0 w0 := by
  refine wp_region_inv hm hac (fun d a w => Same a0 ops.size dst a ∧ Keeps (fun _ => False) X w ∧ ∀ i, i < ops.size → d i = true → F i (a.tmps.getD (dst i) undef) w) ?_ ?_ ?_
  · exact ⟨⟨rfl, rfl, fun _ _ => rfl⟩, hX.drew, fun i _ h => by cases h⟩
  · rintro d a w i o ⟨h1, h2, h3⟩ hd ho hall
    have hi : i < ops.size := (Array.getElem?_eq_some_iff.1 ho).1
    obtain ⟨q1, q2, q3⟩ := hdst i o ho
    refine wpOp_step ho (fun K' hK => ?_)
    have hw : Region.wanted o (yielded ops a.tmps) = true := by simp [Region.wanted, q2]
    rw [if_pos hw]
    refine hs i o a w ho h1 h2 (fun e he hb => h3 e.on (Nat.lt_trans (hac i o ho e he) hi) (hall e he hb)) K' fun v w' hv hk => hK _ _ ⟨h1.put hi v, h2.trans hk, fun j hj hm => ?_⟩
    by_cases hij : j = i
    · subst hij
      rw [put_get a (dst j) v (by rw [h1.size]; exact q3)]
      exact hv
    · rw [put_get_ne a v (fun e => hij (hinj j i hj hi e.symm))]
      refine hF _ _ _ _ (h3 j hj ?_) hk
      unfold mark at hm
      rwa [if_neg hij] at hm
  · rintro d a w ⟨h1, h2, h3⟩ hd
    exact he a w h1 h2 (fun i hi => h3 i hi (hd i hi))
end
end Go.Proofs.YtiinohibmcefkaaGreatDoor
namespace Go.Proofs.YtiinohibmcefkaaGreatDoor
open Go.RowKit Go.Maps

/-- A value that is this expression. -/
def isE (w : World) (v : Value) (e : XE) : Prop := ∃ kv, v = exV e.op e.n e.s kv ∧ SlE (argZ w.heap.size) w 0 kv e.kids
/-- A slice of these expressions. -/
def isL (w : World) (v : Value) (l : EL) : Prop := SlE (argZ w.heap.size) w 0 v l
theorem sl_top {B : Nat} {w w' : World} {v : Value} {l : EL} (h : SlE (argZ B) w 0 v l) (hk : Keeps (fun _ => False) w w') : SlE (argZ w'.heap.size) w' 0 v l := (h.keepF hk).argUp (Nat.le_refl _) 0
theorem isE.keep {w w' : World} {v : Value} {e : XE} (h : isE w v e) (hk : Keeps (fun _ => False) w w') : isE w' v e := by
  obtain ⟨kv, e1, h1⟩ := h
  exact ⟨kv, e1, sl_top h1 hk⟩
theorem isL.keep {w w' : World} {v : Value} {l : EL} (h : isL w v l) (hk : Keeps (fun _ => False) w w') : isL w' v l := sl_top h hk
theorem isL_new {w : World} {l : EL} {xs : List Value} (h : EsIn (argZ w.heap.size) w l xs) : isL (w.alloc (.cells xs.toArray 27)) (.slice (some ⟨w.heap.size, 0, none⟩) l.len l.len) l := by
  obtain ⟨HB, hxb, hxc⟩ := boxed w xs.toArray 27
  have h2 := h.argKeep (unhide HB) (fun _ q => q.elim)
  refine ⟨_, _, rfl, Nat.le_refl _, fun _ => ⟨w.heap.size, 0, rfl, trivial, h2.exIn hxb (Nat.le_refl _) (fun j x hx => ?_)⟩⟩
  rw [Nat.zero_add]
  exact hxc j x (by simpa using hx)
section
variable {Q : Exit → Act → World → Prop} {K : Act → World → Prop} {o : Oper} {a : Act} {w : World}
theorem slot_of {a : Act} {t : Nat} {v : Value} (h : a.tmps.getD t undef = v) : a.tmps[t]?.getD undef = v := by rw [← Array.getD_eq_getD_getElem?]; exact h
theorem step_assign {t : Nat} {v : Value} (ho : o.op = .assign (.tmp t)) (ht : a.tmps.getD t undef = v) (hk : K (a.put o.dst v) w) : Oper.wp Tryz.prog o a w K Q := by
  have he : a.eval (.tmp t) = v := ht
  unfold Oper.wp
  simp only [execOp, ho, he]
  exact hk
theorem step_call26 {t : Nat} {k : Int} {l : EL} {v : Value} (ho : o.op = .call { callee := .value (.func 18), args := #[.const (.int .i64 k), .tmp t], argTypes := #[3, 25] }) (ht : a.tmps.getD t undef = v) (hl : isL w v l) (hn : l.len ≤ 1000)
    (hk : ∀ v' w', isE w' v' ⟨k, 0, [], l⟩ → Keeps (fun _ => False) w w' → K (a.put o.dst v') w') : Oper.wp Tryz.prog o a w K Q := by
  obtain ⟨ao, cap, rfl, _⟩ := SlE.head hl
  have he := slot_of ht
  unfold Oper.wp
  simp [execOp, ho, he, go_sem]
  refine (op_v w.heap.size k l hn _ w (Nat.le_refl _) hl).mono ?_
  rintro e w' ⟨ao', c', rfl, h1, h2⟩
  exact hk _ _ ⟨_, rfl, h1⟩ h2
set_option maxRecDepth 100000 in
theorem step_slice1 {t : Nat} {x : XE} {v : Value} (ho : o.op = .buildSlice 25 1 #[(0, .tmp t)]) (ht0 : a.tmps.getD t undef = v) (hx : isE w v x)
    (hk : ∀ v' w', isL w' v' (x.el .nil) → Keeps (fun _ => False) w w' → K (a.put o.dst v') w') : Oper.wp Tryz.prog o a w K Q := by
  obtain ⟨xv, rfl, hx⟩ := hx
  obtain ⟨xo, xc, rfl, _⟩ := hx.head
  have he0 := slot_of ht0
  have hl := isL_new (w := w) (l := x.el .nil) (xs := [.int .i64 x.op, .int .i64 x.n, str x.s, .slice xo x.kids.len xc]) ⟨_, _, rfl, hx, rfl⟩
  unfold Oper.wp
  simp [execOp, ho, he0, go_sem, exV]
  exact hk _ _ hl (kAlloc w _)
set_option maxRecDepth 100000 in
theorem step_slice2 {t t2 : Nat} {x y : XE} {v v2 : Value} (ho : o.op = .buildSlice 25 2 #[(0, .tmp t), (1, .tmp t2)]) (ht0 : a.tmps.getD t undef = v) (ht1 : a.tmps.getD t2 undef = v2) (hx : isE w v x) (hy : isE w v2 y)
    (hk : ∀ v' w', isL w' v' (x.el (y.el .nil)) → Keeps (fun _ => False) w w' → K (a.put o.dst v') w') : Oper.wp Tryz.prog o a w K Q := by
  obtain ⟨xv, rfl, hx⟩ := hx
  obtain ⟨xo, xc, rfl, _⟩ := hx.head
  obtain ⟨yv, rfl, hy⟩ := hy
  obtain ⟨yo, yc, rfl, _⟩ := hy.head
  have he0 := slot_of ht0
  have he1 := slot_of ht1
  have hl := isL_new (w := w) (l := x.el (y.el .nil)) (xs := [.int .i64 x.op, .int .i64 x.n, str x.s, .slice xo x.kids.len xc, .int .i64 y.op, .int .i64 y.n, str y.s, .slice yo y.kids.len yc]) ⟨_, _, rfl, hx, ⟨_, _, rfl, hy, rfl⟩⟩
  unfold Oper.wp
  simp [execOp, ho, he0, he1, go_sem, exV]
  exact hk _ _ hl (kAlloc w _)
theorem step_load24 {t g : Nat} {x : Value} (ho : o.op = .load 24 (.tmp t)) (ht : a.tmps.getD t undef = .pointer (some ⟨g, 0, none⟩)) (hg : w.heap[g]? = some (.cells #[x] 24 (0, 0))) (hk : K (a.put o.dst (.agg #[x])) w) : Oper.wp Tryz.prog o a w K Q :=
  wp_load_row 24 (.tmp t) ho g ht 24 #[x] (0, 0) _ hg Tryz.underlying24 rfl (by kernel_rfl) hk
theorem step_load31 {t g : Nat} {x y : Value} (ho : o.op = .load 31 (.tmp t)) (ht : a.tmps.getD t undef = .pointer (some ⟨g, 0, none⟩)) (hg : w.heap[g]? = some (.cells #[x, y] 31 (0, 0))) (hk : K (a.put o.dst (.agg #[x, y])) w) : Oper.wp Tryz.prog o a w K Q :=
  wp_load_row 31 (.tmp t) ho g ht 31 #[x, y] (0, 0) _ hg Tryz.underlying31 rfl (by kernel_rfl) hk
theorem step_load27 {t g : Nat} {e : XE} {kv : Value} {B : Nat} {w1 : World} (ho : o.op = .load 27 (.tmp t)) (ht : a.tmps.getD t undef = .pointer (some ⟨g, 0, none⟩)) (hg : w.heap[g]? = some (.cells #[.int .i64 e.op, .int .i64 e.n, str e.s, kv] 27 (0, 0)))
    (hs : SlE (argZ B) w1 0 kv e.kids) (hw : Keeps (fun _ => False) w1 w) (hk : ∀ v', isE w v' e → K (a.put o.dst v') w) : Oper.wp Tryz.prog o a w K Q :=
  wp_load_row 27 (.tmp t) ho g ht 27 _ (0, 0) _ hg Tryz.underlying27 rfl (by kernel_rfl) (hk _ ⟨kv, rfl, sl_top hs hw⟩)
end
end Go.Proofs.YtiinohibmcefkaaGreatDoor
