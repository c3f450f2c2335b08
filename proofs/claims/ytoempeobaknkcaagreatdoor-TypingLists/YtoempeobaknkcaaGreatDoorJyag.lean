import Derived.Test.YtoempeobaknkcaaGreatDoorJyae
import Derived.Test.YtoempeobaknkcaaGreatDoorKm
import Derived.Test.YtoempeobaknkcaaGreatDoorJyaw
namespace Go.Proofs.YtoempeobaknkcaaGreatDoor
open Go.RowKit Go.Maps

/-- What the first expression is. -/
def headK (S : List FieldA) : EL → KA × Int
  | .nil => (⟨0, false⟩, 0)
  | .cons op _ s kids _ => kindP S op s kids
/-- Why a statement by itself does not fit; 0: it does. -/
def ownP (S : List FieldA) (op : Int) (f : Txt) (x : EL) : Int :=
  if op = 1 then orL [(namedK S f).2, (headK S x).2, ofI (headK S x).1 [(namedK S f).1.t], if (headK S x).1.o = true ∧ (namedK S f).1.o = false then 92 else 0]
  else if op = 2 ∨ op = 3 ∨ op = 4 then orL [(namedK S f).2, (headK S x).2, ofI (namedK S f).1 [1], plainI (headK S x).1 [1]]
  else if op = 5 then orL [(namedK S f).2, optI (namedK S f).1]
  else if op = 8 then orL [(headK S x).2, plainI (headK S x).1 [2]]
  else 0

theorem isPlain_new (k : KA) (t : Int) (cur : World) (g : Nat) (hg : g = cur.heap.size) : Calls Tryz.prog 93 #[.agg #[.int .i64 k.t, .bool k.o], .slice (some ⟨g, 0, none⟩) 1 1] (cur.alloc (.cells #[.int .i64 t] 3)) fun e w' => e = .returned (.int .i64 (plainI k [t])) ∧ Keeps (fun _ => False) cur w' := by
  subst hg
  exact (isPlain_v k [t] _ _ (ints_new cur [t] 3 1 rfl) (by simp)).mono fun _ _ ⟨he, hk⟩ => ⟨he, ((Keeps.refl _ cur).alloc _).trans hk⟩
theorem isOf_new (k : KA) (t : Int) (cur : World) (g : Nat) (hg : g = cur.heap.size) : Calls Tryz.prog 99 #[.agg #[.int .i64 k.t, .bool k.o], .slice (some ⟨g, 0, none⟩) 1 1] (cur.alloc (.cells #[.int .i64 t] 3)) fun e w' => e = .returned (.int .i64 (ofI k [t])) ∧ Keeps (fun _ => False) cur w' := by
  subst hg
  exact (isOf_v k [t] _ _ (ints_new cur [t] 3 1 rfl) (by simp)).mono fun _ _ ⟨he, hk⟩ => ⟨he, ((Keeps.refl _ cur).alloc _).trans hk⟩
theorem or_two (a b : Int) (cur : World) (g : Nat) (hg : g = cur.heap.size) : Calls Tryz.prog 96 #[.slice (some ⟨g, 0, none⟩) 2 2] (cur.alloc (.cells #[.int .i64 a, .int .i64 b] 30)) fun e w' => e = .returned (.int .i64 (orL [a, b])) ∧ Keeps (fun _ => False) cur w' := by
  subst hg
  exact or_keep [a, b] 2 rfl (by simp) cur
theorem or_four (a b c d : Int) (cur : World) (g : Nat) (hg : g = cur.heap.size) : Calls Tryz.prog 96 #[.slice (some ⟨g, 0, none⟩) 4 4] (cur.alloc (.cells #[.int .i64 a, .int .i64 b, .int .i64 c, .int .i64 d] 30)) fun e w' => e = .returned (.int .i64 (orL [a, b, c, d])) ∧ Keeps (fun _ => False) cur w' := by
  subst hg
  exact or_keep [a, b, c, d] 4 rfl (by simp) cur

set_option maxRecDepth 100000 in
set_option maxHeartbeats 2000000 in
theorem clearF_v (j mb nn : Nat) (S : List FieldA) (hS : (S.map FieldA.name).Nodup) (op : Int) (f : Txt) (hl : f.length ≤ 1000) (xo to eo : Option Addr) (xn xc tn tc en ec : Nat) (w : World) (h : MapAt w j mb nn S) :
    Calls Tryz.prog 79 #[.pointer (some ⟨j, 0, none⟩), stV op f (.slice xo xn xc) (.slice to tn tc) (.slice eo en ec)] w fun e w' => e = .returned (.int .i64 (orL [(namedK S f).2, optI (namedK S f).1])) ∧ Keeps (fun _ => False) w w' := by
  obtain ⟨HB, hxb, hxc⟩ := boxedT w #[.int .i64 op, str f, .slice xo xn xc, .slice to tn tc, .slice eo en ec] 53
  have c1 := hxc 1 (str f) rfl
  have HN := hide (namedJ_v j mb nn S hS f hl _ (h.keepF (unhide HB)))
  obtain ⟨⟨⟨T, O⟩, E⟩, hp⟩ : ∃ p, p = namedK S f := ⟨_, rfl⟩
  rw [← hp] at HN ⊢
  clear hp h hxc
  go_enter Tryz.func79, Tryz.ntmps79
  go_wp2_with (first
    | (go_at_call 95; refine (unhide HN).mono ?_; rintro e w1 ⟨rfl, hk1⟩; obtain ⟨HK1, hb1, hc1⟩ := boxedT w1 #[.int .i64 T, .bool O] 80; have a0 := hc1 0 (.int .i64 T) rfl; have a1 := hc1 1 (.bool O) rfl; have HKa := hide (((unhide HB).trans hk1).trans (unhide HK1)); clear hc1 hk1)
    | (go_at_call 97; refine (isOptional_v ⟨T, O⟩ _).mono ?_; rintro e w2 ⟨rfl, hk2⟩; have HKa := hide ((unhide HKa).trans hk2); clear hk2)
    | (go_at_call 96; refine (or_two E (optI ⟨T, O⟩) _ _ (by simp)).mono ?_; rintro e w3 ⟨rfl, hk3⟩; have HKa := hide ((unhide HKa).trans hk3); clear hk3))
  go_ret
  exact ⟨rfl, unhide HKa⟩
set_option maxRecDepth 100000 in
theorem alwaysF_v (op : Int) (f : Txt) (xo to eo : Option Addr) (xn xc tn tc en ec : Nat) (w : World) :
    Calls Tryz.prog 80 #[stV op f (.slice xo xn xc) (.slice to tn tc) (.slice eo en ec)] w fun e w' => e = .returned (.int .i64 0) ∧ Keeps (fun _ => False) w w' := by
  have HK : Hid (Keeps (fun _ => False) w (w.alloc (.cells #[.int .i64 op, str f, .slice xo xn xc, .slice to tn tc, .slice eo en ec] 53))) := (Keeps.refl _ w).alloc _
  go_enter Tryz.func80, Tryz.ntmps80
  go_wp2_with fail
  go_ret
  exact ⟨rfl, unhide HK⟩

set_option maxRecDepth 100000 in
set_option maxHeartbeats 4000000 in
theorem chooseF_v (Z : Zone) (j mb nn tab : Nat) (S : List FieldA) (hS : (S.map FieldA.name).Nodup) (op : Int) (f : Txt) (o n : Int) (s : Txt) (kids : EL) (hsz : kids.size + 1 ≤ 4294967294) (xv : Value) (up : Nat) (to eo : Option Addr) (tn tc en ec : Nat) (w : World) (h : JudgeAt w j mb nn tab S)
    (hx : SlE Z w up xv (.cons o n s kids .nil)) (hr : rootB o n s kids.len = true) (hw : wellE kids = true) :
    Calls Tryz.prog 81 #[.pointer (some ⟨j, 0, none⟩), stV op f xv (.slice to tn tc) (.slice eo en ec)] w fun e w' => e = .returned (.int .i64 (orL [(kindP S o s kids).2, plainI (kindP S o s kids).1 [2]])) ∧ Keeps (fun _ => False) w w' := by
  obtain ⟨xo, xc, b, off, rfl, hcap, ha, hin⟩ := hx.open
  obtain ⟨rfl, _⟩ := ha (by simp [EL.len])
  obtain ⟨h1, h2, h3, h4, h5, ⟨kao, kcap, h6, h7, h8⟩, _⟩ := hin
  have hkid : SlE Z w b (.slice kao kids.len kcap) kids := ⟨kao, kcap, rfl, h7, h8⟩
  have hlen : (EL.cons o n s kids .nil).len = 1 := rfl
  rw [hlen] at hcap ⊢
  obtain ⟨HB, hxb, hxc⟩ := boxedT w #[.int .i64 op, str f, .slice (some ⟨b, off, none⟩) 1 xc, .slice to tn tc, .slice eo en ec] 53
  have c2 := hxc 2 (.slice (some ⟨b, off, none⟩) 1 xc) rfl
  have q0 := ((unhide HB).cell h1 id).trans h3
  have q1 := ((unhide HB).cell h1 id).trans h4
  have q2 := ((unhide HB).cell h1 id).trans h5
  have q3 := ((unhide HB).cell h1 id).trans h6
  have HE := hide (exprJ_v Z j mb nn tab S hS (kids.size + 1) kids (by omega) (by omega) o n s _ b (.slice kao kids.len kcap) (h.keepF (unhide HB)) (hkid.keepF (unhide HB)) hr hw)
  obtain ⟨⟨⟨T, O⟩, E⟩, hp⟩ : ∃ p, p = kindP S o s kids := ⟨_, rfl⟩
  rw [← hp] at HE ⊢
  clear hp h hxc hkid hx h2 h3 h4 h5 h6 h8 hr hw ha
  go_enter Tryz.func81, Tryz.ntmps81
  go_wp2_with (first
    | (go_at_call 37; refine (unhide HE).mono ?_; rintro e w1 ⟨rfl, hk1⟩; obtain ⟨HK1, hb1, hc1⟩ := boxedT w1 #[.int .i64 T, .bool O] 80; have a0 := hc1 0 (.int .i64 T) rfl; have a1 := hc1 1 (.bool O) rfl; have HKa := hide (((unhide HB).trans hk1).trans (unhide HK1)); clear hc1 hk1)
    | (go_at_call 93; refine (isPlain_new ⟨T, O⟩ 2 _ _ (by simp)).mono ?_; rintro e w2 ⟨rfl, hk2⟩; have HKa := hide ((unhide HKa).trans hk2); clear hk2)
    | (go_at_call 96; refine (or_two E (plainI ⟨T, O⟩ [2]) _ _ (by simp)).mono ?_; rintro e w3 ⟨rfl, hk3⟩; have HKa := hide ((unhide HKa).trans hk3); clear hk3))
  go_ret
  exact ⟨rfl, unhide HKa⟩
end Go.Proofs.YtoempeobaknkcaaGreatDoor
namespace Go.Proofs.YtoempeobaknkcaaGreatDoor
open Go.RowKit Go.Maps

/-- What a walk through a statement's rule has laid: all that was there stands, and in these blocks stands one number each. -/
structure Lay (w : World) (L : List (Nat × Int)) (cur : World) : Prop where
  kept : Keeps (fun _ => False) w cur
  one : ∀ p ∈ L, cur.heap[p.1]? = some (.cells #[.int .i64 p.2] 3 (0, 0))
theorem Lay.keep {w : World} {L : List (Nat × Int)} {cur w' : World} (h : Lay w L cur) (hk : Keeps (fun _ => False) cur w') : Lay w L w' :=
  ⟨h.kept.trans hk, fun p hp => (hk.block _ (lt_of_block (h.one p hp)) id).trans (h.one p hp)⟩
theorem Lay.drew {w : World} {L : List (Nat × Int)} {cur : World} (h : Lay w L cur) : Lay w L cur.drew := h.keep (Keeps.refl _ _).drew
theorem Lay.lay {w : World} {L : List (Nat × Int)} {cur : World} (h : Lay w L cur) (t : Int) : Lay w (L ++ [(cur.heap.size, t)]) (cur.alloc (.cells #[.int .i64 t] 3)) := by
  have h2 := h.keep ((Keeps.refl (fun _ => False) cur).alloc (.cells #[.int .i64 t] 3))
  refine ⟨h2.kept, fun p hp => ?_⟩
  rcases List.mem_append.1 hp with hp | hp
  · exact h2.one p hp
  · obtain rfl : p = (cur.heap.size, t) := by simpa using hp
    exact heap_alloc_new cur _
theorem Lay.num {w : World} {L : List (Nat × Int)} {cur : World} (h : Lay w L cur) {b : Nat} {t : Int} (hm : (b, t) ∈ L) : IntsAt cur (.slice (some ⟨b, 0, none⟩) 1 1) [t] := by
  have hb := h.one _ hm
  refine ⟨⟨_, _, rfl⟩, fun _ => ⟨b, 0, _, rfl, lt_of_block hb, fun j x hx => ?_⟩, fun ao m cap e => by simp at e; omega⟩
  rw [cell_of_blk hb]
  simpa [ints] using hx
theorem isPlain_lay (k : KA) {w : World} {L : List (Nat × Int)} {cur : World} (h : Lay w L cur) {b : Nat} {t : Int} (hm : (b, t) ∈ L) : Calls Tryz.prog 93 #[.agg #[.int .i64 k.t, .bool k.o], .slice (some ⟨b, 0, none⟩) 1 1] cur fun e w' => e = .returned (.int .i64 (plainI k [t])) ∧ Lay w L w' :=
  (isPlain_v k [t] _ cur (h.num hm) (by simp)).mono fun _ _ ⟨he, hk⟩ => ⟨he, h.keep hk⟩
theorem isOf_lay (k : KA) {w : World} {L : List (Nat × Int)} {cur : World} (h : Lay w L cur) {b : Nat} {t : Int} (hm : (b, t) ∈ L) : Calls Tryz.prog 99 #[.agg #[.int .i64 k.t, .bool k.o], .slice (some ⟨b, 0, none⟩) 1 1] cur fun e w' => e = .returned (.int .i64 (ofI k [t])) ∧ Lay w L w' :=
  (isOf_v k [t] _ cur (h.num hm) (by simp)).mono fun _ _ ⟨he, hk⟩ => ⟨he, h.keep hk⟩
theorem unless_lay (r : Bool) (x : Int) {w : World} {L : List (Nat × Int)} {cur : World} (h : Lay w L cur) : Calls Tryz.prog 100 #[.bool r, .int .i64 x] cur fun e w' => e = .returned (.int .i64 (unlessI r x)) ∧ Lay w L w' :=
  (unless_v r x cur).mono fun _ _ ⟨he, hw⟩ => ⟨he, by subst hw; exact h⟩
theorem or_lay (a b c d : Int) {w : World} {L : List (Nat × Int)} {cur : World} (h : Lay w L cur) : Calls Tryz.prog 96 #[.slice (some ⟨cur.heap.size, 0, none⟩) 4 4] (cur.alloc (.cells #[.int .i64 a, .int .i64 b, .int .i64 c, .int .i64 d] 30)) fun e w' => e = .returned (.int .i64 (orL [a, b, c, d])) ∧ Lay w L w' :=
  (or_four a b c d cur _ rfl).mono fun _ _ ⟨he, hk⟩ => ⟨he, h.keep hk⟩

set_option maxRecDepth 100000 in
set_option maxHeartbeats 8000000 in
theorem changeF_v (Z : Zone) (j mb nn tab : Nat) (S : List FieldA) (hS : (S.map FieldA.name).Nodup) (op : Int) (f : Txt) (hl : f.length ≤ 1000) (o n : Int) (s : Txt) (kids : EL) (hsz : kids.size + 1 ≤ 4294967294) (xv : Value) (up : Nat) (to eo : Option Addr) (tn tc en ec : Nat) (w : World) (h : JudgeAt w j mb nn tab S)
    (hx : SlE Z w up xv (.cons o n s kids .nil)) (hr : rootB o n s kids.len = true) (hw : wellE kids = true) :
    Calls Tryz.prog 78 #[.pointer (some ⟨j, 0, none⟩), stV op f xv (.slice to tn tc) (.slice eo en ec)] w fun e w' => e = .returned (.int .i64 (orL [(namedK S f).2, (kindP S o s kids).2, ofI (namedK S f).1 [1], plainI (kindP S o s kids).1 [1]])) ∧ Keeps (fun _ => False) w w' := by
  obtain ⟨xo, xc, b, off, rfl, hcap, ha, hin⟩ := hx.open
  obtain ⟨rfl, _⟩ := ha (by simp [EL.len])
  obtain ⟨h1, h2, h3, h4, h5, ⟨kao, kcap, h6, h7, h8⟩, _⟩ := hin
  have hkid : SlE Z w b (.slice kao kids.len kcap) kids := ⟨kao, kcap, rfl, h7, h8⟩
  have hlen : (EL.cons o n s kids .nil).len = 1 := rfl
  rw [hlen] at hcap ⊢
  obtain ⟨HB, hxb, hxc⟩ := boxedT w #[.int .i64 op, str f, .slice (some ⟨b, off, none⟩) 1 xc, .slice to tn tc, .slice eo en ec] 53
  have c1 := hxc 1 (str f) rfl
  have SB : ∀ w', Keeps (fun _ => False) (w.alloc (.cells #[.int .i64 op, str f, .slice (some ⟨b, off, none⟩) 1 xc, .slice to tn tc, .slice eo en ec] 53)) w' → w'.cell? ⟨w.heap.size, 2, none⟩ = some (.slice (some ⟨b, off, none⟩) 1 xc) ∧ w'.cell? ⟨b, off, none⟩ = some (.int .i64 o) ∧ w'.cell? ⟨b, off + 1, none⟩ = some (.int .i64 n) ∧ w'.cell? ⟨b, off + 2, none⟩ = some (str s) ∧ w'.cell? ⟨b, off + 3, none⟩ = some (.slice kao kids.len kcap) := fun w' hk =>
    ⟨(hk.cell hxb id).trans (hxc 2 _ rfl), (((unhide HB).trans hk).cell h1 id).trans h3, (((unhide HB).trans hk).cell h1 id).trans h4, (((unhide HB).trans hk).cell h1 id).trans h5, (((unhide HB).trans hk).cell h1 id).trans h6⟩
  have HSB := hide SB
  have HN := hide (namedJ_v j mb nn S hS f hl _ (h.map.keepF (unhide HB)))
  have HE := fun w' (hk : Keeps (fun _ => False) w w') => hide (exprJ_v Z j mb nn tab S hS (kids.size + 1) kids (by omega) (by omega) o n s w' b (.slice kao kids.len kcap) (h.keepF hk) (hkid.keepF hk) hr hw)
  obtain ⟨⟨⟨T, O⟩, E⟩, hp⟩ : ∃ p, p = namedK S f := ⟨_, rfl⟩
  obtain ⟨⟨⟨T2, O2⟩, E2⟩, hp2⟩ : ∃ p, p = kindP S o s kids := ⟨_, rfl⟩
  rw [← hp] at HN ⊢
  rw [← hp2] at HE ⊢
  clear hp hp2 h hxc hkid hx h2 h3 h4 h5 h6 h8 hr hw ha SB
  go_enter Tryz.func78, Tryz.ntmps78
  go_wp2_with (first
    | (go_at_call 95; refine (unhide HN).mono ?_; rintro e w1 ⟨rfl, hk1⟩; have hka := hk1.alloc (.cells #[.int .i64 T, .bool O] 80); have d1 := unhide HSB _ hka; have HBA := hide (heap_alloc_new w1 (.cells #[.int .i64 T, .bool O] 80)); have HK1 := hide ((unhide HB).trans hka); clear hk1 hka)
    | (go_at_call 37; refine (unhide (HE _ (unhide HK1))).mono ?_; rintro e w2 ⟨rfl, hk2⟩; have hkb := hk2.alloc (.cells #[.int .i64 T2, .bool O2] 80); have HBA2 := hide ((hkb.block _ (lt_of_block (unhide HBA)) id).trans (unhide HBA)); have HBB := hide (heap_alloc_new w2 (.cells #[.int .i64 T2, .bool O2] 80)); have HK2 := hide ((unhide HK1).trans hkb); clear hk2 hkb))
  have hA := unhide HBA2
  have hB := unhide HBB
  have SK : ∀ w', Keeps (fun _ => False) (w2.alloc (.cells #[.int .i64 T2, .bool O2] 80)) w' → w'.cell? ⟨w1.heap.size, 0, none⟩ = some (.int .i64 T) ∧ w'.cell? ⟨w1.heap.size, 1, none⟩ = some (.bool O) ∧ w'.cell? ⟨w2.heap.size, 0, none⟩ = some (.int .i64 T2) ∧ w'.cell? ⟨w2.heap.size, 1, none⟩ = some (.bool O2) := fun w' hk => by
    have k0 := (hk.block _ (lt_of_block hA) id).trans hA
    have k1 := (hk.block _ (lt_of_block hB) id).trans hB
    exact ⟨by rw [cell_of_blk k0]; rfl, by rw [cell_of_blk k0]; rfl, by rw [cell_of_blk k1]; rfl, by rw [cell_of_blk k1]; rfl⟩
  have HSK := hide SK
  have HL : Hid (Lay (w2.alloc (.cells #[.int .i64 T2, .bool O2] 80)) [] (w2.alloc (.cells #[.int .i64 T2, .bool O2] 80))) := ⟨Keeps.refl _ _, fun p hp => by simp at hp⟩
  clear hA hB SK HBA HBA2 HBB d1 HE HN HSB
  go_region_held3 (fun w' => w'.cell? ⟨w1.heap.size, 0, none⟩ = some (.int .i64 T) ∧ w'.cell? ⟨w1.heap.size, 1, none⟩ = some (.bool O) ∧ w'.cell? ⟨w2.heap.size, 0, none⟩ = some (.int .i64 T2) ∧ w'.cell? ⟨w2.heap.size, 1, none⟩ = some (.bool O2))
    (first | with_reducible exact unhide HSK _ (unhide HL).kept | with_reducible exact unhide HSK _ ((unhide HL).lay _).kept | with_reducible exact unhide HSK _ (((unhide HL).lay _).lay _).kept | with_reducible exact unhide HSK _ (unhide HL).kept.drew | with_reducible exact unhide HSK _ ((unhide HL).lay _).kept.drew | with_reducible exact unhide HSK _ (((unhide HL).lay _).lay _).kept.drew | with_reducible exact unhide HSK _ ((unhide HL).kept.alloc _) | with_reducible exact unhide HSK _ ((unhide HL).drew.lay _).kept | with_reducible exact unhide HSK _ (((unhide HL).drew.lay _).lay _).kept)
    ((first
    | (go_at_call 99; refine (isOf_lay ⟨T, O⟩ (by first | with_reducible exact unhide HL | with_reducible exact (unhide HL).lay _ | with_reducible exact ((unhide HL).lay _).lay _ | with_reducible exact (unhide HL).drew.lay _ | with_reducible exact ((unhide HL).drew.lay _).lay _ | with_reducible exact ((unhide HL).lay _).drew | with_reducible exact (((unhide HL).lay _).lay _).drew) (t := 1) (by simp)).mono ?_; rintro e w3 ⟨rfl, hl1⟩; have HL := hide hl1; clear hl1)
    | (go_at_call 93; refine (isPlain_lay ⟨T2, O2⟩ (by first | with_reducible exact unhide HL | with_reducible exact (unhide HL).lay _ | with_reducible exact ((unhide HL).lay _).lay _ | with_reducible exact (unhide HL).drew.lay _ | with_reducible exact ((unhide HL).drew.lay _).lay _ | with_reducible exact ((unhide HL).lay _).drew | with_reducible exact (((unhide HL).lay _).lay _).drew) (t := 1) (by simp)).mono ?_; rintro e w3 ⟨rfl, hl1⟩; have HL := hide hl1; clear hl1)
    | (go_at_call 96; refine (or_lay E E2 (ofI ⟨T, O⟩ [1]) (plainI ⟨T2, O2⟩ [1]) (unhide HL)).mono ?_; rintro e w3 ⟨rfl, hl1⟩; have HL := hide hl1; clear hl1)))
  all_goals go_wp2_with fail
  all_goals (go_ret; exact ⟨rfl, (unhide HK2).trans (unhide HL).kept⟩)
end Go.Proofs.YtoempeobaknkcaaGreatDoor
