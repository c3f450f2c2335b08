import Derived.Test.YtoempeobaknkcaaGreatDoorJyas
import Derived.Test.YtoempeobaknkcaaGreatDoorJyal
import Derived.Test.YtoempeobaknkcaaGreatDoorJyat
namespace Go.Proofs.YtoempeobaknkcaaGreatDoor
open Go.RowKit Go.Maps

/-- The number of the first statement of a list that goes wrong on one of two rows; -1: none does. -/
def firstW (S : List FieldA) (ra rb : List Int) : SL → Nat → Int
  | .nil, _ => -1
  | .cons op f x _ _ r, k => if wrongG S ra op f x || wrongG S rb op f x then (k : Int) else firstW S ra rb r (k + 1)
theorem firstW_low (S : List FieldA) (ra rb : List Int) : ∀ (l : SL) (k : Nat), firstW S ra rb l k = -1 ∨ ((k : Int) ≤ firstW S ra rb l k ∧ firstW S ra rb l k < (k : Int) + l.len)
  | .nil, _ => Or.inl rfl
  | .cons op f x t e r, k => by
    unfold firstW
    split
    · right; simp only [SL.len]; omega
    · rcases firstW_low S ra rb r (k + 1) with h | h
      · exact Or.inl h
      · right; simp only [SL.len]; omega
theorem firstW_shift (S : List FieldA) (ra rb : List Int) : ∀ (l : SL) (k d : Nat), firstW S ra rb l (k + d) = if 0 ≤ firstW S ra rb l k then firstW S ra rb l k + d else -1
  | .nil, _, _ => rfl
  | .cons op f x t e r, k, d => by
    unfold firstW
    split
    · rw [if_pos (by omega)]; omega
    · rw [show k + d + 1 = k + 1 + d by omega]
      exact firstW_shift S ra rb r (k + 1) d
theorem firstW_app (S : List FieldA) (ra rb : List Int) : ∀ (l m : SL) (k : Nat), firstW S ra rb (l.app m) k = if 0 ≤ firstW S ra rb l k then firstW S ra rb l k else firstW S ra rb m (k + l.len)
  | .nil, m, k => by simp [SL.app, firstW, SL.len]
  | .cons op f x t e r, m, k => by
    have ih := firstW_app S ra rb r m (k + 1)
    have hc : firstW S ra rb (.cons op f x t e r) k = if wrongG S ra op f x || wrongG S rb op f x then (k : Int) else firstW S ra rb r (k + 1) := rfl
    show (if wrongG S ra op f x || wrongG S rb op f x then (k : Int) else firstW S ra rb (r.app m) (k + 1)) = _
    by_cases h : (wrongG S ra op f x || wrongG S rb op f x) = true
    · rw [if_pos h] at hc ⊢
      rw [hc, if_pos (by omega)]
    · rw [if_neg h] at hc ⊢
      rw [hc, ih, show (SL.cons op f x t e r).len = r.len + 1 from rfl, show k + 1 + r.len = k + (r.len + 1) by omega]
/-- One round of the loop. -/
theorem firstW_step (S : List FieldA) (ra rb : List Int) (op : Int) (f : Txt) (x : EL) (t e r : SL) (n : Nat) :
    firstW S ra rb (flatS (.cons op f x t e r)) n = if wrongG S ra op f x || wrongG S rb op f x then (n : Int) else if 0 ≤ firstW S ra rb (flatS t) 0 then ((n + 1 : Nat) : Int) + firstW S ra rb (flatS t) 0
      else if 0 ≤ firstW S ra rb (flatS e) 0 then ((n + 1 + countS t : Nat) : Int) + firstW S ra rb (flatS e) 0 else firstW S ra rb (flatS r) (n + 1 + countS t + countS e) := by
  rw [flatS]
  rw [firstW]
  split
  · rfl
  · rw [firstW_app, firstW_app, flatS_len, flatS_len]
    have h1 := firstW_shift S ra rb (flatS t) 0 (n + 1)
    have h2 := firstW_shift S ra rb (flatS e) 0 (n + 1 + countS t)
    rw [Nat.zero_add] at h1 h2
    rw [h1, h2]
    by_cases a : 0 ≤ firstW S ra rb (flatS t) 0
    · rw [if_pos a, if_pos a, if_pos (by omega)]; omega
    · rw [if_neg a, if_neg a, if_neg (by omega)]
      by_cases c : 0 ≤ firstW S ra rb (flatS e) 0
      · rw [if_pos c, if_pos c, if_pos (by omega)]; omega
      · rw [if_neg c, if_neg c, if_neg (by omega)]
/-- What the walk over a program answers. -/
def FPost (S : List FieldA) (ra rb : List Int) (l : SL) (w : World) (e : Ending) (w' : World) : Prop := e = .returned (.tuple #[.int .i64 (firstW S ra rb (flatS l) 0), .int .i64 (countS l : Int)]) ∧ Keeps (fun _ => False) w w'

end Go.Proofs.YtoempeobaknkcaaGreatDoor
namespace Go.Proofs.YtoempeobaknkcaaGreatDoor
open Go.RowKit Go.Maps

def setO (k d : KA) : Int := orL [0, 0, ofI k [d.t], if k.o = true ∧ d.o = false then 92 else 0]
def setW (v : Int) (d : KA) : Bool := v != d.t && (v != 0 || !d.o)
def chgO (k d : KA) : Int := orL [0, 0, ofI d [1], plainI k [1]]
def chgW (v : Int) (d : KA) : Bool := d.t != 1 || v != 1
def ifO (k : KA) : Int := orL [0, plainI k [2]]
/-- What is said of an error and of what goes wrong on two rows. -/
def Agr (E : Int) (a b : Bool) : Prop := (E = 0 → (a || b) = false) ∧ (E ≠ 0 → (a || b) = true ∧ (E = 90 ∨ E = 91 ∨ E = 92))
def agrB (E : Int) (a b : Bool) : Bool := if E = 0 then !(a || b) else (a || b) && (decide (E = 91) || decide (E = 92))
theorem agr_of {E : Int} {a b : Bool} (h : agrB E a b = true) : Agr E a b := by
  unfold agrB at h
  split at h
  · rename_i h0
    exact ⟨fun _ => by simpa using h, fun h1 => absurd h0 h1⟩
  · rename_i h0
    simp only [Bool.and_eq_true, Bool.or_eq_true, decide_eq_true_eq] at h
    exact ⟨fun h1 => absurd h1 h0, fun _ => ⟨by simpa using h.1, Or.inr h.2⟩⟩
set_option maxRecDepth 100000 in
theorem set_agr : ∀ k ∈ KAs, ∀ d ∈ KAs, agrB (setO k d) (setW k.t d) (setW k.gone d) = true := by decide
set_option maxRecDepth 100000 in
theorem chg_agr : ∀ k ∈ KAs, ∀ d ∈ KAs, agrB (chgO k d) (chgW k.t d) (chgW k.gone d) = true := by decide
set_option maxRecDepth 100000 in
theorem if_agr : ∀ k ∈ KAs, agrB (ifO k) (k.t != 2) (k.gone != 2) = true := by decide
theorem agr_err {E : Int} {a b : Bool} (h : a = true ∨ b = true) (hE : E = 90 ∨ E = 91 ∨ E = 92) : Agr E a b :=
  ⟨fun h0 => by omega, fun _ => ⟨by rcases h with h | h <;> simp [h], hE⟩⟩
theorem orL_skip (r : List Int) : orL (0 :: r) = orL r := rfl
theorem orL_head {a : Int} (h : a ≠ 0) (r : List Int) : orL (a :: r) = a := by show (if a = 0 then orL r else a) = a; rw [if_neg h]
theorem node_okT {S : List FieldA} (hS : schemaB S = true) {o n : Int} {s : Txt} {kids : EL} (hr : rootB o n s kids.len = true) (hw : wellE kids = true) (h0 : (kindP S o s kids).2 = 0) : okT (kindP S o s kids).1.t := by
  have hc := kindsP_cons S o n s kids .nil
  have hk0 : (kindsP S (.cons o n s kids .nil)).2 = 0 := by rw [hc]; simp [h0, kindsP]
  have := kinds_okT hS (.cons o n s kids .nil) (by simp [wellE, hr, hw]) hk0 (kindP S o s kids).1 (by rw [hc]; simp [h0, kindsP])
  exact this
/-- A statement is refused just if it goes wrong on one of the two rows. -/
theorem own_agr {S : List FieldA} (hS : schemaB S = true) {op : Int} {f : Txt} {x : EL} {t e : Nat} (hh : headS op f x.len t e = true) (hw : wellE x = true) :
    Agr (ownP S op f x) (wrongG S (rowH S) op f x) (wrongG S (rowG S) op f x) := by
  rcases head_open hh with ⟨h1, _, hl⟩ | ⟨rfl, _, rfl⟩ | ⟨h1, rfl⟩ | ⟨rfl, hl⟩
  · obtain ⟨o, n, s, kids, rfl⟩ := EL.one_of hl
    simp only [wellE, Bool.and_eq_true] at hw
    have hnode : NodeOK S o s kids := (right_pure hS (.cons o n s kids .nil) (by simp [wellE, hw.1, hw.2.1])).1.1
    have hok := node_okT hS (n := n) hw.1 hw.2.1
    show Agr _ (wrongK S op f (nodeG S (rowH S) o s kids)) (wrongK S op f (nodeG S (rowG S) o s kids))
    cases hfo : fieldOf S f with
    | none =>
      have hn : namedK S f = (⟨0, false⟩, 90) := by unfold namedK; rw [hfo]
      have ho : ownP S op f (.cons o n s kids .nil) = 90 := by
        unfold ownP
        rcases h1 with rfl | rfl | rfl | rfl
        · rw [if_pos rfl, hn]; rfl
        all_goals rw [if_neg (by decide), if_pos (by decide), hn]; rfl
      rw [ho]
      refine agr_err (Or.inl ?_) (Or.inl rfl)
      cases nodeG S (rowH S) o s kids with
      | none => rfl
      | some k => rw [wrongK_f (by omega)]; unfold fieldW; rw [hfo]
    | some d =>
      have hn : namedK S f = (⟨d.type, d.opt⟩, 0) := by unfold namedK; rw [hfo]
      have hd := mem_KAs (k := ⟨d.type, d.opt⟩) (field_okT hS hfo)
      have hhk : headK S (.cons o n s kids .nil) = kindP S o s kids := rfl
      by_cases hE : (kindP S o s kids).2 = 0
      · obtain ⟨a1, a2, _⟩ := hnode.1 hE
        have hk := mem_KAs (hok hE)
        rw [a1, a2]
        rcases h1 with rfl | h1
        · have ho : ownP S 1 f (.cons o n s kids .nil) = setO (kindP S o s kids).1 ⟨d.type, d.opt⟩ := by
            unfold ownP
            rw [if_pos rfl, hn, hhk, hE]
            rfl
          have hwk : ∀ v, wrongK S 1 f (some v) = setW v ⟨d.type, d.opt⟩ := fun v => by
            rw [wrongK_f (by omega)]; unfold fieldW; rw [hfo]; rfl
          rw [ho, hwk, hwk]
          exact agr_of (set_agr _ hk _ hd)
        · have ho : ownP S op f (.cons o n s kids .nil) = chgO (kindP S o s kids).1 ⟨d.type, d.opt⟩ := by
            unfold ownP
            rw [if_neg (by omega), if_pos h1, hn, hhk, hE]
            rfl
          have hwk : ∀ v, wrongK S op f (some v) = chgW v ⟨d.type, d.opt⟩ := fun v => by
            rw [wrongK_f (by omega)]; unfold fieldW; rw [hfo]
            simp only
            rw [if_neg (by omega), if_neg (by omega)]
            rfl
          rw [ho, hwk, hwk]
          exact agr_of (chg_agr _ hk _ hd)
      · obtain ⟨a1, a2⟩ := hnode.2 hE
        have ho : ownP S op f (.cons o n s kids .nil) = (kindP S o s kids).2 := by
          unfold ownP
          rcases h1 with rfl | h1
          · rw [if_pos rfl, hn, hhk, orL_skip, orL_head hE]
          · rw [if_neg (by omega), if_pos h1, hn, hhk, orL_skip, orL_head hE]
        rw [ho]
        refine agr_err ?_ a2
        rcases a1 with a | a
        · left; rw [a]; rfl
        · right; rw [a]; rfl
  · show Agr _ (wrongK S 5 f (some 0)) (wrongK S 5 f (some 0))
    rw [wrongK_f (by omega)]
    have ho : ownP S 5 f .nil = orL [(namedK S f).2, optI (namedK S f).1] := rfl
    rw [ho]
    unfold namedK fieldW
    cases fieldOf S f with
    | none => exact agr_err (Or.inl rfl) (Or.inl rfl)
    | some d =>
      obtain ⟨nm, ty, op'⟩ := d
      cases op' with
      | true => exact ⟨fun _ => rfl, fun h => absurd rfl h⟩
      | false => exact agr_err (Or.inl rfl) (Or.inr (Or.inr rfl))
  · rcases h1 with rfl | rfl
    · exact ⟨fun _ => rfl, fun h => absurd rfl h⟩
    · exact ⟨fun _ => rfl, fun h => absurd rfl h⟩
  · obtain ⟨o, n, s, kids, rfl⟩ := EL.one_of hl
    simp only [wellE, Bool.and_eq_true] at hw
    have hnode : NodeOK S o s kids := (right_pure hS (.cons o n s kids .nil) (by simp [wellE, hw.1, hw.2.1])).1.1
    have hok := node_okT hS (n := n) hw.1 hw.2.1
    show Agr _ (wrongK S 8 f (nodeG S (rowH S) o s kids)) (wrongK S 8 f (nodeG S (rowG S) o s kids))
    have hO : ownP S 8 f (.cons o n s kids .nil) = orL [(kindP S o s kids).2, plainI (kindP S o s kids).1 [2]] := rfl
    rw [hO]
    by_cases hE : (kindP S o s kids).2 = 0
    · obtain ⟨a1, a2, _⟩ := hnode.1 hE
      rw [a1, a2, hE]
      exact agr_of (if_agr _ (mem_KAs (hok hE)))
    · obtain ⟨a1, a2⟩ := hnode.2 hE
      rw [orL_head hE]
      refine agr_err ?_ a2
      rcases a1 with a | a
      · left; rw [a]; rfl
      · right; rw [a]; rfl
/-- Of a list: the first one that is refused is the first one that goes wrong. -/
theorem bad_first {S : List FieldA} (hS : schemaB S = true) {N : Nat} : ∀ (l : SL) (k : Nat), wellF N l → 
    (firstW S (rowH S) (rowG S) l k < 0 → firstBad S l k = (0, 0)) ∧ (0 ≤ firstW S (rowH S) (rowG S) l k → ((firstBad S l k).2 : Int) = firstW S (rowH S) (rowG S) l k ∧ ((firstBad S l k).1 = 90 ∨ (firstBad S l k).1 = 91 ∨ (firstBad S l k).1 = 92))
  | .nil, _, _ => ⟨fun _ => rfl, fun h => by simp [firstW] at h⟩
  | .cons op f x t e r, k, ⟨h1, h2, _, h4⟩ => by
    have ih := bad_first hS r (k + 1) h4
    obtain ⟨ha, hb⟩ := own_agr hS h1 h2
    have hw : firstW S (rowH S) (rowG S) (.cons op f x t e r) k = if wrongG S (rowH S) op f x || wrongG S (rowG S) op f x then (k : Int) else firstW S (rowH S) (rowG S) r (k + 1) := rfl
    have hf : firstBad S (.cons op f x t e r) k = if ownP S op f x ≠ 0 then (ownP S op f x, k) else firstBad S r (k + 1) := rfl
    by_cases h0 : ownP S op f x = 0
    · rw [if_neg (by simpa using h0)] at hf
      rw [ha h0, if_neg (by simp)] at hw
      rw [hw, hf]
      exact ih
    · rw [if_pos h0] at hf
      rw [(hb h0).1, if_pos rfl] at hw
      rw [hw, hf]
      exact ⟨fun h => by omega, fun _ => ⟨rfl, (hb h0).2⟩⟩
end Go.Proofs.YtoempeobaknkcaaGreatDoor
namespace Go.Proofs.YtoempeobaknkcaaGreatDoor
open Go.RowKit Go.Maps

theorem checkS_well {l : SL} (h : checkS l = 0) : wellS l = true := by
  unfold checkS at h
  split at h
  · cases h
  · rename_i h0; simpa using h0

end Go.Proofs.YtoempeobaknkcaaGreatDoor
namespace Go.Proofs.YtoempeobaknkcaaGreatDoor
open Go.RowKit Go.Maps

set_option maxRecDepth 100000 in
set_option maxHeartbeats 4000000 in
theorem own5x (S : List FieldA) (hS : schemaB S = true) (so : Option Addr) (sc : Nat) (f : Txt) (xo tz eo : Option Addr) (xn xc tn tc en ec : Nat) (w : World) (hf : FldsAt w (.slice so S.length sc) S) (hno : fieldOf S f = none) :
    Calls Tryz.prog 43 #[.agg #[.slice so S.length sc], stV 5 f (.slice xo xn xc) (.slice tz tn tc) (.slice eo en ec)] w fun e w' => e = .returned (.int .i64 90) ∧ Keeps (fun _ => False) w w' := by
  have hl8 := schema_8 hS
  obtain ⟨HX, hxb, hxc⟩ := boxedT w #[.slice so S.length sc] 24
  obtain ⟨HY, hyb, hyc⟩ := boxedT (w.alloc (.cells #[.slice so S.length sc] 24)) #[.int .i64 5, str f, .slice xo xn xc, .slice tz tn tc, .slice eo en ec] 53
  rw [World.size_alloc] at hyc hyb
  have HK0 := hide ((unhide HX).trans (unhide HY))
  have SB : ∀ w', Keeps (fun _ => False) ((w.alloc (.cells #[.slice so S.length sc] 24)).alloc (.cells #[.int .i64 5, str f, .slice xo xn xc, .slice tz tn tc, .slice eo en ec] 53)) w' → w'.cell? ⟨w.heap.size, 0, none⟩ = some (.slice so S.length sc) ∧ w'.cell? ⟨w.heap.size + 1, 0, none⟩ = some (.int .i64 5) ∧ w'.cell? ⟨w.heap.size + 1, 1, none⟩ = some (str f) := fun w' hk =>
    ⟨(((unhide HY).trans hk).cell hxb id).trans (hxc 0 _ rfl), (hk.cell hyb id).trans (hyc 0 _ rfl), (hk.cell hyb id).trans (hyc 1 _ rfl)⟩
  have y := SB _ (Keeps.refl _ _)
  have HSB := hide SB
  have HFI := hide (refField_no S (.slice so S.length sc) f _ (hf.keepF (unhide HK0)) hl8 hno)
  clear hf hxc hyc SB HX HY hno
  go_enter Tryz.func43, Tryz.ntmps43
  go_wp2_with (go_at_call 64; refine (unhide HFI).mono ?_; rintro e w1 ⟨rfl, hk1⟩; have y1 := unhide HSB _ hk1; have HK0 := hide ((unhide HK0).trans hk1); clear hk1)
  go_ret
  exact ⟨rfl, unhide HK0⟩

set_option maxRecDepth 100000 in
set_option maxHeartbeats 4000000 in
theorem own5true (S : List FieldA) (hS : schemaB S = true) (so : Option Addr) (sc : Nat) (f : Txt) (xo tz eo : Option Addr) (xn xc tn tc en ec : Nat) (w : World) (hf : FldsAt w (.slice so S.length sc) S) (kf : Nat) (nm : Txt) (DT : Int) (DO : Bool) (hDO : DO = true) (hkf : S[kf]? = some ⟨nm, DT, DO⟩) (hsome : fieldOf S f = some ⟨nm, DT, DO⟩) :
    Calls Tryz.prog 43 #[.agg #[.slice so S.length sc], stV 5 f (.slice xo xn xc) (.slice tz tn tc) (.slice eo en ec)] w fun e w' => e = .returned (.int .i64 0) ∧ Keeps (fun _ => False) w w' := by
  have hl8 := schema_8 hS
  subst hDO
  have hkl := get_lt hkf
  obtain ⟨fb, foff, fc, fe, hfb, hfc⟩ := FldsAt.cells hf (by omega)
  simp only [Value.slice.injEq] at fe
  obtain ⟨rfl, _, rfl⟩ := fe
  have g1 : ¬ (kf : Int) < 0 := by omega
  have g1' : decide ((kf : Int) < 0) = false := decide_eq_false g1
  have i1 : (kf : Int) < (S.length : Int) := by omega
  have i0 : (0 : Int) ≤ (kf : Int) := by omega
  obtain ⟨HX, hxb, hxc⟩ := boxedT w #[.slice (some ⟨fb, foff, none⟩) S.length sc] 24
  obtain ⟨HY, hyb, hyc⟩ := boxedT (w.alloc (.cells #[.slice (some ⟨fb, foff, none⟩) S.length sc] 24)) #[.int .i64 5, str f, .slice xo xn xc, .slice tz tn tc, .slice eo en ec] 53
  rw [World.size_alloc] at hyc hyb
  have HK0 := hide ((unhide HX).trans (unhide HY))
  have SB : ∀ w', Keeps (fun _ => False) ((w.alloc (.cells #[.slice (some ⟨fb, foff, none⟩) S.length sc] 24)).alloc (.cells #[.int .i64 5, str f, .slice xo xn xc, .slice tz tn tc, .slice eo en ec] 53)) w' → w'.cell? ⟨w.heap.size, 0, none⟩ = some (.slice (some ⟨fb, foff, none⟩) S.length sc) ∧ w'.cell? ⟨w.heap.size + 1, 0, none⟩ = some (.int .i64 5) ∧ w'.cell? ⟨w.heap.size + 1, 1, none⟩ = some (str f) ∧ w'.cell? ⟨fb, foff + kf * 3, none⟩ = some (str nm) ∧ w'.cell? ⟨fb, foff + kf * 3 + 1, none⟩ = some (.int .i64 DT) ∧ w'.cell? ⟨fb, foff + kf * 3 + 2, none⟩ = some (.bool true) := fun w' hk =>
    ⟨(((unhide HY).trans hk).cell hxb id).trans (hxc 0 _ rfl), (hk.cell hyb id).trans (hyc 0 _ rfl), (hk.cell hyb id).trans (hyc 1 _ rfl), (((unhide HK0).trans hk).cell hfb id).trans (hfc kf _ hkf).1, (((unhide HK0).trans hk).cell hfb id).trans (hfc kf _ hkf).2.1, (((unhide HK0).trans hk).cell hfb id).trans (hfc kf _ hkf).2.2⟩
  have y := SB _ (Keeps.refl _ _)
  have HSB := hide SB
  have HFI := hide (refField_at S hS (.slice (some ⟨fb, foff, none⟩) S.length sc) f _ (hf.keepF (unhide HK0)) hl8 kf _ hkf hsome)
  clear hf hxc hyc SB HX HY hfc hkf hsome
  go_enter Tryz.func43, Tryz.ntmps43
  go_wp2_with (go_at_call 64; refine (unhide HFI).mono ?_; rintro e w1 ⟨rfl, hk1⟩; have y1 := unhide HSB _ hk1; have HK0 := hide ((unhide HK0).trans hk1); clear hk1)
  go_ret
  exact ⟨rfl, unhide HK0⟩

set_option maxRecDepth 100000 in
set_option maxHeartbeats 4000000 in
theorem own5false (S : List FieldA) (hS : schemaB S = true) (so : Option Addr) (sc : Nat) (f : Txt) (xo tz eo : Option Addr) (xn xc tn tc en ec : Nat) (w : World) (hf : FldsAt w (.slice so S.length sc) S) (kf : Nat) (nm : Txt) (DT : Int) (DO : Bool) (hDO : DO = false) (hkf : S[kf]? = some ⟨nm, DT, DO⟩) (hsome : fieldOf S f = some ⟨nm, DT, DO⟩) :
    Calls Tryz.prog 43 #[.agg #[.slice so S.length sc], stV 5 f (.slice xo xn xc) (.slice tz tn tc) (.slice eo en ec)] w fun e w' => e = .returned (.int .i64 92) ∧ Keeps (fun _ => False) w w' := by
  have hl8 := schema_8 hS
  subst hDO
  have hkl := get_lt hkf
  obtain ⟨fb, foff, fc, fe, hfb, hfc⟩ := FldsAt.cells hf (by omega)
  simp only [Value.slice.injEq] at fe
  obtain ⟨rfl, _, rfl⟩ := fe
  have g1 : ¬ (kf : Int) < 0 := by omega
  have g1' : decide ((kf : Int) < 0) = false := decide_eq_false g1
  have i1 : (kf : Int) < (S.length : Int) := by omega
  have i0 : (0 : Int) ≤ (kf : Int) := by omega
  obtain ⟨HX, hxb, hxc⟩ := boxedT w #[.slice (some ⟨fb, foff, none⟩) S.length sc] 24
  obtain ⟨HY, hyb, hyc⟩ := boxedT (w.alloc (.cells #[.slice (some ⟨fb, foff, none⟩) S.length sc] 24)) #[.int .i64 5, str f, .slice xo xn xc, .slice tz tn tc, .slice eo en ec] 53
  rw [World.size_alloc] at hyc hyb
  have HK0 := hide ((unhide HX).trans (unhide HY))
  have SB : ∀ w', Keeps (fun _ => False) ((w.alloc (.cells #[.slice (some ⟨fb, foff, none⟩) S.length sc] 24)).alloc (.cells #[.int .i64 5, str f, .slice xo xn xc, .slice tz tn tc, .slice eo en ec] 53)) w' → w'.cell? ⟨w.heap.size, 0, none⟩ = some (.slice (some ⟨fb, foff, none⟩) S.length sc) ∧ w'.cell? ⟨w.heap.size + 1, 0, none⟩ = some (.int .i64 5) ∧ w'.cell? ⟨w.heap.size + 1, 1, none⟩ = some (str f) ∧ w'.cell? ⟨fb, foff + kf * 3, none⟩ = some (str nm) ∧ w'.cell? ⟨fb, foff + kf * 3 + 1, none⟩ = some (.int .i64 DT) ∧ w'.cell? ⟨fb, foff + kf * 3 + 2, none⟩ = some (.bool false) := fun w' hk =>
    ⟨(((unhide HY).trans hk).cell hxb id).trans (hxc 0 _ rfl), (hk.cell hyb id).trans (hyc 0 _ rfl), (hk.cell hyb id).trans (hyc 1 _ rfl), (((unhide HK0).trans hk).cell hfb id).trans (hfc kf _ hkf).1, (((unhide HK0).trans hk).cell hfb id).trans (hfc kf _ hkf).2.1, (((unhide HK0).trans hk).cell hfb id).trans (hfc kf _ hkf).2.2⟩
  have y := SB _ (Keeps.refl _ _)
  have HSB := hide SB
  have HFI := hide (refField_at S hS (.slice (some ⟨fb, foff, none⟩) S.length sc) f _ (hf.keepF (unhide HK0)) hl8 kf _ hkf hsome)
  clear hf hxc hyc SB HX HY hfc hkf hsome
  go_enter Tryz.func43, Tryz.ntmps43
  go_wp2_with (go_at_call 64; refine (unhide HFI).mono ?_; rintro e w1 ⟨rfl, hk1⟩; have y1 := unhide HSB _ hk1; have HK0 := hide ((unhide HK0).trans hk1); clear hk1)
  go_ret
  exact ⟨rfl, unhide HK0⟩

set_option maxRecDepth 100000 in
set_option maxHeartbeats 4000000 in
theorem own6 (S : List FieldA) (hS : schemaB S = true) (so : Option Addr) (sc : Nat) (f : Txt) (xo tz eo : Option Addr) (xn xc tn tc en ec : Nat) (w : World) (_hf : FldsAt w (.slice so S.length sc) S) :
    Calls Tryz.prog 43 #[.agg #[.slice so S.length sc], stV 6 f (.slice xo xn xc) (.slice tz tn tc) (.slice eo en ec)] w fun e w' => e = .returned (.int .i64 0) ∧ Keeps (fun _ => False) w w' := by
  have hl8 := schema_8 hS
  obtain ⟨HX, hxb, hxc⟩ := boxedT w #[.slice so S.length sc] 24
  obtain ⟨HY, hyb, hyc⟩ := boxedT (w.alloc (.cells #[.slice so S.length sc] 24)) #[.int .i64 6, str f, .slice xo xn xc, .slice tz tn tc, .slice eo en ec] 53
  rw [World.size_alloc] at hyc hyb
  have HK0 := hide ((unhide HX).trans (unhide HY))
  have SB : ∀ w', Keeps (fun _ => False) ((w.alloc (.cells #[.slice so S.length sc] 24)).alloc (.cells #[.int .i64 6, str f, .slice xo xn xc, .slice tz tn tc, .slice eo en ec] 53)) w' → w'.cell? ⟨w.heap.size, 0, none⟩ = some (.slice so S.length sc) ∧ w'.cell? ⟨w.heap.size + 1, 0, none⟩ = some (.int .i64 6) ∧ w'.cell? ⟨w.heap.size + 1, 1, none⟩ = some (str f) := fun w' hk =>
    ⟨(((unhide HY).trans hk).cell hxb id).trans (hxc 0 _ rfl), (hk.cell hyb id).trans (hyc 0 _ rfl), (hk.cell hyb id).trans (hyc 1 _ rfl)⟩
  have y := SB _ (Keeps.refl _ _)
  have HSB := hide SB
  clear hxc hyc SB HX HY
  go_enter Tryz.func43, Tryz.ntmps43
  go_wp2_with fail
  go_ret
  exact ⟨rfl, unhide HK0⟩

set_option maxRecDepth 100000 in
set_option maxHeartbeats 4000000 in
theorem own7 (S : List FieldA) (hS : schemaB S = true) (so : Option Addr) (sc : Nat) (f : Txt) (xo tz eo : Option Addr) (xn xc tn tc en ec : Nat) (w : World) (_hf : FldsAt w (.slice so S.length sc) S) :
    Calls Tryz.prog 43 #[.agg #[.slice so S.length sc], stV 7 f (.slice xo xn xc) (.slice tz tn tc) (.slice eo en ec)] w fun e w' => e = .returned (.int .i64 0) ∧ Keeps (fun _ => False) w w' := by
  have hl8 := schema_8 hS
  obtain ⟨HX, hxb, hxc⟩ := boxedT w #[.slice so S.length sc] 24
  obtain ⟨HY, hyb, hyc⟩ := boxedT (w.alloc (.cells #[.slice so S.length sc] 24)) #[.int .i64 7, str f, .slice xo xn xc, .slice tz tn tc, .slice eo en ec] 53
  rw [World.size_alloc] at hyc hyb
  have HK0 := hide ((unhide HX).trans (unhide HY))
  have SB : ∀ w', Keeps (fun _ => False) ((w.alloc (.cells #[.slice so S.length sc] 24)).alloc (.cells #[.int .i64 7, str f, .slice xo xn xc, .slice tz tn tc, .slice eo en ec] 53)) w' → w'.cell? ⟨w.heap.size, 0, none⟩ = some (.slice so S.length sc) ∧ w'.cell? ⟨w.heap.size + 1, 0, none⟩ = some (.int .i64 7) ∧ w'.cell? ⟨w.heap.size + 1, 1, none⟩ = some (str f) := fun w' hk =>
    ⟨(((unhide HY).trans hk).cell hxb id).trans (hxc 0 _ rfl), (hk.cell hyb id).trans (hyc 0 _ rfl), (hk.cell hyb id).trans (hyc 1 _ rfl)⟩
  have y := SB _ (Keeps.refl _ _)
  have HSB := hide SB
  clear hxc hyc SB HX HY
  go_enter Tryz.func43, Tryz.ntmps43
  go_wp2_with fail
  go_ret
  exact ⟨rfl, unhide HK0⟩
end Go.Proofs.YtoempeobaknkcaaGreatDoor
