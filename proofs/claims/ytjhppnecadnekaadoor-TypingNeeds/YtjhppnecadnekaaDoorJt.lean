import Derived.Test.YtjhppnecadnekaaDoorQc
import Derived.Test.YtjhppnecadnekaaDoorJr
import Derived.Test.YtjhppnecadnekaaDoorMc
namespace Go.Proofs.YtjhppnecadnekaaDoor
open Go.RowKit Go.Maps

def setO (k d : KA) : Int := orL [0, 0, ofI k [d.t], if k.o = true ∧ d.o = false then 92 else 0]
def setW (v : Int) (d : KA) : Bool := v != d.t && (v != 0 || !d.o)
def chgO (k d : KA) : Int := orL [0, 0, ofI d [1], plainI k [1]]
def chgW (v : Int) (d : KA) : Bool := d.t != 1 || v != 1
def ifO (k : KA) : Int := orL [0, plainI k [2]]
/-- What is said of an error and of what goes wrong on two rows. -/
def Agr (E : Int) (a b : Bool) : Prop := (E = 0 → (a || b) = false) ∧ (E ≠ 0 → (a || b) = true ∧ (E = 90 ∨ E = 91 ∨ E = 92))
def agrB (E : Int) (a b : Bool) : Bool := if E = 0 then !(a || b) else (a || b) && (decide (E = 91) || decide (E = 92))
theorem agr_of {E : Int} {a b : Bool} (h : agrB E a b = true) : Agr E a b := by
  unfold agrB at h
  split at h
  · rename_i h0
    exact ⟨fun _ => by simpa using h, fun h1 => absurd h0 h1⟩
  · rename_i h0
    simp only [Bool.and_eq_true, Bool.or_eq_true, decide_eq_true_eq] at h
    exact ⟨fun h1 => absurd h1 h0, fun _ => ⟨by simpa using h.1, Or.inr h.2⟩⟩
set_option maxRecDepth 100000 in
theorem set_agr : ∀ k ∈ KAs, ∀ d ∈ KAs, agrB (setO k d) (setW k.t d) (setW k.gone d) = true := by decide
set_option maxRecDepth 100000 in
theorem chg_agr : ∀ k ∈ KAs, ∀ d ∈ KAs, agrB (chgO k d) (chgW k.t d) (chgW k.gone d) = true := by decide
set_option maxRecDepth 100000 in
theorem if_agr : ∀ k ∈ KAs, agrB (ifO k) (k.t != 2) (k.gone != 2) = true := by decide
theorem agr_err {E : Int} {a b : Bool} (h : a = true ∨ b = true) (hE : E = 90 ∨ E = 91 ∨ E = 92) : Agr E a b :=
  ⟨fun h0 => by omega, fun _ => ⟨by rcases h with h | h <;> simp [h], hE⟩⟩
theorem orL_skip (r : List Int) : orL (0 :: r) = orL r := rfl
theorem orL_head {a : Int} (h : a ≠ 0) (r : List Int) : orL (a :: r) = a := by show (if a = 0 then orL r else a) = a; rw [if_neg h]
theorem node_okT {S : List FieldA} (hS : schemaB S = true) {o n : Int} {s : Txt} {kids : EL} (hr : rootB o n s kids.len = true) (hw : wellE kids = true) (h0 : (kindP S o s kids).2 = 0) : okT (kindP S o s kids).1.t := by
  have hc := kindsP_cons S o n s kids .nil
  have hk0 : (kindsP S (.cons o n s kids .nil)).2 = 0 := by rw [hc]; simp [h0, kindsP]
  have := kinds_okT hS (.cons o n s kids .nil) (by simp [wellE, hr, hw]) hk0 (kindP S o s kids).1 (by rw [hc]; simp [h0, kindsP])
  exact this
/-- A statement is refused just if it goes wrong on one of the two rows. -/
theorem own_agr {S : List FieldA} (hS : schemaB S = true) {op : Int} {f : Txt} {x : EL} {t e : Nat} (hh : headS op f x.len t e = true) (hw : wellE x = true) :
    Agr (ownP S op f x) (wrongG S (rowH S) op f x) (wrongG S (rowG S) op f x) := by
  rcases head_open hh with ⟨h1, _, hl⟩ | ⟨rfl, _, rfl⟩ | ⟨h1, rfl⟩ | ⟨rfl, hl⟩
  · obtain ⟨o, n, s, kids, rfl⟩ := EL.one_of hl
    simp only [wellE, Bool.and_eq_true] at hw
    have hnode : NodeOK S o s kids := (right_pure hS (.cons o n s kids .nil) (by simp [wellE, hw.1, hw.2.1])).1.1
    have hok := node_okT hS (n := n) hw.1 hw.2.1
    show Agr _ (wrongK S op f (nodeG S (rowH S) o s kids)) (wrongK S op f (nodeG S (rowG S) o s kids))
    cases hfo : fieldOf S f with
    | none =>
      have hn : namedK S f = (⟨0, false⟩, 90) := by unfold namedK; rw [hfo]
      have ho : ownP S op f (.cons o n s kids .nil) = 90 := by
        unfold ownP
        rcases h1 with rfl | rfl | rfl | rfl
        · rw [if_pos rfl, hn]; rfl
        all_goals rw [if_neg (by decide), if_pos (by decide), hn]; rfl
      rw [ho]
      refine agr_err (Or.inl ?_) (Or.inl rfl)
      cases nodeG S (rowH S) o s kids with
      | none => rfl
      | some k => rw [wrongK_f (by omega)]; unfold fieldW; rw [hfo]
    | some d =>
      have hn : namedK S f = (⟨d.type, d.opt⟩, 0) := by unfold namedK; rw [hfo]
      have hd := mem_KAs (k := ⟨d.type, d.opt⟩) (field_okT hS hfo)
      have hhk : headK S (.cons o n s kids .nil) = kindP S o s kids := rfl
      by_cases hE : (kindP S o s kids).2 = 0
      · obtain ⟨a1, a2, _⟩ := hnode.1 hE
        have hk := mem_KAs (hok hE)
        rw [a1, a2]
        rcases h1 with rfl | h1
        · have ho : ownP S 1 f (.cons o n s kids .nil) = setO (kindP S o s kids).1 ⟨d.type, d.opt⟩ := by
            unfold ownP
            rw [if_pos rfl, hn, hhk, hE]
            rfl
          have hwk : ∀ v, wrongK S 1 f (some v) = setW v ⟨d.type, d.opt⟩ := fun v => by
            rw [wrongK_f (by omega)]; unfold fieldW; rw [hfo]; rfl
          rw [ho, hwk, hwk]
          exact agr_of (set_agr _ hk _ hd)
        · have ho : ownP S op f (.cons o n s kids .nil) = chgO (kindP S o s kids).1 ⟨d.type, d.opt⟩ := by
            unfold ownP
            rw [if_neg (by omega), if_pos h1, hn, hhk, hE]
            rfl
          have hwk : ∀ v, wrongK S op f (some v) = chgW v ⟨d.type, d.opt⟩ := fun v => by
            rw [wrongK_f (by omega)]; unfold fieldW; rw [hfo]
            simp only
            rw [if_neg (by omega), if_neg (by omega)]
            rfl
          rw [ho, hwk, hwk]
          exact agr_of (chg_agr _ hk _ hd)
      · obtain ⟨a1, a2⟩ := hnode.2 hE
        have ho : ownP S op f (.cons o n s kids .nil) = (kindP S o s kids).2 := by
          unfold ownP
          rcases h1 with rfl | h1
          · rw [if_pos rfl, hn, hhk, orL_skip, orL_head hE]
          · rw [if_neg (by omega), if_pos h1, hn, hhk, orL_skip, orL_head hE]
        rw [ho]
        refine agr_err ?_ a2
        rcases a1 with a | a
        · left; rw [a]; rfl
        · right; rw [a]; rfl
  · show Agr _ (wrongK S 5 f (some 0)) (wrongK S 5 f (some 0))
    rw [wrongK_f (by omega)]
    have ho : ownP S 5 f .nil = orL [(namedK S f).2, optI (namedK S f).1] := rfl
    rw [ho]
    unfold namedK fieldW
    cases fieldOf S f with
    | none => exact agr_err (Or.inl rfl) (Or.inl rfl)
    | some d =>
      obtain ⟨nm, ty, op'⟩ := d
      cases op' with
      | true => exact ⟨fun _ => rfl, fun h => absurd rfl h⟩
      | false => exact agr_err (Or.inl rfl) (Or.inr (Or.inr rfl))
  · rcases h1 with rfl | rfl
    · exact ⟨fun _ => rfl, fun h => absurd rfl h⟩
    · exact ⟨fun _ => rfl, fun h => absurd rfl h⟩
  · obtain ⟨o, n, s, kids, rfl⟩ := EL.one_of hl
    simp only [wellE, Bool.and_eq_true] at hw
    have hnode : NodeOK S o s kids := (right_pure hS (.cons o n s kids .nil) (by simp [wellE, hw.1, hw.2.1])).1.1
    have hok := node_okT hS (n := n) hw.1 hw.2.1
    show Agr _ (wrongK S 8 f (nodeG S (rowH S) o s kids)) (wrongK S 8 f (nodeG S (rowG S) o s kids))
    have hO : ownP S 8 f (.cons o n s kids .nil) = orL [(kindP S o s kids).2, plainI (kindP S o s kids).1 [2]] := rfl
    rw [hO]
    by_cases hE : (kindP S o s kids).2 = 0
    · obtain ⟨a1, a2, _⟩ := hnode.1 hE
      rw [a1, a2, hE]
      exact agr_of (if_agr _ (mem_KAs (hok hE)))
    · obtain ⟨a1, a2⟩ := hnode.2 hE
      rw [orL_head hE]
      refine agr_err ?_ a2
      rcases a1 with a | a
      · left; rw [a]; rfl
      · right; rw [a]; rfl
/-- Of a list: the first one that is refused is the first one that goes wrong. -/
theorem bad_first {S : List FieldA} (hS : schemaB S = true) {N : Nat} : ∀ (l : SL) (k : Nat), wellF N l → 
    (firstW S (rowH S) (rowG S) l k < 0 → firstBad S l k = (0, 0)) ∧ (0 ≤ firstW S (rowH S) (rowG S) l k → ((firstBad S l k).2 : Int) = firstW S (rowH S) (rowG S) l k ∧ ((firstBad S l k).1 = 90 ∨ (firstBad S l k).1 = 91 ∨ (firstBad S l k).1 = 92))
  | .nil, _, _ => ⟨fun _ => rfl, fun h => by simp [firstW] at h⟩
  | .cons op f x t e r, k, ⟨h1, h2, _, h4⟩ => by
    have ih := bad_first hS r (k + 1) h4
    obtain ⟨ha, hb⟩ := own_agr hS h1 h2
    have hw : firstW S (rowH S) (rowG S) (.cons op f x t e r) k = if wrongG S (rowH S) op f x || wrongG S (rowG S) op f x then (k : Int) else firstW S (rowH S) (rowG S) r (k + 1) := rfl
    have hf : firstBad S (.cons op f x t e r) k = if ownP S op f x ≠ 0 then (ownP S op f x, k) else firstBad S r (k + 1) := rfl
    by_cases h0 : ownP S op f x = 0
    · rw [if_neg (by simpa using h0)] at hf
      rw [ha h0, if_neg (by simp)] at hw
      rw [hw, hf]
      exact ih
    · rw [if_pos h0] at hf
      rw [(hb h0).1, if_pos rfl] at hw
      rw [hw, hf]
      exact ⟨fun h => by omega, fun _ => ⟨rfl, (hb h0).2⟩⟩
end Go.Proofs.YtjhppnecadnekaaDoor
namespace Go.Proofs.YtjhppnecadnekaaDoor
open Go.RowKit Go.Maps

theorem checkS_well {l : SL} (h : checkS l = 0) : wellS l = true := by
  unfold checkS at h
  split at h
  · cases h
  · rename_i h0; simpa using h0

set_option maxRecDepth 100000 in
set_option maxHeartbeats 16000000 in
theorem programs_walk (S : List FieldA) (hlS : S.length ≤ 4398046511104) (l : SL) (sv pv : Value) (w : World) (hT : Types w) (hF : Forms w) (hf : FldsAt w sv S) (hp : SlS (argZ w.heap.size) w 0 pv l) :
    Calls Tryd.prog 3 #[.agg #[sv], pv] w fun e w' => e = .returned (.bool true) ∧ Keeps (fun _ => False) w w' := by
  obtain ⟨ao, cap, rfl, hc⟩ := hp.head
  obtain ⟨so, sc, rfl⟩ := RowAt.form hf
  obtain ⟨HB, hxb, hxc⟩ := boxedT w #[.slice so S.length sc] 24
  have SB : ∀ w', Keeps (fun _ => False) (w.alloc (.cells #[.slice so S.length sc] 24)) w' → w'.cell? ⟨w.heap.size, 0, none⟩ = some (.slice so S.length sc) := fun w' hk => (hk.cell hxb id).trans (hxc 0 _ rfl)
  have HSB := hide SB
  have HD := hide (deepStmts w.heap.size 0 l (.slice ao l.len cap) _ (by simp) (hp.keepF (unhide HB)))
  have HCH' := fun (hsz : l.size ≤ 4294967294) w' (hk : Keeps (fun _ => False) w w') => hide (lawCheck_v (argZ w.heap.size) S hlS l hsz (.slice so S.length sc) (.slice ao l.len cap) w' 0 (hT.keepF hk) (hF.keepF hk) (hf.keepF hk) (hp.keepF hk))
  have HCS := fun w' (hk : Keeps (fun _ => False) w w') => hide (checkSchema_any S (.slice so S.length sc) w' (hf.keepF hk))
  have HRC' := fun (hsz : l.size ≤ 4294967294) w' (hk : Keeps (fun _ => False) w w') => hide (rCheck_v (argZ w.heap.size) l hsz w' 0 (.slice ao l.len cap) (hp.keepF hk))
  have HF := hide hf
  have HP := hide hp
  clear hT hF hf hp SB hxc
  go_enter Tryd.func3, Tryd.ntmps3
  go_wp2_with fail
  refine (unhide HD).mono ?_
  rintro e w1 ⟨r, rfl, hk1, hsz⟩
  have HK1 := hide ((unhide HB).trans hk1)
  have HKb := hide hk1
  have y1 := unhide HSB _ hk1
  have HSZ := hide hsz
  clear hk1 hsz HD
  cases r with
  | true =>
    go_wp2_with fail
    go_ret
    exact ⟨rfl, unhide HK1⟩
  | false =>
    have hs : l.size ≤ 4294967294 := by have := (unhide HSZ) rfl; omega
    have HCH := HCH' hs
    have HRC := HRC' hs
    clear HCH' HRC'
    cases hS : schemaB S with
    | false =>
      rw [errS_bad hS] at HCS
      rw [show checkP S l = (60, 0) from by unfold checkP; rw [errS_bad hS]; rfl] at HCH
      clear hS
      generalize checkS l = H at HRC
      go_wp2_with (first
        | (go_at_call 9; refine (unhide (HCH _ (unhide HK1))).mono ?_; rintro e w2 ⟨rfl, hk2⟩; have HK1 := hide ((unhide HK1).trans hk2); have HKb := hide ((unhide HKb).trans hk2); have y2 := unhide HSB _ (unhide HKb); clear hk2)
        | (go_at_call 10; refine (unhide (HCS _ (unhide HK1))).mono ?_; rintro e w3 ⟨rfl, hk2⟩; have HK1 := hide ((unhide HK1).trans hk2); have HKb := hide ((unhide HKb).trans hk2); have y3 := unhide HSB _ (unhide HKb); clear hk2)
        | (go_at_call 11; refine (unhide (HRC _ (unhide HK1))).mono ?_; rintro e w4 ⟨rfl, hk2⟩; have HK1 := hide ((unhide HK1).trans hk2); have HKb := hide ((unhide HKb).trans hk2); have y4 := unhide HSB _ (unhide HKb); clear hk2))
      go_ret
      exact ⟨rfl, unhide HK1⟩
    | true =>
      rw [errS_good hS] at HCS
      by_cases hC : checkS l = 0
      · have hwl := checkS_well hC
        have hcp : checkP S l = firstBad S (flatS l) 0 := by
          unfold checkP
          rw [errS_good hS, hC]
          rfl
        rw [hcp] at HCH
        rw [hC] at HRC
        have hl8 := schema_8 hS
        have HRA := fun w' (hk : Keeps (fun _ => False) w w') => hide (row_v S (.slice so S.length sc) true w' ((unhide HF).keepF hk) hl8)
        have HRB := fun w' (hk : Keeps (fun _ => False) w w') => hide (row_v S (.slice so S.length sc) false w' ((unhide HF).keepF hk) hl8)
        have HFW : Hid (∀ (W : World), Keeps (fun _ => False) w W → ∀ (ro bo : Option Addr) (rc bc : Nat), RowAt W (.slice ro S.length rc) S.length (vcs (rowV S true)) → RowAt W (.slice bo S.length bc) S.length (vcs (rowV S false)) →
            Calls Tryd.prog 13 #[.agg #[.slice so S.length sc], .slice ro S.length rc, .slice bo S.length bc, .slice ao l.len cap] W (FPost S (rowH S) (rowG S) l W)) := fun W hk ro bo rc bc hra hrb => by
          have h := first_v (argZ w.heap.size) S hS so sc (rowV S true) (rowV S false) ro bo rc bc (Or.inl (rowV_len S true)) (Or.inl (rowV_len S false)) (l.size + 1) l (by omega) hs W 0 (.slice ao l.len cap) ((unhide HP).keepF hk) ((unhide HF).keepF hk) (by unfold ValsAt; rw [rowV_len]; exact hra) (by unfold ValsAt; rw [rowV_len]; exact hrb) hwl
          rw [rowV_H, rowV_G, rowV_len, rowV_len] at h
          exact h
        unfold FPost at HFW
        obtain ⟨hb1, hb2⟩ := bad_first hS (flatS l) 0 (flat_well (N := 4294967294) l hs hwl)
        obtain ⟨K, hK⟩ : ∃ q, q = firstW S (rowH S) (rowG S) (flatS l) 0 := ⟨_, rfl⟩
        obtain ⟨⟨E, a⟩, hE⟩ : ∃ q, q = firstBad S (flatS l) 0 := ⟨_, rfl⟩
        rw [← hK] at HFW hb1 hb2
        rw [← hE] at HCH hb1 hb2
        clear hK hE hcp hC hwl HP HF hl8 hS HSZ
        by_cases hk0 : K < 0
        · obtain ⟨rfl, rfl⟩ : E = 0 ∧ a = 0 := by have := hb1 hk0; simp at this; exact this
          clear hb1 hb2
          go_wp2_with (first
            | (go_at_call 9; refine (unhide (HCH _ (unhide HK1))).mono ?_; rintro e w2 ⟨rfl, hk2⟩; have HK1 := hide ((unhide HK1).trans hk2); have HKb := hide ((unhide HKb).trans hk2); have y2 := unhide HSB _ (unhide HKb); clear hk2)
            | (go_at_call 10; refine (unhide (HCS _ (unhide HK1))).mono ?_; rintro e w3 ⟨rfl, hk2⟩; have HK1 := hide ((unhide HK1).trans hk2); have HKb := hide ((unhide HKb).trans hk2); have y3 := unhide HSB _ (unhide HKb); clear hk2)
            | (go_at_call 11; refine (unhide (HRC _ (unhide HK1))).mono ?_; rintro e w4 ⟨rfl, hk2⟩; have HK1 := hide ((unhide HK1).trans hk2); have HKb := hide ((unhide HKb).trans hk2); have y4 := unhide HSB _ (unhide HKb); clear hk2)
            | (go_at_call_of 12 (Value.bool true); refine (unhide (HRA _ (unhide HK1))).mono ?_; rintro e w5 ⟨ro, rc, rfl, hra, hk2⟩; have HVA := hide hra; have HK1 := hide ((unhide HK1).trans hk2); have HKb := hide ((unhide HKb).trans hk2); have y5 := unhide HSB _ (unhide HKb); clear hk2 hra)
            | (go_at_call_of 12 (Value.bool false); refine (unhide (HRB _ (unhide HK1))).mono ?_; rintro e w6 ⟨bo, bc, rfl, hrb, hk2⟩; have HVA := hide (RowAt.keepF (unhide HVA) hk2); have HVB := hide hrb; have HK1 := hide ((unhide HK1).trans hk2); have HKb := hide ((unhide HKb).trans hk2); have y6 := unhide HSB _ (unhide HKb); clear hk2 hrb)
            | (go_at_call 13; refine (unhide HFW _ (unhide HK1) ro bo rc bc (unhide HVA) (unhide HVB)).mono ?_; rintro e w7 ⟨rfl, hk2⟩; have HK1 := hide ((unhide HK1).trans hk2); clear hk2))
          go_ret
          exact ⟨rfl, unhide HK1⟩
        · obtain ⟨h1, h2⟩ := hb2 (by omega)
          dsimp only at h1 h2
          obtain rfl : K = (a : Int) := h1.symm
          have g0 : ¬ (a : Int) < 0 := by omega
          clear hb1 hb2 hk0
          rcases h2 with rfl | rfl | rfl
          · go_wp2_with (first
              | (go_at_call 9; refine (unhide (HCH _ (unhide HK1))).mono ?_; rintro e w2 ⟨rfl, hk2⟩; have HK1 := hide ((unhide HK1).trans hk2); have HKb := hide ((unhide HKb).trans hk2); have y2 := unhide HSB _ (unhide HKb); clear hk2)
              | (go_at_call 10; refine (unhide (HCS _ (unhide HK1))).mono ?_; rintro e w3 ⟨rfl, hk2⟩; have HK1 := hide ((unhide HK1).trans hk2); have HKb := hide ((unhide HKb).trans hk2); have y3 := unhide HSB _ (unhide HKb); clear hk2)
              | (go_at_call 11; refine (unhide (HRC _ (unhide HK1))).mono ?_; rintro e w4 ⟨rfl, hk2⟩; have HK1 := hide ((unhide HK1).trans hk2); have HKb := hide ((unhide HKb).trans hk2); have y4 := unhide HSB _ (unhide HKb); clear hk2)
              | (go_at_call_of 12 (Value.bool true); refine (unhide (HRA _ (unhide HK1))).mono ?_; rintro e w5 ⟨ro, rc, rfl, hra, hk2⟩; have HVA := hide hra; have HK1 := hide ((unhide HK1).trans hk2); have HKb := hide ((unhide HKb).trans hk2); have y5 := unhide HSB _ (unhide HKb); clear hk2 hra)
              | (go_at_call_of 12 (Value.bool false); refine (unhide (HRB _ (unhide HK1))).mono ?_; rintro e w6 ⟨bo, bc, rfl, hrb, hk2⟩; have HVA := hide (RowAt.keepF (unhide HVA) hk2); have HVB := hide hrb; have HK1 := hide ((unhide HK1).trans hk2); have HKb := hide ((unhide HKb).trans hk2); have y6 := unhide HSB _ (unhide HKb); clear hk2 hrb)
              | (go_at_call 13; refine (unhide HFW _ (unhide HK1) ro bo rc bc (unhide HVA) (unhide HVB)).mono ?_; rintro e w7 ⟨rfl, hk2⟩; have HK1 := hide ((unhide HK1).trans hk2); clear hk2))
            go_ret
            exact ⟨rfl, unhide HK1⟩
          · go_wp2_with (first
              | (go_at_call 9; refine (unhide (HCH _ (unhide HK1))).mono ?_; rintro e w2 ⟨rfl, hk2⟩; have HK1 := hide ((unhide HK1).trans hk2); have HKb := hide ((unhide HKb).trans hk2); have y2 := unhide HSB _ (unhide HKb); clear hk2)
              | (go_at_call 10; refine (unhide (HCS _ (unhide HK1))).mono ?_; rintro e w3 ⟨rfl, hk2⟩; have HK1 := hide ((unhide HK1).trans hk2); have HKb := hide ((unhide HKb).trans hk2); have y3 := unhide HSB _ (unhide HKb); clear hk2)
              | (go_at_call 11; refine (unhide (HRC _ (unhide HK1))).mono ?_; rintro e w4 ⟨rfl, hk2⟩; have HK1 := hide ((unhide HK1).trans hk2); have HKb := hide ((unhide HKb).trans hk2); have y4 := unhide HSB _ (unhide HKb); clear hk2)
              | (go_at_call_of 12 (Value.bool true); refine (unhide (HRA _ (unhide HK1))).mono ?_; rintro e w5 ⟨ro, rc, rfl, hra, hk2⟩; have HVA := hide hra; have HK1 := hide ((unhide HK1).trans hk2); have HKb := hide ((unhide HKb).trans hk2); have y5 := unhide HSB _ (unhide HKb); clear hk2 hra)
              | (go_at_call_of 12 (Value.bool false); refine (unhide (HRB _ (unhide HK1))).mono ?_; rintro e w6 ⟨bo, bc, rfl, hrb, hk2⟩; have HVA := hide (RowAt.keepF (unhide HVA) hk2); have HVB := hide hrb; have HK1 := hide ((unhide HK1).trans hk2); have HKb := hide ((unhide HKb).trans hk2); have y6 := unhide HSB _ (unhide HKb); clear hk2 hrb)
              | (go_at_call 13; refine (unhide HFW _ (unhide HK1) ro bo rc bc (unhide HVA) (unhide HVB)).mono ?_; rintro e w7 ⟨rfl, hk2⟩; have HK1 := hide ((unhide HK1).trans hk2); clear hk2))
            go_ret
            exact ⟨rfl, unhide HK1⟩
          · go_wp2_with (first
              | (go_at_call 9; refine (unhide (HCH _ (unhide HK1))).mono ?_; rintro e w2 ⟨rfl, hk2⟩; have HK1 := hide ((unhide HK1).trans hk2); have HKb := hide ((unhide HKb).trans hk2); have y2 := unhide HSB _ (unhide HKb); clear hk2)
              | (go_at_call 10; refine (unhide (HCS _ (unhide HK1))).mono ?_; rintro e w3 ⟨rfl, hk2⟩; have HK1 := hide ((unhide HK1).trans hk2); have HKb := hide ((unhide HKb).trans hk2); have y3 := unhide HSB _ (unhide HKb); clear hk2)
              | (go_at_call 11; refine (unhide (HRC _ (unhide HK1))).mono ?_; rintro e w4 ⟨rfl, hk2⟩; have HK1 := hide ((unhide HK1).trans hk2); have HKb := hide ((unhide HKb).trans hk2); have y4 := unhide HSB _ (unhide HKb); clear hk2)
              | (go_at_call_of 12 (Value.bool true); refine (unhide (HRA _ (unhide HK1))).mono ?_; rintro e w5 ⟨ro, rc, rfl, hra, hk2⟩; have HVA := hide hra; have HK1 := hide ((unhide HK1).trans hk2); have HKb := hide ((unhide HKb).trans hk2); have y5 := unhide HSB _ (unhide HKb); clear hk2 hra)
              | (go_at_call_of 12 (Value.bool false); refine (unhide (HRB _ (unhide HK1))).mono ?_; rintro e w6 ⟨bo, bc, rfl, hrb, hk2⟩; have HVA := hide (RowAt.keepF (unhide HVA) hk2); have HVB := hide hrb; have HK1 := hide ((unhide HK1).trans hk2); have HKb := hide ((unhide HKb).trans hk2); have y6 := unhide HSB _ (unhide HKb); clear hk2 hrb)
              | (go_at_call 13; refine (unhide HFW _ (unhide HK1) ro bo rc bc (unhide HVA) (unhide HVB)).mono ?_; rintro e w7 ⟨rfl, hk2⟩; have HK1 := hide ((unhide HK1).trans hk2); clear hk2))
            go_ret
            exact ⟨rfl, unhide HK1⟩
      · have hcp : checkP S l = (checkS l, 0) := by
          unfold checkP
          rw [errS_good hS, if_neg (by simp), if_pos hC]
        rw [hcp] at HCH
        obtain ⟨H, hH⟩ : ∃ q, q = checkS l := ⟨_, rfl⟩
        rw [← hH] at HCH HRC hC
        have n0 : (H != 0) = true := by simpa using hC
        clear hcp hC hH hS
        go_wp2_with (first
          | (go_at_call 9; refine (unhide (HCH _ (unhide HK1))).mono ?_; rintro e w2 ⟨rfl, hk2⟩; have HK1 := hide ((unhide HK1).trans hk2); have HKb := hide ((unhide HKb).trans hk2); have y2 := unhide HSB _ (unhide HKb); clear hk2)
          | (go_at_call 10; refine (unhide (HCS _ (unhide HK1))).mono ?_; rintro e w3 ⟨rfl, hk2⟩; have HK1 := hide ((unhide HK1).trans hk2); have HKb := hide ((unhide HKb).trans hk2); have y3 := unhide HSB _ (unhide HKb); clear hk2)
          | (go_at_call 11; refine (unhide (HRC _ (unhide HK1))).mono ?_; rintro e w4 ⟨rfl, hk2⟩; have HK1 := hide ((unhide HK1).trans hk2); have HKb := hide ((unhide HKb).trans hk2); have y4 := unhide HSB _ (unhide HKb); clear hk2))
        go_ret
        exact ⟨rfl, unhide HK1⟩
end Go.Proofs.YtjhppnecadnekaaDoor
