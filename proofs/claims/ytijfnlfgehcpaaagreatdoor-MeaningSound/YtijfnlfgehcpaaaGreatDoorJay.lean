import Derived.Test.YtijfnlfgehcpaaaGreatDoorJax
import Derived.Test.YtijfnlfgehcpaaaGreatDoorJam
namespace Go.Proofs.YtijfnlfgehcpaaaGreatDoor
open Go.RowKit Go.Maps

theorem isTrue_a (a : ValA) (b : Bool) (hb : decide (a.n = 1) = b) (w : World) : Calls Tryz.prog 101 #[.agg #[.int .i64 a.kind, .int .i64 a.n, str a.s]] w fun e w' => e = .returned (.bool b) ∧ Keeps (fun _ => False) w w' := isTrue_w a.kind a.n a.s b hb w
set_option maxRecDepth 100000 in
set_option maxHeartbeats 2000000 in
theorem choose1_v (S : List FieldA) (F : Nat → Prop) (w : World) (fv tv ov : Value) (f : Bool → List ValA → ValA) (g1 g2 : Bool × List ValA → Bool × List ValA) (eb tb ob : Nat) (hA : Wth S F w fv f) (h1 : ActF S F w tv g1) (h2 : ActF S F w ov g2) (ha : w.cell? ⟨eb, 0, none⟩ = some fv) (ht : w.cell? ⟨tb, 0, none⟩ = some tv) (ho : w.cell? ⟨ob, 0, none⟩ = some ov) (la : eb < w.heap.size) (lt : tb < w.heap.size) (lo : ob < w.heap.size) (na : ¬ F eb) (nt : ¬ F tb) (no : ¬ F ob) :
    ActF S F w (.func (.func 141) #[] #[.pointer (some ⟨eb, 0, none⟩), .pointer (some ⟨tb, 0, none⟩), .pointer (some ⟨ob, 0, none⟩)]) (fun r => if (f r.1 r.2).n = 1 then g1 r else g2 r) := by
  obtain ⟨k, cap, rfl, ek, hl, hA⟩ := hA
  obtain ⟨k1, bnd1, cap1, rfl, e1, hw1, h1⟩ := h1
  obtain ⟨k2, bnd2, cap2, rfl, e2, hw2, h2⟩ := h2
  refine ⟨141, _, _, rfl, enters_of Tryz.func141 (by kernel_rfl) rfl, fun r hr => by
    show Rw S (if (f r.1 r.2).n = 1 then g1 r else g2 r).1 (if (f r.1 r.2).n = 1 then g1 r else g2 r).2
    split
    · exact hw1 r hr
    · exact hw2 r hr, fun W R h u vals hk hR hu hb hr => ?_⟩
  show Calls _ _ _ _ (Acted W R u (if (f h vals).n = 1 then g1 (h, vals) else g2 (h, vals)))
  simp only [Array.empty_append]
  show Calls _ _ #[.pointer (some ⟨R, 0, none⟩), .pointer (some ⟨eb, 0, none⟩), .pointer (some ⟨tb, 0, none⟩), .pointer (some ⟨ob, 0, none⟩)] _ _
  obtain ⟨uo, uc, rfl⟩ := RowAt.form (rowAt_own hb.own)
  have lR := lt_of_block hb.blk
  have m0 := cell_of_blk hb.blk 0
  have m1 := cell_of_blk hb.blk 1
  simp at m0 m1
  have c0 := (hk.cell la na).trans ha
  have c1 := (hk.cell lt nt).trans ht
  have c2 := (hk.cell lo no).trans ho
  have l1 := Nat.lt_of_lt_of_le la hk.size
  have l2 := Nat.lt_of_lt_of_le lt hk.size
  have l3 := Nat.lt_of_lt_of_le lo hk.size
  have SB : ∀ w' : World, Keeps (fun _ => False) W w' → w'.cell? ⟨R, 0, none⟩ = some (.bool h) ∧ w'.cell? ⟨R, 1, none⟩ = some (.slice uo vals.length uc) ∧ w'.cell? ⟨eb, 0, none⟩ = some (.func (.func k) #[] cap) ∧ w'.cell? ⟨tb, 0, none⟩ = some (.func (.func k1) bnd1 cap1) ∧ w'.cell? ⟨ob, 0, none⟩ = some (.func (.func k2) bnd2 cap2) := fun w' hq => ⟨(hq.cell lR id).trans m0, (hq.cell lR id).trans m1, (hq.cell l1 id).trans c0, (hq.cell l2 id).trans c1, (hq.cell l3 id).trans c2⟩
  have HSB := hide SB
  have s0 := SB W (Keeps.refl _ _)
  have HC := hide (hA W.drew h (.slice uo vals.length uc) vals hk.drew ((show ValsAt W _ _ from rowAt_own hb.own).keepF (Keeps.refl _ _).drew) hr)
  have HA1 : ∀ W', Keeps (fun _ => False) W W' → Hid (Calls Tryz.prog k1 (bnd1 ++ #[.pointer (some ⟨R, 0, none⟩)] ++ cap1) W' (Acted W' R (.slice uo vals.length uc) (g1 (h, vals)))) := fun W' hq => h1 W' R h _ vals (hk.trans hq.any) hR hu (hb.keepF hq) hr
  have HA2 : ∀ W', Keeps (fun _ => False) W W' → Hid (Calls Tryz.prog k2 (bnd2 ++ #[.pointer (some ⟨R, 0, none⟩)] ++ cap2) W' (Acted W' R (.slice uo vals.length uc) (g2 (h, vals)))) := fun W' hq => h2 W' R h _ vals (hk.trans hq.any) hR hu (hb.keepF hq) hr
  unfold Enters at ek e1 e2
  obtain ⟨d, hd⟩ : ∃ d, decide ((f h vals).n = 1) = d := ⟨_, rfl⟩
  have HI := fun W' => hide (isTrue_a (f h vals) d hd W')
  have hres : (if (f h vals).n = 1 then g1 (h, vals) else g2 (h, vals)) = if d then g1 (h, vals) else g2 (h, vals) := by subst hd; simp
  rw [hres]
  generalize f h vals = B at *
  simp only [ValA.v] at HC
  clear hb hk hu hr hA h1 h2 ha ht ho SB hl c0 c1 c2 m0 m1 hres hw1 hw2 hd
  cases d with
  | true =>
    simp only [if_true]
    go_enter Tryz.func141, Tryz.ntmps141
    go_wp2_with fail
    go_region_held3 (fun w' => w'.cell? ⟨R, 0, none⟩ = some (.bool h) ∧ w'.cell? ⟨R, 1, none⟩ = some (.slice uo vals.length uc) ∧ w'.cell? ⟨eb, 0, none⟩ = some (.func (.func k) #[] cap) ∧ w'.cell? ⟨tb, 0, none⟩ = some (.func (.func k1) bnd1 cap1) ∧ w'.cell? ⟨ob, 0, none⟩ = some (.func (.func k2) bnd2 cap2))
      (first | with_reducible exact s0 | with_reducible exact r0 | with_reducible exact r1 | with_reducible exact unhide HSB _ (Keeps.refl _ _).drew)
      (first
        | ((with_reducible refine (unhide HC).mono ?_); rintro e w1 ⟨rfl, hk1⟩; have HK1 := hide ((Keeps.refl (fun _ => False) W).drew.trans hk1); have r0 := unhide HSB _ (unhide HK1); clear hk1)
        | ((with_reducible refine (unhide (HI w1)).mono ?_); rintro e w2 ⟨rfl, hk2⟩; have HK2 := hide ((unhide HK1).trans hk2); have r1 := unhide HSB _ (unhide HK2); clear hk2))
    go_wp2_with fail
    refine (unhide (HA1 _ (unhide HK2))).mono ?_
    rintro e w3 ⟨rfl, u', hb3, hu3, hk3⟩
    go_wp2_with fail
    refine bodyPost_ret (v := .tuple #[]) (by simp [results, go_sem]) rfl ?_
    exact ⟨rfl, u', hb3, fun q e => (hu3 q e).imp id (fun h => Nat.le_trans (unhide HK2).size h), (unhide HK2).any.trans hk3⟩
  | false =>
    simp only [Bool.false_eq_true, if_false]
    go_enter Tryz.func141, Tryz.ntmps141
    go_wp2_with fail
    go_region_held3 (fun w' => w'.cell? ⟨R, 0, none⟩ = some (.bool h) ∧ w'.cell? ⟨R, 1, none⟩ = some (.slice uo vals.length uc) ∧ w'.cell? ⟨eb, 0, none⟩ = some (.func (.func k) #[] cap) ∧ w'.cell? ⟨tb, 0, none⟩ = some (.func (.func k1) bnd1 cap1) ∧ w'.cell? ⟨ob, 0, none⟩ = some (.func (.func k2) bnd2 cap2))
      (first | with_reducible exact s0 | with_reducible exact r0 | with_reducible exact r1 | with_reducible exact unhide HSB _ (Keeps.refl _ _).drew)
      (first
        | ((with_reducible refine (unhide HC).mono ?_); rintro e w1 ⟨rfl, hk1⟩; have HK1 := hide ((Keeps.refl (fun _ => False) W).drew.trans hk1); have r0 := unhide HSB _ (unhide HK1); clear hk1)
        | ((with_reducible refine (unhide (HI w1)).mono ?_); rintro e w2 ⟨rfl, hk2⟩; have HK2 := hide ((unhide HK1).trans hk2); have r1 := unhide HSB _ (unhide HK2); clear hk2))
    go_wp2_with fail
    refine (unhide (HA2 _ (unhide HK2))).mono ?_
    rintro e w3 ⟨rfl, u', hb3, hu3, hk3⟩
    go_wp2_with fail
    refine bodyPost_ret (v := .tuple #[]) (by simp [results, go_sem]) rfl ?_
    exact ⟨rfl, u', hb3, fun q e => (hu3 q e).imp id (fun h => Nat.le_trans (unhide HK2).size h), (unhide HK2).any.trans hk3⟩
end Go.Proofs.YtijfnlfgehcpaaaGreatDoor
namespace Go.Proofs.YtijfnlfgehcpaaaGreatDoor
open Go.RowKit Go.Maps

/-- Acts in a slice. -/
def ActsAt (S : List FieldA) (F : Nat → Prop) (w : World) (b n : Nat) (gs : List (Bool × List ValA → Bool × List ValA)) : Prop := gs.length = n ∧ b < w.heap.size ∧ ∀ (i : Nat) g, gs[i]? = some g → ∃ av, w.cell? ⟨b, i, none⟩ = some av ∧ ActF S F w av g
def foldG (gs : List (Bool × List ValA → Bool × List ValA)) (r : Bool × List ValA) : Bool × List ValA := gs.foldl (fun r g => g r) r
theorem foldG_take {gs : List (Bool × List ValA → Bool × List ValA)} {i : Nat} {g : Bool × List ValA → Bool × List ValA} (h : gs[i]? = some g) (r : Bool × List ValA) : foldG (gs.take (i + 1)) r = g (foldG (gs.take i) r) := by
  rw [take_snoc _ _ _ h]
  simp [foldG]
theorem foldG_rw {S : List FieldA} : ∀ (gs : List (Bool × List ValA → Bool × List ValA)), (∀ g ∈ gs, ∀ r, Rw S r.1 r.2 → Rw S (g r).1 (g r).2) → ∀ r, Rw S r.1 r.2 → Rw S (foldG gs r).1 (foldG gs r).2
  | [], _, _, hr => hr
  | g :: gs, h, r, hr => foldG_rw gs (fun g' hg => h g' (List.mem_cons_of_mem _ hg)) (g r) (h g (List.mem_cons_self ..) r hr)
theorem ActsAt.rw {S : List FieldA} {F : Nat → Prop} {w : World} {b n : Nat} {gs : List (Bool × List ValA → Bool × List ValA)} (h : ActsAt S F w b n gs) : ∀ g ∈ gs, ∀ r, Rw S r.1 r.2 → Rw S (g r).1 (g r).2 := by
  intro g hg
  obtain ⟨i, hi, e⟩ := List.getElem_of_mem hg
  obtain ⟨av, _, k, bnd, cap, _, _, hw, _⟩ := h.2.2 i g (by rw [← e]; exact List.getElem?_eq_getElem hi)
  exact hw
set_option maxRecDepth 100000 in
set_option maxHeartbeats 2000000 in
theorem program1_v (S : List FieldA) (F : Nat → Prop) (w : World) (ab kb n : Nat) (gs : List (Bool × List ValA → Bool × List ValA)) (hn : n ≤ 1000) (hA : ActsAt S F w kb n gs) (ha : w.cell? ⟨ab, 0, none⟩ = some (.slice (some ⟨kb, 0, none⟩) n n)) (la : ab < w.heap.size) (na : ¬ F ab) (nk : ¬ F kb) :
    ActF S F w (.func (.func 67) #[] #[.pointer (some ⟨ab, 0, none⟩)]) (foldG gs) := by
  refine ⟨67, _, _, rfl, enters_of Tryz.func67 (by kernel_rfl) rfl, fun r hr => foldG_rw gs hA.rw r hr, fun W R h u vals hk hR hu hb hr => ?_⟩
  simp only [Array.empty_append]
  show Calls _ _ #[.pointer (some ⟨R, 0, none⟩), .pointer (some ⟨ab, 0, none⟩)] _ _
  have c0 := (hk.cell la na).trans ha
  have HA := hide hA
  have HB := hide hb
  have HU := hide hu
  have HR := hide hr
  have HK := hide hk
  obtain ⟨hgl, hkbl, _⟩ := hA
  clear hb hu hr ha
  go_enter Tryz.func67, Tryz.ntmps67
  go_wp2_with fail
  go_loopw [7] (fun i wr => ∃ (k : Nat) (u' : Value), k ≤ n ∧ i = .int .i64 k ∧ Hid (RowB wr R (foldG (gs.take k) (h, vals)).1 u' (foldG (gs.take k) (h, vals)).2) ∧ Hid (∀ q, u'.ownBlock = some q → u.ownBlock = some q ∨ W.heap.size ≤ q) ∧ Keeps (fun q => q = R ∨ u.ownBlock = some q) W wr) (fun i _ => n - (intOf i).toNat)
  case atStart => exact ⟨0, u, Nat.zero_le _, rfl, by simpa [foldG] using HB, fun q e => Or.inl e, Keeps.refl _ _⟩
  case round =>
    obtain ⟨k, u', hkn, rfl, HBk, HUk, hkp⟩ := hrel
    have HKP := hide hkp
    have hKF : Keeps F w wr := hk.then hkp (fun q hq e => by
      rcases e with e | e
      · rw [e]; exact hR
      · rcases unhide HU q e with h | h
        · exact h
        · omega)
    by_cases hlt : k < n
    · obtain ⟨g, hg⟩ : ∃ g, gs[k]? = some g := ⟨_, List.getElem?_eq_getElem (by omega)⟩
      obtain ⟨av, hc, hact⟩ := (unhide HA).2.2 k g hg
      have hrk : Rw S (foldG (gs.take k) (h, vals)).1 (foldG (gs.take k) (h, vals)).2 := foldG_rw _ (fun g' hg' => (unhide HA).rw g' (List.mem_of_mem_take hg')) _ (unhide HR)
      obtain ⟨kk, bnd, cap, rfl, ee, _, hcall⟩ := hact
      have HC := hide (hcall wr R _ u' _ hKF hR (fun q e => by
        rcases unhide HUk q e with h | h
        · exact unhide HU q h
        · exact Or.inr (Nat.le_trans (unhide HK).size h)) (unhide HBk) hrk)
      have d0 := (hKF.cell hkbl nk).trans hc
      have i1 : (k : Int) < (n : Int) := by omega
      have i0 : (0 : Int) ≤ (k : Int) := by omega
      have HG := hide (foldG_take hg (h, vals))
      unfold Enters at ee
      clear hc hcall hkp hKF hrk hg
      go_wp2_with fail
      refine (unhide HC).mono ?_
      rintro e w1 ⟨rfl, u2, hb2, hu2, hk2⟩
      have HB2 : Hid (RowB w1 R (foldG (gs.take (k + 1)) (h, vals)).1 u2 (foldG (gs.take (k + 1)) (h, vals)).2) := by show RowB _ _ _ _ _; rw [unhide HG]; exact hb2
      have HU2 : Hid (∀ q, u2.ownBlock = some q → u.ownBlock = some q ∨ W.heap.size ≤ q) := fun q e => (hu2 q e).elim (unhide HUk q) (fun h => Or.inr (Nat.le_trans (unhide HKP).size h))
      have HK2 : Hid (Keeps (fun q => q = R ∨ u.ownBlock = some q) W w1) := (unhide HKP).then hk2 (fun q hq e => by
        rcases e with e | e
        · exact Or.inl e
        · rcases unhide HUk q e with h | h
          · exact Or.inr h
          · omega)
      clear hb2 hu2 hk2
      go_wp2_with fail
      go_roundw
      case rel => exact ⟨k + 1, u2, by omega, by go_num, HB2, HU2, unhide HK2⟩
      case measure => simp [intOf]; omega
    · obtain rfl : k = n := by omega
      have i1 : ¬ (k : Int) < (k : Int) := by omega
      clear hkp hKF
      go_wp2_with fail
      refine bodyPost_ret (v := .tuple #[]) (by simp [results, go_sem]) rfl ?_
      have hall : gs.take k = gs := List.take_of_length_le (by omega)
      have hbb := unhide HBk
      rw [hall] at hbb
      exact ⟨rfl, u', hbb, unhide HUk, unhide HKP⟩
end Go.Proofs.YtijfnlfgehcpaaaGreatDoor
namespace Go.Proofs.YtijfnlfgehcpaaaGreatDoor
open Go.RowKit Go.Maps

set_option maxRecDepth 100000 in
set_option maxHeartbeats 2000000 in
theorem joined1_v (S : List FieldA) (F : Nat → Prop) (w : World) (fv tv gv : Value) (g : ValA → ValA → ValA) (f f2 : Bool → List ValA → ValA) (fb tb eb : Nat) (hT : TwoF tv g) (hA : Wth S F w fv f) (hB : Wth S F w gv f2) (ha : w.cell? ⟨fb, 0, none⟩ = some fv) (ht : w.cell? ⟨tb, 0, none⟩ = some tv) (hb : w.cell? ⟨eb, 0, none⟩ = some gv) (la : fb < w.heap.size) (lt : tb < w.heap.size) (lb : eb < w.heap.size) (na : ¬ F fb) (nt : ¬ F tb) (nb : ¬ F eb) :
    Wth S F w (.func (.func 140) #[] #[.pointer (some ⟨fb, 0, none⟩), .pointer (some ⟨tb, 0, none⟩), .pointer (some ⟨eb, 0, none⟩)]) (fun h vals => if (f h vals).kind = 0 then f2 h vals else g (f h vals) (f2 h vals)) := by
  obtain ⟨kt, rfl, et, hg, hT⟩ := hT
  obtain ⟨k, cap, rfl, ek, hl, hA⟩ := hA
  obtain ⟨k2, cap2, rfl, ek2, hl2, hB⟩ := hB
  refine ⟨140, _, rfl, enters_of Tryz.func140 (by kernel_rfl) rfl, fun h vals hr => ite_short (fun _ => hl2 h vals hr) (fun _ => hg _ _ (hl h vals hr) (hl2 h vals hr)), fun W h u vals hk hv hr => ?_⟩
  obtain ⟨uo, uc, rfl⟩ := RowAt.form hv
  obtain ⟨X, hX, P⟩ := pro_of W h uo vals.length uc
  have SB : ∀ w' : World, Keeps (fun q => q = W.heap.size + 1) X w' → w'.cell? ⟨fb, 0, none⟩ = some (.func (.func k) #[] cap) ∧ w'.cell? ⟨tb, 0, none⟩ = some (.func (.func kt) #[] #[]) ∧ w'.cell? ⟨eb, 0, none⟩ = some (.func (.func k2) #[] cap2) ∧ w'.cell? ⟨W.heap.size, 0, none⟩ = some (.bool h) ∧ w'.cell? ⟨W.heap.size, 1, none⟩ = some (.slice uo vals.length uc) := fun w' hq =>
    ⟨P.old hk la na ha hq, P.old hk lt nt ht hq, P.old hk lb nb hb hq, (P.cells hq).1, (P.cells hq).2⟩
  have HSB := hide SB
  have s0 := SB X (Keeps.refl _ _)
  have HC1 := fun W' (hq : Keeps (fun _ => False) X W') => hide (hA W' h (.slice uo vals.length uc) vals ((hk.trans P.kept.any).trans hq.any) (hv.keepF (P.kept.trans hq)) hr)
  have HC2 := fun W' (hq : Keeps (fun _ => False) X W') => hide (hB W' h (.slice uo vals.length uc) vals ((hk.trans P.kept.any).trans hq.any) (hv.keepF (P.kept.trans hq)) hr)
  have HC3 := fun W' => hide (hT W' (f h vals) (f2 h vals) (hl h vals hr) (hl2 h vals hr))
  have HP := hide P
  show Calls _ _ _ _ (fun e W' => e = .returned (if (f h vals).kind = 0 then f2 h vals else g (f h vals) (f2 h vals)).v ∧ _)
  have lX : W.heap.size + 2 ≤ X.heap.size := lt_of_block P.res
  clear hA hB hT hg hl hl2 SB ha ht hb hv P
  generalize g (f h vals) (f2 h vals) = R at *
  generalize f h vals = A at *
  generalize f2 h vals = B at *
  have HI := fun W' => hide (isPresent_v A W')
  obtain ⟨Ak, An, Ax⟩ := A
  obtain ⟨Bk, Bn, Bx⟩ := B
  obtain ⟨Rk, Rn, Rx⟩ := R
  unfold Enters at et ek ek2
  by_cases hcn : Ak = 0
  · rw [if_pos hcn]
    have HD : ∀ W', Hid (Calls Tryz.prog 112 #[ValA.v ⟨Ak, An, Ax⟩] W' fun e w' => e = .returned (.bool false) ∧ Keeps (fun _ => False) W' w') := fun W' => by show Calls _ _ _ _ _; have := unhide (HI W'); simpa [hcn] using this
    clear HI hcn
    simp only [ValA.v] at HC1 HC2 HC3 HD ⊢
    go_enter Tryz.func140, Tryz.ntmps140
    go_wp2_with fail
    refine (unhide (HC1 _ (Keeps.refl _ _))).mono ?_
    rintro e w1 ⟨rfl, hk1⟩
    obtain ⟨HB, hxb, hxc⟩ := boxed w1 #[.int .i64 Ak, .int .i64 An, str Ax] 40
    have hne : ¬ w1.heap.size = W.heap.size + 1 := by have := hk1.size; omega
    have b0 := hxc 0 (.int .i64 Ak) rfl
    have b1 := hxc 1 (.int .i64 An) rfl
    have b2 := hxc 2 (str Ax) rfl
    clear hxc
    go_wp2_with fail
    refine (unhide (HD _)).mono ?_
    rintro e w2 ⟨rfl, hk2⟩
    have HK2 := hide (hk1.trans ((unhide HB).trans hk2))
    have l2 := Nat.lt_of_lt_of_le hxb hk2.size
    have HD0 := hide ((hk2.cell (o := 0) hxb id).trans b0)
    have HD1 := hide ((hk2.cell (o := 1) hxb id).trans b1)
    have HD2 := hide ((hk2.cell (o := 2) hxb id).trans b2)
    have s1 := unhide HSB _ (unhide HK2).any
    clear b0 b1 b2 hk1 hk2
    have d0 := unhide HD0
    have d1 := unhide HD1
    have d2 := unhide HD2
    go_wp2_with fail
    refine (unhide (HC2 _ (unhide HK2))).mono ?_
    rintro e w3 ⟨rfl, hk3⟩
    have HKA := hide ((unhide HK2).trans hk3)
    have hz := (unhide HP).out (unhide HKA)
    have m0 := cell_of_blk hz 0
    have m1 := cell_of_blk hz 1
    have m2 := cell_of_blk hz 2
    simp at m0 m1 m2
    have g0 := frozen_of_blk hz 0
    have g1 := frozen_of_blk hz 1
    have g2 := frozen_of_blk hz 2
    obtain ⟨o0, o1, o2⟩ := set3v hz (.int .i64 Bk) (.int .i64 Bn) (str Bx)
    clear hz
    go_wp2_with fail
    refine bodyPost_ret (v := .agg #[.int .i64 Bk, .int .i64 Bn, str Bx]) (by simp [results, go_sem, o0, o1, o2]) rfl ?_
    exact ⟨rfl, (unhide HP).done (unhide HKA) _ _ _⟩
  · rw [if_neg hcn]
    have HD : ∀ W', Hid (Calls Tryz.prog 112 #[ValA.v ⟨Ak, An, Ax⟩] W' fun e w' => e = .returned (.bool true) ∧ Keeps (fun _ => False) W' w') := fun W' => by show Calls _ _ _ _ _; have := unhide (HI W'); simpa [hcn] using this
    clear HI hcn
    simp only [ValA.v] at HC1 HC2 HC3 HD ⊢
    go_enter Tryz.func140, Tryz.ntmps140
    go_wp2_with fail
    refine (unhide (HC1 _ (Keeps.refl _ _))).mono ?_
    rintro e w1 ⟨rfl, hk1⟩
    obtain ⟨HB, hxb, hxc⟩ := boxed w1 #[.int .i64 Ak, .int .i64 An, str Ax] 40
    have hne : ¬ w1.heap.size = W.heap.size + 1 := by have := hk1.size; omega
    have b0 := hxc 0 (.int .i64 Ak) rfl
    have b1 := hxc 1 (.int .i64 An) rfl
    have b2 := hxc 2 (str Ax) rfl
    clear hxc
    go_wp2_with fail
    refine (unhide (HD _)).mono ?_
    rintro e w2 ⟨rfl, hk2⟩
    have HK2 := hide (hk1.trans ((unhide HB).trans hk2))
    have l2 := Nat.lt_of_lt_of_le hxb hk2.size
    have HD0 := hide ((hk2.cell (o := 0) hxb id).trans b0)
    have HD1 := hide ((hk2.cell (o := 1) hxb id).trans b1)
    have HD2 := hide ((hk2.cell (o := 2) hxb id).trans b2)
    have s1 := unhide HSB _ (unhide HK2).any
    clear b0 b1 b2 hk1 hk2
    have SC : ∀ w' : World, Keeps (fun q => q = W.heap.size + 1) w2 w' → w'.cell? ⟨w1.heap.size, 0, none⟩ = some (.int .i64 Ak) ∧ w'.cell? ⟨w1.heap.size, 1, none⟩ = some (.int .i64 An) ∧ w'.cell? ⟨w1.heap.size, 2, none⟩ = some (str Ax) ∧ w'.cell? ⟨fb, 0, none⟩ = some (.func (.func k) #[] cap) ∧ w'.cell? ⟨tb, 0, none⟩ = some (.func (.func kt) #[] #[]) ∧ w'.cell? ⟨eb, 0, none⟩ = some (.func (.func k2) #[] cap2) ∧ w'.cell? ⟨W.heap.size, 0, none⟩ = some (.bool h) ∧ w'.cell? ⟨W.heap.size, 1, none⟩ = some (.slice uo vals.length uc) := fun w' hq =>
      ⟨(hq.cell l2 hne).trans (unhide HD0), (hq.cell l2 hne).trans (unhide HD1), (hq.cell l2 hne).trans (unhide HD2), unhide HSB _ ((unhide HK2).any.trans hq)⟩
    have HSC := hide SC
    have q0 := SC _ (Keeps.refl _ _)
    have HE1 := unhide (HC2 w2.drew (unhide HK2).drew)
    have HE1 := hide HE1
    clear SC s1 HC2
    go_wp2_with fail
    go_region_held3 (fun w' => w'.cell? ⟨w1.heap.size, 0, none⟩ = some (.int .i64 Ak) ∧ w'.cell? ⟨w1.heap.size, 1, none⟩ = some (.int .i64 An) ∧ w'.cell? ⟨w1.heap.size, 2, none⟩ = some (str Ax) ∧ w'.cell? ⟨fb, 0, none⟩ = some (.func (.func k) #[] cap) ∧ w'.cell? ⟨tb, 0, none⟩ = some (.func (.func kt) #[] #[]) ∧ w'.cell? ⟨eb, 0, none⟩ = some (.func (.func k2) #[] cap2) ∧ w'.cell? ⟨W.heap.size, 0, none⟩ = some (.bool h) ∧ w'.cell? ⟨W.heap.size, 1, none⟩ = some (.slice uo vals.length uc))
      (first | with_reducible exact q0 | with_reducible exact r0 | with_reducible exact r1 | with_reducible exact r2 | with_reducible exact unhide HSC _ (Keeps.refl _ _).drew)
      (first
        | (with_reducible refine (unhide HE1).mono ?_; rintro e w3 ⟨rfl, hk3⟩; have HKB := hide ((Keeps.refl (fun _ => False) w2).drew.trans hk3); have r0 := unhide HSC _ (unhide HKB).any; have mk1 : True := trivial; clear hk3)
        | (clear mk1; with_reducible refine (unhide (HC3 w3)).mono ?_; rintro e w4 ⟨rfl, hk4⟩; have HKC := hide ((unhide HKB).trans hk4); have HKA := hide ((unhide HK2).trans (unhide HKC)); have r1 := unhide HSC _ (unhide HKC).any; have hz := (unhide HP).out (unhide HKA); have m0 := cell_of_blk hz 0; have m1 := cell_of_blk hz 1; have m2 := cell_of_blk hz 2; simp at m0 m1 m2; have g0 := frozen_of_blk hz 0; have g1 := frozen_of_blk hz 1; have g2 := frozen_of_blk hz 2; obtain ⟨o0, o1, o2⟩ := set3v hz (.int .i64 Rk) (.int .i64 Rn) (str Rx); have r2 := unhide HSC _ ((unhide HKC).any.trans (keeps_set3 w4 (W.heap.size + 1) (.int .i64 Rk) (.int .i64 Rn) (str Rx))); clear hz hk4))
    go_wp2_with fail
    refine bodyPost_ret (v := .agg #[.int .i64 Rk, .int .i64 Rn, str Rx]) (by simp [results, go_sem, o0, o1, o2]) rfl ?_
    exact ⟨rfl, (unhide HP).done (unhide HKA) _ _ _⟩
end Go.Proofs.YtijfnlfgehcpaaaGreatDoor
