import Derived.Test.YtbdlcaamanhapaaGreatDoorJzah
import Derived.Test.YtbdlcaamanhapaaGreatDoorJzaf
namespace Go.Proofs.YtbdlcaamanhapaaGreatDoor
open Go.RowKit Go.Maps
set_option maxRecDepth 100000
set_option maxHeartbeats 4000000
def TookC (w' : World) (x : ValA) (y : Value) (ok : Bool) (bk : Nat) : Option (ValA × Txt) → Prop
 | none => ok = false
 | some (i, r) => ok = true ∧ x = i ∧ Wv w' y r ∧ y.ownBlock = some bk
theorem zK (w4 : World) (b : Nat) (x y z : Value) : Wp (fun q => q = b) w4 (((w4.setCell ⟨b, 0, none⟩ x).setCell ⟨b, 1, none⟩ y).setCell ⟨b, 2, none⟩ z) :=
 Wp.setCell (F := fun q => q = b) (p := ⟨b, 2, none⟩) (Wp.setCell (F := fun q => q = b) (p := ⟨b, 1, none⟩) (Wp.setCell (F := fun q => q = b) (p := ⟨b, 0, none⟩) (Wp.refl (fun q => q = b) w4) (fun _ => rfl) x) (fun _ => rfl) y) (fun _ => rfl) z
theorem keeps_set1 (w4 : World) (b o : Nat) (x : Value) : Wp (fun q => q = b) w4 (w4.setCell ⟨b, o, none⟩ x) :=
 Wp.setCell (F := fun q => q = b) (p := ⟨b, o, none⟩) (Wp.refl (fun q => q = b) w4) (fun _ => rfl) x
theorem set3 {w4 : World} {b : Nat} {c0 c1 c2 : Value} {t : TypeId} (h : w4.heap[b]? = some (.cells #[c0, c1, c2] t (0, 0))) (x y z : Value) :
  (((w4.setCell ⟨b, 0, none⟩ x).setCell ⟨b, 1, none⟩ y).setCell ⟨b, 2, none⟩ z).cell? ⟨b, 0, none⟩ = some x ∧ (((w4.setCell ⟨b, 0, none⟩ x).setCell ⟨b, 1, none⟩ y).setCell ⟨b, 2, none⟩ z).cell? ⟨b, 1, none⟩ = some y ∧ (((w4.setCell ⟨b, 0, none⟩ x).setCell ⟨b, 1, none⟩ y).setCell ⟨b, 2, none⟩ z).cell? ⟨b, 2, none⟩ = some z := by
 have hb := zH (o := 2) (zH (o := 1) (zH (o := 0) h x) y) z
 refine ⟨?_, ?_, ?_⟩
 ·rw [zC hb]; rfl
 ·rw [zC hb]; rfl
 ·rw [zC hb]; rfl
theorem Wp.fresh {w w4 w5 : World} {b : Nat} (h : Wp (fun _ => False) w w4) (hb : w.heap.size ≤ b) (k : Wp (fun q => q = b) w4 w5) : Wp (fun _ => False) w w5 :=
 h.then k (fun i hi e => by omega)
theorem take_bad (w : World) (b off cap : Nat) (c : UInt8) (r : Txt) (m : Nat) (hm : num c = m) (hO : Ops w) (hT : Types w) (h : Wv w (.slice (some ⟨b, off, none⟩) (c :: r).length cap) (c :: r)) (ht : (c :: r).length ≤ 4096) (ho : opdB (m : Int) = -1) :
  Calls Tryz.prog 68 #[.slice (some ⟨b, off, none⟩) (c :: r).length cap] w fun e w' => Wp (fun _ => False) w w' ∧ ∃ x y ok, e = .returned (.tuple #[ValA.v x, y, .bool ok]) ∧ TookC w' x y ok b none := by
 obtain ⟨b', off', cc, e1, hblt, hc⟩ := Ws.cells h (by simp)
 simp only [Value.slice.injEq, Option.some.injEq, Addr.mk.injEq] at e1
 obtain ⟨⟨rfl, rfl, _⟩, _, rfl⟩ := e1
 have c0 := (((Wp.refl (fun _ => False) w).alloc (.cells #[.int .i64 0, .int .i64 0, .string ⟨#[]⟩] 60)).cell hblt id).trans (hc 0 (.int .u8 (num c)) rfl)
 rw [Nat.add_zero, hm] at c0
 have hcr := num_range c
 have hroom := Ws.room h _ _ _ rfl
 have HRB := zB (rest_bytes h (k := 1) (by simp))
 have hlen : ((c :: r).length : Int) = (r.length : Int) + 1 := by simp
 have i1 : (1 : Int) ≤ (cap : Int) := by simp at hroom; omega
 have m255 : (m : Int) ≤ 255 := by omega
 have m0 : (0 : Int) ≤ (m : Int) := by omega
 generalize hL : (c :: r).length = L at *
 have HLL := zB hL
 have i2 : (L : Int) ≤ (cap : Int) := by omega
 have i3 : (1 : Int) ≤ (L : Int) := by omega
 have HRL : Hid (L - 1 = r.length) := by show _ = _; omega
 clear h hc hlen hroom hL
 obtain ⟨HX, hxb, hxc⟩ := boxed w #[.int .i64 (m : Int), .int .i64 0, .string ⟨#[]⟩] 60
 have HO := zB (hO.keepF (zA HX))
 have HT := zB (hT.keepF (zA HX))
 have HQ := zB (isOperation_v (m : Int) (w.alloc (.cells #[.int .i64 (m : Int), .int .i64 0, .string ⟨#[]⟩] 60)))
 have f0 := hxc 0 (.int .i64 (m : Int)) rfl
 have f1 := hxc 1 (.int .i64 0) rfl
 have f2 := hxc 2 (.string ⟨#[]⟩) rfl
 have hHB := heap_alloc_new w (.cells #[.int .i64 (m : Int), .int .i64 0, .string ⟨#[]⟩] 60)
 have HHB := zB hHB
 clear hxc hO hT hHB
 rw [decide_eq_false (by simpa using ho)] at HQ
 clear ho
 go_enter Tryz.func68, Tryz.ntmps68
 go_wp2_with fail
 refine (zA HQ).mono ?_
 rintro e w2 ⟨rfl, rfl⟩
 go_wp2_with fail
 refine bodyPost_ret (v := .tuple #[ValA.v ⟨0, 0, []⟩, .slice none 0 0, .bool false]) (by simp [results, go_sem, ValA.v]) rfl ?_
 exact ⟨(Wp.refl _ _).alloc _, ⟨0, 0, []⟩, _, _, rfl, rfl⟩
theorem take_plain (w : World) (b off cap : Nat) (c : UInt8) (r : Txt) (m : Nat) (hm : num c = m) (hO : Ops w) (hT : Types w) (h : Wv w (.slice (some ⟨b, off, none⟩) (c :: r).length cap) (c :: r)) (ht : (c :: r).length ≤ 4096) (ho : opdB (m : Int) ≠ -1) (hopd : (opA (m : Int)).opd = 0) (ho2 : opdB (m : Int) = 0) :
  Calls Tryz.prog 68 #[.slice (some ⟨b, off, none⟩) (c :: r).length cap] w fun e w' => Wp (fun _ => False) w w' ∧ ∃ x y ok, e = .returned (.tuple #[ValA.v x, y, .bool ok]) ∧ TookC w' x y ok b (some (⟨m, 0, []⟩, r)) := by
 obtain ⟨b', off', cc, e1, hblt, hc⟩ := Ws.cells h (by simp)
 simp only [Value.slice.injEq, Option.some.injEq, Addr.mk.injEq] at e1
 obtain ⟨⟨rfl, rfl, _⟩, _, rfl⟩ := e1
 have c0 := (((Wp.refl (fun _ => False) w).alloc (.cells #[.int .i64 0, .int .i64 0, .string ⟨#[]⟩] 60)).cell hblt id).trans (hc 0 (.int .u8 (num c)) rfl)
 rw [Nat.add_zero, hm] at c0
 have hcr := num_range c
 have hroom := Ws.room h _ _ _ rfl
 have HRB := zB (rest_bytes h (k := 1) (by simp))
 have hlen : ((c :: r).length : Int) = (r.length : Int) + 1 := by simp
 have i1 : (1 : Int) ≤ (cap : Int) := by simp at hroom; omega
 have m255 : (m : Int) ≤ 255 := by omega
 have m0 : (0 : Int) ≤ (m : Int) := by omega
 generalize hL : (c :: r).length = L at *
 have HLL := zB hL
 have i2 : (L : Int) ≤ (cap : Int) := by omega
 have i3 : (1 : Int) ≤ (L : Int) := by omega
 have HRL : Hid (L - 1 = r.length) := by show _ = _; omega
 clear h hc hlen hroom hL
 obtain ⟨HX, hxb, hxc⟩ := boxed w #[.int .i64 (m : Int), .int .i64 0, .string ⟨#[]⟩] 60
 have HO := zB (hO.keepF (zA HX))
 have HT := zB (hT.keepF (zA HX))
 have HQ := zB (isOperation_v (m : Int) (w.alloc (.cells #[.int .i64 (m : Int), .int .i64 0, .string ⟨#[]⟩] 60)))
 have f0 := hxc 0 (.int .i64 (m : Int)) rfl
 have f1 := hxc 1 (.int .i64 0) rfl
 have f2 := hxc 2 (.string ⟨#[]⟩) rfl
 have hHB := heap_alloc_new w (.cells #[.int .i64 (m : Int), .int .i64 0, .string ⟨#[]⟩] 60)
 have HHB := zB hHB
 clear hxc hO hT hHB
 have g1 := ((zA HO).at (m := m) (by have := opdB_range ho; omega)).1
 have m27 : (m : Int) < 27 := by have := opdB_range ho; omega
 rw [decide_eq_true ho] at HQ
 have HR : Hid (∀ (n : Int) (s : Txt) (w4 : World), Ops w4 → Calls Tryz.prog 106 #[.agg #[.int .i64 (m : Int), .int .i64 n, str s]] w4 _) := fun n s w4 h4 => rightOperand_v ⟨m, n, s⟩ w4 h4 ho
 rw [hopd] at g1
 have HRT : Hid (rightB ⟨m, 0, []⟩ = true) := by show _ = _; simp [rightB, ho2]
 clear ho hopd ho2
 go_enter Tryz.func68, Tryz.ntmps68
 go_wp2_with fail
 refine (zA HQ).mono ?_
 rintro e w2 ⟨rfl, rfl⟩
 generalize w.alloc (.cells #[.int .i64 (m : Int), .int .i64 0, .string ⟨#[]⟩] 60) = w2 at f0 f1 f2 g1 HO HT HX HHB hxb ⊢
 have HRW : Hid (∀ w4, Ops w4 → Calls Tryz.prog 106 #[.agg #[.int .i64 (m : Int), .int .i64 0, .string ⟨#[]⟩]] w4 fun e w' => e = .returned (.bool true) ∧ Wp (fun _ => False) w4 w') := fun w4 h4 => by have h := (zA HR) 0 [] w4 h4; rw [zA HRT] at h; exact h
 clear HR HQ
 by_cases hcap : cap = 1
 case' pos =>
  subst hcap
  rw [if_pos rfl] at HRB
 case' neg =>
  rw [if_neg hcap] at HRB
 all_goals
  go_wp2_with fail
  go_region_held3 (fun w' => w'.cell? ⟨w.heap.size, 0, none⟩ = some (.int .i64 (m : Int)) ∧ w'.cell? ⟨w.heap.size, 1, none⟩ = some (.int .i64 0) ∧ w'.cell? ⟨w.heap.size, 2, none⟩ = some (.string ⟨#[]⟩))
   (first | with_reducible exact s50 | with_reducible exact s51 | with_reducible exact s52 | (go_keep; done) | assumption)
   (first
     | (go_at_call 106; refine ((zA HRW) _ ((zA HO).keepF (Wp.refl _ w2).drew)).mono ?_; rintro e w4 ⟨rfl, hk4⟩; have q0 := (hk4.cell (o := 0) hxb id).trans f0; have q1 := (hk4.cell (o := 1) hxb id).trans f1; have q2 := (hk4.cell (o := 2) hxb id).trans f2; have hB4 := (hk4.block w.heap.size hxb id).trans (zA HHB); have z0 := zF hB4 0; have z1 := zF hB4 1; have z2 := zF hB4 2; obtain ⟨s50, s51, s52⟩ := set3 hB4 (.int .i64 (m : Int)) (.int .i64 0) (.string ⟨#[]⟩); have HB4 := zB hB4; clear hB4))
  have HK5 := zB (((zA HX).drew.trans hk4).fresh (Nat.le_refl _) (zK w4 w.heap.size (.int .i64 (m : Int)) (.int .i64 0) (.string ⟨#[]⟩)))
  generalize (((w4.setCell ⟨w.heap.size, 0, none⟩ (.int .i64 (m : Int))).setCell ⟨w.heap.size, 1, none⟩ (.int .i64 0)).setCell ⟨w.heap.size, 2, none⟩ (.string ⟨#[]⟩)) = w5 at s50 s51 s52 HK5 ⊢
  clear hk4 q0 q1 q2 z0 z1 z2 f0 f1 f2 g1
  go_wp2_with fail
  refine bodyPost_ret (v := .tuple #[ValA.v ⟨m, 0, []⟩, _, .bool true]) (by simp [results, go_sem, ValA.v, s50, s51, s52]; rfl) rfl ?_
  exact ⟨zA HK5, ⟨m, 0, []⟩, _, _, rfl, rfl, rfl, (zA HRB).keepF (zA HK5), rfl⟩
structure PlA where
 r : Bool
 st : List Int
 u : Bool
def plZ : PlA := ⟨false, [], false⟩
def bringA (p : PlA) (st : List Int) : PlA := ⟨true, st, p.u || (p.r && !decide (p.st = st))⟩
def bringAt (ps : List PlA) (t : Nat) (st : List Int) : List PlA := ps.set t (bringA ((ps[t]?).getD plZ) st)
def stepA (S : List Wq) (k : Nat) (i : ValA) (ps : List PlA) : Option (List PlA) :=
 if ((ps[k]?).getD plZ).r = false then some ps
 else if ((ps[k]?).getD plZ).u = true then none
 else match behB S i ((ps[k]?).getD plZ).st with
  | none => none
  | some st =>
   let ps1 := if (opA i.kind).opd = 6 then bringAt ps (k + 1 + i.n.toNat) st else ps
   some (if i.kind ≠ 25 then bringAt ps1 (k + 1) st else ps1)
def runA (S : List Wq) : Nat → List ValA → List PlA → Option (List PlA) × Nat × Int
 | k, [], ps => if ((ps[k]?).getD plZ).u = true ∨ 0 < ((ps[k]?).getD plZ).st.length then (none, k, 112) else (some ps, 0, 0)
 | k, i :: r, ps => match stepA S k i ps with
  | none => (none, k, 112)
  | some ps' => runA S (k + 1) r ps'
theorem bringAt_length (ps : List PlA) (t : Nat) (st : List Int) : (bringAt ps t st).length = ps.length := by simp [bringAt]
theorem runA_drop {S : List Wq} {l : List ValA} {k : Nat} {x : ValA} {ps : List PlA} (h : l[k]? = some x) : runA S k (l.drop k) ps = match stepA S k x ps with
  | none => (none, k, 112)
  | some ps' => runA S (k + 1) (l.drop (k + 1)) ps' := by
 obtain ⟨hk, hx⟩ := List.getElem?_eq_some_iff.1 h
 rw [List.drop_eq_getElem_cons hk, hx, runA]
structure PlsAt (w : World) (pb : Nat) (ps : List PlA) : Prop where
 blk : ∃ cur : Array Value, w.heap[pb]? = some (.cells cur 99 (0, 0)) ∧ cur.size = ps.length * 3
 at' : ∀ t p, ps[t]? = some p → p.st.length ≤ 16 ∧ w.cell? ⟨pb, t * 3, none⟩ = some (.bool p.r) ∧ w.cell? ⟨pb, t * 3 + 2, none⟩ = some (.bool p.u) ∧ ∃ v, w.cell? ⟨pb, t * 3 + 1, none⟩ = some v ∧ w.ownsRow 0 149 1 v p.st.length (ks p.st)
theorem PlsAt.lt {w : World} {pb : Nat} {ps : List PlA} (h : PlsAt w pb ps) : pb < w.heap.size := by
 obtain ⟨cur, hb, _⟩ := h.blk
 exact zE hb
theorem PlsAt.keepF {w w' : World} {pb : Nat} {ps : List PlA} (h : PlsAt w pb ps) (hk : Wp (fun _ => False) w w') : PlsAt w' pb ps := by
 obtain ⟨cur, hb, hs⟩ := h.blk
 refine ⟨⟨cur, (hk.block pb h.lt id).trans hb, hs⟩, fun t p hp => ?_⟩
 obtain ⟨h0, h1, h2, v, h3, h4⟩ := h.at' t p hp
 exact ⟨h0, (hk.cell h.lt id).trans h1, (hk.cell h.lt id).trans h2, v, (hk.cell h.lt id).trans h3, zI h4 hk (fun _ _ => id)⟩
theorem keeps_bring (w : World) (b o1 o2 o3 : Nat) (x y z : Value) : Wp (fun q => q = b) w (((w.setCell ⟨b, o1, none⟩ x).setCell ⟨b, o2, none⟩ y).setCell ⟨b, o3, none⟩ z) :=
 Wp.setCell (F := fun q => q = b) (p := ⟨b, o3, none⟩) (Wp.setCell (F := fun q => q = b) (p := ⟨b, o2, none⟩) (Wp.setCell (F := fun q => q = b) (p := ⟨b, o1, none⟩) (Wp.refl (fun q => q = b) w) (fun _ => rfl) x) (fun _ => rfl) y) (fun _ => rfl) z
theorem PlsAt.bring {w : World} {pb t : Nat} {ps : List PlA} {p : PlA} {vb : Value} {lb : List Int} (h : PlsAt w pb ps) (hp : ps[t]? = some p) (hb : w.ownsRow 0 149 1 vb lb.length (ks lb)) (hl : lb.length ≤ 16) :
  PlsAt (((w.setCell ⟨pb, t * 3 + 2, none⟩ (.bool (p.u || (p.r && !decide (p.st = lb))))).setCell ⟨pb, t * 3, none⟩ (.bool true)).setCell ⟨pb, t * 3 + 1, none⟩ vb) pb (bringAt ps t lb) := by
 obtain ⟨cur, hB, hs⟩ := h.blk
 have ht := (List.getElem?_eq_some_iff.1 hp).1
 have hE := zH (o := t * 3 + 1) (zH (o := t * 3) (zH (o := t * 3 + 2) hB (.bool (p.u || (p.r && !decide (p.st = lb))))) (.bool true)) vb
 have hk := keeps_bring w pb (t * 3 + 2) (t * 3) (t * 3 + 1) (.bool (p.u || (p.r && !decide (p.st = lb)))) (.bool true) vb
 have hown : ∀ {v : Value} {l : List Int}, w.ownsRow 0 149 1 v l.length (ks l) → (((w.setCell ⟨pb, t * 3 + 2, none⟩ (.bool (p.u || (p.r && !decide (p.st = lb))))).setCell ⟨pb, t * 3, none⟩ (.bool true)).setCell ⟨pb, t * 3 + 1, none⟩ vb).ownsRow 0 149 1 v l.length (ks l) := fun ho => zI ho hk (fun q e hq => ownsRow_ne ho hB (by decide) (by rw [e, hq]))
 refine ⟨⟨_, hE, by simpa [bringAt_length] using hs⟩, fun t' p' hp' => ?_⟩
 unfold bringAt at hp'
 by_cases he : t' = t
 ·subst he
  rw [List.getElem?_set_self ht, hp] at hp'
  simp only [Option.getD_some, Option.some.injEq] at hp'
  subst hp'
  refine ⟨hl, ?_, ?_, vb, ?_, hown hb⟩
  ·rw [zC hE]; simp [Array.getElem?_setIfInBounds, bringA]; omega
  ·rw [zC hE]; simp [Array.getElem?_setIfInBounds, bringA]; omega
  ·rw [zC hE]; simp [Array.getElem?_setIfInBounds]; omega
 ·rw [List.getElem?_set_ne (Ne.symm he)] at hp'
  obtain ⟨h0, h1, h2, v, h3, h4⟩ := h.at' t' p' hp'
  rw [zC hB] at h1 h2 h3
  refine ⟨h0, ?_, ?_, v, ?_, hown h4⟩
  ·rw [zC hE, Array.getElem?_setIfInBounds_ne (by omega), Array.getElem?_setIfInBounds_ne (by omega), Array.getElem?_setIfInBounds_ne (by omega)]; exact h1
  ·rw [zC hE, Array.getElem?_setIfInBounds_ne (by omega), Array.getElem?_setIfInBounds_ne (by omega), Array.getElem?_setIfInBounds_ne (by omega)]; exact h2
  ·rw [zC hE, Array.getElem?_setIfInBounds_ne (by omega), Array.getElem?_setIfInBounds_ne (by omega), Array.getElem?_setIfInBounds_ne (by omega)]; exact h3
theorem Tryz.info99 : (Tryz.prog.info? 99).map (fun i => (i.zero, i.size, i.bytes)) = some (some (.agg #[.bool false, .slice none 0 0, .bool false]), 3, 40) := by kernel_rfl
def plCs (n : Nat) : Array Value := madeCells #[.bool false, .slice none 0 0, .bool false] (n * 3)
theorem run_mkp (n : Nat) (hn : n ≤ 1024) (w : World) : (Instr.makeSlice 94 (.int .i64 (n : Int)) (.int .i64 (n : Int))).run Tryz.prog w = .ok (.slice (some ⟨w.heap.size, 0, none⟩) n n) (w.alloc (.cells (plCs n) 99)) := by
 obtain ⟨i0, hi, hz0, hz1, hz2⟩ := info_parts Tryz.info99
 have q := run_make (P := Tryz.prog) w 94 99 i0 (.agg #[.bool false, .slice none 0 0, .bool false]) Tryz.underlying94 hi hz0 .i64 .i64 (n : Int) (n : Int) (by omega) (by omega) (by rw [hz2]; omega) (by omega)
 rw [hz1] at q
 have e : madeCells (Value.agg #[.bool false, .slice none 0 0, .bool false]).cells (n * 3) = plCs n := rfl
 simpa [e] using q
theorem plCs_get (n t j : Nat) (ht : t < n) (hj : j < 3) : (plCs n)[t * 3 + j]? = some ((#[Value.bool false, .slice none 0 0, .bool false])[j]?.getD undef) := by
 unfold plCs
 simp only [madeCells, Array.getElem?_map, Array.getElem?_range]
 rw [if_pos (by omega)]
 have hm : (t * 3 + j) % 3 = j := by omega
 have : j = 0 ∨ j = 1 ∨ j = 2 := by omega
 rcases this with rfl | rfl | rfl <;> simp [hm]
theorem made_pls (w : World) (n : Nat) : PlsAt (w.alloc (.cells (plCs n) 99)) w.heap.size (List.replicate n plZ) := by
 have hB := heap_alloc_new w (.cells (plCs n) 99)
 refine ⟨⟨_, hB, by simp [plCs, madeCells]⟩, fun t p hp => ?_⟩
 rw [List.getElem?_replicate] at hp
 by_cases ht : t < n
 ·rw [if_pos ht] at hp
  simp only [Option.some.injEq] at hp
  subst hp
  refine ⟨by simp [plZ], ?_, ?_, .slice none 0 0, ?_, World.ownsRow_nil _ 0 149 1⟩
  ·rw [zC hB]; exact plCs_get n t 0 ht (by omega)
  ·rw [zC hB]; exact plCs_get n t 2 ht (by omega)
  ·rw [zC hB]; exact plCs_get n t 1 ht (by omega)
 ·rw [if_neg ht] at hp; cases hp
theorem bringPl_v {w : World} {pb t : Nat} {ps : List PlA} {p : PlA} {vb : Value} {lb : List Int} (h : PlsAt w pb ps) (hp : ps[t]? = some p) (hb : w.ownsRow 0 149 1 vb lb.length (ks lb)) (hl : lb.length ≤ 16) :
  Calls Tryz.prog 112 #[.pointer (some ⟨pb, t * 3, none⟩), vb] w fun e w' => e = .returned (.tuple #[]) ∧ PlsAt w' pb (bringAt ps t lb) ∧ Wp (fun q => q = pb) w w' := by
 obtain ⟨h0, h1, h2, v, h3, h4⟩ := h.at' t p hp
 obtain ⟨cur, hB, _⟩ := h.blk
 refine (bring_v pb (t * 3) p.r p.u v vb p.st lb w cur hB h1 h3 h2 (zG h4) (zG hb) h0).mono ?_
 rintro e w' ⟨rfl, n, rfl⟩
 refine ⟨rfl, PlsAt.bring (h.keepF (keeps_drewN w n)) hp (zI hb (keeps_drewN w n) (fun _ _ => id)) hl, ?_⟩
 exact Wp.then (keeps_drewN w n |>.mono (fun _ _ f => f.elim)) (keeps_bring _ _ _ _ _ _ _ _) (fun _ _ f => f)
def Followed (w w' : World) (N : Nat) (pv : Value) : Option (List PlA) → Prop
 | none => pv = .slice none 0 0
 | some ps => ∃ pb, pv = .slice (some ⟨pb, 0, none⟩) N N ∧ w.heap.size ≤ pb ∧ PlsAt w' pb ps ∧ ps.length = N
theorem PlsAt.own {w w' : World} {pb : Nat} {ps : List PlA} {v : Value} {l : List Int} (h : PlsAt w pb ps) (ho : w.ownsRow 0 149 1 v l.length (ks l)) (hk : Wp (fun q => q = pb) w w') : w'.ownsRow 0 149 1 v l.length (ks l) := by
 obtain ⟨cur, hB, _⟩ := h.blk
 exact zI ho hk (fun q e hq => ownsRow_ne ho hB (by decide) (by rw [e, hq]))
theorem stepA_on {S : List Wq} {k : Nat} {x : ValA} {ps : List PlA} {P : PlA} (hp : ps[k]? = some P) (hr : P.r = true) : stepA S k x ps = if P.u = true then none else (behB S x P.st).map fun st => if x.kind ≠ 25 then bringAt (if (opA x.kind).opd = 6 then bringAt ps (k + 1 + x.n.toNat) st else ps) (k + 1) st else (if (opA x.kind).opd = 6 then bringAt ps (k + 1 + x.n.toNat) st else ps) := by
 unfold stepA
 rw [hp]
 simp only [Option.getD_some, hr, Bool.true_eq_false, if_false]
 by_cases hu : P.u = true
 ·rw [if_pos hu, if_pos hu]
 ·rw [if_neg hu, if_neg hu]
  cases behB S x P.st <;> rfl
theorem behB_le {S : List Wq} {i : ValA} {st st' : List Int} (h : behB S i st = some st') : st'.length ≤ 16 := by
 unfold behB at h
 split at h
 ·cases h
 ·split at h
  ·cases h
  ·split at h
   ·cases h; assumption
   ·cases h
theorem follow_v (S : List Wq) (so : Option Addr) (sc : Nat) (l : List ValA) (v : Value) (w : World) (hO : Ops w) (hS : Wt w (.slice so S.length sc) S) (h : Wr w v l) (hl : l.length ≤ 96) (hF : ∀ i ∈ l, formB i = 0 ∧ rightF S i = true) (hT : ∀ k i, l[k]? = some i → (opA i.kind).opd = 6 → k + 1 + i.n.toNat ≤ l.length) :
  Calls Tryz.prog 71 #[.agg #[.slice so S.length sc], v] w fun e w' => ∃ pv, e = .returned (.tuple #[pv, .int .i64 ((runA S 0 l (bringAt (List.replicate (l.length + 1) plZ) 0 [])).2.1 : Int), .int .i64 (runA S 0 l (bringAt (List.replicate (l.length + 1) plZ) 0 [])).2.2]) ∧
   Followed w w' (l.length + 1) pv (runA S 0 l (bringAt (List.replicate (l.length + 1) plZ) 0 [])).1 ∧ Wp (fun _ => False) w w' := by
 obtain ⟨ao, cap, rfl⟩ := Ws.form h
 obtain ⟨HB, hbb, hbc⟩ := boxed w #[.slice so S.length sc] 24
 have s0 := hbc 0 (.slice so S.length sc) rfl
 have HO := zB (hO.keepF (zA HB))
 have HS := zB (hS.keepF (zA HB))
 have HV := zB (h.keepF (zA HB))
 generalize hR : runA S 0 l (bringAt (List.replicate (l.length + 1) plZ) 0 []) = R at *
 have HR := zB hR
 have hmk := run_mkp (l.length + 1) (by omega)
 have hsz : (w.alloc (.cells #[.slice so S.length sc] 24)).heap.size = w.heap.size + 1 := by simp
 have hwb : Hid (w.alloc (.cells #[.slice so S.length sc] 24) = w.alloc (.cells #[.slice so S.length sc] 24)) := rfl
 generalize hWb : w.alloc (.cells #[.slice so S.length sc] 24) = Wb at *
 have HP0 := zB (made_pls Wb (l.length + 1))
 have hk0 := (Wp.refl (fun _ => False) Wb).alloc (.cells (plCs (l.length + 1)) 99)
 have e1 : ((l.length : Int) + 1) = ((l.length + 1 : Nat) : Int) := by omega
 generalize hN : l.length + 1 = N at *
 have HQ0 := zB (bringPl_v (t := 0) (p := plZ) (zA HP0) (by rw [List.getElem?_replicate, if_pos (by omega)]) (World.ownsRow_nil _ 0 149 1) (lb := []) (by simp))
 rw [Nat.zero_mul, hsz] at HQ0
 have hgo : (0 : Int) < (N : Int) := by omega
 have HF := zB hF
 have HT := zB hT
 have HK0 := zB hk0
 clear hbc h hO hS hR hF hT hk0 hwb HP0
 go_enter Tryz.func71, Tryz.ntmps71
 go_wp2_with fail
 refine (zA HQ0).mono ?_
 rintro e w2 ⟨rfl, hpl, hk2⟩
 have HK2 := zB ((zA HK0).fresh (by omega) hk2)
 have HP2 := zB hpl
 clear HQ0 hk2 hpl HK0
 obtain ⟨pb, hpb⟩ : ∃ pb, w.heap.size + 1 = pb := ⟨_, rfl⟩
 rw [hpb] at HP2 ⊢
 have hnpb : w.heap.size < pb := by omega
 have HI : Hid (R = runA S 0 (l.drop 0) (bringAt (List.replicate N plZ) 0 [])) := (zA HR).symm
 have HL2 : Hid ((bringAt (List.replicate N plZ) 0 []).length = N) := by show _ = _; rw [bringAt_length, List.length_replicate]
 generalize bringAt (List.replicate N plZ) 0 [] = PS at *
 clear HR hmk hgo
 go_wp2_with fail
 go_loopw [23] (fun i wr => ∃ (k : Nat) (ps : List PlA), k ≤ l.length ∧ i = .int .i64 k ∧ Hid (R = runA S k (l.drop k) ps) ∧ ps.length = N ∧ PlsAt wr pb ps ∧ Wp (fun _ => False) Wb wr) (fun i _ => l.length - (intOf i).toNat)
 case atStart => exact ⟨0, PS, Nat.zero_le _, rfl, HI, zA HL2, zA HP2, zA HK2⟩
 case round =>
  obtain ⟨k, ps, hk, rfl, HS0, hps, hpl, hkp⟩ := hrel
  have s1 := (hkp.cell hbb id).trans s0
  have hbr : w.heap.size < wr.heap.size := Nat.lt_of_lt_of_le hbb hkp.size
  obtain ⟨P, hP⟩ : ∃ P, ps[k]? = some P := ⟨_, List.getElem?_eq_getElem (by omega)⟩
  obtain ⟨hP16, p0, p2, pv, p1, hown⟩ := hpl.at' k P hP
  obtain ⟨po, pc, rfl⟩ := (zG hown).form
  have HP := zB hP
  have HPL := zB hpl
  have HK := zB hkp
  have hplt := hpl.lt
  by_cases hlt : k < l.length
  ·obtain ⟨x, hx⟩ : ∃ x, l[k]? = some x := ⟨_, List.getElem?_eq_getElem hlt⟩
   obtain ⟨b, off, c, e, hbl, hc⟩ := (zA HV).cells (by omega)
   simp at e
   obtain ⟨rfl, rfl⟩ := e
   have c0 := (hkp.cell hbl id).trans (hc k x hx).1
   have c1 := (hkp.cell hbl id).trans (hc k x hx).2.1
   have c2 := (hkp.cell hbl id).trans (hc k x hx).2.2
   have HD := zB (runA_drop (S := S) (ps := ps) hx)
   obtain ⟨hxf, hxr⟩ := (zA HF) x (List.mem_of_getElem? hx)
   have hxt := (zA HT) k x hx
   obtain ⟨HX, hxb, hxc⟩ := boxed wr #[.int .i64 x.kind, .int .i64 x.n, str x.s] 60
   have p0x := ((zA HX).cell (o := k * 3) hplt id).trans p0
   have p1x := ((zA HX).cell (o := k * 3 + 1) hplt id).trans p1
   have p2x := ((zA HX).cell (o := k * 3 + 2) hplt id).trans p2
   obtain ⟨HY, hyb, hyc⟩ := boxed (wr.alloc (.cells #[.int .i64 x.kind, .int .i64 x.n, str x.s] 60)) #[.bool P.r, .slice po P.st.length pc, .bool P.u] 99
   have a0 := ((zA HY).cell (o := 0) hxb id).trans (hxc 0 (.int .i64 x.kind) rfl)
   have a1 := ((zA HY).cell (o := 1) hxb id).trans (hxc 1 (.int .i64 x.n) rfl)
   have a2 := ((zA HY).cell (o := 2) hxb id).trans (hxc 2 (str x.s) rfl)
   have b0 := hyc 0 (.bool P.r) rfl
   have b1 := hyc 1 (.slice po P.st.length pc) rfl
   have b2 := hyc 2 (.bool P.u) rfl
   rw [World.size_alloc] at b0 b1 b2
   have HXY := zB ((zA HX).trans (zA HY))
   have s3 := ((zA HXY).cell (o := 0) hbr id).trans s1
   have HK3 := zB (hkp.trans (zA HXY))
   have HP3 := zB (hpl.keepF (zA HXY))
   have HW3 := zB (zI hown (zA HXY) (fun _ _ => id))
   have hz1 := Nat.lt_of_lt_of_le hxb (zA HY).size
   have hz2 : wr.heap.size + 1 < ((wr.alloc (.cells #[.int .i64 x.kind, .int .i64 x.n, str x.s] 60)).alloc (.cells #[.bool P.r, .slice po P.st.length pc, .bool P.u] 99)).heap.size := by simp
   have hz0 := Nat.lt_of_lt_of_le hbr (zA HXY).size
   generalize hW : (wr.alloc (.cells #[.int .i64 x.kind, .int .i64 x.n, str x.s] 60)).alloc (.cells #[.bool P.r, .slice po P.st.length pc, .bool P.u] 99) = W at *
   have i2 : (k : Int) < (l.length : Int) := by omega
   have i0' : (0 : Int) ≤ (k : Int) := by omega
   have i3 : (k : Int) < (N : Int) := by omega
   have HQ := zB (behind_v S so sc x P.st (.slice po P.st.length pc) W ((zA HO).keepF (zA HK3)) ((zA HS).keepF (zA HK3)) hxf hxr (zA HW3) hP16)
   unfold ValA.v at HQ
   clear hc hx hxc hyc hkp hpl hown HX HY
   cases hr : P.r with
   | false =>
    rw [hr] at b0 p0 p0x
    have HE : Hid (R = runA S (k + 1) (l.drop (k + 1)) ps) := by
     show _ = _
     rw [zA HS0, zA HD, stepA, zA HP]
     simp only [Option.getD_some, hr, if_true]
    clear HD HQ
    rw [hr] at hW
    go_wp2_with fail
    go_roundw
    case rel => exact ⟨k + 1, ps, by omega, by go_num, HE, hps, zA HP3, zA HK3⟩
    case measure => simp [intOf]; omega
   | true =>
    rw [hr] at b0 p0 p0x hW
    have HSA := zB (stepA_on (S := S) (x := x) (zA HP) hr)
    have hle := fun st' h => behB_le (S := S) (i := x) (st := P.st) (st' := st') h
    generalize behB S x P.st = BE at *
    go_wp2_with fail
    refine (zA HQ).mono ?_
    rintro e w4 ⟨v4, rfl, ho4, hk4⟩
    have b2' := (hk4.cell (o := 2) hz2 id).trans b2
    have a0' := (hk4.cell (o := 0) hz1 id).trans a0
    have a1' := (hk4.cell (o := 1) hz1 id).trans a1
    have a2' := (hk4.cell (o := 2) hz1 id).trans a2
    have s3' := (hk4.cell (o := 0) hz0 id).trans s3
    have HK4 := zB ((zA HK3).trans hk4)
    have HP4 := zB ((zA HP3).keepF hk4)
    have HO4 := zB ho4
    have hx4 : wr.heap.size < w4.heap.size := Nat.lt_of_lt_of_le hz1 hk4.size
    clear hk4 ho4 HQ a0 a1 a2 b0 b1 b2 c0 c1 c2 p0 p1 p2 p0x p1x p2x HW3 HP3 HK3 HXY HK HPL
    cases hu : P.u with
    | true =>
     rw [hu] at b2'
     have HE : Hid (R = (none, k, 112)) := by
      show _ = _
      rw [zA HS0, zA HD, zA HSA, if_pos hu]
     clear HSA HD HS0
     go_wp2_with fail
     go_ret3
     rw [zA HE]
     exact ⟨_, rfl, rfl, (zA HB).trans (zA HK4)⟩
    | false =>
     rw [hu] at b2'
     cases hBE : BE with
     | none =>
      have HE : Hid (R = (none, k, 112)) := by
       show _ = _
       rw [zA HS0, zA HD, zA HSA, if_neg (by simp [hu]), hBE]
       rfl
      clear HSA HD HS0
      simp only [Option.isSome_none]
      go_wp2_with fail
      go_ret3
      rw [zA HE]
      exact ⟨_, rfl, rfl, (zA HB).trans (zA HK4)⟩
     | some st =>
      have hst16 := hle st hBE
      have HOW := zB (ownsRow_lower ((zA HO4) st hBE) (Nat.zero_le _))
      have HE : Hid (R = runA S (k + 1) (l.drop (k + 1)) (if x.kind ≠ 25 then bringAt (if (opA x.kind).opd = 6 then bringAt ps (k + 1 + x.n.toNat) st else ps) (k + 1) st else (if (opA x.kind).opd = 6 then bringAt ps (k + 1 + x.n.toNat) st else ps))) := by
       show _ = _
       rw [zA HS0, zA HD, zA HSA, if_neg (by simp [hu]), hBE]
       rfl
      clear HSA HD HS0 HO4 hle
      simp only [Option.isSome_some]
      have HJ := zB (isJump_v x w4 ((zA HO).keepF (zA HK4)) (formB_zero hxf).1)
      have hxj := form_jump hxf
      unfold ValA.v at HJ
      go_wp2_with fail
      refine (zA HJ).mono ?_
      rintro e w5 ⟨rfl, hk5⟩
      have HK5 := zB ((zA HK4).trans hk5)
      have HP5 := zB ((zA HP4).keepF hk5)
      have HW5 := zB (zI (zA HOW) hk5 (fun _ _ => id))
      have d0 := (hk5.cell (o := 0) hx4 id).trans a0'
      have d1 := (hk5.cell (o := 1) hx4 id).trans a1'
      have d2 := (hk5.cell (o := 2) hx4 id).trans a2'
      have hx5 : wr.heap.size < w5.heap.size := Nat.lt_of_lt_of_le hx4 hk5.size
      obtain ⟨P1, hP1⟩ : ∃ P1, ps[k + 1]? = some P1 := ⟨_, List.getElem?_eq_getElem (by omega)⟩
      have i4 : (k : Int) + 1 < (N : Int) := by omega
      have e4 : (0 : Int) ≤ (k : Int) + 1 := by omega
      clear hk5 HJ HOW HP4 HK4 a0' a1' a2' b2' s3' hBE
      by_cases hj : (opA x.kind).opd = 6
      ·rw [if_pos hj] at HE
       obtain ⟨n0, n1⟩ := hxj hj
       have htl := hxt hj
       have HTV := zB (target_v k x w5 (by omega) n0 n1)
       unfold ValA.v at HTV
       rw [decide_eq_true hj]
       obtain ⟨TG, hTG⟩ : ∃ TG : Nat, k + 1 + x.n.toNat = TG := ⟨_, rfl⟩
       rw [hTG] at HTV HE htl
       obtain ⟨PT, hPT⟩ : ∃ PT, ps[TG]? = some PT := ⟨_, List.getElem?_eq_getElem (by omega)⟩
       have i5 : (TG : Int) < (N : Int) := by omega
       have i6 : (0 : Int) ≤ (TG : Int) := by omega
       clear hj hxj hxt hTG
       go_wp2_with fail
       refine (zA HTV).mono ?_
       rintro e w6 ⟨rfl, hk6⟩
       have HK6 := zB ((zA HK5).trans hk6)
       have HP6 := zB ((zA HP5).keepF hk6)
       have HW6 := zB (zI (zA HW5) hk6 (fun _ _ => id))
       have f0 := (hk6.cell (o := 0) hx5 id).trans d0
       have hx6 : wr.heap.size < w6.heap.size := Nat.lt_of_lt_of_le hx5 hk6.size
       have HBR := zB (bringPl_v (zA HP6) hPT (zA HW6) hst16)
       clear hk6 HTV HK5 HP5 HW5 d0 d1 d2
       go_wp2_with fail
       refine (zA HBR).mono ?_
       rintro e w7 ⟨rfl, hpl7, hk7⟩
       have HK7 := zB ((zA HK6).fresh (by omega) hk7)
       have HP7 := zB hpl7
       have HW7 := zB ((zA HP6).own (zA HW6) hk7)
       have g0 := (hk7.cell (o := 0) hx6 (by omega)).trans f0
       clear hk7 hpl7 HBR HK6 HP6 HW6 f0
       have hln : (bringAt ps TG st).length = N := by rw [bringAt_length]; exact hps
       generalize bringAt ps TG st = ps2 at *
       by_cases hkd : x.kind = 25
       ·have bk : (x.kind != 25) = false := by simpa using hkd
        rw [if_neg (by simpa using hkd)] at HE
        clear hkd
        go_wp2_with fail
        go_roundw
        case rel => exact ⟨k + 1, ps2, by omega, by go_num, HE, hln, zA HP7, zA HK7⟩
        case measure => simp [intOf]; omega
       ·have bk : (x.kind != 25) = true := by simpa using hkd
        rw [if_pos hkd] at HE
        obtain ⟨P2, hP2⟩ : ∃ P2, ps2[k + 1]? = some P2 := ⟨_, List.getElem?_eq_getElem (by omega)⟩
        have HBR := zB (bringPl_v (zA HP7) hP2 (zA HW7) hst16)
        clear hkd
        go_wp2_with fail
        refine (zA HBR).mono ?_
        rintro e w8 ⟨rfl, hpl8, hk8⟩
        have HK8 := zB ((zA HK7).fresh (by omega) hk8)
        clear HBR hk8
        go_wp2_with fail
        go_roundw
        case rel => exact ⟨k + 1, _, by omega, by go_num, HE, by rw [bringAt_length]; exact hln, hpl8, zA HK8⟩
        case measure => simp [intOf]; omega
      ·rw [if_neg hj] at HE
       rw [decide_eq_false hj]
       clear hj hxj hxt
       by_cases hkd : x.kind = 25
       ·have bk : (x.kind != 25) = false := by simpa using hkd
        rw [if_neg (by simpa using hkd)] at HE
        clear hkd
        go_wp2_with fail
        go_roundw
        case rel => exact ⟨k + 1, ps, by omega, by go_num, HE, hps, zA HP5, zA HK5⟩
        case measure => simp [intOf]; omega
       ·have bk : (x.kind != 25) = true := by simpa using hkd
        rw [if_pos hkd] at HE
        have HBR := zB (bringPl_v (zA HP5) hP1 (zA HW5) hst16)
        clear hkd
        go_wp2_with fail
        refine (zA HBR).mono ?_
        rintro e w8 ⟨rfl, hpl8, hk8⟩
        have HK8 := zB ((zA HK5).fresh (by omega) hk8)
        clear HBR hk8
        go_wp2_with fail
        go_roundw
        case rel => exact ⟨k + 1, _, by omega, by go_num, HE, by rw [bringAt_length]; exact hps, hpl8, zA HK8⟩
        case measure => simp [intOf]; omega
  ·obtain rfl : k = l.length := by omega
   have i2 : ¬ (l.length : Int) < (l.length : Int) := by omega
   have i3 : (l.length : Int) < (N : Int) := by omega
   have HEND : Hid (R = if P.u = true ∨ 0 < P.st.length then (none, l.length, 112) else (some ps, 0, 0)) := by
    show _ = _
    rw [zA HS0, List.drop_length, runA, zA HP]
    rfl
   obtain ⟨HY, hyb, hyc⟩ := boxed wr #[.bool P.r, .slice po P.st.length pc, .bool P.u] 99
   have b1 := hyc 1 (.slice po P.st.length pc) rfl
   have b2 := hyc 2 (.bool P.u) rfl
   have HKY := zB (((zA HB).trans (zA HK)).trans (zA HY))
   have HPY := zB ((zA HPL).keepF (zA HY))
   clear hyc hkp hpl hown HS0 hlt
   cases hu : P.u with
   | true =>
    rw [hu] at b1 b2 p2 HKY HPY
    have HE : Hid (R = (none, l.length, 112)) := by show _ = _; rw [zA HEND, if_pos (Or.inl hu)]
    go_wp2_with fail
    go_ret3
    rw [zA HE]
    exact ⟨_, rfl, rfl, zA HKY⟩
   | false =>
    rw [hu] at b1 b2 p2 HKY HPY
    by_cases h0 : 0 < P.st.length
    ·have i5 : (0 : Int) < (P.st.length : Int) := by omega
     have HE : Hid (R = (none, l.length, 112)) := by show _ = _; rw [zA HEND, if_pos (Or.inr h0)]
     clear HEND
     go_wp2_with fail
     go_ret3
     rw [zA HE]
     exact ⟨_, rfl, rfl, zA HKY⟩
    ·have i5 : ¬ (0 : Int) < (P.st.length : Int) := by omega
     have HE : Hid (R = (some ps, 0, 0)) := by show _ = _; rw [zA HEND, if_neg (by rintro (q | q); exact absurd q (by simp [hu]); exact h0 q)]
     clear HEND
     go_wp2_with fail
     go_ret3
     rw [zA HE]
     exact ⟨_, rfl, ⟨pb, rfl, by omega, zA HPY, hps⟩, zA HKY⟩
set_option maxHeartbeats 2000000
theorem scanI_some {S : List Wq} : ∀ {l : List ValA} {k : Nat} {p : Nat × Int}, scanI S k l = some p → p.2 ≠ 0
 | [], _, _, h => by cases h
 | x :: r, k, p, h => by
  rw [scanI] at h
  by_cases h1 : formB x = 0
  ·rw [if_neg (by simpa using h1)] at h
   cases h2 : rightF S x with
   | false => rw [if_pos h2] at h; cases h; simp
   | true => rw [if_neg (by simp [h2])] at h; exact scanI_some h
  ·rw [if_pos h1] at h; cases h; exact h1
theorem checkI_zero {S : List Wq} {l : List ValA} (h : (checkI S l).2 = 0) : l.length ≤ 96 ∧ ∀ i ∈ l, formB i = 0 ∧ rightF S i = true := by
 unfold checkI at h
 by_cases h1 : 96 < l.length
 ·rw [if_pos h1] at h; cases h
 ·rw [if_neg h1] at h
  cases h2 : scanI S 0 l with
  | some p => rw [h2] at h; exact absurd h (scanI_some h2)
  | none => exact ⟨by omega, scanI_none h2⟩
theorem scanT_none {N : Nat} : ∀ {l : List ValA} {k : Nat}, scanT N k l = none → ∀ j i, l[j]? = some i → (opA i.kind).opd = 6 → k + j + 1 + i.n.toNat ≤ N
 | [], _, _ => by intro j i hi; simp at hi
 | x :: r, k, h => by
  rw [scanT] at h
  by_cases h1 : (opA x.kind).opd = 6 ∧ N < k + 1 + x.n.toNat
  ·rw [if_pos h1] at h; cases h
  ·rw [if_neg h1] at h
   intro j i hi h6
   cases j with
   | zero => simp at hi; subst hi; have : ¬ N < k + 1 + x.n.toNat := fun q => h1 ⟨h6, q⟩; omega
   | succ j => have := scanT_none h j i (by simpa using hi) h6; omega
theorem scanT_some {N : Nat} : ∀ {l : List ValA} {k : Nat} {p : Nat × Int}, scanT N k l = some p → p.2 ≠ 0
 | [], _, _, h => by cases h
 | x :: r, k, p, h => by
  rw [scanT] at h
  split at h
  ·cases h; simp
  ·exact scanT_some h
theorem checkT_zero {l : List ValA} (h : (checkT l).2 = 0) : ∀ k i, l[k]? = some i → (opA i.kind).opd = 6 → k + 1 + i.n.toNat ≤ l.length := by
 unfold checkT at h
 cases h2 : scanT l.length 0 l with
 | some p => rw [h2] at h; exact absurd h (scanT_some h2)
 | none => intro k i hi h6; have := scanT_none h2 k i hi h6; omega
def startA (l : List ValA) : List PlA := bringAt (List.replicate (l.length + 1) plZ) 0 []
def lookA (S : List Wq) (l : List ValA) : Option (List PlA) × Nat × Int :=
 if errS S ≠ 0 then (none, 0, 60) else if (checkI S l).2 ≠ 0 then (none, checkI S l) else if (checkT l).2 ≠ 0 then (none, checkT l) else runA S 0 l (startA l)
theorem look_v (S : List Wq) (so : Option Addr) (sc : Nat) (l : List ValA) (v : Value) (w : World) (hO : Ops w) (hT : Types w) (hS : Wt w (.slice so S.length sc) S) (h : Wr w v l) (hI : InR l) :
  Calls Tryz.prog 46 #[.agg #[.slice so S.length sc], v] w fun e w' => ∃ pv, e = .returned (.tuple #[pv, .int .i64 ((lookA S l).2.1 : Int), .int .i64 (lookA S l).2.2]) ∧ Followed w w' (l.length + 1) pv (lookA S l).1 ∧ Wp (fun _ => False) w w' := by
 obtain ⟨ao, cap, rfl⟩ := Ws.form h
 obtain ⟨HB, hbb, hbc⟩ := boxed w #[.slice so S.length sc] 24
 have s0 := hbc 0 (.slice so S.length sc) rfl
 have HO := zB (hO.keepF (zA HB))
 have HT := zB (hT.keepF (zA HB))
 have HS := zB (hS.keepF (zA HB))
 have HV := zB (h.keepF (zA HB))
 have HI := zB hI
 have HL : Hid (lookA S l = if errS S ≠ 0 then (none, 0, 60) else if (checkI S l).2 ≠ 0 then (none, checkI S l) else if (checkT l).2 ≠ 0 then (none, checkT l) else runA S 0 l (startA l)) := rfl
 generalize lookA S l = R at *
 have HQ := zB (checkSchema_v S _ _ (zA HT) (zA HS))
 generalize hWb : w.alloc (.cells #[.slice so S.length sc] 24) = Wb at *
 clear hbc h hO hS hI hT
 go_enter Tryz.func46, Tryz.ntmps46
 go_wp2_with fail
 refine (zA HQ).mono ?_
 rintro e w1 ⟨rfl, hk1⟩
 have s1 := (hk1.cell hbb id).trans s0
 have hb1 := Nat.lt_of_lt_of_le hbb hk1.size
 have HK1 := zB ((zA HB).trans hk1)
 have HO1 := zB ((zA HO).keepF hk1)
 have HT1 := zB ((zA HT).keepF hk1)
 have HS1 := zB ((zA HS).keepF hk1)
 have HV1 := zB ((zA HV).keepF hk1)
 clear hk1 HQ HO HT HS HV
 by_cases he : errS S = 0
 ·rw [he]
  rw [if_neg (by simpa using he)] at HL
  have HC := zB (checkInstructions_v S so sc l _ w1 (zA HO1) (zA HT1) (zA HS1) (zA HV1) (zA HI))
  have hz := fun q => checkI_zero (S := S) (l := l) q
  generalize checkI S l = CI at *
  go_wp2_with fail
  refine (zA HC).mono ?_
  rintro e w2 ⟨rfl, hk2⟩
  have s2 := (hk2.cell hb1 id).trans s1
  have hb2 := Nat.lt_of_lt_of_le hb1 hk2.size
  have HK2 := zB ((zA HK1).trans hk2)
  have HO2 := zB ((zA HO1).keepF hk2)
  have HS2 := zB ((zA HS1).keepF hk2)
  have HV2 := zB ((zA HV1).keepF hk2)
  clear hk2 HC HO1 HT1 HS1 HV1 HK1 s1
  by_cases hc : CI.2 = 0
  ·rw [hc]
   rw [if_neg (by simpa using hc)] at HL
   obtain ⟨hl, hF⟩ := hz hc
   have HC := zB (checkTargets_v l _ w2 (zA HO2) (zA HV2) hl (fun i hi => (hF i hi).1))
   have hz2 := fun q => checkT_zero (l := l) q
   generalize checkT l = CT at *
   have HF := zB hF
   clear hF hz
   go_wp2_with fail
   refine (zA HC).mono ?_
   rintro e w3 ⟨rfl, hk3⟩
   have s3 := (hk3.cell hb2 id).trans s2
   have HK3 := zB ((zA HK2).trans hk3)
   have HO3 := zB ((zA HO2).keepF hk3)
   have HS3 := zB ((zA HS2).keepF hk3)
   have HV3 := zB ((zA HV2).keepF hk3)
   clear hk3 HC HO2 HS2 HV2 HK2 s2
   by_cases ht : CT.2 = 0
   ·rw [ht]
    rw [if_neg (by simpa using ht)] at HL
    have HC := zB (follow_v S so sc l _ w3 (zA HO3) (zA HS3) (zA HV3) hl (zA HF) (hz2 ht))
    have HL2 : Hid (runA S 0 l (bringAt (List.replicate (l.length + 1) plZ) 0 []) = R) := (zA HL).symm
    rw [zA HL2] at HC
    have hs3 := (zA HK3).size
    clear hz2 ht
    go_wp2_with fail
    refine (zA HC).mono ?_
    rintro e w4 ⟨pv, rfl, hfo, hk4⟩
    have HK4 := zB ((zA HK3).trans hk4)
    have HFO : Hid (Followed w w4 (l.length + 1) pv R.1) := by
     show Followed _ _ _ _ _
     cases hr : R.1 with
     | none => rw [hr] at hfo; exact hfo
     | some ps => rw [hr] at hfo; obtain ⟨pb, h1, h2, h3⟩ := hfo; exact ⟨pb, h1, by omega, h3⟩
    clear hfo hk4 HC
    go_wp2_with fail
    go_ret3
    exact ⟨_, rfl, zA HFO, zA HK4⟩
   ·have bt : (CT.2 != 0) = true := by simpa using ht
    rw [if_pos ht] at HL
    obtain ⟨ca, ce⟩ := CT
    simp only at *
    clear ht hz2
    go_wp2_with fail
    go_ret3
    rw [zA HL]
    exact ⟨_, rfl, rfl, zA HK3⟩
  ·have bc : (CI.2 != 0) = true := by simpa using hc
   rw [if_pos hc] at HL
   obtain ⟨ca, ce⟩ := CI
   simp only at *
   clear hc hz
   go_wp2_with fail
   go_ret3
   rw [zA HL]
   exact ⟨_, rfl, rfl, zA HK2⟩
 ·have be : (errS S != 0) = true := by simpa using he
  rw [if_pos he] at HL
  generalize errS S = E at *
  clear he
  go_wp2_with fail
  go_ret3
  rw [zA HL]
  exact ⟨_, rfl, rfl, zA HK1⟩
def deepA (ps : List PlA) : Nat := ps.foldl (fun d p => max d p.st.length) 0
def verifyA (S : List Wq) (l : List ValA) : Nat × Nat × Int := (((lookA S l).1.map deepA).getD 0, (lookA S l).2)
theorem deepA_snoc {ps : List PlA} {k : Nat} {P : PlA} (h : ps[k]? = some P) : deepA (ps.take (k + 1)) = max (deepA (ps.take k)) P.st.length := by
 rw [take_snoc ps k P h]
 unfold deepA
 rw [List.foldl_append]
 rfl
theorem deepA_le {ps : List PlA} (h : ∀ p ∈ ps, p.st.length ≤ 16) : deepA ps ≤ 16 := by
 have : ∀ (q : List PlA) (d : Nat), (∀ p ∈ q, p.st.length ≤ 16) → d ≤ 16 → q.foldl (fun d p => max d p.st.length) d ≤ 16 := by
  intro q
  induction q with
  | nil => intro d _ hd; exact hd
  | cons a r ih => intro d hq hd; exact ih _ (fun p hp => hq p (List.mem_cons_of_mem _ hp)) (Nat.max_le.2 ⟨hd, hq a List.mem_cons_self⟩)
 exact this ps 0 h (by omega)
theorem lookA_some {S : List Wq} {l : List ValA} {ps : List PlA} (h : (lookA S l).1 = some ps) : l.length ≤ 96 := by
 unfold lookA at h
 split at h
 ·cases h
 ·split at h
  ·cases h
  ·rename_i h2
   exact (checkI_zero (by simpa using h2)).1
theorem verify_v (S : List Wq) (so : Option Addr) (sc : Nat) (l : List ValA) (v : Value) (w : World) (hO : Ops w) (hT : Types w) (hS : Wt w (.slice so S.length sc) S) (h : Wr w v l) (hI : InR l) :
  Calls Tryz.prog 35 #[.agg #[.slice so S.length sc], v] w fun e w' => e = .returned (.tuple #[.int .i64 ((verifyA S l).1 : Int), .int .i64 ((verifyA S l).2.1 : Int), .int .i64 (verifyA S l).2.2]) ∧ Wp (fun _ => False) w w' := by
 obtain ⟨ao, cap, rfl⟩ := Ws.form h
 obtain ⟨HB, hbb, hbc⟩ := boxed w #[.slice so S.length sc] 24
 have s0 := hbc 0 (.slice so S.length sc) rfl
 have HQ := zB (look_v S so sc l _ _ (hO.keepF (zA HB)) (hT.keepF (zA HB)) (hS.keepF (zA HB)) (h.keepF (zA HB)) hI)
 have HL : Hid (verifyA S l = (((lookA S l).1.map deepA).getD 0, (lookA S l).2)) := rfl
 have hll := fun ps q => lookA_some (S := S) (l := l) (ps := ps) q
 generalize verifyA S l = V at *
 generalize lookA S l = R at *
 generalize hWb : w.alloc (.cells #[.slice so S.length sc] 24) = Wb at *
 obtain ⟨ro, ra, re⟩ := R
 simp only at *
 clear hbc h hO hS hI hT
 go_enter Tryz.func35, Tryz.ntmps35
 go_wp2_with fail
 refine (zA HQ).mono ?_
 rintro e w1 ⟨pv, rfl, hfo, hk1⟩
 have HK1 := zB ((zA HB).trans hk1)
 clear hk1 HQ
 cases ro with
 | none =>
  obtain rfl : pv = .slice none 0 0 := hfo
  have HE : Hid (V = (0, ra, re)) := zA HL
  clear HL
  go_wp2_with fail
  go_loopw [4, 19] (fun d i wr => d = .int .i64 0 ∧ i = .int .i64 0 ∧ wr = w1) (fun _ _ _ => 0)
  case atStart => exact ⟨rfl, rfl, rfl⟩
  case round =>
   obtain ⟨rfl, rfl, rfl⟩ := hrel
   go_wp2_with fail
   go_ret3
   rw [zA HE]
   exact ⟨rfl, zA HK1⟩
 | some ps =>
  obtain ⟨pb, rfl, hpb, hpl, hpn⟩ := hfo
  have HE : Hid (V = (deepA ps, ra, re)) := zA HL
  have HP := zB hpl
  clear HL hpl
  have hl96 := hll ps rfl
  have hN : (ps.length : Int) ≤ 97 := by omega
  rw [← hpn]
  go_wp2_with fail
  go_loopw [4, 19] (fun d i wr => ∃ k : Nat, k ≤ ps.length ∧ i = .int .i64 k ∧ d = .int .i64 ((deepA (ps.take k) : Nat) : Int) ∧ Wp (fun _ => False) w1 wr) (fun d i _ => ps.length - (intOf i).toNat)
  case atStart => exact ⟨0, Nat.zero_le _, rfl, rfl, Wp.refl _ _⟩
  case round =>
   obtain ⟨k, hk, rfl, rfl, hkp⟩ := hrel
   by_cases hlt : k < ps.length
   ·obtain ⟨P, hP⟩ : ∃ P, ps[k]? = some P := ⟨_, List.getElem?_eq_getElem hlt⟩
    obtain ⟨hP16, p0, p2, pv, p1, hown⟩ := ((zA HP).keepF hkp).at' k P hP
    obtain ⟨po, pc, rfl⟩ := (zG hown).form
    obtain ⟨HY, hyb, hyc⟩ := boxed wr #[.bool P.r, .slice po P.st.length pc, .bool P.u] 99
    have b1 := hyc 1 (.slice po P.st.length pc) rfl
    have HKY := zB (hkp.trans (zA HY))
    have HS := zB (deepA_snoc hP)
    have i2 : (k : Int) < (ps.length : Int) := by omega
    have i0' : (0 : Int) ≤ (k : Int) := by omega
    clear hyc hkp hown HY
    generalize deepA (ps.take k) = D at *
    go_wp2_with fail
    go_roundw
    case rel => exact ⟨k + 1, by omega, by go_num, by rw [zA HS]; congr 1; split <;> omega, zA HKY⟩
    case measure => simp [intOf]; omega
   ·obtain rfl : k = ps.length := by omega
    have i2 : ¬ (ps.length : Int) < (ps.length : Int) := by omega
    have HKE := zB ((zA HK1).trans hkp)
    rw [List.take_length]
    clear hkp hlt
    go_wp2_with fail
    go_ret3
    rw [zA HE]
    exact ⟨rfl, zA HKE⟩
def letR (t : Int) : UInt8 := if t = 1 then 105 else if t = 2 then 98 else 115
theorem kind_v (t : Int) (w : World) : Calls Tryz.prog 143 #[.int .i64 t] w fun e w' => e = .returned (str [letR t]) ∧ w' = w := by
 by_cases h1 : t = 1
 ·subst h1
  go_enter Tryz.func143, Tryz.ntmps143
  go_wp2
  go_ret
  exact ⟨rfl, rfl⟩
 ·by_cases h2 : t = 2
  ·subst h2
   go_enter Tryz.func143, Tryz.ntmps143
   go_wp2
   go_ret
   exact ⟨rfl, rfl⟩
  ·have b1 : (t == 1) = false := by simpa using h1
   have b2 : (t == 2) = false := by simpa using h2
   have HE : Hid (letR t = 115) := by show _ = _; unfold letR; rw [if_neg h1, if_neg h2]
   clear h1 h2
   go_enter Tryz.func143, Tryz.ntmps143
   go_wp2
   go_ret
   rw [zA HE]
   exact ⟨rfl, rfl⟩
theorem refTarget_v (l : List ValA) (v : Value) (w : World) (h : Wr w v l) (k : Nat) (x : ValA) (hx : l[k]? = some x) (hl : l.length ≤ 96) (h0 : 0 ≤ x.n) (h1 : x.n ≤ 255) : Calls Tryz.prog 84 #[v, .int .i64 (k : Int)] w fun e w' => e = .returned (.int .i64 ((k + 1 + x.n.toNat : Nat) : Int)) ∧ Wp (fun _ => False) w w' := by
 obtain ⟨ao, cap, rfl⟩ := Ws.form h
 have hk := (List.getElem?_eq_some_iff.1 hx).1
 obtain ⟨b, off, c, e, hbl, hc⟩ := h.cells (by omega)
 simp at e
 obtain ⟨rfl, rfl⟩ := e
 have c1 := (hc k x hx).2.1
 have i2 : (k : Int) < (l.length : Int) := by omega
 have i0' : (0 : Int) ≤ (k : Int) := by omega
 clear hc
 go_enter Tryz.func84, Tryz.ntmps84
 go_wp2
 go_ret
 exact ⟨ret_int (by omega), Wp.refl _ _⟩
end Go.Proofs.YtbdlcaamanhapaaGreatDoor
