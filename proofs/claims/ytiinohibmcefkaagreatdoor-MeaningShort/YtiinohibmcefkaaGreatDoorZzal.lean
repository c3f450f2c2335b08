import Derived.Test.YtiinohibmcefkaaGreatDoorZzaz
import Derived.Test.YtiinohibmcefkaaGreatDoorZzba
import Derived.Test.YtiinohibmcefkaaGreatDoorZzat
import Derived.Maps.OwnSet
import Derived.Test.YtiinohibmcefkaaGreatDoorZzai
import Derived.Laws.EntriesVeiled
namespace Go.Proofs.YtiinohibmcefkaaGreatDoor
open Go.RowKit Go.Maps

/-- A map of counts. -/
def Cnt (w : World) (mb n : Nat) (c : Txt → Nat) : Prop :=
  ∃ D : DataW Unit, w.ownsMap Tryz.prog 9 (plainElem Tryz.prog 3) mb n D ∧ (∀ s, D.atKey (.string s) (.lit (.int .i64 0)) = .lit (.int .i64 (c s))) ∧ ∀ s, c s ≤ n
def bump (c : Txt → Nat) (nm : Txt) (s : Txt) : Nat := if s = nm then c s + 1 else c s
theorem zero3 (w : World) : (zeroValue 3).run Tryz.prog w = .ok (.int .i64 0) w := by kernel_rfl
theorem Cnt.congr {w : World} {mb n : Nat} {c c' : Txt → Nat} (h : Cnt w mb n c) (e : ∀ s, c s = c' s) : Cnt w mb n c' := by
  have : c = c' := funext e
  rw [← this]
  exact h
theorem Cnt.keep {w w' : World} {mb n : Nat} {c : Txt → Nat} (h : Cnt w mb n c) {F : Nat → Prop} (hk : Keeps F w w') (hF : ¬ F mb) : Cnt w' mb n c := by
  obtain ⟨D, ⟨es, clock, hb, r⟩, h2⟩ := h
  exact ⟨D, ⟨es, clock, (hk.block _ (lt_of_block hb) hF).trans hb, r⟩, h2⟩
theorem Cnt.lt {w : World} {mb n : Nat} {c : Txt → Nat} (h : Cnt w mb n c) : mb < w.heap.size := by
  obtain ⟨D, h1, _⟩ := h
  exact h1.lt
theorem Cnt.le {w : World} {mb n : Nat} {c : Txt → Nat} (h : Cnt w mb n c) (s : Txt) : c s ≤ n := by
  obtain ⟨D, _, _, h1⟩ := h
  exact h1 s
theorem Cnt.made (w : World) : Cnt (w.alloc (.map #[] 0)) w.heap.size 0 (fun _ => 0) :=
  ⟨.map [], World.ownsMap_made w Tryz.prog 9 _, fun _ => rfl, fun _ => Nat.le_refl _⟩
theorem Cnt.look {w : World} {mb n : Nat} {c : Txt → Nat} (h : Cnt w mb n c) {nm : Txt} (hl : nm.length ≤ 1000) :
    (Instr.lookup 94 (.map (some mb)) (str nm) false).run Tryz.prog w = .ok (.int .i64 (c nm)) w := by
  obtain ⟨D, h1, h2, _⟩ := h
  obtain ⟨x, hrun, hat, _⟩ := h1.lookup_int strKeyed Tryz.underlying94 Tryz.underlying3 (zero3 w) (keyStr hl)
  rw [h2 nm] at hat
  simp at hat
  rw [hrun, hat]
theorem Cnt.store {w : World} {mb n : Nat} {c : Txt → Nat} (h : Cnt w mb n c) {nm : Txt} (hl : nm.length ≤ 1000) (hn : n ≤ 4611686018427387904) :
    ∃ w', (Instr.mapUpdate 94 (.map (some mb)) (str nm) (.int .i64 ((c nm : Int) + 1))).run Tryz.prog w = .ok () w' ∧ Cnt w' mb (n + 1) (bump c nm) ∧ Keeps (fun k => k = mb) w w' := by
  obtain ⟨D, h1, h2, h3⟩ := h
  have hc := h3 nm
  have hw : (Lit.int .i64 ((c nm : Int) + 1)).wf = true := by simp [Lit.wf, IntKind.min, IntKind.max, IntKind.signed, IntKind.bits]; omega
  obtain ⟨w', hrun, hm, ht⟩ := h1.store strKeyed Tryz.underlying94 (by unfold maxLen; omega) (keyStr hl) (plainElem_int Tryz.underlying3 hw)
  refine ⟨w', hrun, ⟨_, hm, fun s => ?_, fun s => ?_⟩, (Keeps.refl _ _).grown ht.grown (fun q e _ => by simpa using e.symm)⟩
  · unfold bump
    by_cases e : s = nm
    · subst e
      rw [atKey_put_same h1.isMap (isKeyStr _), if_pos rfl]
      simp
    · rw [atKey_put_other (fun h => e (by simpa using h)), if_neg e, h2 s]
  · have := h3 s
    unfold bump
    split <;> omega
/-- How often a list of expressions names a field. -/
def cntE : EL → Txt → Nat
  | .nil, _ => 0
  | .cons op _ s kids rest, x => (if (op = 4 ∨ op = 5) ∧ s = x then 1 else 0) + cntE kids x + cntE rest x
theorem rootB_name {op n : Int} {s : Txt} {k : Nat} (h : rootB op n s k = true) (ho : op = 4 ∨ op = 5) : s.length ≤ 1000 := by
  unfold rootB leafB at h
  rw [if_neg (show ¬ op = 1 by omega), if_neg (show ¬ op = 2 by omega), if_neg (show ¬ op = 3 by omega), if_pos ho] at h
  simp only [Bool.and_eq_true] at h
  have := name_short h.2.2.2
  omega

set_option maxRecDepth 100000 in
set_option maxHeartbeats 4000000 in
theorem countNames_v (B mb : Nat) (hBm : B ≤ mb) (N : Nat) : ∀ (l : EL), l.size < N → l.size ≤ 4294967294 → wellE l = true → ∀ (w : World) (up : Nat) (v : Value) (n : Nat) (c : Txt → Nat), SlE (argZ B) w up v l → Cnt w mb n c → n + l.size ≤ 4611686018427387904 →
    Calls Tryz.prog 46 #[.map (some mb), v] w fun e w' => e = .returned (.tuple #[]) ∧ ∃ n', n' ≤ n + l.size ∧ Cnt w' mb n' (fun x => c x + cntE l x) ∧ Keeps (fun k => k = mb) w w' := by
  induction N with
  | zero => intro l h; omega
  | succ N ih =>
    intro l hsz hlen' hwl w up v n c hS hC hn
    have hlen : l.len ≤ 4294967294 := by have := EL.len_le l; omega
    obtain ⟨ao, cap, b, off, rfl, hcap, ha, hx⟩ := hS.open
    have IH := hide ih
    have HX := hide hx
    have HA := hide ha
    have HC := hide hC
    have HWL := hide hwl
    clear hS ih hx ha hC hwl
    go_enter Tryz.func46, Tryz.ntmps46
    go_wp2_with fail
    go_loopw [8] (fun i wr => ∃ (rest : EL) (k m : Nat) (d : Txt → Nat), i = .int .i64 k ∧ k + rest.len = l.len ∧ rest.size ≤ l.size ∧ wellE rest = true ∧ m + rest.size ≤ n + l.size ∧ Hid (∀ x, d x + cntE rest x = c x + cntE l x) ∧ Cnt wr mb m d ∧ Keeps (fun k => k = mb) w wr ∧ ExIn (argZ B) wr rest b (off + k * 4)) (fun i _ => l.len - (intOf i).toNat)
    case atStart => exact ⟨l, 0, n, c, rfl, by omega, Nat.le_refl _, unhide HWL, Nat.le_refl _, fun _ => rfl, unhide HC, Keeps.refl _ _, by simpa using unhide HX⟩
    case round =>
      obtain ⟨rest, k, m, d, rfl, hkl, hrs, hwr, hm, HD, hc, hkeep, hr⟩ := hrel
      have HK := hide hkeep
      have HCN := hide hc
      cases rest with
      | nil =>
        simp only [EL.len, EL.size] at hkl hm hrs
        have i1 : ¬ (k : Int) < (l.len : Int) := by omega
        clear hc hkeep hr hwr
        go_wp2_with fail
        go_end0
        exact ⟨rfl, m, by omega, (unhide HCN).congr (fun x => by have := unhide HD x; simpa [cntE] using this), unhide HK⟩
      | cons op nn s kids rest =>
        obtain ⟨h1, h2, h3, h4, h5, ⟨kao, kcap, h6, h7, h8⟩, h9⟩ := hr
        simp only [EL.len, EL.size] at hkl hm hrs
        simp only [wellE, Bool.and_eq_true] at hwr
        obtain ⟨hroot, hwk, hwr⟩ := hwr
        obtain ⟨rfl, hp⟩ := (unhide HA) (by omega)
        have HKID : Hid (SlE (argZ B) wr b (.slice kao kids.len kcap) kids) := ⟨kao, kcap, rfl, h7, h8⟩
        have HR := hide h9
        have i1 : (k : Int) < (l.len : Int) := by omega
        have ix0 : (0 : Int) ≤ (k : Int) := by omega
        obtain ⟨HB, hxb, hxc⟩ := boxedT wr #[.int .i64 op, .int .i64 nn, str s, .slice kao kids.len kcap] 27
        have y0 := hxc 0 (.int .i64 op) rfl
        have y2 := hxc 2 (str s) rfl
        have y3 := hxc 3 (.slice kao kids.len kcap) rfl
        have HWK := hide hwk
        have HWR := hide hwr
        have hc1 : Cnt (wr.alloc (.cells #[.int .i64 op, .int .i64 nn, str s, .slice kao kids.len kcap] 27)) mb m d := hc.keep (unhide HB) id
        have hmlt := hc.lt
        have HKA : Hid (Keeps (fun k => k = mb) w (wr.alloc (.cells #[.int .i64 op, .int .i64 nn, str s, .slice kao kids.len kcap] 27))) := (unhide HK).alloc _
        have HKB : Hid (Keeps (fun k => k = mb) wr (wr.alloc (.cells #[.int .i64 op, .int .i64 nn, str s, .slice kao kids.len kcap] 27))) := (Keeps.refl _ wr).alloc _
        by_cases ho : op = 4 ∨ op = 5
        · have hl := rootB_name hroot ho
          have hlk := hc1.look hl
          obtain ⟨w1, hst, hc2, hk2⟩ := hc1.store hl (by omega)
          have q3 := (hk2.cell (o := 3) hxb (show ¬ wr.heap.size = mb by omega)).trans y3
          have HCALL := hide (unhide IH kids (by omega) (by omega) (unhide HWK) w1 b (.slice kao kids.len kcap) (m + 1) _ ((unhide HKID).argKeep ((unhide HKB).trans hk2) (fun k e => by omega)) hc2 (by omega))
          have HK2 := hide hk2
          have hd1 : d s ≤ 4611686018427387904 := by have := hc1.le s; omega
          clear hc hkeep h2 h8 h9 hxc hc1 hc2 hk2 hroot hwk hwr hl
          rcases ho with rfl | rfl
          · go_wp2_with (go_at_call 46; refine (unhide HCALL).mono ?_; rintro e w2 ⟨rfl, n2, hn2, hc3, hk3⟩; have HC3 := hide hc3; have HK3 := hide hk3; clear hc3 hk3)
            go_roundw
            case rel =>
              refine ⟨rest, k + 1, n2, _, by go_num, by omega, by omega, unhide HWR, by omega, fun x => ?_, unhide HC3, ((unhide HKA).trans (unhide HK2)).trans (unhide HK3), ?_⟩
              · have h := unhide HD x
                simp only [cntE] at h
                unfold bump
                by_cases e : x = s
                · subst e; simp at h ⊢; omega
                · rw [if_neg e]; rw [if_neg (fun h => e h.2.symm)] at h; omega
              · rw [show off + (k + 1) * 4 = off + k * 4 + 4 by omega]
                exact (unhide HR).argKeep (((unhide HKB).trans (unhide HK2)).trans (unhide HK3)) (fun k e => by omega)
            case measure => simp [intOf]; omega
          · go_wp2_with (go_at_call 46; refine (unhide HCALL).mono ?_; rintro e w2 ⟨rfl, n2, hn2, hc3, hk3⟩; have HC3 := hide hc3; have HK3 := hide hk3; clear hc3 hk3)
            go_roundw
            case rel =>
              refine ⟨rest, k + 1, n2, _, by go_num, by omega, by omega, unhide HWR, by omega, fun x => ?_, unhide HC3, ((unhide HKA).trans (unhide HK2)).trans (unhide HK3), ?_⟩
              · have h := unhide HD x
                simp only [cntE] at h
                unfold bump
                by_cases e : x = s
                · subst e; simp at h ⊢; omega
                · rw [if_neg e]; rw [if_neg (fun h => e h.2.symm)] at h; omega
              · rw [show off + (k + 1) * 4 = off + k * 4 + 4 by omega]
                exact (unhide HR).argKeep (((unhide HKB).trans (unhide HK2)).trans (unhide HK3)) (fun k e => by omega)
            case measure => simp [intOf]; omega
        · have o4 : (op == 4) = false := by simp; omega
          have o5 : (op == 5) = false := by simp; omega
          have HCALL := hide (unhide IH kids (by omega) (by omega) (unhide HWK) _ b (.slice kao kids.len kcap) m _ ((unhide HKID).argKeep (unhide HKB) (fun k e => by omega)) hc1 (by omega))
          have HO := hide ho
          clear hc hkeep h2 h8 h9 hxc hc1 hroot hwk hwr ho
          go_wp2_with (go_at_call 46; refine (unhide HCALL).mono ?_; rintro e w2 ⟨rfl, n2, hn2, hc3, hk3⟩; have HC3 := hide hc3; have HK3 := hide hk3; clear hc3 hk3)
          go_roundw
          case rel =>
            refine ⟨rest, k + 1, n2, _, by go_num, by omega, by omega, unhide HWR, by omega, fun x => ?_, unhide HC3, (unhide HKA).trans (unhide HK3), ?_⟩
            · have h := unhide HD x
              simp only [cntE] at h
              rw [if_neg (fun h => (unhide HO) h.1)] at h
              omega
            · rw [show off + (k + 1) * 4 = off + k * 4 + 4 by omega]
              exact (unhide HR).argKeep ((unhide HKB).trans (unhide HK3)) (fun k e => by omega)
          case measure => simp [intOf]; omega
end Go.Proofs.YtiinohibmcefkaaGreatDoor
namespace Go.Proofs.YtiinohibmcefkaaGreatDoor
open Go.RowKit Go.Maps

/-- Closures in a slice. -/
def WsAt (S : List FieldA) (G : Nat → Prop) (W : World) (kv : Value) (fs : List (Bool → List ValA → ValA)) : Prop :=
  ∃ b, kv = .slice (some ⟨b, 0, none⟩) fs.length fs.length ∧ b < W.heap.size ∧ ∀ (i : Nat) f, fs[i]? = some f → ∃ fv, W.cell? ⟨b, i, none⟩ = some fv ∧ Wth S G W fv f
/-- A function value that makes an operation's closure of those of its kids. -/
def OpF (S : List FieldA) (F : Nat → Prop) (w : World) (ov : Value) (n : Nat) (g : List ValA → ValA) : Prop :=
  ∃ k cap, ov = .func (.func k) #[] cap ∧ Enters Tryz.prog k ∧ ∀ (W : World) (G : Nat → Prop) (kv : Value) (fs : List (Bool → List ValA → ValA)), Keeps F w W → (∀ q, G q → q < w.heap.size → F q) → (∀ q, G q → q < W.heap.size) → fs.length = n → WsAt S G W kv fs →
    Calls Tryz.prog k (#[kv] ++ cap) W fun e W' => ∃ fv, e = .returned fv ∧ Wth S G W' fv (fun h vals => g (fs.map fun f => f h vals)) ∧ Keeps (fun _ => False) W W'
theorem OpF.shift {S : List FieldA} {F F' : Nat → Prop} {w w' : World} {ov : Value} {n : Nat} {g : List ValA → ValA} (h : OpF S F w ov n g) (hk : Keeps F w w') (hF : ∀ q, F' q → q < w.heap.size → F q) : OpF S F' w' ov n g := by
  obtain ⟨k, cap, e, h1, h2⟩ := h
  exact ⟨k, cap, e, h1, fun W G kv fs hW hG => h2 W G kv fs (hk.then hW (fun i hi hf => hF i hf hi)) (fun q hq hl => hF q (hG q hq (Nat.lt_of_lt_of_le hl hk.size)) hl)⟩
/-- A maker over a schema. -/
structure MkAt (S : List FieldA) (F : Nat → Prop) (w : World) (m mb n tab : Nat) (zv : Value) : Prop where
  lt : m < w.heap.size
  nF : ¬ F m
  c0 : w.cell? ⟨m, 0, none⟩ = some (.map (some mb))
  c1 : w.cell? ⟨m, 1, none⟩ = some zv
  c2 : w.cell? ⟨m, 2, none⟩ = some (.slice (some ⟨tab, 0, none⟩) 26 26)
  map : Cnt w mb n (placeP S)
  mF : ¬ F mb
  zero : ValsAt w zv (zeros S)
  zF : ∀ k, zv.ownBlock = some k → ¬ F k
  tl : tab < w.heap.size
  tF : ¬ F tab
  ops : ∀ i : Nat, 7 ≤ i → i ≤ 25 → ∃ ov, w.cell? ⟨tab, i, none⟩ = some ov ∧ OpF S F w ov (kidsB i).toNat (opV i)
theorem own_lt {w : World} {v : Value} {n k : Nat} {l : List Value} (h : RowAt w v n l) (hn : 0 < n) (e : v.ownBlock = some k) : k < w.heap.size := by
  obtain ⟨b, off, cap, rfl, hb, _⟩ := h.cells hn
  simp [Value.ownBlock] at e
  omega
theorem MkAt.shift {S : List FieldA} {F F' : Nat → Prop} {w w' : World} {m mb n tab : Nat} {zv : Value} (h : MkAt S F w m mb n tab zv) (hS : 0 < S.length) (hk : Keeps F w w') (hF : ∀ q, F' q → q < w.heap.size → F q) : MkAt S F' w' m mb n tab zv := by
  have hml := h.map.lt
  have hz : ∀ k, zv.ownBlock = some k → k < w.heap.size := fun k e => own_lt h.zero (by rw [zeros_length]; exact hS) e
  refine ⟨Nat.lt_of_lt_of_le h.lt hk.size, fun e => h.nF (hF _ e h.lt), (hk.cell h.lt h.nF).trans h.c0, (hk.cell h.lt h.nF).trans h.c1, (hk.cell h.lt h.nF).trans h.c2, h.map.keep hk h.mF, fun e => h.mF (hF _ e hml), RowAt.kept h.zero hk h.zF, fun k e f => h.zF k e (hF k f (hz k e)), Nat.lt_of_lt_of_le h.tl hk.size, fun e => h.tF (hF _ e h.tl), fun i h1 h2 => ?_⟩
  obtain ⟨ov, ho, hf⟩ := h.ops i h1 h2
  exact ⟨ov, (hk.cell h.tl h.tF).trans ho, hf.shift hk hF⟩
theorem MkAt.keepF {S : List FieldA} {F : Nat → Prop} {w w' : World} {m mb n tab : Nat} {zv : Value} (h : MkAt S F w m mb n tab zv) (hS : 0 < S.length) (hk : Keeps (fun _ => False) w w') : MkAt S F w' m mb n tab zv := h.shift hS hk.any (fun _ h _ => h)
theorem vals_at {l : List ValA} {i : Nat} (h : i < l.length) : l[i]? = some ((l[i]?).getD zV) := by
  rw [List.getElem?_eq_getElem h]
  rfl
set_option maxRecDepth 100000 in
set_option maxHeartbeats 1000000 in
theorem field1_v (S : List FieldA) (F : Nat → Prop) (w : World) (m mb n tab : Nat) (zv : Value) (hM : MkAt S F w m mb n tab zv) (hS : 0 < S.length) (hS8 : S.length ≤ 8) (nm : Txt) (pb qb : Nat) (hp : w.cell? ⟨pb, 0, none⟩ = some (.pointer (some ⟨m, 0, none⟩))) (hq : w.cell? ⟨qb, 0, none⟩ = some (.int .i64 (placeP S nm))) (lp : pb < w.heap.size) (lq : qb < w.heap.size) (np : ¬ F pb) (nq : ¬ F qb) :
    Wth S F w (.func (.func 141) #[] #[.pointer (some ⟨pb, 0, none⟩), .pointer (some ⟨qb, 0, none⟩)]) (fun h vals => fieldV S h vals nm) := by
  refine ⟨141, _, rfl, enters_of Tryz.func141 (by kernel_rfl) rfl, fun h vals hr => fieldV_short hr nm, fun W h u vals hk hv hr => ?_⟩
  have hlt := placeP_lt nm hS
  show Calls _ _ _ _ (fun e W' => e = .returned (fieldV S h vals nm).v ∧ _)
  cases h with
  | true =>
    have hlen := hr.1 rfl
    obtain ⟨b, off, uc, rfl, hbl, hc⟩ := hv.cells (by omega)
    obtain ⟨X, hX, P⟩ := pro_of W true (some ⟨b, off, none⟩) vals.length uc
    have hg : vals[placeP S nm]? = some (fieldV S true vals nm) := vals_at (by omega)
    obtain ⟨x0, x1, x2⟩ := hc _ _ hg
    have y0 := (P.kept.cell hbl id).trans x0
    have y1 := (P.kept.cell hbl id).trans x1
    have y2 := (P.kept.cell hbl id).trans x2
    have c0 := P.old hk lq nq hq (Keeps.refl _ _)
    have c1 := (P.cells (Keeps.refl _ _)).1
    have c2 := (P.cells (Keeps.refl _ _)).2
    have HP := hide P
    have HKA := hide (Keeps.refl (fun _ => False) X)
    generalize fieldV S true vals nm = B at *
    obtain ⟨Bk, Bn, Bx⟩ := B
    simp only [ValA.v] at y0 y1 y2 ⊢
    have hz := (unhide HP).out (unhide HKA)
    have m0 := cell_of_blk hz 0
    have m1 := cell_of_blk hz 1
    have m2 := cell_of_blk hz 2
    simp at m0 m1 m2
    have g0 := frozen_of_blk hz 0
    have g1 := frozen_of_blk hz 1
    have g2 := frozen_of_blk hz 2
    obtain ⟨o0, o1, o2⟩ := set3v hz (.int .i64 Bk) (.int .i64 Bn) (str Bx)
    clear hz
    have i1 : (placeP S nm : Int) < (vals.length : Int) := by omega
    have i0 : (0 : Int) ≤ (placeP S nm : Int) := by omega
    generalize placeP S nm = p at *
    generalize vals.length = L at *
    clear hM hc hg x0 x1 x2 hq hp hv P hr hlt hlen hbl
    go_enter Tryz.func141, Tryz.ntmps141
    go_wp2_with fail
    refine bodyPost_ret (v := .agg #[.int .i64 Bk, .int .i64 Bn, str Bx]) (by simp [results, go_sem, o0, o1, o2]) rfl ?_
    exact ⟨rfl, (unhide HP).done (unhide HKA) _ _ _⟩
  | false =>
    have hz0 := hM.zero
    obtain ⟨b, off, zc, rfl, hbl, hc⟩ := hz0.cells (by rw [zeros_length]; exact hS)
    obtain ⟨uo, uc, rfl⟩ := RowAt.form hv
    obtain ⟨X, hX, P⟩ := pro_of W false uo vals.length uc
    have hg : (zeros S)[placeP S nm]? = some (fieldV S false vals nm) := vals_at (by rw [zeros_length]; exact hlt)
    obtain ⟨x0, x1, x2⟩ := hc _ _ hg
    have nb : ¬ F b := hM.zF b rfl
    have y0 := P.old hk hbl nb x0 (Keeps.refl _ _)
    have y1 := P.old hk hbl nb x1 (Keeps.refl _ _)
    have y2 := P.old hk hbl nb x2 (Keeps.refl _ _)
    have c0 := P.old hk lq nq hq (Keeps.refl _ _)
    have c3 := P.old hk lp np hp (Keeps.refl _ _)
    have c4 := P.old hk hM.lt hM.nF hM.c1 (Keeps.refl _ _)
    have c1 := (P.cells (Keeps.refl _ _)).1
    have c2 := (P.cells (Keeps.refl _ _)).2
    have HP := hide P
    have HKA := hide (Keeps.refl (fun _ => False) X)
    generalize fieldV S false vals nm = B at *
    obtain ⟨Bk, Bn, Bx⟩ := B
    simp only [ValA.v] at y0 y1 y2 ⊢
    have hz := (unhide HP).out (unhide HKA)
    have m0 := cell_of_blk hz 0
    have m1 := cell_of_blk hz 1
    have m2 := cell_of_blk hz 2
    simp at m0 m1 m2
    have g0 := frozen_of_blk hz 0
    have g1 := frozen_of_blk hz 1
    have g2 := frozen_of_blk hz 2
    obtain ⟨o0, o1, o2⟩ := set3v hz (.int .i64 Bk) (.int .i64 Bn) (str Bx)
    clear hz
    have i1 : (placeP S nm : Int) < ((zeros S).length : Int) := by rw [zeros_length]; omega
    have i0 : (0 : Int) ≤ (placeP S nm : Int) := by omega
    generalize placeP S nm = p at *
    generalize (zeros S).length = L at *
    clear hM hc hg x0 x1 x2 hq hp hv P hr hlt hbl hz0
    go_enter Tryz.func141, Tryz.ntmps141
    go_wp2_with fail
    go_region
    go_wp2_with fail
    refine bodyPost_ret (v := .agg #[.int .i64 Bk, .int .i64 Bn, str Bx]) (by simp [results, go_sem, o0, o1, o2]) rfl ?_
    exact ⟨rfl, (unhide HP).done (unhide HKA).drew _ _ _⟩
end Go.Proofs.YtiinohibmcefkaaGreatDoor
namespace Go.Proofs.YtiinohibmcefkaaGreatDoor
open Go.RowKit Go.Maps

/-- What a maker of closures answers. -/
def Made (S : List FieldA) (G : Nat → Prop) (W : World) (f : Bool → List ValA → ValA) (e : Ending) (W' : World) : Prop := ∃ fv, e = .returned fv ∧ Wth S G W' fv f ∧ Keeps (fun _ => False) W W'
set_option maxRecDepth 100000 in
theorem always_v (S : List FieldA) (G : Nat → Prop) (W : World) (hG : ∀ q, G q → q < W.heap.size) (v : ValA) (hs : v.s.length ≤ 20) :
    Calls Tryz.prog 76 #[v.v] W (Made S G W (fun _ _ => v)) := by
  obtain ⟨vk, vn, vx⟩ := v
  obtain ⟨HB, hb, hbc⟩ := boxed W #[.int .i64 vk, .int .i64 vn, str vx] 41
  have h0 := always1_v S G _ ⟨vk, vn, vx⟩ W.heap.size (hbc 0 _ rfl) (hbc 1 _ rfl) (hbc 2 _ rfl) hb (fun h => by have := hG _ h; omega) hs
  have HW := hide h0
  simp only [ValA.v]
  clear hbc h0 hs
  go_enter Tryz.func76, Tryz.ntmps76
  go_wp2_with fail
  go_ret
  exact ⟨_, rfl, unhide HW, unhide HB⟩
set_option maxRecDepth 100000 in
theorem field_v (S : List FieldA) (G : Nat → Prop) (W : World) (m mb n tab : Nat) (zv : Value) (hM : MkAt S G W m mb n tab zv) (hS : 0 < S.length) (hS8 : S.length ≤ 8) (hG : ∀ q, G q → q < W.heap.size) (nm : Txt) (hn : nm.length ≤ 1000) :
    Calls Tryz.prog 80 #[.pointer (some ⟨m, 0, none⟩), str nm] W (Made S G W (fun h vals => fieldV S h vals nm)) := by
  obtain ⟨HB, hb, hbc⟩ := boxed W #[.pointer (some ⟨m, 0, none⟩)] 89
  generalize hX : W.alloc (.cells #[.pointer (some ⟨m, 0, none⟩)] 89) = X at *
  obtain ⟨HB2, hb2, hbc2⟩ := boxed X #[.int .i64 (placeP S nm)] 3
  have b0 := hbc 0 (.pointer (some ⟨m, 0, none⟩)) rfl
  have hM2 := hM.keepF hS (unhide HB)
  have h1 := hM2.c0
  have h2 := hM2.map.look hn
  have K2 := (unhide HB).trans (unhide HB2)
  have h0 := field1_v S G _ m mb n tab zv (hM.keepF hS K2) hS hS8 nm W.heap.size X.heap.size (((unhide HB2).cell hb id).trans b0) (hbc2 0 _ rfl) (Nat.lt_of_lt_of_le hb (unhide HB2).size) hb2 (fun h => by have := hG _ h; omega) (fun h => by have := hG _ h; have := (unhide HB).size; omega)
  have HW := hide h0
  have HK := hide K2
  clear hbc hbc2 h0 hM hM2 K2 HB HB2
  generalize placeP S nm = p at *
  go_enter Tryz.func80, Tryz.ntmps80
  go_wp2_with fail
  go_ret
  exact ⟨_, rfl, unhide HW, unhide HK⟩
set_option maxRecDepth 100000 in
theorem hasM_v (S : List FieldA) (G : Nat → Prop) (W : World) (m mb n tab : Nat) (zv : Value) (hM : MkAt S G W m mb n tab zv) (hS : 0 < S.length) (hS8 : S.length ≤ 8) (hG : ∀ q, G q → q < W.heap.size) (nm : Txt) (hn : nm.length ≤ 1000) :
    Calls Tryz.prog 81 #[.pointer (some ⟨m, 0, none⟩), str nm] W (Made S G W (fun h vals => truV (!decide ((fieldV S h vals nm).kind = 0)))) := by
  have HC := hide (field_v S G W m mb n tab zv hM hS hS8 hG nm hn)
  clear hM
  go_enter Tryz.func81, Tryz.ntmps81
  go_wp2_with fail
  refine (unhide HC).mono ?_
  rintro e w1 ⟨fv, rfl, hw, hk1⟩
  obtain ⟨HB, hb, hbc⟩ := boxed w1 #[fv] 88
  have h0 := has1_v S G _ fv _ w1.heap.size (hw.keepF (unhide HB)) (hbc 0 _ rfl) hb (fun h => by have := hG _ h; have := hk1.size; omega)
  have HW := hide h0
  have HK := hide (hk1.trans (unhide HB))
  clear hbc h0 hk1
  obtain ⟨k, cap, rfl, _⟩ := hw
  go_wp2_with fail
  go_ret
  exact ⟨_, rfl, unhide HW, unhide HK⟩
end Go.Proofs.YtiinohibmcefkaaGreatDoor
namespace Go.Proofs.YtiinohibmcefkaaGreatDoor
open Go.RowKit Go.Maps

set_option maxRecDepth 100000 in
theorem one11_v (S : List FieldA) (F : Nat → Prop) (w : World) (tv fv : Value) (g : ValA → ValA) (f : Bool → List ValA → ValA) (tb ab : Nat) (hT : OneF tv g) (hA : Wth S F w fv f) (ht : w.cell? ⟨tb, 0, none⟩ = some tv) (ha : w.cell? ⟨ab, 0, none⟩ = some fv) (lt : tb < w.heap.size) (la : ab < w.heap.size) (nt : ¬ F tb) (na : ¬ F ab) :
    Wth S F w (.func (.func 188) #[] #[.pointer (some ⟨tb, 0, none⟩), .pointer (some ⟨ab, 0, none⟩)]) (fun h vals => g (f h vals)) := by
  obtain ⟨kt, rfl, et, hg, hT⟩ := hT
  obtain ⟨k, cap, rfl, ek, hl, hA⟩ := hA
  refine ⟨188, _, rfl, enters_of Tryz.func188 (by kernel_rfl) rfl, fun h vals hr => hg _ (hl h vals hr), fun W h u vals hk hv hr => ?_⟩
  obtain ⟨uo, uc, rfl⟩ := RowAt.form hv
  obtain ⟨X, hX, P⟩ := pro_of W h uo vals.length uc
  have SB : ∀ w' : World, Keeps (fun q => q = W.heap.size + 1) X w' → w'.cell? ⟨tb, 0, none⟩ = some (.func (.func kt) #[] #[]) ∧ w'.cell? ⟨ab, 0, none⟩ = some (.func (.func k) #[] cap) ∧ w'.cell? ⟨W.heap.size, 0, none⟩ = some (.bool h) ∧ w'.cell? ⟨W.heap.size, 1, none⟩ = some (.slice uo vals.length uc) := fun w' hq =>
    ⟨P.old hk lt nt ht hq, P.old hk la na ha hq, (P.cells hq).1, (P.cells hq).2⟩
  have HSB := hide SB
  have s0 := SB X (Keeps.refl _ _)
  have HC1 := hide (hA X.drew h (.slice uo vals.length uc) vals ((hk.trans P.kept.any).drew) (hv.keepF P.kept.drew) hr)
  have HC2 := fun W' => hide (hT W' (f h vals) (hl h vals hr))
  have HP := hide P
  have HX := hide hX.symm
  show Calls _ _ _ _ (fun e W' => e = .returned (g (f h vals)).v ∧ _)
  clear hA hT hg hl SB ht ha hv P hX
  generalize g (f h vals) = B at *
  generalize f h vals = A at *
  obtain ⟨ak, an, ax⟩ := A
  obtain ⟨Bk, Bn, Bx⟩ := B
  simp only [ValA.v] at HC1 HC2 ⊢
  unfold Enters at et ek
  go_enter Tryz.func188, Tryz.ntmps188
  go_wp2_with fail
  rw [← unhide HX]
  go_region_held3 (fun w' => w'.cell? ⟨tb, 0, none⟩ = some (.func (.func kt) #[] #[]) ∧ w'.cell? ⟨ab, 0, none⟩ = some (.func (.func k) #[] cap) ∧ w'.cell? ⟨W.heap.size, 0, none⟩ = some (.bool h) ∧ w'.cell? ⟨W.heap.size, 1, none⟩ = some (.slice uo vals.length uc))
    (first | with_reducible exact s0 | with_reducible exact r0 | with_reducible exact r1 | with_reducible exact r2 | with_reducible exact unhide HSB _ (Keeps.refl _ _).drew)
    (first
      | (with_reducible refine (unhide HC1).mono ?_; rintro e w1 ⟨rfl, hk1⟩; have HKA := hide ((Keeps.refl (fun _ => False) X).drew.trans hk1); have r0 := unhide HSB _ (unhide HKA).any; clear hk1)
      | (with_reducible refine (unhide (HC2 w1)).mono ?_; rintro e w2 ⟨rfl, hk2⟩; have HKB := hide ((unhide HKA).trans hk2); have r1 := unhide HSB _ (unhide HKB).any; have hz := (unhide HP).out (unhide HKB); have m0 := cell_of_blk hz 0; have m1 := cell_of_blk hz 1; have m2 := cell_of_blk hz 2; simp at m0 m1 m2; have g0 := frozen_of_blk hz 0; have g1 := frozen_of_blk hz 1; have g2 := frozen_of_blk hz 2; obtain ⟨o0, o1, o2⟩ := set3v hz (.int .i64 Bk) (.int .i64 Bn) (str Bx); have r2 := unhide HSB _ ((unhide HKB).any.trans (keeps_set3 w2 (W.heap.size + 1) (.int .i64 Bk) (.int .i64 Bn) (str Bx))); clear hz hk2))
  go_wp2_with fail
  refine bodyPost_ret (v := .agg #[.int .i64 Bk, .int .i64 Bn, str Bx]) (by simp [results, go_sem, o0, o1, o2]) rfl ?_
  exact ⟨rfl, (unhide HP).done (unhide HKB) _ _ _⟩
set_option maxRecDepth 100000 in
set_option maxHeartbeats 1000000 in
theorem two11_v (S : List FieldA) (F : Nat → Prop) (w : World) (tv fv gv : Value) (g : ValA → ValA → ValA) (f f2 : Bool → List ValA → ValA) (tb ab bb : Nat) (hT : TwoF tv g) (hA : Wth S F w fv f) (hB : Wth S F w gv f2) (ht : w.cell? ⟨tb, 0, none⟩ = some tv) (ha : w.cell? ⟨ab, 0, none⟩ = some fv) (hb : w.cell? ⟨bb, 0, none⟩ = some gv) (lt : tb < w.heap.size) (la : ab < w.heap.size) (lb : bb < w.heap.size) (nt : ¬ F tb) (na : ¬ F ab) (nb : ¬ F bb) :
    Wth S F w (.func (.func 190) #[] #[.pointer (some ⟨tb, 0, none⟩), .pointer (some ⟨ab, 0, none⟩), .pointer (some ⟨bb, 0, none⟩)]) (fun h vals => g (f h vals) (f2 h vals)) := by
  obtain ⟨kt, rfl, et, hg, hT⟩ := hT
  obtain ⟨k, cap, rfl, ek, hl, hA⟩ := hA
  obtain ⟨k2, cap2, rfl, ek2, hl2, hB⟩ := hB
  refine ⟨190, _, rfl, enters_of Tryz.func190 (by kernel_rfl) rfl, fun h vals hr => hg _ _ (hl h vals hr) (hl2 h vals hr), fun W h u vals hk hv hr => ?_⟩
  obtain ⟨uo, uc, rfl⟩ := RowAt.form hv
  obtain ⟨X, hX, P⟩ := pro_of W h uo vals.length uc
  have SB : ∀ w' : World, Keeps (fun q => q = W.heap.size + 1) X w' → w'.cell? ⟨tb, 0, none⟩ = some (.func (.func kt) #[] #[]) ∧ w'.cell? ⟨ab, 0, none⟩ = some (.func (.func k) #[] cap) ∧ w'.cell? ⟨bb, 0, none⟩ = some (.func (.func k2) #[] cap2) ∧ w'.cell? ⟨W.heap.size, 0, none⟩ = some (.bool h) ∧ w'.cell? ⟨W.heap.size, 1, none⟩ = some (.slice uo vals.length uc) := fun w' hq =>
    ⟨P.old hk lt nt ht hq, P.old hk la na ha hq, P.old hk lb nb hb hq, (P.cells hq).1, (P.cells hq).2⟩
  have HSB := hide SB
  have s0 := SB X (Keeps.refl _ _)
  have HC1 := hide (hA X.drew h (.slice uo vals.length uc) vals ((hk.trans P.kept.any).drew) (hv.keepF P.kept.drew) hr)
  have HC2 := fun W' (hq : Keeps (fun _ => False) X W') => hide (hB W' h (.slice uo vals.length uc) vals ((hk.trans P.kept.any).trans hq.any) (hv.keepF (P.kept.trans hq)) hr)
  have HC3 := fun W' => hide (hT W' (f h vals) (f2 h vals) (hl h vals hr) (hl2 h vals hr))
  have HP := hide P
  have HX := hide hX.symm
  show Calls _ _ _ _ (fun e W' => e = .returned (g (f h vals) (f2 h vals)).v ∧ _)
  clear hA hB hT hg hl hl2 SB ht ha hb hv P hX
  generalize g (f h vals) (f2 h vals) = B at *
  generalize f h vals = A at *
  generalize f2 h vals = A2 at *
  obtain ⟨ak, an, ax⟩ := A
  obtain ⟨dk, dn, dx⟩ := A2
  obtain ⟨Bk, Bn, Bx⟩ := B
  simp only [ValA.v] at HC1 HC2 HC3 ⊢
  unfold Enters at et ek ek2
  go_enter Tryz.func190, Tryz.ntmps190
  go_wp2_with fail
  rw [← unhide HX]
  go_region_held3 (fun w' => w'.cell? ⟨tb, 0, none⟩ = some (.func (.func kt) #[] #[]) ∧ w'.cell? ⟨ab, 0, none⟩ = some (.func (.func k) #[] cap) ∧ w'.cell? ⟨bb, 0, none⟩ = some (.func (.func k2) #[] cap2) ∧ w'.cell? ⟨W.heap.size, 0, none⟩ = some (.bool h) ∧ w'.cell? ⟨W.heap.size, 1, none⟩ = some (.slice uo vals.length uc))
    (first | with_reducible exact s0 | with_reducible exact r0 | with_reducible exact r1 | with_reducible exact r2 | with_reducible exact r3 | with_reducible exact unhide HSB _ (Keeps.refl _ _).drew)
    (first
      | (with_reducible refine (unhide HC1).mono ?_; rintro e w1 ⟨rfl, hk1⟩; have HKA := hide ((Keeps.refl (fun _ => False) X).drew.trans hk1); have r0 := unhide HSB _ (unhide HKA).any; have mk1 : True := trivial; clear hk1)
      | (clear mk1; with_reducible refine (unhide (HC2 w1 (unhide HKA))).mono ?_; rintro e w2 ⟨rfl, hk2⟩; have HKB := hide ((unhide HKA).trans hk2); have r1 := unhide HSB _ (unhide HKB).any; have mk2 : True := trivial; clear hk2)
      | (clear mk2; with_reducible refine (unhide (HC3 w2)).mono ?_; rintro e w3 ⟨rfl, hk3⟩; have HKC := hide ((unhide HKB).trans hk3); have r2 := unhide HSB _ (unhide HKC).any; have hz := (unhide HP).out (unhide HKC); have m0 := cell_of_blk hz 0; have m1 := cell_of_blk hz 1; have m2 := cell_of_blk hz 2; simp at m0 m1 m2; have g0 := frozen_of_blk hz 0; have g1 := frozen_of_blk hz 1; have g2 := frozen_of_blk hz 2; obtain ⟨o0, o1, o2⟩ := set3v hz (.int .i64 Bk) (.int .i64 Bn) (str Bx); have r3 := unhide HSB _ ((unhide HKC).any.trans (keeps_set3 w3 (W.heap.size + 1) (.int .i64 Bk) (.int .i64 Bn) (str Bx))); clear hz hk3))
  go_wp2_with fail
  refine bodyPost_ret (v := .agg #[.int .i64 Bk, .int .i64 Bn, str Bx]) (by simp [results, go_sem, o0, o1, o2]) rfl ?_
  exact ⟨rfl, (unhide HP).done (unhide HKC) _ _ _⟩
end Go.Proofs.YtiinohibmcefkaaGreatDoor
namespace Go.Proofs.YtiinohibmcefkaaGreatDoor
open Go.RowKit Go.Maps

set_option maxRecDepth 100000 in
set_option maxHeartbeats 1000000 in
theorem pick1_v (S : List FieldA) (F : Nat → Prop) (w : World) (cv fv gv : Value) (c f f2 : Bool → List ValA → ValA) (cb ab bb : Nat) (hC : Wth S F w cv c) (hA : Wth S F w fv f) (hB : Wth S F w gv f2) (hc : w.cell? ⟨cb, 0, none⟩ = some cv) (ha : w.cell? ⟨ab, 0, none⟩ = some fv) (hb : w.cell? ⟨bb, 0, none⟩ = some gv) (lc : cb < w.heap.size) (la : ab < w.heap.size) (lb : bb < w.heap.size) (nc : ¬ F cb) (na : ¬ F ab) (nb : ¬ F bb) :
    Wth S F w (.func (.func 195) #[] #[.pointer (some ⟨cb, 0, none⟩), .pointer (some ⟨ab, 0, none⟩), .pointer (some ⟨bb, 0, none⟩)]) (fun h vals => if (c h vals).n = 1 then f h vals else f2 h vals) := by
  obtain ⟨kc, capc, rfl, ec, hlc, hC⟩ := hC
  obtain ⟨k, cap, rfl, ek, hl, hA⟩ := hA
  obtain ⟨k2, cap2, rfl, ek2, hl2, hB⟩ := hB
  refine ⟨195, _, rfl, enters_of Tryz.func195 (by kernel_rfl) rfl, fun h vals hr => ite_short (fun _ => hl h vals hr) (fun _ => hl2 h vals hr), fun W h u vals hk hv hr => ?_⟩
  obtain ⟨uo, uc, rfl⟩ := RowAt.form hv
  obtain ⟨X, hX, P⟩ := pro_of W h uo vals.length uc
  have SB : ∀ w' : World, Keeps (fun q => q = W.heap.size + 1) X w' → w'.cell? ⟨cb, 0, none⟩ = some (.func (.func kc) #[] capc) ∧ w'.cell? ⟨ab, 0, none⟩ = some (.func (.func k) #[] cap) ∧ w'.cell? ⟨bb, 0, none⟩ = some (.func (.func k2) #[] cap2) ∧ w'.cell? ⟨W.heap.size, 0, none⟩ = some (.bool h) ∧ w'.cell? ⟨W.heap.size, 1, none⟩ = some (.slice uo vals.length uc) := fun w' hq =>
    ⟨P.old hk lc nc hc hq, P.old hk la na ha hq, P.old hk lb nb hb hq, (P.cells hq).1, (P.cells hq).2⟩
  have HSB := hide SB
  have s0 := SB X (Keeps.refl _ _)
  have HC0 := fun W' (hq : Keeps (fun _ => False) X W') => hide (hC W' h (.slice uo vals.length uc) vals ((hk.trans P.kept.any).trans hq.any) (hv.keepF (P.kept.trans hq)) hr)
  have HC1 := fun W' (hq : Keeps (fun _ => False) X W') => hide (hA W' h (.slice uo vals.length uc) vals ((hk.trans P.kept.any).trans hq.any) (hv.keepF (P.kept.trans hq)) hr)
  have HC2 := fun W' (hq : Keeps (fun _ => False) X W') => hide (hB W' h (.slice uo vals.length uc) vals ((hk.trans P.kept.any).trans hq.any) (hv.keepF (P.kept.trans hq)) hr)
  have HP := hide P
  show Calls _ _ _ _ (fun e W' => e = .returned (if (c h vals).n = 1 then f h vals else f2 h vals).v ∧ _)
  clear hC hA hB hlc hl hl2 SB hc ha hb hv P
  generalize c h vals = C at *
  generalize f h vals = A at *
  generalize f2 h vals = B at *
  have HI := fun W' => hide (isTrue_v C W')
  obtain ⟨ck, cn, cx⟩ := C
  obtain ⟨Ak, An, Ax⟩ := A
  obtain ⟨Bk, Bn, Bx⟩ := B
  unfold Enters at ec ek ek2
  by_cases hcn : cn = 1
  · rw [if_pos hcn]
    have HD : ∀ W', Hid (Calls Tryz.prog 132 #[ValA.v ⟨ck, cn, cx⟩] W' fun e w' => e = .returned (.bool true) ∧ Keeps (fun _ => False) W' w') := fun W' => by show Calls _ _ _ _ _; have := unhide (HI W'); simpa [hcn] using this
    clear HI hcn HC2
    simp only [ValA.v] at HC0 HC1 HD ⊢
    go_enter Tryz.func195, Tryz.ntmps195
    go_wp2_with fail
    refine (unhide (HC0 _ (Keeps.refl _ _))).mono ?_
    rintro e w1 ⟨rfl, hk1⟩
    go_wp2_with fail
    refine (unhide (HD _)).mono ?_
    rintro e w2 ⟨rfl, hk2⟩
    have s1 := unhide HSB _ (hk1.trans hk2).any
    go_wp2_with fail
    refine (unhide (HC1 _ (hk1.trans hk2))).mono ?_
    rintro e w3 ⟨rfl, hk3⟩
    have HKA := hide ((hk1.trans hk2).trans hk3)
    have hz := (unhide HP).out (unhide HKA)
    have m0 := cell_of_blk hz 0
    have m1 := cell_of_blk hz 1
    have m2 := cell_of_blk hz 2
    simp at m0 m1 m2
    have g0 := frozen_of_blk hz 0
    have g1 := frozen_of_blk hz 1
    have g2 := frozen_of_blk hz 2
    obtain ⟨o0, o1, o2⟩ := set3v hz (.int .i64 Ak) (.int .i64 An) (str Ax)
    clear hz hk1 hk2 hk3
    go_wp2_with fail
    refine bodyPost_ret (v := .agg #[.int .i64 Ak, .int .i64 An, str Ax]) (by simp [results, go_sem, o0, o1, o2]) rfl ?_
    exact ⟨rfl, (unhide HP).done (unhide HKA) _ _ _⟩
  · rw [if_neg hcn]
    have HD : ∀ W', Hid (Calls Tryz.prog 132 #[ValA.v ⟨ck, cn, cx⟩] W' fun e w' => e = .returned (.bool false) ∧ Keeps (fun _ => False) W' w') := fun W' => by show Calls _ _ _ _ _; have := unhide (HI W'); simpa [hcn] using this
    clear HI hcn HC1
    simp only [ValA.v] at HC0 HC2 HD ⊢
    go_enter Tryz.func195, Tryz.ntmps195
    go_wp2_with fail
    refine (unhide (HC0 _ (Keeps.refl _ _))).mono ?_
    rintro e w1 ⟨rfl, hk1⟩
    go_wp2_with fail
    refine (unhide (HD _)).mono ?_
    rintro e w2 ⟨rfl, hk2⟩
    have s1 := unhide HSB _ (hk1.trans hk2).any
    go_wp2_with fail
    refine (unhide (HC2 _ (hk1.trans hk2))).mono ?_
    rintro e w3 ⟨rfl, hk3⟩
    have HKA := hide ((hk1.trans hk2).trans hk3)
    have hz := (unhide HP).out (unhide HKA)
    have m0 := cell_of_blk hz 0
    have m1 := cell_of_blk hz 1
    have m2 := cell_of_blk hz 2
    simp at m0 m1 m2
    have g0 := frozen_of_blk hz 0
    have g1 := frozen_of_blk hz 1
    have g2 := frozen_of_blk hz 2
    obtain ⟨o0, o1, o2⟩ := set3v hz (.int .i64 Bk) (.int .i64 Bn) (str Bx)
    clear hz hk1 hk2 hk3
    go_wp2_with fail
    refine bodyPost_ret (v := .agg #[.int .i64 Bk, .int .i64 Bn, str Bx]) (by simp [results, go_sem, o0, o1, o2]) rfl ?_
    exact ⟨rfl, (unhide HP).done (unhide HKA) _ _ _⟩
end Go.Proofs.YtiinohibmcefkaaGreatDoor
