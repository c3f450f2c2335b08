import Derived.Test.YtlcfdfcnijjkiaaF
namespace Go.Proofs.Ytlcfdfcnijjkiaa
open Go.RowKit Go.Maps

def lenV : Value → Nat
  | .slice _ n _ => n
  | _ => 0
def lones (hs : List Value) (ps : List Txt) : List Itm := List.zipWith lone1 hs ps
theorem lones_snoc {hs : List Value} {ps : List Txt} (v : Value) (p : Txt) (h : hs.length = ps.length) : lones (hs ++ [v]) (ps ++ [p]) = lones hs ps ++ [lone1 v p] := by
  unfold lones
  rw [List.zipWith_append h]
  rfl
theorem bytes_drop {w : World} {b off cap : Nat} {p : Txt} (h : BytesAt w (.slice (some ⟨b, off, none⟩) p.length cap) p) (j : Nat) (hj : j < p.length) : BytesAt w (.slice (some ⟨b, off + j, none⟩) (p.drop j).length (cap - j)) (p.drop j) := by
  have hc := RowAt.room h _ _ _ rfl
  obtain ⟨b', off', cap', e, hb, hx⟩ := h.cells (by omega)
  simp at e
  obtain ⟨⟨rfl, rfl⟩, rfl⟩ := e
  refine ⟨⟨_, _, rfl⟩, fun _ => ⟨b, off + j, _, rfl, hb, fun i x hi => ?_⟩, fun ao m c e => by simp at e; omega⟩
  rw [bs_get] at hi
  cases hk : (p.drop j)[i]? with
  | none => rw [hk] at hi; cases hi
  | some c =>
    rw [hk] at hi
    simp at hi
    rw [List.getElem?_drop] at hk
    rw [← hi, Nat.add_assoc]
    exact hx _ _ hk
section
variable {w w' : World} {B sb : Nat} {rv rv' : Value} {r r' : Txt} {bb bb' : Bool} {L : List Itm}
theorem Bag.refill (h : Bag w B (lone1 rv r :: L)) (hS : Spl w B sb rv r bb) (hS' : Spl w' B sb rv' r' bb') (hk : Keeps (fun q => q = sb ∨ rv.ownBlock = some q) w w') (hat : ∀ q, rv'.ownBlock = some q → rv.ownBlock = some q ∨ w.heap.size ≤ q) : Bag w' B (lone1 rv' r' :: L) := by
  obtain ⟨h2, h3⟩ := List.pairwise_cons.1 h.apart
  refine ⟨fun p hp => ?_, List.Pairwise.cons (fun p hp b hb hpb => ?_) h3⟩
  · rcases List.mem_cons.1 hp with rfl | hp
    · exact lone1_at hS'.row
    · refine (h.all p (List.mem_cons_of_mem _ hp)).keep hk (fun b hb e => ?_)
      rcases e with rfl | e
      · obtain ⟨c, hc⟩ := (h.all p (List.mem_cons_of_mem _ hp)).typed hb
        rw [hS.box] at hc
        simp at hc
      · exact h2 p hp b (Or.inl e) hb
  · rcases hat b (lone1_has hb) with e | e
    · exact h2 p hp b (Or.inl e) hpb
    · have := (h.lt (List.mem_cons_of_mem _ hp) hpb).2
      omega
theorem Bag.release (h : Bag w B (lone1 rv r :: L)) (hS : Spl w B sb rv r bb) (hk : Keeps (fun q => q = sb) w w') : Bag w' B (lone1 (.slice none 0 0) [] :: lone1 rv r :: L) := by
  refine ⟨fun p hp => ?_, List.Pairwise.cons (fun p hp b hb hpb => by cases lone1_has hb) h.apart⟩
  rcases List.mem_cons.1 hp with rfl | hp
  · exact lone1_at (World.ownsRow_nil _ _ 5 1)
  · refine (h.all p hp).keep hk (fun b hb e => ?_)
    subst e
    obtain ⟨c, hc⟩ := (h.all p hp).typed hb
    rw [hS.box] at hc
    simp at hc
/-- A row of lists stays where a splitter takes a step. -/
theorem row_spl {C n : Nat} {v : Value} {xs : List Value} (hr : w.ownsRow C 27 1 v n xs) (hS : Spl w B sb rv r bb) (hk : Keeps (fun q => q = sb ∨ rv.ownBlock = some q) w w') : w'.ownsRow C 27 1 v n xs :=
  ownsRow_kept hr hk fun q e f => by
    obtain ⟨_, c2, hc2⟩ := own_typed hr e
    rcases f with rfl | f
    · rw [hS.box] at hc2
      simp at hc2
    · obtain ⟨_, c, hc⟩ := own_typed hS.row f
      rw [hc] at hc2
      simp at hc2
theorem Spl.keep (hS : Spl w B sb rv r bb) {F : Nat → Prop} (hk : Keeps F w w') (h1 : ¬ F sb) (h2 : ∀ q, rv.ownBlock = some q → ¬ F q) : Spl w' B sb rv r bb :=
  ⟨(hk.block sb (lt_of_block hS.box) h1).trans hS.box, hS.row.keep hk h2⟩
theorem Spl.rowKeep {C n : Nat} {v : Value} {xs : List Value} (hS : Spl w B sb rv r bb) (hr : w.ownsRow C 27 1 v n xs) (hk : Keeps (fun q => v.ownBlock = some q) w w') : Spl w' B sb rv r bb := by
  refine hS.keep hk (fun e => ?_) (fun q e f => own_apart hS.row hr (by decide) q e f)
  obtain ⟨_, c, hc⟩ := own_typed hr e
  rw [hS.box] at hc
  simp at hc
end
/-- What a feeding comes to. -/
def feedF (b0 : Bool) (s : Txt) : List Txt × Txt × Bool := if b0 then ([], [], true) else cutP s
/-- Within a feeding. -/
structure Fed (w wr : World) (B sb : Nat) (rv : Value) (F : List Txt × Txt × Bool) (L : List Itm) (m : Txt) (ps : List Txt) (hs : List Value) (v rv' : Value) (r' : Txt) (bb : Bool) : Prop where
  row : wr.ownsRow w.heap.size 27 1 v ps.length hs
  spl : Spl wr B sb rv' r' bb
  bag : Bag wr B (lone1 rv' r' :: (lones hs ps ++ L))
  go : bb = false → Waits r' ∧ F = (ps ++ (cutP (r' ++ m)).1, (cutP (r' ++ m)).2)
  stop : bb = true → r' = [] ∧ F = (ps, [], true)
  keeps : Keeps (fun q => q = sb ∨ rv.ownBlock = some q) w wr
  at_ : ∀ q, rv'.ownBlock = some q → rv.ownBlock = some q ∨ w.heap.size ≤ q
section
variable {w wr w' : World} {B sb : Nat} {rv : Value} {F : List Txt × Txt × Bool} {L : List Itm} {m : Txt} {ps : List Txt} {hs : List Value} {v rv' : Value} {r' : Txt} {bb : Bool}
theorem Fed.lens (h : Fed w wr B sb rv F L m ps hs v rv' r' bb) : hs.length = ps.length := by have := h.row.1; omega
theorem Fed.few (h : Fed w wr B sb rv F L m ps hs v rv' r' bb) : ps.length ≤ F.1.length := by
  cases bb with
  | false => rw [(h.go rfl).2]; simp
  | true => rw [(h.stop rfl).2]; exact Nat.le_refl _
theorem Fed.step1 {g c T : Nat} (h : Fed w wr B sb rv F L m ps hs v rv' r' false) (hT : T = takeP r' m) (hS : Spl w' B sb (.slice (some ⟨g, 0, none⟩) (r'.length + T) c) (r' ++ m.take T) false) (hat : rv'.ownBlock = some g ∨ wr.heap.size ≤ g) (hk : Keeps (fun q => q = sb ∨ rv'.ownBlock = some q) wr w') :
    w'.ownsRow w.heap.size 27 1 v ps.length hs ∧ Bag w' B (lone1 (.slice (some ⟨g, 0, none⟩) (r'.length + T) c) (r' ++ m.take T) :: (lones hs ps ++ L)) ∧ Keeps (fun q => q = sb ∨ rv.ownBlock = some q) w w' ∧ (∀ q, (Value.slice (some ⟨g, 0, none⟩) (r'.length + T) c).ownBlock = some q → rv.ownBlock = some q ∨ w.heap.size ≤ q) ∧ F = (ps ++ (cutP ((r' ++ m.take T) ++ m.drop T)).1, (cutP ((r' ++ m.take T) ++ m.drop T)).2) := by
  have hat2 : ∀ q, (Value.slice (some ⟨g, 0, none⟩) (r'.length + T) c).ownBlock = some q → rv'.ownBlock = some q ∨ wr.heap.size ≤ q := by
    intro q hq
    simp [Value.ownBlock] at hq
    subst hq
    exact hat
  refine ⟨row_spl h.row h.spl hk, h.bag.refill h.spl hS hk hat2, h.keeps.then hk (fun q hq e => ?_), fun q hq => ?_, by rw [hT, ← split_eq]; exact (h.go rfl).2⟩
  · rcases e with e | e
    · exact Or.inl e
    · rcases h.at_ q e with e | e
      · exact Or.inr e
      · omega
  · rcases hat2 q hq with e | e
    · exact h.at_ q e
    · exact Or.inr (Nat.le_trans h.keeps.size e)
theorem Fed.wait {k : Nat} (h : Fed w wr B sb rv F L m ps hs v rv' r' false) {g c T : Nat} (hT : T = takeP r' m) (hS : Spl w' B sb (.slice (some ⟨g, 0, none⟩) (r'.length + T) c) (r' ++ m.take T) false) (hat : rv'.ownBlock = some g ∨ wr.heap.size ≤ g) (hk : Keeps (fun q => q = sb ∨ rv'.ownBlock = some q) wr w') (hw : Waits (r' ++ m.take T)) :
    Fed w (w'.drewN k) B sb rv F L (m.drop T) ps hs v (.slice (some ⟨g, 0, none⟩) (r'.length + T) c) (r' ++ m.take T) false := by
  obtain ⟨h1, h2, h3, h4, h5⟩ := h.step1 hT hS hat hk
  have hd := keeps_drewN w' k
  exact ⟨ownsRow_kept h1 hd (fun _ _ => id), hS.drewN k, h2.keepF hd, fun _ => ⟨hw, h5⟩, fun e => (by cases e), h3.trans hd.any, h4⟩
theorem Fed.bad {w2 : World} (h : Fed w wr B sb rv F L m ps hs v rv' r' false) {g c T : Nat} (hT : T = takeP r' m) (hS : Spl w' B sb (.slice (some ⟨g, 0, none⟩) (r'.length + T) c) (r' ++ m.take T) false) (hat : rv'.ownBlock = some g ∨ wr.heap.size ≤ g) (hk : Keeps (fun q => q = sb ∨ rv'.ownBlock = some q) wr w')
    (h4 : 4 ≤ (r' ++ m.take T).length) (hb : lenP (r' ++ m.take T) < 14 ∨ 32768 < lenP (r' ++ m.take T)) (hS2 : Spl w2 B sb (.slice none 0 0) [] true) (hk2 : Keeps (fun q => q = sb) w' w2) : Fed w w2 B sb rv F L (m.drop T) ps hs v (.slice none 0 0) [] true := by
  obtain ⟨h1, h2, h3, _, h5⟩ := h.step1 hT hS hat hk
  have hk2' : Keeps (fun q => q = sb ∨ (Value.slice (some ⟨g, 0, none⟩) (r'.length + T) c).ownBlock = some q) w' w2 := hk2.mono (fun q _ e => Or.inl e)
  refine ⟨row_spl h1 hS hk2', hS2, h2.refill hS hS2 hk2' (fun q e => (by cases e)), fun e => (by cases e), fun _ => ⟨rfl, ?_⟩, h3.trans (hk2.mono (fun q _ e => Or.inl e)), fun q e => (by cases e)⟩
  rw [h5, cut_breaks h4 hb]
  simp
theorem Fed.part {w2 w3 : World} (h : Fed w wr B sb rv F L m ps hs v rv' r' false) {g c T : Nat} (hT : T = takeP r' m) (hS : Spl w' B sb (.slice (some ⟨g, 0, none⟩) (r'.length + T) c) (r' ++ m.take T) false) (hat : rv'.ownBlock = some g ∨ wr.heap.size ≤ g) (hk : Keeps (fun q => q = sb ∨ rv'.ownBlock = some q) wr w')
    (h4 : 4 ≤ (r' ++ m.take T).length) (hb : ¬ (lenP (r' ++ m.take T) < 14 ∨ 32768 < lenP (r' ++ m.take T))) (hl : (r' ++ m.take T).length = lenP (r' ++ m.take T)) (hS2 : Spl w2 B sb (.slice none 0 0) [] false) (hk2 : Keeps (fun q => q = sb) w' w2)
    {o : Obj} {g2 cap : Nat} (hG : GrewL (w2.alloc o) w3 w.heap.size 27 ps.length 1 v g2 cap hs [.slice (some ⟨g, 0, none⟩) (r'.length + T) c]) :
    Fed w w3 B sb rv F L (m.drop T) (ps ++ [r' ++ m.take T]) (hs ++ [.slice (some ⟨g, 0, none⟩) (r'.length + T) c]) (.slice (some ⟨g2, 0, none⟩) (ps.length + 1) cap) (.slice none 0 0) [] false := by
  obtain ⟨h1, h2, h3, _, h5⟩ := h.step1 hT hS hat hk
  have hk2' : Keeps (fun q => q = sb ∨ (Value.slice (some ⟨g, 0, none⟩) (r'.length + T) c).ownBlock = some q) w' w2 := hk2.mono (fun q _ e => Or.inl e)
  have hka : Keeps (fun _ => False) w2 (w2.alloc o) := (Keeps.refl _ _).alloc _
  have hr2 := ownsRow_kept (row_spl h1 hS hk2') hka (fun _ _ => id)
  have hb2 := (h2.release hS hk2).keepF hka
  refine ⟨by rw [List.length_append]; exact hG.own, (hS2.keep hka id (fun _ _ => id)).rowKeep hr2 hG.keeps, ?_, fun _ => ⟨waits_nil, ?_⟩, fun e => (by cases e), ?_, fun q e => (by cases e)⟩
  · refine (hb2.rowKeep hr2 hG.keeps).perm ?_
    rw [lones_snoc _ _ h.lens]
    simp only [List.append_assoc, List.cons_append, List.nil_append]
    exact List.Perm.cons _ List.perm_middle.symm
  · rw [h5, cut_whole h4 hb hl]
    simp
  · refine ((h3.trans (hk2.mono (fun q _ e => Or.inl e))).trans hka.any).then hG.keeps (fun q hq e => ?_)
    have := own_geO hr2 e
    omega
theorem Fed.start {bb : Bool} {r p : Txt} (hS : Spl w B sb rv r bb) (hB : Bag w B (lone1 rv r :: L)) (h0 : bb = false → Waits r) (h1 : bb = true → r = []) : Fed w w B sb rv (feedF bb (r ++ p)) L p [] [] (.slice none 0 0) rv r bb :=
  ⟨World.ownsRow_nil _ _ 27 1, hS, hB, fun e => by subst e; exact ⟨h0 rfl, by simp [feedF]⟩, fun e => by subst e; exact ⟨h1 rfl, by simp [feedF]⟩, Keeps.refl _ _, fun q e => Or.inl e⟩
theorem Fed.ends (h : Fed w wr B sb rv F L m ps hs v rv' r' bb) (he : bb = true ∨ m = []) : F = (ps, r', bb) := by
  cases bb with
  | true => rw [(h.stop rfl).2, (h.stop rfl).1]
  | false =>
    have hm : m = [] := by rcases he with e | e; cases e; exact e
    obtain ⟨hw, e⟩ := h.go rfl
    rw [e, hm, List.append_nil, hw.cut]
    simp
end
/-- What Feed has told and done. -/
def FedOut (w w' : World) (B sb : Nat) (rv : Value) (F : List Txt × Txt × Bool) (L : List Itm) (e : Ending) : Prop :=
  ∃ (vo : Option Addr) (vc : Nat) (hs : List Value) (rv' : Value) (ec : Int), e = .returned (.tuple #[.slice vo F.1.length vc, .int .i64 ec]) ∧ ec = (if F.2.2 then 240 else 0) ∧ w'.ownsRow w.heap.size 27 1 (.slice vo F.1.length vc) F.1.length hs ∧ Spl w' B sb rv' F.2.1 F.2.2 ∧ Bag w' B (lone1 rv' F.2.1 :: (lones hs F.1 ++ L)) ∧ Keeps (fun q => q = sb ∨ rv.ownBlock = some q) w w'

theorem Fed.out {w wr : World} {B sb : Nat} {rv : Value} {F : List Txt × Txt × Bool} {L : List Itm} {m : Txt} {ps : List Txt} {hs : List Value} {v rv' : Value} {r' : Txt} {bb : Bool} (h : Fed w wr B sb rv F L m ps hs v rv' r' bb) (he : bb = true ∨ m = []) (k : Int) (hk : k = if bb then 240 else 0) : FedOut w wr B sb rv F L (.returned (.tuple #[v, .int .i64 k])) := by
  have e := h.ends he
  subst e
  obtain ⟨vo, vc, rfl⟩ := (rowAt_own h.row).form
  exact ⟨vo, vc, hs, rv', k, rfl, hk, h.row, h.spl, h.bag, h.keeps⟩

set_option maxRecDepth 100000 in
set_option maxHeartbeats 4000000 in
theorem feed_v (w : World) (B sb : Nat) (rv : Value) (r p : Txt) (bb : Bool) (L : List Itm) (b off cap : Nat) (hB : B ≤ w.heap.size) (hS : Spl w B sb rv r bb) (hG : Bag w B (lone1 rv r :: L)) (h0 : bb = false → Waits r) (h1 : bb = true → r = [])
    (hp : BytesAt w (.slice (some ⟨b, off, none⟩) p.length cap) p) (hb : b < w.heap.size) (hbs : b ≠ sb) (hbr : rv.ownBlock ≠ some b) (hl : p.length ≤ 1073741824) :
    Calls Try.prog 4 #[.pointer (some ⟨sb, 0, none⟩), .slice (some ⟨b, off, none⟩) p.length cap] w fun e w' => FedOut w w' B sb rv (feedF bb (r ++ p)) L e := by
  have HF : Hid (Fed w w B sb rv (feedF bb (r ++ p)) L p [] [] (.slice none 0 0) rv r bb) := Fed.start hS hG h0 h1
  have HFL : Hid ((feedF bb (r ++ p)).1.length ≤ 2147483648) := by
    show _ ≤ _
    unfold feedF
    cases bb with
    | true => simp
    | false =>
      have hr : r.length ≤ 32768 := by rcases h0 rfl with h | ⟨_, h, _⟩ <;> omega
      have := (cut_len _ (r ++ p) (Nat.le_refl _)).1
      rw [List.length_append] at this
      simp
      omega
  have HP := hide hp
  have HB := hide hB
  have HBS := hide hbs
  have HBR := hide hbr
  have HBL := hide hb
  have HL := hide hl
  generalize feedF bb (r ++ p) = F at *
  clear hS hG h0 h1 hp hB hbs hbr hb hl
  go_enter Try.func4, Try.ntmps4
  go_wp2_with fail
  go_loopw [1, 6] (fun pv vv wr => ∃ (j : Nat) (ao : Option Addr) (c : Nat) (ps : List Txt) (hs : List Value) (rv' : Value) (r' : Txt) (bb' : Bool), j ≤ p.length ∧ pv = .slice ao (p.drop j).length c ∧ (j < p.length → ao = some ⟨b, off + j, none⟩ ∧ c = cap - j) ∧ Hid (Fed w wr B sb rv F L (p.drop j) ps hs vv rv' r' bb')) (fun pv _ _ => lenV pv)
  case atStart => exact ⟨0, _, _, _, _, _, _, _, Nat.zero_le _, rfl, fun _ => ⟨rfl, rfl⟩, HF⟩
  case round =>
    obtain ⟨j, ao, c, ps, hs, rv', r', bb', hj, rfl, hao, HD⟩ := hrel
    have p1 := cell_of_blk (unhide HD).spl.box 1
    simp at p1
    cases bb' with
    | true =>
      go_wp2_with fail
      go_ret2
      exact (unhide HD).out (Or.inl rfl) _ rfl
    | false =>
      by_cases hlt : j < p.length
      · obtain ⟨rfl, rfl⟩ := hao hlt
        have HM : Hid (p.drop j = p.drop j) := rfl
        have hbm := bytes_drop (RowAt.kept (unhide HP) (unhide HD).keeps (fun k e => by
          simp [Value.ownBlock] at e
          subst e
          exact fun f => f.elim (unhide HBS) (unhide HBR))) j hlt
        have hml : (p.drop j).length = p.length - j := List.length_drop ..
        have HT : Hid (∀ T, p.drop (j + T) = (p.drop j).drop T) := fun T => by rw [List.drop_drop]
        have HN : Hid ((p.drop j).length = p.length - j) := hml
        generalize hmm : p.drop j = m at *
        have hw := ((unhide HD).go rfl).1
        have hr : r'.length ≤ 32768 := by rcases hw with h | ⟨_, h, _⟩ <;> omega
        have hpl := unhide HL
        have HC := hide (fill_v wr B sb rv' r' m b (off + j) (cap - j) (unhide HD).spl (Nat.le_trans (unhide HB) (unhide HD).keeps.size) hw hbm (by omega) hr (by omega))
        have HS := hide (step_cases (p := m) hw)
        have HT0 := hide (take_pos (p := m) hw (by omega))
        have HTL : Hid (takeP r' m ≤ m.length) := by show _ ≤ _; unfold takeP; omega
        have HTT : Hid (takeP r' m = takeP r' m) := rfl
        have i0 : (m.length : Int) > 0 := by omega
        clear hmm hbm hw hr hml hao hj
        go_wp2_with fail
        refine (unhide HC).mono ?_
        rintro e w1 ⟨g, c1, ao', rfl, hao', hS1, hat, hk1⟩
        generalize hTT : takeP r' m = T at *
        have HR : Hid (∀ {ps' : List Txt} {hs' : List Value} {vv rv2 : Value} {r2 : Txt} {b2 : Bool} {wz : World}, Fed w wz B sb rv F L (m.drop T) ps' hs' vv rv2 r2 b2 → ∃ (j' : Nat) (ao2 : Option Addr) (c2 : Nat) (ps : List Txt) (hs : List Value) (rv' : Value) (r' : Txt) (bb' : Bool), j' ≤ p.length ∧ Value.slice ao' (m.length - T) (cap - j - T) = .slice ao2 (p.drop j').length c2 ∧ (j' < p.length → ao2 = some ⟨b, off + j', none⟩ ∧ c2 = cap - j') ∧ Hid (Fed w wz B sb rv F L (p.drop j') ps hs vv rv' r' bb')) := by
          intro ps' hs' vv rv2 r2 b2 wz hZ
          have h1 := unhide HN
          have h2 := unhide HTL
          refine ⟨j + T, ao', _, ps', hs', rv2, r2, b2, by omega, by rw [(unhide HT) T, List.length_drop], fun h => ⟨?_, by omega⟩, ?_⟩
          · rw [hao' (by omega), Nat.add_assoc]
          · rw [(unhide HT) T]; exact hZ
        have HD1 := hide hS1
        have HA1 := hide hat
        have HK1 := hide hk1
        have HTT2 := hide hTT
        have hms : lenV (Value.slice ao' (m.length - T) (cap - j - T)) < lenV (Value.slice (some ⟨b, off + j, none⟩) m.length (cap - j)) := by
          have := unhide HT0
          have := unhide HTL
          simp only [lenV]
          omega
        have HMS := hide hms
        clear hS1 hat hk1 hTT hms hao'
        rcases unhide HS with ⟨hw, hc⟩ | ⟨h4, hb⟩ | ⟨h4, hb, hl⟩
        · have HQ := hide (next_wait w1 B sb _ _ (unhide HD1) hc)
          have HW := hide hw
          clear hw hc
          go_wp2_with fail
          refine (unhide HQ).mono ?_
          rintro e w2 ⟨rfl, n, rfl⟩
          go_wp2_with fail
          go_roundw
          case rel => exact (unhide HR) ((unhide HD).wait (unhide HTT2).symm (unhide HD1) (unhide HA1) (unhide HK1) (unhide HW))
          case measure => exact unhide HMS
        · have HQ := hide (next_bad w1 B sb _ _ (unhide HD1) h4 hb)
          have HW := hide (And.intro h4 hb)
          clear h4 hb
          go_wp2_with fail
          refine (unhide HQ).mono ?_
          rintro e w2 ⟨rfl, hS2, hk2⟩
          have HD2 := hide hS2
          have HK2 := hide hk2
          clear hS2 hk2
          go_wp2_with fail
          go_roundw
          case rel => exact (unhide HR) ((unhide HD).bad (unhide HTT2).symm (unhide HD1) (unhide HA1) (unhide HK1) (unhide HW).1 (unhide HW).2 (unhide HD2) (unhide HK2))
          case measure => exact unhide HMS
        · have HQ := hide (next_part w1 B sb _ _ (unhide HD1) h4 hb hl)
          have HW := hide (And.intro h4 (And.intro hb hl))
          clear h4 hb hl
          go_wp2_with fail
          refine (unhide HQ).mono ?_
          rintro e w2 ⟨rfl, hS2, hk2⟩
          have HD2 := hide hS2
          have HK2 := hide hk2
          clear hS2 hk2
          have HRO : Hid (w2.ownsRow w.heap.size 27 1 u6 ps.length hs) := row_spl ((unhide HD).step1 (unhide HTT2).symm (unhide HD1) (unhide HA1) (unhide HK1)).1 (unhide HD1) ((unhide HK2).mono (fun q _ e => Or.inl e))
          have HPL : Hid (ps.length + 1 ≤ 4398046511104) := by
            show _ ≤ _
            have := (unhide HD).few
            have := unhide HFL
            omega
          have HWS : Hid (w.heap.size ≤ w2.heap.size) := Nat.le_trans (Nat.le_trans (unhide HD).keeps.size (unhide HK1).size) (unhide HK2).size
          go_wp2_with (at_builtin; refine append_list rfl _ _ rfl w.heap.size u6 ps.length hs rfl (ownsRow_kept (unhide HRO) ((Keeps.refl _ _).alloc _) (fun _ _ => id)) w2.heap.size 1 (.slice (some ⟨g, 0, none⟩) (r'.length + T) c1) rfl (by rw [cell_of_blk (heap_alloc_new w2 _)]; rfl) rfl (unhide HPL) (Nat.le_trans (unhide HWS) (by simp)) ?_; intro g2 cap2 w3 HG)
          go_roundw
          case rel => exact (unhide HR) ((unhide HD).part (unhide HTT2).symm (unhide HD1) (unhide HA1) (unhide HK1) (unhide HW).1 (unhide HW).2.1 (unhide HW).2.2 (unhide HD2) (unhide HK2) HG)
          case measure => exact unhide HMS
      · have hm : p.drop j = [] := List.drop_eq_nil_of_le (by omega)
        have HM := hide hm
        have i0 : ¬ ((p.drop j).length : Int) > 0 := by rw [hm]; simp
        clear hm
        go_wp2_with fail
        go_ret2
        exact (unhide HD).out (Or.inr (unhide HM)) _ rfl
end Go.Proofs.Ytlcfdfcnijjkiaa
