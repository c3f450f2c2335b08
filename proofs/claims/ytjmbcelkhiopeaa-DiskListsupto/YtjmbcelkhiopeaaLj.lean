import Derived.Test.YtjmbcelkhiopeaaLf
import Derived.Test.YtjmbcelkhiopeaaLd
namespace Go.Proofs.Ytjmbcelkhiopeaa
open Go.RowKit Go.Maps
attribute [local go_sem ↓] Go.wp_at_zero Go.wp_at_succ

theorem own_of_all {w wr : World} {B : Nat} {b b1 : Bk} {P : Nat → Prop} (hb : BookAt w B b) (hb1 : BookAt wr B b1) (hk1 : Keeps (fun q => b.own q ∨ P q) w wr) (hP : ∀ q, P q → ¬ b.all q) (ha1 : ∀ q, b1.all q → b.all q ∨ P q ∨ w.heap.size ≤ q) : ∀ q, b1.own q → b.own q ∨ P q ∨ w.heap.size ≤ q := by
  intro q h
  rcases ha1 q (Or.inl h) with h' | h'
  · rcases h' with h' | h'
    · exact Or.inl h'
    · exfalso
      obtain ⟨_, c, t, fr, e1, e2⟩ := hb.F q h'
      obtain ⟨_, c', t', e3, e4⟩ := hb1.own_at h
      have e5 := hk1.block q (lt_of_block e1) (fun h2 => h2.elim (hb.F_own h') (fun h2 => hP q h2 (Or.inr h')))
      rw [e5, e1] at e3
      simp at e3
      obtain ⟨_, rfl, _⟩ := e3
      rcases e2 with h2 | h2 | h2 <;> rcases e4 with h3 | h3 | h3 | h3 <;> rw [h2] at h3 <;> exact absurd h3 (by decide)
  · exact Or.inr h'

theorem marks_grown {w w' : World} {B : Nat} {ao : Option Addr} {n cap : Nat} {z : Int} (hR : Marks w (.slice ao n cap) n z) (ho : ∀ a, ao = some a → a.off = 0 ∧ a.block < w.heap.size) {g' cap' m : Nat} (hm : n ≤ m)
    (hrow' : w'.ownsRow B 60 2 (.slice (some ⟨g', 0, none⟩) m cap') m (mks z m)) {row : Option Nat} (hg : w.grownBy w' row) (hr : ∀ q, row = some q → q = g') : Marks w' (.slice ao n cap) n z := by
  refine ⟨hR.form, fun h0 => ?_⟩
  obtain ⟨b, off, cap1, e, hc⟩ := hR.cells h0
  refine ⟨b, off, cap1, e, fun j hj => ?_⟩
  have e' := e
  simp at e'
  obtain ⟨h1, h2⟩ := ho _ e'.1
  simp only at h1 h2
  subst h1
  by_cases hb : b = g'
  · subst hb
    obtain ⟨a1, a2⟩ := mks_at z m j (by omega)
    have q1 := (row_cell hrow').2.2 _ _ a1
    have q2 := (row_cell hrow').2.2 _ _ a2
    simp only [Nat.zero_add]
    exact ⟨q1, q2⟩
  · rw [hg.cell_far ⟨b, 0 + j * 2, none⟩ h2 (fun e => hb (hr b e.symm)), hg.cell_far ⟨b, 0 + j * 2 + 1, none⟩ h2 (fun e => hb (hr b e.symm))]
    exact hc j hj

set_option maxRecDepth 100000 in
set_option maxHeartbeats 8000000 in
theorem writes_any (w : World) (B : Nat) (b : Bk) (hb : BookAt w B b) (hB : B ≤ w.heap.size) (ao : Option Addr) (n cap s : Nat) (ws : List Wr) (hl : ws.length = n) (ho : OwnWr w B (.slice ao n cap) s ws) (hout : ∀ k, wrFoot (.slice ao n cap) ws k → ¬ b.all k)
    (hlen : n ≤ 4294967295) (hn : b.n + n ≤ 2199031644160) :
    Calls Try.prog 55 #[.pointer (some ⟨b.D, 0, none⟩), .slice ao n cap] w fun e w' => ∃ v, e = .returned v ∧ ∃ b', BookAt w' B b' ∧ b'.D = b.D ∧ b'.n = b.n + n + 1 ∧ b'.kl = b.kl ∧ Keeps (fun k => b.own k ∨ wrFoot (.slice ao n cap) ws k) w w' ∧ (∀ k, b'.all k → b.all k ∨ wrFoot (.slice ao n cap) ws k ∨ w.heap.size ≤ k) := by
  obtain ⟨i0, hi, hz0, hz1, hz2⟩ := info_parts Try.info60
  obtain ⟨i1, hi1, hy0, hy1, hy2⟩ := info_parts Try.info41
  have HB := hide hb
  have HO := hide ho
  clear hb ho
  go_enter Try.func55, Try.ntmps55
  go_wp2_with fail
  go_loopw [4] (fun i wr => ∃ (k : Nat) (b1 : Bk), k ≤ n ∧ i = .int .i64 k ∧ BookAt wr B b1 ∧ b1.D = b.D ∧ b1.n = b.n + k ∧ b1.kl = b.kl ∧ Keeps (fun q => b.own q ∨ ∃ x ∈ ws.take k, x.blk = q) w wr ∧ (∀ q, b1.all q → b.all q ∨ (∃ x ∈ ws.take k, x.blk = q) ∨ w.heap.size ≤ q)) (fun i _ => n - (intOf i).toNat)
  case atStart => exact ⟨0, b, Nat.zero_le _, rfl, unhide HB, rfl, rfl, rfl, Keeps.refl _ _, fun q h => Or.inl h⟩
  case round =>
    obtain ⟨k, b1, hk, rfl, hb1, hD1, hn1, hkl1, hk1, ha1⟩ := hrel
    by_cases hlt : k < n
    · have ho := unhide HO
      have hrow := ho.row
      rw [hl] at hrow
      obtain ⟨g, cap', e1, hg1, hg2⟩ := hrow.form (by omega)
      simp at e1
      obtain ⟨rfl, rfl⟩ := e1
      have i1' : (k : Int) < (n : Int) := by omega
      have i2 : (0 : Int) ≤ (k : Int) := by omega
      obtain ⟨x, hx⟩ : ∃ x, ws[k]? = some x := ⟨_, List.getElem?_eq_getElem (by omega)⟩
      obtain ⟨hxl, hxb, hxB⟩ := ho.each x (List.mem_of_getElem? hx)
      have hg60 := rowBlock hrow rfl
      obtain ⟨_, cur, hg60⟩ := hg60
      have htk : ∀ y ∈ ws.take k, ∃ j, j < k ∧ ws[j]? = some y := fun y hy => by
        obtain ⟨j, hj⟩ := List.getElem?_of_mem hy
        rw [List.getElem?_take] at hj
        split at hj
        · exact ⟨j, by assumption, hj⟩
        · cases hj
      have cg : wr.cell? ⟨g, k * 2 + 1, none⟩ = some (.slice (some ⟨x.blk, 0, none⟩) s s) := by
        rw [hk1.cell hg2 (fun h => ?_)]
        · exact (row_cell hrow).2.2 _ _ (wcells_at hx).2
        · rcases h with h | ⟨y, hy, e⟩
          · exact hout g (Or.inl rfl) (Or.inl h)
          · obtain ⟨j, _, hj⟩ := htk y hy
            exact type_ne (ho.each y (List.mem_of_getElem? hj)).2.1 hg60 (by decide) e
      have hglt : g < wr.heap.size := Nat.lt_of_lt_of_le hg2 hk1.size
      have hxno : ¬ (b.own x.blk ∨ ∃ y ∈ ws.take k, y.blk = x.blk) := by
        rintro (h | ⟨y, hy, e⟩)
        · exact hout x.blk (Or.inr ⟨x, List.mem_of_getElem? hx, rfl⟩) (Or.inl h)
        · obtain ⟨j, hj1, hj⟩ := htk y hy
          exact ho.inj j k y x hj hx (by omega) e
      have hxb' := (hk1.block x.blk (lt_of_block hxb) hxno).trans hxb
      have hxout : ∀ q, (Value.slice (some ⟨x.blk, 0, none⟩) s s).ownBlock = some q → ¬ b1.all q := by
        intro q hq
        cases hq
        intro h
        rcases ha1 _ h with h | h | h
        · exact hout x.blk (Or.inr ⟨x, List.mem_of_getElem? hx, rfl⟩) h
        · exact hxno (Or.inr h)
        · exact Nat.not_le.2 (lt_of_block hxb) h
      have hfit := ho.fit
      have HC := hide (bytes_any wr B b1 hb1 (Nat.le_trans hB hk1.size) (some ⟨x.blk, 0, none⟩) s s x.bytes hxl (full_row hxb' hxl ho.fit hxB) hxout (by omega) (by omega))
      rw [hD1] at HC
      have HX := hide hx
      have HK1 := hide hk1
      have HA1 := hide ha1
      have HN1 := hide hn1
      have HKL := hide hkl1
      have HOWN1 : Hid (∀ q, b1.own q → b.own q ∨ (∃ x ∈ ws.take k, x.blk = q) ∨ w.heap.size ≤ q) := fun q h => by
        rcases ha1 q (Or.inl h) with h' | h'
        · rcases h' with h' | h'
          · exact Or.inl h'
          · exfalso
            obtain ⟨_, c, t, fr, e1, e2⟩ := (unhide HB).F q h'
            obtain ⟨_, c', t', e3, e4⟩ := hb1.own_at h
            have e5 := hk1.block q (lt_of_block e1) (fun h2 => ?_)
            · rw [e5, e1] at e3
              simp at e3
              obtain ⟨_, rfl, _⟩ := e3
              rcases e2 with h2 | h2 | h2 <;> rcases e4 with h3 | h3 | h3 | h3 <;> rw [h2] at h3 <;> exact absurd h3 (by decide)
            · rcases h2 with h2 | ⟨y, hy, e⟩
              · exact (unhide HB).F_own h' h2
              · obtain ⟨j, _, hj⟩ := htk y hy
                exact hout q (Or.inr ⟨y, List.mem_of_getElem? hj, e⟩) (Or.inr h')
        · exact Or.inr h'
      clear hx hk1 ha1 hn1 hkl1 hb1 hxb hxb' hxno hxout hg60 htk ho hrow hD1
      go_wp2_with fail
      refine (unhide HC).mono ?_
      rintro e w3 ⟨v, rfl, b2, hb2, hD2, hn2, hkl2, hk2, ha2⟩
      have HB2 := hide (And.intro hb2 (And.intro hD2 (And.intro hn2 (And.intro hkl2 (And.intro hk2 ha2)))))
      clear hb2 hD2 hn2 hkl2 hk2 ha2 HC
      go_wp2
      go_roundw
      case rel =>
        obtain ⟨hb2, hD2, hn2, hkl2, hk2, ha2⟩ := unhide HB2
        have hin : ∀ q, (∃ y ∈ ws.take k, y.blk = q) → ∃ y ∈ ws.take (k + 1), y.blk = q := fun q ⟨y, hy, e⟩ => ⟨y, by rw [take_snoc _ _ _ (unhide HX)]; exact List.mem_append_left _ hy, e⟩
        have hme : ∃ y ∈ ws.take (k + 1), y.blk = x.blk := ⟨x, by rw [take_snoc _ _ _ (unhide HX)]; simp, rfl⟩
        refine ⟨k + 1, b2, by omega, by go_num, hb2, hD2, by rw [hn2, unhide HN1]; omega, by rw [hkl2, unhide HKL], ?_, ?_⟩
        · refine ((unhide HK1).mono (fun q _ h => h.imp id (hin q))).next hk2 ?_
          rintro q hq (h | h)
          · rcases unhide HOWN1 q h with h | h | h
            · exact Or.inl h
            · exact Or.inr (hin q h)
            · omega
          · cases h; exact Or.inr hme
        · intro q h
          rcases ha2 q h with h | h | h
          · exact (unhide HA1 q h).imp id (fun h => h.imp (hin q) id)
          · cases h; exact Or.inr (Or.inl hme)
          · exact Or.inr (Or.inr (by have := (unhide HK1).size; omega))
      case measure => simp [intOf]; omega
    · obtain rfl : n = k := by omega
      clear hlt
      have hlo := unhide HO
      have hrow0 := hlo.row
      rw [hl] at hrow0
      have hP : ∀ q, (∃ x ∈ ws.take n, x.blk = q) → ¬ b.all q := fun q ⟨x, hx, e⟩ => hout q (Or.inr ⟨x, List.mem_of_mem_take hx, e⟩)
      have hown1 := own_of_all (unhide HB) hb1 hk1 hP ha1
      have hl60 : ∀ q, (Value.slice ao n cap).ownBlock = some q → ¬ (b.own q ∨ ∃ x ∈ ws.take n, x.blk = q) := by
        rintro q hq (h | ⟨x, hx, e⟩)
        · exact hout q (Or.inl hq) (Or.inl h)
        · obtain ⟨_, c, h6⟩ := rowBlock hrow0 hq
          exact type_ne (hlo.each x (List.mem_of_mem_take hx)).2.1 h6 (by decide) e
      have hrow1 := ownsRow_kept hrow0 hk1 hl60
      have hlall : ∀ q, (Value.slice ao n cap).ownBlock = some q → ¬ b1.all q := by
        intro q hq h
        rcases ha1 q h with h | h | h
        · exact hout q (Or.inl hq) h
        · exact hl60 q hq (Or.inr h)
        · have := (hrow0.lt q hq).2; omega
      have hwl : (wcells s ws).length = n * 2 := hrow0.1
      obtain ⟨cs, hcs⟩ : ∃ cs, cs = wcells s ws := ⟨_, rfl⟩
      rw [← hcs] at hrow1 hwl
      have hblk := hb1.blk
      rw [hD1] at hblk
      have c6 : wr.cell? ⟨b.D, 6, none⟩ = some (.int .i64 b1.n) := cell_of_blk hblk 6
      have fD : ∀ j, wr.frozen? ⟨b.D, j, none⟩ = false := frozen_of_blk hblk
      have hDlt := lt_of_block hblk
      have hm0 : (0 : Int) ≤ (b1.n : Int) := by omega
      have hm1 : (b1.n : Int) ≤ 2199031644160 := by omega
      have hnD : (Value.slice ao n cap).ownBlock ≠ some b.D := fun e => hlall b.D e (Or.inl (Or.inl hD1.symm))
      obtain ⟨z, hz⟩ : ∃ z : Int, z = -((b1.n : Int) + 1) := ⟨_, rfl⟩
      obtain ⟨w3, hw3⟩ : ∃ w3, w3 = (wr.setCell ⟨b.D, 6, none⟩ (.int .i64 ((b1.n : Int) + 1))).alloc (.cells #[.int .i64 z, .slice none 0 0] 60) := ⟨_, rfl⟩
      have hk3 : Keeps (fun q => q = b.D) wr w3 := by rw [hw3]; exact (kD _ _ _ _).alloc _
      have hsz3 : w3.heap.size = wr.heap.size + 1 := by rw [hw3]; simp
      have hbx3 : w3.heap[wr.heap.size]? = some (.cells #[.int .i64 z, .slice none 0 0] 60 (0, 0)) := by
        have := heap_alloc_new (wr.setCell ⟨b.D, 6, none⟩ (.int .i64 ((b1.n : Int) + 1))) (.cells #[.int .i64 z, .slice none 0 0] 60)
        rw [hw3]; simpa using this
      have hblk3 : w3.heap[b.D]? = some (.cells #[b1.bv, b1.vv, b1.kv, b1.jv, b1.wv, b1.xv, .int .i64 ((b1.n : Int) + 1)] 79 (0, 0)) := by
        rw [hw3, Below.heap_alloc _ _ _ (by simpa using hDlt), heap_setCell_at hblk]; rfl
      have hrow3 := ownsRow_kept hrow1 hk3 (fun q hq e => hnD (e ▸ hq))
      have hlr : ∀ q, (Value.slice ao n cap).ownBlock = some q → q < wr.heap.size := fun q hq => (hrow1.lt q hq).2
      obtain ⟨mB, hmB⟩ : ∃ mB, mB = wr.heap.size := ⟨_, rfl⟩
      rw [← hmB] at hbx3 hlr
      have hmBlt : mB < w3.heap.size := by omega
      have HZ := hide hz
      have HW3 := hide hw3
      have HK3 := hide hk3
      have HBX3 := hide hbx3
      have HBLK3 := hide hblk3
      have HROW3 := hide hrow3
      have HLR := hide hlr
      have HB1 := hide hb1
      have HLALL := hide hlall
      have HK1 := hide hk1
      have HOWN1 := hide hown1
      have HA1 := hide ha1
      have HD1 := hide hD1
      have HN1 := hide hn1
      have HKL1 := hide hkl1
      have HROW0 := hide hrow0
      have HMB := hide hmB
      have hB3 : B ≤ w3.heap.size := by have := hk1.size; omega
      clear hlo hrow0 hP hown1 hl60 hrow1 hlall hblk hz hw3 hk3 hbx3 hblk3 hrow3 hlr hb1 hk1 ha1 hD1 hn1 hkl1 hcs hmB hsz3
      go_wp2_with fail
      rw [← unhide HZ, ← unhide HW3, ← unhide HMB]
      go_loopw [6, 7] (fun wv i wr => ∃ (k : Nat), k ≤ n ∧ i = .int .i64 k ∧ wr.ownsRow B 60 2 (.slice ao n cap) n (mks z k ++ cs.drop (k * 2)) ∧ wr.ownsRow w3.heap.size 60 2 wv k (mks z k) ∧ Keeps (fun q => (Value.slice ao n cap).ownBlock = some q) w3 wr) (fun _ i _ => n - (intOf i).toNat)
      case atStart => exact ⟨0, Nat.zero_le _, rfl, by simpa [mks] using unhide HROW3, by simpa [mks] using World.ownsRow_nil w3 w3.heap.size 60 2, Keeps.refl _ _⟩
      case round =>
        obtain ⟨k, hk, rfl, ho1, ho2, hkeep⟩ := hrel
        have hbxr : wr.heap[mB]? = some (.cells #[.int .i64 z, .slice none 0 0] 60 (0, 0)) := (hkeep.block mB hmBlt (fun e => by have := unhide HLR mB e; omega)).trans (unhide HBX3)
        have x0 : wr.cell? ⟨mB, 0, none⟩ = some (.int .i64 z) := cell_of_blk hbxr 0
        have x1 : wr.cell? ⟨mB, 1, none⟩ = some (.slice none 0 0) := cell_of_blk hbxr 1
        have hmBr := lt_of_block hbxr
        by_cases hlt : k < n
        · obtain ⟨g, cap', e1, hg1, hg2⟩ := ho1.form (by omega)
          simp at e1
          obtain ⟨rfl, rfl⟩ := e1
          have i1' : (k : Int) < (n : Int) := by omega
          have i2 : (0 : Int) ≤ (k : Int) := by omega
          have hlen1 : (mks z k ++ cs.drop (k * 2)).length = n * 2 := ho1.1
          obtain ⟨ua, hua⟩ : ∃ u, (mks z k ++ cs.drop (k * 2))[k * 2]? = some u := ⟨_, List.getElem?_eq_getElem (by omega)⟩
          obtain ⟨ub, hub⟩ : ∃ u, (mks z k ++ cs.drop (k * 2))[k * 2 + 1]? = some u := ⟨_, List.getElem?_eq_getElem (by omega)⟩
          have ca := (row_cell ho1).2.2 _ ua hua
          have cb := (row_cell ho1).2.2 _ ub hub
          have fa := row_frozen ho1 (k * 2)
          have fb := row_frozen ho1 (k * 2 + 1)
          have hgm : g ≠ mB := fun e => by have := unhide HLR g rfl; omega
          have hmg : mB ≠ g := fun e => hgm e.symm
          have hu6 : ∀ q, u6.ownBlock = some q → q ≠ g := fun q hq e => by
            have := (ho2.lt q hq).1
            have := unhide HLR g rfl
            omega
          have hs2 := row_set2 ho1 (k * 2) (k * 2 + 1) (.int .i64 z) (.slice none 0 0)
          rw [mks_set z cs k (by omega)] at hs2
          have hk2 : Keeps (fun q => q = g) wr ((wr.setCell ⟨g, k * 2, none⟩ (.int .i64 z)).setCell ⟨g, k * 2 + 1, none⟩ (.slice none 0 0)) := (kD _ _ _ _).trans (kD _ _ _ _)
          have ho2' := ownsRow_kept ho2 hk2 (fun q hq => hu6 q hq)
          have HS2 := hide hs2
          have HO2 := hide ho2'
          have HK := hide (hkeep.trans (hk2.mono (fun q _ e => by rw [e]; rfl)))
          have hnb : (((wr.setCell ⟨g, k * 2, none⟩ (.int .i64 z)).setCell ⟨g, k * 2 + 1, none⟩ (.slice none 0 0)).alloc (.cells #[.int .i64 z, .slice none 0 0] 60)).heap[wr.heap.size]? = some (.cells #[.int .i64 z, .slice none 0 0] 60 (0, 0)) := by
            have := heap_alloc_new ((wr.setCell ⟨g, k * 2, none⟩ (.int .i64 z)).setCell ⟨g, k * 2 + 1, none⟩ (.slice none 0 0)) (.cells #[.int .i64 z, .slice none 0 0] 60)
            simpa using this
          have HNB := hide hnb
          clear ho1 ho2 hkeep hs2 ho2' hk2 hnb hua hub hbxr hlen1
          go_wp2_with (at_builtin; refine wpList_append_lies _ rfl _ _ _ rfl w3.heap.size 60 i0 _ 2 32 Try.underlying41 hi hz0 hz1 hz2 rfl (by omega) u6 k (mks z k) rfl ((unhide HO2).alloc _) ⟨wr.heap.size, 0, none⟩ 1 1 (mrk z) rfl rfl (World.news_of_block (cs := #[.int .i64 z, .slice none 0 0]) (t := 60) (fr := (0, 0)) (unhide HNB)) (by simp [Value.oneCell', mrk]) (by omega) (by unfold maxLen; omega) (by omega) (by have := (unhide HK).size; simp at this ⊢; omega) (wr.heap.size + 1) (by simp) ?_; intro g' cap'' w4 hown1 hgrow hat hlt1)
          go_roundw
          case rel =>
            refine ⟨k + 1, by omega, by go_num, ?_, ?_, ((unhide HK).alloc _).grown hgrow (fun q e hq => by have := ((unhide HO2).lt q e).1; omega)⟩
            · refine ownsRow_grown ((unhide HS2).alloc _) hgrow (fun q hq e => ?_)
              cases hq
              exact hu6 g e rfl
            · rw [mks_succ]
              exact hown1
          case measure => simp [intOf]; omega
        · obtain rfl : n = k := by omega
          clear hlt
          have hdn : mks z n ++ cs.drop (n * 2) = mks z n := by rw [List.drop_of_length_le (by omega), List.append_nil]
          rw [hdn] at ho1
          obtain ⟨o6, c6', rfl, hf6⟩ := own_form ho2
          have hb1 := unhide HB1
          have hDb := unhide HD1
          have hown : ∀ q, b1.own q → ¬ (Value.slice ao n cap).ownBlock = some q := fun q h1 h2 => unhide HLALL q h2 (Or.inl h1)
          have hDw3 : b.D < w3.heap.size := lt_of_block (unhide HBLK3)
          have hblk2 : wr.heap[b.D]? = some (.cells #[b1.bv, b1.vv, b1.kv, b1.jv, b1.wv, b1.xv, .int .i64 ((b1.n : Int) + 1)] 79 (0, 0)) := (hkeep.block _ hDw3 hnD).trans (unhide HBLK3)
          have nbD : b1.wv.ownBlock ≠ some b.D := fun e => by obtain ⟨c, h1⟩ := (rowBlock hb1.rw e).2; rw [← hDb, hb1.blk] at h1; cases h1
          have nvD : b1.xv.ownBlock ≠ some b.D := fun e => by obtain ⟨c, h1⟩ := (rowBlock hb1.rx e).2; rw [← hDb, hb1.blk] at h1; cases h1
          have rb2 := ownsRow_kept (ownsRow_kept hb1.rw (unhide HK3) (fun q hq e => nbD (e ▸ hq))) hkeep (fun q hq => hown q (Or.inr (Or.inr (Or.inr (Or.inr (Or.inr (Or.inl hq)))))))
          have rv2 := ownsRow_kept (ownsRow_kept hb1.rx (unhide HK3) (fun q hq e => nvD (e ▸ hq))) hkeep (fun q hq => hown q (Or.inr (Or.inr (Or.inr (Or.inr (Or.inr (Or.inr hq)))))))
          have abv := hb1.awx
          have lb : b1.wl.length ≤ 4398063288320 := by have := hb1.lw; omega
          have lv : b1.xl.length ≤ 4398063288320 := by have := hb1.lwx; omega
          have hsz2 := hkeep.size
          have g0 : wr.cell? ⟨b.D, 4, none⟩ = some b1.wv := cell_of_blk hblk2 4
          have g1' : wr.cell? ⟨b.D, 5, none⟩ = some b1.xv := cell_of_blk hblk2 5
          have fD2 : ∀ j, wr.frozen? ⟨b.D, j, none⟩ = false := frozen_of_blk hblk2
          have hDlt2 := lt_of_block hblk2
          have RB2 := hide rb2
          have RV2 := hide rv2
          have HO1 := hide ho1
          have HO2 := hide ho2
          have HKP := hide hkeep
          have HBLK2 := hide hblk2
          have HABV := hide abv
          have HNB := hide nbD
          have HNV := hide nvD
          have HBXR := hide hbxr
          clear hb1 ho1 ho2 hkeep hblk2 rb2 rv2 abv nbD nvD hdn hDb x0 x1 hbxr c6 fD
          go_wp2_with (first
            | (at_builtin
               refine wpList_append_lies _ rfl _ _ _ rfl B 41 i1 _ 1 24 Try.underlying77 hi1 hy0 hy1 hy2 rfl (by omega) b1.wv b1.wl.length b1.wl rfl ((unhide RB2).alloc _) ⟨wr.heap.size, 0, none⟩ 1 1 [.slice ao n cap] rfl rfl (World.news_of_block (cs := #[.slice ao n cap]) (t := 41) (fr := (0, 0)) (heap_alloc_new wr _)) (by simp [Value.oneCell']) (by omega) (by unfold maxLen; omega) (by omega) (by simp; omega) (wr.heap.size + 1) (by simp) ?_
               intro g1 cap1 w4 hrb1 hgr1 hat1 hlt1
               have fs := field_step 4 (unhide HBLK2) (unhide HNB) hrb1 hgr1 hat1
               have c30 : w4.cell? ⟨b.D, 4, none⟩ = some b1.wv := cell_of_blk fs.1 4
               have c31 : w4.cell? ⟨b.D, 5, none⟩ = some b1.xv := cell_of_blk fs.1 5
               have f3 : ∀ j, w4.frozen? ⟨b.D, j, none⟩ = false := frozen_of_blk fs.1
               have hDlt3 := lt_of_block fs.1
               have FS := hide fs
               have HAT1 := hide hat1
               have RV4 := hide (ownsRow_kept (unhide RV2) fs.2.2.2 (fun q hq h => h.elim (fun e => unhide HNV (e ▸ hq)) (fun e => unhide HABV q e hq)))
               have hs3 : wr.heap.size + 1 ≤ w4.heap.size := by have := hgr1.size; simp at this; omega
               clear fs hrb1 hgr1 hat1 g0 g1')
            | (at_builtin
               refine wpList_append_lies _ rfl _ _ _ rfl B 41 i1 _ 1 24 Try.underlying77 hi1 hy0 hy1 hy2 rfl (by omega) b1.xv b1.xl.length b1.xl rfl ((unhide RV4).alloc _) ⟨w4.heap.size, 0, none⟩ 1 1 [.slice o6 n c6'] rfl rfl (World.news_of_block (cs := #[.slice o6 n c6']) (t := 41) (fr := (0, 0)) (by have := heap_alloc_new (w4.setCell ⟨b.D, 4, none⟩ (.slice (some ⟨g1, 0, none⟩) (b1.wl.length + 1) cap1)) (.cells #[.slice o6 n c6'] 41); simpa using this)) (by simp [Value.oneCell']) (by omega) (by unfold maxLen; omega) (by omega) (by simp; omega) (w4.heap.size + 1) (by simp) ?_
               intro g2 cap2 w5 hrv1 hgr2 hat2 hlt2
               have fs2 := field_step 5 (unhide FS).2.1 (unhide HNV) hrv1 hgr2 (by simpa using hat2)
               have c51 : w5.cell? ⟨b.D, 5, none⟩ = some b1.xv := (cell_of_blk fs2.1 5).trans (by simp)
               have f5 : ∀ j, w5.frozen? ⟨b.D, j, none⟩ = false := frozen_of_blk fs2.1
               have hDlt5 := lt_of_block fs2.1
               have FS2 := hide fs2
               have HAT2 := hide hat2
               have hs5 : w4.heap.size + 1 ≤ w5.heap.size := by have := hgr2.size; simp at this; omega
               clear fs2 hrv1 hgr2 hat2))
          obtain ⟨w4', hw4'⟩ : ∃ w4', w4' = w4.setCell ⟨b.D, 4, none⟩ (.slice (some ⟨g1, 0, none⟩) (b1.wl.length + 1) cap1) := ⟨_, rfl⟩
          obtain ⟨w6, hw6⟩ : ∃ w6, w6 = w5.setCell ⟨b.D, 5, none⟩ (.slice (some ⟨g2, 0, none⟩) (b1.xl.length + 1) cap2) := ⟨_, rfl⟩
          rw [← hw4'] at FS FS2
          rw [← hw6] at FS2
          rw [← hw6]
          have hb1 := unhide HB1
          have kp1 : Keeps (fun k => (k = b.D ∨ b1.wv.ownBlock = some k ∨ b1.xv.ownBlock = some k)) wr w4' := (unhide FS).2.2.2.mono (fun k _ h => h.imp id Or.inl)
          have kp2 : Keeps (fun k => (k = b.D ∨ b1.wv.ownBlock = some k ∨ b1.xv.ownBlock = some k)) w4' w6 := (unhide FS2).2.2.2.mono (fun k _ h => h.imp id Or.inr)
          have kp := kp1.trans kp2
          have hDmB : b.D ≠ mB := fun e => by rw [← unhide HMB] at hDlt; omega
          have hbvlt : ∀ q, b1.wv.ownBlock = some q → q < mB := fun q h => by rw [unhide HMB]; exact (hb1.rw.lt q h).2
          have hvvlt : ∀ q, b1.xv.ownBlock = some q → q < mB := fun q h => by rw [unhide HMB]; exact (hb1.rx.lt q h).2
          have hDm : b.D < mB := by rw [unhide HMB]; exact hDlt
          have ng1D : g1 ≠ b.D := by
            rcases unhide HAT1 with h | h
            · exact fun e => unhide HNB (e ▸ h)
            · omega
          have ng1v : b1.xv.ownBlock ≠ some g1 := by
            rcases unhide HAT1 with h | h
            · exact unhide HABV g1 h
            · intro e; have := hvvlt g1 e; omega
          have ng12 : g1 ≠ g2 := by
            rcases unhide HAT2 with h | h
            · intro e; exact ng1v (e ▸ h)
            · omega
          have rb6 : w6.ownsRow B 41 1 (.slice (some ⟨g1, 0, none⟩) (b1.wl.length + 1) cap1) (b1.wl.length + 1) (b1.wl ++ [.slice ao n cap]) := ownsRow_kept (unhide FS).2.2.1 (unhide FS2).2.2.2 (fun q hq h => by
            cases hq
            exact h.elim (fun e => ng1D e) (fun e => ng1v e))
          have rv6 := (unhide FS2).2.2.1
          have blk6 : w6.heap[b.D]? = some (.cells #[b1.bv, b1.vv, b1.kv, b1.jv, .slice (some ⟨g1, 0, none⟩) (b1.wl.length + 1) cap1, .slice (some ⟨g2, 0, none⟩) (b1.xl.length + 1) cap2, .int .i64 ((b1.n : Int) + 1)] 79 (0, 0)) := (unhide FS2).2.1
          have hlo : ∀ q, (Value.slice ao n cap).ownBlock = some q → ¬ (q = b.D ∨ b1.wv.ownBlock = some q ∨ b1.xv.ownBlock = some q) := by
            rintro q h1 (h2 | h2 | h2)
            · exact hnD (h2 ▸ h1)
            · exact hown q (Or.inr (Or.inr (Or.inr (Or.inr (Or.inr (Or.inl h2)))))) h1
            · exact hown q (Or.inr (Or.inr (Or.inr (Or.inr (Or.inr (Or.inr h2)))))) h1
          have row6 := ownsRow_kept (unhide HO1) kp hlo
          have hof : ∀ q, (Value.slice o6 n c6').ownBlock = some q → w3.heap.size ≤ q := fun q h => ((unhide HO2).lt q h).1
          have five6 := ownsRow_kept (unhide HO2) kp (fun q h1 h2 => by
            have := hof q h1
            rcases h2 with h2 | h2 | h2
            · omega
            · have := hbvlt q h2; omega
            · have := hvvlt q h2; omega)
          have K6 : Keeps (fun k => (k = b.D ∨ b1.wv.ownBlock = some k ∨ b1.xv.ownBlock = some k) ∨ (Value.slice ao n cap).ownBlock = some k) _ w6 :=
            ((unhide HK3).mono (fun k _ e => Or.inl (Or.inl e))).trans (((unhide HKP).mono (fun k _ e => Or.inr e)).trans (kp.mono (fun k _ e => Or.inl e)))
          have bx6 : w6.heap[mB]? = some (.cells #[.int .i64 z, .slice none 0 0] 60 (0, 0)) := (kp.block mB hmBr (fun h => by
            rcases h with h | h | h
            · omega
            · have := hbvlt mB h; omega
            · have := hvvlt mB h; omega)).trans (unhide HBXR)
          have hsz6 : wr.heap.size ≤ w6.heap.size := kp.size
          have hg1lt : g1 < w6.heap.size := ((rowBlock rb6 rfl).2).elim (fun c h => lt_of_block h)
          have hg2lt : g2 < w6.heap.size := ((rowBlock rv6 rfl).2).elim (fun c h => lt_of_block h)
          have HG12 := hide (show g1 ≠ g2 ∧ g1 ≠ b.D ∧ (b1.wv.ownBlock = some g1 ∨ w3.heap.size ≤ g1) ∧ (b1.xv.ownBlock = some g2 ∨ w3.heap.size ≤ g2) ∧ g2 ≠ b.D from ⟨ng12, ng1D, (unhide HAT1).imp id (fun h => by omega), (unhide HAT2).imp id (fun h => by omega), by
            rcases unhide HAT2 with h | h
            · exact fun e => unhide HNV (e ▸ h)
            · omega⟩)
          have HRB6 := hide rb6
          have HRV6 := hide rv6
          have HBLK6 := hide blk6
          have HROW6 := hide row6
          have HFIVE6 := hide five6
          have HK6 := hide K6
          have HOF := hide hof
          have HBX6 := hide bx6
          have hw36 : w3.heap.size ≤ w6.heap.size := by omega
          have hmB6 : mB < w6.heap.size := by omega
          clear hb1 kp1 kp2 kp hbvlt hvvlt ng1D ng1v ng12 rb6 rv6 blk6 hlo row6 hof five6 K6 hf6 FS FS2 hw4' hw6 RV4 RB2 RV2 HO1 HO2 HKP HBLK2 HAT1 HAT2 c30 c31 f3 hDlt3 c51 f5 hDlt5 hs3 hs5 hlt1 hlt2 fD2 hDlt2 hsz2 hsz6 hown hDw3 hk bx6 HBXR hmBr hDmB
          go_loopw [8, 9] (fun gv i wx => ∃ k : Nat, k ≤ 64 ∧ i = .int .i64 k ∧ wx.ownsRow B 60 2 gv (n + k) (mks z (n + k)) ∧ (∀ q, gv.ownBlock = some q → (Value.slice ao n cap).ownBlock = some q ∨ w6.heap.size ≤ q) ∧ Marks wx (.slice ao n cap) n z ∧ (∀ q, (Value.slice ao n cap).ownBlock = some q → ∃ c, wx.heap[q]? = some (.cells c 60 (0, 0))) ∧ Keeps (fun q => (Value.slice ao n cap).ownBlock = some q) w6 wx) (fun _ i _ => 64 - (intOf i).toNat)
          case atStart =>
            have r6 := unhide HROW6
            exact ⟨0, by omega, rfl, r6, fun q h => Or.inl h, marks_row r6, fun q h => (rowBlock r6 h).2, Keeps.refl _ _⟩
          case round =>
            obtain ⟨k, hk64, rfl, hg, hgq, hrd, hty, hkx⟩ := hrel
            have hbxr : wr.heap[mB]? = some (.cells #[.int .i64 z, .slice none 0 0] 60 (0, 0)) := (hkx.block mB hmB6 (fun e => by have := unhide HLR mB e; omega)).trans (unhide HBX6)
            have x0 : wr.cell? ⟨mB, 0, none⟩ = some (.int .i64 z) := cell_of_blk hbxr 0
            have x1 : wr.cell? ⟨mB, 1, none⟩ = some (.slice none 0 0) := cell_of_blk hbxr 1
            have hmBr := lt_of_block hbxr
            by_cases hlt : k < 64
            · have i1' : (k : Int) < 64 := by omega
              have i0' : (0 : Int) ≤ (k : Int) := by omega
              have hao : ∀ a, ao = some a → a.off = 0 ∧ a.block < wr.heap.size := fun a e => by
                obtain ⟨o', c', e', h'⟩ := own_form (unhide HROW6)
                simp at e'
                obtain ⟨rfl, rfl⟩ := e'
                refine ⟨(h' a e).1, ?_⟩
                have := unhide HLR a.block (by rw [e]; rfl)
                omega
              have hrd' : Marks (wr.alloc (.cells #[.int .i64 z, .slice none 0 0] 60)) (.slice ao n cap) n z := hrd.keepL (F := fun q => q < wr.heap.size) (G := fun _ => False) (fun b off m c e _ => (hao ⟨b, off, none⟩ (by simp at e; exact e.1)).2) ((Keeps.refl _ wr).alloc _) (fun q h => ⟨h, id⟩)
              have hx6 := hkx.size
              have HG := hide hg
              have HGQ := hide hgq
              have HRD := hide hrd'
              have HKX := hide hkx
              have HAO := hide hao
              have HTY := hide hty
              clear hg hgq hrd hrd' hkx hao hty hbxr
              go_wp2_with (at_builtin
                           refine wpList_append_two _ rfl _ _ _ rfl B 60 i0 _ 2 32 Try.underlying41 hi hz0 hz1 hz2 rfl (by omega) u8 (n + k) (mks z (n + k)) rfl ((unhide HG).alloc _) ⟨wr.heap.size, 0, none⟩ 1 1 (mrk z) rfl rfl (World.news_of_block (cs := #[.int .i64 z, .slice none 0 0]) (t := 60) (fr := (0, 0)) (heap_alloc_new wr _)) (by simp [Value.oneCell', mrk]) (by omega) (by unfold maxLen; omega) (by omega) (by simp; omega) (wr.heap.size + 1) (by simp) ?_
                           intro g' cap' wy hown' hcase hlt')
              go_roundw
              case rel =>
                have hgr : ∃ row, (wr.alloc (.cells #[.int .i64 z, .slice none 0 0] 60)).grownBy wy row ∧ ∀ q, row = some q → q = g' ∧ u8.ownBlock = some q := by
                  rcases hcase with ⟨h1, h2⟩ | ⟨h1, h2⟩
                  · exact ⟨_, h2, fun q e => by cases e; exact ⟨rfl, h1⟩⟩
                  · exact ⟨_, h2, fun q e => by cases e⟩
                obtain ⟨row, hgr, hrow⟩ := hgr
                rw [← mks_succ] at hown'
                refine ⟨k + 1, by omega, by go_num, hown', fun q hq => ?_, marks_grown (unhide HRD) (fun a e => ⟨(unhide HAO a e).1, by have := (unhide HAO a e).2; simp; omega⟩) (by omega) hown' hgr (fun q e => (hrow q e).1), fun q hq => ?_, ((unhide HKX).alloc _).grown hgr (fun q e hq => (unhide HGQ q (hrow q e).2).elim id (fun h => by omega))⟩
                · cases hq
                  rcases hcase with ⟨h1, _⟩ | ⟨h1, _⟩
                  · exact unhide HGQ g' h1
                  · right; show w6.heap.size ≤ g'; omega
                · by_cases e : q = g'
                  · subst e; exact (rowBlock hown' rfl).2
                  · obtain ⟨c, hc⟩ := unhide HTY q hq
                    refine ⟨c, ?_⟩
                    rw [hgr.block q (by have := lt_of_block hc; simp; omega) (fun e' => e (hrow q e'.symm).1), Below.heap_alloc _ _ _ (lt_of_block hc)]
                    exact hc
              case measure => simp [intOf]; omega
            · obtain rfl : k = 64 := by omega
              clear hlt hk64
              rw [show ((64 : Nat) : Int) = 64 from rfl]
              obtain ⟨w7, rfl⟩ : ∃ w7, w7 = wr := ⟨_, rfl⟩
              obtain ⟨o8, c8, rfl, hf8⟩ := own_form hg
              have hx6 := hkx.size
              have hDx : b.D < w6.heap.size := lt_of_block (unhide HBLK6)
              have hblkx : w7.heap[b.D]? = some (.cells #[b1.bv, b1.vv, b1.kv, b1.jv, .slice (some ⟨g1, 0, none⟩) (b1.wl.length + 1) cap1, .slice (some ⟨g2, 0, none⟩) (b1.xl.length + 1) cap2, .int .i64 ((b1.n : Int) + 1)] 79 (0, 0)) := (hkx.block _ hDx hnD).trans (unhide HBLK6)
              have rbx := ownsRow_kept (unhide HRB6) hkx (fun q hq e => row_ne (unhide HROW6) (unhide HRB6) (by decide) e hq)
              have rvx := ownsRow_kept (unhide HRV6) hkx (fun q hq e => row_ne (unhide HROW6) (unhide HRV6) (by decide) e hq)
              have fivex := ownsRow_kept (unhide HFIVE6) hkx (fun q hq e => by have := unhide HOF q hq; have := unhide HLR q e; omega)
              have HRBX := hide rbx
              have HRVX := hide rvx
              have HFIVEX := hide fivex
              have HBLKX := hide hblkx
              have HG := hide hg
              have HGQ := hide hgq
              have HRD := hide hrd
              have HTY := hide hty
              have HKX := hide hkx
              have HBX7 := hide hbxr
              clear hg hgq hrd hty hkx rbx rvx fivex hblkx hbxr x0 x1
              go_wp2_with fail
              go_loopw [10, 11] (fun vv i wx => ∃ k : Nat, k ≤ n + 64 ∧ i = .int .i64 k ∧ wx.ownsRow w7.heap.size 60 2 vv k (mks z k) ∧ Keeps (fun _ => False) w7 wx) (fun _ i _ => n + 64 - (intOf i).toNat)
              case atStart => exact ⟨0, Nat.zero_le _, rfl, by simpa [mks] using World.ownsRow_nil w7 w7.heap.size 60 2, Keeps.refl _ _⟩
              case round =>
                obtain ⟨k, hk, rfl, hown, hkeep⟩ := hrel
                have hbxr : wr.heap[mB]? = some (.cells #[.int .i64 z, .slice none 0 0] 60 (0, 0)) := (hkeep.block mB hmBr id).trans (unhide HBX7)
                have x0 : wr.cell? ⟨mB, 0, none⟩ = some (.int .i64 z) := cell_of_blk hbxr 0
                have x1 : wr.cell? ⟨mB, 1, none⟩ = some (.slice none 0 0) := cell_of_blk hbxr 1
                have hmBw := lt_of_block hbxr
                have HO := hide hown
                have HK := hide hkeep
                clear hown hkeep hbxr
                by_cases hlt : k < n + 64
                · have j1 : (k : Int) < (n : Int) + 64 := by omega
                  go_wp2_with (at_builtin; refine wpList_append_lies _ rfl _ _ _ rfl w7.heap.size 60 i0 _ 2 32 Try.underlying41 hi hz0 hz1 hz2 rfl (by omega) u10 k (mks z k) rfl ((unhide HO).alloc _) ⟨wr.heap.size, 0, none⟩ 1 1 (mrk z) rfl rfl (World.news_of_block (cs := #[.int .i64 z, .slice none 0 0]) (t := 60) (fr := (0, 0)) (heap_alloc_new wr _)) (by simp [Value.oneCell', mrk]) (by omega) (by unfold maxLen; omega) (by omega) (by have := (unhide HK).size; simp; omega) (wr.heap.size + 1) (by simp) ?_; intro g cap' w1' hown1 hgrow hat hlt1)
                  go_roundw
                  case rel =>
                    refine ⟨k + 1, by omega, by go_num, ?_, ((unhide HK).alloc _).grown hgrow (fun q e hq => by have := ((unhide HO).lt q e).1; omega)⟩
                    rw [mks_succ]
                    exact hown1
                  case measure => simp [intOf]; omega
                · obtain rfl : k = n + 64 := by omega
                  have j1 : ¬ ((n : Int) + 64 < (n : Int) + 64) := by omega
                  obtain ⟨o9, c9, rfl, hf9⟩ := own_form (unhide HO)
                  have hsz7 := (unhide HK).size
                  have hblkx : wr.heap[b.D]? = some (.cells #[b1.bv, b1.vv, b1.kv, b1.jv, .slice (some ⟨g1, 0, none⟩) (b1.wl.length + 1) cap1, .slice (some ⟨g2, 0, none⟩) (b1.xl.length + 1) cap2, .int .i64 ((b1.n : Int) + 1)] 79 (0, 0)) := ((unhide HK).block _ (lt_of_block (unhide HBLKX)) id).trans (unhide HBLKX)
                  have rb8 := ownsRow_kept (unhide HRBX) (unhide HK) (fun _ _ => id)
                  have rv8 := ownsRow_kept (unhide HRVX) (unhide HK) (fun _ _ => id)
                  have q0 : wr.cell? ⟨b.D, 4, none⟩ = some (.slice (some ⟨g1, 0, none⟩) (b1.wl.length + 1) cap1) := cell_of_blk hblkx 4
                  have q1' : wr.cell? ⟨b.D, 5, none⟩ = some (.slice (some ⟨g2, 0, none⟩) (b1.xl.length + 1) cap2) := cell_of_blk hblkx 5
                  have fDx : ∀ j, wr.frozen? ⟨b.D, j, none⟩ = false := frozen_of_blk hblkx
                  have hDltx := lt_of_block hblkx
                  have hg1x : g1 < wr.heap.size := by omega
                  have hg2x : g2 < wr.heap.size := by omega
                  have HRB8 := hide rb8
                  have HRV8 := hide rv8
                  have HBLK8 := hide hblkx
                  clear rb8 rv8 hblkx x0 x1
                  go_wp2_with (first
                    | (at_builtin
                       refine wpList_append_lies _ rfl _ _ _ rfl B 41 i1 _ 1 24 Try.underlying77 hi1 hy0 hy1 hy2 rfl (by omega) (.slice (some ⟨g1, 0, none⟩) (b1.wl.length + 1) cap1) (b1.wl.length + 1) (b1.wl ++ [.slice ao n cap]) rfl ((unhide HRB8).alloc _) ⟨wr.heap.size, 0, none⟩ 1 1 [.slice o8 (n + 64) c8] rfl rfl (World.news_of_block (cs := #[.slice o8 (n + 64) c8]) (t := 41) (fr := (0, 0)) (heap_alloc_new wr _)) (by simp [Value.oneCell']) (by omega) (by unfold maxLen; omega) (by omega) (by simp; omega) (wr.heap.size + 1) (by simp) ?_
                       intro g3 cap3 wa hrb3 hgr3 hat3 hlt3
                       have fs := field_step 4 (unhide HBLK8) (by simp [Value.ownBlock]; exact (unhide HG12).2.1) hrb3 hgr3 hat3
                       have c70 : wa.cell? ⟨b.D, 4, none⟩ = some (.slice (some ⟨g1, 0, none⟩) (b1.wl.length + 1) cap1) := cell_of_blk fs.1 4
                       have c71 : wa.cell? ⟨b.D, 5, none⟩ = some (.slice (some ⟨g2, 0, none⟩) (b1.xl.length + 1) cap2) := cell_of_blk fs.1 5
                       have f7 : ∀ j, wa.frozen? ⟨b.D, j, none⟩ = false := frozen_of_blk fs.1
                       have hDlt7 := lt_of_block fs.1
                       have FS := hide fs
                       have HAT3 := hide hat3
                       have RV8 := hide (ownsRow_kept (unhide HRV8) fs.2.2.2 (fun q hq h => by
                         cases hq
                         exact h.elim (fun e => (unhide HG12).2.2.2.2 e) (fun e => (unhide HG12).1 (by simpa [Value.ownBlock] using e))))
                       have hs7 : wr.heap.size + 1 ≤ wa.heap.size := by have := hgr3.size; simp at this; omega
                       clear fs hrb3 hgr3 hat3 q0 q1')
                    | (at_builtin
                       refine wpList_append_lies _ rfl _ _ _ rfl B 41 i1 _ 1 24 Try.underlying77 hi1 hy0 hy1 hy2 rfl (by omega) (.slice (some ⟨g2, 0, none⟩) (b1.xl.length + 1) cap2) (b1.xl.length + 1) (b1.xl ++ [.slice o6 n c6']) rfl ((unhide RV8).alloc _) ⟨wa.heap.size, 0, none⟩ 1 1 [.slice o9 (n + 64) c9] rfl rfl (World.news_of_block (cs := #[.slice o9 (n + 64) c9]) (t := 41) (fr := (0, 0)) (by have := heap_alloc_new (wa.setCell ⟨b.D, 4, none⟩ (.slice (some ⟨g3, 0, none⟩) (b1.wl.length + 1 + 1) cap3)) (.cells #[.slice o9 (n + 64) c9] 41); simpa using this)) (by simp [Value.oneCell']) (by omega) (by unfold maxLen; omega) (by omega) (by simp; omega) (wa.heap.size + 1) (by simp) ?_
                       intro g4 cap4 w9 hrv4 hgr4 hat4 hlt4
                       have fs2 := field_step 5 (unhide FS).2.1 (by simp [Value.ownBlock]; exact (unhide HG12).2.2.2.2) hrv4 hgr4 (by simpa using hat4)
                       have c91 : w9.cell? ⟨b.D, 5, none⟩ = some (.slice (some ⟨g2, 0, none⟩) (b1.xl.length + 1) cap2) := (cell_of_blk fs2.1 5).trans (by simp)
                       have f9 : ∀ j, w9.frozen? ⟨b.D, j, none⟩ = false := frozen_of_blk fs2.1
                       have hDlt9 := lt_of_block fs2.1
                       have FS2 := hide fs2
                       have HAT4 := hide hat4
                       have hs9 : wa.heap.size + 1 ≤ w9.heap.size := by have := hgr4.size; simp at this; omega
                       clear fs2 hrv4 hgr4 hat4))
                  go_end0
                  obtain ⟨w8, hw8⟩ : ∃ w8, w8 = wa.setCell ⟨b.D, 4, none⟩ (.slice (some ⟨g3, 0, none⟩) (b1.wl.length + 1 + 1) cap3) := ⟨_, rfl⟩
                  obtain ⟨w10, hw10⟩ : ∃ w10, w10 = w9.setCell ⟨b.D, 5, none⟩ (.slice (some ⟨g4, 0, none⟩) (b1.xl.length + 1 + 1) cap4) := ⟨_, rfl⟩
                  rw [← hw8] at FS FS2
                  rw [← hw10] at FS2
                  rw [← hw10]
                  have hb1 := unhide HB1
                  have hDb := unhide HD1
                  have hs03 := (unhide HK3).size
                  obtain ⟨n12, n1D, at1, at2, n2D⟩ := unhide HG12
                  have ka := (unhide FS).2.2.2
                  have kb := (unhide FS2).2.2.2
                  simp only [Value.ownBlock, Option.some.injEq] at ka kb
                  have hsx := (unhide HKX).size
                  have KW := ((((unhide HK6).next (unhide HKX) (fun q _ h => Or.inr h)).next (unhide HK) (fun q _ h => h.elim)).next ka (fun q hq h => by
                    rcases h with h | h
                    · exact Or.inl (Or.inl h)
                    · subst h; exact at1.elim (fun h => Or.inl (Or.inr (Or.inl h))) (fun h => by omega))).next kb (fun q hq h => by
                    rcases h with h | h
                    · exact Or.inl (Or.inl h)
                    · subst h; exact at2.elim (fun h => Or.inl (Or.inr (Or.inr h))) (fun h => by omega))
                  have kab : Keeps (fun k => k = b.D ∨ g1 = k ∨ g2 = k) wr w10 := (ka.mono (fun q _ h => h.imp id Or.inl)).trans (kb.mono (fun q _ h => h.imp id Or.inr))
                  have n60 : ∀ {q : Nat} {c : Array Value}, wr.heap[q]? = some (.cells c 60 (0, 0)) → ¬ (q = b.D ∨ g1 = q ∨ g2 = q) := by
                    rintro q c h (rfl | rfl | rfl)
                    · exact type_ne h (unhide HBLK8) (by decide) rfl
                    · obtain ⟨_, c', h'⟩ := rowBlock (unhide HRB8) rfl; exact type_ne h h' (by decide) rfl
                    · obtain ⟨_, c', h'⟩ := rowBlock (unhide HRV8) rfl; exact type_ne h h' (by decide) rfl
                  have rowK : ∀ {v m xs B'}, wr.ownsRow B' 60 2 v m xs → w10.ownsRow B' 60 2 v m xs := fun h => ownsRow_kept h kab (fun q hq => by obtain ⟨_, c, h'⟩ := rowBlock h hq; exact n60 h')
                  have row7 : ∀ {v m xs B'}, w7.ownsRow B' 60 2 v m xs → w10.ownsRow B' 60 2 v m xs := fun h => rowK (ownsRow_kept h (unhide HK) (fun _ _ => id))
                  have at3 : g3 = g1 ∨ wr.heap.size < g3 := (unhide HAT3).imp (fun h => by simp [Value.ownBlock] at h; exact h.symm) (fun h => by omega)
                  have at4 : g4 = g2 ∨ wa.heap.size < g4 := (unhide HAT4).imp (fun h => by simp [Value.ownBlock] at h; exact h.symm) (fun h => by omega)
                  have n34 : g3 ≠ g4 := by
                    rcases at3 with h | h <;> rcases at4 with h' | h' <;> omega
                  have n3D : g3 ≠ b.D := by rcases at3 with h | h <;> omega
                  have rb10 : w10.ownsRow B 41 1 (.slice (some ⟨g3, 0, none⟩) (b1.wl.length + 1 + 1) cap3) (b1.wl.length + 1 + 1) (b1.wl ++ [.slice ao n cap] ++ [.slice o8 (n + 64) c8]) := ownsRow_kept (unhide FS).2.2.1 kb (fun q hq h => by
                    cases hq
                    rcases h with h | h
                    · exact n3D h
                    · have h2 : g2 = g3 := h
                      rcases at3 with h' | h' <;> omega)
                  have rv10 := (unhide FS2).2.2.1
                  have r8 := row7 (unhide HG)
                  have r9 := rowK (unhide HO)
                  have r6 := row7 (unhide HFIVEX)
                  have hty := unhide HTY
                  have htk : ∀ q, (Value.slice ao n cap).ownBlock = some q → ∃ c, wr.heap[q]? = some (.cells c 60 (0, 0)) := fun q hq => by obtain ⟨c, h⟩ := hty q hq; exact ⟨c, ((unhide HK).block q (lt_of_block h) id).trans h⟩
                  have blk10 := (unhide FS2).2.1
                  rw [← hDb] at KW blk10
                  have own1 : ∀ q, b1.own q → q < w.heap.size → b.own q ∨ wrFoot (.slice ao n cap) ws q := fun q h hq => by
                    rcases unhide HOWN1 q h with h | ⟨x, hx, e⟩ | h
                    · exact Or.inl h
                    · exact Or.inr (Or.inr ⟨x, List.mem_of_mem_take hx, e⟩)
                    · omega
                  have all1 : ∀ q, b1.all q → b.all q ∨ wrFoot (.slice ao n cap) ws q ∨ w.heap.size ≤ q := fun q h => by
                    rcases unhide HA1 q h with h | ⟨x, hx, e⟩ | h
                    · exact Or.inl h
                    · exact Or.inr (Or.inl (Or.inr ⟨x, List.mem_of_mem_take hx, e⟩))
                    · exact Or.inr (Or.inr h)
                  have hsw := (unhide HK1).size
                  refine ⟨⟨_, rfl⟩, _, hb1.putW (P := fun k => (Value.slice ao n cap).ownBlock = some k) KW (unhide HLALL) (p1 := .slice ao n cap) (p2 := .slice o8 (n + 64) c8) (q1 := .slice o6 n c6') (q2 := .slice o9 (n + 64) c9) (l1 := n) (l2 := n + 64) (z := z) (bv' := .slice (some ⟨g3, 0, none⟩) (b1.wl.length + 1 + 1) cap3) (vv' := .slice (some ⟨g4, 0, none⟩) (b1.xl.length + 1 + 1) cap4) blk10 (by simpa using rb10) (by simpa using rv10) ?_
                    (fun k => (Value.slice ao n cap).ownBlock = some k ∨ (Value.slice o6 n c6').ownBlock = some k ∨ (Value.slice o8 (n + 64) c8).ownBlock = some k ∨ (Value.slice o9 (n + 64) c9).ownBlock = some k) ?_
                    (((unhide HRD).keepL (F := fun q => (Value.slice ao n cap).ownBlock = some q) (fun b off m c e _ => by rw [e]; rfl) (unhide HK) (fun q hq => by obtain ⟨c, h⟩ := hty q hq; exact ⟨lt_of_block h, id⟩)).keepL (F := fun q => (Value.slice ao n cap).ownBlock = some q) (fun b off m c e _ => by rw [e]; rfl) kab (fun q hq => by obtain ⟨c, h⟩ := htk q hq; exact ⟨lt_of_block h, n60 h⟩))
                    (marks_row r6) (marks_row r8) (marks_row r9) (by omega) (by omega) ?_ ?_ ?_ ?_, hDb, by show b1.n + 1 = _; rw [unhide HN1], unhide HKL1, ?_, ?_⟩
                  · intro k h1 h2
                    simp [Value.ownBlock] at h1 h2
                    omega
                  · rintro k (h | h | h | h)
                    · obtain ⟨c, h'⟩ := htk k h
                      exact ⟨((unhide HROW3).lt k h).1, c, (kab.block k (lt_of_block h') (n60 h')).trans h'⟩
                    · obtain ⟨h1, h2⟩ := rowBlock r6 h; exact ⟨by omega, h2⟩
                    · exact rowBlock r8 h
                    · obtain ⟨h1, h2⟩ := rowBlock r9 h; exact ⟨by omega, h2⟩
                  · exact fun b off m c e _ => Or.inl (by rw [e]; rfl)
                  · exact fun b off m c e _ => Or.inr (Or.inl (by rw [e]; rfl))
                  · exact fun b off m c e _ => Or.inr (Or.inr (Or.inl (by rw [e]; rfl)))
                  · exact fun b off m c e _ => Or.inr (Or.inr (Or.inr (by rw [e]; rfl)))
                  · refine ((unhide HK1).mono (fun q _ h => h.imp id (fun ⟨x, hx, e⟩ => Or.inr ⟨x, List.mem_of_mem_take hx, e⟩))).next KW ?_
                    rintro q hq ((h | h | h) | h)
                    · exact own1 q (Or.inl h) hq
                    · exact own1 q (Or.inr (Or.inr (Or.inr (Or.inr (Or.inr (Or.inl h)))))) hq
                    · exact own1 q (Or.inr (Or.inr (Or.inr (Or.inr (Or.inr (Or.inr h)))))) hq
                    · exact Or.inr (Or.inl h)
                  · rintro k ((h | h | h | h | h | h | h) | h | h | h | h | h)
                    · exact all1 k (Or.inl (Or.inl h))
                    · exact all1 k (Or.inl (Or.inr (Or.inl h)))
                    · exact all1 k (Or.inl (Or.inr (Or.inr (Or.inl h))))
                    · exact all1 k (Or.inl (Or.inr (Or.inr (Or.inr (Or.inl h)))))
                    · exact all1 k (Or.inl (Or.inr (Or.inr (Or.inr (Or.inr (Or.inl h))))))
                    · simp [Value.ownBlock] at h
                      rcases at3 with h' | h'
                      · rcases at1 with h1 | h1
                        · exact all1 k (Or.inl (Or.inr (Or.inr (Or.inr (Or.inr (Or.inr (Or.inl (by rw [← h, h']; exact h1))))))))
                        · exact Or.inr (Or.inr (by omega))
                      · exact Or.inr (Or.inr (by omega))
                    · simp [Value.ownBlock] at h
                      rcases at4 with h' | h'
                      · rcases at2 with h1 | h1
                        · exact all1 k (Or.inl (Or.inr (Or.inr (Or.inr (Or.inr (Or.inr (Or.inr (by rw [← h, h']; exact h1))))))))
                        · exact Or.inr (Or.inr (by omega))
                      · exact Or.inr (Or.inr (by omega))
                    · exact all1 k (Or.inr h)
                    · exact Or.inr (Or.inl (Or.inl h))
                    · exact Or.inr (Or.inr (by have := unhide HOF k h; omega))
                    · exact (unhide HGQ k h).elim (fun h => Or.inr (Or.inl (Or.inl h))) (fun h => Or.inr (Or.inr (by omega)))
                    · exact Or.inr (Or.inr (by have := (r9.lt k h).1; omega))
end Go.Proofs.Ytjmbcelkhiopeaa

namespace Go.Proofs.Ytjmbcelkhiopeaa
open Go.RowKit Go.Maps
attribute [local go_sem ↓] Go.wp_at_zero Go.wp_at_succ

theorem Trio.mono {X : Nat → Prop} {w : World} {V B N N' : Nat} {st : Nat → Slot} (t : Trio w X V B N st) (h : N ≤ N') : Trio w X V B N' st :=
  ⟨t.blk, fun i S R e => (t.duo i S R e).mono h, t.free, t.apart, t.av, t.xlt⟩

/-- More blocks that no disk lies in. -/
theorem Trio.more {X : Nat → Prop} {w : World} {V B N : Nat} {st : Nat → Slot} (t : Trio w X V B N st) (X' : Nat → Prop) (hlt : ∀ k, X' k → k < w.heap.size) (hno : ∀ i S R, st i = some (S, R) → ∀ k, S.foot k ∨ R.foot k → ¬ X' k) : Trio w X' V B N st :=
  ⟨t.blk, t.duo, t.free, t.apart, hno, hlt⟩

/-- Behind what the Book does. -/
theorem Trio.book {X X' : Nat → Prop} {w w' : World} {V B N : Nat} {st : Nat → Slot} (t : Trio w X V B N st) (hk : Keeps X w w') (hV : ¬ X V) (hX : ∀ k, X' k → X k ∨ w.heap.size ≤ k) (hlt : ∀ k, X' k → k < w'.heap.size) : Trio w' X' V B N st :=
  ⟨(hk.block V (lt_of_block t.blk) hV).trans t.blk, fun i S R e => (t.duo i S R e).keepFoot hk (fun k h => t.av i S R e k h), t.free, t.apart,
    fun i S R e k h hx => (hX k hx).elim (t.av i S R e k h) (fun h' => by have := t.foot_lt e h; omega), hlt⟩

/-- The three places and the Book. -/
structure Both (w : World) (V B N : Nat) (st : Nat → Slot) (b : Bk) : Prop where
  trio : Trio w b.all V B N st
  book : BookAt w B b

theorem BookAt.not_V {w : World} {B V : Nat} {b : Bk} (h : BookAt w B b) {c : Array Value} (hV : w.heap[V]? = some (.cells c 73 (0, 0))) : ¬ b.all V := by
  rintro (hv | hv)
  · obtain ⟨_, c', t, h1, h2⟩ := h.own_at hv
    rw [hV] at h1
    simp at h1
    obtain ⟨_, rfl⟩ := h1
    rcases h2 with h2 | h2 | h2 | h2 <;> exact absurd h2 (by decide)
  · obtain ⟨_, c', t, fr, h1, h2⟩ := h.F V hv
    rw [hV] at h1
    simp at h1
    obtain ⟨_, rfl, _⟩ := h1
    rcases h2 with h2 | h2 | h2 <;> exact absurd h2 (by decide)

theorem Both.keep {w w' : World} {V B N : Nat} {st : Nat → Slot} {b : Bk} (t : Both w V B N st b) (hk : Keeps (fun _ => False) w w') : Both w' V B N st b := ⟨t.trio.keep hk, t.book.keep hk (fun _ _ => id)⟩

theorem slotOwn_no {X : Nat → Prop} {w : World} {V B N : Nat} {st : Nat → Slot} (t : Trio w X V B N st) {i k : Nat} (h : slotOwn (st i) k) : ¬ X k := by
  obtain ⟨S, R, hs, h⟩ := h
  exact t.av i S R hs k (h.imp Or.inl Or.inl)

set_option maxRecDepth 100000 in
set_option maxHeartbeats 2000000 in
theorem roomy_any (w : World) (v : Value) (l : List Int) (hv : Reads w v l) (hvb : ∀ b off n c, v = .slice (some ⟨b, off, none⟩) n c → 0 < l.length → b < w.heap.size) (hlen : l.length ≤ 140737488351232) :
    Calls Try.prog 44 #[v] w fun e w' => ∃ g cap, e = .returned (.slice (some ⟨g, 0, none⟩) (l.length + 3) cap) ∧ w'.ownsRow w.heap.size 5 1 (.slice (some ⟨g, 0, none⟩) (l.length + 3) cap) (l.length + 3) (bs (l ++ [165, 90, 167])) ∧ Keeps (fun _ => False) w w' := by
  obtain ⟨i0, hi, hz0, hz1, hz2⟩ := info_parts Try.info5
  have HC := hide (copyBytes_any w v l hv hvb (by omega))
  obtain ⟨vo, vc, rfl⟩ := hv.form
  clear hv hvb
  go_enter Try.func44, Try.ntmps44
  go_wp2_with fail
  refine (unhide HC).mono ?_
  rintro e w1 ⟨v', rfl, hrow, hk⟩
  obtain ⟨o1, c1, rfl, -⟩ := own_form hrow
  have HR := hide hrow
  have HK := hide hk
  have hs1 := hk.size
  clear hrow hk HC
  go_wp2_with (first
    | (at_builtin
       refine wpList_append_lies _ rfl _ _ _ rfl w.heap.size 5 i0 _ 1 1 Try.underlying32 hi hz0 hz1 hz2 rfl (by omega) (.slice o1 l.length c1) l.length (bs l) rfl ((unhide HR).alloc _) ⟨w1.heap.size, 0, none⟩ 1 1 [.int .u8 165] rfl rfl (World.news_of_block (cs := #[.int .u8 165]) (t := 5) (fr := (0, 0)) (heap_alloc_new w1 _)) (by simp [Value.oneCell']) (by omega) (by unfold maxLen; omega) (by omega) (by simp; omega) (w1.heap.size + 1) (by simp) ?_
       intro g1 cap1 w2 h1 hg1 ha1 hl1
       have HR1 := hide h1
       have HK1 : Hid (Keeps (fun _ => False) w w2) := ((unhide HK).alloc _).grown hg1 (fun q e hq => by have := ((unhide HR).lt q e).1; omega)
       have hs2 := (unhide HK1).size
       clear h1 hg1 ha1 hl1)
    | (at_builtin
       refine wpList_append_lies _ rfl _ _ _ rfl w.heap.size 5 i0 _ 1 1 Try.underlying32 hi hz0 hz1 hz2 rfl (by omega) (.slice (some ⟨g1, 0, none⟩) (l.length + 1) cap1) (l.length + 1) (bs l ++ [.int .u8 165]) rfl ((unhide HR1).alloc _) ⟨w2.heap.size, 0, none⟩ 1 1 [.int .u8 90] rfl rfl (World.news_of_block (cs := #[.int .u8 90]) (t := 5) (fr := (0, 0)) (heap_alloc_new w2 _)) (by simp [Value.oneCell']) (by omega) (by unfold maxLen; omega) (by omega) (by simp; omega) (w2.heap.size + 1) (by simp) ?_
       intro g2 cap2 w3 h2 hg2 ha2 hl2
       have HR2 := hide h2
       have HK2 : Hid (Keeps (fun _ => False) w w3) := ((unhide HK1).alloc _).grown hg2 (fun q e hq => by have := ((unhide HR1).lt q e).1; omega)
       have hs3 := (unhide HK2).size
       clear h2 hg2 ha2 hl2)
    | (at_builtin
       refine wpList_append_lies _ rfl _ _ _ rfl w.heap.size 5 i0 _ 1 1 Try.underlying32 hi hz0 hz1 hz2 rfl (by omega) (.slice (some ⟨g2, 0, none⟩) (l.length + 1 + 1) cap2) (l.length + 1 + 1) (bs l ++ [.int .u8 165] ++ [.int .u8 90]) rfl ((unhide HR2).alloc _) ⟨w3.heap.size, 0, none⟩ 1 1 [.int .u8 167] rfl rfl (World.news_of_block (cs := #[.int .u8 167]) (t := 5) (fr := (0, 0)) (heap_alloc_new w3 _)) (by simp [Value.oneCell']) (by omega) (by unfold maxLen; omega) (by omega) (by simp; omega) (w3.heap.size + 1) (by simp) ?_
       intro g3 cap3 w4 h3 hg3 ha3 hl3
       have HR3 := hide h3
       have HK3 : Hid (Keeps (fun _ => False) w w4) := ((unhide HK2).alloc _).grown hg3 (fun q e hq => by have := ((unhide HR2).lt q e).1; omega)
       clear h3 hg3 ha3 hl3))
  go_ret
  exact ⟨_, _, rfl, by simpa [bs] using unhide HR3, unhide HK3⟩

end Go.Proofs.Ytjmbcelkhiopeaa

namespace Go.Proofs.Ytjmbcelkhiopeaa
open Go.RowKit Go.Maps
attribute [local go_sem ↓] Go.wp_at_zero Go.wp_at_succ

/-- Three lists that say the same, each in memory of its own, and the places behind them. -/
def Got (w w4 : World) (X : Nat → Prop) (V B N : Nat) (l k m : Value) (n : Nat) : Prop :=
  ∃ (st' : Nat → Slot) (L : List Int), L.length = n ∧ n ≤ 16777216 ∧ Trio w4 X V B N st' ∧ (∀ j S R, st' j = some (S, R) → ∀ q, S.foot q ∨ R.foot q → q < w.heap.size) ∧ w4.ownsRow w.heap.size 5 1 l n (bs L) ∧ w4.ownsRow w.heap.size 5 1 k n (bs L) ∧ w4.ownsRow w.heap.size 5 1 m n (bs L) ∧
    (∀ q, l.ownBlock = some q → k.ownBlock ≠ some q ∧ m.ownBlock ≠ some q) ∧ (∀ q, k.ownBlock = some q → m.ownBlock ≠ some q)

def Read4 (a r : Int) (w : World) (X : Nat → Prop) (V B N : Nat) (s : Slot) : Prop :=
  Calls Try.prog 14 #[slotP s, .int .i64 a] w fun e w1 => ∃ lo n lc, e = .returned (.tuple #[.slice lo n lc, .int .i64 r]) ∧ Keeps (slotOwn s) w w1 ∧
    Calls Try.prog 14 #[slotP s, .int .i64 a] w1 fun e w2 => ∃ ko kc, e = .returned (.tuple #[.slice ko n kc, .int .i64 r]) ∧ Keeps (slotOwn s) w w2 ∧
      Calls Try.prog 52 #[slotR s, .int .i64 a] w2 fun e w3 => ∃ mo mc, e = .returned (.tuple #[.slice mo n mc, .int .i64 r]) ∧ Keeps (slotOwn s) w w3 ∧
        Calls Try.prog 52 #[slotR s, .int .i64 a] w3 fun e w4 => ∃ v, e = .returned (.tuple #[v, .int .i64 r]) ∧ Keeps (slotOwn s) w w4 ∧ Got w w4 X V B N (.slice lo n lc) (.slice ko n kc) (.slice mo n mc) n

theorem got_nil {w : World} {X : Nat → Prop} {V B N N' : Nat} {st : Nat → Slot} (t : Trio w X V B N st) (hN : N ≤ N') : Got w w X V B N' (.slice none 0 0) (.slice none 0 0) (.slice none 0 0) 0 :=
  ⟨st, [], rfl, by omega, t.mono hN, fun j S R h q hq => t.foot_lt h hq, World.ownsRow_nil _ _ _ _, World.ownsRow_nil _ _ _ _, World.ownsRow_nil _ _ _ _, fun _ h => (by cases h), fun _ h => (by cases h)⟩

theorem read4_same {X : Nat → Prop} {a r : Int} {w : World} {V B N N' : Nat} {st : Nat → Slot} (t : Trio w X V B N st) (hN : N ≤ N') {s : Slot}
    (h1 : Calls Try.prog 14 #[slotP s, .int .i64 a] w fun e w' => e = .returned (.tuple #[.slice none 0 0, .int .i64 r]) ∧ w' = w)
    (h2 : Calls Try.prog 52 #[slotR s, .int .i64 a] w fun e w'' => e = .returned (.tuple #[.slice none 0 0, .int .i64 r]) ∧ w'' = w) : Read4 a r w X V B N' s := by
  refine h1.mono ?_
  rintro e w1 ⟨rfl, rfl⟩
  refine ⟨_, _, _, rfl, Keeps.refl _ _, h1.mono ?_⟩
  rintro e w2 ⟨rfl, rfl⟩
  refine ⟨_, _, rfl, Keeps.refl _ _, h2.mono ?_⟩
  rintro e w3 ⟨rfl, rfl⟩
  refine ⟨_, _, rfl, Keeps.refl _ _, h2.mono ?_⟩
  rintro e w4 ⟨rfl, rfl⟩
  exact ⟨_, rfl, Keeps.refl _ _, got_nil t hN⟩

theorem read4 {X : Nat → Prop} {w : World} {V B N : Nat} {st : Nat → Slot} (t : Trio w X V B N st) (hN : N ≤ 2147483644) (i : Nat) (a : Int) : ∃ r : Int, Read4 a r w X V B (N + 2) (st i) := by
  cases hs : st i with
  | none => exact ⟨1, read4_same t (by omega) (read_nil a w) (refRead_nil a w)⟩
  | some d =>
    obtain ⟨S, R⟩ := d
    have d := t.duo i S R hs
    cases hd : S.dead with
    | true => exact ⟨10, read4_same t (by omega) (read_dead S.D a w (d.p.c6 hd)) (refRead_dead R.D a w (d.r.c6 (d.rel.dead ▸ hd)))⟩
    | false =>
      have p0 : w.cell? ⟨S.D, 0, none⟩ = some (.int .i64 S.secs) := cell_of_blk d.p.blk 0
      have hg : R.gone = false := d.rel.dead ▸ hd
      by_cases ha : a < 0 ∨ (S.secs : Int) ≤ a
      · exact ⟨11, read4_same t (by omega) (read_sector S.D S.secs a w p0 (d.p.c6 hd) ha) (refRead_sector R.D R.secs a w (cell_of_blk d.r.blk 0) (d.r.c6 hg) (by rw [← d.rel.secs]; exact ha))⟩
      · obtain ⟨m, rfl⟩ := Int.eq_ofNat_of_zero_le (show 0 ≤ a by omega)
        have hm : m < S.secs := by omega
        have b := d.bnd
        have hbr := b.r
        have hl := holdsAt_length d.p m hm
        have hh := d.rel.holds d.p d.r m
        have hsz := d.p.size1
        have hsz2 := d.p.size2
        refine ⟨0, ?_⟩
        refine (read_ok w B S d.p m hm hd b.r.1 (by omega)).mono ?_
        rintro e w1 ⟨rfl, h1, h2, h3⟩
        have hp1 : PStep w B S S.red w1 := PStep.set h1 h2 rfl rfl rfl rfl rfl
        refine ⟨_, _, _, rfl, hp1.keeps.mono (fun k _ h => ⟨S, R, rfl, Or.inl h⟩), ?_⟩
        refine (read_ok w1 B S.red h1 m hm hd (by show 0 ≤ S.r + 1; omega) (by show S.r + 1 ≤ _; omega)).mono ?_
        rintro e w2 ⟨rfl, h4, h5, h6⟩
        have hz1 : w.heap.size < w1.heap.size := lt_of_block h3
        have hz2 : w1.heap.size < w2.heap.size := lt_of_block h6
        have hp2 : PStep w B S S.red.red w2 := PStep.set h4 (h2.trans h5) rfl rfl rfl rfl rfl
        have hDlt := lt_of_block d.p.blk
        have h3' : w2.heap[w.heap.size]? = some (.cells (bs (S.holdsAt m)).toArray 5 (0, 0)) := (h5.block _ hz1 (fun e => by have : w.heap.size = S.D := e; omega)).trans h3
        refine ⟨_, _, rfl, hp2.keeps.mono (fun k _ h => ⟨S, R, rfl, Or.inl h⟩), ?_⟩
        refine (refRead_ok w2 B R (d.mid hp2 (Keeps.refl _ _)) m (by rw [← d.rel.secs]; exact hm) hg (by have := b.log; omega) (by rw [← d.rel.r]; exact b.r.1) (by rw [← d.rel.r]; omega)).mono ?_
        rintro e w3 ⟨v3, rfl, hrow, h7, h8⟩
        obtain ⟨g, c, rfl, hg3, hg3lt⟩ := hrow.form (by have := d.rel.size; omega)
        have hr1 : RStep w2 B R R.red w3 := RStep.set h7 h8 rfl rfl rfl rfl
        have k3 : Keeps (slotOwn (some (S, R))) w w3 := (hp2.keeps.mono (fun k _ h => ⟨S, R, rfl, Or.inl h⟩)).trans (hr1.keeps.mono (fun k _ h => ⟨S, R, rfl, Or.inr h⟩))
        rw [← d.rel.size] at hrow ⊢
        refine ⟨_, _, rfl, k3, ?_⟩
        refine (refRead_ok w3 B R.red h7 m (by show m < R.secs; rw [← d.rel.secs]; exact hm) hg (by have := b.log; show R.log.length ≤ _; omega) (by show 0 ≤ R.r + 1; rw [← d.rel.r]; omega) (by show R.r + 1 ≤ _; rw [← d.rel.r]; omega)).mono ?_
        rintro e w4 ⟨v4, rfl, -, h9, h10⟩
        have hRlt := lt_of_block d.r.blk
        have hr2 : RStep w2 B R R.red.red w4 := RStep.set h9 (h8.trans h10) rfl rfl rfl rfl
        obtain ⟨a1, a2, a3⟩ := d.step (N' := N + 2) hp2 (Keeps.refl _ _) hr2 d.rel.red.red ⟨by have := b.mn; show S.mn ≤ _; omega, by have := b.log; show R.log.length ≤ _; omega, ⟨by show 0 ≤ S.r + 1 + 1; omega, by show S.r + 1 + 1 ≤ _; omega⟩, ⟨b.wr.1, by have := b.wr.2; show S.wr ≤ _; omega⟩, ⟨b.f.1, by have := b.f.2; show S.f ≤ _; omega⟩, b.left⟩
        refine ⟨_, rfl, a2.mono (fun k _ h => ⟨S, R, rfl, h⟩), _, S.holdsAt m, hl, by omega, t.step hs (by omega) a1 a2 a3 rfl rfl, ?_, ?_, ?_, ?_, ?_, ?_⟩
        · intro j S1 R1 hj q hq
          unfold setSlot at hj
          split at hj
          · simp at hj
            obtain ⟨rfl, rfl⟩ := hj
            exact hq.elim d.p.foot_lt d.r.foot_lt
          · exact t.foot_lt hj hq
        · have hb : w4.heap[w.heap.size]? = some (.cells (bs (S.holdsAt m)).toArray 5 (0, 0)) := (h10.block _ (by have := h8.size; omega) (fun e => by have : w.heap.size = R.D := e; omega)).trans ((h8.block _ (by omega) (fun e => by have : w.heap.size = R.D := e; omega)).trans h3')
          exact full_row hb hl hsz2 (Nat.le_refl _)
        · have hb : w4.heap[w1.heap.size]? = some (.cells (bs (S.holdsAt m)).toArray 5 (0, 0)) := (h10.block _ (by have := h8.size; omega) (fun e => by have : w1.heap.size = R.D := e; omega)).trans ((h8.block _ (by omega) (fun e => by have : w1.heap.size = R.D := e; omega)).trans h6)
          exact full_row hb hl hsz2 (by omega)
        · rw [hh]
          refine ownsRow_lower (ownsRow_kept hrow h10 (fun q hq e => ?_)) (by omega)
          cases hq
          have : g = R.D := e
          omega
        · intro q hq
          cases hq
          simp [Value.ownBlock]
          omega
        · intro q hq
          cases hq
          simp [Value.ownBlock]
          omega

def Image3 (w : World) (X : Nat → Prop) (V B N : Nat) (s : Slot) : Prop :=
  Calls Try.prog 27 #[slotP s] w fun e w1 => ∃ lo n lc, e = .returned (.slice lo n lc) ∧ Keeps (slotOwn s) w w1 ∧
    Calls Try.prog 27 #[slotP s] w1 fun e w2 => ∃ ko kc, e = .returned (.slice ko n kc) ∧ Keeps (slotOwn s) w w2 ∧
      Calls Try.prog 53 #[slotR s] w2 fun e w3 => ∃ mo mc, e = .returned (.slice mo n mc) ∧ Keeps (slotOwn s) w w3 ∧ Got w w3 X V B N (.slice lo n lc) (.slice ko n kc) (.slice mo n mc) n

theorem full_row' {w : World} {B g s : Nat} {l : List Int} (h : w.heap[g]? = some (.cells (bs l).toArray 5 (0, 0))) (hl : l.length = s) (hs : s ≤ 16777216) (hb : B ≤ g) : w.ownsRow B 5 1 (.slice (some ⟨g, 0, none⟩) s s) s (bs l) := by
  refine ⟨by simp [bs, hl], Or.inr ⟨g, s, _, rfl, hb, h, Nat.le_refl _, by unfold maxLen; omega, by simp [bs, hl], ?_⟩⟩
  rw [List.take_of_length_le (by simp [bs, hl])]

theorem image3 {X : Nat → Prop} {w : World} {V B N : Nat} {st : Nat → Slot} (t : Trio w X V B N st) (hN : N ≤ 2147483644) (i : Nat) : Image3 w X V B N (st i) := by
  cases hs : st i with
  | none =>
    refine (image_nil w).mono ?_
    rintro e w1 ⟨rfl, rfl⟩
    refine ⟨_, _, _, rfl, Keeps.refl _ _, (image_nil w1).mono ?_⟩
    rintro e w2 ⟨rfl, rfl⟩
    refine ⟨_, _, rfl, Keeps.refl _ _, (refImage_nil w2).mono ?_⟩
    rintro e w3 ⟨rfl, rfl⟩
    exact ⟨_, _, rfl, Keeps.refl _ _, got_nil t (Nat.le_refl _)⟩
  | some d =>
    obtain ⟨S, R⟩ := d
    have d := t.duo i S R hs
    have hnn : S.secs * S.size ≤ 16777216 := Nat.le_trans (Nat.mul_le_mul d.p.secs2 d.p.size2) (by decide)
    refine (image_any w B S d.p).mono ?_
    rintro e w1 ⟨rfl, hw1⟩
    have k1 : Keeps (fun _ => False) w w1 := by rw [hw1]; exact (Keeps.refl _ _).alloc _
    have hb1 : w1.heap[w.heap.size]? = some (.cells (bs S.dur).toArray 5 (0, 0)) := by rw [hw1]; exact heap_alloc_new w _
    refine ⟨_, _, _, rfl, k1.mono (fun _ _ f => f.elim), (image_any w1 B S (d.p.keepF k1)).mono ?_⟩
    rintro e w2 ⟨rfl, hw2⟩
    have k2 : Keeps (fun _ => False) w1 w2 := by rw [hw2]; exact (Keeps.refl _ _).alloc _
    have hb2 : w2.heap[w1.heap.size]? = some (.cells (bs S.dur).toArray 5 (0, 0)) := by rw [hw2]; exact heap_alloc_new w1 _
    have hz1 : w.heap.size < w1.heap.size := lt_of_block hb1
    have hz2 : w1.heap.size < w2.heap.size := lt_of_block hb2
    refine ⟨_, _, rfl, (k1.trans k2).mono (fun _ _ f => f.elim), (refImage_any w2 B R (d.r.keepF (k1.trans k2)) (by have := d.bnd.log; omega)).mono ?_⟩
    rintro e w3 ⟨v, rfl, hrow, k3⟩
    rw [← d.rel.secs, ← d.rel.size] at hrow
    obtain ⟨mo, mc, rfl, -⟩ := own_form hrow
    have kk := (k1.trans k2).trans k3
    refine ⟨_, _, rfl, kk.mono (fun _ _ f => f.elim), st, S.dur, d.p.dlen, hnn, t.keep kk, fun j S1 R1 h q hq => t.foot_lt h hq, ?_, ?_, ?_, ?_, ?_⟩
    · exact full_row' ((k3.block _ (by omega) id).trans ((k2.block _ hz1 id).trans hb1)) d.p.dlen hnn (Nat.le_refl _)
    · exact full_row' ((k3.block _ hz2 id).trans hb2) d.p.dlen hnn (by omega)
    · have e := d.rel.image d.p d.r
      rw [← d.rel.secs] at e
      rw [e]
      exact ownsRow_lower (b' := w2.heap.size) hrow (by omega)
    · intro q hq
      cases hq
      refine ⟨by simp [Value.ownBlock]; omega, fun e => ?_⟩
      have h2 : w2.heap.size ≤ w.heap.size := (hrow.lt _ e).1
      omega
    · intro q hq e
      cases hq
      have h2 : w2.heap.size ≤ w1.heap.size := (hrow.lt _ e).1
      omega

/-- Both answers are held against the document's and marked. -/
def Marked (w w4 : World) (V B N : Nat) (b : Bk) (lo ko mo : Option Addr) (n lc kc mc : Nat) : Prop :=
  Calls Try.prog 28 #[.slice lo n lc, .slice mo n mc] w4 fun e w5 => e = .returned (.bool true) ∧
    Calls Try.prog 47 #[.pointer (some ⟨b.D, 0, none⟩), .slice lo n lc] w5 fun e w6 => ∃ v, e = .returned v ∧
      Calls Try.prog 28 #[.slice ko n kc, .slice mo n mc] w6 fun e w7 => e = .returned (.bool true) ∧
        Calls Try.prog 47 #[.pointer (some ⟨b.D, 0, none⟩), .slice ko n kc] w7 fun e w8 => ∃ v, e = .returned v ∧
          ∃ st' b', Both w8 V B N st' b' ∧ b'.D = b.D ∧ b'.n = b.n + 2 ∧ b'.kl = b.kl ∧ Keeps (fun q => b.all q ∨ w.heap.size ≤ q) w4 w8

theorem marked {w w4 : World} {V B N : Nat} {b : Bk} {G : Nat → Prop} {lo ko mo : Option Addr} {n lc kc mc : Nat} (hb : BookAt w B b) (hk : Keeps G w w4) (hG : ∀ k, b.all k → ¬ G k) (hB : B ≤ w.heap.size) (hVw : ¬ w.heap.size ≤ V) (g : Got w w4 b.all V B N (.slice lo n lc) (.slice ko n kc) (.slice mo n mc) n) (hn : b.n + 1 ≤ 2199031644160) : Marked w w4 V B N b lo ko mo n lc kc mc := by
  obtain ⟨st', L, hL, hn2, t, hfoot, rl, rk, rm, hd1, hd2⟩ := g
  have hb4 := hb.keep hk hG
  have hsz := hk.size
  have hall : ∀ q, b.all q → q < w.heap.size := fun q h => (hb.all_at h).2
  have hll : ∀ q, (Value.slice lo n lc).ownBlock = some q → w.heap.size ≤ q := fun q h => (rl.lt q h).1
  have hkk : ∀ q, (Value.slice ko n kc).ownBlock = some q → w.heap.size ≤ q := fun q h => (rk.lt q h).1
  have hmm : ∀ q, (Value.slice mo n mc).ownBlock = some q → w.heap.size ≤ q := fun q h => (rm.lt q h).1
  have hV : ¬ b.all V := hb4.not_V t.blk
  refine (eqBytes_any w4 _ _ L L (row_reads rl).1 (row_reads rm).1 (by unfold maxLen; omega)).mono ?_
  rintro e w5 ⟨rfl, m1, rfl⟩
  refine ⟨by simp, ?_⟩
  have k5 := keeps_drewN w4 m1
  have rl5 := ownsRow_kept rl k5 (fun _ _ => id)
  have rk5 := ownsRow_kept rk k5 (fun _ _ => id)
  have rm5 := ownsRow_kept rm k5 (fun _ _ => id)
  refine (bytes_any (w4.drewN m1) B b (hb4.keep k5 (fun _ _ => id)) (by show B ≤ w4.heap.size; omega) lo n lc L hL (ownsRow_lower rl5 hB) (fun q hq h => by have := hll q hq; have := hall q h; omega) (by omega) (by omega)).mono ?_
  rintro e w6 ⟨v, rfl, b2, hb2, hD2, hn2', hkl2, k6, ha2⟩
  have hs5 : (w4.drewN m1).heap.size = w4.heap.size := rfl
  have rk6 := ownsRow_kept rk5 k6 (fun q hq h => by
    rcases h with h | h
    · have := hall q (Or.inl h); have := hkk q hq; omega
    · exact (hd1 q h).1 hq)
  have rm6 := ownsRow_kept rm5 k6 (fun q hq h => by
    rcases h with h | h
    · have := hall q (Or.inl h); have := hmm q hq; omega
    · exact (hd1 q h).2 hq)
  refine ⟨_, rfl, (eqBytes_any w6 _ _ L L (row_reads rk6).1 (row_reads rm6).1 (by unfold maxLen; omega)).mono ?_⟩
  rintro e w7 ⟨rfl, m2, rfl⟩
  refine ⟨by simp, ?_⟩
  have k7 := keeps_drewN w6 m2
  have rk7 := ownsRow_kept rk6 k7 (fun _ _ => id)
  rw [← hD2]
  have hs6 := k6.size
  have hkall : ∀ q, (Value.slice ko n kc).ownBlock = some q → ¬ b2.all q := fun q hq h => by
    rcases ha2 q h with h | h | h
    · have := hall q h; have := hkk q hq; omega
    · exact (hd1 q h).1 hq
    · have := (rk.lt q hq).2; omega
  refine (bytes_any (w6.drewN m2) B b2 (hb2.keep k7 (fun _ _ => id)) (by show B ≤ w6.heap.size; omega) ko n kc L hL (ownsRow_lower rk7 hB) hkall (by omega) (by omega)).mono ?_
  rintro e w8 ⟨v, rfl, b3, hb3, hD3, hn3, hkl3, k8, ha3⟩
  have hs7 : (w6.drewN m2).heap.size = w6.heap.size := rfl
  have own2 : ∀ q, b2.own q → q < w4.heap.size → b.all q ∨ w.heap.size ≤ q := fun q h hq => by
    rcases ha2 q (Or.inl h) with h | h | h
    · exact Or.inl h
    · exact Or.inr (hll q h)
    · omega
  have KK : Keeps (fun q => b.all q ∨ w.heap.size ≤ q) w4 w8 := by
    refine ((((k5.mono (fun _ _ f => f.elim)).next k6 ?_).next k7 (fun _ _ f => f.elim)).next k8 ?_)
    · rintro q hq (h | h)
      · exact Or.inl (Or.inl h)
      · exact Or.inr (hll q h)
    · rintro q hq (h | h)
      · exact own2 q h hq
      · exact Or.inr (hkk q h)
  have X3 : ∀ q, b3.all q → b.all q ∨ w.heap.size ≤ q := fun q h => by
    rcases ha3 q h with h | h | h
    · rcases ha2 q h with h | h | h
      · exact Or.inl h
      · exact Or.inr (hll q h)
      · exact Or.inr (by omega)
    · exact Or.inr (hkk q h)
    · exact Or.inr (by omega)
  have tX : Trio w4 (fun q => q < w4.heap.size ∧ (b.all q ∨ w.heap.size ≤ q)) V B N st' := t.more _ (fun _ h => h.1) (fun i S R e q hq h => by
    rcases h.2 with h | h
    · exact t.av i S R e q hq h
    · have := hfoot i S R e q hq; omega)
  have tV : ¬ (V < w4.heap.size ∧ (b.all V ∨ w.heap.size ≤ V)) := by
    rintro ⟨_, h | h⟩
    · exact hV h
    · exact hVw h
  refine ⟨_, rfl, st', b3, ⟨tX.book (KK.mono (fun q hq h => ⟨hq, h⟩)) tV (fun q h => ?_) (fun q h => (hb3.all_at h).2), hb3⟩, hD3, by omega, hkl3.trans hkl2, KK⟩
  by_cases hq : q < w4.heap.size
  · exact Or.inl ⟨hq, X3 q h⟩
  · exact Or.inr (by omega)

end Go.Proofs.Ytjmbcelkhiopeaa

namespace Go.Proofs.Ytjmbcelkhiopeaa
open Go.RowKit Go.Maps
attribute [local go_sem ↓] Go.wp_at_zero Go.wp_at_succ

theorem wcells_length (s : Nat) : ∀ ws : List Wr, (wcells s ws).length = ws.length * 2
  | [] => rfl
  | y :: ys => by
    have e : wcells s (y :: ys) = [.int .i64 y.sec, .slice (some ⟨y.blk, 0, none⟩) s s] ++ wcells s ys := rfl
    rw [e, List.length_append, wcells_length s ys]
    simp
    omega

theorem pend_own {w w1 : World} {B : Nat} {S : DS} {ws : List Wr} (d : DiskAt w B S) (I : PendInv w S S.ws.length ws w1) (hI : Inj ws) (hn : S.ws.length ≤ 4294967295) : OwnWr w1 w.heap.size (.slice (some ⟨w.heap.size, 0, none⟩) S.ws.length S.ws.length) S.size ws ∧ ∀ q, wrFoot (.slice (some ⟨w.heap.size, 0, none⟩) S.ws.length S.ws.length) ws q → w.heap.size ≤ q ∧ q < w1.heap.size := by
  obtain ⟨arr, ha, hs, hc⟩ := I.arr
  have hlen := I.len
  refine ⟨⟨?_, fun x hx => ?_, hI, d.size2⟩, ?_⟩
  · rw [hlen]
    refine ⟨by rw [wcells_length, hlen], Or.inr ⟨w.heap.size, S.ws.length, arr, rfl, Nat.le_refl _, ha, Nat.le_refl _, by unfold maxLen; omega, hs, ?_⟩⟩
    rw [List.take_of_length_le (by simp [hs])]
    apply List.ext_getElem?
    intro i
    by_cases hi : i < S.ws.length * 2
    · obtain ⟨j, hj⟩ : ∃ j, j = i / 2 := ⟨_, rfl⟩
      obtain ⟨x, hx⟩ : ∃ x, ws[j]? = some x := ⟨_, List.getElem?_eq_getElem (by omega)⟩
      obtain ⟨c0, c1⟩ := hc j x hx
      obtain ⟨d0, d1⟩ := wcells_at (s := S.size) hx
      rcases Nat.mod_two_eq_zero_or_one i with h | h
      · obtain rfl : i = j * 2 := by omega
        rw [d0, ← c0]; simp
      · obtain rfl : i = j * 2 + 1 := by omega
        rw [d1, ← c1]; simp
    · rw [List.getElem?_eq_none (by simp [hs]; omega), List.getElem?_eq_none (by rw [wcells_length, hlen]; omega)]
  · obtain ⟨h1, h2, h3⟩ := I.each x hx
    exact ⟨h1, h2, by omega⟩
  · rintro q (h | ⟨x, hx, rfl⟩)
    · cases h; exact ⟨Nat.le_refl _, lt_of_block ha⟩
    · obtain ⟨h1, h2, h3⟩ := I.each x hx
      exact ⟨by omega, lt_of_block h2⟩

theorem OwnWr.keep {w w' : World} {B : Nat} {v : Value} {s : Nat} {ws : List Wr} (h : OwnWr w B v s ws) {G : Nat → Prop} (hk : Keeps G w w') (hG : ∀ q, wrFoot v ws q → ¬ G q) : OwnWr w' B v s ws :=
  ⟨ownsRow_kept h.row hk (fun q hq => hG q (Or.inl hq)), fun x hx => by
    obtain ⟨h1, h2, h3⟩ := h.each x hx
    exact ⟨h1, (hk.block _ (lt_of_block h2) (hG _ (Or.inr ⟨x, hx, rfl⟩))).trans h2, h3⟩, h.inj, h.fit⟩

theorem OwnWr.lower {w : World} {B B' : Nat} {v : Value} {s : Nat} {ws : List Wr} (h : OwnWr w B' v s ws) (hb : B ≤ B') : OwnWr w B v s ws :=
  ⟨ownsRow_lower h.row hb, fun x hx => by obtain ⟨h1, h2, h3⟩ := h.each x hx; exact ⟨h1, h2, by omega⟩, h.inj, h.fit⟩

theorem OwnWr.writes {w : World} {B : Nat} {v : Value} {s : Nat} {ws : List Wr} (h : OwnWr w B v s ws) : WritesG w v (ws.map (wrLW s)) := by
  obtain ⟨ao, cap, rfl, _⟩ := own_form h.row
  refine ⟨⟨ao, cap, by simp⟩, fun h0 => ?_⟩
  simp at h0
  obtain ⟨g, c, e, -, hlt⟩ := h.row.form h0
  simp at e
  obtain ⟨rfl, rfl⟩ := e
  refine ⟨g, cap, by simp, hlt, fun j x hx => ?_⟩
  rw [List.getElem?_map] at hx
  obtain ⟨y, hy, rfl⟩ := Option.map_eq_some_iff.1 hx
  obtain ⟨d0, d1⟩ := wcells_at (s := s) hy
  obtain ⟨h1, h2, h3⟩ := h.each y (List.mem_of_getElem? hy)
  have hf := h.fit
  refine ⟨(row_cell h.row).2.2 _ _ d0, (row_cell h.row).2.2 _ _ d1, by show y.bytes.length ≤ _; rw [h1]; unfold maxLen; omega, (row_reads (full_row h2 h1 h.fit h3)).1⟩

theorem LogAt.keep {w w' : World} {c : Nat} {v : Value} {s : Nat} {log : List LW} (h : LogAt w c v s log) (hk : Keeps (fun q => q < c) w w') : LogAt w' c v s log :=
  ⟨ownsRow_kept h.row hk (fun q hq e => by have := (h.row.lt q hq).1; omega), fun x hx => ⟨(h.each x hx).1, ownsRow_kept (h.each x hx).2 hk (fun q hq e => by have := ((h.each x hx).2.lt q hq).1; omega)⟩⟩

def GotW (w w4 : World) (X : Nat → Prop) (V B N : Nat) (l k m : Value) (n : Nat) : Prop :=
  ∃ (st' : Nat → Slot) (wl wk : List Wr) (log : List LW) (s c1 c2 : Nat), wl.length = n ∧ wk.length = n ∧ n ≤ N ∧ Trio w4 X V B N st' ∧ (∀ j S R, st' j = some (S, R) → ∀ q, S.foot q ∨ R.foot q → q < w.heap.size) ∧
    OwnWr w4 w.heap.size l s wl ∧ OwnWr w4 w.heap.size k s wk ∧ (∀ w', Keeps (fun q => q < c2) w4 w' → WritesG w' m log) ∧ w.heap.size ≤ c1 ∧ c1 ≤ c2 ∧ c2 ≤ w4.heap.size ∧ (∀ q, wrFoot l wl q → w.heap.size ≤ q ∧ q < c1) ∧ (∀ q, wrFoot k wk q → c1 ≤ q ∧ q < c2) ∧
    (wl.map (wrLW s)).map LW.pair = log.map LW.pair ∧ (wk.map (wrLW s)).map LW.pair = log.map LW.pair

def Pend3 (w : World) (X : Nat → Prop) (V B N : Nat) (s : Slot) : Prop :=
  Calls Try.prog 18 #[slotP s] w fun e w1 => ∃ lo n lc, e = .returned (.slice lo n lc) ∧ Keeps (slotOwn s) w w1 ∧
    Calls Try.prog 18 #[slotP s] w1 fun e w2 => ∃ ko kc, e = .returned (.slice ko n kc) ∧ Keeps (slotOwn s) w w2 ∧
      Calls Try.prog 54 #[slotR s] w2 fun e w3 => ∃ mo mc, e = .returned (.slice mo n mc) ∧ Keeps (slotOwn s) w w3 ∧ GotW w w3 X V B N (.slice lo n lc) (.slice ko n kc) (.slice mo n mc) n

theorem pend3 {X : Nat → Prop} {w : World} {V B N : Nat} {st : Nat → Slot} (t : Trio w X V B N st) (hN : N ≤ 2147483644) (i : Nat) : Pend3 w X V B N (st i) := by
  cases hs : st i with
  | none =>
    refine (pending_nil w).mono ?_
    rintro e w1 ⟨rfl, rfl⟩
    refine ⟨_, _, _, rfl, Keeps.refl _ _, (pending_nil w1).mono ?_⟩
    rintro e w2 ⟨rfl, rfl⟩
    refine ⟨_, _, rfl, Keeps.refl _ _, (refPending_nil w2).mono ?_⟩
    rintro e w3 ⟨rfl, rfl⟩
    have ow : OwnWr w3 w3.heap.size (.slice none 0 0) 0 [] := ⟨World.ownsRow_nil _ _ _ _, fun _ h => (by cases h), Inj.nil, by omega⟩
    have nf : ∀ q, ¬ wrFoot (.slice none 0 0) [] q := by
      rintro q (h | ⟨x, h, _⟩)
      · cases h
      · cases h
    exact ⟨_, _, rfl, Keeps.refl _ _, st, [], [], [], 0, w3.heap.size, w3.heap.size, rfl, rfl, Nat.zero_le _, t, fun j S R h q hq => t.foot_lt h hq, ow, ow, fun w' _ => ⟨⟨_, _, rfl⟩, fun h => by simp at h⟩, Nat.le_refl _, Nat.le_refl _, Nat.le_refl _, fun q h => absurd h (nf q), fun q h => absurd h (nf q), rfl, rfl⟩
  | some d =>
    obtain ⟨S, R⟩ := d
    have d := t.duo i S R hs
    have hws := d.ws
    refine (pending_inj w B S d.p (by omega)).mono ?_
    rintro e w1 ⟨wl, rfl, I1, J1⟩
    have k1 := I1.keeps
    refine ⟨_, _, _, rfl, k1.mono (fun _ _ f => f.elim), (pending_inj w1 B S (d.p.keepF k1) (by omega)).mono ?_⟩
    rintro e w2 ⟨wk, rfl, I2, J2⟩
    have k2 := I2.keeps
    refine ⟨_, _, rfl, (k1.trans k2).mono (fun _ _ f => f.elim), (refPending_any w2 B R (d.r.keepF (k1.trans k2)) (by have := d.bnd.log; omega)).mono ?_⟩
    rintro e w3 ⟨v, log, rfl, J⟩
    have k3 := J.keeps
    obtain ⟨o1, f1⟩ := pend_own d.p I1 J1 (by omega)
    obtain ⟨o2, f2⟩ := pend_own (d.p.keepF k1) I2 J2 (by omega)
    have hll : log.length = S.ws.length := by
      have h := congrArg List.length d.rel.ws
      have h2 := J.len
      simp at h
      omega
    obtain ⟨mo, mc, rfl, -⟩ := own_form J.at_.row
    rw [hll]
    have kk := (k1.trans k2).trans k3
    have s1 := k1.size
    have s2 := k2.size
    have s3 := k3.size
    have e1 : ∀ (ws : List Wr), (ws.map (wrLW S.size)).map LW.pair = ws.map Wr.pair := fun ws => by rw [List.map_map]; rfl
    have e2 : S.ws.map Wr.pair = log.map LW.pair := by
      rw [d.rel.ws, J.pair, List.take_of_length_le (by simp)]
    refine ⟨_, _, rfl, kk.mono (fun _ _ f => f.elim), st, wl, wk, log, S.size, w1.heap.size, w2.heap.size, I1.len, I2.len, hws, t.keep kk, fun j S1 R1 h q hq => t.foot_lt h hq,
      o1.keep (k2.trans k3) (fun _ _ => id), (o2.keep k3 (fun _ _ => id)).lower s1, fun w' hk' => ?_, s1, s2, s3, f1, f2, ?_, ?_⟩
    · have := (J.at_.keep hk').writes d.r.size2
      rwa [hll] at this
    · rw [e1, I1.pair, List.take_length, e2]
    · rw [e1, I2.pair, List.take_length, e2]

def PMarked (w w4 : World) (V B N : Nat) (b : Bk) (lo ko mo : Option Addr) (n lc kc mc : Nat) : Prop :=
  Calls Try.prog 19 #[.slice lo n lc, .slice mo n mc] w4 fun e w5 => e = .returned (.bool true) ∧
    Calls Try.prog 55 #[.pointer (some ⟨b.D, 0, none⟩), .slice lo n lc] w5 fun e w6 => ∃ v, e = .returned v ∧
      Calls Try.prog 19 #[.slice ko n kc, .slice mo n mc] w6 fun e w7 => e = .returned (.bool true) ∧
        Calls Try.prog 55 #[.pointer (some ⟨b.D, 0, none⟩), .slice ko n kc] w7 fun e w8 => ∃ v, e = .returned v ∧
          ∃ st' b', Both w8 V B N st' b' ∧ b'.D = b.D ∧ b'.n ≤ b.n + 2 * N + 2 ∧ b'.kl = b.kl ∧ Keeps (fun q => b.all q ∨ w.heap.size ≤ q) w4 w8

theorem pmarked {w w4 : World} {V B N : Nat} {b : Bk} {G : Nat → Prop} {lo ko mo : Option Addr} {n lc kc mc : Nat} (hb : BookAt w B b) (hk : Keeps G w w4) (hG : ∀ k, b.all k → ¬ G k) (hB : B ≤ w.heap.size) (hVw : ¬ w.heap.size ≤ V) (hN : N ≤ 2147483644) (g : GotW w w4 b.all V B N (.slice lo n lc) (.slice ko n kc) (.slice mo n mc) n) (hn : b.n + 2 * N + 1 ≤ 2199031644160) : PMarked w w4 V B N b lo ko mo n lc kc mc := by
  obtain ⟨st', wl, wk, log, s, c1, c2, hl, hk', hnN, t, hfoot, ol, ok, hm, z1, z2, z3, fl, fk, pl, pk⟩ := g
  have hb4 := hb.keep hk hG
  have hsz := hk.size
  have hall : ∀ q, b.all q → q < w.heap.size := fun q h => (hb.all_at h).2
  have hV : ¬ b.all V := hb4.not_V t.blk
  refine (eqWritesG w4 _ _ _ _ ol.writes (hm w4 (Keeps.refl _ _)) (by simp; omega)).mono ?_
  rintro e w5 ⟨rfl, m1, rfl⟩
  refine ⟨by simp [pl], ?_⟩
  have k5 := keeps_drewN w4 m1
  have hs5 : (w4.drewN m1).heap.size = w4.heap.size := rfl
  refine (writes_any (w4.drewN m1) B b (hb4.keep k5 (fun _ _ => id)) (by omega) lo n lc s wl hl ((ol.keep k5 (fun _ _ => id)).lower hB) (fun q hq h => by have := fl q hq; have := hall q h; omega) (by omega) (by omega)).mono ?_
  rintro e w6 ⟨v, rfl, b2, hb2, hD2, hn2, hkl2, k6, ha2⟩
  have hs6 := k6.size
  have k6c : Keeps (fun q => q < c2) w4 w6 := (k5.mono (fun _ _ f => f.elim)).trans (k6.mono (fun q _ h => by
    rcases h with h | h
    · have := hall q (Or.inl h); omega
    · have := fl q h; omega))
  have ok6 := (ok.keep k5 (fun _ _ => id)).keep k6 (fun q hq h => by
    have := fk q hq
    rcases h with h | h
    · have := hall q (Or.inl h); omega
    · have := fl q h; omega)
  refine ⟨_, rfl, (eqWritesG w6 _ _ _ _ ok6.writes (hm w6 k6c) (by simp; omega)).mono ?_⟩
  rintro e w7 ⟨rfl, m2, rfl⟩
  refine ⟨by simp [pk], ?_⟩
  have k7 := keeps_drewN w6 m2
  have hs7 : (w6.drewN m2).heap.size = w6.heap.size := rfl
  rw [← hD2]
  have hkall : ∀ q, wrFoot (.slice ko n kc) wk q → ¬ b2.all q := fun q hq h => by
    have := fk q hq
    rcases ha2 q h with h | h | h
    · have := hall q h; omega
    · have := fl q h; omega
    · omega
  refine (writes_any (w6.drewN m2) B b2 (hb2.keep k7 (fun _ _ => id)) (by omega) ko n kc s wk hk' ((ok6.keep k7 (fun _ _ => id)).lower hB) hkall (by omega) (by omega)).mono ?_
  rintro e w8 ⟨v, rfl, b3, hb3, hD3, hn3, hkl3, k8, ha3⟩
  have own2 : ∀ q, b2.own q → q < w4.heap.size → b.all q ∨ w.heap.size ≤ q := fun q h hq => by
    rcases ha2 q (Or.inl h) with h | h | h
    · exact Or.inl h
    · exact Or.inr (fl q h).1
    · omega
  have KK : Keeps (fun q => b.all q ∨ w.heap.size ≤ q) w4 w8 := by
    refine ((((k5.mono (fun _ _ f => f.elim)).next k6 ?_).next k7 (fun _ _ f => f.elim)).next k8 ?_)
    · rintro q hq (h | h)
      · exact Or.inl (Or.inl h)
      · exact Or.inr (fl q h).1
    · rintro q hq (h | h)
      · exact own2 q h hq
      · exact Or.inr (by have := fk q h; omega)
  have X3 : ∀ q, b3.all q → b.all q ∨ w.heap.size ≤ q := fun q h => by
    rcases ha3 q h with h | h | h
    · rcases ha2 q h with h | h | h
      · exact Or.inl h
      · exact Or.inr (fl q h).1
      · exact Or.inr (by omega)
    · exact Or.inr (by have := fk q h; omega)
    · exact Or.inr (by omega)
  have tX : Trio w4 (fun q => q < w4.heap.size ∧ (b.all q ∨ w.heap.size ≤ q)) V B N st' := t.more _ (fun _ h => h.1) (fun i S R e q hq h => by
    rcases h.2 with h | h
    · exact t.av i S R e q hq h
    · have := hfoot i S R e q hq; omega)
  have tV : ¬ (V < w4.heap.size ∧ (b.all V ∨ w.heap.size ≤ V)) := by
    rintro ⟨_, h | h⟩
    · exact hV h
    · exact hVw h
  refine ⟨_, rfl, st', b3, ⟨tX.book (KK.mono (fun q hq h => ⟨hq, h⟩)) tV (fun q h => ?_) (fun q h => (hb3.all_at h).2), hb3⟩, hD3, by omega, hkl3.trans hkl2, KK⟩
  by_cases hq : q < w4.heap.size
  · exact Or.inl ⟨hq, X3 q h⟩
  · exact Or.inr (by omega)

end Go.Proofs.Ytjmbcelkhiopeaa
