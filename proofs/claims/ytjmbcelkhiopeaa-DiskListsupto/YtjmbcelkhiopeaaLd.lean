import Derived.Test.YtjmbcelkhiopeaaLc
import Derived.Test.YtjmbcelkhiopeaaRw
namespace Go.Proofs.Ytjmbcelkhiopeaa
open Go.RowKit Go.Maps
attribute [local go_sem ↓] Go.wp_at_zero Go.wp_at_succ

set_option maxRecDepth 100000 in
set_option maxHeartbeats 2000000 in
theorem eqMarks (w : World) (va vb : Value) (c : Nat) (x : Int) (ha : Marks w va c x) (hb : Marks w vb c x) (hc : c ≤ 140737488355328) :
    Calls Try.prog 19 #[va, vb] w fun e w' => e = .returned (.bool true) ∧ ∃ n, w' = w.drewN n := by
  obtain ⟨ao, capa, rfl⟩ := ha.form
  obtain ⟨bo, capb, rfl⟩ := hb.form
  have HA := hide ha
  have HB := hide hb
  clear ha hb
  go_enter Try.func19, Try.ntmps19
  go_wp2
  go_loopw [5] (fun i wr => ∃ k : Nat, k ≤ c ∧ i = .int .i64 k ∧ ∃ n, wr = w.drewN n) (fun i _ => c - (intOf i).toNat)
  case atStart => exact ⟨0, Nat.zero_le _, rfl, 0, rfl⟩
  case round =>
    obtain ⟨k, hk, rfl, n, rfl⟩ := hrel
    by_cases hlt : k < c
    · obtain ⟨b1, f1, c1, e1, hc1⟩ := (unhide HA).cells (by omega)
      obtain ⟨b2, f2, c2, e2, hc2⟩ := (unhide HB).cells (by omega)
      simp at e1 e2
      obtain ⟨rfl, rfl⟩ := e1
      obtain ⟨rfl, rfl⟩ := e2
      obtain ⟨p0, p1⟩ := hc1 k hlt
      obtain ⟨q0, q1⟩ := hc2 k hlt
      have i0 : (0 : Int) ≤ (k : Int) := by omega
      have i1 : (k : Int) < (c : Int) := by omega
      have HE := hide (fun m => eq_nil (w.drewN m))
      clear hc1 hc2
      go_wp2_with fail
      go_region_held3 (fun w' => w'.cell? ⟨b1, f1 + k * 2 + 1, none⟩ = some (.slice none 0 0) ∧ w'.cell? ⟨b2, f2 + k * 2 + 1, none⟩ = some (.slice none 0 0))
        (go_keep)
        (first
          | (go_at_call 28; refine (unhide HE _).mono ?_; rintro e wa ⟨rfl, m, rfl⟩))
      go_wp2_with fail
      go_quiet (fail)
      go_wp2
      go_roundw
      case rel => exact ⟨k + 1, by omega, by go_num, n + 1 + m + nq, by simp⟩
      case measure => simp [intOf]; omega
    · go_wp2
      go_ret
      exact ⟨rfl, n, rfl⟩

theorem Bools.drewN {w : World} {v : Value} {l : List Bool} (h : Bools w v l) (n : Nat) : Bools (w.drewN n) v l := ⟨h.form, h.cells⟩
theorem Marks.drewN {w : World} {v : Value} {c : Nat} {x : Int} (h : Marks w v c x) (n : Nat) : Marks (w.drewN n) v c x := ⟨h.form, h.cells⟩

set_option maxRecDepth 100000 in
set_option maxHeartbeats 4000000 in
theorem whole_any (w : World) (B : Nat) (b : Bk) (hb : BookAt w B b) (hn : b.n ≤ 2199031644160) (hk : b.kl.length ≤ 4294967295) :
    Calls Try.prog 35 #[.pointer (some ⟨b.D, 0, none⟩)] w fun e w' => e = .returned (.bool true) ∧ ∃ n, w' = w.drewN n := by
  have hblk := hb.blk
  have c0 : w.cell? ⟨b.D, 0, none⟩ = some b.bv := cell_of_blk hblk 0
  have c1 : w.cell? ⟨b.D, 1, none⟩ = some b.vv := cell_of_blk hblk 1
  have c2 : w.cell? ⟨b.D, 2, none⟩ = some b.kv := cell_of_blk hblk 2
  have c3 : w.cell? ⟨b.D, 3, none⟩ = some b.jv := cell_of_blk hblk 3
  have c4 : w.cell? ⟨b.D, 4, none⟩ = some b.wv := cell_of_blk hblk 4
  have c5 : w.cell? ⟨b.D, 5, none⟩ = some b.xv := cell_of_blk hblk 5
  obtain ⟨o0, p0, e0, _⟩ := own_form hb.rb
  obtain ⟨o1, p1, e1, _⟩ := own_form hb.rv
  obtain ⟨o2, p2, e2, _⟩ := own_form hb.rk
  obtain ⟨o3, p3, e3, _⟩ := own_form hb.rj
  obtain ⟨o4, p4, e4, _⟩ := own_form hb.rw
  obtain ⟨o5, p5, e5, _⟩ := own_form hb.rx
  rw [e0] at c0
  rw [e1] at c1
  rw [e2] at c2
  rw [e3] at c3
  rw [e4] at c4
  rw [e5] at c5
  have hDlt := lt_of_block hblk
  have HB := hide hb
  have hl0 : b.bl.length ≤ 4398063288320 := by have := hb.lb; omega
  have hl4 : b.wl.length ≤ 4398063288320 := by have := hb.lw; omega
  have HE0 := hide e0
  have HE1 := hide e1
  have HE2 := hide e2
  have HE3 := hide e3
  have HE4 := hide e4
  have HE5 := hide e5
  clear hb hblk e0 e1 e2 e3 e4 e5
  go_enter Try.func35, Try.ntmps35
  go_wp2_with fail
  go_loopw [3] (fun i wr => ∃ k : Nat, k ≤ b.bl.length ∧ i = .int .i64 k ∧ ∃ n, wr = w.drewN n) (fun i _ => b.bl.length - (intOf i).toNat)
  case atStart => exact ⟨0, Nat.zero_le _, rfl, 0, rfl⟩
  case round =>
    obtain ⟨k, hk1, rfl, n, rfl⟩ := hrel
    by_cases hlt : k < b.bl.length
    · have hb := unhide HB
      have rb := hb.rb
      have rv := hb.rv
      rw [unhide HE0] at rb
      rw [unhide HE1] at rv
      have hlv := hb.lbv
      obtain ⟨g, c, e, -⟩ := rb.form (by omega)
      obtain ⟨g', c', e', -⟩ := rv.form (by omega)
      simp at e e'
      obtain ⟨rfl, rfl⟩ := e
      obtain ⟨rfl, rfl⟩ := e'
      obtain ⟨x, hx⟩ : ∃ x, b.bl[k]? = some x := ⟨_, List.getElem?_eq_getElem hlt⟩
      obtain ⟨y, hy⟩ : ∃ y, b.vl[k]? = some y := ⟨_, List.getElem?_eq_getElem (by omega)⟩
      have d0 := (row_cell rb).2.2 k x hx
      have d1 := (row_cell rv).2.2 k y hy
      obtain ⟨l, r1, r2, r3, _, _⟩ := hb.pb k x y hx hy
      obtain ⟨ox, cx, rfl⟩ := r1.form
      obtain ⟨oy, cy, rfl⟩ := r2.form
      have i0 : (0 : Int) ≤ (k : Int) := by omega
      have i1 : (k : Int) < (b.bl.length : Int) := by omega
      have i2 : (k : Int) < (b.vl.length : Int) := by omega
      have HE := hide (fun m => eqBytes_any (w.drewN m) _ _ _ _ (r1.drewN m) (r2.drewN m) (by unfold maxLen; omega))
      simp only [decide_true] at HE
      clear hb rb rv hlv hx hy r1 r2
      go_wp2_with fail
      go_region_held3 (fun w' => w'.cell? ⟨b.D, 0, none⟩ = some (.slice (some ⟨g, 0, none⟩) b.bl.length p0) ∧ w'.cell? ⟨b.D, 1, none⟩ = some (.slice (some ⟨g', 0, none⟩) b.vl.length p1) ∧ w'.cell? ⟨g, k, none⟩ = some (.slice ox l.length cx) ∧ w'.cell? ⟨g', k, none⟩ = some (.slice oy l.length cy))
        (go_keep)
        (first
          | (go_at_call 28; refine (unhide HE _).mono ?_; rintro e wa ⟨rfl, m, rfl⟩))
      go_wp2
      go_roundw
      case rel => exact ⟨k + 1, by omega, by go_num, n + 1 + m, by simp⟩
      case measure => simp [intOf]; omega
    · go_wp2_with fail
      go_loopw [5] (fun i wr => ∃ k : Nat, k ≤ b.kl.length ∧ i = .int .i64 k ∧ ∃ n, wr = w.drewN n) (fun i _ => b.kl.length - (intOf i).toNat)
      case atStart => exact ⟨0, Nat.zero_le _, rfl, n, rfl⟩
      case round =>
        obtain ⟨k, hk1, rfl, n, rfl⟩ := hrel
        by_cases hlt : k < b.kl.length
        · have hb := unhide HB
          have rb := hb.rk
          have rv := hb.rj
          rw [unhide HE2] at rb
          rw [unhide HE3] at rv
          have hlv := hb.lkj
          obtain ⟨g, c, e, -⟩ := rb.form (by omega)
          obtain ⟨g', c', e', -⟩ := rv.form (by omega)
          simp at e e'
          obtain ⟨rfl, rfl⟩ := e
          obtain ⟨rfl, rfl⟩ := e'
          obtain ⟨x, hx⟩ : ∃ x, b.kl[k]? = some x := ⟨_, List.getElem?_eq_getElem hlt⟩
          obtain ⟨y, hy⟩ : ∃ y, b.jl[k]? = some y := ⟨_, List.getElem?_eq_getElem (by omega)⟩
          have d0 := (row_cell rb).2.2 k x hx
          have d1 := (row_cell rv).2.2 k y hy
          obtain ⟨l, r1, r2, r3, _, _⟩ := hb.pk k x y hx hy
          obtain ⟨ox, cx, rfl⟩ := r1.form
          obtain ⟨oy, cy, rfl⟩ := r2.form
          have i0 : (0 : Int) ≤ (k : Int) := by omega
          have i1 : (k : Int) < (b.kl.length : Int) := by omega
          have i2 : (k : Int) < (b.jl.length : Int) := by omega
          have HE := hide (fun m => eqBools_any (w.drewN m) _ _ _ _ (r1.drewN m) (r2.drewN m) (by unfold maxLen; omega))
          simp only [decide_true] at HE
          clear hb rb rv hlv hx hy r1 r2
          go_wp2_with fail
          go_region_held3 (fun w' => w'.cell? ⟨b.D, 2, none⟩ = some (.slice (some ⟨g, 0, none⟩) b.kl.length p2) ∧ w'.cell? ⟨b.D, 3, none⟩ = some (.slice (some ⟨g', 0, none⟩) b.jl.length p3) ∧ w'.cell? ⟨g, k, none⟩ = some (.slice ox l.length cx) ∧ w'.cell? ⟨g', k, none⟩ = some (.slice oy l.length cy))
            (go_keep)
            (first
              | (go_at_call 60; refine (unhide HE _).mono ?_; rintro e wa ⟨rfl, m, rfl⟩))
          go_wp2
          go_roundw
          case rel => exact ⟨k + 1, by omega, by go_num, n + 1 + m, by simp⟩
          case measure => simp [intOf]; omega
        · go_wp2_with fail
          go_loopw [7] (fun i wr => ∃ k : Nat, k ≤ b.wl.length ∧ i = .int .i64 k ∧ ∃ n, wr = w.drewN n) (fun i _ => b.wl.length - (intOf i).toNat)
          case atStart => exact ⟨0, Nat.zero_le _, rfl, n, rfl⟩
          case round =>
            obtain ⟨k, hk1, rfl, n, rfl⟩ := hrel
            by_cases hlt : k < b.wl.length
            · have hb := unhide HB
              have rb := hb.rw
              have rv := hb.rx
              rw [unhide HE4] at rb
              rw [unhide HE5] at rv
              have hlv := hb.lwx
              obtain ⟨g, c, e, -⟩ := rb.form (by omega)
              obtain ⟨g', c', e', -⟩ := rv.form (by omega)
              simp at e e'
              obtain ⟨rfl, rfl⟩ := e
              obtain ⟨rfl, rfl⟩ := e'
              obtain ⟨x, hx⟩ : ∃ x, b.wl[k]? = some x := ⟨_, List.getElem?_eq_getElem hlt⟩
              obtain ⟨y, hy⟩ : ∃ y, b.xl[k]? = some y := ⟨_, List.getElem?_eq_getElem (by omega)⟩
              have d0 := (row_cell rb).2.2 k x hx
              have d1 := (row_cell rv).2.2 k y hy
              obtain ⟨l, z, r1, r2, r3, _, _⟩ := hb.pw k x y hx hy
              obtain ⟨ox, cx, rfl⟩ := r1.form
              obtain ⟨oy, cy, rfl⟩ := r2.form
              have i0 : (0 : Int) ≤ (k : Int) := by omega
              have i1 : (k : Int) < (b.wl.length : Int) := by omega
              have i2 : (k : Int) < (b.xl.length : Int) := by omega
              have HE := hide (fun m => eqMarks (w.drewN m) _ _ _ _ (r1.drewN m) (r2.drewN m) r3)
              clear hb rb rv hlv hx hy r1 r2
              go_wp2_with fail
              go_region_held3 (fun w' => w'.cell? ⟨b.D, 4, none⟩ = some (.slice (some ⟨g, 0, none⟩) b.wl.length p4) ∧ w'.cell? ⟨b.D, 5, none⟩ = some (.slice (some ⟨g', 0, none⟩) b.xl.length p5) ∧ w'.cell? ⟨g, k, none⟩ = some (.slice ox l cx) ∧ w'.cell? ⟨g', k, none⟩ = some (.slice oy l cy))
                (go_keep)
                (first
                  | (go_at_call 19; refine (unhide HE _).mono ?_; rintro e wa ⟨rfl, m, rfl⟩))
              go_wp2
              go_roundw
              case rel => exact ⟨k + 1, by omega, by go_num, n + 1 + m, by simp⟩
              case measure => simp [intOf]; omega
            · go_wp2
              go_ret
              exact ⟨rfl, n, rfl⟩

end Go.Proofs.Ytjmbcelkhiopeaa
