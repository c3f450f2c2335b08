import Derived.Test.YtklkhegeeglfbaaGreatDoorJzah
namespace Go.Proofs.YtklkhegeeglfbaaGreatDoor
open Go.RowKit Go.Maps

/-- A head appended to a row of heads. -/
theorem append_hdr {w : World} {ops : Array Oper} {rest : List Oper} {o : Oper} {a : Act} {Q : Exit → Act → World → Prop} (t e : TypeId) (ht : Tryz.prog.underlying t = some (.slice e)) (z0 : Value) (hinfo : (Tryz.prog.info? e).map (fun i => (i.zero, i.size, i.bytes)) = some (some z0, 1, 24)) (hz : z0.cells.size = 1) (hgd : o.guard = none) (s x : Operand)
    (ho : o.op = .call { callee := .builtin .append, args := #[s, x], argTypes := #[t, t] }) (base : Nat) (v : Value) (n : Nat) (xs : List Value) (hs : a.eval s = v) (hown : w.ownsRow base e 1 v n xs)
    (ad c : Nat) (u : Value) (hx : a.eval x = .slice (some ⟨ad, 0, none⟩) 1 c) (hx2 : w.cell? ⟨ad, 0, none⟩ = some u) (h1 : u.oneCell' = true) (hl : n + 1 ≤ 4398046511104) (hbase : base ≤ w.heap.size)
    (h : ∀ g cap w', GrewZ w w' base e 1 n 1 v g cap xs [u] → wpList Tryz.prog ops Q rest (a.put o.dst (.slice (some ⟨g, 0, none⟩) (n + 1) cap)) w') : wpList Tryz.prog ops Q (o :: rest) a w := by
  obtain ⟨i, hi, hz0, hz1, hz2⟩ := info_parts hinfo
  refine append_two (P := Tryz.prog) w hgd s x t ho base e i _ 1 24 ht hi hz0 hz1 hz2 hz (by omega) v n xs hs hown _ 1 c [u] hx rfl (fun j u' hj => ?_) (fun u' hu => ?_) (by omega) (by unfold maxLen; omega) (by omega) hbase (fun g cap w' h1 h2 => h g cap w' ⟨h1, h2⟩)
  · cases j with
    | zero => simp at hj; subst hj; simpa [Addr.add] using hx2
    | succ j => simp at hj
  · simp at hu; subst hu; exact h1
theorem own_set1 {w : World} {B n g cap : Nat} {L : Txt} (h : w.ownsRow B 5 1 (.slice (some ⟨g, 0, none⟩) n cap) n (bs L)) (i : Nat) (x : UInt8) : (w.setCell ⟨g, i, none⟩ (.int .u8 (num x))).ownsRow B 5 1 (.slice (some ⟨g, 0, none⟩) n cap) n (bs (L.set i x)) := by
  rw [bs_setO]
  exact (World.ownsRow.stored h i _).1
def markT : Txt := [109, 97, 114, 107]
def moreT : Txt := [109, 111, 114, 101]
def mkV (i : Nat) : ValA := ⟨7, (i : Int), markT⟩
def nkV (i : Nat) : ValA := ⟨8, (i : Int), moreT⟩
def mkF (i : Nat) : FieldA := ⟨markT, (i : Int), false⟩
def nkF (i : Nat) : FieldA := ⟨moreT, (i : Int), false⟩
def mkB (i : Nat) : UInt8 := UInt8.ofNat i
def nkB (i : Nat) : UInt8 := UInt8.ofNat (100 + i)
theorem mkB_num {i : Nat} (h : i < 100) : num (mkB i) = (i : Int) := by
  unfold num mkB
  rw [UInt8.toNat_ofNat']
  omega
theorem nkB_num {i : Nat} (h : i < 100) : num (nkB i) = 100 + (i : Int) := by
  unfold num nkB
  rw [UInt8.toNat_ofNat']
  omega
theorem rep_at {α : Type} {n k : Nat} {x : α} (h : k < n) : (List.replicate n x)[k]? = some x := by rw [List.getElem?_replicate, if_pos h]
theorem full_at {K : Kind} {mk : Nat → K.α} {i k : Nat} {p : List K.α} (h : k < p.length) : (fullZ K mk i p)[k]? = some (mk i) := rep_at h
theorem full_len {K : Kind} {mk : Nat → K.α} {i : Nat} {p : List K.α} : (fullZ K mk i p).length = p.length := by simp [fullZ]
theorem both_at1 {K : Kind} {mk nk : Nat → K.α} {i k : Nat} {p : List K.α} (h : k < p.length) : (fullZ K mk i p ++ List.replicate 64 (nk i))[k]? = some (mk i) := by rw [List.getElem?_append_left (by rw [full_len]; exact h), full_at h]
theorem both_at2 {K : Kind} {mk nk : Nat → K.α} {i k : Nat} {p : List K.α} (h : p.length ≤ k) (h2 : k < p.length + 64) : (fullZ K mk i p ++ List.replicate 64 (nk i))[k]? = some (nk i) := by rw [List.getElem?_append_right (by rw [full_len]; exact h), full_len, rep_at (by omega)]
theorem fcs_at {l : List FieldA} {i : Nat} {x : FieldA} (h : l[i]? = some x) : (fcs l)[i * 3]? = some (str x.name) ∧ (fcs l)[i * 3 + 1]? = some (.int .i64 x.type) ∧ (fcs l)[i * 3 + 2]? = some (.bool x.opt) := by
  have k := fun j hj => flat_get FieldA.cs (fun _ => rfl) l i x j h hj
  exact ⟨k 0 (by omega), k 1 (by omega), k 2 (by omega)⟩
theorem bs_at {l : Txt} {i : Nat} {c : UInt8} (h : l[i]? = some c) : (bs l)[i]? = some (.int .u8 (num c)) := by rw [bs_get, h]; rfl

set_option maxRecDepth 100000 in
set_option maxHeartbeats 8000000 in
theorem apartVals_v (w : World) (B : Nat) (vo : Option Addr) (vc : Nat) (hs : List Value) (ps : List (List kV.α)) (L : List Rowp) (hr : w.ownsRow B 23 1 (.slice vo ps.length vc) ps.length hs) (hb : Sack w B (solos kV hs ps ++ L)) (hB : B ≤ w.heap.size) (hn : ps.length ≤ 100) (hp : ∀ p ∈ ps, p.length ≤ 1073741824) :
    Calls Tryz.prog 53 #[.slice vo ps.length vc] w fun e w' => e = .returned (.bool true) ∧ Keeps (FZ kV w B) w w' := by
  have HM := hide (MkZ.start (K := kV) (mk := mkV) hr hb)
  have HR := hide hr
  have HP := hide hp
  have HB := hide hB
  clear hr hb hp hB
  go_enter Tryz.func53, Tryz.ntmps53
  go_wp2_with fail
  go_loopw [3] (fun iv wr => ∃ (i : Nat) (its : List Rowp), i ≤ ps.length ∧ iv = .int .i64 i ∧ Hid (MkZ kV w wr B (.slice vo ps.length vc) hs ps mkV (upZ i 0 (lenZ ps)) its)) (fun iv _ => ps.length - (intOf iv).toNat)
  case atStart => exact ⟨0, _, Nat.zero_le _, rfl, (unhide HM).same (fun j p _ => by rw [upZ_zero])⟩
  case round =>
    obtain ⟨i, its, hi, rfl, HD⟩ := hrel
    by_cases hlt : i < ps.length
    · obtain ⟨g, p, xo, xc, rfl, hpi, hxi, hxc, hxb⟩ := (unhide HD).round hlt
      have hpl : p.length ≤ 1073741824 := unhide HP p (List.mem_of_getElem? hpi)
      have HPI := hide hpi
      have HXI := hide hxi
      have HXB := hide hxb
      have i1 : (i : Int) < (ps.length : Int) := by omega
      have i0 : (0 : Int) ≤ (i : Int) := by omega
      clear hpi hxi hxb
      go_wp2_with fail
      go_loopw [4] (fun kv wq => ∃ (k : Nat) (its : List Rowp), k ≤ p.length ∧ kv = .int .i64 k ∧ Hid (MkZ kV w wq B (.slice (some ⟨g, 0, none⟩) ps.length vc) hs ps mkV (upZ i k (lenZ ps)) its)) (fun kv _ => p.length - (intOf kv).toNat)
      case atStart => exact ⟨0, _, Nat.zero_le _, rfl, HD⟩
      case round =>
        clear HD
        obtain ⟨k, its2, hk, rfl, HD⟩ := hrel
        have c0 := (unhide HD).cell rfl (unhide HXI)
        by_cases hlk : k < p.length
        · obtain ⟨b, rfl⟩ := unhide HXB (by omega)
          have hbt := (unhide HD).head (unhide HXI) (unhide HPI)
          rw [upZ_self] at hbt
          have o0 := own_open hbt (j := k * 3) (by show _ < p.length * 3; omega)
          have o1 := own_open hbt (j := k * 3 + 1) (by show _ < p.length * 3; omega)
          have o2 := own_open hbt (j := k * 3 + 2) (by show _ < p.length * 3; omega)
          obtain ⟨⟨d0, c1⟩, f1⟩ := o0
          obtain ⟨⟨d1, c2⟩, f2⟩ := o1
          obtain ⟨⟨d2, c3⟩, f3⟩ := o2
          have HPUT := hide ((unhide HD).put (t' := upZ i (k + 1) (lenZ ps)) (unhide HXI) (unhide HPI) (by rw [upZ_self]; exact hlk) (by rw [upZ_self, upZ_self]) (fun j hj => upZ_ne hj) (by rw [upZ_self]; exact own_set3 (B := B) (e := 40) hbt k (mkV i)) ((keeps_put3 _ b _ _ _ _ _ _).mono (fun q _ e => by rw [e]; rfl)))
          rw [upZ_self] at HPUT
          have i2 : (k : Int) < (p.length : Int) := by omega
          have i3 : (0 : Int) ≤ (k : Int) := by omega
          clear hbt
          go_wp2_with fail
          go_roundw
          case rel => exact ⟨k + 1, _, by omega, by go_num, HPUT⟩
          case measure => simp [intOf]; omega
        · have HE := hide ((unhide HD).same (t' := upZ (i + 1) 0 (lenZ ps)) (fun j p' hj => by
            have : k = lenZ ps i := by rw [lenZ_at (unhide HPI)]; omega
            rw [this, upZ_end]))
          go_wp2_with fail
          go_roundw
          case rel => exact ⟨i + 1, _, by omega, by go_num, HE⟩
          case measure => simp [intOf]; omega
    · have hie : i = ps.length := by omega
      have HG := hide (GwZ.start (nk := nkV) (unhide HD) (unhide HR) (fun j p hj => by rw [upZ_below (by rw [hie]; exact get_lt hj), lenZ_at hj]))
      clear HD HM
      have i1 : ¬ (i : Int) < (ps.length : Int) := by omega
      clear hie
      go_wp2_with fail
      go_loopw [5, 6] (fun mv iv wr => ∃ (i : Nat) (ms : List Value) (its : List Rowp), i ≤ ps.length ∧ iv = .int .i64 i ∧ ms.length = i ∧ Hid (GwZ kV w wr B (.slice vo ps.length vc) hs ps mkV nkV (upZ i 0 (fun _ => 64)) mv ms its)) (fun _ iv _ => ps.length - (intOf iv).toNat)
      case atStart => exact ⟨0, [], _, Nat.zero_le _, rfl, rfl, (unhide HG).same (fun j _ => by rw [upZ_zero])⟩
      case round =>
        clear HG i1
        obtain ⟨i, ms, its, hi, rfl, hms, HD⟩ := hrel
        by_cases hlt : i < ps.length
        · obtain ⟨g, p, xo, xc, rfl, hpi, hxi, hti⟩ := (unhide HD).round hlt (upZ_self ..)
          have hpl : p.length ≤ 1073741824 := unhide HP p (List.mem_of_getElem? hpi)
          have c0 := (unhide HD).cell rfl hxi
          have HPI := hide hpi
          have HXI := hide hxi
          have HTI := hide hti
          have i1 : (i : Int) < (ps.length : Int) := by omega
          have i0 : (0 : Int) ≤ (i : Int) := by omega
          clear hpi hxi hti
          go_wp2_with fail
          go_loopw [7, 8] (fun lv kv wq => ∃ (k : Nat) (its : List Rowp), k ≤ 64 ∧ kv = .int .i64 k ∧ Hid (GwZ kV w wq B (.slice (some ⟨g, 0, none⟩) ps.length vc) hs ps mkV nkV (upZ i k (fun _ => 64)) u5 ms its) ∧ Hid (its[i]? = some ⟨kV.e, kV.z, p.length, .slice xo p.length xc, kV.C (fullZ kV mkV i p), k, lv, kV.C (List.replicate k (nkV i))⟩)) (fun _ kv _ => 64 - (intOf kv).toNat)
          case atStart => exact ⟨0, _, Nat.zero_le _, rfl, HD, HTI⟩
          case round =>
            clear HD HTI c0
            obtain ⟨k, its2, hk, rfl, HD, HTI⟩ := hrel
            have HLV : Hid (wr.ownsRow B 40 3 u7 (p.length + k) (kV.C (fullZ kV mkV i p) ++ kV.C (List.replicate k (nkV i)))) := ((unhide HD).sack.all _ (List.mem_of_getElem? (unhide HTI))).m
            have HBW : Hid (B ≤ wr.heap.size) := Nat.le_trans (unhide HB) (unhide HD).keeps.size
            by_cases hlk : k < 64
            · have i2 : (k : Int) < 64 := by omega
              have HFL := hide (val_lit wr 8 (i : Int) moreT)
              go_wp2_with (at_builtin; refine append_val rfl _ _ rfl B u7 (p.length + k) _ rfl (own_alloc (unhide HLV) _) wr.heap.size 1 (nkV i) rfl (unhide HFL) (by omega) (Nat.le_trans (unhide HBW) (by simp)) ?_; intro g2 cap2 w3 HG)
              go_roundw
              case rel =>
                have := (unhide HD).grow (u' := upZ i (k + 1) (fun _ => 64)) (unhide HXI) (unhide HPI) (unhide HTI) (by omega) (by rw [upZ_self]) (fun j hj => upZ_ne hj) rfl HG
                exact ⟨k + 1, _, by omega, by go_num, this.1, this.2⟩
              case measure => simp [intOf]; omega
            · obtain rfl : k = 64 := by omega
              obtain ⟨lo, lc, rfl⟩ := (rowAt_own (unhide HLV)).form
              have HMR : Hid (wr.ownsRow w.heap.size 23 1 u5 ms.length ms) := (unhide HD).mrow
              have HWW : Hid (w.heap.size ≤ wr.heap.size) := (unhide HD).keeps.size
              go_wp2_with (at_builtin; refine append_hdr 42 23 (by kernel_rfl) (.slice none 0 0) (by kernel_rfl) rfl rfl _ _ rfl w.heap.size u5 ms.length ms rfl (own_alloc (unhide HMR) _) wr.heap.size 1 (.slice lo (p.length + 64) lc) rfl (by rw [cell_of_blk (heap_alloc_new wr _)]; rfl) rfl (by omega) (Nat.le_trans (unhide HWW) (by simp)) ?_; intro g2 cap2 w3 HG)
              go_roundw
              case rel =>
                have := ((unhide HD).more (unhide HTI) hms HG (unhide HB)).same (u' := upZ (i + 1) 0 (fun _ => 64)) (fun j _ => upZ_end i (fun _ => 64) j)
                rw [hms] at this
                exact ⟨i + 1, _, _, by omega, by go_num, (by rw [List.length_append, hms]; rfl), this⟩
              case measure => simp [intOf]; omega
        · obtain rfl : i = ps.length := by omega
          have i1 : ¬ (ps.length : Int) < (ps.length : Int) := by omega
          have HG := HD
          have HMS := hide hms
          clear HD hms
          go_wp2_with fail
          go_loopw [9] (fun iv wq => ∃ i : Nat, i ≤ ps.length ∧ iv = .int .i64 i ∧ ∃ n, wq = wr.drewN n) (fun iv _ => ps.length - (intOf iv).toNat)
          case atStart => exact ⟨0, Nat.zero_le _, rfl, 0, rfl⟩
          case round =>
            rename_i wz _
            obtain ⟨i, hi, rfl, n, rfl⟩ := hrel
            by_cases hlt : i < ps.length
            · obtain ⟨g, _, e, _, _⟩ := (unhide HG).row.form (by omega)
              simp at e
              obtain ⟨rfl, rfl⟩ := e
              obtain ⟨p, hpi⟩ : ∃ p, ps[i]? = some p := ⟨_, List.getElem?_eq_getElem hlt⟩
              obtain ⟨x, hxi⟩ : ∃ x, hs[i]? = some x := ⟨_, List.getElem?_eq_getElem (by rw [(unhide HG).lens]; exact hlt)⟩
              have hms := unhide HMS
              obtain ⟨mg, mc, rfl, _, _⟩ := (unhide HG).mrow.form (by omega)
              obtain ⟨xo, xc, yg, yc, rfl, hmi, hxc, hyc, hx, hy⟩ := (unhide HG).ends hxi hpi (upZ_below hlt) (by omega)
              have c0 := (unhide HG).cell rfl hxi
              have c1 := own_at (unhide HG).mrow hmi
              have hpl : p.length ≤ 1073741824 := unhide HP p (List.mem_of_getElem? hpi)
              have HX := hide hx
              have HY := hide hy
              have i1 : (i : Int) < (ps.length : Int) := by omega
              have i0 : (0 : Int) ≤ (i : Int) := by omega
              have i3 : (i : Int) < (ms.length : Int) := by omega
              clear hx hy hmi hxi hpi hms
              go_wp2_with fail
              go_loopw [10] (fun kv wq => ∃ k n : Nat, k ≤ p.length + 64 ∧ kv = .int .i64 k ∧ wq = wr.drewN n) (fun kv _ => p.length + 64 - (intOf kv).toNat)
              case atStart => exact ⟨0, n, Nat.zero_le _, rfl, rfl⟩
              case round =>
                obtain ⟨k, n, hk, rfl, rfl⟩ := hrel
                have k0 : (0 : Int) ≤ (k : Int) := by omega
                by_cases hlk : k < p.length
                · obtain ⟨b, _, e, _, _⟩ := (unhide HX).form (by omega)
                  simp at e
                  obtain ⟨rfl, rfl⟩ := e
                  obtain ⟨a0, a1, a2⟩ := vcs_at (both_at1 (K := kV) (mk := mkV) (nk := nkV) (i := i) hlk)
                  have d0 := own_at (unhide HY) a0
                  have d1 := own_at (unhide HY) a1
                  have d2 := own_at (unhide HY) a2
                  obtain ⟨b0, b1, b2⟩ := vcs_at (full_at (K := kV) (mk := mkV) (i := i) hlk)
                  have e0 := own_at (unhide HX) b0
                  have e1 := own_at (unhide HX) b1
                  have e2 := own_at (unhide HX) b2
                  unfold mkV at d0 d1 d2 e0 e1 e2
                  simp only at d0 d1 d2 e0 e1 e2
                  clear a0 a1 a2 b0 b1 b2
                  have k1 : (k : Int) < (p.length : Int) := by omega
                  have k2 : (k : Int) < (p.length : Int) + 64 := by omega
                  go_wp2_with fail
                  go_quiet (fail)
                  go_wp2_with fail
                  go_roundw
                  case rel => exact ⟨k + 1, n + nq, by omega, by go_num, by simp⟩
                  case measure => simp [intOf]; omega
                by_cases hlk2 : k < p.length + 64
                · 
                  obtain ⟨a0, a1, a2⟩ := vcs_at (both_at2 (K := kV) (mk := mkV) (nk := nkV) (i := i) (Nat.le_of_not_lt hlk) hlk2)
                  have d0 := own_at (unhide HY) a0
                  have d1 := own_at (unhide HY) a1
                  have d2 := own_at (unhide HY) a2
                  unfold nkV at d0 d1 d2
                  simp only at d0 d1 d2
                  clear a0 a1 a2
                  have k1 : ¬ (k : Int) < (p.length : Int) := by omega
                  have k2 : (k : Int) < (p.length : Int) + 64 := by omega
                  go_wp2_with fail
                  go_quiet (fail)
                  go_wp2_with fail
                  go_roundw
                  case rel => exact ⟨k + 1, n + nq, by omega, by go_num, by simp⟩
                  case measure => simp [intOf]; omega
                · have k2 : ¬ (k : Int) < (p.length : Int) + 64 := by omega
                  go_wp2_with fail
                  go_roundw
                  case rel => exact ⟨i + 1, by omega, by go_num, n, rfl⟩
                  case measure => simp [intOf]; omega
            · have i1 : ¬ (i : Int) < (ps.length : Int) := by omega
              go_wp2_with fail
              go_ret
              exact ⟨rfl, (unhide HG).keeps.trans (keeps_drewN _ n).any⟩
end Go.Proofs.YtklkhegeeglfbaaGreatDoor
