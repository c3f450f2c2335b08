import Derived.Test.YtijfnlfgehcpaaaGreatDoorJbe
namespace Go.Proofs.YtijfnlfgehcpaaaGreatDoor
open Go.RowKit Go.Maps

set_option maxRecDepth 100000 in
set_option maxHeartbeats 8000000 in
/-- Two programs, one behind the other. -/
theorem both_v (B : Nat) (p q : SL) (hps : p.size ≤ 4294967294) (hqs : q.size ≤ 4294967294) (pv qv : Value) (w : World) (hB : B ≤ w.heap.size) (hp : SlS (argZ B) w 0 pv p) (hq : SlS (argZ B) w 0 qv q) :
    Calls Tryz.prog 21 #[pv, qv] w fun e w' => ∃ ao c, e = .returned (.slice ao (p.app q).len c) ∧ SlS (argZ w'.heap.size) w' 0 (.slice ao (p.app q).len c) (p.app q) ∧ Keeps (fun _ => False) w w' := by
  have hpl : p.len ≤ 4294967294 := Nat.le_trans (SL.len_le p) hps
  have hql : q.len ≤ 4294967294 := Nat.le_trans (SL.len_le q) hqs
  obtain ⟨i0, hi, hz0, hz1, hz2⟩ := info_parts Tryz.info71
  obtain ⟨pao, pcap, pb, poff, rfl, hpcap, hpa, hpx⟩ := hp.open
  obtain ⟨qao, qcap, qb, qoff, rfl, hqcap, hqa, hqx⟩ := hq.open
  have HpX := hide hpx
  have HpA := hide hpa
  have HqX := hide hqx
  have HqA := hide hqa
  clear hp hq hpx hpa hqx hqa hps hqs
  go_enter Tryz.func21, Tryz.ntmps21
  go_wp2_with fail
  go_loopw [5, 6] (fun o i wr => ∃ (pre rest : SL) (k : Nat) (xs : List Value), i = .int .i64 k ∧ p = pre.app rest ∧ k = pre.len ∧ wr.ownsRow w.heap.size 71 5 o k xs ∧ SsIn (argZ B) wr pre xs ∧ Keeps (fun _ => False) w wr ∧ StIn (argZ B) w rest pb (poff + k * 5)) (fun _ i _ => p.len - (intOf i).toNat)
  case atStart => exact ⟨.nil, p, 0, [], rfl, rfl, rfl, World.ownsRow_nil w w.heap.size 71 5, rfl, Keeps.refl _ _, by simpa using unhide HpX⟩
  case round =>
    obtain ⟨pre, rest, k, xs, rfl, happ, hkp, hown, hss, hkeep, hr⟩ := hrel
    obtain ⟨oo, oc, rfl⟩ := (rowAt_own hown).form
    have hll := congrArg SL.len happ
    rw [SL.len_app] at hll
    have HO := hide hown
    have HSS := hide hss
    have HK := hide hkeep
    cases rest with
    | cons op f x t el rest =>
      obtain ⟨h1, h2, h3, h4, ⟨xv, h5, hxs⟩, ⟨tao, tcap, h6, h7, h8⟩, ⟨eao, ecap, j6, j7, j8⟩, h9⟩ := hr
      simp only [SL.len] at hll
      obtain ⟨xao, xcap, rfl, hxl⟩ := hxs.head
      obtain ⟨rfl, hp'⟩ := (unhide HpA) (by omega)
      have HXS : Hid (SlE (argZ B) w pb (.slice xao x.len xcap) x) := hxs
      have HTS : Hid (SlS (argZ B) w pb (.slice tao t.len tcap) t) := ⟨tao, tcap, rfl, h7, h8⟩
      have HES : Hid (SlS (argZ B) w pb (.slice eao el.len ecap) el) := ⟨eao, ecap, rfl, j7, j8⟩
      have HR := hide h9
      have i1 : (k : Int) < (p.len : Int) := by omega
      have ix0 : (0 : Int) ≤ (k : Int) := by omega
      have q0 := (hkeep.cell h1 id).trans h3
      have q1 := (hkeep.cell h1 id).trans h4
      have q2 := (hkeep.cell h1 id).trans h5
      have q3 := (hkeep.cell h1 id).trans h6
      have q4 := (hkeep.cell h1 id).trans j6
      have HNB := hide (heap_alloc_new wr (.cells #[.int .i64 op, str f, .slice xao x.len xcap, .slice tao t.len tcap, .slice eao el.len ecap] 71))
      have HOX := hide (ownsRow_kept hown ((Keeps.refl (fun _ => False) wr).alloc (.cells #[.int .i64 op, str f, .slice xao x.len xcap, .slice tao t.len tcap, .slice eao el.len ecap] 71)) (fun _ _ => id))
      have HB0 : Hid (w.heap.size ≤ wr.heap.size) := hkeep.size
      have HKP := hide hkp
      have HAPP := hide happ
      clear hown hss hkeep h1 h2 h3 h4 h5 h6 h8 h9 j6 j8 happ hxs hkp
      go_wp2_with (at_builtin; refine wpList_append_lies _ rfl _ _ _ rfl w.heap.size 71 i0 _ 5 96 Tryz.underlying28 hi hz0 hz1 hz2 rfl (by omega) (.slice oo k oc) (k) xs rfl (unhide HOX) ⟨wr.heap.size, 0, none⟩ 1 1 [.int .i64 op, str f, .slice xao x.len xcap, .slice tao t.len tcap, .slice eao el.len ecap] rfl rfl (World.news_of_block (cs := #[.int .i64 op, str f, .slice xao x.len xcap, .slice tao t.len tcap, .slice eao el.len ecap]) (t := 71) (fr := (0, 0)) (unhide HNB)) (by simp [Value.oneCell']) (by omega) (by unfold maxLen; omega) (by omega) (by have := unhide HB0; simp; omega) (wr.heap.size + 1) (by simp) ?_; intro g6 c6 w6 hown6 hgrow _ _; have HO6 := hide hown6; have HGR := hide hgrow; clear hown6 hgrow)
      go_roundw
      case rel =>
        have hF : ∀ q, w.heap.size ≤ q → B ≤ q := fun q h => Nat.le_trans hB h
        have kr6 : Keeps (fun q => w.heap.size ≤ q) wr w6 := ((Keeps.refl _ wr).alloc _).grown (unhide HGR) (fun q e _ => ((unhide HO).lt q e).1)
        have kw6 : Keeps (fun q => w.heap.size ≤ q) w w6 := (unhide HK).any.trans kr6
        have s1 := (unhide HSS).argKeep kr6 hF
        have s2 : SsIn (argZ B) w6 (.cons op f x t el .nil) [.int .i64 op, str f, .slice xao x.len xcap, .slice tao t.len tcap, .slice eao el.len ecap] := ⟨_, _, _, [], rfl, ((unhide HXS).argKeep kw6 hF).anyUp 0, ((unhide HTS).argKeep kw6 hF).anyUp 0, ((unhide HES).argKeep kw6 hF).anyUp 0, rfl⟩
        refine ⟨pre.app (.cons op f x t el .nil), rest, k + 1, by go_num, by rw [app_oneS]; exact unhide HAPP, by rw [SL.len_app, unhide HKP]; rfl, _, unhide HO6, s1.app s2, kw6.mono (fun q hq e => by have e' : w.heap.size ≤ q := e; omega), ?_⟩
        rw [show poff + (k + 1) * 5 = poff + k * 5 + 5 by omega]
        exact unhide HR
      case measure => simp [intOf]; omega
    | nil =>
      rw [SL.app_nil] at happ
      subst happ
      simp only [SL.len, Nat.add_zero] at hll
      have i1 : ¬ (k : Int) < (p.len : Int) := by omega
      subst hkp
      have HN : Hid (p.len = p.len) := rfl
      clear hown hss hkeep hr hll HN
      go_wp2_with fail
      go_loopw [5, 7] (fun o i wr => ∃ (pre rest : SL) (k : Nat) (xs : List Value), i = .int .i64 k ∧ q = pre.app rest ∧ k = pre.len ∧ wr.ownsRow w.heap.size 71 5 o (p.len + k) xs ∧ SsIn (argZ B) wr (p.app pre) xs ∧ Keeps (fun _ => False) w wr ∧ StIn (argZ B) w rest qb (qoff + k * 5)) (fun _ i _ => q.len - (intOf i).toNat)
      case atStart => exact ⟨.nil, q, 0, xs, rfl, rfl, rfl, unhide HO, by rw [SL.app_nil]; exact unhide HSS, unhide HK, by simpa using unhide HqX⟩
      case round =>
        clear HO HSS HK i1
        obtain ⟨pre, rest, k, xs, rfl, happ, hkp, hown, hss, hkeep, hr⟩ := hrel
        obtain ⟨oo, oc, rfl⟩ := (rowAt_own hown).form
        have hll := congrArg SL.len happ
        rw [SL.len_app] at hll
        have HO := hide hown
        have HSS := hide hss
        have HK := hide hkeep
        cases rest with
        | cons op f x t el rest =>
          obtain ⟨h1, h2, h3, h4, ⟨xv, h5, hxs⟩, ⟨tao, tcap, h6, h7, h8⟩, ⟨eao, ecap, j6, j7, j8⟩, h9⟩ := hr
          simp only [SL.len] at hll
          obtain ⟨xao, xcap, rfl, hxl⟩ := hxs.head
          obtain ⟨rfl, hq'⟩ := (unhide HqA) (by omega)
          have HXS : Hid (SlE (argZ B) w qb (.slice xao x.len xcap) x) := hxs
          have HTS : Hid (SlS (argZ B) w qb (.slice tao t.len tcap) t) := ⟨tao, tcap, rfl, h7, h8⟩
          have HES : Hid (SlS (argZ B) w qb (.slice eao el.len ecap) el) := ⟨eao, ecap, rfl, j7, j8⟩
          have HR := hide h9
          have i1 : (k : Int) < (q.len : Int) := by omega
          have ix0 : (0 : Int) ≤ (k : Int) := by omega
          have q0 := (hkeep.cell h1 id).trans h3
          have q1 := (hkeep.cell h1 id).trans h4
          have q2 := (hkeep.cell h1 id).trans h5
          have q3 := (hkeep.cell h1 id).trans h6
          have q4 := (hkeep.cell h1 id).trans j6
          have HNB := hide (heap_alloc_new wr (.cells #[.int .i64 op, str f, .slice xao x.len xcap, .slice tao t.len tcap, .slice eao el.len ecap] 71))
          have HOX := hide (ownsRow_kept hown ((Keeps.refl (fun _ => False) wr).alloc (.cells #[.int .i64 op, str f, .slice xao x.len xcap, .slice tao t.len tcap, .slice eao el.len ecap] 71)) (fun _ _ => id))
          have HB0 : Hid (w.heap.size ≤ wr.heap.size) := hkeep.size
          have HKP := hide hkp
          have HAPP := hide happ
          clear hown hss hkeep h1 h2 h3 h4 h5 h6 h8 h9 j6 j8 happ hxs hkp
          go_wp2_with (at_builtin; refine wpList_append_lies _ rfl _ _ _ rfl w.heap.size 71 i0 _ 5 96 Tryz.underlying28 hi hz0 hz1 hz2 rfl (by omega) (.slice oo (p.len + k) oc) (p.len + k) xs rfl (unhide HOX) ⟨wr.heap.size, 0, none⟩ 1 1 [.int .i64 op, str f, .slice xao x.len xcap, .slice tao t.len tcap, .slice eao el.len ecap] rfl rfl (World.news_of_block (cs := #[.int .i64 op, str f, .slice xao x.len xcap, .slice tao t.len tcap, .slice eao el.len ecap]) (t := 71) (fr := (0, 0)) (unhide HNB)) (by simp [Value.oneCell']) (by omega) (by unfold maxLen; omega) (by omega) (by have := unhide HB0; simp; omega) (wr.heap.size + 1) (by simp) ?_; intro g6 c6 w6 hown6 hgrow _ _; have HO6 := hide hown6; have HGR := hide hgrow; clear hown6 hgrow)
          go_roundw
          case rel =>
            have hF : ∀ q, w.heap.size ≤ q → B ≤ q := fun q h => Nat.le_trans hB h
            have kr6 : Keeps (fun q => w.heap.size ≤ q) wr w6 := ((Keeps.refl _ wr).alloc _).grown (unhide HGR) (fun q e _ => ((unhide HO).lt q e).1)
            have kw6 : Keeps (fun q => w.heap.size ≤ q) w w6 := (unhide HK).any.trans kr6
            have s1 := (unhide HSS).argKeep kr6 hF
            have s2 : SsIn (argZ B) w6 (.cons op f x t el .nil) [.int .i64 op, str f, .slice xao x.len xcap, .slice tao t.len tcap, .slice eao el.len ecap] := ⟨_, _, _, [], rfl, ((unhide HXS).argKeep kw6 hF).anyUp 0, ((unhide HTS).argKeep kw6 hF).anyUp 0, ((unhide HES).argKeep kw6 hF).anyUp 0, rfl⟩
            refine ⟨pre.app (.cons op f x t el .nil), rest, k + 1, by go_num, by rw [app_oneS]; exact unhide HAPP, by rw [SL.len_app, unhide HKP]; rfl, _, by have := unhide HO6; rw [Nat.add_assoc] at this; exact this, (by have := s1.app s2; rw [SL.app_assoc] at this; exact this), kw6.mono (fun q hq e => by have e' : w.heap.size ≤ q := e; omega), ?_⟩
            rw [show qoff + (k + 1) * 5 = qoff + k * 5 + 5 by omega]
            exact unhide HR
          case measure => simp [intOf]; omega
        | nil =>
          rw [SL.app_nil] at happ
          subst happ
          simp only [SL.len, Nat.add_zero] at hll
          have i1 : ¬ (k : Int) < (q.len : Int) := by omega
          have hkq : k = q.len := by omega
          have HKQ := hide hkq
          clear hown hss hkeep hr hll hkp hkq
          go_wp2_with fail
          go_ret
          have hkq := unhide HKQ
          subst hkq
          have hle : p.len + q.len = (p.app q).len := (SL.len_app p q).symm
          have hown := unhide HO
          rw [hle] at hown ⊢
          refine ⟨oo, oc, rfl, ⟨oo, oc, rfl, (rowAt_own hown).room _ _ _ rfl, fun h0 => ?_⟩, unhide HK⟩
          obtain ⟨g, goff, gc, e, hg, hgc⟩ := (rowAt_own hown).cells (by omega)
          simp at e
          obtain ⟨rfl, rfl⟩ := e
          exact ⟨g, goff, rfl, trivial, (unhide HSS).stIn hg (Nat.le_refl _) hgc⟩
end Go.Proofs.YtijfnlfgehcpaaaGreatDoor
