import Derived.Test.YtjhppnecadnekaaDoorJt
namespace Go.Proofs.YtjhppnecadnekaaDoor
open Go.RowKit Go.Maps

set_option maxRecDepth 100000 in
set_option maxHeartbeats 8000000 in
/-- Two programs, one behind the other. -/
theorem joined_v (B : Nat) (p q : SL) (hps : p.size ≤ 4294967294) (hqs : q.size ≤ 4294967294) (pv qv : Value) (w : World) (hB : B ≤ w.heap.size) (hp : SlS (argZ B) w 0 pv p) (hq : SlS (argZ B) w 0 qv q) :
    Calls Tryd.prog 14 #[pv, qv] w fun e w' => ∃ ao c, e = .returned (.slice ao (p.app q).len c) ∧ SlS (argZ w'.heap.size) w' 0 (.slice ao (p.app q).len c) (p.app q) ∧ Keeps (fun _ => False) w w' := by
  have hpl : p.len ≤ 4294967294 := Nat.le_trans (SL.len_le p) hps
  have hql : q.len ≤ 4294967294 := Nat.le_trans (SL.len_le q) hqs
  obtain ⟨i0, hi, hz0, hz1, hz2⟩ := info_parts Tryd.info64
  obtain ⟨pao, pcap, pb, poff, rfl, hpcap, hpa, hpx⟩ := hp.open
  obtain ⟨qao, qcap, qb, qoff, rfl, hqcap, hqa, hqx⟩ := hq.open
  have HpX := hide hpx
  have HpA := hide hpa
  have HqX := hide hqx
  have HqA := hide hqa
  clear hp hq hpx hpa hqx hqa hps hqs
  go_enter Tryd.func14, Tryd.ntmps14
  go_wp2_with fail
  go_loopw [5, 6] (fun o i wr => ∃ (pre rest : SL) (k : Nat) (xs : List Value), i = .int .i64 k ∧ p = pre.app rest ∧ k = pre.len ∧ wr.ownsRow w.heap.size 64 5 o k xs ∧ SsIn (argZ B) wr pre xs ∧ Keeps (fun _ => False) w wr ∧ StIn (argZ B) w rest pb (poff + k * 5)) (fun _ i _ => p.len - (intOf i).toNat)
  case atStart => exact ⟨.nil, p, 0, [], rfl, rfl, rfl, World.ownsRow_nil w w.heap.size 64 5, rfl, Keeps.refl _ _, by simpa using unhide HpX⟩
  case round =>
    obtain ⟨pre, rest, k, xs, rfl, happ, hkp, hown, hss, hkeep, hr⟩ := hrel
    obtain ⟨oo, oc, rfl⟩ := (rowAt_own hown).form
    have hll := congrArg SL.len happ
    rw [SL.len_app] at hll
    have HO := hide hown
    have HSS := hide hss
    have HK := hide hkeep
    cases rest with
    | cons op f x t el rest =>
      obtain ⟨h1, h2, h3, h4, ⟨xv, h5, hxs⟩, ⟨tao, tcap, h6, h7, h8⟩, ⟨eao, ecap, j6, j7, j8⟩, h9⟩ := hr
      simp only [SL.len] at hll
      obtain ⟨xao, xcap, rfl, hxl⟩ := hxs.head
      obtain ⟨rfl, hp'⟩ := (unhide HpA) (by omega)
      have HXS : Hid (SlE (argZ B) w pb (.slice xao x.len xcap) x) := hxs
      have HTS : Hid (SlS (argZ B) w pb (.slice tao t.len tcap) t) := ⟨tao, tcap, rfl, h7, h8⟩
      have HES : Hid (SlS (argZ B) w pb (.slice eao el.len ecap) el) := ⟨eao, ecap, rfl, j7, j8⟩
      have HR := hide h9
      have i1 : (k : Int) < (p.len : Int) := by omega
      have ix0 : (0 : Int) ≤ (k : Int) := by omega
      have q0 := (hkeep.cell h1 id).trans h3
      have q1 := (hkeep.cell h1 id).trans h4
      have q2 := (hkeep.cell h1 id).trans h5
      have q3 := (hkeep.cell h1 id).trans h6
      have q4 := (hkeep.cell h1 id).trans j6
      have HNB := hide (heap_alloc_new wr (.cells #[.int .i64 op, str f, .slice xao x.len xcap, .slice tao t.len tcap, .slice eao el.len ecap] 64))
      have HOX := hide (ownsRow_kept hown ((Keeps.refl (fun _ => False) wr).alloc (.cells #[.int .i64 op, str f, .slice xao x.len xcap, .slice tao t.len tcap, .slice eao el.len ecap] 64)) (fun _ _ => id))
      have HB0 : Hid (w.heap.size ≤ wr.heap.size) := hkeep.size
      have HKP := hide hkp
      have HAPP := hide happ
      clear hown hss hkeep h1 h2 h3 h4 h5 h6 h8 h9 j6 j8 happ hxs hkp
      go_wp2_with (at_builtin; refine wpList_append_lies _ rfl _ _ _ rfl w.heap.size 64 i0 _ 5 96 Tryd.underlying25 hi hz0 hz1 hz2 rfl (by omega) (.slice oo k oc) (k) xs rfl (unhide HOX) ⟨wr.heap.size, 0, none⟩ 1 1 [.int .i64 op, str f, .slice xao x.len xcap, .slice tao t.len tcap, .slice eao el.len ecap] rfl rfl (World.news_of_block (cs := #[.int .i64 op, str f, .slice xao x.len xcap, .slice tao t.len tcap, .slice eao el.len ecap]) (t := 64) (fr := (0, 0)) (unhide HNB)) (by simp [Value.oneCell']) (by omega) (by unfold maxLen; omega) (by omega) (by have := unhide HB0; simp; omega) (wr.heap.size + 1) (by simp) ?_; intro g6 c6 w6 hown6 hgrow _ _; have HO6 := hide hown6; have HGR := hide hgrow; clear hown6 hgrow)
      go_roundw
      case rel =>
        have hF : ∀ q, w.heap.size ≤ q → B ≤ q := fun q h => Nat.le_trans hB h
        have kr6 : Keeps (fun q => w.heap.size ≤ q) wr w6 := ((Keeps.refl _ wr).alloc _).grown (unhide HGR) (fun q e _ => ((unhide HO).lt q e).1)
        have kw6 : Keeps (fun q => w.heap.size ≤ q) w w6 := (unhide HK).any.trans kr6
        have s1 := (unhide HSS).argKeep kr6 hF
        have s2 : SsIn (argZ B) w6 (.cons op f x t el .nil) [.int .i64 op, str f, .slice xao x.len xcap, .slice tao t.len tcap, .slice eao el.len ecap] := ⟨_, _, _, [], rfl, ((unhide HXS).argKeep kw6 hF).anyUp 0, ((unhide HTS).argKeep kw6 hF).anyUp 0, ((unhide HES).argKeep kw6 hF).anyUp 0, rfl⟩
        refine ⟨pre.app (.cons op f x t el .nil), rest, k + 1, by go_num, by rw [app_oneS]; exact unhide HAPP, by rw [SL.len_app, unhide HKP]; rfl, _, unhide HO6, s1.app s2, kw6.mono (fun q hq e => by have e' : w.heap.size ≤ q := e; omega), ?_⟩
        rw [show poff + (k + 1) * 5 = poff + k * 5 + 5 by omega]
        exact unhide HR
      case measure => simp [intOf]; omega
    | nil =>
      rw [SL.app_nil] at happ
      subst happ
      simp only [SL.len, Nat.add_zero] at hll
      have i1 : ¬ (k : Int) < (p.len : Int) := by omega
      subst hkp
      have HN : Hid (p.len = p.len) := rfl
      clear hown hss hkeep hr hll HN
      go_wp2_with fail
      go_loopw [5, 7] (fun o i wr => ∃ (pre rest : SL) (k : Nat) (xs : List Value), i = .int .i64 k ∧ q = pre.app rest ∧ k = pre.len ∧ wr.ownsRow w.heap.size 64 5 o (p.len + k) xs ∧ SsIn (argZ B) wr (p.app pre) xs ∧ Keeps (fun _ => False) w wr ∧ StIn (argZ B) w rest qb (qoff + k * 5)) (fun _ i _ => q.len - (intOf i).toNat)
      case atStart => exact ⟨.nil, q, 0, xs, rfl, rfl, rfl, unhide HO, by rw [SL.app_nil]; exact unhide HSS, unhide HK, by simpa using unhide HqX⟩
      case round =>
        clear HO HSS HK i1
        obtain ⟨pre, rest, k, xs, rfl, happ, hkp, hown, hss, hkeep, hr⟩ := hrel
        obtain ⟨oo, oc, rfl⟩ := (rowAt_own hown).form
        have hll := congrArg SL.len happ
        rw [SL.len_app] at hll
        have HO := hide hown
        have HSS := hide hss
        have HK := hide hkeep
        cases rest with
        | cons op f x t el rest =>
          obtain ⟨h1, h2, h3, h4, ⟨xv, h5, hxs⟩, ⟨tao, tcap, h6, h7, h8⟩, ⟨eao, ecap, j6, j7, j8⟩, h9⟩ := hr
          simp only [SL.len] at hll
          obtain ⟨xao, xcap, rfl, hxl⟩ := hxs.head
          obtain ⟨rfl, hq'⟩ := (unhide HqA) (by omega)
          have HXS : Hid (SlE (argZ B) w qb (.slice xao x.len xcap) x) := hxs
          have HTS : Hid (SlS (argZ B) w qb (.slice tao t.len tcap) t) := ⟨tao, tcap, rfl, h7, h8⟩
          have HES : Hid (SlS (argZ B) w qb (.slice eao el.len ecap) el) := ⟨eao, ecap, rfl, j7, j8⟩
          have HR := hide h9
          have i1 : (k : Int) < (q.len : Int) := by omega
          have ix0 : (0 : Int) ≤ (k : Int) := by omega
          have q0 := (hkeep.cell h1 id).trans h3
          have q1 := (hkeep.cell h1 id).trans h4
          have q2 := (hkeep.cell h1 id).trans h5
          have q3 := (hkeep.cell h1 id).trans h6
          have q4 := (hkeep.cell h1 id).trans j6
          have HNB := hide (heap_alloc_new wr (.cells #[.int .i64 op, str f, .slice xao x.len xcap, .slice tao t.len tcap, .slice eao el.len ecap] 64))
          have HOX := hide (ownsRow_kept hown ((Keeps.refl (fun _ => False) wr).alloc (.cells #[.int .i64 op, str f, .slice xao x.len xcap, .slice tao t.len tcap, .slice eao el.len ecap] 64)) (fun _ _ => id))
          have HB0 : Hid (w.heap.size ≤ wr.heap.size) := hkeep.size
          have HKP := hide hkp
          have HAPP := hide happ
          clear hown hss hkeep h1 h2 h3 h4 h5 h6 h8 h9 j6 j8 happ hxs hkp
          go_wp2_with (at_builtin; refine wpList_append_lies _ rfl _ _ _ rfl w.heap.size 64 i0 _ 5 96 Tryd.underlying25 hi hz0 hz1 hz2 rfl (by omega) (.slice oo (p.len + k) oc) (p.len + k) xs rfl (unhide HOX) ⟨wr.heap.size, 0, none⟩ 1 1 [.int .i64 op, str f, .slice xao x.len xcap, .slice tao t.len tcap, .slice eao el.len ecap] rfl rfl (World.news_of_block (cs := #[.int .i64 op, str f, .slice xao x.len xcap, .slice tao t.len tcap, .slice eao el.len ecap]) (t := 64) (fr := (0, 0)) (unhide HNB)) (by simp [Value.oneCell']) (by omega) (by unfold maxLen; omega) (by omega) (by have := unhide HB0; simp; omega) (wr.heap.size + 1) (by simp) ?_; intro g6 c6 w6 hown6 hgrow _ _; have HO6 := hide hown6; have HGR := hide hgrow; clear hown6 hgrow)
          go_roundw
          case rel =>
            have hF : ∀ q, w.heap.size ≤ q → B ≤ q := fun q h => Nat.le_trans hB h
            have kr6 : Keeps (fun q => w.heap.size ≤ q) wr w6 := ((Keeps.refl _ wr).alloc _).grown (unhide HGR) (fun q e _ => ((unhide HO).lt q e).1)
            have kw6 : Keeps (fun q => w.heap.size ≤ q) w w6 := (unhide HK).any.trans kr6
            have s1 := (unhide HSS).argKeep kr6 hF
            have s2 : SsIn (argZ B) w6 (.cons op f x t el .nil) [.int .i64 op, str f, .slice xao x.len xcap, .slice tao t.len tcap, .slice eao el.len ecap] := ⟨_, _, _, [], rfl, ((unhide HXS).argKeep kw6 hF).anyUp 0, ((unhide HTS).argKeep kw6 hF).anyUp 0, ((unhide HES).argKeep kw6 hF).anyUp 0, rfl⟩
            refine ⟨pre.app (.cons op f x t el .nil), rest, k + 1, by go_num, by rw [app_oneS]; exact unhide HAPP, by rw [SL.len_app, unhide HKP]; rfl, _, by have := unhide HO6; rw [Nat.add_assoc] at this; exact this, (by have := s1.app s2; rw [SL.app_assoc] at this; exact this), kw6.mono (fun q hq e => by have e' : w.heap.size ≤ q := e; omega), ?_⟩
            rw [show qoff + (k + 1) * 5 = qoff + k * 5 + 5 by omega]
            exact unhide HR
          case measure => simp [intOf]; omega
        | nil =>
          rw [SL.app_nil] at happ
          subst happ
          simp only [SL.len, Nat.add_zero] at hll
          have i1 : ¬ (k : Int) < (q.len : Int) := by omega
          have hkq : k = q.len := by omega
          have HKQ := hide hkq
          clear hown hss hkeep hr hll hkp hkq
          go_wp2_with fail
          go_ret
          have hkq := unhide HKQ
          subst hkq
          have hle : p.len + q.len = (p.app q).len := (SL.len_app p q).symm
          have hown := unhide HO
          rw [hle] at hown ⊢
          refine ⟨oo, oc, rfl, ⟨oo, oc, rfl, (rowAt_own hown).room _ _ _ rfl, fun h0 => ?_⟩, unhide HK⟩
          obtain ⟨g, goff, gc, e, hg, hgc⟩ := (rowAt_own hown).cells (by omega)
          simp at e
          obtain ⟨rfl, rfl⟩ := e
          exact ⟨g, goff, rfl, trivial, (unhide HSS).stIn hg (Nat.le_refl _) hgc⟩
end Go.Proofs.YtjhppnecadnekaaDoor
namespace Go.Proofs.YtjhppnecadnekaaDoor
open Go.RowKit Go.Maps

theorem wellS_app : ∀ {p q : SL}, wellS (p.app q) = true → wellS p = true ∧ wellS q = true
  | .nil, _, h => ⟨rfl, h⟩
  | .cons op f x t e r, q, h => by
    simp only [SL.app, wellS, Bool.and_eq_true] at h ⊢
    obtain ⟨h1, h2, h3, h4, h5⟩ := h
    obtain ⟨a, b⟩ := wellS_app h5
    exact ⟨⟨h1, h2, h3, h4, a⟩, b⟩
theorem countS_app : ∀ p q : SL, countS (p.app q) = countS p + countS q
  | .nil, _ => by simp [SL.app, countS]
  | .cons op f x t e r, q => by simp only [SL.app, countS, countS_app r q]; omega
theorem depthS_app : ∀ p q : SL, depthS (p.app q) = max (depthS p) (depthS q)
  | .nil, _ => by simp [SL.app, depthS]
  | .cons op f x t e r, q => by simp only [SL.app, depthS, depthS_app r q]; omega
theorem checkS_zero {l : SL} : checkS l = 0 ↔ wellS l = true ∧ countS l ≤ 32 ∧ depthS l ≤ 12 := by
  unfold checkS
  constructor
  · intro h
    split at h
    · cases h
    · rename_i h0
      split at h
      · cases h
      · split at h
        · cases h
        · exact ⟨by simpa using h0, by omega, by omega⟩
  · rintro ⟨h1, h2, h3⟩
    rw [if_neg (by simp [h1]), if_neg (by omega), if_neg (by omega)]
theorem checkS_parts {p q : SL} (h : checkS (p.app q) = 0) : checkS p = 0 ∧ checkS q = 0 := by
  rw [checkS_zero] at h
  obtain ⟨h1, h2, h3⟩ := h
  rw [countS_app] at h2
  rw [depthS_app] at h3
  exact ⟨checkS_zero.2 ⟨(wellS_app h1).1, by omega, by omega⟩, checkS_zero.2 ⟨(wellS_app h1).2, by omega, by omega⟩⟩
theorem firstBad_zero (S : List FieldA) : ∀ (l : SL) (k : Nat), (firstBad S l k).1 = 0 → firstBad S l k = (0, 0)
  | .nil, _, _ => rfl
  | .cons op f x t e r, k, h => by
    unfold firstBad at h ⊢
    split at h
    · rename_i h0; exact absurd h h0
    · rename_i h0
      rw [if_neg h0]
      exact firstBad_zero S r (k + 1) h
theorem firstBad_shift (S : List FieldA) : ∀ (l : SL) (k d : Nat), (firstBad S l (k + d)).1 = (firstBad S l k).1 ∧ ((firstBad S l k).1 ≠ 0 → (firstBad S l (k + d)).2 = (firstBad S l k).2 + d)
  | .nil, _, _ => ⟨rfl, fun h => absurd rfl h⟩
  | .cons op f x t e r, k, d => by
    unfold firstBad
    by_cases h0 : ownP S op f x ≠ 0
    · rw [if_pos h0, if_pos h0]
      exact ⟨rfl, fun _ => rfl⟩
    · rw [if_neg h0, if_neg h0, show k + d + 1 = k + 1 + d by omega]
      exact firstBad_shift S r (k + 1) d
theorem firstBad_app (S : List FieldA) : ∀ (l m : SL) (k : Nat), firstBad S (l.app m) k = if (firstBad S l k).1 ≠ 0 then firstBad S l k else firstBad S m (k + l.len)
  | .nil, m, k => by simp [SL.app, firstBad, SL.len]
  | .cons op f x t e r, m, k => by
    have ih := firstBad_app S r m (k + 1)
    have hc : firstBad S (.cons op f x t e r) k = if ownP S op f x ≠ 0 then (ownP S op f x, k) else firstBad S r (k + 1) := rfl
    show (if ownP S op f x ≠ 0 then (ownP S op f x, k) else firstBad S (r.app m) (k + 1)) = _
    by_cases h : ownP S op f x ≠ 0
    · rw [if_pos h] at hc ⊢
      rw [hc, if_pos h]
    · rw [if_neg h] at hc ⊢
      rw [hc, ih, show (SL.cons op f x t e r).len = r.len + 1 from rfl, show k + 1 + r.len = k + (r.len + 1) by omega]
/-- Two programs, one behind the other. -/
theorem joins_pure {S : List FieldA} (hS : schemaB S = true) {p q : SL} (h : checkS (p.app q) = 0) :
    ((checkP S p).1 ≠ 0 → checkP S (p.app q) = checkP S p) ∧
    ((checkP S p).1 = 0 → ((checkP S q).1 ≠ 0 → (checkP S (p.app q)).1 = (checkP S q).1 ∧ (checkP S (p.app q)).2 = (checkP S q).2 + countS p) ∧ ((checkP S q).1 = 0 → checkP S (p.app q) = (0, 0))) := by
  obtain ⟨hp, hq⟩ := checkS_parts h
  have e : ∀ l : SL, checkS l = 0 → checkP S l = firstBad S (flatS l) 0 := fun l hl => by
    unfold checkP
    rw [errS_good hS, hl]
    rfl
  rw [e _ h, e _ hp, e _ hq, flatS_app, firstBad_app, flatS_len, Nat.zero_add]
  have hs := firstBad_shift S (flatS q) 0 (countS p)
  rw [Nat.zero_add] at hs
  refine ⟨fun h1 => by rw [if_pos h1], fun h1 => ?_⟩
  rw [if_neg (by simpa using h1)]
  exact ⟨fun h2 => ⟨hs.1, hs.2 h2⟩, fun h2 => firstBad_zero S _ _ (by rw [hs.1]; exact h2)⟩
end Go.Proofs.YtjhppnecadnekaaDoor
namespace Go.Proofs.YtjhppnecadnekaaDoor
open Go.RowKit Go.Maps

theorem firstBad_le (S : List FieldA) : ∀ (l : SL) (k : Nat), (firstBad S l k).2 ≤ k + l.len
  | .nil, _ => Nat.zero_le _
  | .cons op f x t e r, k => by
    have ih := firstBad_le S r (k + 1)
    unfold firstBad
    split
    · simp only [SL.len]; omega
    · simp only [SL.len]; omega
theorem vals_nil (w : World) : ValsAt w (.slice none (([] : List ValA).length) 0) [] := ⟨⟨_, _, rfl⟩, fun h => by simp at h, fun ao m cap e => by simp at e; omega⟩

set_option maxRecDepth 100000 in
set_option maxHeartbeats 16000000 in
theorem joins_walk (S : List FieldA) (hlS : S.length ≤ 4398046511104) (p q : SL) (sv pv qv : Value) (w : World) (hT : Types w) (hF : Forms w) (hf : FldsAt w sv S) (hp : SlS (argZ w.heap.size) w 0 pv p) (hq : SlS (argZ w.heap.size) w 0 qv q) :
    Calls Tryd.prog 4 #[.agg #[sv], pv, qv] w fun e w' => e = .returned (.bool true) ∧ Keeps (fun _ => False) w w' := by
  obtain ⟨ao, cap, rfl, hc⟩ := hp.head
  obtain ⟨bo, bcap, rfl, hbc⟩ := hq.head
  obtain ⟨so, sc, rfl⟩ := RowAt.form hf
  obtain ⟨HB, hxb, hxc⟩ := boxedT w #[.slice so S.length sc] 24
  have SB : ∀ w', Keeps (fun _ => False) (w.alloc (.cells #[.slice so S.length sc] 24)) w' → w'.cell? ⟨w.heap.size, 0, none⟩ = some (.slice so S.length sc) := fun w' hk => (hk.cell hxb id).trans (hxc 0 _ rfl)
  have HSB := hide SB
  have HD := hide (deepStmts w.heap.size 0 p (.slice ao p.len cap) _ (by simp) (hp.keepF (unhide HB)))
  have HD2 := fun w' (hk : Keeps (fun _ => False) w w') => hide (deepStmts w.heap.size 0 q (.slice bo q.len bcap) w' hk.size (hq.keepF hk))
  have HCS := fun w' (hk : Keeps (fun _ => False) w w') => hide (checkSchema_any S (.slice so S.length sc) w' (hf.keepF hk))
  have HT := hide hT
  have HFM := hide hF
  have HF := hide hf
  have HP := hide hp
  have HQ := hide hq
  clear hT hF hf hp hq SB hxc
  go_enter Tryd.func4, Tryd.ntmps4
  go_wp2_with fail
  refine (unhide HD).mono ?_
  rintro e w1 ⟨r, rfl, hk1, hsz⟩
  have HK1 := hide ((unhide HB).trans hk1)
  have HKb := hide hk1
  have y1 := unhide HSB _ hk1
  have HSZ := hide hsz
  clear hk1 hsz HD
  cases r with
  | true =>
    go_wp2_with fail
    go_ret
    exact ⟨rfl, unhide HK1⟩
  | false =>
    have hps0 : p.size ≤ 2147483647 := (unhide HSZ) rfl
    clear HSZ
    go_wp2_with fail
    refine (unhide (HD2 _ (unhide HK1))).mono ?_
    rintro e w2 ⟨r, rfl, hk2, hsz2⟩
    have HSZ2 := hide hsz2
    have HK1 := hide ((unhide HK1).trans hk2); have HKb := hide ((unhide HKb).trans hk2); have y := unhide HSB _ (unhide HKb); clear hk2
    clear hsz2 HD2 y1
    cases r with
    | true =>
      go_wp2_with fail
      go_ret
      exact ⟨rfl, unhide HK1⟩
    | false =>
      have hps : p.size ≤ 2147483647 := hps0
      have hqs : q.size ≤ 2147483647 := (unhide HSZ2) rfl
      have hbs : (p.app q).size ≤ 4294967294 := by rw [SL.size_app]; omega
      have hp4 : p.size ≤ 4294967294 := by omega
      have hq4 : q.size ≤ 4294967294 := by omega
      have HJ := fun w' (hk : Keeps (fun _ => False) w w') => hide (joined_v w.heap.size p q hp4 hq4 (.slice ao p.len cap) (.slice bo q.len bcap) w' hk.size ((unhide HP).keepF hk) ((unhide HQ).keepF hk))
      have HCP := fun w' (hk : Keeps (fun _ => False) w w') => hide (lawCheck_v (argZ w.heap.size) S hlS p hp4 (.slice so S.length sc) (.slice ao p.len cap) w' 0 ((unhide HT).keepF hk) ((unhide HFM).keepF hk) ((unhide HF).keepF hk) ((unhide HP).keepF hk))
      have HCQ := fun w' (hk : Keeps (fun _ => False) w w') => hide (lawCheck_v (argZ w.heap.size) S hlS q hq4 (.slice so S.length sc) (.slice bo q.len bcap) w' 0 ((unhide HT).keepF hk) ((unhide HFM).keepF hk) ((unhide HF).keepF hk) ((unhide HQ).keepF hk))
      clear HSZ2 hps hqs hps0
      by_cases hC : checkS (p.app q) = 0
      · have HCV := hide hC
        cases hS : schemaB S with
        | false =>
          have e : ∀ l : SL, checkP S l = (60, 0) := fun l => by unfold checkP; rw [errS_bad hS]; rfl
          have HBV := hide (e (p.app q))
          have HPV := hide (e p)
          clear hC hS e HCS HCQ
          have mk1 : True := trivial
          go_wp2_with (first
            | (clear mk1; go_at_call 14; refine (unhide (HJ _ (unhide HK1))).mono ?_; rintro e w3 ⟨jo, jc, rfl, hjs, hk2⟩; have HJS := hide hjs; have HK1 := hide ((unhide HK1).trans hk2); have HKb := hide ((unhide HKb).trans hk2); have y := unhide HSB _ (unhide HKb); clear hk2; clear hjs; have mk2 : True := trivial)
            | (clear mk2; go_at_call 11; refine (rCheck_v _ (p.app q) hbs _ 0 _ (unhide HJS)).mono ?_; rintro e w4 ⟨rfl, hk2⟩; rw [unhide HCV]; have HJS := hide ((unhide HJS).keepF hk2); have HK1 := hide ((unhide HK1).trans hk2); have HKb := hide ((unhide HKb).trans hk2); have y := unhide HSB _ (unhide HKb); clear hk2; have mk3 : True := trivial)
            | (clear mk3; go_at_call 9; refine (lawCheck_v _ S hlS (p.app q) hbs _ _ _ 0 ((unhide HT).keepF (unhide HK1)) ((unhide HFM).keepF (unhide HK1)) ((unhide HF).keepF (unhide HK1)) (unhide HJS)).mono ?_; rintro e w5 ⟨rfl, hk2⟩; rw [unhide HBV]; have HK1 := hide ((unhide HK1).trans hk2); have HKb := hide ((unhide HKb).trans hk2); have y := unhide HSB _ (unhide HKb); clear hk2; have mk4 : True := trivial)
            | (clear mk4; go_at_call 9; refine (unhide (HCP _ (unhide HK1))).mono ?_; rintro e w6 ⟨rfl, hk2⟩; rw [unhide HPV]; have HK1 := hide ((unhide HK1).trans hk2); have HKb := hide ((unhide HKb).trans hk2); have y := unhide HSB _ (unhide HKb); clear hk2; have mk5 : True := trivial))
          go_ret
          exact ⟨rfl, unhide HK1⟩
        | true =>
          rw [errS_good hS] at HCS
          obtain ⟨ha, hb⟩ := joins_pure hS hC
          obtain ⟨hcp, hcq⟩ := checkS_parts hC
          have hwp := checkS_well hcp
          have hnp : countS p ≤ 32 := (checkS_zero.1 hcp).2.1
          have haq : (checkP S q).2 ≤ 32 := by
            have e : checkP S q = firstBad S (flatS q) 0 := by unfold checkP; rw [errS_good hS, hcq]; rfl
            have h1 := firstBad_le S (flatS q) 0
            have h2 := (checkS_zero.1 hcq).2.1
            rw [flatS_len] at h1
            rw [e]
            omega
          have HFW : Hid (∀ (W : World), Keeps (fun _ => False) w W → Calls Tryd.prog 13 #[.agg #[.slice so S.length sc], .slice none 0 0, .slice none 0 0, .slice ao p.len cap] W (FPost S [] [] p W)) := fun W hk =>
            first_v (argZ w.heap.size) S hS so sc [] [] none none 0 0 (Or.inr rfl) (Or.inr rfl) (p.size + 1) p (by omega) hp4 W 0 (.slice ao p.len cap) ((unhide HP).keepF hk) ((unhide HF).keepF hk) (vals_nil W) (vals_nil W) hwp
          unfold FPost at HFW
          generalize firstW S [] [] (flatS p) 0 = K at HFW
          obtain ⟨np, hnpe⟩ : ∃ n, n = countS p := ⟨_, rfl⟩
          rw [← hnpe] at HFW hb hnp
          obtain ⟨⟨Ep, ap⟩, hEp⟩ : ∃ z, z = checkP S p := ⟨_, rfl⟩
          obtain ⟨⟨Eq, aq⟩, hEq⟩ : ∃ z, z = checkP S q := ⟨_, rfl⟩
          obtain ⟨⟨Eb, ab⟩, hEb⟩ : ∃ z, z = checkP S (p.app q) := ⟨_, rfl⟩
          rw [← hEp, ← hEb] at ha
          rw [← hEp, ← hEq, ← hEb] at hb
          rw [← hEq] at haq
          have HBV := hide hEb.symm
          have HPV := hide hEp.symm
          have HQV := hide hEq.symm
          dsimp only at ha hb haq
          clear hEp hEq hEb hcp hcq hwp hC hS hnpe
          by_cases h1 : Ep = 0
          · obtain ⟨hb1, hb2⟩ := hb h1
            subst h1
            by_cases h2 : Eq = 0
            · have h3 := hb2 h2
              subst h2
              simp only [Prod.mk.injEq] at h3
              obtain ⟨rfl, rfl⟩ := h3
              clear ha hb hb1 hb2
              have mk1 : True := trivial
              go_wp2_with (first
                | (clear mk1; go_at_call 14; refine (unhide (HJ _ (unhide HK1))).mono ?_; rintro e w3 ⟨jo, jc, rfl, hjs, hk2⟩; have HJS := hide hjs; have HK1 := hide ((unhide HK1).trans hk2); have HKb := hide ((unhide HKb).trans hk2); have y := unhide HSB _ (unhide HKb); clear hk2; clear hjs; have mk2 : True := trivial)
                | (clear mk2; go_at_call 11; refine (rCheck_v _ (p.app q) hbs _ 0 _ (unhide HJS)).mono ?_; rintro e w4 ⟨rfl, hk2⟩; rw [unhide HCV]; have HJS := hide ((unhide HJS).keepF hk2); have HK1 := hide ((unhide HK1).trans hk2); have HKb := hide ((unhide HKb).trans hk2); have y := unhide HSB _ (unhide HKb); clear hk2; have mk3 : True := trivial)
                | (clear mk3; go_at_call 9; refine (lawCheck_v _ S hlS (p.app q) hbs _ _ _ 0 ((unhide HT).keepF (unhide HK1)) ((unhide HFM).keepF (unhide HK1)) ((unhide HF).keepF (unhide HK1)) (unhide HJS)).mono ?_; rintro e w5 ⟨rfl, hk2⟩; rw [unhide HBV]; have HK1 := hide ((unhide HK1).trans hk2); have HKb := hide ((unhide HKb).trans hk2); have y := unhide HSB _ (unhide HKb); clear hk2; have mk4 : True := trivial)
                | (clear mk4; go_at_call 9; refine (unhide (HCP _ (unhide HK1))).mono ?_; rintro e w6 ⟨rfl, hk2⟩; rw [unhide HPV]; have HK1 := hide ((unhide HK1).trans hk2); have HKb := hide ((unhide HKb).trans hk2); have y := unhide HSB _ (unhide HKb); clear hk2; have mk5 : True := trivial)
                | (clear mk5; go_at_call 13; refine (unhide HFW _ (unhide HK1)).mono ?_; rintro e w7 ⟨rfl, hk2⟩; have HK1 := hide ((unhide HK1).trans hk2); have HKb := hide ((unhide HKb).trans hk2); have y := unhide HSB _ (unhide HKb); clear hk2; have mk6 : True := trivial)
                | (clear mk6; go_at_call 9; refine (unhide (HCQ _ (unhide HK1))).mono ?_; rintro e w8 ⟨rfl, hk2⟩; rw [unhide HQV]; have HK1 := hide ((unhide HK1).trans hk2); have HKb := hide ((unhide HKb).trans hk2); have y := unhide HSB _ (unhide HKb); clear hk2; have mk7 : True := trivial)
                | (clear mk7; go_at_call 10; refine (unhide (HCS _ (unhide HK1))).mono ?_; rintro e w9 ⟨rfl, hk2⟩; have HK1 := hide ((unhide HK1).trans hk2); have HKb := hide ((unhide HKb).trans hk2); have y := unhide HSB _ (unhide HKb); clear hk2))
              go_ret
              exact ⟨rfl, unhide HK1⟩
            · obtain ⟨rfl, rfl⟩ := hb1 h2
              have n0 : (Eb != 0) = true := by simpa using h2
              clear ha hb hb1 hb2 h2
              have mk1 : True := trivial
              go_wp2_with (first
                | (clear mk1; go_at_call 14; refine (unhide (HJ _ (unhide HK1))).mono ?_; rintro e w3 ⟨jo, jc, rfl, hjs, hk2⟩; have HJS := hide hjs; have HK1 := hide ((unhide HK1).trans hk2); have HKb := hide ((unhide HKb).trans hk2); have y := unhide HSB _ (unhide HKb); clear hk2; clear hjs; have mk2 : True := trivial)
                | (clear mk2; go_at_call 11; refine (rCheck_v _ (p.app q) hbs _ 0 _ (unhide HJS)).mono ?_; rintro e w4 ⟨rfl, hk2⟩; rw [unhide HCV]; have HJS := hide ((unhide HJS).keepF hk2); have HK1 := hide ((unhide HK1).trans hk2); have HKb := hide ((unhide HKb).trans hk2); have y := unhide HSB _ (unhide HKb); clear hk2; have mk3 : True := trivial)
                | (clear mk3; go_at_call 9; refine (lawCheck_v _ S hlS (p.app q) hbs _ _ _ 0 ((unhide HT).keepF (unhide HK1)) ((unhide HFM).keepF (unhide HK1)) ((unhide HF).keepF (unhide HK1)) (unhide HJS)).mono ?_; rintro e w5 ⟨rfl, hk2⟩; rw [unhide HBV]; have HK1 := hide ((unhide HK1).trans hk2); have HKb := hide ((unhide HKb).trans hk2); have y := unhide HSB _ (unhide HKb); clear hk2; have mk4 : True := trivial)
                | (clear mk4; go_at_call 9; refine (unhide (HCP _ (unhide HK1))).mono ?_; rintro e w6 ⟨rfl, hk2⟩; rw [unhide HPV]; have HK1 := hide ((unhide HK1).trans hk2); have HKb := hide ((unhide HKb).trans hk2); have y := unhide HSB _ (unhide HKb); clear hk2; have mk5 : True := trivial)
                | (clear mk5; go_at_call 13; refine (unhide HFW _ (unhide HK1)).mono ?_; rintro e w7 ⟨rfl, hk2⟩; have HK1 := hide ((unhide HK1).trans hk2); have HKb := hide ((unhide HKb).trans hk2); have y := unhide HSB _ (unhide HKb); clear hk2; have mk6 : True := trivial)
                | (clear mk6; go_at_call 9; refine (unhide (HCQ _ (unhide HK1))).mono ?_; rintro e w8 ⟨rfl, hk2⟩; rw [unhide HQV]; have HK1 := hide ((unhide HK1).trans hk2); have HKb := hide ((unhide HKb).trans hk2); have y := unhide HSB _ (unhide HKb); clear hk2; have mk7 : True := trivial))
              go_ret
              exact ⟨rfl, unhide HK1⟩
          · have h3 := ha h1
            simp only [Prod.mk.injEq] at h3
            obtain ⟨rfl, rfl⟩ := h3
            have n0 : (Eb != 0) = true := by simpa using h1
            clear ha hb h1
            have mk1 : True := trivial
            go_wp2_with (first
              | (clear mk1; go_at_call 14; refine (unhide (HJ _ (unhide HK1))).mono ?_; rintro e w3 ⟨jo, jc, rfl, hjs, hk2⟩; have HJS := hide hjs; have HK1 := hide ((unhide HK1).trans hk2); have HKb := hide ((unhide HKb).trans hk2); have y := unhide HSB _ (unhide HKb); clear hk2; clear hjs; have mk2 : True := trivial)
              | (clear mk2; go_at_call 11; refine (rCheck_v _ (p.app q) hbs _ 0 _ (unhide HJS)).mono ?_; rintro e w4 ⟨rfl, hk2⟩; rw [unhide HCV]; have HJS := hide ((unhide HJS).keepF hk2); have HK1 := hide ((unhide HK1).trans hk2); have HKb := hide ((unhide HKb).trans hk2); have y := unhide HSB _ (unhide HKb); clear hk2; have mk3 : True := trivial)
              | (clear mk3; go_at_call 9; refine (lawCheck_v _ S hlS (p.app q) hbs _ _ _ 0 ((unhide HT).keepF (unhide HK1)) ((unhide HFM).keepF (unhide HK1)) ((unhide HF).keepF (unhide HK1)) (unhide HJS)).mono ?_; rintro e w5 ⟨rfl, hk2⟩; rw [unhide HBV]; have HK1 := hide ((unhide HK1).trans hk2); have HKb := hide ((unhide HKb).trans hk2); have y := unhide HSB _ (unhide HKb); clear hk2; have mk4 : True := trivial)
              | (clear mk4; go_at_call 9; refine (unhide (HCP _ (unhide HK1))).mono ?_; rintro e w6 ⟨rfl, hk2⟩; rw [unhide HPV]; have HK1 := hide ((unhide HK1).trans hk2); have HKb := hide ((unhide HKb).trans hk2); have y := unhide HSB _ (unhide HKb); clear hk2; have mk5 : True := trivial))
            go_ret
            exact ⟨rfl, unhide HK1⟩
      · obtain ⟨H, hH⟩ : ∃ z, z = checkS (p.app q) := ⟨_, rfl⟩
        have HCV := hide hH.symm
        obtain ⟨⟨Eb, ab⟩, hEb⟩ : ∃ z, z = checkP S (p.app q) := ⟨_, rfl⟩
        have HBV := hide hEb.symm
        have hE0 : Eb ≠ 0 := by
          have h1 : (checkP S (p.app q)).1 ≠ 0 := by
            unfold checkP
            cases hS : schemaB S with
            | false => rw [errS_bad hS, if_pos (by decide)]; decide
            | true => rw [errS_good hS, if_neg (by simp), if_pos hC]; exact hC
          rw [← hEb] at h1
          exact h1
        have n0 : (H != 0) = true := by rw [hH]; simpa using hC
        have n1 : (Eb != 0) = true := by simpa using hE0
        clear hH hEb hE0 hC HCS HCP HCQ
        have mk1 : True := trivial
        go_wp2_with (first
          | (clear mk1; go_at_call 14; refine (unhide (HJ _ (unhide HK1))).mono ?_; rintro e w3 ⟨jo, jc, rfl, hjs, hk2⟩; have HJS := hide hjs; have HK1 := hide ((unhide HK1).trans hk2); have HKb := hide ((unhide HKb).trans hk2); have y := unhide HSB _ (unhide HKb); clear hk2; clear hjs; have mk2 : True := trivial)
          | (clear mk2; go_at_call 11; refine (rCheck_v _ (p.app q) hbs _ 0 _ (unhide HJS)).mono ?_; rintro e w4 ⟨rfl, hk2⟩; rw [unhide HCV]; have HJS := hide ((unhide HJS).keepF hk2); have HK1 := hide ((unhide HK1).trans hk2); have HKb := hide ((unhide HKb).trans hk2); have y := unhide HSB _ (unhide HKb); clear hk2; have mk3 : True := trivial)
          | (clear mk3; go_at_call 9; refine (lawCheck_v _ S hlS (p.app q) hbs _ _ _ 0 ((unhide HT).keepF (unhide HK1)) ((unhide HFM).keepF (unhide HK1)) ((unhide HF).keepF (unhide HK1)) (unhide HJS)).mono ?_; rintro e w5 ⟨rfl, hk2⟩; rw [unhide HBV]; have HK1 := hide ((unhide HK1).trans hk2); have HKb := hide ((unhide HKb).trans hk2); have y := unhide HSB _ (unhide HKb); clear hk2; have mk4 : True := trivial))
        go_ret
        exact ⟨rfl, unhide HK1⟩
end Go.Proofs.YtjhppnecadnekaaDoor
