import Derived.Test.YtjmbcelkhiopeaaY
namespace Go.Proofs.Ytjmbcelkhiopeaa
open Go.RowKit Go.Maps

theorem flat_secOf (s : Nat) : ∀ (n : Nat) (L : List Int), n * s ≤ L.length → (List.range n).flatMap (secOf s L) = L.take (n * s)
  | 0, L, _ => by simp
  | n + 1, L, h => by
    have e : (n + 1) * s = n * s + s := by rw [Nat.add_mul, Nat.one_mul]
    rw [List.range_succ, List.flatMap_append, flat_secOf s n L (by omega), e]
    simp only [List.flatMap_cons, List.flatMap_nil, List.append_nil, secOf]
    rw [List.take_add]

theorem liveL_all {w : World} {B : Nat} {S : DS} (h : DiskAt w B S) : liveL S S.secs = settleAll S.size S.dur S.ws := by
  have hlen := settleAll_length S.size S.secs S.dur h.dlen S.ws (fun x hx => ⟨(h.each x hx).1, (h.each x hx).2.1⟩)
  have e : ∀ a, S.holdsAt a = secOf S.size (settleAll S.size S.dur S.ws) a := fun a => by
    rw [holdsAt_eq, secOf_settleAll S.size S.secs S.dur h.dlen a S.ws (fun x hx => ⟨(h.each x hx).1, (h.each x hx).2.1⟩)]
  unfold liveL
  rw [show S.holdsAt = secOf S.size (settleAll S.size S.dur S.ws) from funext e, flat_secOf _ _ _ (by omega), List.take_of_length_le (by omega)]

theorem keptTo_all (ks : List Bool) (ws : List Wr) : ∀ k, k ≤ ws.length → (∀ j, j < k → ks[j]? = some true) → keptTo ks ws k = ws.take k
  | 0, _, _ => rfl
  | k + 1, hk, h => by
    obtain ⟨x, hx⟩ : ∃ x, ws[k]? = some x := ⟨_, List.getElem?_eq_getElem (by omega)⟩
    simp only [keptTo, hx]
    rw [if_pos (h k (by omega)), keptTo_all ks ws k (by omega) (fun j hj => h j (by omega)), take_snoc _ _ _ hx]

theorem keptTo_none (ws : List Wr) : ∀ k, keptTo [] ws k = []
  | 0 => rfl
  | k + 1 => by
    have := keptTo_none ws k
    unfold keptTo
    split
    · simp [this]
    · exact this

def Blk (w : World) (b : Nat) (l : List Int) : Prop := w.heap[b]? = some (.cells (bs l).toArray 5 (0, 0))
theorem Blk.keep {w w' : World} {b : Nat} {l : List Int} (h : Blk w b l) {F : Nat → Prop} (hk : Keeps F w w') (hF : ¬ F b) : Blk w' b l := (hk.block b (lt_of_block h) hF).trans h
theorem Blk.reads {w : World} {b : Nat} {l : List Int} (h : Blk w b l) {n : Nat} (hn : l.length = n) (cap : Nat) : Reads w (.slice (some ⟨b, 0, none⟩) n cap) l := reads_of_blk h hn cap

theorem image_abs {w : World} {B : Nat} {S : DS} (h : DiskAt w B S) {N D : Nat} (hN : S.secs * S.size = N) (hD : S.D = D) :
    Calls Try.prog 27 #[.pointer (some ⟨D, 0, none⟩)] w fun e w' => e = .returned (.slice (some ⟨w.heap.size, 0, none⟩) N N) ∧ Keeps (fun _ => False) w w' ∧ Blk w' w.heap.size S.dur := by
  subst hN hD
  refine (image_any w B S h).mono ?_
  rintro e w' ⟨rfl, rfl⟩
  exact ⟨rfl, (Keeps.refl _ _).alloc _, heap_alloc_new w _⟩

theorem survive_abs {w : World} {B : Nat} {S : DS} (h : DiskAt w B S) {D n s : Nat} (hD : S.D = D) (hn : S.secs = n) (hs : S.size = s) (kv : Value) (ks : List Bool) (hB : Bools w kv ks) (hws : S.ws.length ≤ 4294967295) (hkl : ks.length ≤ maxLen) :
    Calls Try.prog 24 #[.pointer (some ⟨D, 0, none⟩), kv] w fun e w' => e = .returned (.pointer (some ⟨w.heap.size + 2, 0, none⟩)) ∧ Keeps (fun _ => False) w w' ∧
      DiskAt w' w.heap.size (freshDS (w.heap.size + 2) w.heap.size (w.heap.size + 1) n s (settleAll s S.dur (keptTo ks S.ws S.ws.length))) := by
  subst hD hn hs
  exact survive_any w B S h kv ks hB hws hkl

theorem pending_abs {w : World} {B : Nat} {S : DS} (h : DiskAt w B S) {D m : Nat} (hD : S.D = D) (hm : S.ws.length = m) (hb : m ≤ 4294967295) :
    Calls Try.prog 18 #[.pointer (some ⟨D, 0, none⟩)] w fun e w' => e = .returned (.slice (some ⟨w.heap.size, 0, none⟩) m m) ∧ ∃ ws : List Wr, PendInv w S m ws w' ∧ WritesAt w' (.slice (some ⟨w.heap.size, 0, none⟩) m m) S.size ws := by
  subst hD hm
  refine (pending_any w B S h hb).mono ?_
  rintro e w' ⟨ws, rfl, hp⟩
  exact ⟨rfl, ws, hp, writes_of_pend hp⟩

theorem live_abs {w : World} {B : Nat} {S : DS} (h : DiskAt w B S) {D n N : Nat} (hD : S.D = D) (hn : S.secs = n) (hN : S.secs * S.size = N) (hdead : S.dead = false) (hr1 : 0 ≤ S.r) (hr2 : S.r ≤ 1000000) :
    Calls Try.prog 29 #[.pointer (some ⟨D, 0, none⟩), .int .i64 n] w fun e w' => ∃ g c, e = .returned (.slice (some ⟨g, 0, none⟩) N c) ∧ w.heap.size ≤ g ∧ Reads w' (.slice (some ⟨g, 0, none⟩) N c) (settleAll S.size S.dur S.ws) ∧ DiskAt w' B (S.redN n) ∧ Keeps (fun q => q = D) w w' ∧ g < w'.heap.size := by
  subst hD hn hN
  refine (live_any w B S h hdead hr1 hr2).mono ?_
  rintro e w' ⟨v, rfl, I⟩
  have hpos : 0 < S.secs * S.size := Nat.mul_pos h.secs1 (by have := h.size1; omega)
  have hrow := I.row
  rw [liveL_all h] at hrow
  obtain ⟨g, c, rfl, hg, hlt⟩ := hrow.form hpos
  exact ⟨g, c, rfl, hg, reads_of_row hrow, I.disk, I.keeps, hlt⟩

theorem Reads.keepBlk {w w' : World} {g n c : Nat} {l : List Int} (h : Reads w (.slice (some ⟨g, 0, none⟩) n c) l) {F : Nat → Prop} (hk : Keeps F w w') (hg : g < w.heap.size) (hF : ¬ F g) : Reads w' (.slice (some ⟨g, 0, none⟩) n c) l :=
  h.kept (fun b o x hx he => by
    obtain ⟨n', c', off, e⟩ := he
    simp at e
    obtain ⟨⟨rfl, _⟩, _⟩ := e
    exact (hk.cell hg hF).trans hx)

/-- The state behind the first looks: all that the second half of the law needs, at one world. -/
structure Half (w0 w : World) (n s N : Nat) (S : DS) (bm gh ch pb m : Nat) (wsp : List Wr) (k0 : Nat) : Prop where
  below : Below w0.heap.size w0 w
  d : DiskAt w w0.heap.size S
  dD : S.D = w0.heap.size + 2
  dn : S.secs = n
  ds : S.size = s
  ddead : S.dead = false
  dm : S.ws.length = m
  dr0 : 0 ≤ S.r
  dr1 : S.r ≤ 20000
  m4 : Blk w bm S.dur
  mne : bm ≠ w0.heap.size + 2
  mlt : bm < k0
  h5 : Reads w (.slice (some ⟨gh, 0, none⟩) N ch) (settleAll s S.dur S.ws)
  hne : gh ≠ w0.heap.size + 2
  hk : gh < k0
  hlt : gh < w.heap.size
  p6 : WritesAt w (.slice (some ⟨pb, 0, none⟩) m m) s wsp
  pne : pb ≠ w0.heap.size + 2
  pk : pb < k0
  plt : pb < w.heap.size
  pblk : ∀ x ∈ wsp, x.blk ≠ w0.heap.size + 2 ∧ x.blk < k0
  pp : wsp.map Wr.pair = S.ws.map Wr.pair
  own : ∀ q, S.own q → q < k0
  each : ∀ x ∈ S.ws, x.blk < k0

theorem Half.keep {w0 w w' : World} {n s N : Nat} {S : DS} {bm gh ch pb m : Nat} {wsp : List Wr} {k0 : Nat} (H : Half w0 w n s N S bm gh ch pb m wsp k0) {F : Nat → Prop} (hk : Keeps F w w') (hF : ∀ q, F q → k0 ≤ q) (hF0 : w0.heap.size ≤ k0) : Half w0 w' n s N S bm gh ch pb m wsp k0 := by
  have hn : ∀ q, q < k0 → ¬ F q := fun q hq hf => by have := hF q hf; omega
  exact ⟨H.below.trans (hk.below H.below.size (fun q hq => by have := hF q hq; omega)), H.d.kept hk (fun q hq => hn q (H.own q hq)) (fun x hx => hn _ (H.each x hx)), H.dD, H.dn, H.ds, H.ddead, H.dm, H.dr0, H.dr1, H.m4.keep hk (hn _ H.mlt), H.mne, H.mlt,
    H.h5.keepBlk hk H.hlt (hn _ H.hk), H.hne, H.hk, Nat.lt_of_lt_of_le H.hlt hk.size,
    H.p6.kept hk (fun b hb => by simp [Value.ownBlock] at hb; subst hb; exact hn _ H.pk) (fun x hx => hn _ (H.pblk x hx).2), H.pne, H.pk, Nat.lt_of_lt_of_le H.plt hk.size, H.pblk, H.pp, H.own, H.each⟩


set_option maxRecDepth 100000 in
set_option maxHeartbeats 4000000 in
theorem diskSurvivors_any (w : World) (n s : Nat) (v kv : Value) (acts : List Pt) (ks : List Bool) (hA : Acts w v acts) (hB : Bools w kv ks) (hkl : ks.length ≤ maxLen) (hlen : acts.length ≤ 2147483647) (h1 : 1 ≤ n) (h2 : n ≤ 16384) (h3 : 32 ≤ s) (h4 : s ≤ 1024) :
    Calls Try.prog 7 #[.int .i64 n, .int .i64 s, v, kv] w fun e w' => e = .returned (.bool true) ∧ Below w.heap.size w w' := by
  obtain ⟨ao, cap, rfl⟩ := hA.form
  have HA := hide hA
  have HBK := hide hB
  have HKL := hide hkl
  have hN : decide ((2147483647 : Int) < (acts.length : Int)) = false := by simp; omega
  obtain ⟨N, hNe⟩ : ∃ N, n * s = N := ⟨_, rfl⟩
  have hNb : N ≤ 16777216 := by rw [← hNe]; exact Nat.le_trans (Nat.mul_le_mul h2 h4) (by decide)
  have hmulN : (n : Int) * (s : Int) = (N : Int) := by rw [← hNe, Int.natCast_mul]
  have HNE := hide hNe
  clear hA hB hkl hNe
  go_enter Try.func7, Try.ntmps7
  go_wp2_with fail
  refine (made_yes n s w h1 h2 h3 h4).mono ?_
  rintro e w1 ⟨rfl, hd1, hk1⟩
  have HP := hide (played_free w w1 n s _ acts (unhide HA) hlen hd1 (hk1.below (Nat.le_refl _) (fun _ f => f.elim)) h4 h3)
  clear hd1 hk1
  go_wp2_with fail
  refine (long_any _ _).mono ?_
  rintro e w2 ⟨rfl, rfl⟩
  go_wp2_with fail
  refine (unhide HP).mono ?_
  rintro e w3 ⟨rfl, S, hI, hdead, hleft⟩
  have hSN : S.secs * S.size = N := by rw [hI.secs, hI.size]; exact unhide HNE
  obtain ⟨m, hm⟩ : ∃ m, S.ws.length = m := ⟨_, rfl⟩
  have hmb : m ≤ 2147483647 := by have := hI.ws; omega
  have HIM := hide (image_abs hI.disk hSN hI.D)
  have HI := hide hI
  have HD := hide hdead
  have HSN := hide hSN
  have HM := hide hm
  clear hI hdead hleft hSN hm HP
  go_wp2_with fail
  refine (unhide HIM).mono ?_
  rintro e w4 ⟨rfl, hk4, hm4⟩
  have hd4 := (unhide HI).disk.keepF hk4
  have HLV := hide (live_abs hd4 (unhide HI).D (unhide HI).secs (unhide HSN) (unhide HD) (by rw [(unhide HI).r]; omega) (by rw [(unhide HI).r]; omega))
  have HK4 := hide hk4
  have HM4 := hide hm4
  clear hk4 hm4 hd4 HIM
  go_wp2_with fail
  refine (unhide HLV).mono ?_
  rintro e w5 ⟨gh, ch, rfl, hgh, hr5, hd5, hk5, hgh2⟩
  have hs34 := (unhide HK4).size
  have hPD := pending_abs hd5 (D := w.heap.size + 2) (m := m) (unhide HI).D (unhide HM) (by omega)
  have HPD := hide hPD
  have HR5 := hide hr5
  have H5 := hide hd5
  have HK5 := hide hk5
  clear hr5 hd5 hk5 hPD HLV
  go_wp2_with fail
  refine (unhide HPD).mono ?_
  rintro e w6 ⟨rfl, wsp, hP6, hW6⟩
  have hhalf : Half w w6 n s N (S.redN n) w3.heap.size gh ch w5.heap.size m wsp w6.heap.size := by
    have I := unhide HI
    have k5 := unhide HK5
    have k4 := unhide HK4
    have z5 := k5.size
    have z6 := hP6.keeps.size
    have zw := I.below.size
    have hDlt := lt_of_block I.disk.blk
    rw [I.D] at hDlt
    have hd6 := (unhide H5).keepF hP6.keeps
    have hb4 : Below w.heap.size w w4 := I.below.trans (k4.below zw (fun _ f => f.elim))
    have hb5 : Below w.heap.size w w5 := hb4.trans (k5.below (by omega) (fun q e => by omega))
    have hb6 : Below w.heap.size w w6 := hb5.trans (hP6.keeps.below (by omega) (fun _ f => f.elim))
    have hown : ∀ q, S.own q → q < w3.heap.size := I.disk.own_lt
    obtain ⟨arr, hab, _, _⟩ := hP6.arr
    have hpb := lt_of_block hab
    exact ⟨hb6, hd6, I.D, I.secs, I.size, unhide HD, unhide HM, by show 0 ≤ S.r + n; rw [I.r]; omega, by show S.r + n ≤ _; rw [I.r]; omega,
      ((unhide HM4).keep k5 (by omega)).keep hP6.keeps id, by omega, by omega,
      by have := (unhide HR5).keepBlk hP6.keeps hgh2 id; rw [I.size] at this; exact this, by omega, by omega, by omega,
      by have hs : (S.redN n).size = s := I.size
         rw [hs] at hW6; exact hW6, by omega, by omega, hpb,
      fun x hx => by
        have hh := hP6.each x hx
        have := lt_of_block hh.2.1
        exact ⟨by omega, this⟩,
      by rw [hP6.pair, ← unhide HM]; exact congrArg _ (List.take_length), fun q hq => by have := hown q hq; omega,
      fun x hx => by have := lt_of_block (I.disk.each x hx).2.2.1; omega⟩
  have HH := hide hhalf
  have HALL := hide (all_any (m + 2) w6 (by omega))
  have hmm : ((m + 2 : Nat) : Int) = (m : Int) + 2 := by omega
  rw [hmm] at HALL
  have hz6 : w.heap.size ≤ w6.heap.size := hhalf.below.size
  clear hhalf hmm hP6 hW6 HPD H5 HK5 HR5 HM4 HK4 HI HD HSN HM hgh hgh2 hs34
  go_wp2_with fail
  refine (unhide HALL).mono ?_
  rintro e w7 ⟨av, rfl, ha7, hk7⟩
  have hH7 := (unhide HH).keep hk7 (fun _ f => f.elim) hz6
  have hS8 := survive_abs hH7.d hH7.dD hH7.dn hH7.ds av _ (bools_of_row ha7) (by rw [hH7.dm]; omega) (by simp; unfold maxLen; omega)
  have eall : keptTo (List.replicate (m + 2) true) (S.redN n).ws (S.redN n).ws.length = (S.redN n).ws := by
    rw [keptTo_all (List.replicate (m + 2) true) (S.redN n).ws (S.redN n).ws.length (Nat.le_refl _) (fun j hj => by
      have hj' : j < m := by rw [← hH7.dm]; exact hj
      rw [List.getElem?_replicate, if_pos (by omega)]), List.take_length]
  rw [eall] at hS8
  have HS8 := hide hS8
  have HH7 := hide hH7
  have hz7 := hk7.size
  clear eall hS8 hH7 ha7 hk7 HALL HH
  go_wp2_with fail
  refine (unhide HS8).mono ?_
  rintro e w8 ⟨rfl, hk8, hda8⟩
  have hH8 := (unhide HH7).keep hk8 (fun _ f => f.elim) hz6
  have hS9 := survive_abs hH8.d hH8.dD hH8.dn hH8.ds (.slice none 0 0) [] (bools_nil _) (by rw [hH8.dm]; omega) (by simp)
  rw [keptTo_none] at hS9
  have HS9 := hide hS9
  have HH8 := hide hH8
  have HDA8 := hide hda8
  have hz8 : w7.heap.size + 2 < w8.heap.size := lt_of_block hda8.blk
  clear hS9 hH8 hk8 hda8 HS8 HH7
  go_wp2_with fail
  refine (unhide HS9).mono ?_
  rintro e w9 ⟨rfl, hk9, hdz9⟩
  have hH9 := (unhide HH8).keep hk9 (fun _ f => f.elim) hz6
  have hda9 := (unhide HDA8).keepF hk9
  have hS10 := survive_abs hH9.d hH9.dD hH9.dn hH9.ds kv ks ((unhide HBK).kept hH9.below) (by rw [hH9.dm]; omega) (unhide HKL)
  generalize settleAll s (S.redN n).dur (keptTo ks (S.redN n).ws (S.redN n).ws.length) = kd at hS10
  have HS10 := hide hS10
  have HH9 := hide hH9
  have HDA9 := hide hda9
  have HDZ9 := hide hdz9
  have hz9 : w8.heap.size + 2 < w9.heap.size := lt_of_block hdz9.blk
  clear hS10 hH9 hk9 hda9 hdz9 HS9 HH8 HDA8
  go_wp2_with fail
  refine (unhide HS10).mono ?_
  rintro e w10 ⟨rfl, hk10, hdk10⟩
  have hH10 := (unhide HH9).keep hk10 (fun _ f => f.elim) hz6
  have hda10 := (unhide HDA9).keepF hk10
  have hdz10 := (unhide HDZ9).keepF hk10
  have hFI := fromImage_ok w10 w3.heap.size n s (S.redN n).dur (by rw [hH10.d.dlen, hH10.dn, hH10.ds]) h1 h2 h3 h4 N hH10.m4
  rw [unhide HNE] at hFI
  have HFI := hide hFI
  have HH10 := hide hH10
  have HDA10 := hide hda10
  have HDZ10 := hide hdz10
  have HDK10 := hide hdk10
  have hz10 : w9.heap.size + 2 < w10.heap.size := lt_of_block hdk10.blk
  clear hFI hH10 hk10 hda10 hdz10 hdk10 HS10 HH9 HDA9 HDZ9
  go_wp2_with fail
  refine (unhide HFI).mono ?_
  rintro e w11 ⟨rfl, hk11, hdf11⟩
  have hH11 := (unhide HH10).keep hk11 (fun _ f => f.elim) hz6
  have hda11 := (unhide HDA10).keepF hk11
  have hdz11 := (unhide HDZ10).keepF hk11
  have hdk11 := (unhide HDK10).keepF hk11
  have HI12 := hide (image_abs hda11 (N := N) (D := w7.heap.size + 2) (unhide HNE) rfl)
  have HH11 := hide hH11
  have HDA11 := hide hda11
  have HDZ11 := hide hdz11
  have HDK11 := hide hdk11
  have HDF11 := hide hdf11
  have hz11 : w10.heap.size + 2 < w11.heap.size := lt_of_block hdf11.blk
  clear hH11 hda11 hdz11 hdk11 hdf11 hk11 HFI HH10 HDA10 HDZ10 HDK10
  go_wp2_with fail
  refine (unhide HI12).mono ?_
  rintro e w12 ⟨rfl, hk12, hai12⟩
  have HI13 := hide (image_abs ((unhide HDZ11).keepF hk12) (N := N) (D := w8.heap.size + 2) (unhide HNE) rfl)
  have HK12 := hide hk12
  have HAI := hide hai12
  have hz12 := hk12.size
  clear hk12 hai12 HI12
  go_wp2_with fail
  refine (unhide HI13).mono ?_
  rintro e w13 ⟨rfl, hk13, hzi13⟩
  have K13 := (unhide HK12).trans hk13
  have HI14 := hide (image_abs ((unhide HDK11).keepF K13) (N := N) (D := w9.heap.size + 2) (unhide HNE) rfl)
  have HK13 := hide hk13
  have HZI := hide hzi13
  have hz13 := hk13.size
  clear hk13 hzi13 K13 HI13
  go_wp2_with fail
  refine (unhide HI14).mono ?_
  rintro e w14 ⟨rfl, hk14, hki14⟩
  have K14 := ((unhide HK12).trans (unhide HK13)).trans hk14
  have HI15 := hide (image_abs ((unhide HDF11).keepF K14) (N := N) (D := w10.heap.size + 2) (unhide HNE) rfl)
  have HK14 := hide hk14
  have HKI := hide hki14
  have hz14 := hk14.size
  clear hk14 hki14 K14 HI14
  go_wp2_with fail
  refine (unhide HI15).mono ?_
  rintro e w15 ⟨rfl, hk15, hfi15⟩
  have HK15 := hide hk15
  have HFI15 := hide hfi15
  have hz15 := hk15.size
  clear hk15 hfi15 HI15
  go_wp2_with fail
  refine (text_any 9 s w15 h4).mono ?_
  rintro e w16 ⟨tv, rfl, ht, hk16⟩
  obtain ⟨tg, tc, rfl, htg1, htg2⟩ := ht.form (by omega)
  have K16 : Keeps (fun _ => False) w11 w16 := ((((unhide HK12).trans (unhide HK13)).trans (unhide HK14)).trans (unhide HK15)).trans hk16
  have hdk16 := (unhide HDK11).keepF K16
  have hwr := write_text w16 _ _ hdk16 0 (by show 0 < n; omega) 9 (base := w15.heap.size) (g := tg) (tc := tc) ht rfl (Int.le_refl _) (by show (-1 : Int) ≤ _; omega) (Nat.zero_le _) (Nat.zero_le _) (Int.le_refl _) (by show (0 : Int) ≤ _; omega)
  have hwr' : Calls Try.prog 12 #[.pointer (some ⟨w9.heap.size + 2, 0, none⟩), .int .i64 (0 : Nat), .slice (some ⟨tg, 0, none⟩) s tc] w16 fun e w' => e = .returned (.int .i64 0) ∧ ∃ Sk : DS, DiskAt w' w9.heap.size Sk ∧ Sk.D = w9.heap.size + 2 ∧ Sk.secs = n ∧ Sk.size = s ∧ Sk.dur = kd ∧ Sk.ws.length ≤ 1 ∧ Sk.r = 0 ∧ Sk.wr = 1 ∧ Sk.f = 0 ∧ Keeps (fun q => w9.heap.size ≤ q ∧ q ≤ w9.heap.size + 2) w16 w' := by
    refine hwr.mono ?_
    rintro e w' ⟨rfl, wv', hd, hk⟩
    refine ⟨rfl, _, hd, rfl, rfl, rfl, rfl, by show ([] ++ [_] : List Wr).length ≤ 1; simp, rfl, rfl, rfl, hk.mono (fun q _ hq => ?_)⟩
    rcases hq with hq | hq | hq | hq
    · have : q = w9.heap.size + 2 := hq
      omega
    · have : q = w9.heap.size := hq
      omega
    · have : q = w9.heap.size + 1 := hq
      omega
    · simp [freshDS, Value.ownBlock] at hq
  have HWR := hide hwr'
  have HK16 := hide hk16
  have HKK16 := hide K16
  have hz16 := hk16.size
  clear hwr hwr' hdk16 ht hk16 K16
  go_wp2_with fail
  refine (unhide HWR).mono ?_
  rintro e w17 ⟨rfl, Sk, hdk17, hkD, hkn, hks, hkdur, hkws, hkr, hkwr, hkf, hk17⟩
  have hz17 := hk17.size
  have hH17 := ((unhide HH11).keep (unhide HKK16) (fun _ f => f.elim) hz6).keep hk17 (fun q hq => by omega) hz6
  have hda17 := ((unhide HDA11).keepF (unhide HKK16)).kept hk17 (fun q hq => by
    rcases hq with hq | hq | hq | hq
    · have : q = w7.heap.size + 2 := hq
      omega
    · have : q = w7.heap.size := hq
      omega
    · have : q = w7.heap.size + 1 := hq
      omega
    · simp [freshDS, Value.ownBlock] at hq) (fun x hx => by cases hx)
  have k16 := unhide HK16
  have k15 := (unhide HK15).trans k16
  have k14 := (unhide HK14).trans k15
  have k13 := (unhide HK13).trans k14
  have bai := ((unhide HAI).keep k13 id).keep hk17 (by omega)
  have bzi := ((unhide HZI).keep k14 id).keep hk17 (by omega)
  have bki := ((unhide HKI).keep k15 id).keep hk17 (by omega)
  have bfi := ((unhide HFI15).keep k16 id).keep hk17 (by omega)
  have HS18 := hide (survive_abs hdk17 hkD hkn hks (.slice none 0 0) [] (bools_nil _) (by omega) (by simp))
  have H17 := hide hH17
  have HDA17 := hide hda17
  have BAI := hide bai
  have BZI := hide bzi
  have BKI := hide bki
  have BFI := hide bfi
  have HDK17 := hide hdk17
  have HKD := hide hkD
  have HKDUR := hide hkdur
  have HKN := hide hkn
  have HKS := hide hks
  have HKR := hide hkr
  have HKWR := hide hkwr
  have HKF := hide hkf
  have hz17' : w9.heap.size + 2 < w17.heap.size := by have := lt_of_block hdk17.blk; omega
  clear hH17 hda17 k16 k15 k14 k13 bai bzi bki bfi hdk17 hkD hkn hks hkdur hkws hkr hkwr hkf hk17 HWR HK16 HKK16 HK15 HK14 HK13 HK12 HAI HZI HKI HFI15 HH11 HDA11 HDZ11 HDK11 HDF11 htg1 htg2
  go_wp2_with fail
  refine (unhide HS18).mono ?_
  rintro e w18 ⟨rfl, hk18, hdt18⟩
  rw [keptTo_none] at hdt18
  have HI19 := hide (image_abs hdt18 (N := N) (D := w17.heap.size + 2) (unhide HNE) rfl)
  have HK18 := hide hk18
  have hz18 := hk18.size
  clear hk18 hdt18 HS18
  go_wp2_with fail
  refine (unhide HI19).mono ?_
  rintro e w19 ⟨rfl, hk19, hti⟩
  have K19 := (unhide HK18).trans hk19
  have hH19 := (unhide H17).keep K19 (fun _ f => f.elim) hz6
  have hda19 := (unhide HDA17).keepF K19
  have hdk19 := (unhide HDK17).keepF K19
  have bai := (unhide BAI).keep K19 id
  have bzi := (unhide BZI).keep K19 id
  have bki := (unhide BKI).keep K19 id
  have bfi := (unhide BFI).keep K19 id
  have lN : (S.redN n).dur.length = N := by rw [hH19.d.dlen, hH19.dn, hH19.ds]; exact unhide HNE
  have lA : (settleAll s (S.redN n).dur (S.redN n).ws).length = N := by
    rw [settleAll_length s n (S.redN n).dur (by rw [lN]; exact (unhide HNE).symm) (S.redN n).ws (fun x hx => by
      have hh := hH19.d.each x hx
      rw [hH19.ds, hH19.dn] at hh
      exact ⟨hh.1, hh.2.1⟩)]
    exact unhide HNE
  have lK : kd.length = N := by
    have hh := hdk19.dlen
    rw [unhide HKDUR, unhide HKN, unhide HKS] at hh
    rw [hh]; exact unhide HNE
  have bti : Blk w19 w18.heap.size kd := by
    have hh : Blk w19 w18.heap.size Sk.dur := hti
    rw [unhide HKDUR] at hh; exact hh
  have bm : Blk w19 w3.heap.size (S.redN n).dur := hH19.m4
  have lim : N ≤ maxLen := by unfold maxLen; omega
  have hE1 := eqBytes_any w19 _ _ _ _ (bai.reads lA N) hH19.h5 (by show (settleAll s (S.redN n).dur (S.redN n).ws).length ≤ _; rw [lA]; exact lim)
  have hE2 := fun q => eqBytes_any (w19.drewN q) _ _ _ _ (Blk.reads (w := w19.drewN q) bzi (l := (S.redN n).dur) lN N) (Blk.reads (w := w19.drewN q) bm lN N) (by rw [lN]; exact lim)
  have hE3 := fun q => eqBytes_any (w19.drewN q) _ _ _ _ (Blk.reads (w := w19.drewN q) bti lK N) (Blk.reads (w := w19.drewN q) bki (l := kd) lK N) (by rw [lK]; exact lim)
  have hE4 := fun q => eqBytes_any (w19.drewN q) _ _ _ _ (Blk.reads (w := w19.drewN q) bfi (l := (S.redN n).dur) lN N) (Blk.reads (w := w19.drewN q) bm lN N) (by rw [lN]; exact lim)
  simp only [decide_true] at hE2 hE3 hE4
  have hE1' : Calls Try.prog 28 #[.slice (some ⟨w11.heap.size, 0, none⟩) N N, .slice (some ⟨gh, 0, none⟩) N ch] w19 fun e w' => e = .returned (.bool true) ∧ ∃ q, w' = w19.drewN q := by
    refine hE1.mono ?_
    rintro e w' ⟨rfl, hq⟩
    exact ⟨ret_bool (decide_eq_true rfl), hq⟩
  have HE1 := hide hE1'
  have HE2 := hide hE2
  have HE3 := hide hE3
  have HE4 := hide hE4
  have H19 := hide hH19
  have HDA19 := hide hda19
  have HDK19 := hide hdk19
  have hz19 := hk19.size
  have LN := hide lN
  have LA := hide lA
  clear hE1 hE1' hE2 hE3 hE4 hH19 hda19 hdk19 bai bzi bki bfi bti bm lN lA lK K19 hk19 hti HI19 HK18 H17 HDA17 HDK17 BAI BZI BKI BFI HKDUR lim
  go_wp2_with fail
  refine (unhide HE1).mono ?_
  rintro e wa ⟨rfl, q1, rfl⟩
  go_wp2_with fail
  refine (unhide HE2 _).mono ?_
  rintro e wa ⟨rfl, q2, rfl⟩
  go_wp2_with fail
  refine (unhide HE3 _).mono ?_
  rintro e wa ⟨rfl, q3, rfl⟩
  go_wp2_with fail
  refine (unhide HE4 _).mono ?_
  rintro e wa ⟨rfl, q4, rfl⟩
  go_wp2_with fail
  obtain ⟨w20, hw20⟩ : ∃ w20, w20 = w19.drewN (q1 + q2 + q3 + q4) := ⟨_, rfl⟩
  have K20 : Keeps (fun _ => False) w19 w20 := by rw [hw20]; exact keeps_drewN _ _
  rw [← hw20]
  have hH20 := (unhide H19).keep K20 (fun _ f => f.elim) hz6
  have hda20 := (unhide HDA19).keepF K20
  have hdk20 := (unhide HDK19).keepF K20
  have HPD := hide (pending_abs hH20.d (D := w.heap.size + 2) (m := m) hH20.dD hH20.dm (by omega))
  have H20 := hide hH20
  have HDA20 := hide hda20
  have HDK20 := hide hdk20
  have hz20 : w19.heap.size ≤ w20.heap.size := K20.size
  clear hH20 hda20 hdk20 K20 hw20 H19 HDA19 HDK19 HE1 HE2 HE3 HE4
  refine (unhide HPD).mono ?_
  rintro e w21 ⟨rfl, wsq, hP21, hW21⟩
  have hH21 := (unhide H20).keep hP21.keeps (fun _ f => f.elim) hz6
  have HIM := hide (image_abs hH21.d (N := N) (D := w.heap.size + 2) (by rw [hH21.dn, hH21.ds]; exact unhide HNE) hH21.dD)
  have H21 := hide hH21
  have HP21 := hide hP21
  have HW21 := hide hW21
  have hz21 := hP21.keeps.size
  clear hH21 hP21 hW21 HPD
  go_wp2_with fail
  refine (unhide HIM).mono ?_
  rintro e w22 ⟨rfl, hk22, hn22⟩
  have hH22 := (unhide H21).keep hk22 (fun _ f => f.elim) hz6
  have HLV := hide (live_abs hH22.d (D := w.heap.size + 2) (n := n) (N := N) hH22.dD hH22.dn (by rw [hH22.dn, hH22.ds]; exact unhide HNE) hH22.ddead hH22.dr0 (by have := hH22.dr1; omega))
  have H22 := hide hH22
  have HK22 := hide hk22
  have HN22 := hide hn22
  have hz22 := hk22.size
  clear hH22 hk22 hn22 HIM
  go_wp2_with fail
  refine (unhide HLV).mono ?_
  rintro e w23 ⟨gg, cg, rfl, hgg, hg23, _, hk23, hgg2⟩
  have H := unhide H22
  have P := unhide HP21
  have hDk : w.heap.size + 2 < w6.heap.size := by have := H.own (w.heap.size + 2) (Or.inl H.dD.symm); exact this
  have hWp := H.p6.kept hk23 (fun b hb hF => by simp [Value.ownBlock] at hb; subst hb; exact H.pne hF) (fun x hx hF => (H.pblk x hx).1 hF)
  have hWq : WritesAt w23 (.slice (some ⟨w20.heap.size, 0, none⟩) m m) s wsq := by
    have h0 := (unhide HW21).keepF (unhide HK22)
    have hs : (S.redN n).size = s := H.ds
    rw [hs] at h0
    exact h0.kept hk23 (fun b hb hF => by simp [Value.ownBlock] at hb; omega) (fun x hx hF => by have := (P.each x hx).2.2; omega)
  have hpair : wsp.map Wr.pair = wsq.map Wr.pair := by rw [H.pp, P.pair, ← H.dm]; exact (congrArg _ List.take_length).symm
  have hEW := eqWrites_any w23 _ _ s wsp wsq hWp hWq (by have := congrArg List.length H.pp; rw [List.length_map, List.length_map, H.dm] at this; omega) h4
  rw [decide_eq_true hpair] at hEW
  have bm : Blk w23 w3.heap.size (S.redN n).dur := H.m4.keep hk23 H.mne
  have bn : Blk w23 w21.heap.size (S.redN n).dur := (unhide HN22).keep hk23 (by omega)
  have hh := H.h5.keepBlk hk23 H.hlt H.hne
  have hgr := hg23
  rw [H.ds] at hgr
  have lim : N ≤ maxLen := by unfold maxLen; omega
  have hE5 := fun q => eqBytes_any (w23.drewN q) _ _ _ _ (Blk.reads (w := w23.drewN q) bm (unhide LN) N) (Blk.reads (w := w23.drewN q) bn (unhide LN) N) (by rw [unhide LN]; exact lim)
  have hE6 := fun q => eqBytes_any (w23.drewN q) (.slice (some ⟨gh, 0, none⟩) N ch) (.slice (some ⟨gg, 0, none⟩) N cg) _ _ (hh.kept (fun _ _ _ hx _ => hx)) (hgr.kept (fun _ _ _ hx _ => hx)) (by rw [unhide LA]; exact lim)
  simp only [decide_true] at hE5 hE6
  have K2022 : Keeps (fun _ => False) w20 w22 := P.keeps.trans (unhide HK22)
  have hda23 := ((unhide HDA20).keepF K2022).kept hk23 (fun q hq hF => by
    rcases hq with hq | hq | hq | hq
    · have : q = w7.heap.size + 2 := hq
      omega
    · have : q = w7.heap.size := hq
      omega
    · have : q = w7.heap.size + 1 := hq
      omega
    · simp [freshDS, Value.ownBlock] at hq) (fun x hx => by cases hx)
  have hdk23 := ((unhide HDK20).keepF K2022).kept hk23 (fun q hq hF => by have := (unhide HDK20).own_lo q hq; omega) (fun x hx hF => by
    have h0 := ((unhide HDK20).each x hx).2.2.1
    have hb := (unhide H20).d.blk
    rw [(unhide H20).dD] at hb
    rw [hF, hb] at h0
    simp at h0)
  have hb23 : Below w.heap.size w w23 := H.below.trans (hk23.below H.below.size (fun q e => by omega))
  have HEW := hide hEW
  have HE5 := hide hE5
  have HE6 := hide hE6
  have HDA23 := hide hda23
  have HDK23 := hide hdk23
  have HB23 := hide hb23
  clear H P hDk hWp hWq hpair hEW bm bn hh hgr lim hE5 hE6 K2022 hda23 hdk23 hb23 hg23 hk23 hgg hgg2 H22 H21 H20 HP21 HW21 HK22 HN22 HDA20 HDK20 HLV LN LA
  go_wp2_with fail
  refine (unhide HEW).mono ?_
  rintro e wa ⟨rfl, q5, rfl⟩
  go_wp2_with fail
  refine (unhide HE5 _).mono ?_
  rintro e wa ⟨rfl, q6, rfl⟩
  go_wp2_with fail
  refine (unhide HE6 _).mono ?_
  rintro e wa ⟨rfl, q7, rfl⟩
  go_wp2_with fail
  obtain ⟨w24, hw24⟩ : ∃ w24, w24 = w23.drewN (q5 + q6 + q7) := ⟨_, rfl⟩
  have K24 : Keeps (fun _ => False) w23 w24 := by rw [hw24]; exact keeps_drewN _ _
  rw [← hw24]
  have HPA := hide (pending_abs ((unhide HDA23).keepF K24) (D := w7.heap.size + 2) (m := 0) rfl rfl (by omega))
  have HK24 := hide K24
  clear K24 hw24 HEW HE5 HE6
  refine (unhide HPA).mono ?_
  rintro e w25 ⟨rfl, wse, hP25, _⟩
  have K25 := (unhide HK24).trans hP25.keeps
  have hst := stats_any w25 _ _ ((unhide HDK23).keepF K25)
  rw [unhide HKD, unhide HKR, unhide HKWR, unhide HKF] at hst
  have HST := hide hst
  have hb25 : Below w.heap.size w w25 := (unhide HB23).trans (K25.below (unhide HB23).size (fun _ f => f.elim))
  have HB25 := hide hb25
  clear K25 hP25 hst hb25 HPA HK24
  go_wp2_with fail
  refine (unhide HST).mono ?_
  rintro e w26 ⟨rfl, rfl⟩
  go_wp2
  go_ret
  exact ⟨rfl, (unhide HB25).alloc (unhide HB25).size _⟩

set_option maxRecDepth 100000 in
set_option maxHeartbeats 2000000 in
theorem diskSurvivors_invalid (w : World) (n s : Int) (v kv : Value) (h : ¬ (1 ≤ n ∧ n ≤ 16384 ∧ 32 ≤ s ∧ s ≤ 1024)) :
    Calls Try.prog 7 #[.int .i64 n, .int .i64 s, v, kv] w fun e w' => e = .returned (.bool true) ∧ Below w.heap.size w w' := by
  have HN := hide h
  clear h
  go_enter Try.func7, Try.ntmps7
  go_wp2_with fail
  refine (made_no _ _ _ (unhide HN)).mono ?_
  rintro e w1 ⟨rfl, rfl⟩
  go_wp2
  go_ret
  exact ⟨rfl, Below.refl _ _⟩

set_option maxRecDepth 100000 in
set_option maxHeartbeats 2000000 in
theorem diskSurvivors_long (w : World) (n s : Nat) (ao : Option Addr) (len cap : Nat) (kv : Value) (hlen : 2147483647 < len) (h1 : 1 ≤ n) (h2 : n ≤ 16384) (h3 : 32 ≤ s) (h4 : s ≤ 1024) :
    Calls Try.prog 7 #[.int .i64 n, .int .i64 s, .slice ao len cap, kv] w fun e w' => e = .returned (.bool true) ∧ Below w.heap.size w w' := by
  have hN : decide ((2147483647 : Int) < (len : Int)) = true := by simp; omega
  go_enter Try.func7, Try.ntmps7
  go_wp2_with fail
  refine (made_yes n s w h1 h2 h3 h4).mono ?_
  rintro e w1 ⟨rfl, hd1, hk1⟩
  have HK := hide hk1
  clear hd1 hk1
  go_wp2_with fail
  refine (long_any _ _).mono ?_
  rintro e w2 ⟨rfl, rfl⟩
  go_wp2
  go_ret
  exact ⟨rfl, (unhide HK).below (Nat.le_refl _) (fun _ f => f.elim)⟩

end Go.Proofs.Ytjmbcelkhiopeaa
