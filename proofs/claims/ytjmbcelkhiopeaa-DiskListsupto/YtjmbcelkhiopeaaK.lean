import Derived.Test.YtjmbcelkhiopeaaJ
namespace Go.Proofs.Ytjmbcelkhiopeaa
open Go.RowKit Go.Maps
attribute [local go_sem ↓] Go.wp_at_zero Go.wp_at_succ

def wantL (acts : List Pt) (s : Nat) (i : Int) : List Int := if i < 0 then List.replicate s 0 else match acts[i.toNat]? with
  | some p => textL p.b s
  | none => []

structure HInv (w : World) (acts : List Pt) (n s k : Nat) (S : DS) (w' : World) : Prop where
  disk : DiskAt w' w.heap.size S
  D : S.D = w.heap.size + 2
  secs : S.secs = n
  size : S.size = s
  dead : S.dead = false
  left : S.left = -1
  mn : S.mn ≤ k
  ws : S.ws.length ≤ k
  wr0 : 0 ≤ S.wr
  wr1 : S.wr ≤ k
  f0 : 0 ≤ S.f
  f1 : S.f ≤ k
  r : S.r = 0
  holds : ∀ a : Nat, a < n → S.holdsAt a = wantL acts s (lastI acts a k)
  below : Below w.heap.size w w'

theorem lastI_succ (acts : List Pt) (a : Int) (k : Nat) (p : Pt) (hp : acts[k]? = some p) : lastI acts a (k + 1) = if p.flush = false ∧ p.sec = a then (k : Int) else lastI acts a k := by
  simp [lastI, hp]

theorem HInv.flush {w wr w' : World} {acts : List Pt} {n s k : Nat} {S : DS} (I : HInv w acts n s k S wr) {M : DataW Unit} (hd : DiskAt w' w.heap.size (S.flushed M)) (hk : Keeps S.own wr w') {p : Pt} (hp : acts[k]? = some p) (hf : p.flush = true) : HInv w acts n s (k + 1) (S.flushed M) w' := by
  refine ⟨hd, I.D, I.secs, I.size, I.dead, I.left, by have := I.mn; show S.mn ≤ _; omega, Nat.zero_le _, I.wr0, by have := I.wr1; show S.wr ≤ _; omega, by have := I.f0; show 0 ≤ S.f + 1; omega, by have := I.f1; show S.f + 1 ≤ _; omega, I.r, ?_, I.below.trans (hk.below I.below.size I.disk.own_lo)⟩
  intro a ha
  rw [holdsAt_flushed I.disk, I.holds a ha, lastI_succ _ _ _ _ hp, if_neg (by simp [hf])]

theorem HInv.wrote {w wr wt w' : World} {acts : List Pt} {n s k : Nat} {S : DS} (I : HInv w acts n s k S wr) {a g : Nat} {l : List Int} {wv : Value} (hd : DiskAt w' w.heap.size (S.wrote a g l wv (if S.left ≤ 0 then S.left else S.left - 1) (decide (S.left = 0)) (if S.left = 0 then S.wr else S.wr + 1))) (hk0 : Keeps (fun _ => False) wr wt) (hk : Keeps S.own wt w') {b : Int} (hp : acts[k]? = some ⟨false, a, b⟩) (hl : l = textL b s) :
    HInv w acts n s (k + 1) (S.wrote a g l wv (if S.left ≤ 0 then S.left else S.left - 1) (decide (S.left = 0)) (if S.left = 0 then S.wr else S.wr + 1)) w' := by
  have hl0 := I.left
  refine ⟨hd, I.D, I.secs, I.size, ?_, ?_, ?_, ?_, ?_, ?_, I.f0, ?_, I.r, ?_, ?_⟩
  · show decide (S.left = 0) = false; rw [hl0]; rfl
  · show (if S.left ≤ 0 then S.left else S.left - 1) = -1; rw [hl0]; rfl
  · have := I.mn; show S.mn + 1 ≤ k + 1; omega
  · have := I.ws; show (S.ws ++ [_]).length ≤ k + 1; simp; omega
  · have := I.wr0; show 0 ≤ (if S.left = 0 then S.wr else S.wr + 1); rw [hl0]; simp; omega
  · have := I.wr1; show (if S.left = 0 then S.wr else S.wr + 1) ≤ _; rw [hl0]; simp; omega
  · have := I.f1; show S.f ≤ _; omega
  · intro c hc
    rw [holdsAt_wrote, lastI_succ _ _ _ _ hp]
    by_cases e : a = c
    · subst e
      simp [wantL, hp, hl]
      intro h; omega
    · rw [if_neg e, if_neg (by simp; omega), I.holds c hc]
  · have h1 := hk0.below (B := w.heap.size) I.below.size (fun _ f => f.elim)
    have h2 := hk.below (B := w.heap.size) (Nat.le_trans I.below.size hk0.size) I.disk.own_lo
    exact (I.below.trans h1).trans h2

theorem HInv.skip {w wr wt : World} {acts : List Pt} {n s k : Nat} {S : DS} (I : HInv w acts n s k S wr) (hk0 : Keeps (fun _ => False) wr wt) {p : Pt} (hp : acts[k]? = some p) (h : p.sec < 0 ∨ (n : Int) ≤ p.sec) : HInv w acts n s (k + 1) S wt := by
  refine ⟨I.disk.kept hk0 (fun _ _ => id) (fun _ _ => id), I.D, I.secs, I.size, I.dead, I.left, by have := I.mn; omega, by have := I.ws; omega, I.wr0, by have := I.wr1; omega, I.f0, by have := I.f1; omega, I.r, ?_, I.below.trans (hk0.below I.below.size (fun _ f => f.elim))⟩
  intro c hc
  rw [I.holds c hc, lastI_succ _ _ _ _ hp, if_neg (by rintro ⟨_, e⟩; omega)]

theorem HInv.writes {w wr wt : World} {acts : List Pt} {n s k : Nat} {S : DS} (I : HInv w acts n s k S wr) (hk0 : Keeps (fun _ => False) wr wt) {base g tc c : Nat} {bb : Int}
    (ht : wt.ownsRow base 5 1 (.slice (some ⟨g, 0, none⟩) s tc) s (bs (textL bb s))) (hk : k ≤ 2147483647) (hc : c < n) (hp : acts[k]? = some ⟨false, c, bb⟩) :
    Calls Try.prog 12 #[.pointer (some ⟨w.heap.size + 2, 0, none⟩), .int .i64 c, .slice (some ⟨g, 0, none⟩) s tc] wt fun e w' => e = .returned (.int .i64 0) ∧ ∃ S', HInv w acts n s (k + 1) S' w' := by
  have hd := I.disk.kept hk0 (fun _ _ => id) (fun _ _ => id)
  have hw := write_ok wt _ S hd c g 0 tc (textL bb s) (by rw [I.secs]; exact hc) (by rw [textL_length, I.size]) (by
    intro j x hx
    have := ht.cells (g := g) rfl j (.int .u8 x) (by rw [bs_get, hx]; rfl)
    rwa [Addr.add_lit] at this) I.dead (by rw [I.left]; omega) (by rw [I.left]; omega) (by have := I.mn; omega) (by have := I.ws; omega) I.wr0 (by have := I.wr1; omega)
  rw [I.D, I.size] at hw
  refine hw.mono ?_
  rintro e w' ⟨rfl, wv', h1, h2, _⟩
  refine ⟨?_, _, I.wrote h1 hk0 h2 hp rfl⟩
  rw [I.left]; rfl

theorem HInv.refuses {w wr wt : World} {acts : List Pt} {n s k : Nat} {S : DS} (I : HInv w acts n s k S wr) (hk0 : Keeps (fun _ => False) wr wt) (bv : Value) {p : Pt} (hp : acts[k]? = some p) (h : p.sec < 0 ∨ (n : Int) ≤ p.sec) :
    Calls Try.prog 12 #[.pointer (some ⟨w.heap.size + 2, 0, none⟩), .int .i64 p.sec, bv] wt fun e w' => e = .returned (.int .i64 11) ∧ ∃ S', HInv w acts n s (k + 1) S' w' := by
  have J := I.skip hk0 hp h
  have hb := J.disk.blk
  rw [J.D] at hb
  refine (write_sector (w.heap.size + 2) n p.sec bv wt (by rw [cell_of_blk hb, ← J.secs]; rfl) (by rw [cell_of_blk hb, ← J.dead]; rfl) h).mono ?_
  rintro e w' ⟨rfl, rfl⟩
  exact ⟨rfl, _, J⟩

set_option maxRecDepth 100000 in
set_option maxHeartbeats 2000000 in
theorem diskHolds_any (w : World) (n s : Nat) (v : Value) (acts : List Pt) (a : Int) (hA : Acts w v acts) (hlen : acts.length ≤ 2147483647) (h1 : 1 ≤ n) (h2 : n ≤ 16384) (h3 : 32 ≤ s) (h4 : s ≤ 1024) :
    Calls Try.prog 3 #[.int .i64 n, .int .i64 s, v, .int .i64 a] w fun e w' => e = .returned (.bool true) ∧ Below w.heap.size w w' := by
  obtain ⟨ao, cap, rfl⟩ := hA.form
  have HA := hide hA
  have hN : decide ((2147483647 : Int) < (acts.length : Int)) = false := by simp; omega
  clear hA
  go_enter Try.func3, Try.ntmps3
  go_wp2_with fail
  refine (made_yes n s w h1 h2 h3 h4).mono ?_
  rintro e w1 ⟨rfl, hd1, hk1⟩
  have HI0 : Hid (HInv w acts n s 0 (newDS w.heap.size n s) w1) := by
    refine ⟨hd1, rfl, rfl, rfl, rfl, rfl, Nat.le_refl _, Nat.le_refl _, Int.le_refl _, Int.le_refl _, Int.le_refl _, Int.le_refl _, rfl, ?_, hk1.below (Nat.le_refl _) (fun _ f => f.elim)⟩
    intro c hc
    have := sec_fits (size := s) hc
    simp [lastI, wantL, DS.holdsAt, newDS, lastAt]
    omega
  clear hd1 hk1
  go_wp2_with fail
  refine (long_any _ _).mono ?_
  rintro e w2 ⟨rfl, rfl⟩
  go_wp2_with fail
  go_loopw [11] (fun i wr => ∃ k : Nat, k ≤ acts.length ∧ i = .int .i64 k ∧ ∃ S, HInv w acts n s k S wr) (fun i _ => acts.length - (intOf i).toNat)
  case atStart => exact ⟨0, Nat.zero_le _, rfl, _, unhide HI0⟩
  case round =>
    obtain ⟨k, hk, rfl, S, hI⟩ := hrel
    have hS1 := hI.secs
    have hS2 := hI.size
    have hSD := hI.D
    by_cases hlt : k < acts.length
    · obtain ⟨b, off, cap', e1, hblt, hc⟩ := (unhide HA).cells (by omega)
      simp at e1
      obtain ⟨rfl, rfl⟩ := e1
      obtain ⟨p, hp⟩ : ∃ p, acts[k]? = some p := ⟨_, List.getElem?_eq_getElem hlt⟩
      obtain ⟨c0, c1, c2⟩ := hc k p hp
      obtain ⟨fl, sc, bb⟩ := p
      simp only at c0 c1 c2
      have HP := hide hp
      have i1 : (k : Int) < (acts.length : Int) := by omega
      have i0 : (0 : Int) ≤ (k : Int) := by omega
      have d0 := (hI.below.cell (p := ⟨b, off + k * 3, none⟩) hblt).trans c0
      have d1 := (hI.below.cell (p := ⟨b, off + k * 3 + 1, none⟩) hblt).trans c1
      have d2 := (hI.below.cell (p := ⟨b, off + k * 3 + 2, none⟩) hblt).trans c2
      have HI := hide hI
      clear hc hp c0 c1 c2 hI
      cases fl with
      | true =>
        have HF := hide (flush_ok wr _ S (unhide HI).disk (unhide HI).dead (by have := (unhide HI).ws; omega) (unhide HI).f0 (by have := (unhide HI).f1; omega))
        rw [hSD] at HF
        clear hS1 hS2 hSD
        go_wp2_with fail
        refine (unhide HF).mono ?_
        rintro e w3 ⟨rfl, M, hd, hk3⟩
        have HD := hide hd
        have HK := hide hk3
        clear hd hk3
        go_wp2
        go_roundw
        case rel => exact ⟨k + 1, by omega, by go_num, _, (unhide HI).flush (unhide HD) (unhide HK) (unhide HP) rfl⟩
        case measure => simp [intOf]; omega
      | false =>
        have HT := hide (text_any bb s wr h4)
        by_cases hin : 0 ≤ sc ∧ sc < (n : Int)
        · obtain ⟨ha0, ha1⟩ := hin
          obtain ⟨c, rfl⟩ := Int.eq_ofNat_of_zero_le ha0
          clear hS1 hS2 hSD
          go_wp2_with fail
          go_region_held3 (fun w' => w'.cell? ⟨b, off + k * 3 + 1, none⟩ = some (.int .i64 c) ∧ w'.cell? ⟨b, off + k * 3 + 2, none⟩ = some (.int .u8 bb))
            (go_keep)
            (first
              | (go_at_call 13
                 refine (text_any bb s _ h4).mono ?_
                 rintro e wt ⟨tv, rfl, ht, hkt⟩
                 obtain ⟨g, tc, rfl, hg1, hg2⟩ := ht.form (by omega)
                 have k1 : wt.cell? ⟨b, off + k * 3 + 1, none⟩ = some (.int .i64 c) := (hkt.cell (Nat.lt_of_lt_of_le hblt (unhide HI).below.size) id).trans d1
                 have k2 : wt.cell? ⟨b, off + k * 3 + 2, none⟩ = some (.int .u8 bb) := (hkt.cell (Nat.lt_of_lt_of_le hblt (unhide HI).below.size) id).trans d2
                 have HT1 := hide ht
                 have HK1 := hide hkt
                 clear ht hkt)
              | (go_at_call 12
                 refine (HInv.writes (unhide HI) (w := w) ((Keeps.refl _ _).drew.trans (unhide HK1)) (unhide HT1) (by omega) (by omega) (unhide HP)).mono ?_
                 rintro e w3 ⟨rfl, S', hI'⟩
                 have k3 : w3.cell? ⟨b, off + k * 3 + 1, none⟩ = some (.int .i64 c) := (hI'.below.cell (p := ⟨b, _, none⟩) hblt).trans (((unhide HI).below.cell (p := ⟨b, _, none⟩) hblt).symm.trans d1)
                 have k4 : w3.cell? ⟨b, off + k * 3 + 2, none⟩ = some (.int .u8 bb) := (hI'.below.cell (p := ⟨b, _, none⟩) hblt).trans (((unhide HI).below.cell (p := ⟨b, _, none⟩) hblt).symm.trans d2)
                 have HI' := hide hI'
                 clear hI'))
          go_wp2
          go_roundw
          case rel => exact ⟨k + 1, by omega, by go_num, _, unhide HI'⟩
          case measure => simp [intOf]; omega
        · have hout : sc < 0 ∨ (n : Int) ≤ sc := by omega
          have HO := hide hout
          have hcase : sc < 0 ∨ (¬ sc < 0 ∧ (n : Int) ≤ sc) := by omega
          clear hS1 hS2 hSD hin hout
          rcases hcase with hneg | ⟨hneg, hbig⟩
          all_goals
            go_wp2_with fail
            go_region_held3 (fun w' => w'.cell? ⟨b, off + k * 3 + 1, none⟩ = some (.int .i64 sc) ∧ w'.cell? ⟨b, off + k * 3 + 2, none⟩ = some (.int .u8 bb))
              (go_keep)
              (first
                | (go_at_call 13
                   refine (text_any bb s _ h4).mono ?_
                   rintro e wt ⟨tv, rfl, ht, hkt⟩
                   have k1 : wt.cell? ⟨b, off + k * 3 + 1, none⟩ = some (.int .i64 sc) := (hkt.cell (Nat.lt_of_lt_of_le hblt (unhide HI).below.size) id).trans d1
                   have k2 : wt.cell? ⟨b, off + k * 3 + 2, none⟩ = some (.int .u8 bb) := (hkt.cell (Nat.lt_of_lt_of_le hblt (unhide HI).below.size) id).trans d2
                   have HT1 := hide ht
                   have HK1 := hide hkt
                   clear ht hkt)
                | (go_at_call 12
                   refine (HInv.refuses (unhide HI) (w := w) ((Keeps.refl _ _).drew.trans (unhide HK1)) _ (unhide HP) (unhide HO)).mono ?_
                   rintro e w3 ⟨rfl, S', hI'⟩
                   have k3 : w3.cell? ⟨b, off + k * 3 + 1, none⟩ = some (.int .i64 sc) := (hI'.below.cell (p := ⟨b, _, none⟩) hblt).trans (((unhide HI).below.cell (p := ⟨b, _, none⟩) hblt).symm.trans d1)
                   have k4 : w3.cell? ⟨b, off + k * 3 + 2, none⟩ = some (.int .u8 bb) := (hI'.below.cell (p := ⟨b, _, none⟩) hblt).trans (((unhide HI).below.cell (p := ⟨b, _, none⟩) hblt).symm.trans d2)
                   have HI' := hide hI'
                   clear hI'))
            go_wp2
            go_roundw
            case rel => exact ⟨k + 1, by omega, by go_num, _, unhide HI'⟩
            case measure => simp [intOf]; omega
    · obtain rfl : k = acts.length := by omega
      have hb := hI.disk.blk
      rw [hSD] at hb
      have c0 : wr.cell? ⟨w.heap.size + 2, 0, none⟩ = some (.int .i64 n) := by rw [cell_of_blk hb, ← hS1]; rfl
      have c6 : wr.cell? ⟨w.heap.size + 2, 6, none⟩ = some (.bool false) := by rw [cell_of_blk hb, ← hI.dead]; rfl
      have HB := hide hI.below
      by_cases hin : 0 ≤ a ∧ a < (n : Int)
      · obtain ⟨ha0, ha1⟩ := hin
        obtain ⟨c, rfl⟩ := Int.eq_ofNat_of_zero_le ha0
        have hAr := (unhide HA).kept hI.below
        have HLAST := hide (last_any wr _ acts (c : Int) acts.length hAr (Nat.le_refl _) hlen)
        have hbd := lastI_lt acts (c : Int) acts.length
        have hget := lastI_get acts (c : Int) acts.length
        have hho := hI.holds c (by omega)
        by_cases hneg : lastI acts (c : Int) acts.length < 0
        · have em : lastI acts (c : Int) acts.length = -1 := by omega
          have hw : S.holdsAt c = List.replicate s 0 := by rw [hho]; simp [wantL, em]
          have hh := holds_zero wr _ S hI.disk c (by rw [hS1]; omega) hI.dead (by rw [hI.r]; omega) (by rw [hI.r]; omega) (.slice ao acts.length cap)
          rw [hSD, hS2, hw, decide_eq_true rfl] at hh
          rw [em] at HLAST
          have HH := hide hh
          clear hI hb hw hh em hneg hho hget hbd hAr hS1 hS2 hSD
          go_wp2_with fail
          refine (unhide HLAST).mono ?_
          rintro e w4 ⟨rfl, rfl⟩
          go_wp2_with fail
          refine (unhide HH).mono ?_
          rintro e w5 ⟨rfl, _, hk5⟩
          go_wp2
          go_ret
          exact ⟨rfl, (unhide HB).trans (hk5.below (unhide HB).size (fun k e => by omega))⟩
        · obtain ⟨p, hp⟩ := hget (by omega)
          obtain ⟨m, em⟩ := Int.eq_ofNat_of_zero_le (Int.not_lt.1 hneg)
          have hw : S.holdsAt c = textL p.b s := by rw [hho]; simp only [wantL]; rw [if_neg hneg, hp]
          rw [em] at hp HLAST
          simp only [Int.toNat_natCast] at hp
          have hh := holds_text wr _ S hI.disk c (by rw [hS1]; omega) hI.dead (by rw [hI.r]; omega) (by rw [hI.r]; omega) (.slice ao acts.length cap) acts hAr m p hp (by
            intro b off n' cap' e
            have hl' : 0 < acts.length := by have := (List.getElem?_eq_some_iff.1 hp).1; omega
            obtain ⟨b2, off2, cap2, e2, hlt2, _⟩ := (unhide HA).cells hl'
            rw [e] at e2
            simp at e2
            obtain ⟨⟨rfl, _⟩, _⟩ := e2
            omega)
          rw [hSD, hS2, hw, decide_eq_true rfl] at hh
          have HH := hide hh
          clear hI hb hw hh em hneg hho hget hbd hAr hS1 hS2 hSD hp
          go_wp2_with fail
          refine (unhide HLAST).mono ?_
          rintro e w4 ⟨rfl, rfl⟩
          go_wp2_with fail
          refine (unhide HH).mono ?_
          rintro e w5 ⟨rfl, _, hk5⟩
          go_wp2
          go_ret
          exact ⟨rfl, (unhide HB).trans (hk5.below (unhide HB).size (fun k e => by omega))⟩
      · have HO := hide (show a < 0 ∨ (n : Int) ≤ a by omega)
        have hcase : a < 0 ∨ (¬ a < 0 ∧ (n : Int) ≤ a) := by omega
        clear hin hI hb hS1 hS2 hSD
        rcases hcase with hneg | ⟨hneg, hbig⟩
        all_goals
          go_wp2_with fail
          refine (read_sector _ _ _ _ c0 c6 (unhide HO)).mono ?_
          rintro e w4 ⟨rfl, rfl⟩
          go_wp2
          go_ret
          exact ⟨rfl, unhide HB⟩

set_option maxRecDepth 100000 in
set_option maxHeartbeats 2000000 in
theorem diskHolds_invalid (w : World) (n s : Int) (v : Value) (a : Int) (h : ¬ (1 ≤ n ∧ n ≤ 16384 ∧ 32 ≤ s ∧ s ≤ 1024)) :
    Calls Try.prog 3 #[.int .i64 n, .int .i64 s, v, .int .i64 a] w fun e w' => e = .returned (.bool true) ∧ Below w.heap.size w w' := by
  have HN := hide h
  clear h
  go_enter Try.func3, Try.ntmps3
  go_wp2_with fail
  refine (made_no _ _ _ (unhide HN)).mono ?_
  rintro e w1 ⟨rfl, rfl⟩
  go_wp2
  go_ret
  exact ⟨rfl, Below.refl _ _⟩

set_option maxRecDepth 100000 in
set_option maxHeartbeats 2000000 in
theorem diskHolds_long (w : World) (n s : Nat) (ao : Option Addr) (len cap : Nat) (a : Int) (hlen : 2147483647 < len) (h1 : 1 ≤ n) (h2 : n ≤ 16384) (h3 : 32 ≤ s) (h4 : s ≤ 1024) :
    Calls Try.prog 3 #[.int .i64 n, .int .i64 s, .slice ao len cap, .int .i64 a] w fun e w' => e = .returned (.bool true) ∧ Below w.heap.size w w' := by
  have hN : decide ((2147483647 : Int) < (len : Int)) = true := by simp; omega
  go_enter Try.func3, Try.ntmps3
  go_wp2_with fail
  refine (made_yes n s w h1 h2 h3 h4).mono ?_
  rintro e w1 ⟨rfl, hd1, hk1⟩
  have HK := hide hk1
  clear hd1 hk1
  go_wp2_with fail
  refine (long_any _ _).mono ?_
  rintro e w2 ⟨rfl, rfl⟩
  go_wp2
  go_ret
  exact ⟨rfl, (unhide HK).below (Nat.le_refl _) (fun _ f => f.elim)⟩

end Go.Proofs.Ytjmbcelkhiopeaa
