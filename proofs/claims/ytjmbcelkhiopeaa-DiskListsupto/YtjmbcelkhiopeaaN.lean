import Derived.Test.YtjmbcelkhiopeaaM
import Derived.Test.YtjmbcelkhiopeaaK
namespace Go.Proofs.Ytjmbcelkhiopeaa
open Go.RowKit Go.Maps

/-- What a disk is, without where it lies. -/
structure AS where
  dur : List Int
  ws : List (Nat × List Int)
  left : Int
  dead : Bool
  wr : Int
  f : Int

def DS.view (S : DS) : AS := ⟨S.dur, S.ws.map (fun x => (x.sec, x.bytes)), S.left, S.dead, S.wr, S.f⟩

def settleV (size : Nat) (dur : List Int) (ws : List (Nat × List Int)) : List Int := ws.foldl (fun d x => put d (x.1 * size) x.2) dur

theorem settleAll_view (size : Nat) (dur : List Int) (ws : List Wr) : settleAll size dur ws = settleV size dur (ws.map (fun x => (x.sec, x.bytes))) := by
  simp [settleAll, settleV, List.foldl_map]

def stepA (n s : Nat) (A : AS) (p : Pt) : AS :=
  if p.flush = true then { A with dur := settleV s A.dur A.ws, ws := [], f := A.f + 1 }
  else if 0 ≤ p.sec ∧ p.sec < (n : Int) then { A with ws := A.ws ++ [(p.sec.toNat, textL p.b s)], left := if A.left ≤ 0 then A.left else A.left - 1, dead := decide (A.left = 0), wr := if A.left = 0 then A.wr else A.wr + 1 }
  else A

def runA (n s : Nat) (A : AS) (acts : List Pt) : AS := acts.foldl (stepA n s) A

theorem runA_succ (n s : Nat) (A : AS) (acts : List Pt) (k : Nat) (p : Pt) (hp : acts[k]? = some p) : runA n s A (acts.take (k + 1)) = stepA n s (runA n s A (acts.take k)) p := by
  rw [take_snoc _ _ _ hp]; simp [runA]

structure PInv (w : World) (D : Nat) (r : Int) (A0 : AS) (acts : List Pt) (n s k : Nat) (S : DS) (w' : World) : Prop where
  disk : DiskAt w' w.heap.size S
  D : S.D = D
  secs : S.secs = n
  size : S.size = s
  view : S.view = runA n s A0 (acts.take k)
  left0 : -1 ≤ S.left
  left1 : S.left ≤ 9223372036854775807
  mn : S.mn ≤ k
  ws : S.ws.length ≤ k
  wr0 : 0 ≤ S.wr
  wr1 : S.wr ≤ k
  f0 : 0 ≤ S.f
  f1 : S.f ≤ k
  r : S.r = r
  prev : ∀ j, j < k → (runA n s A0 (acts.take j)).dead = false
  below : Below w.heap.size w w'

theorem PInv.flush {w wr w' : World} {D : Nat} {r : Int} {A0 : AS} {acts : List Pt} {n s k : Nat} {S : DS} (I : PInv w D r A0 acts n s k S wr) (hdead : S.dead = false) {M : DataW Unit} (hd : DiskAt w' w.heap.size (S.flushed M)) (hk : Keeps S.own wr w') {p : Pt} (hp : acts[k]? = some p) (hf : p.flush = true) :
    PInv w D r A0 acts n s (k + 1) (S.flushed M) w' := by
  refine ⟨hd, I.D, I.secs, I.size, ?_, I.left0, I.left1, by have := I.mn; show S.mn ≤ _; omega, Nat.zero_le _, I.wr0, by have := I.wr1; show S.wr ≤ _; omega, by have := I.f0; show 0 ≤ S.f + 1; omega, by have := I.f1; show S.f + 1 ≤ _; omega, I.r, ?_, I.below.trans (hk.below I.below.size I.disk.own_lo)⟩
  · rw [runA_succ _ _ _ _ _ _ hp, ← I.view]
    simp only [stepA, hf, if_true]
    simp only [DS.view, DS.flushed, settleAll_view, I.size, List.map_nil]
  · intro j hj
    rcases Nat.lt_succ_iff_lt_or_eq.1 hj with h | rfl
    · exact I.prev j h
    · rw [← I.view]; exact hdead

theorem PInv.wrote {w wr wt w' : World} {D : Nat} {r : Int} {A0 : AS} {acts : List Pt} {n s k : Nat} {S : DS} (I : PInv w D r A0 acts n s k S wr) (hdead : S.dead = false) {a g : Nat} {l : List Int} {wv : Value} (hd : DiskAt w' w.heap.size (S.wrote a g l wv (if S.left ≤ 0 then S.left else S.left - 1) (decide (S.left = 0)) (if S.left = 0 then S.wr else S.wr + 1))) (hk0 : Keeps (fun _ => False) wr wt) (hk : Keeps S.own wt w') {b : Int} (hp : acts[k]? = some ⟨false, a, b⟩) (ha : a < n) (hl : l = textL b s) :
    PInv w D r A0 acts n s (k + 1) (S.wrote a g l wv (if S.left ≤ 0 then S.left else S.left - 1) (decide (S.left = 0)) (if S.left = 0 then S.wr else S.wr + 1)) w' := by
  have hl0 := I.left0
  have hl1 := I.left1
  refine ⟨hd, I.D, I.secs, I.size, ?_, ?_, ?_, ?_, ?_, ?_, ?_, I.f0, ?_, I.r, ?_, ?_⟩
  · rw [runA_succ _ _ _ _ _ _ hp, ← I.view]
    simp only [stepA]
    rw [if_neg (show ¬ (false = true) by simp), if_pos (show (0 : Int) ≤ (a : Int) ∧ (a : Int) < (n : Int) by omega)]
    simp only [DS.view, DS.wrote, List.map_append, List.map_cons, List.map_nil, hl, Int.toNat_natCast]
    rfl
  · show -1 ≤ (if S.left ≤ 0 then S.left else S.left - 1); split <;> omega
  · show (if S.left ≤ 0 then S.left else S.left - 1) ≤ _; split <;> omega
  · have := I.mn; show S.mn + 1 ≤ k + 1; omega
  · have := I.ws; show (S.ws ++ [_]).length ≤ k + 1; simp; omega
  · have := I.wr0; show 0 ≤ (if S.left = 0 then S.wr else S.wr + 1); split <;> omega
  · have := I.wr1; show (if S.left = 0 then S.wr else S.wr + 1) ≤ _; split <;> omega
  · have := I.f1; show S.f ≤ _; omega
  · intro j hj
    rcases Nat.lt_succ_iff_lt_or_eq.1 hj with h | rfl
    · exact I.prev j h
    · rw [← I.view]; exact hdead
  · have h1 := hk0.below (B := w.heap.size) I.below.size (fun _ f => f.elim)
    have h2 := hk.below (B := w.heap.size) (Nat.le_trans I.below.size hk0.size) I.disk.own_lo
    exact (I.below.trans h1).trans h2

theorem PInv.skip {w wr wt : World} {D : Nat} {r : Int} {A0 : AS} {acts : List Pt} {n s k : Nat} {S : DS} (I : PInv w D r A0 acts n s k S wr) (hdead : S.dead = false) (hk0 : Keeps (fun _ => False) wr wt) {p : Pt} (hp : acts[k]? = some p) (hf : p.flush = false) (h : p.sec < 0 ∨ (n : Int) ≤ p.sec) : PInv w D r A0 acts n s (k + 1) S wt := by
  refine ⟨I.disk.kept hk0 (fun _ _ => id) (fun _ _ => id), I.D, I.secs, I.size, ?_, I.left0, I.left1, by have := I.mn; omega, by have := I.ws; omega, I.wr0, by have := I.wr1; omega, I.f0, by have := I.f1; omega, I.r, ?_, I.below.trans (hk0.below I.below.size (fun _ f => f.elim))⟩
  · rw [runA_succ _ _ _ _ _ _ hp, ← I.view]
    simp only [stepA]
    rw [if_neg (by simp [hf]), if_neg (by omega)]
  · intro j hj
    rcases Nat.lt_succ_iff_lt_or_eq.1 hj with h | rfl
    · exact I.prev j h
    · rw [← I.view]; exact hdead

theorem PInv.writes {w wr wt : World} {D : Nat} {r : Int} {A0 : AS} {acts : List Pt} {n s k : Nat} {S : DS} (I : PInv w D r A0 acts n s k S wr) (hdead : S.dead = false) (hk0 : Keeps (fun _ => False) wr wt) {base g tc c : Nat} {bb : Int}
    (ht : wt.ownsRow base 5 1 (.slice (some ⟨g, 0, none⟩) s tc) s (bs (textL bb s))) (hk : k ≤ 2147483647) (hc : c < n) (hp : acts[k]? = some ⟨false, c, bb⟩) :
    Calls Try.prog 12 #[.pointer (some ⟨D, 0, none⟩), .int .i64 c, .slice (some ⟨g, 0, none⟩) s tc] wt fun e w' => e = .returned (.int .i64 (if S.left = 0 then 10 else 0)) ∧ ∃ S', PInv w D r A0 acts n s (k + 1) S' w' ∧ S'.left = (if S.left ≤ 0 then S.left else S.left - 1) ∧ S'.dead = decide (S.left = 0) := by
  have hd := I.disk.kept hk0 (fun _ _ => id) (fun _ _ => id)
  have hw := write_ok wt _ S hd c g 0 tc (textL bb s) (by rw [I.secs]; exact hc) (by rw [textL_length, I.size]) (by
    intro j x hx
    have := ht.cells (g := g) rfl j (.int .u8 x) (by rw [bs_get, hx]; rfl)
    rwa [Addr.add_lit] at this) hdead I.left0 I.left1 (by have := I.mn; omega) (by have := I.ws; omega) I.wr0 (by have := I.wr1; omega)
  rw [I.D, I.size] at hw
  refine hw.mono ?_
  rintro e w' ⟨rfl, wv', h1, h2, _⟩
  exact ⟨rfl, _, I.wrote hdead h1 hk0 h2 hp hc rfl, rfl, rfl⟩

theorem PInv.refuses {w wr wt : World} {D : Nat} {r : Int} {A0 : AS} {acts : List Pt} {n s k : Nat} {S : DS} (I : PInv w D r A0 acts n s k S wr) (hdead : S.dead = false) (hk0 : Keeps (fun _ => False) wr wt) (bv : Value) {p : Pt} (hp : acts[k]? = some p) (hf : p.flush = false) (h : p.sec < 0 ∨ (n : Int) ≤ p.sec) :
    Calls Try.prog 12 #[.pointer (some ⟨D, 0, none⟩), .int .i64 p.sec, bv] wt fun e w' => e = .returned (.int .i64 11) ∧ PInv w D r A0 acts n s (k + 1) S w' := by
  have J := I.skip hdead hk0 hp hf h
  have hb := J.disk.blk
  rw [J.D] at hb
  refine (write_sector D n p.sec bv wt (by rw [cell_of_blk hb, ← J.secs]; rfl) (by rw [cell_of_blk hb, ← hdead]; rfl) h).mono ?_
  rintro e w' ⟨rfl, rfl⟩
  exact ⟨rfl, J⟩

end Go.Proofs.Ytjmbcelkhiopeaa
