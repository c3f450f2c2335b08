import Derived.Test.YtcicaifioghciaaGreatDoorOg
import Derived.Test.YtcicaifioghciaaGreatDoorGd
namespace Go.Proofs.YtcicaifioghciaaGreatDoor
open Go.RowKit Go.Maps

theorem nb_new {w : World} {B e z n a b : Nat} {v : Value} {xs : List Value} (h : w.ownsRow B e z v n xs) (ha : a < B) (hb : b < B) (q : Nat) (hq : v.ownBlock = some q) : a < q ∧ b < q := by
  have := own_geO h hq
  omega
theorem nb_old {w : World} {B e z n a : Nat} {v : Value} {xs : List Value} (h : w.ownsRow B e z v n xs) (ha : a < B) (q : Nat) (hq : v.ownBlock = some q) : a < q ∧ q < w.heap.size := by
  have := own_geO h hq
  have := own_lt h hq
  omega
theorem own_some {w : World} {B e z n m c : Nat} {o : Option Addr} {xs : List Value} (h : w.ownsRow B e z (.slice o n c) m xs) (hn : 0 < n) : ∃ g, o = some ⟨g, 0, none⟩ ∧ n ≤ c := by
  rcases h.2 with ⟨h0, _⟩ | ⟨g, cap, cur, hv, _, _, hnc, _⟩
  · simp only [Value.slice.injEq] at h0; omega
  · simp only [Value.slice.injEq] at hv
    obtain ⟨rfl, rfl, rfl⟩ := hv
    exact ⟨g, rfl, hnc⟩
theorem grow_keeps {w w' : World} {v : Value} {g n cap H : Nat} (hc : (v = .slice (some ⟨g, 0, none⟩) n cap ∧ w.grownBy w' (some g)) ∨ (H ≤ g ∧ w.grownBy w' none)) : Keeps (fun q => v.ownBlock = some q) w w' := by
  rcases hc with ⟨rfl, h⟩ | ⟨_, h⟩
  · exact (Keeps.refl _ _).grown h (fun q e _ => by simpa [Value.ownBlock] using e)
  · exact (Keeps.refl _ _).grown h (fun q e _ => by cases e)
theorem bs_setL (l : Txt) (i : Nat) (c : UInt8) : bs (l.set i c) = (bs l).set i (.int .u8 (num c)) := by unfold bs; rw [List.map_set]
theorem str_setL (l : List Txt) (i : Nat) (c : Txt) : (l.set i c).map str = (l.map str).set i (str c) := by rw [List.map_set]

/-- vm has grown out of vx since w0. -/
structure Ex (w0 w : World) (B e z n m : Nat) (vx vm : Value) (xs ys : List Value) : Prop where
  x : w.ownsRow B e z vx n xs
  m : w.ownsRow B e z vm m (xs ++ ys)
  at_ : ∀ q, vm.ownBlock = some q → vx.ownBlock = some q ∨ w0.heap.size ≤ q
theorem Ex.start {w : World} {B e z n : Nat} {v : Value} {xs : List Value} (h : w.ownsRow B e z v n xs) : Ex w w B e z n n v v xs [] :=
  ⟨h, by simpa using h, fun _ h => Or.inl h⟩
theorem Ex.grow {w0 w w' : World} {B e z n m k g cap : Nat} {vx vm : Value} {xs ys zs : List Value} (h : Ex w0 w B e z n m vx vm xs ys) (hs : w0.heap.size ≤ w.heap.size) (hz : 0 < z)
    (h' : w'.ownsRow B e z (.slice (some ⟨g, 0, none⟩) k cap) k (xs ++ ys ++ zs)) (hc : (vm = .slice (some ⟨g, 0, none⟩) m cap ∧ w.grownBy w' (some g)) ∨ (w.heap.size ≤ g ∧ w.grownBy w' none)) :
    Ex w0 w' B e z n k vx (.slice (some ⟨g, 0, none⟩) k cap) xs (ys ++ zs) := by
  refine ⟨both_grow h.x h.m hz h' hc, by rw [← List.append_assoc]; exact h', fun q hq => ?_⟩
  simp [Value.ownBlock] at hq
  subst hq
  rcases hc with ⟨rfl, _⟩ | ⟨hg, _⟩
  · exact h.at_ _ rfl
  · exact Or.inr (Nat.le_trans hs hg)
theorem Ex.keep {w0 w w' : World} {B e z n m : Nat} {vx vm : Value} {xs ys : List Value} {F : Nat → Prop} (h : Ex w0 w B e z n m vx vm xs ys) (hk : Keeps F w w') (h1 : ∀ q, vx.ownBlock = some q → ¬ F q) (h2 : ∀ q, vm.ownBlock = some q → ¬ F q) : Ex w0 w' B e z n m vx vm xs ys :=
  ⟨ownsRow_kept h.x hk h1, ownsRow_kept h.m hk h2, h.at_⟩
theorem Ex.set {w0 w w' : World} {B e z n m g cap : Nat} {vx : Value} {xs ys zs : List Value} (h : Ex w0 w B e z n m vx (.slice (some ⟨g, 0, none⟩) m cap) xs ys) (hz : 0 < z)
    (h' : w'.ownsRow B e z (.slice (some ⟨g, 0, none⟩) m cap) m (xs ++ zs)) (hk : Keeps (fun q => q = g) w w') : Ex w0 w' B e z n m vx (.slice (some ⟨g, 0, none⟩) m cap) xs zs :=
  ⟨both_set h.x h.m hz h' hk, h', h.at_⟩

/-- Bytes, texts and instructions, each with what grew out of it. -/
structure Tri (w0 w : World) (BX BT BI nx nt ni mx mt mi : Nat) (vx vt vi vm vl vf : Value) (X T I Y U V : List Value) : Prop where
  a : Ex w0 w BX 5 1 nx mx vx vm X Y
  b : Ex w0 w BT 9 1 nt mt vt vl T U
  c : Ex w0 w BI 51 3 ni mi vi vf I V
  k : Keeps (fun q => vx.ownBlock = some q ∨ vt.ownBlock = some q ∨ vi.ownBlock = some q) w0 w
theorem Tri.start {w : World} {BX BT BI nx nt ni : Nat} {vx vt vi : Value} {X T I : List Value} (hx : w.ownsRow BX 5 1 vx nx X) (ht : w.ownsRow BT 9 1 vt nt T) (hi : w.ownsRow BI 51 3 vi ni I) :
    Tri w w BX BT BI nx nt ni nx nt ni vx vt vi vx vt vi X T I [] [] [] := ⟨Ex.start hx, Ex.start ht, Ex.start hi, Keeps.refl _ _⟩
section
variable {w0 w w' : World} {BX BT BI nx nt ni mx mt mi : Nat} {vx vt vi vm vl vf : Value} {X T I Y U V : List Value}
theorem Tri.stay (h : Tri w0 w BX BT BI nx nt ni mx mt mi vx vt vi vm vl vf X T I Y U V) (hk : Keeps (fun _ => False) w w') : Tri w0 w' BX BT BI nx nt ni mx mt mi vx vt vi vm vl vf X T I Y U V :=
  ⟨h.a.keep hk (fun _ _ => id) (fun _ _ => id), h.b.keep hk (fun _ _ => id) (fun _ _ => id), h.c.keep hk (fun _ _ => id) (fun _ _ => id), h.k.trans hk.any⟩
theorem Tri.growA {k g cap : Nat} {Z : List Value} (h : Tri w0 w BX BT BI nx nt ni mx mt mi vx vt vi vm vl vf X T I Y U V) (h' : w'.ownsRow BX 5 1 (.slice (some ⟨g, 0, none⟩) k cap) k (X ++ Y ++ Z))
    (hc : (vm = .slice (some ⟨g, 0, none⟩) mx cap ∧ w.grownBy w' (some g)) ∨ (w.heap.size ≤ g ∧ w.grownBy w' none)) : Tri w0 w' BX BT BI nx nt ni k mt mi vx vt vi (.slice (some ⟨g, 0, none⟩) k cap) vl vf X T I (Y ++ Z) U V := by
  have hk := grow_keeps hc
  refine ⟨h.a.grow h.k.size (by decide) h' hc, h.b.keep hk (fun q e f => own_apart h.b.x h.a.m (by decide) q e f) (fun q e f => own_apart h.b.m h.a.m (by decide) q e f), h.c.keep hk (fun q e f => own_apart h.c.x h.a.m (by decide) q e f) (fun q e f => own_apart h.c.m h.a.m (by decide) q e f), ?_⟩
  refine h.k.then hk (fun i hi e => ?_)
  rcases h.a.at_ i e with e | e
  · exact Or.inl e
  · omega
theorem Tri.growB {k g cap : Nat} {Z : List Value} (h : Tri w0 w BX BT BI nx nt ni mx mt mi vx vt vi vm vl vf X T I Y U V) (h' : w'.ownsRow BT 9 1 (.slice (some ⟨g, 0, none⟩) k cap) k (T ++ U ++ Z))
    (hc : (vl = .slice (some ⟨g, 0, none⟩) mt cap ∧ w.grownBy w' (some g)) ∨ (w.heap.size ≤ g ∧ w.grownBy w' none)) : Tri w0 w' BX BT BI nx nt ni mx k mi vx vt vi vm (.slice (some ⟨g, 0, none⟩) k cap) vf X T I Y (U ++ Z) V := by
  have hk := grow_keeps hc
  refine ⟨h.a.keep hk (fun q e f => own_apart h.a.x h.b.m (by decide) q e f) (fun q e f => own_apart h.a.m h.b.m (by decide) q e f), h.b.grow h.k.size (by decide) h' hc, h.c.keep hk (fun q e f => own_apart h.c.x h.b.m (by decide) q e f) (fun q e f => own_apart h.c.m h.b.m (by decide) q e f), ?_⟩
  refine h.k.then hk (fun i hi e => ?_)
  rcases h.b.at_ i e with e | e
  · exact Or.inr (Or.inl e)
  · omega
theorem Tri.growC {k g cap : Nat} {Z : List Value} (h : Tri w0 w BX BT BI nx nt ni mx mt mi vx vt vi vm vl vf X T I Y U V) (h' : w'.ownsRow BI 51 3 (.slice (some ⟨g, 0, none⟩) k cap) k (I ++ V ++ Z))
    (hc : (vf = .slice (some ⟨g, 0, none⟩) mi cap ∧ w.grownBy w' (some g)) ∨ (w.heap.size ≤ g ∧ w.grownBy w' none)) : Tri w0 w' BX BT BI nx nt ni mx mt k vx vt vi vm vl (.slice (some ⟨g, 0, none⟩) k cap) X T I Y U (V ++ Z) := by
  have hk := grow_keeps hc
  refine ⟨h.a.keep hk (fun q e f => own_apart h.a.x h.c.m (by decide) q e f) (fun q e f => own_apart h.a.m h.c.m (by decide) q e f), h.b.keep hk (fun q e f => own_apart h.b.x h.c.m (by decide) q e f) (fun q e f => own_apart h.b.m h.c.m (by decide) q e f), h.c.grow h.k.size (by decide) h' hc, ?_⟩
  refine h.k.then hk (fun i hi e => ?_)
  rcases h.c.at_ i e with e | e
  · exact Or.inr (Or.inr e)
  · omega
theorem Tri.setC {g cap : Nat} {Z : List Value} (h : Tri w0 w BX BT BI nx nt ni mx mt mi vx vt vi vm vl (.slice (some ⟨g, 0, none⟩) mi cap) X T I Y U V) (h' : w'.ownsRow BI 51 3 (.slice (some ⟨g, 0, none⟩) mi cap) mi (I ++ Z)) (hk : Keeps (fun q => q = g) w w') :
    Tri w0 w' BX BT BI nx nt ni mx mt mi vx vt vi vm vl (.slice (some ⟨g, 0, none⟩) mi cap) X T I Y U Z := by
  have e0 : ∀ q, q = g → (Value.slice (some ⟨g, 0, none⟩) mi cap).ownBlock = some q := fun q e => by rw [e]; rfl
  refine ⟨h.a.keep hk (fun q e f => own_apart h.a.x h.c.m (by decide) q e (e0 q f)) (fun q e f => own_apart h.a.m h.c.m (by decide) q e (e0 q f)), h.b.keep hk (fun q e f => own_apart h.b.x h.c.m (by decide) q e (e0 q f)) (fun q e f => own_apart h.b.m h.c.m (by decide) q e (e0 q f)), h.c.set (by decide) h' hk, ?_⟩
  refine h.k.then hk (fun i hi e => ?_)
  rcases h.c.at_ i (e0 i e) with e | e
  · exact Or.inr (Or.inr e)
  · omega
end

def c55 : ValA := ⟨55, 0, []⟩
def c98 : ValA := ⟨98, 0, []⟩
def c99 : ValA := ⟨99, 0, []⟩
theorem inR_rep (n : Nat) : InR (List.replicate n c55) := by
  intro x hx
  obtain rfl := List.eq_of_mem_replicate hx
  decide
theorem wide_two {w : World} {B g m' n : Nat} {a b : List ValA} (h : w.ownsRow B 51 3 (.slice (some ⟨g, 0, none⟩) (n + 2) m') (n + 2) (vcs (a ++ b))) (ha : a.length = n) : ValsAt w (.slice (some ⟨g, 0, none⟩) n m') a := by
  subst ha
  have := rowAt_own h
  rw [vcs_two] at this
  exact RowAt.first this (by omega)
theorem refDecode_w {x : Txt} {d : List ValA} {q : Int} (hd : decC x = (d, q)) (v : Value) (w : World) (h : BytesAt w v x) :
    Calls Tryz.prog 21 #[v] w fun e w' => ∃ o c, e = .returned (.tuple #[.slice o d.length c, .int .i64 q]) ∧ w'.ownsRow w.heap.size 51 3 (.slice o d.length c) d.length (vcs d) ∧ Keeps (fun _ => False) w w' := by
  have := refDecode_v x v w h
  rw [← dec_eq, hd] at this
  refine this.mono ?_
  rintro e w' ⟨b, rfl, ho, hk⟩
  obtain ⟨o, c, rfl⟩ := (rowAt_own ho).form
  exact ⟨o, c, rfl, ho, hk⟩
theorem textsO_97 {S : List FieldA} {l : List ValA} : (textsO (lookA S l).1).length ≤ 100 := by
  rcases look_tells S l with ⟨k', e', hlk, he'⟩ | ⟨ps, hlk, _, _, hpl, hl96, _, _, _⟩
  · rw [hlk]; simp [textsO]
  · rw [hlk]
    simp [textsO]
    omega
end Go.Proofs.YtcicaifioghciaaGreatDoor
