import Derived.Test.YtlcfdfcnijjkiaaN
import Derived.ProofKit
import Derived.OpenShut
import Derived.ShutString
import Derived.ChangeOld
import Derived.Deep.Slices
import Derived.Deep.Strs
import Derived.SizedLaws
import Derived.Test.YtlcfdfcnijjkiaaRows
import Derived.Deep.CondSized
namespace Go.Proofs.Ytlcfdfcnijjkiaa
open Go.ChangeShapes Go.WideShapes Go.ChangeAt Go.RowKit Go.Deep

theorem own : ownKnob Try.prog.godebug = none := by kernel_rfl
theorem laidOut : laidOutB Try.prog = true := by kernel_rfl
theorem bulk_one {H : Type} (d : DataW H) : 1 ≤ Rows.uptoBulk d := by
  cases d with
  | lit l => cases l <;> simp [Rows.uptoBulk]
  | nil => simp [Rows.uptoBulk]
  | ptr d => simp [Rows.uptoBulk]
  | slice elems spare => simp [Rows.uptoBulk]
  | agg parts => simp [Rows.uptoBulk]
  | iface t d => simp [Rows.uptoBulk]
  | map entries => simp [Rows.uptoBulk]
  | held h => simp [Rows.uptoBulk]
theorem bulk_many {H : Type} (l : List (DataW H)) : l.length ≤ Rows.uptoBulkAll l := by
  induction l with
  | nil => simp [Rows.uptoBulkAll]
  | cons x r ih => have := bulk_one x; simp only [Rows.uptoBulkAll, List.length_cons]; omega
theorem bulk_flat {H : Type} (f : Nat → Txt) (D : Nat → DataW H) : ∀ r : List Nat, (∀ i ∈ r, (f i).length ≤ Rows.uptoBulk (D i)) → (r.map f).flatten.length ≤ Rows.uptoBulkAll (r.map D)
  | [], _ => by simp
  | i :: r, h => by
    have h1 := h i (List.mem_cons_self ..)
    have h2 := bulk_flat f D r (fun j hj => h j (List.mem_cons_of_mem _ hj))
    simp only [List.map_cons, List.flatten_cons, List.length_append, Rows.uptoBulkAll]
    omega
theorem num_of {b : Int} (h0 : 0 ≤ b) (h1 : b ≤ 255) : num (UInt8.ofNat b.toNat) = b := by
  unfold num
  rw [UInt8.toNat_ofNat']
  omega

set_option maxRecDepth 100000 in
theorem bytes_of {H : Type} {enc : TypeId × Value → H} {W : World} {fuel : Nat} {a0 : Option Addr} {len cap : Nat} {x : DataW H × List MemPlace} (h : DataW.trod enc Try.prog W 0 (fun _ => true) true fuel 27 [.slice a0 len cap] = some x) :
    ∃ l : Txt, l.length = len ∧ BytesAt W (.slice a0 len cap) l ∧ len ≤ Rows.uptoBulk x.1 := by
  rcases open_slice1 Try.underlying27 (by kernel_rfl) h with ⟨hcs, _⟩ | ⟨a, l, c, m, n, V, D, Pl, hcs, _, hl, hm, hmm, hx, hel⟩
  · simp at hcs
    obtain ⟨rfl, rfl, rfl⟩ := hcs
    exact ⟨[], rfl, ⟨⟨_, _, rfl⟩, fun h0 => by simp at h0, fun ao m c e => by simp at e; omega⟩, Nat.zero_le _⟩
  · simp at hcs
    obtain ⟨rfl, rfl, rfl⟩ := hcs
    simp at hmm
    have hev : ∀ i, i < len → ∃ b : UInt8, W.cell? (a.add i) = some (.int .u8 (num b)) := by
      intro i hi
      obtain ⟨hc, htr⟩ := hel i (by omega)
      obtain ⟨b, e, _, hwf⟩ := DataW.trod_int Try.underlying5 htr
      simp at e
      have hb : 0 ≤ b ∧ b ≤ 255 := by simpa [Lit.wf, IntKind.min, IntKind.max, IntKind.signed, IntKind.bits] using hwf
      exact ⟨UInt8.ofNat b.toNat, by rw [hc, e, num_of hb.1 hb.2]⟩
    obtain ⟨f, hf⟩ := choose_lt hev
    refine ⟨(List.range len).map f, by simp, ⟨⟨_, _, by simp; exact ⟨rfl, rfl⟩⟩, fun h0 => ?_, fun ao m c e => by simp at e; omega⟩, ?_⟩
    · simp at h0
      have hc0 := hf 0 h0
      have hspot : a.spot = none := by
        have := World.cell?_spot hc0
        simpa [Addr.add] using this
      obtain ⟨b, off, spot⟩ := a
      simp at hspot
      subst hspot
      refine ⟨b, off, cap, by simp, by simpa [Addr.add] using World.block_lt_of_cell? W _ hc0, fun j y hy => ?_⟩
      rw [bs_get] at hy
      cases hk : ((List.range len).map f)[j]? with
      | none => rw [hk] at hy; cases hy
      | some c =>
        rw [hk] at hy
        simp at hy
        have hj : j < len := by
          have := get_lt hk
          simpa using this
        have e : f j = c := by simpa [hj] using hk
        have q0 := hf j hj
        rw [e, hy] at q0
        simpa [Addr.add_lit] using q0
    · rw [hx]
      have := bulk_many ((List.range len).map D)
      simp only [Rows.uptoBulk]
      simp at this
      omega

set_option maxRecDepth 100000 in
theorem pieces_of {H : Type} {enc : TypeId × Value → H} {W : World} {fuel : Nat} {a0 : Option Addr} {len cap : Nat} {x : DataW H × List MemPlace} (h : DataW.trod enc Try.prog W 0 (fun _ => true) true fuel 22 [.slice a0 len cap] = some x) :
    ∃ ls : List Txt, PsAt W a0 len cap ls ∧ len ≤ Rows.uptoBulk x.1 ∧ ls.flatten.length ≤ Rows.uptoBulk x.1 := by
  rcases open_slice1 Try.underlying22 (by kernel_rfl) h with ⟨hcs, _⟩ | ⟨a, l, c, m, n, V, D, Pl, hcs, _, hl, hm, hmm, hx, hel⟩
  · simp at hcs
    obtain ⟨rfl, rfl, rfl⟩ := hcs
    exact ⟨[], ⟨rfl, Nat.le_refl _, fun i l hi => by simp at hi⟩, Nat.zero_le _, Nat.zero_le _⟩
  · simp at hcs
    obtain ⟨rfl, rfl, rfl⟩ := hcs
    simp at hmm
    have hev : ∀ i, i < len → ∃ l : Txt, (∃ (ho : Option Addr) (hc : Nat), W.cell? (a.add i) = some (.slice ho l.length hc) ∧ BytesAt W (.slice ho l.length hc) l) ∧ l.length ≤ Rows.uptoBulk (D i) := by
      intro i hi
      obtain ⟨hc, htr⟩ := hel i (by omega)
      obtain ⟨ho, hn, hcp, e⟩ : ∃ ho hn hcp, V i = .slice ho hn hcp := by
        rcases open_slice Try.underlying27 htr with ⟨e, _⟩ | ⟨a1, l1, c1, _, _, _, _, e, _⟩
        · simp at e
          exact ⟨_, _, _, e⟩
        · simp at e
          exact ⟨_, _, _, e⟩
      rw [e] at htr hc
      obtain ⟨l, rfl, hb, hk⟩ := bytes_of htr
      exact ⟨l, ⟨ho, hcp, hc, hb⟩, hk⟩
    obtain ⟨f, hf⟩ := choose_lt hev
    refine ⟨(List.range len).map f, ⟨by simp, hl, fun i l hi => ?_⟩, ?_, ?_⟩
    · have hil : i < len := by
        have := get_lt hi
        simpa using this
      have e : f i = l := by simpa [hil] using hi
      obtain ⟨⟨ho, hcp, hc, hb⟩, _⟩ := hf i hil
      rw [e] at hc hb
      obtain ⟨⟨_, _, hz, _⟩, _⟩ := hf 0 (by omega)
      have hspot : a.spot = none := by
        have := World.cell?_spot hz
        simpa [Addr.add] using this
      obtain ⟨b, off, spot⟩ := a
      simp at hspot
      subst hspot
      exact ⟨b, off, ho, hcp, rfl, by simpa [Addr.add] using World.block_lt_of_cell? W _ hz, by simpa [Addr.add_lit] using hc, hb⟩
    · rw [hx]
      have := bulk_many ((List.range len).map D)
      simp only [Rows.uptoBulk]
      simp at this
      omega
    · rw [hx]
      have := bulk_flat f D (List.range len) (fun i hi => (hf i (List.mem_range.1 hi)).2)
      simp only [Rows.uptoBulk]
      omega

theorem bel_of {W W' : World} (h : Keeps (fun _ => False) W W') : Below W.heap.size W W' := h.below (Nat.le_refl _) (fun _ f => f.elim)

set_option maxRecDepth 100000 in
theorem wirePiecesLifted (os : Os) (started : os.Started) (H : Type) (enc : TypeId × Value → H) (F : Stop.Interp) :
    ReturnsInHanded {} Try.checked os 3 .any ((Rows.OpenSpec.upto Rows.wirePiecesSpec).pre6 enc Try.prog Try.f3 Rows.wirePiecesUptoRow.domain false) (((Rows.OpenSpec.upto Rows.wirePiecesSpec).at F).post enc Try.prog Try.f3 false true false false) := by
  refine returnsInHanded_of_cond_sized (C := Try.checked) (s := Rows.OpenSpec.upto Rows.wirePiecesSpec) (k := Rows.uptoSmall) rfl own started (by kernel_rfl) Try.func3
    (OpenSpec.witness (enc := enc) (C := Try.checked) (s := Rows.OpenSpec.upto Rows.wirePiecesSpec) (k := Rows.uptoSmall) rfl false ⟨#[], #[.slice none 0 0], []⟩ 3 (by kernel_rfl) (by kernel_rfl) (by kernel_rfl)
      (x := ([.nil], [], [])) (by kernel_rfl) rfl (by kernel_rfl)) ?_
  intro W base args ds gs before hval0 hW hcnd hk0 hsz0 _
  have hval : ∀ (j : Nat) t v, Try.f3.params[j]? = some t → args[j]? = some v → Value.okWide Try.prog W .any base t v := hval0
  have hW' := hW
  obtain ⟨p, q, hA0, hV, rfl, hfz, hnd⟩ := hW
  have hA : DataW.TrodAll enc Try.prog W 0 (fun _ => true) true Try.f3.params.toList args.toList ds p := hA0
  rw [Try.params3] at hA hval
  obtain ⟨v0, vs0, d0, ds0, p0, q0, hargs, rfl, rfl, h0, r0⟩ := trodAll_cons hA
  obtain ⟨rfl, rfl, rfl⟩ := trodAll_nil r0
  obtain rfl : args = #[v0] := by cases args; simp_all
  obtain ⟨rfl, rfl⟩ := trodVars_none hV
  obtain ⟨o0, l0, c0, rfl⟩ := okWide_slice Try.underlying22 (hval 0 22 v0 rfl rfl)
  have k0 := h0
  have lt0 : ∀ x ∈ p0, x.block < W.heap.size := by obtain ⟨m, hm⟩ := k0; exact DataW.trod_lt m _ _ _ hm
  have hbk : Rows.uptoBulk d0 ≤ 1048576 := by
    have h : Rows.uptoBulkAll ([d0] ++ []) ≤ 1048576 := of_decide_eq_true hk0
    simp only [List.append_nil, Rows.uptoBulkAll] at h
    omega
  obtain ⟨ls, hps, hn, ht⟩ : ∃ ls : List Txt, PsAt W o0 l0 c0 ls ∧ l0 ≤ 1048576 ∧ ls.flatten.length ≤ 1048576 := by
    obtain ⟨fuel, hf⟩ := h0
    obtain ⟨ls, h1, h2, h3⟩ := pieces_of hf
    exact ⟨ls, h1, Nat.le_trans h2 hbk, Nat.le_trans h3 hbk⟩
  clear hA0 hval0 hsz0 hk0
  obtain rfl := hps.len
  refine (pieces_walk W o0 c0 ls hps ht hn).mono fun e W' ⟨he, hk⟩ => ?_
  have bel := bel_of hk
  subst he
  exact ⟨_, rfl, _, _, _, [], _, [], hW', trodAll_mk1 (shut_bool Try.underlying4 _), (trodAll_cons_mk (Below.trod laidOut (by kernel_rfl) (of_decide_eq_true (by kernel_rfl)) k0 bel lt0) trodAll_mk0), rfl, bel.frame _, fun h => by cases h⟩

theorem wirePieces_upto : Rows.WirePiecesUptoSaid :=
  OpenClaim.holds_of_cond 3 Try.f3 rfl rfl rfl rfl rfl rfl rfl ⟨rfl, rfl, rfl, rfl, rfl⟩ rfl rfl rfl rfl rfl (by kernel_rfl) Try.func3 (by kernel_rfl)
    (of_decide_eq_true (by kernel_rfl)) (by unfold Func.isWrapper; first | (rw [if_pos (by decide +kernel)]; kernel_rfl) | (rw [if_neg (by decide +kernel)]; exact ⟨rfl, rfl⟩))
    (fun os started H enc _ F => wirePiecesLifted os started H enc F)
end Go.Proofs.Ytlcfdfcnijjkiaa
