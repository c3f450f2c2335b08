import Derived.Test.YtbokbdcjpbnodaaGreatDoorQKb
import Derived.Test.YtbokbdcjpbnodaaGreatDoorQJr
namespace Go.Proofs.YtbokbdcjpbnodaaGreatDoor
open Go.RowKit Go.Maps
theorem field_at {S : List FieldA} {x : ValA} {m : MS} (hf : formB x = 0) (hr : rightF S x = true) (hR : rowOK S m.here m.vals) (ho : (opA x.kind).opd = 3 ∨ (opA x.kind).opd = 4 ∨ (opA x.kind).opd = 5) : 0 ≤ x.n ∧ x.n.toNat < S.length ∧ (m.here = true → x.n.toNat < m.vals.length) := by
 have h0 := form_field hf ho
 have h1 : x.n < S.length := by
  unfold rightF at hr
  rcases ho with h | h | h
  ·rw [if_pos h] at hr; simpa using hr
  ·rw [if_neg (by omega), if_pos h] at hr; simp at hr; exact hr.1
  ·rw [if_neg (by omega), if_neg (by omega), if_pos h] at hr; simp at hr; exact hr.1
 refine ⟨h0.1, by omega, fun hh => ?_⟩
 unfold rowOK at hR
 rw [if_pos hh] at hR
 omega
theorem good_len {v : ValA} (h : goodV v) : v.s.length ≤ 20 := by
 rcases h with ⟨_, h⟩ | ⟨_, _, h⟩ | ⟨_, _, h⟩
 ·simp [h]
 ·simp [h]
 ·exact h
theorem MR.to {w0 w : World} {b : Nat} {sv rv : Value} {m m' : MS} (h : MR w0 w b sv rv m) (e : m = m') : MR w0 w b sv rv m' := e ▸ h
theorem step_v {w0 w : World} {b : Nat} {sv rv : Value} {m : MS} (S : List FieldA) (h : MR w0 w b sv rv m) (hT : Types w0) (hS : FldsAt w0 sv S) (hz : errS S = 0) (x : ValA) {ts ts' : List Int} (hM : TyM S m ts) (hb : behB S x ts = some ts') (hf : formB x = 0) (hr : rightF S x = true) (hj : x.kind ≠ 25 ∧ x.kind ≠ 26) :
  Calls Tryz.prog 69 #[.pointer (some ⟨b, 0, none⟩), x.v] w fun e w' => e = .returned (.tuple #[]) ∧ (∃ rv', MR w0 w' b sv rv' (stepM S x m)) ∧ Keeps (Own b rv) w w' := by
 obtain ⟨b1, _, b3, b4⟩ := beh_parts hb
 have hlen : ts.length = m.st.length := by rw [← hM.ty]; simp
 have hc := op_cases (formB_zero hf).1
 have hfld := field_at (m := m) hf hr hM.row
 have hl16 : (m.st.take (m.st.length - (opA x.kind).takes) ++ giveM S x m).length ≤ 16 := by
  have hst := (step_ty (schema_isK hz) hf hr hM hb).ty
  have := congrArg List.length hst
  rw [List.length_map] at this
  show (stepM S x m).st.length ≤ 16
  omega
 obtain ⟨o, n, s⟩ := x
 have one : ∀ {W : World} {m' : MS}, MR w0 W b sv rv m' ∧ Keeps (fun q => q = b) w W → m' = stepM S ⟨o, n, s⟩ m → (∃ rv', MR w0 W b sv rv' (stepM S ⟨o, n, s⟩ m)) ∧ Keeps (Own b rv) w W := fun hq e => ⟨⟨rv, hq.1.to e⟩, hq.2.mono fun q _ e => Or.inl e⟩
 simp only at hc hj b1
 have hgood := hM.good
 simp only [List.mem_cons, List.not_mem_nil, or_false] at hc
 rcases hc with rfl | rfl | rfl | rfl | rfl | rfl | rfl | rfl | rfl | rfl | rfl | rfl | rfl | rfl | rfl | rfl | rfl | rfl | rfl | rfl | rfl | rfl | rfl | rfl | rfl | rfl
 ·have hl : m.st.length < 16 := by
   have : (m.st.take (m.st.length - 0) ++ [toldV S ⟨1, n, s⟩ m]).length ≤ 16 := hl16
   rw [take_all, List.length_append] at this
   simp only [List.length_cons, List.length_nil] at this
   omega
  refine (stepA_v S h hS ⟨1, n, s⟩ (by simp) (fun q => absurd q (by simp)) hl).mono fun e W hq => ⟨hq.1, one hq.2 ?_⟩
  show _ = MS.mk (m.st.take (m.st.length - 0) ++ [toldV S ⟨1, n, s⟩ m]) m.here m.vals
  rw [take_all]
 ·have hl : m.st.length < 16 := by
   have : (m.st.take (m.st.length - 0) ++ [toldV S ⟨2, n, s⟩ m]).length ≤ 16 := hl16
   rw [take_all, List.length_append] at this
   simp only [List.length_cons, List.length_nil] at this
   omega
  refine (stepA_v S h hS ⟨2, n, s⟩ (by simp) (fun q => absurd q (by simp)) hl).mono fun e W hq => ⟨hq.1, one hq.2 ?_⟩
  show _ = MS.mk (m.st.take (m.st.length - 0) ++ [toldV S ⟨2, n, s⟩ m]) m.here m.vals
  rw [take_all]
 ·have hl : m.st.length < 16 := by
   have : (m.st.take (m.st.length - 0) ++ [toldV S ⟨3, n, s⟩ m]).length ≤ 16 := hl16
   rw [take_all, List.length_append] at this
   simp only [List.length_cons, List.length_nil] at this
   omega
  refine (stepA_v S h hS ⟨3, n, s⟩ (by simp) (fun q => absurd q (by simp)) hl).mono fun e W hq => ⟨hq.1, one hq.2 ?_⟩
  show _ = MS.mk (m.st.take (m.st.length - 0) ++ [toldV S ⟨3, n, s⟩ m]) m.here m.vals
  rw [take_all]
 ·have hl : m.st.length < 16 := by
   have : (m.st.take (m.st.length - 0) ++ [toldV S ⟨4, n, s⟩ m]).length ≤ 16 := hl16
   rw [take_all, List.length_append] at this
   simp only [List.length_cons, List.length_nil] at this
   omega
  refine (stepA_v S h hS ⟨4, n, s⟩ (by simp) (fun q => absurd q (by simp)) hl).mono fun e W hq => ⟨hq.1, one hq.2 ?_⟩
  show _ = MS.mk (m.st.take (m.st.length - 0) ++ [toldV S ⟨4, n, s⟩ m]) m.here m.vals
  rw [take_all]
 ·have hl : m.st.length < 16 := by
   have : (m.st.take (m.st.length - 0) ++ [toldV S ⟨5, n, s⟩ m]).length ≤ 16 := hl16
   rw [take_all, List.length_append] at this
   simp only [List.length_cons, List.length_nil] at this
   omega
  refine (stepA_v S h hS ⟨5, n, s⟩ (by simp) (fun _ => hfld (Or.inl rfl)) hl).mono fun e W hq => ⟨hq.1, one hq.2 ?_⟩
  show _ = MS.mk (m.st.take (m.st.length - 0) ++ [toldV S ⟨5, n, s⟩ m]) m.here m.vals
  rw [take_all]
 ·have hl : m.st.length < 16 := by
   have : (m.st.take (m.st.length - 0) ++ [toldV S ⟨6, n, s⟩ m]).length ≤ 16 := hl16
   rw [take_all, List.length_append] at this
   simp only [List.length_cons, List.length_nil] at this
   omega
  refine (stepA_v S h hS ⟨6, n, s⟩ (by simp) (fun _ => hfld (Or.inr (Or.inl rfl))) hl).mono fun e W hq => ⟨hq.1, one hq.2 ?_⟩
  show _ = MS.mk (m.st.take (m.st.length - 0) ++ [toldV S ⟨6, n, s⟩ m]) m.here m.vals
  rw [take_all]
 ·have hl : m.st.length < 16 := by
   have : (m.st.take (m.st.length - 0) ++ [toldV S ⟨7, n, s⟩ m]).length ≤ 16 := hl16
   rw [take_all, List.length_append] at this
   simp only [List.length_cons, List.length_nil] at this
   omega
  refine (stepA_v S h hS ⟨7, n, s⟩ (by simp) (fun q => absurd q (by simp)) hl).mono fun e W hq => ⟨hq.1, one hq.2 ?_⟩
  show _ = MS.mk (m.st.take (m.st.length - 0) ++ [toldV S ⟨7, n, s⟩ m]) m.here m.vals
  rw [take_all]
 ·have hb1 : 1 ≤ ts.length := b1
  obtain ⟨k, hk⟩ : ∃ k, m.st.length = k + 1 := ⟨m.st.length - 1, by omega⟩
  refine (step8_v h n s hk).mono fun e W hq => ⟨hq.1, one hq.2 ?_⟩
  show _ = MS.mk (m.st.take (m.st.length - 1) ++ [oneV 8 (topV m.st)]) m.here m.vals
  rw [hk, Nat.add_sub_cancel]
 ·have hb1 : 1 ≤ ts.length := b1
  obtain ⟨k, hk⟩ : ∃ k, m.st.length = k + 1 := ⟨m.st.length - 1, by omega⟩
  refine (step9_v h n s hk).mono fun e W hq => ⟨hq.1, one hq.2 ?_⟩
  show _ = MS.mk (m.st.take (m.st.length - 1) ++ [oneV 9 (topV m.st)]) m.here m.vals
  rw [hk, Nat.add_sub_cancel]
 ·have hb1 : 2 ≤ ts.length := b1
  obtain ⟨k, hk⟩ : ∃ k, m.st.length = k + 1 + 1 := ⟨m.st.length - 2, by omega⟩
  refine (step10_v h n s hk (good_len (hgood _ (sec_mem (t := 2) (Nat.le_refl _) (by omega)))) (good_len (hgood _ (top_mem (t := 2) (by omega) (by omega)).1))).mono fun e W hq => ⟨hq.1, one hq.2 ?_⟩
  show _ = MS.mk (m.st.take (m.st.length - 2) ++ [twoV 10 (secV m.st) (topV m.st)]) m.here m.vals
  rw [hk, show k + 1 + 1 - 2 = k by omega]
 ·have hb1 : 2 ≤ ts.length := b1
  obtain ⟨k, hk⟩ : ∃ k, m.st.length = k + 1 + 1 := ⟨m.st.length - 2, by omega⟩
  refine (step11_v h n s hk (good_len (hgood _ (sec_mem (t := 2) (Nat.le_refl _) (by omega)))) (good_len (hgood _ (top_mem (t := 2) (by omega) (by omega)).1))).mono fun e W hq => ⟨hq.1, one hq.2 ?_⟩
  show _ = MS.mk (m.st.take (m.st.length - 2) ++ [twoV 11 (secV m.st) (topV m.st)]) m.here m.vals
  rw [hk, show k + 1 + 1 - 2 = k by omega]
 ·have hb1 : 2 ≤ ts.length := b1
  obtain ⟨k, hk⟩ : ∃ k, m.st.length = k + 1 + 1 := ⟨m.st.length - 2, by omega⟩
  refine (step12_v h n s hk (good_len (hgood _ (sec_mem (t := 2) (Nat.le_refl _) (by omega)))) (good_len (hgood _ (top_mem (t := 2) (by omega) (by omega)).1))).mono fun e W hq => ⟨hq.1, one hq.2 ?_⟩
  show _ = MS.mk (m.st.take (m.st.length - 2) ++ [twoV 12 (secV m.st) (topV m.st)]) m.here m.vals
  rw [hk, show k + 1 + 1 - 2 = k by omega]
 ·have hb1 : 2 ≤ ts.length := b1
  obtain ⟨k, hk⟩ : ∃ k, m.st.length = k + 1 + 1 := ⟨m.st.length - 2, by omega⟩
  refine (step13_v h n s hk (good_len (hgood _ (sec_mem (t := 2) (Nat.le_refl _) (by omega)))) (good_len (hgood _ (top_mem (t := 2) (by omega) (by omega)).1))).mono fun e W hq => ⟨hq.1, one hq.2 ?_⟩
  show _ = MS.mk (m.st.take (m.st.length - 2) ++ [twoV 13 (secV m.st) (topV m.st)]) m.here m.vals
  rw [hk, show k + 1 + 1 - 2 = k by omega]
 ·have hb1 : 2 ≤ ts.length := b1
  obtain ⟨k, hk⟩ : ∃ k, m.st.length = k + 1 + 1 := ⟨m.st.length - 2, by omega⟩
  refine (step14_v h n s hk (good_len (hgood _ (sec_mem (t := 2) (Nat.le_refl _) (by omega)))) (good_len (hgood _ (top_mem (t := 2) (by omega) (by omega)).1))).mono fun e W hq => ⟨hq.1, one hq.2 ?_⟩
  show _ = MS.mk (m.st.take (m.st.length - 2) ++ [twoV 14 (secV m.st) (topV m.st)]) m.here m.vals
  rw [hk, show k + 1 + 1 - 2 = k by omega]
 ·have hb1 : 2 ≤ ts.length := b1
  obtain ⟨k, hk⟩ : ∃ k, m.st.length = k + 1 + 1 := ⟨m.st.length - 2, by omega⟩
  refine (step15_v h n s hk (good_len (hgood _ (sec_mem (t := 2) (Nat.le_refl _) (by omega)))) (good_len (hgood _ (top_mem (t := 2) (by omega) (by omega)).1))).mono fun e W hq => ⟨hq.1, one hq.2 ?_⟩
  show _ = MS.mk (m.st.take (m.st.length - 2) ++ [twoV 15 (secV m.st) (topV m.st)]) m.here m.vals
  rw [hk, show k + 1 + 1 - 2 = k by omega]
 ·have hb1 : 2 ≤ ts.length := b1
  obtain ⟨k, hk⟩ : ∃ k, m.st.length = k + 1 + 1 := ⟨m.st.length - 2, by omega⟩
  refine (step16_v h n s hk (good_len (hgood _ (sec_mem (t := 2) (Nat.le_refl _) (by omega)))) (good_len (hgood _ (top_mem (t := 2) (by omega) (by omega)).1))).mono fun e W hq => ⟨hq.1, one hq.2 ?_⟩
  show _ = MS.mk (m.st.take (m.st.length - 2) ++ [twoV 16 (secV m.st) (topV m.st)]) m.here m.vals
  rw [hk, show k + 1 + 1 - 2 = k by omega]
 ·have hb1 : 2 ≤ ts.length := b1
  obtain ⟨k, hk⟩ : ∃ k, m.st.length = k + 1 + 1 := ⟨m.st.length - 2, by omega⟩
  refine (step17_v h n s hk (good_len (hgood _ (sec_mem (t := 2) (Nat.le_refl _) (by omega)))) (good_len (hgood _ (top_mem (t := 2) (by omega) (by omega)).1))).mono fun e W hq => ⟨hq.1, one hq.2 ?_⟩
  show _ = MS.mk (m.st.take (m.st.length - 2) ++ [twoV 17 (secV m.st) (topV m.st)]) m.here m.vals
  rw [hk, show k + 1 + 1 - 2 = k by omega]
 ·have hb1 : 1 ≤ ts.length := b1
  obtain ⟨k, hk⟩ : ∃ k, m.st.length = k + 1 := ⟨m.st.length - 1, by omega⟩
  refine (step18_v h n s hk).mono fun e W hq => ⟨hq.1, one hq.2 ?_⟩
  show _ = MS.mk (m.st.take (m.st.length - 1) ++ [oneV 18 (topV m.st)]) m.here m.vals
  rw [hk, Nat.add_sub_cancel]
 ·have hb1 : 2 ≤ ts.length := b1
  obtain ⟨k, hk⟩ : ∃ k, m.st.length = k + 1 + 1 := ⟨m.st.length - 2, by omega⟩
  refine (step19_v h n s hk (good_len (hgood _ (sec_mem (t := 2) (Nat.le_refl _) (by omega)))) (good_len (hgood _ (top_mem (t := 2) (by omega) (by omega)).1))).mono fun e W hq => ⟨hq.1, one hq.2 ?_⟩
  show _ = MS.mk (m.st.take (m.st.length - 2) ++ [twoV 19 (secV m.st) (topV m.st)]) m.here m.vals
  rw [hk, show k + 1 + 1 - 2 = k by omega]
 ·obtain ⟨n0, n1, n2⟩ := hfld (Or.inl rfl)
  simp only at n0 n1 n2
  obtain ⟨N, rfl⟩ := Int.eq_ofNat_of_zero_le n0
  rw [Int.toNat_natCast] at n1 n2
  have hb1 : 1 ≤ ts.length := b1
  obtain ⟨k, hk⟩ : ∃ k, m.st.length = k + 1 := ⟨m.st.length - 1, by omega⟩
  refine (step20_v h N s hk n2).mono fun e W hq => ⟨hq.1, ⟨rv, hq.2.1.to ?_⟩, hq.2.2⟩
  show _ = MS.mk (m.st.take (m.st.length - 1) ++ []) (setR m ((N : Int).toNat) (topV m.st)).1 (setR m ((N : Int).toNat) (topV m.st)).2
  rw [hk, Nat.add_sub_cancel, List.append_nil, Int.toNat_natCast]
 ·obtain ⟨n0, n1, n2⟩ := hfld (Or.inr (Or.inr rfl))
  simp only at n0 n1 n2
  obtain ⟨N, rfl⟩ := Int.eq_ofNat_of_zero_le n0
  rw [Int.toNat_natCast] at n1 n2
  have hb1 : 1 ≤ ts.length := b1
  obtain ⟨k, hk⟩ : ∃ k, m.st.length = k + 1 := ⟨m.st.length - 1, by omega⟩
  refine (step21_v S h hS N s hk n2 n1).mono fun e W hq => ⟨hq.1, ⟨rv, hq.2.1.to ?_⟩, hq.2.2⟩
  show _ = MS.mk (m.st.take (m.st.length - 1) ++ []) (setR m ((N : Int).toNat) (numV (wrap64 ((loadV S m ((N : Int).toNat)).n + (topV m.st).n)))).1 (setR m ((N : Int).toNat) (numV (wrap64 ((loadV S m ((N : Int).toNat)).n + (topV m.st).n)))).2
  rw [hk, Nat.add_sub_cancel, List.append_nil, Int.toNat_natCast]
 ·obtain ⟨n0, n1, n2⟩ := hfld (Or.inr (Or.inl rfl))
  simp only at n0 n1 n2
  obtain ⟨N, rfl⟩ := Int.eq_ofNat_of_zero_le n0
  rw [Int.toNat_natCast] at n1 n2
  refine (step22_v h N s n2).mono fun e W hq => ⟨hq.1, ⟨rv, hq.2.1.to ?_⟩, hq.2.2⟩
  show _ = MS.mk (m.st.take (m.st.length - 0) ++ []) (setR m ((N : Int).toNat) zV).1 (setR m ((N : Int).toNat) zV).2
  rw [take_all, List.append_nil, Int.toNat_natCast]
 ·refine (step23_v S h hT hS hz n s).mono fun e W hq => ⟨hq.1, ?_, hq.2.2⟩
  obtain ⟨rv', hm⟩ := hq.2.1
  refine ⟨rv', hm.to ?_⟩
  show _ = MS.mk (m.st.take (m.st.length - 0) ++ []) (if m.here then (m.here, m.vals) else (true, S.map zeroV)).1 (if m.here then (m.here, m.vals) else (true, S.map zeroV)).2
  rw [take_all, List.append_nil]
  split <;> rfl
 ·refine (step24_v h n s).mono fun e W hq => ⟨hq.1, ?_, hq.2.2⟩
  obtain ⟨rv', hm⟩ := hq.2.1
  refine ⟨rv', hm.to ?_⟩
  show _ = MS.mk (m.st.take (m.st.length - 0) ++ []) false []
  rw [take_all, List.append_nil]
 ·exact absurd rfl hj.1
 ·exact absurd rfl hj.2
end Go.Proofs.YtbokbdcjpbnodaaGreatDoor
