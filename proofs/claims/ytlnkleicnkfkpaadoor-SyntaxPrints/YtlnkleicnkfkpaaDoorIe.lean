import Derived.Test.YtlnkleicnkfkpaaDoorId
namespace Go.Proofs.YtlnkleicnkfkpaaDoor
open Go.RowKit Go.Maps

/-- writeStmt of this statement writes its text. -/
def WrS (op : Int) (f : Txt) (x : EL) (th el : SL) : Prop :=
  ∀ (B b : Nat) (t : Txt) (ux ut ue : Nat) (xv tv ev : Value) (w : World), Env B b w → SlE cpyZ w ux xv x → SlS cpyZ w ut tv th → SlS cpyZ w ue ev el → Lib.IsBuilder 60 5 B b (bs t) w → t.length + 2000 * (x.size + th.size + el.size + 1) ≤ 70368744177000 →
    Calls Tryd.prog 44 #[.pointer (some ⟨b, 0, none⟩), stV op f xv tv ev] w fun e w' => e = .returned (.tuple #[]) ∧ Lib.IsBuilder 60 5 B b (bs (t ++ writtenT op f (headT x) (sts th) (sts el))) w' ∧ Keeps (KB w B b) w w'

set_option maxRecDepth 100000 in
theorem wrS_step (op : Int) (f : Txt) (x : EL) (th el : SL) (hh : headB op f x.len th.len el.len = true) (hwx : wellE x = true) (hix : intE x) (hxs : x.size ≤ 2147483647) (hBt : WrB th) (hBe : WrB el) (hb1 : (braceT (sts th)).length ≤ 2000 * th.size + 10) : WrS op f x th el := by
  intro B b t ux ut ue xv tv ev w hE hS hSt hSe hI hl
  have hf := head_name hh
  obtain ⟨xa, xc, rfl, _⟩ := hS.head
  obtain ⟨ta, tc, rfl, _⟩ := hSt.head
  obtain ⟨ea, ec, rfl, _⟩ := hSe.head
  have hop : op = 1 ∨ op = 2 ∨ op = 3 ∨ op = 4 ∨ op = 5 ∨ op = 6 ∨ op = 7 ∨ op = 8 := by
    unfold headB at hh
    repeat' split at hh
    all_goals first | omega | cases hh
  have one : (op = 1 ∨ op = 2 ∨ op = 3 ∨ op = 4 ∨ op = 8) → x.len = 1 := by
    intro h
    unfold headB at hh
    rcases h with rfl | rfl | rfl | rfl | rfl <;> simp at hh <;> omega
  have chg : ∀ (o : Int) (becomes : Txt), becomes.length ≤ 8 → x.len = 1 → ∀ w', Keeps (fun _ => False) w w' → Calls Tryd.prog 58 #[.pointer (some ⟨b, 0, none⟩), stV o f (.slice xa x.len xc) (.slice ta th.len tc) (.slice ea el.len ec), str becomes] w' fun e w'' => e = .returned (.tuple #[]) ∧ Lib.IsBuilder 60 5 B b (bs (t ++ (f ++ becomes ++ headT x))) w'' ∧ Keeps (KB w' B b) w' w'' := by
    intro o becomes hbl h1 w' hk
    obtain ⟨o0, n0, s0, k0, rfl⟩ := EL.len1 h1
    simp only [wellE, Bool.and_eq_true] at hwx
    simp only [EL.size] at hl hxs
    have h := writeChange_v B b t o f becomes o0 n0 s0 k0 ux _ (.slice ta th.len tc) (.slice ea el.len ec) w' (hE.keepF hk) (hS.keepF hk) (ib_keepF hI hk) (wrE_v (k0.size + 1) k0 (by omega) (by omega) o0 n0 s0 hwx.1 hwx.2.1 hix.1.1 hix.1.2 hix.2.1) hf hbl (by omega)
    have e : t ++ (f ++ becomes ++ headT (.cons o0 n0 s0 k0 .nil)) = t ++ f ++ becomes ++ textE o0 n0 s0 k0 := by simp [headT]
    rw [e]
    exact h
  rcases hop with rfl | rfl | rfl | rfl | rfl | rfl | rfl | rfl
  · exact writeSet_v B b t f xa ta ea _ xc _ tc _ ec w _ (chg 1 [32, 61, 32] (by decide) (one (by omega)))
  · exact writeAdd_v B b t f xa ta ea _ xc _ tc _ ec w _ (chg 2 [32, 43, 61, 32] (by decide) (one (by omega)))
  · exact writeMin_v B b t f xa ta ea _ xc _ tc _ ec w _ (chg 3 [32, 109, 105, 110, 61, 32] (by decide) (one (by omega)))
  · exact writeMax_v B b t f xa ta ea _ xc _ tc _ ec w _ (chg 4 [32, 109, 97, 120, 61, 32] (by decide) (one (by omega)))
  · exact writeClear_v B b t f xa ta ea _ xc _ tc _ ec w hE hI hf (by omega)
  · exact writeNew_v B b t f xa ta ea _ xc _ tc _ ec w hE hI (by omega)
  · exact writeDelete_v B b t f xa ta ea _ xc _ tc _ ec w hE hI (by omega)
  · obtain ⟨o0, n0, s0, k0, rfl⟩ := EL.len1 (one (by omega))
    simp only [wellE, Bool.and_eq_true] at hwx
    simp only [EL.size] at hl hxs
    refine writeIf_v B b t f xa ta ea _ xc _ tc _ ec w _ (fun w' hk => ?_)
    exact writeChoice_v B b t 8 f o0 n0 s0 k0 th el ux ut ue _ _ _ w' (hE.keepF hk) (hS.keepF hk) (hSt.keepF hk) (hSe.keepF hk) (ib_keepF hI hk) (wrE_v (k0.size + 1) k0 (by omega) (by omega) o0 n0 s0 hwx.1 hwx.2.1 hix.1.1 hix.1.2 hix.2.1) hBt hBe (text_len o0 n0 s0 k0 hwx.1 hwx.2.1 hix.1.1 hix.1.2 hix.2.1) hb1 (by omega)
end Go.Proofs.YtlnkleicnkfkpaaDoor
