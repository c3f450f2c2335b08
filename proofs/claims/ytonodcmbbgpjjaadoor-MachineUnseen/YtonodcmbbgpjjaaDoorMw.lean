import Derived.Test.YtonodcmbbgpjjaaDoorMt
import Derived.Test.YtonodcmbbgpjjaaDoorJy
import Derived.Test.YtonodcmbbgpjjaaDoorMv
namespace Go.Proofs.YtonodcmbbgpjjaaDoor
open Go.RowKit Go.Maps
/-- What Trace answers. -/
def Traced (w : World) (V R : Int) (T : List (Nat × List ValA) × MS) (e : Ending) (w' : World) : Prop :=
  ((V ≠ 0 ∨ R ≠ 0) ∧ e = .returned (.tuple #[.slice none 0 0, .int .i64 (if V ≠ 0 then V else R)]) ∧ Keeps (fun _ => False) w w') ∨
  (V = 0 ∧ R = 0 ∧ ∃ sl, e = .returned (.tuple #[sl, .int .i64 0]) ∧ w'.ownsRow w.heap.size 46 2 sl T.1.length (stepCs T.1) ∧ Keeps (fun _ => False) w w')
set_option maxRecDepth 100000 in
set_option maxHeartbeats 4000000 in
theorem machTrace_v (S : List FieldA) (sv u v : Value) (l : List ValA) (hh : Bool) (vals : List ValA) (w : World) (hE : Env w) (hS : FldsAt w sv S) (hl : ValsAt w v l) (hI : InR l) (hr : ValsAt w u vals) :
    Calls Tryd.prog 10 #[.agg #[sv], v, .agg #[.bool hh, u]] w fun e w' => Traced w (verifyA S l).2.2 (rowE S hh vals) (playM S l l.length 0 ⟨[], hh, vals⟩) e w' := by
  obtain ⟨so, sc, rfl⟩ := RowAt.form hS
  obtain ⟨uo, uc, rfl⟩ := RowAt.form hr
  obtain ⟨vo, vc, rfl⟩ := RowAt.form hl
  have HB := hide (fun (W : World) (hk : Keeps (fun _ => False) w W) => begin_v S (.slice so S.length sc) (.slice uo vals.length uc) (.slice vo l.length vc) l hh vals W (hE.keepF hk) (hS.keepF hk) (hl.keepF hk) hI (hr.keepF hk))
  have HKA := hide ((kAlloc w (.cells #[.slice so S.length sc] 24)).alloc (.cells #[.bool hh, .slice uo vals.length uc] 28))
  have HEE := hide hE
  have HSS := hide hS
  have HLL := hide hl
  have HLT := hide (look_tells S l)
  have HVA : Hid ((verifyA S l).2.2 = (lookA S l).2.2) := rfl
  generalize hV : (verifyA S l).2.2 = V at *
  generalize hR : rowE S hh vals = R at *
  obtain ⟨T, HTT⟩ : ∃ T, Hid (playM S l l.length 0 ⟨[], hh, vals⟩ = T) := ⟨_, rfl⟩
  rw [unhide HTT]
  clear hE hS hl hr
  go_enter Tryd.func10, Tryd.ntmps10
  go_wp2_with fail
  refine ((unhide HB) _ (unhide HKA)).mono ?_
  rintro e w1 hbg
  generalize (w.alloc (.cells #[.slice so S.length sc] 24)).alloc (.cells #[.bool hh, .slice uo vals.length uc] 28) = W0 at *
  rcases hbg with ⟨hV0, rfl, hk1⟩ | ⟨hV0, hR0, rfl, hk1⟩ | ⟨hV0, hR0, b, rv, rfl, hm1⟩
  · have HK := hide ((unhide HKA).trans (hk1.alloc (.cells #[.pointer none] 74)))
    clear hk1
    go_wp2_with fail
    go_ret2
    exact Or.inl ⟨Or.inl hV0, by rw [if_pos hV0]; rfl, unhide HK⟩
  · have HK := hide ((unhide HKA).trans (hk1.alloc (.cells #[.pointer none] 74)))
    clear hk1
    go_wp2_with fail
    go_ret2
    exact Or.inl ⟨Or.inr hR0, by rw [if_neg (by rw [hV0]; decide)]; rfl, unhide HK⟩
  · have HM1 := hide hm1
    have hkr := kAlloc w1 (.cells #[.pointer (some ⟨b, 0, none⟩)] 74)
    have hko := kAlloc (w1.alloc (.cells #[.pointer (some ⟨b, 0, none⟩)] 74)) (.cells #[.slice none 0 0] 37)
    have hR1 := heap_alloc_new w1 (.cells #[.pointer (some ⟨b, 0, none⟩)] 74)
    have hO1 := heap_alloc_new (w1.alloc (.cells #[.pointer (some ⟨b, 0, none⟩)] 74)) (.cells #[.slice none 0 0] 37)
    rw [show (w1.alloc (.cells #[.pointer (some ⟨b, 0, none⟩)] 74)).heap.size = w1.heap.size + 1 by simp] at hO1
    have hR2 := (hko.block _ (lt_of_block hR1) id).trans hR1
    have hm2 := hm1.keepF (hkr.trans hko)
    have hP0 : TraceP W0 ((w1.alloc (.cells #[.pointer (some ⟨b, 0, none⟩)] 74)).alloc (.cells #[.slice none 0 0] 37)) b (w1.heap.size + 1) w1.heap.size [] := ⟨⟨_, hO1, World.ownsRow_nil _ W0.heap.size 46 2⟩, hR2, ⟨Nat.le_trans hm1.kept.size (by omega), hm1.kept.size⟩⟩
    obtain ⟨ps, hlk, _, hH, _, hL96, hSK, hF, hJ⟩ := (unhide HLT).resolve_left (fun ⟨k', e', hle, hne⟩ => hne (by have := unhide HVA; rw [hle] at this; simp only at this; omega))
    have hz : errS S = 0 := look_parts' hlk
    have hTy : TyM S ⟨[], hh, vals⟩ [] := ⟨rfl, fun v hv => by simp at hv, rowE_ok (by rw [hR]; exact hR0)⟩
    have HQ := hide (play25_v S l (.slice vo l.length vc) _ (.pointer (some ⟨w1.heap.size + 1, 0, none⟩)) (.pointer (some ⟨w1.heap.size, 0, none⟩)) (fun D W => TraceP W0 W b (w1.heap.size + 1) w1.heap.size D) (fun D k m rv W hk hdk hg hp hm => trace1_v D k hp hm hg (by omega)) (fun D W W' rv m hm hp hk => hp.stays hm hk) hm2 hP0 ((unhide HEE).keepF (unhide HKA)).types ((unhide HSS).keepF (unhide HKA)) hz ((unhide HLL).keepF (unhide HKA)) hL96 hF hJ hH hTy)
    subst hV0
    subst hR0
    rw [unhide HTT] at HQ
    clear hR1 hO1 hR2 hm1 hm2 hP0 hF hJ hH hSK hlk hz hTy hkr hko HLT
    go_wp2_with fail
    refine (unhide HQ).mono ?_
    rintro e w2 ⟨rfl, hp2, ⟨rv2, hm2⟩, _⟩
    obtain ⟨sl, hsl, hown⟩ := hp2.t
    have y0 : w2.cell? ⟨w1.heap.size + 1, 0, none⟩ = some sl := (cell_of_blk hsl _).trans rfl
    obtain ⟨xo, xc, rfl⟩ := RowAt.form (rowAt_own hown)
    have HO := hide (ownsRow_base hown (unhide HKA).size)
    have HK := hide ((unhide HKA).trans hm2.kept)
    clear HQ hp2 hm2 hsl hown
    go_wp2_with fail
    go_ret2
    exact Or.inr ⟨rfl, rfl, _, rfl, unhide HO, unhide HK⟩
end Go.Proofs.YtonodcmbbgpjjaaDoor
