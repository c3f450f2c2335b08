import Derived.Test.YtabjomgikljdhaaDoorPc
import Derived.Test.YtabjomgikljdhaaDoorNl
namespace Go.Proofs.YtabjomgikljdhaaDoor
open Go.RowKit Go.Maps

set_option maxRecDepth 100000 in
theorem parse_v (a b : Nat) (ha : a < 16) (hb : b < 16) (w : World) :
    Calls Tryd.prog 68 #[str [hexD a, hexD b], .int .i64 16, .int .i64 8] w fun e w' => e = .returned (.tuple #[.int .u64 ((16 * a + b : Nat) : Int), .nilIface]) ∧ Keeps (fun _ => False) w w' := by
  have HQ := hide (parseUint_v a b ha hb w)
  generalize 16 * a + b = N at *
  generalize str [hexD a, hexD b] = s at *
  go_enter Tryd.func68, Tryd.ntmps68
  go_wp2_with fail
  refine (unhide HQ).mono ?_
  rintro e w2 ⟨rfl, hk⟩
  have HK := hide hk
  clear hk
  go_wp2_with fail
  go_ret2
  exact ⟨rfl, unhide HK⟩

set_option maxRecDepth 100000 in
theorem unquoteHex_v (T : Txt) (c : UInt8) (a b : Nat) (ha : a < 16) (hb : b < 16) (hc : c.toNat = 16 * a + b) (h4 : 4 ≤ T.length) (hT : (T.drop 2).take 2 = [hexD a, hexD b]) (w : World) :
    Calls Tryd.prog 57 #[str T] w fun e w' => e = .returned (.tuple #[str [c], .int .i64 4]) ∧ Keeps (fun _ => False) w w' := by
  have HQ := hide (parse_v a b ha hb w)
  have hx : (ByteArray.mk T.toArray).extract 2 4 = ⟨[hexD a, hexD b].toArray⟩ := by rw [ext_str, hT]
  have hN : 16 * a + b < 256 := by omega
  have hcn : num c = ((16 * a + b : Nat) : Int) := by unfold num; rw [hc]
  clear hc ha hb hT
  generalize 16 * a + b = N at *
  generalize [hexD a, hexD b] = D at *
  have h5 : ¬ ((T.length : Int) < 4) := by omega
  go_enter Tryd.func57, Tryd.ntmps57
  go_wp2_with fail
  refine (unhide HQ).mono ?_
  rintro e w2 ⟨rfl, hk⟩
  have HK := hide hk
  obtain ⟨HX, hxb, hxc⟩ := boxed w2 #[.int .u8 (N : Int)] 5
  have hcv := conv_bytes (w2.alloc (.cells #[.int .u8 (N : Int)] 5)) w2.heap.size 1 [c] (fun j x hj => by
    match j, hj with
    | 0, hj => simp at hj; subst hj; rw [hcn]; exact hxc 0 _ rfl)
  simp only [List.length_cons, List.length_nil, Nat.zero_add] at hcv
  clear hk hxc hxb HQ hx
  go_wp2_with fail
  go_ret2
  exact ⟨rfl, (unhide HK).trans (unhide HX)⟩
end Go.Proofs.YtabjomgikljdhaaDoor
