import Derived.Test.YtabjomgikljdhaaDoorPa
import Derived.Lib.ConvBytes
namespace Go.Proofs.YtabjomgikljdhaaDoor
open Go.RowKit Go.Maps

theorem hex_lo (n : Nat) (h : n < 10) : num (hexD n) = (n : Int) + 48 := by
  have : ∀ n : Fin 10, num (hexD n.val) = (n.val : Int) + 48 := by decide +kernel
  exact this ⟨n, h⟩
theorem hex_hi (n : Nat) (h : ¬ n < 10) (h2 : n < 16) : num (hexD n) = (n : Int) + 87 ∧ bits .or .u8 (num (hexD n)) 32 = (n : Int) + 87 := by
  have : ∀ n : Fin 16, ¬ n.val < 10 → num (hexD n.val) = (n.val : Int) + 87 ∧ bits .or .u8 (num (hexD n.val)) 32 = (n.val : Int) + 87 := by decide +kernel
  exact this ⟨n, h2⟩ h
/-- What the first k of two digits make. -/
def hexV (a b k : Nat) : Nat := if k = 0 then 0 else if k = 1 then a else 16 * a + b

set_option maxRecDepth 100000 in
set_option maxHeartbeats 1000000 in
theorem parseUint_v (a b : Nat) (ha : a < 16) (hb : b < 16) (w : World) :
    Calls Tryd.prog 73 #[str [hexD a, hexD b], .int .i64 16, .int .i64 8] w fun e w' => e = .returned (.tuple #[.int .u64 ((16 * a + b : Nat) : Int), .nilIface]) ∧ Keeps (fun _ => False) w w' := by
  have hne : (str [hexD a, hexD b] = .string ⟨#[]⟩) = False := by simp [str]
  have hcv : (convert 9 24 (str [hexD a, hexD b])).run Tryd.prog w = _ := Lib.run_convert_string_bytes (P := Tryd.prog) w 9 24 5 ⟨#[hexD a, hexD b]⟩ Tryd.underlying9 Tryd.underlying24 Tryd.underlying5
  have HK : Hid (Keeps (fun _ => False) w (Lib.bytesWorld w 5 ⟨#[hexD a, hexD b]⟩)) := ⟨rfl, rfl, rfl, by rw [Lib.bytesWorld_size]; omega, fun k hk _ => Lib.bytesWorld_at_old w 5 _ k hk⟩
  have HC : Hid (∀ k, k < 2 → ∃ x N : Nat, x < 16 ∧ N < 16 ∧ hexV a b k = N ∧ hexV a b (k + 1) = 16 * N + x ∧ (Lib.bytesWorld w 5 ⟨#[hexD a, hexD b]⟩).cell? ⟨w.heap.size, k, none⟩ = some (.int .u8 (num (hexD x)))) := by
    intro k hk
    rcases (by omega : k = 0 ∨ k = 1) with rfl | rfl
    · exact ⟨a, 0, ha, by omega, rfl, by simp [hexV], Lib.bytesWorld_cell w 5 _ 0 (by show 0 < 2; omega)⟩
    · exact ⟨b, a, hb, ha, rfl, by simp [hexV], Lib.bytesWorld_cell w 5 _ 1 (by show 1 < 2; omega)⟩
  have hsz : ByteArray.size ⟨#[hexD a, hexD b]⟩ = 2 := rfl
  rw [hsz] at hcv
  generalize Lib.bytesWorld w 5 ⟨#[hexD a, hexD b]⟩ = w1 at *
  generalize grownCap w 2 0 5 = cap at *
  clear hsz
  go_enter Tryd.func73, Tryd.ntmps73
  go_wp2_with fail
  clear hcv hne
  obtain ⟨cut, hcut⟩ : ∃ c : Int, c = 1152921504606846976 := ⟨_, rfl⟩
  have h16 : 16 ≤ cut := by omega
  rw [← hcut]
  clear hcut
  go_loopw [12, 13, 101] (fun u n i wr => ∃ k : Nat, k ≤ 2 ∧ i = .int .i64 k ∧ u = .bool false ∧ n = .int .u64 (hexV a b k) ∧ wr = w1) (fun _ _ i _ => 2 - (intOf i).toNat)
  case atStart => exact ⟨0, by omega, rfl, rfl, rfl, rfl⟩
  case round =>
    obtain ⟨k, hk, rfl, rfl, rfl, rfl⟩ := hrel
    by_cases h2 : k < 2
    · obtain ⟨x, N, hx, hN, e1, e2, hc⟩ := (unhide HC) k h2
      rw [e1]
      have HE := hide e2
      clear e1 e2
      by_cases h10 : x < 10
      · rw [hex_lo x h10] at hc
        go_wp2_with fail
        go_roundw
        case rel => exact ⟨k + 1, by omega, by go_num, rfl, by rw [unhide HE]; go_num, trivial⟩
        case measure => simp [intOf]; omega
      · obtain ⟨l1, l2⟩ := hex_hi x h10 hx
        have HQ := hide (Tryd.internal_strconv_lower (num (hexD x)) wr)
        rw [l2] at HQ
        rw [l1] at HQ hc
        clear l1 l2
        go_wp2_with (go_at_call 79; refine (unhide HQ).mono ?_; rintro e w' ⟨rfl, rfl⟩)
        go_roundw
        case rel => exact ⟨k + 1, by omega, by go_num, rfl, by rw [unhide HE]; go_num, trivial⟩
        case measure => simp [intOf]; omega
    · obtain rfl : k = 2 := by omega
      go_wp2_with fail
      go_ret2
      exact ⟨rfl, unhide HK⟩
end Go.Proofs.YtabjomgikljdhaaDoor
