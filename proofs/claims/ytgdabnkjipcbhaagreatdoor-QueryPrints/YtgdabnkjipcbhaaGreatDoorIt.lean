import Derived.Test.YtgdabnkjipcbhaaGreatDoorJzag
namespace Go.Proofs.YtgdabnkjipcbhaaGreatDoor
open Go.RowKit Go.Maps

set_option maxRecDepth 100000 in
theorem itoa_in (n : Int) (h0 : -9223372036854775808 ≤ n) (h1 : n ≤ 9223372036854775807) (w : World) (hP : Pow w) :
    Calls Tryz.prog 29 #[.int .i64 n] w fun e w' => e = .returned (str (decimal n)) ∧ Keeps (fun _ => False) w w' := by
  have HQ := hide (Tryz.internal_strconv_FormatInt_10 n h0 h1 w hP)
  rw [itoa_eq] at HQ
  clear hP h0 h1
  go_enter Tryz.func29, Tryz.ntmps29
  go_wp2_with fail
  refine (unhide HQ).mono ?_
  rintro e w2 ⟨rfl, k, os, rfl⟩
  have HK := hide (keeps_grow w k os)
  generalize Go.Sort.grow (w.drewN k) os = w2 at *
  go_wp2_with fail
  go_ret
  exact ⟨rfl, unhide HK⟩
set_option maxRecDepth 100000 in
theorem itoa_v (n : Int) (h0 : -9223372036854775808 ≤ n) (h1 : n ≤ 9223372036854775807) (w : World) (hP : Pow w) :
    Calls Tryz.prog 15 #[.int .i64 n] w fun e w' => e = .returned (str (decimal n)) ∧ Keeps (fun _ => False) w w' := by
  have HQ := hide (itoa_in n h0 h1 w hP)
  clear hP h0 h1
  go_enter Tryz.func15, Tryz.ntmps15
  go_wp2_with fail
  refine (unhide HQ).mono ?_
  rintro e w2 ⟨rfl, hk⟩
  have HK := hide hk
  go_wp2_with fail
  go_ret
  exact ⟨rfl, unhide HK⟩
end Go.Proofs.YtgdabnkjipcbhaaGreatDoor
