import Derived.Test.YtlnkleicnkfkpaaDoorJh
namespace Go.Proofs.YtlnkleicnkfkpaaDoor
open Go.RowKit Go.Maps

theorem check_well (l : SL) (h : checkS l = 0) : wellS l = true := by
  unfold checkS at h
  cases hw : wellS l with
  | true => rfl
  | false => rw [hw] at h; simp at h
theorem check_wellE (l : EL) (h : checkE l = 0) : wellE l = true := by
  unfold checkE at h
  cases hw : wellE l with
  | true => rfl
  | false => rw [hw] at h; simp at h
/-- What Print answers. -/
def printS (l : SL) : Txt := if checkS l = 0 then tailS 0 (sts l) else []
def printE (op n : Int) (s : Txt) (kids : EL) : Txt := if checkE (.cons op n s kids .nil) = 0 then textE op n s kids else []

set_option maxRecDepth 100000 in
set_option maxHeartbeats 800000 in
theorem rPrint_v {E : World → Prop} (hL : RLib E) (Z : Zone) (l : SL) (hsz : l.size ≤ 2147483647) (hi : intS l) (w : World) (up : Nat) (v : Value) (hE : E w) (hT : Tabs w) (hS : SlS Z w up v l) :
    Calls Tryd.prog 17 #[v] w fun e w' => e = .returned (.tuple #[str (printS l), .int .i64 (checkS l)]) ∧ Keeps (fun _ => False) w w' := by
  have HC := hide (rCheck_v Z l hsz w up v hS)
  obtain ⟨ao, cap, rfl, hc⟩ := hS.head
  unfold printS
  by_cases h0 : checkS l = 0
  · rw [if_pos h0]
    have hw := check_well l h0
    have HJ := fun (w' : World) (hk : Keeps (fun _ => False) w w') => hide (joined_v hL Z (l.size + 1) l (by omega) hsz hw hi w' up _ (hL.keep hE hk) (hT.keepF hk) (hS.keepF hk))
    rw [h0] at HC ⊢
    generalize tailS 0 (sts l) = T at HJ ⊢
    clear hS hE hT hi h0 hw
    go_enter Tryd.func17, Tryd.ntmps17
    go_wp2_with fail
    refine (unhide HC).mono ?_
    rintro e w1 ⟨rfl, hk1⟩
    go_wp2_with fail
    refine (unhide (HJ w1 hk1)).mono ?_
    rintro e w2 ⟨rfl, hk2⟩
    go_wp2_with fail
    go_ret2
    exact ⟨rfl, hk1.trans hk2⟩
  · rw [if_neg h0]
    have d0 : (checkS l != 0) = true := by simpa using h0
    generalize checkS l = C at HC d0 ⊢
    clear hS hE hT hi h0
    go_enter Tryd.func17, Tryd.ntmps17
    go_wp2_with fail
    refine (unhide HC).mono ?_
    rintro e w1 ⟨rfl, hk1⟩
    go_wp2_with fail
    go_ret2
    exact ⟨rfl, hk1⟩

set_option maxRecDepth 100000 in
set_option maxHeartbeats 800000 in
theorem rPrintExpr_v {E : World → Prop} (hL : RLib E) (Z : Zone) (op n : Int) (s : Txt) (kids : EL) (hsz : kids.size + 1 ≤ 2147483647) (h0 : -9223372036854775808 ≤ n) (h1 : n ≤ 9223372036854775807) (hi : intE kids) (w : World) (up : Nat) (v : Value) (hE : E w) (hT : Tabs w) (hS : SlE Z w up v kids) :
    Calls Tryd.prog 19 #[exV op n s v] w fun e w' => e = .returned (.tuple #[str (printE op n s kids), .int .i64 (checkE (.cons op n s kids .nil))]) ∧ Keeps (fun _ => False) w w' := by
  obtain ⟨ao, cap, rfl, hc⟩ := hS.head
  obtain ⟨HB, hxb, hxc⟩ := boxedT w #[.int .i64 op, .int .i64 n, str s, .slice ao kids.len cap] 25
  have c0 := hxc 0 (.int .i64 op) rfl
  have c1 := hxc 1 (.int .i64 n) rfl
  have c2 := hxc 2 (str s) rfl
  have c3 := hxc 3 (.slice ao kids.len cap) rfl
  have HC := hide (rCheckExpr_v Z op n s kids hsz _ up _ (hS.keepF (unhide HB)))
  unfold printE
  by_cases hc0 : checkE (.cons op n s kids .nil) = 0
  · rw [if_pos hc0]
    have hw := check_wellE _ hc0
    simp only [wellE, Bool.and_eq_true] at hw
    have HJ := fun (w' : World) (hk : Keeps (fun _ => False) w w') => hide (text_v hL Z (kids.size + 1) kids (by omega) (by omega) op n s hw.1 hw.2.1 h0 h1 hi w' up _ (hL.keep hE hk) (hT.keepF hk) (hS.keepF hk))
    rw [hc0] at HC ⊢
    generalize textE op n s kids = T at HJ ⊢
    clear hS hE hT hi hc0 hw hxc
    go_enter Tryd.func19, Tryd.ntmps19
    go_wp2_with fail
    refine (unhide HC).mono ?_
    rintro e w1 ⟨rfl, hk1⟩
    have r0 := (hk1.cell (o := 0) hxb id).trans c0
    have r1 := (hk1.cell (o := 1) hxb id).trans c1
    have r2 := (hk1.cell (o := 2) hxb id).trans c2
    have r3 := (hk1.cell (o := 3) hxb id).trans c3
    have HK1 := hide ((unhide HB).trans hk1)
    clear hk1
    go_wp2_with fail
    refine (unhide (HJ w1 (unhide HK1))).mono ?_
    rintro e w2 ⟨rfl, hk2⟩
    go_wp2_with fail
    go_ret2
    exact ⟨rfl, (unhide HK1).trans hk2⟩
  · rw [if_neg hc0]
    have d0 : (checkE (.cons op n s kids .nil) != 0) = true := by simpa using hc0
    generalize checkE (.cons op n s kids .nil) = C at HC d0 ⊢
    clear hS hE hT hi hc0 hxc
    go_enter Tryd.func19, Tryd.ntmps19
    go_wp2_with fail
    refine (unhide HC).mono ?_
    rintro e w1 ⟨rfl, hk1⟩
    go_wp2_with fail
    go_ret2
    exact ⟨rfl, (unhide HB).trans hk1⟩
end Go.Proofs.YtlnkleicnkfkpaaDoor
