import Derived.Test.YtiinohibmcefkaaGreatDoorJzaq
import Derived.Test.YtiinohibmcefkaaGreatDoorJzaj
import Derived.Test.YtiinohibmcefkaaGreatDoorJzaf
import Derived.Test.YtiinohibmcefkaaGreatDoorJan
import Derived.Test.YtiinohibmcefkaaGreatDoorJzai
import Derived.Test.YtiinohibmcefkaaGreatDoorKm
import Derived.Test.YtiinohibmcefkaaGreatDoorJad
import Derived.Test.YtiinohibmcefkaaGreatDoorJzac
import Derived.Test.YtiinohibmcefkaaGreatDoorJae
import Derived.Test.YtiinohibmcefkaaGreatDoorJzaa
import Derived.Test.YtiinohibmcefkaaGreatDoorVa
import Derived.Deep.AppendLies
import Derived.Test.YtiinohibmcefkaaGreatDoorJzas
import Derived.Test.YtiinohibmcefkaaGreatDoorJbc
import Derived.Test.YtiinohibmcefkaaGreatDoorJzag
import Derived.Deep.DeepCutAuto
import Derived.Test.YtiinohibmcefkaaGreatDoorJba
namespace Go.Proofs.YtiinohibmcefkaaGreatDoor
open Go.RowKit Go.Maps
set_option maxRecDepth 100000
set_option maxHeartbeats 4000000
def rjoinV (op : Int) (f e : ValA) : ValA := if op = 1 then e else if op = 2 then numV (wrap64 (f.n + e.n)) else if f.kind = 0 then e else if op = 3 then numV (min f.n e.n) else numV (max f.n e.n)
theorem rjoined1 (fk fn ek en : Int) (fs es : Txt) (w : World) : Calls Tryz.prog 161 #[.int .i64 1, .agg #[.int .i64 fk, .int .i64 fn, str fs], .agg #[.int .i64 ek, .int .i64 en, str es]] w fun r w' => r = .returned ((⟨ek, en, es⟩ : ValA)).v ∧ Keeps (fun _ => False) w w' := by
 obtain ⟨W, hW, hkW, g0, g1, g2⟩ := boxA3 w #[.int .i64 fk, .int .i64 fn, str fs] #[.int .i64 ek, .int .i64 en, str es] #[.int .i64 0, .int .i64 0, .string ⟨#[]⟩] 41 41 41
 obtain ⟨a0, a1, a2⟩ := cl3 g0
 obtain ⟨b0, b1, b2⟩ := cl3 g1
 have HG := hide g2
 have HKW := hide hkW
 clear g0 g1 g2 hkW
 obtain ⟨z0, z1, z2, y0, y1, y2, s0, s1, s2⟩ := res_facts (uh HG) (Keeps.refl _ W) ⟨ek, en, es⟩
 have HK := hide ((uh HKW).fresh (by omega) (keeps_set3 W (w.heap.size + 1 + 1) (.int .i64 ek) (.int .i64 en) (str es)))
 go_enter Tryz.func161, Tryz.ntmps161
 go_wp2_with fail
 refine bodyPost_ret (v := .agg #[.int .i64 ek, .int .i64 en, str es]) (by simp [results, go_sem, s0, s1, s2]) rfl ?_
 exact ⟨rfl, uh HK⟩
theorem rjoined2 (fk fn ek en : Int) (fs es : Txt) (w : World) : Calls Tryz.prog 161 #[.int .i64 2, .agg #[.int .i64 fk, .int .i64 fn, str fs], .agg #[.int .i64 ek, .int .i64 en, str es]] w fun r w' => r = .returned (numV (wrap64 (fn + en))).v ∧ Keeps (fun _ => False) w w' := by
 obtain ⟨W, hW, hkW, g0, g1, g2⟩ := boxA3 w #[.int .i64 fk, .int .i64 fn, str fs] #[.int .i64 ek, .int .i64 en, str es] #[.int .i64 0, .int .i64 0, .string ⟨#[]⟩] 41 41 41
 obtain ⟨a0, a1, a2⟩ := cl3 g0
 obtain ⟨b0, b1, b2⟩ := cl3 g1
 have HG := hide g2
 have HKW := hide hkW
 clear g0 g1 g2 hkW
 go_enter Tryz.func161, Tryz.ntmps161
 go_wp2_with fail
 refine (num_v _ _).mono ?_
 rintro r w1 ⟨rfl, hk1⟩
 generalize hx : numV _ = x at *
 have HXE := hide hx
 clear hx
 obtain ⟨z0, z1, z2, y0, y1, y2, s0, s1, s2⟩ := res_facts (uh HG) hk1 x
 have HK := hide (((uh HKW).trans hk1).fresh (by omega) (keeps_set3 w1 (w.heap.size + 1 + 1) (.int .i64 x.kind) (.int .i64 x.n) (str x.s)))
 unfold ValA.v
 clear hk1
 go_wp2_with fail
 refine bodyPost_ret (v := .agg #[.int .i64 x.kind, .int .i64 x.n, str x.s]) (by simp [results, go_sem, s0, s1, s2]) rfl ?_
 exact ⟨by rw [uh HXE]; rfl, uh HK⟩
theorem rjoined0 (op fn ek en : Int) (fs es : Txt) (h1 : op ≠ 1) (h2 : op ≠ 2) (w : World) : Calls Tryz.prog 161 #[.int .i64 op, .agg #[.int .i64 0, .int .i64 fn, str fs], .agg #[.int .i64 ek, .int .i64 en, str es]] w fun r w' => r = .returned ((⟨ek, en, es⟩ : ValA)).v ∧ Keeps (fun _ => False) w w' := by
 obtain ⟨W, hW, hkW, g0, g1, g2⟩ := boxA3 w #[.int .i64 0, .int .i64 fn, str fs] #[.int .i64 ek, .int .i64 en, str es] #[.int .i64 0, .int .i64 0, .string ⟨#[]⟩] 41 41 41
 obtain ⟨a0, a1, a2⟩ := cl3 g0
 obtain ⟨b0, b1, b2⟩ := cl3 g1
 have HG := hide g2
 have HKW := hide hkW
 clear g0 g1 g2 hkW
 obtain ⟨z0, z1, z2, y0, y1, y2, s0, s1, s2⟩ := res_facts (uh HG) (Keeps.refl _ W) ⟨ek, en, es⟩
 have HK := hide ((uh HKW).fresh (by omega) (keeps_set3 W (w.heap.size + 1 + 1) (.int .i64 ek) (.int .i64 en) (str es)))
 go_enter Tryz.func161, Tryz.ntmps161
 go_wp2_with fail
 refine bodyPost_ret (v := .agg #[.int .i64 ek, .int .i64 en, str es]) (by simp [results, go_sem, s0, s1, s2]) rfl ?_
 exact ⟨rfl, uh HK⟩
theorem rjoined3a (fk fn ek en : Int) (fs es : Txt) (h0 : fk ≠ 0) (hl : fn < en) (w : World) : Calls Tryz.prog 161 #[.int .i64 3, .agg #[.int .i64 fk, .int .i64 fn, str fs], .agg #[.int .i64 ek, .int .i64 en, str es]] w fun r w' => r = .returned (numV (fn)).v ∧ Keeps (fun _ => False) w w' := by
 obtain ⟨W, hW, hkW, g0, g1, g2⟩ := boxA3 w #[.int .i64 fk, .int .i64 fn, str fs] #[.int .i64 ek, .int .i64 en, str es] #[.int .i64 0, .int .i64 0, .string ⟨#[]⟩] 41 41 41
 obtain ⟨a0, a1, a2⟩ := cl3 g0
 obtain ⟨b0, b1, b2⟩ := cl3 g1
 have HG := hide g2
 have HKW := hide hkW
 clear g0 g1 g2 hkW
 have l1 : ¬ en < fn := by omega
 have l2 : fn ≤ en := by omega
 have l3 : ¬ en ≤ fn := by omega
 go_enter Tryz.func161, Tryz.ntmps161
 go_wp2_with fail
 refine (num_v _ _).mono ?_
 rintro r w1 ⟨rfl, hk1⟩
 generalize hx : numV _ = x at *
 have HXE := hide hx
 clear hx
 obtain ⟨z0, z1, z2, y0, y1, y2, s0, s1, s2⟩ := res_facts (uh HG) hk1 x
 have HK := hide (((uh HKW).trans hk1).fresh (by omega) (keeps_set3 w1 (w.heap.size + 1 + 1) (.int .i64 x.kind) (.int .i64 x.n) (str x.s)))
 unfold ValA.v
 clear hk1
 go_wp2_with fail
 refine bodyPost_ret (v := .agg #[.int .i64 x.kind, .int .i64 x.n, str x.s]) (by simp [results, go_sem, s0, s1, s2]) rfl ?_
 exact ⟨by rw [uh HXE]; rfl, uh HK⟩
theorem rjoined3b (fk fn ek en : Int) (fs es : Txt) (h0 : fk ≠ 0) (hl : en < fn) (w : World) : Calls Tryz.prog 161 #[.int .i64 3, .agg #[.int .i64 fk, .int .i64 fn, str fs], .agg #[.int .i64 ek, .int .i64 en, str es]] w fun r w' => r = .returned (numV (en)).v ∧ Keeps (fun _ => False) w w' := by
 obtain ⟨W, hW, hkW, g0, g1, g2⟩ := boxA3 w #[.int .i64 fk, .int .i64 fn, str fs] #[.int .i64 ek, .int .i64 en, str es] #[.int .i64 0, .int .i64 0, .string ⟨#[]⟩] 41 41 41
 obtain ⟨a0, a1, a2⟩ := cl3 g0
 obtain ⟨b0, b1, b2⟩ := cl3 g1
 have HG := hide g2
 have HKW := hide hkW
 clear g0 g1 g2 hkW
 have l1 : ¬ fn < en := by omega
 have l2 : en ≤ fn := by omega
 have l3 : ¬ fn ≤ en := by omega
 go_enter Tryz.func161, Tryz.ntmps161
 go_wp2_with fail
 refine (num_v _ _).mono ?_
 rintro r w1 ⟨rfl, hk1⟩
 generalize hx : numV _ = x at *
 have HXE := hide hx
 clear hx
 obtain ⟨z0, z1, z2, y0, y1, y2, s0, s1, s2⟩ := res_facts (uh HG) hk1 x
 have HK := hide (((uh HKW).trans hk1).fresh (by omega) (keeps_set3 w1 (w.heap.size + 1 + 1) (.int .i64 x.kind) (.int .i64 x.n) (str x.s)))
 unfold ValA.v
 clear hk1
 go_wp2_with fail
 refine bodyPost_ret (v := .agg #[.int .i64 x.kind, .int .i64 x.n, str x.s]) (by simp [results, go_sem, s0, s1, s2]) rfl ?_
 exact ⟨by rw [uh HXE]; rfl, uh HK⟩
theorem rjoined3c (fk fn ek : Int) (fs es : Txt) (h0 : fk ≠ 0) (w : World) : Calls Tryz.prog 161 #[.int .i64 3, .agg #[.int .i64 fk, .int .i64 fn, str fs], .agg #[.int .i64 ek, .int .i64 fn, str es]] w fun r w' => r = .returned (numV fn).v ∧ Keeps (fun _ => False) w w' := by
 obtain ⟨W, hW, hkW, g0, g1, g2⟩ := boxA3 w #[.int .i64 fk, .int .i64 fn, str fs] #[.int .i64 ek, .int .i64 fn, str es] #[.int .i64 0, .int .i64 0, .string ⟨#[]⟩] 41 41 41
 obtain ⟨a0, a1, a2⟩ := cl3 g0
 obtain ⟨b0, b1, b2⟩ := cl3 g1
 have HG := hide g2
 have HKW := hide hkW
 clear g0 g1 g2 hkW
 go_enter Tryz.func161, Tryz.ntmps161
 go_wp2_with fail
 refine (num_v _ _).mono ?_
 rintro r w1 ⟨rfl, hk1⟩
 generalize hx : numV _ = x at *
 have HXE := hide hx
 clear hx
 obtain ⟨z0, z1, z2, y0, y1, y2, s0, s1, s2⟩ := res_facts (uh HG) hk1 x
 have HK := hide (((uh HKW).trans hk1).fresh (by omega) (keeps_set3 w1 (w.heap.size + 1 + 1) (.int .i64 x.kind) (.int .i64 x.n) (str x.s)))
 unfold ValA.v
 clear hk1
 go_wp2_with fail
 refine bodyPost_ret (v := .agg #[.int .i64 x.kind, .int .i64 x.n, str x.s]) (by simp [results, go_sem, s0, s1, s2]) rfl ?_
 exact ⟨by rw [uh HXE]; rfl, uh HK⟩
theorem rjoined4a (op fk fn ek en : Int) (fs es : Txt) (h0 : fk ≠ 0) (h1 : op ≠ 1) (h2 : op ≠ 2) (h3 : op ≠ 3) (hl : fn < en) (w : World) : Calls Tryz.prog 161 #[.int .i64 op, .agg #[.int .i64 fk, .int .i64 fn, str fs], .agg #[.int .i64 ek, .int .i64 en, str es]] w fun r w' => r = .returned (numV (en)).v ∧ Keeps (fun _ => False) w w' := by
 obtain ⟨W, hW, hkW, g0, g1, g2⟩ := boxA3 w #[.int .i64 fk, .int .i64 fn, str fs] #[.int .i64 ek, .int .i64 en, str es] #[.int .i64 0, .int .i64 0, .string ⟨#[]⟩] 41 41 41
 obtain ⟨a0, a1, a2⟩ := cl3 g0
 obtain ⟨b0, b1, b2⟩ := cl3 g1
 have HG := hide g2
 have HKW := hide hkW
 clear g0 g1 g2 hkW
 have l1 : ¬ en < fn := by omega
 have l2 : fn ≤ en := by omega
 have l3 : ¬ en ≤ fn := by omega
 go_enter Tryz.func161, Tryz.ntmps161
 go_wp2_with fail
 refine (num_v _ _).mono ?_
 rintro r w1 ⟨rfl, hk1⟩
 generalize hx : numV _ = x at *
 have HXE := hide hx
 clear hx
 obtain ⟨z0, z1, z2, y0, y1, y2, s0, s1, s2⟩ := res_facts (uh HG) hk1 x
 have HK := hide (((uh HKW).trans hk1).fresh (by omega) (keeps_set3 w1 (w.heap.size + 1 + 1) (.int .i64 x.kind) (.int .i64 x.n) (str x.s)))
 unfold ValA.v
 clear hk1
 go_wp2_with fail
 refine bodyPost_ret (v := .agg #[.int .i64 x.kind, .int .i64 x.n, str x.s]) (by simp [results, go_sem, s0, s1, s2]) rfl ?_
 exact ⟨by rw [uh HXE]; rfl, uh HK⟩
theorem rjoined4b (op fk fn ek en : Int) (fs es : Txt) (h0 : fk ≠ 0) (h1 : op ≠ 1) (h2 : op ≠ 2) (h3 : op ≠ 3) (hl : en < fn) (w : World) : Calls Tryz.prog 161 #[.int .i64 op, .agg #[.int .i64 fk, .int .i64 fn, str fs], .agg #[.int .i64 ek, .int .i64 en, str es]] w fun r w' => r = .returned (numV (fn)).v ∧ Keeps (fun _ => False) w w' := by
 obtain ⟨W, hW, hkW, g0, g1, g2⟩ := boxA3 w #[.int .i64 fk, .int .i64 fn, str fs] #[.int .i64 ek, .int .i64 en, str es] #[.int .i64 0, .int .i64 0, .string ⟨#[]⟩] 41 41 41
 obtain ⟨a0, a1, a2⟩ := cl3 g0
 obtain ⟨b0, b1, b2⟩ := cl3 g1
 have HG := hide g2
 have HKW := hide hkW
 clear g0 g1 g2 hkW
 have l1 : ¬ fn < en := by omega
 have l2 : en ≤ fn := by omega
 have l3 : ¬ fn ≤ en := by omega
 go_enter Tryz.func161, Tryz.ntmps161
 go_wp2_with fail
 refine (num_v _ _).mono ?_
 rintro r w1 ⟨rfl, hk1⟩
 generalize hx : numV _ = x at *
 have HXE := hide hx
 clear hx
 obtain ⟨z0, z1, z2, y0, y1, y2, s0, s1, s2⟩ := res_facts (uh HG) hk1 x
 have HK := hide (((uh HKW).trans hk1).fresh (by omega) (keeps_set3 w1 (w.heap.size + 1 + 1) (.int .i64 x.kind) (.int .i64 x.n) (str x.s)))
 unfold ValA.v
 clear hk1
 go_wp2_with fail
 refine bodyPost_ret (v := .agg #[.int .i64 x.kind, .int .i64 x.n, str x.s]) (by simp [results, go_sem, s0, s1, s2]) rfl ?_
 exact ⟨by rw [uh HXE]; rfl, uh HK⟩
theorem rjoined4c (op fk fn ek : Int) (fs es : Txt) (h0 : fk ≠ 0) (h1 : op ≠ 1) (h2 : op ≠ 2) (h3 : op ≠ 3) (w : World) : Calls Tryz.prog 161 #[.int .i64 op, .agg #[.int .i64 fk, .int .i64 fn, str fs], .agg #[.int .i64 ek, .int .i64 fn, str es]] w fun r w' => r = .returned (numV fn).v ∧ Keeps (fun _ => False) w w' := by
 obtain ⟨W, hW, hkW, g0, g1, g2⟩ := boxA3 w #[.int .i64 fk, .int .i64 fn, str fs] #[.int .i64 ek, .int .i64 fn, str es] #[.int .i64 0, .int .i64 0, .string ⟨#[]⟩] 41 41 41
 obtain ⟨a0, a1, a2⟩ := cl3 g0
 obtain ⟨b0, b1, b2⟩ := cl3 g1
 have HG := hide g2
 have HKW := hide hkW
 clear g0 g1 g2 hkW
 go_enter Tryz.func161, Tryz.ntmps161
 go_wp2_with fail
 refine (num_v _ _).mono ?_
 rintro r w1 ⟨rfl, hk1⟩
 generalize hx : numV _ = x at *
 have HXE := hide hx
 clear hx
 obtain ⟨z0, z1, z2, y0, y1, y2, s0, s1, s2⟩ := res_facts (uh HG) hk1 x
 have HK := hide (((uh HKW).trans hk1).fresh (by omega) (keeps_set3 w1 (w.heap.size + 1 + 1) (.int .i64 x.kind) (.int .i64 x.n) (str x.s)))
 unfold ValA.v
 clear hk1
 go_wp2_with fail
 refine bodyPost_ret (v := .agg #[.int .i64 x.kind, .int .i64 x.n, str x.s]) (by simp [results, go_sem, s0, s1, s2]) rfl ?_
 exact ⟨by rw [uh HXE]; rfl, uh HK⟩
theorem rjoined_v (op : Int) (f e : ValA) (w : World) : Calls Tryz.prog 161 #[.int .i64 op, f.v, e.v] w fun r w' => r = .returned (rjoinV op f e).v ∧ Keeps (fun _ => False) w w' := by
 obtain ⟨fk, fn, fs⟩ := f
 obtain ⟨ek, en, es⟩ := e
 unfold rjoinV
 by_cases h1 : op = 1
 ·rw [if_pos h1, h1]
  exact rjoined1 fk fn ek en fs es w
 ·rw [if_neg h1]
  by_cases h2 : op = 2
  ·rw [if_pos h2, h2]
   exact rjoined2 fk fn ek en fs es w
  ·rw [if_neg h2]
   by_cases h0 : fk = 0
   ·rw [if_pos (show (⟨fk, fn, fs⟩ : ValA).kind = 0 from h0), h0]
    exact rjoined0 op fn ek en fs es h1 h2 w
   ·rw [if_neg (show ¬ (⟨fk, fn, fs⟩ : ValA).kind = 0 from h0)]
    by_cases h3 : op = 3
    ·rw [if_pos h3, h3]
     rcases Int.lt_trichotomy fn en with hl | hl | hl
     ·rw [show min (⟨fk, fn, fs⟩ : ValA).n (⟨ek, en, es⟩ : ValA).n = fn by show min fn en = fn; omega]
      exact rjoined3a fk fn ek en fs es h0 hl w
     ·subst hl
      rw [show min (⟨fk, fn, fs⟩ : ValA).n (⟨ek, fn, es⟩ : ValA).n = fn by show min fn fn = fn; omega]
      exact rjoined3c fk fn ek fs es h0 w
     ·rw [show min (⟨fk, fn, fs⟩ : ValA).n (⟨ek, en, es⟩ : ValA).n = en by show min fn en = en; omega]
      exact rjoined3b fk fn ek en fs es h0 hl w
    ·rw [if_neg h3]
     rcases Int.lt_trichotomy fn en with hl | hl | hl
     ·rw [show max (⟨fk, fn, fs⟩ : ValA).n (⟨ek, en, es⟩ : ValA).n = en by show max fn en = en; omega]
      exact rjoined4a op fk fn ek en fs es h0 h1 h2 h3 hl w
     ·subst hl
      rw [show max (⟨fk, fn, fs⟩ : ValA).n (⟨ek, fn, es⟩ : ValA).n = fn by show max fn fn = fn; omega]
      exact rjoined4c op fk fn ek fs es h0 h1 h2 h3 w
     ·rw [show max (⟨fk, fn, fs⟩ : ValA).n (⟨ek, en, es⟩ : ValA).n = fn by show max fn en = fn; omega]
      exact rjoined4b op fk fn ek en fs es h0 h1 h2 h3 hl w
theorem set_at (l : List ValA) (i k : Nat) (x : ValA) {y : ValA} (h : l[k]? = some y) : (l.set i x)[k]? = some (if k = i then x else y) := by
 rw [List.getElem?_set]
 by_cases e : i = k
 ·subst e
  have := (List.getElem?_eq_some_iff.1 h).1
  simp [this]
 ·rw [if_neg e, if_neg (fun q => e q.symm), h]
theorem rwith_v (w : World) (h : Bool) (u : Value) (vals : List ValA) (i : Nat) (x : ValA) (hu : ValsAt w u vals) (hl : vals.length ≤ 4398046511104) :
  Calls Tryz.prog 160 #[.agg #[.bool h, u], .int .i64 (i : Int), x.v] w fun e w' => ∃ uo uc, e = .returned (.agg #[.bool true, .slice uo (vals.set i x).length uc]) ∧ w'.ownsRow w.heap.size 41 3 (.slice uo (vals.set i x).length uc) (vals.set i x).length (vcs (vals.set i x)) ∧ Keeps (fun _ => False) w w' := by
 obtain ⟨i0, hi, hz0, hz1, hz2⟩ := info_parts Tryz.info41
 obtain ⟨uo, uc, rfl⟩ := RowAt.form hu
 obtain ⟨W, hW, hkW, g0, g1, g2⟩ := boxA3 w #[.bool h, .slice uo vals.length uc] #[.int .i64 x.kind, .int .i64 x.n, str x.s] #[.bool false, .slice none 0 0] 31 41 31
 have B0 := hide (fun (X : World) (hk : Keeps (fun _ => False) W X) => cl2 (blk_keep g0 hk))
 have B1 := hide (fun (X : World) (hk : Keeps (fun _ => False) W X) => cl3 (blk_keep g1 hk))
 have B2 := hide (fun (X : World) (hk : Keeps (fun _ => False) W X) => blk_keep g2 hk)
 have HR := hide (hu.keepF hkW)
 have HKW := hide hkW
 have HL := hide hl
 have HWs : w.heap.size + 1 + 1 < W.heap.size := lt_of_block g2
 have hl' : vals.length ≤ 9223372036854775807 := by omega
 clear g0 g1 g2 hkW hu hl
 show Calls Tryz.prog 160 #[.agg #[.bool h, .slice uo vals.length uc], .int .i64 (i : Int), .agg #[.int .i64 x.kind, .int .i64 x.n, str x.s]] w _
 go_enter Tryz.func160, Tryz.ntmps160
 go_wp2_with fail
 go_loopw [7, 8] (fun o j wr => ∃ k : Nat, k ≤ vals.length ∧ j = .int .i64 k ∧ wr.ownsRow W.heap.size 41 3 o k (vcs ((vals.set i x).take k)) ∧ Keeps (fun _ => False) W wr) (fun _ j _ => vals.length - (intOf j).toNat)
 case atStart => exact ⟨0, Nat.zero_le _, rfl, by simpa [vcs] using World.ownsRow_nil W W.heap.size 41 3, Keeps.refl _ _⟩
 case round =>
  obtain ⟨k, hk, rfl, hown, hkeep⟩ := hrel
  obtain ⟨oo, oc, rfl⟩ := (rowAt_own hown).form
  have HO := hide hown
  have HK := hide hkeep
  obtain ⟨r0, r1⟩ := uh B0 wr hkeep
  obtain ⟨x0, x1, x2⟩ := uh B1 wr hkeep
  clear hown hkeep
  by_cases hlt : k < vals.length
  ·obtain ⟨b, off, c, e1, hblt, hc⟩ := (uh HR).cells (by omega)
   simp at e1
   obtain ⟨rfl, rfl⟩ := e1
   obtain ⟨y, hy⟩ : ∃ y, vals[k]? = some y := ⟨_, List.getElem?_eq_getElem hlt⟩
   have p0 := ((uh HK).cell hblt id).trans (hc k y hy).1
   have p1 := ((uh HK).cell hblt id).trans (hc k y hy).2.1
   have p2 := ((uh HK).cell hblt id).trans (hc k y hy).2.2
   have HX := hide (set_at vals i k x hy)
   have i1 : (k : Int) < (vals.length : Int) := by omega
   have i0' : (0 : Int) ≤ (k : Int) := by omega
   clear hc hy
   by_cases hki : k = i
   ·subst hki
    go_wp2_with (at_builtin; refine wpList_append_lies _ rfl _ _ _ rfl W.heap.size 41 i0 _ 3 32 Tryz.underlying29 hi hz0 hz1 hz2 rfl (by omega) (.slice oo k oc) k (vcs ((vals.set k x).take k)) rfl ((uh HO).alloc _) ⟨wr.heap.size, 0, none⟩ 1 1 x.cs rfl rfl (World.news_of_block (cs := #[.int .i64 x.kind, .int .i64 x.n, str x.s]) (t := 41) (fr := (0, 0)) (heap_alloc_new wr _)) (by simp [Value.oneCell', ValA.cs]) (by omega) (by unfold maxLen; omega) (by have := uh HL; omega) (by have := (uh HK).size; simp; omega) (wr.heap.size + 1) (by simp) ?_; intro g cap w1 hown1 hgrow hat hlt1)
    go_roundw
    case rel =>
     refine ⟨k + 1, by omega, by go_num, ?_, ((uh HK).alloc _).grown hgrow (fun q e hq => by have := ((uh HO).lt q e).1; omega)⟩
     have HX' := uh HX
     rw [if_pos rfl] at HX'
     rw [take_snoc _ _ _ HX']
     simpa [vcs] using hown1
    case measure => simp [intOf]; omega
   ·have i3 : ¬ (k : Int) = (i : Int) := by omega
    go_wp2_with (at_builtin; refine wpList_append_lies _ rfl _ _ _ rfl W.heap.size 41 i0 _ 3 32 Tryz.underlying29 hi hz0 hz1 hz2 rfl (by omega) (.slice oo k oc) k (vcs ((vals.set i x).take k)) rfl ((uh HO).alloc _) ⟨wr.heap.size, 0, none⟩ 1 1 y.cs rfl rfl (World.news_of_block (cs := #[.int .i64 y.kind, .int .i64 y.n, str y.s]) (t := 41) (fr := (0, 0)) (heap_alloc_new wr _)) (by simp [Value.oneCell', ValA.cs]) (by omega) (by unfold maxLen; omega) (by have := uh HL; omega) (by have := (uh HK).size; simp; omega) (wr.heap.size + 1) (by simp) ?_; intro g cap w1 hown1 hgrow hat hlt1)
    go_roundw
    case rel =>
     refine ⟨k + 1, by omega, by go_num, ?_, ((uh HK).alloc _).grown hgrow (fun q e hq => by have := ((uh HO).lt q e).1; omega)⟩
     have HX' := uh HX
     rw [if_neg hki] at HX'
     rw [take_snoc _ _ _ HX']
     simpa [vcs] using hown1
    case measure => simp [intOf]; omega
  ·obtain rfl : k = vals.length := by omega
   have i1 : ¬ (vals.length : Int) < (vals.length : Int) := by omega
   have hb := uh B2 wr (uh HK)
   have z0 := fB hb 0
   have z1 := fB hb 1
   obtain ⟨y0, y1⟩ := cl2 hb
   obtain ⟨s0, s1⟩ := set2c hb (.bool true) (.slice oo vals.length oc)
   have HKE := hide (((uh HKW).trans (uh HK)).fresh (by omega) (keeps_set2 wr (w.heap.size + 1 + 1) (.bool true) (.slice oo vals.length oc)))
   have HOE := hide (ownsRow_lower (ownsRow_kept (uh HO) (keeps_set2 wr (w.heap.size + 1 + 1) (.bool true) (.slice oo vals.length oc)) (fun q e hq => by have := ((uh HO).lt q e).1; omega)) (show w.heap.size ≤ W.heap.size by omega))
   clear hb
   go_wp2_with fail
   refine bodyPost_ret (v := .agg #[.bool true, .slice oo vals.length oc]) (by simp [results, go_sem, s0, s1]) rfl ?_
   refine ⟨oo, oc, by first | rfl | rw [List.length_set], ?_, uh HKE⟩
   have := uh HOE
   rw [List.take_of_length_le (by simp)] at this
   first | exact this | (rw [List.length_set]; exact this)
end Go.Proofs.YtiinohibmcefkaaGreatDoor
namespace Go.Proofs.YtiinohibmcefkaaGreatDoor
open Go.RowKit Go.Maps
set_option maxRecDepth 100000
set_option maxHeartbeats 2000000
theorem copiedR_v (w : World) (hh : Bool) (u : Value) (vals : List ValA) (hr : ValsAt w u vals) (hl : vals.length ≤ 4398046511104) :
  Calls Tryz.prog 64 #[.agg #[.bool hh, u]] w fun e w' => ∃ ro rc, e = .returned (.agg #[.bool hh, .slice ro vals.length rc]) ∧ w'.ownsRow w.heap.size 41 3 (.slice ro vals.length rc) vals.length (vcs vals) ∧ Keeps (fun _ => False) w w' := by
 obtain ⟨uo, uc, rfl⟩ := RowAt.form hr
 obtain ⟨W, hW, hkW, g0, g1⟩ := boxA2 w #[.bool hh, .slice uo vals.length uc] #[.bool false, .slice none 0 0] 31 31
 have HCV := hide (fun (W2 : World) (h : Keeps (fun _ => False) W W2) => copyVals_any W2 _ vals ((hr.keepF hkW).keepF h) hl)
 have HSK : Hid (∀ w', Keeps (fun q => q = w.heap.size + 1) W w' → w'.cell? ⟨w.heap.size, 0, none⟩ = some (.bool hh) ∧ w'.cell? ⟨w.heap.size, 1, none⟩ = some (.slice uo vals.length uc)) := fun w' hk => by
  have x1 := (hk.block _ (lt_of_block g0) (by omega)).trans g0
  exact ⟨(cB x1 _).trans rfl, (cB x1 _).trans rfl⟩
 have HKX := hide (Keeps.refl (fun _ => False) W)
 have HWX := hide hkW
 have H2 := hide g1
 obtain ⟨a0, a1⟩ := uh HSK W (Keeps.refl _ _)
 clear g0 g1 hkW hr
 go_enter Tryz.func64, Tryz.ntmps64
 go_wp2_with fail
 go_region_held3 (fun w' => w'.cell? ⟨w.heap.size, 0, none⟩ = some (.bool hh) ∧ w'.cell? ⟨w.heap.size, 1, none⟩ = some (.slice uo vals.length uc))
  (first | with_reducible exact uh HSK _ (uh HKX).any | with_reducible exact uh HSK _ (uh HKX).drew.any | with_reducible exact uh HSK _ ((uh HKX).any.trans (keeps_set2 _ _ _ _)))
  ((first
  | (go_at_call 35; (with_reducible refine (uh HCV _ (uh HKX).drew).mono ?_); rintro e w3 ⟨v', rfl, hown, hk⟩; obtain ⟨ao, c, rfl⟩ := RowAt.form (rowAt_own hown); have HOW := hide (ownsRow_lower hown (Nat.le_trans (uh HWX).size (by simp : W.heap.size ≤ W.drew.heap.size))); have HKX := hide ((uh HKX).drew.trans hk); have hb5 := blk_keep (uh H2) (uh HKX); have m0 := (cB hb5 0).trans rfl; have m1 := (cB hb5 1).trans rfl; have z0 := fB hb5 0; have z1 := fB hb5 1; have HB5 := hide hb5; clear hb5 hk hown)))
 all_goals go_wp2_with fail
 all_goals
  obtain ⟨s0, s1⟩ := set2c (uh HB5) (.bool hh) (.slice ao vals.length c)
  refine bodyPost_ret (v := .agg #[.bool hh, .slice ao vals.length c]) (by simp [results, go_sem, s0, s1]) rfl ?_
  have k2 := keeps_set2 w3 (w.heap.size + 1) (.bool hh) (.slice ao vals.length c)
  exact ⟨_, _, rfl, ownsRow_kept (uh HOW) k2 (own_off (uh HOW) (uh HB5) (by decide)), ((uh HWX).trans (uh HKX)).fresh (by omega) k2⟩
end Go.Proofs.YtiinohibmcefkaaGreatDoor
namespace Go.Proofs.YtiinohibmcefkaaGreatDoor
open Go.RowKit Go.Maps
set_option maxRecDepth 100000
set_option maxHeartbeats 8000000
def intS : SL → Prop
 | .nil => True
 | .cons _ _ x t e r => intE x ∧ intS t ∧ intS e ∧ intS r
theorem set_in {r : Bool × List ValA} (hv : ∀ v ∈ r.2, I64 v.n) {i : Nat} {x : ValA} (hx : I64 x.n) : ∀ v ∈ (setV r i x).2, I64 v.n := by
 unfold setV
 split
 ·intro v hm
  rcases List.mem_or_eq_of_mem_set hm with h | rfl
  ·exact hv v h
  ·exact hx
 ·exact hv
theorem min_in {a b : Int} (ha : I64 a) (hb : I64 b) : I64 (min a b) ∧ I64 (max a b) := by
 unfold I64 at *
 omega
theorem run_in (S : List FieldA) : ∀ (l : SL) (r : Bool × List ValA), wellS l = true → intS l → Rw S r.1 r.2 → (∀ v ∈ r.2, I64 v.n) → ∀ v ∈ (runS S l r).2, I64 v.n
 | .nil, _, _, _, _, hv => hv
 | .cons op f x t e rest, r, hw, hi, hr, hv => by
  have hw' := hw
  simp only [wellS, Bool.and_eq_true] at hw
  rw [runS_cons]
  have hR : Rw S (stmtS S op f x t e r).1 (stmtS S op f x t e r).2 := runS_rw (.cons op f x t e .nil) r (by simp only [wellS, Bool.and_eq_true]; exact ⟨hw.1, hw.2.1, hw.2.2.1, hw.2.2.2.1, trivial⟩) hr
  refine run_in S rest _ hw.2.2.2.2 hi.2.2.2 hR ?_
  have hh : I64 (headV S r x).n := kV_in (vals_in64 hr hv x hw.2.1 hi.1) 0
  have hf := field_in (S := S) (h := r.1) hv f
  unfold stmtS
  split
  ·split
   ·exact hv
   ·exact zeros_in
  ·split
   ·intro v hm
    cases hm
   ·split
    ·exact set_in hv z_in
    ·split
     ·exact set_in hv hh
     ·split
      ·refine set_in hv ?_
       unfold joinV
       refine ite_in hh (ite_in (wrap_in _) (ite_in (min_in hf hh).1 (min_in hf hh).2))
      ·split
       ·exact run_in S t r hw.2.2.1 hi.2.1 hr hv
       ·exact run_in S e r hw.2.2.2.1 hi.2.2.1 hr hv
theorem fit_rowE {S : List FieldA} (hS : schemaB S = true) {h : Bool} {vals : List ValA} (hr : RowFit S h vals) : rowE S h vals = 0 := by
 have := rowOf_fit hS hr
 rw [(rowOf_rowE hS _ _).1] at this
 simpa using this
def isR (w : World) (v : Value) (r : Bool × List ValA) : Prop := ∃ uo uc, v = .agg #[.bool r.1, .slice uo r.2.length uc] ∧ ValsAt w (.slice uo r.2.length uc) r.2
theorem isR.keepF {w w' : World} {v : Value} {r : Bool × List ValA} (h : isR w v r) (hk : Keeps (fun _ => False) w w') : isR w' v r := by
 obtain ⟨uo, uc, e, hv⟩ := h
 exact ⟨uo, uc, e, hv.keepF hk⟩
def RPost (w : World) (r : Bool × List ValA) (e : Ending) (w' : World) : Prop := ∃ v, e = .returned v ∧ isR w' v r ∧ Keeps (fun _ => False) w w'
def DoesAt (S : List FieldA) (sv : Value) (N : Nat) : Prop := ∀ (op : Int) (f : Txt) (ex : EL) (th el : SL), ex.size + th.size + el.size < N → headS op f ex.len th.len el.len = true → wellE ex = true → wellS th = true → wellS el = true → ownP S op f ex = 0 → okS S th → okS S el → intE ex → intS th → intS el → ∀ (h : Bool) (vals : List ValA), RowFit S h vals → (∀ v ∈ vals, I64 v.n) → ∀ (Z : Zone) (up : Nat) (xv tv ev u : Value) (w : World), FldsAt w sv S → ValsAt w u vals → SlE Z w up xv ex → SlS Z w up tv th → SlS Z w up ev el →
 Calls Tryz.prog 100 #[.agg #[sv], .agg #[.int .i64 op, str f, xv, tv, ev], .agg #[.bool h, u]] w (RPost w (stmtS S op f ex th el (h, vals)))
section
variable {Q : Exit → Act → World → Prop} {K : Act → World → Prop} {o : Oper} {a : Act} {w : World}
theorem step_load39 {t b off : Nat} {v0 v1 v2 v3 v4 : Value} (ho : o.op = .load 39 (.tmp t)) (ht : a.tmps.getD t undef = .pointer (some ⟨b, off, none⟩)) (h0 : w.cell? ⟨b, off, none⟩ = some v0) (h1 : w.cell? ⟨b, off + 1, none⟩ = some v1) (h2 : w.cell? ⟨b, off + 2, none⟩ = some v2) (h3 : w.cell? ⟨b, off + 3, none⟩ = some v3) (h4 : w.cell? ⟨b, off + 4, none⟩ = some v4) (hk : K (a.put o.dst (.agg #[v0, v1, v2, v3, v4])) w) : Oper.wp Tryz.prog o a w K Q := by
 have he := slot_of ht
 unfold Oper.wp
 simp [execOp, ho, he, go_sem, h0, h1, h2, h3, h4]
 exact hk
theorem step_c100 {t u q : Nat} {v v2 v3 : Value} {r : Bool × List ValA} (ho : o.op = .call { callee := .value (.func 100), args := #[.tmp t, .tmp u, .tmp q], argTypes := #[24, 39, 31] }) (ht : a.tmps.getD t undef = v) (hu : a.tmps.getD u undef = v2) (hq : a.tmps.getD q undef = v3) (hc : Calls Tryz.prog 100 #[v, v2, v3] w (RPost w r))
  (hk : ∀ v' w', isR w' v' r → Keeps (fun _ => False) w w' → K (a.put o.dst v') w') : Oper.wp Tryz.prog o a w K Q := by
 have e1 := slot_of ht
 have e2 := slot_of hu
 have e3 := slot_of hq
 unfold Oper.wp
 simp [execOp, ho, e1, e2, e3, go_sem]
 refine hc.mono ?_
 rintro e w' ⟨v', rfl, h1, h2⟩
 exact hk _ _ h1 h2
theorem step_store31 {t s g : Nat} {x y p q : Value} (ho : o.op = .store 31 (.tmp t) (.tmp s)) (hd : o.dst = none) (hb : a.tmps.getD t undef = .pointer (some ⟨g, 0, none⟩)) (hv : a.tmps.getD s undef = .agg #[x, y]) (hg : w.heap[g]? = some (.cells #[p, q] 31 (0, 0))) (h1 : (#[x, y] : Array Value).all (·.oneCell') = true)
  (hk : ∀ w', w'.heap[g]? = some (.cells #[x, y] 31 (0, 0)) → Keeps (fun k => k = g) w w' → K a w') : Oper.wp Tryz.prog o a w K Q := by
 refine wp_store_row 31 (.tmp t) (.tmp s) ho g #[x, y] hb hv 31 _ hg (by kernel_rfl) rfl h1 ?_
 rw [hd]
 exact hk _ (setRow_heap w g _ _ 31 (0, 0) hg) (keeps_row w g _)
end
theorem after_of (S : List FieldA) (hS : schemaB S = true) (so : Option Addr) (sc : Nat) (N : Nat) (hD : DoesAt S (.slice so S.length sc) N) (l : SL) (hsz : l.size ≤ N) (hlb : l.size ≤ 4294967294) (hw : wellS l = true) (hok : okS S l) (hin0 : intS l) (h : Bool) (vals : List ValA) (hr : RowFit S h vals) (hv0 : ∀ v ∈ vals, I64 v.n) (Z : Zone) (up : Nat) (pv u : Value) (w : World) (hf : FldsAt w (.slice so S.length sc) S) (hu : ValsAt w u vals) (hp : SlS Z w up pv l) :
  Calls Tryz.prog 63 #[.agg #[.slice so S.length sc], pv, .agg #[.bool h, u]] w (RPost w (runS S l (h, vals))) := by
 have hlen : l.len ≤ 4294967294 := by have := SL.len_le l; omega
 obtain ⟨uo, uc, rfl⟩ := RowAt.form hu
 obtain ⟨ao, cap, b, off, rfl, hcap, ha, hx⟩ := hp.open
 obtain ⟨W, hW, hkW, g0, g1, g2⟩ := boxA3 w #[.slice so S.length sc] #[.bool h, .slice uo vals.length uc] #[.bool false, .slice none 0 0] 24 31 31
 have HKW := hide hkW
 have B0 := hide g0
 have B1 := hide g1
 have B2 := hide g2
 have HFL := hide hf
 have HU := hide (hu.keepF hkW)
 have HX := hide hx
 have HA := hide ha
 have HD0 := hide hD
 clear hf hu hx ha g0 g1 g2 hkW hp hD
 go_enter Tryz.func63, Tryz.ntmps63
 go_wp2_with fail
 go_loopw [7] (fun i wr => ∃ (pre rest : SL) (k : Nat) (r : Bool × List ValA) (ro : Option Addr) (rc : Nat), i = .int .i64 (k : Int) ∧ l = pre.app rest ∧ k = pre.len ∧ Hid (runS S l (h, vals) = runS S rest r) ∧ RowFit S r.1 r.2 ∧ wellS rest = true ∧ okS S rest ∧ Hid (intS rest ∧ ∀ v ∈ r.2, I64 v.n) ∧ Hid (wr.heap[w.heap.size + 1]? = some (.cells #[.bool r.1, .slice ro r.2.length rc] 31 (0, 0))) ∧ Hid (ValsAt wr (.slice ro r.2.length rc) r.2) ∧ Hid (Keeps (fun q => q = w.heap.size + 1) W wr) ∧ StIn Z w rest b (off + k * 5)) (fun i _ => l.len - (intOf i).toNat)
 case atStart => exact ⟨.nil, l, 0, (h, vals), uo, uc, rfl, rfl, rfl, rfl, hr, hw, hok, hide ⟨hin0, hv0⟩, B1, HU, hide (Keeps.refl _ _), by simpa using uh HX⟩
 case round =>
  obtain ⟨pre, rest, k, r, ro, rc, rfl, happ, hkp, HRUN, hfit, hwr, hokr, HINT, HBR, HVR, HKR, hin⟩ := hrel
  have hll := congrArg SL.len happ
  have hls := congrArg SL.size happ
  rw [SL.len_app] at hll
  rw [SL.size_app] at hls
  have HAPP := hide happ
  have HKP := hide hkp
  have HKwr : Hid (Keeps (fun _ => False) w wr) := hide ((uh HKW).fresh (by omega) (uh HKR))
  cases rest with
  | nil =>
   simp only [SL.len] at hll
   have i1 : ¬ (k : Int) < (l.len : Int) := by omega
   have hb5 := uh HBR
   obtain ⟨q0, q1⟩ := cl2 hb5
   have hb6 : wr.heap[w.heap.size + 1 + 1]? = some (.cells #[.bool false, .slice none 0 0] 31 (0, 0)) := ((uh HKR).block _ (lt_of_block (uh B2)) (by omega)).trans (uh B2)
   have z0 := fB hb6 0
   have z1 := fB hb6 1
   obtain ⟨y0, y1⟩ := cl2 hb6
   obtain ⟨s0, s1⟩ := set2c hb6 (.bool r.1) (.slice ro r.2.length rc)
   have HKE := hide ((uh HKwr).fresh (by omega) (keeps_set2 wr (w.heap.size + 1 + 1) (.bool r.1) (.slice ro r.2.length rc)))
   have HVE := hide (vals_off (uh HVR) hb6 (off2 (by intro n; simp)) (keeps_set2 wr (w.heap.size + 1 + 1) (.bool r.1) (.slice ro r.2.length rc)))
   clear happ hkp hll hls hin hb5 hb6 hfit hwr hokr
   go_wp2_with fail
   refine bodyPost_ret (v := .agg #[.bool r.1, .slice ro r.2.length rc]) (by simp [results, go_sem, s0, s1]) rfl ?_
   refine ⟨_, rfl, ?_, uh HKE⟩
   rw [uh HRUN]
   exact ⟨ro, rc, rfl, uh HVE⟩
  | cons op f ex th el rest =>
   obtain ⟨h1, h2, h3, h4, ⟨exv, h5, h5'⟩, ⟨tao, tcap, h6, h7, h8⟩, ⟨eao, ecap, k6, k7, k8⟩, h9⟩ := hin
   simp only [SL.len, SL.size] at hll hls
   simp only [wellS, Bool.and_eq_true] at hwr
   have i1 : (k : Int) < (l.len : Int) := by omega
   have HLT : Hid (k < l.len) := hide (by omega)
   obtain ⟨rfl, hpz⟩ := (uh HA) (by omega)
   have hkw := uh HKwr
   have HC := hide (fun (W' : World) (hk : Keeps (fun _ => False) wr W') => (⟨((hkw.trans hk).cell h1 id).trans h3, ((hkw.trans hk).cell h1 id).trans h4, ((hkw.trans hk).cell h1 id).trans h5, ((hkw.trans hk).cell h1 id).trans h6, ((hkw.trans hk).cell h1 id).trans k6⟩ : W'.cell? ⟨b, off + k * 5, none⟩ = some (.int .i64 op) ∧ W'.cell? ⟨b, off + k * 5 + 1, none⟩ = some (str f) ∧ W'.cell? ⟨b, off + k * 5 + 2, none⟩ = some exv ∧ W'.cell? ⟨b, off + k * 5 + 3, none⟩ = some (.slice tao th.len tcap) ∧ W'.cell? ⟨b, off + k * 5 + 4, none⟩ = some (.slice eao el.len ecap)))
   have HS0 := hide (fun (W' : World) (hk : Keeps (fun _ => False) wr W') => blk_keep (((uh HKR).block _ (lt_of_block (uh B0)) (by omega)).trans (uh B0)) hk)
   have HR0 := hide (fun (W' : World) (hk : Keeps (fun _ => False) wr W') => blk_keep (uh HBR) hk)
   have HD := hide (fun (W' : World) (hk : Keeps (fun _ => False) wr W') => uh HD0 op f ex th el (by omega) hwr.1 hwr.2.1 hwr.2.2.1 hwr.2.2.2.1 hokr.1 hokr.2.1 hokr.2.2.1 (uh HINT).1.1 (uh HINT).1.2.1 (uh HINT).1.2.2.1 r.1 r.2 hfit (uh HINT).2 Z b exv (.slice tao th.len tcap) (.slice eao el.len ecap) (.slice ro r.2.length rc) W' ((uh HFL).keepF (hkw.trans hk)) ((uh HVR).keepF hk) (h5'.keepF (hkw.trans hk)) ((show SlS Z w b _ th from ⟨tao, tcap, rfl, h7, h8⟩).keepF (hkw.trans hk)) ((show SlS Z w b _ el from ⟨eao, ecap, rfl, k7, k8⟩).keepF (hkw.trans hk)))
   have HKX := hide (Keeps.refl (fun _ => False) wr)
   have HNX : Hid (wellS rest = true ∧ okS S rest ∧ StIn Z w rest b (off + k * 5 + 5)) := ⟨hwr.2.2.2.2, hokr.2.2.2, h9⟩
   have HFN : Hid (RowFit S (stmtS S op f ex th el r).1 (stmtS S op f ex th el r).2) := by
    have := run_fit hS (.cons op f ex th el .nil) r (by simp only [wellS, Bool.and_eq_true]; exact ⟨hwr.1, hwr.2.1, hwr.2.2.1, hwr.2.2.2.1, trivial⟩) ⟨hokr.1, hokr.2.1, hokr.2.2.1, trivial⟩ hfit
    exact this
   have HIN2 : Hid (intS rest ∧ ∀ v ∈ (stmtS S op f ex th el r).2, I64 v.n) := hide ⟨(uh HINT).1.2.2.2, run_in S (.cons op f ex th el .nil) r (by simp only [wellS, Bool.and_eq_true]; exact ⟨hwr.1, hwr.2.1, hwr.2.2.1, hwr.2.2.2.1, trivial⟩) ⟨(uh HINT).1.1, (uh HINT).1.2.1, (uh HINT).1.2.2.1, trivial⟩ (rowE_rw (fit_rowE hS hfit)) (uh HINT).2⟩
   have hkl : k + (rest.len + 1) = l.len := by omega
   clear happ hkp hll hls h1 h2 h3 h4 h5 h5' h6 h7 h8 k6 k7 k8 h9 hwr hokr hfit hkw hpz
   go_upto_region 4 with fail
   rename_i Q0 K0 hc0
   refine wp_region_last (X := wr) (by kernel_rfl) 7 rfl _ rfl rfl (by decide) (by kernel_rfl) [14, 15, 16, 17, 18, 19, 20] (by decide) rfl (by first | rfl | kernel_rfl | simp [opsB]) (uh HKX) (fun i v W1 => match i with | 0 => v = .agg #[.slice so S.length sc] | 1 => v = .slice (some ⟨b, off, none⟩) l.len cap | 2 => v = .int .i64 (k : Int) | 3 => v = .pointer (some ⟨b, off + k * 5, none⟩) | 4 => v = .agg #[.int .i64 op, str f, exv, .slice tao th.len tcap, .slice eao el.len ecap] | 5 => v = .agg #[.bool r.1, .slice ro r.2.length rc] | 6 => isR W1 v (stmtS S op f ex th el r) | _ => True) ?_ ?_ ?_
   ·intro i v w1 w2 hq hk
    rcases i with _ | _ | _ | _ | _ | _ | _ | i
    all_goals first | exact hq | exact isR.keepF hq hk
   ·intro i o A W1 him ho hs hk hd K' hK
    rcases i with _ | _ | _ | _ | _ | _ | _ | i
    ·obtain rfl := Option.some.inj ho
     exact step_load24 rfl ((hs.at rfl 3 (by decide)).trans rfl) (uh HS0 W1 hk) (hK _ _ rfl (Keeps.refl _ _))
    ·obtain rfl := Option.some.inj ho
     exact step_move rfl ((hs.at rfl 1 (by decide)).trans rfl) (hK _ _ rfl (Keeps.refl _ _))
    ·obtain rfl := Option.some.inj ho
     exact step_move rfl ((hs.at rfl 7 (by decide)).trans rfl) (hK _ _ rfl (Keeps.refl _ _))
    ·obtain rfl := Option.some.inj ho
     exact step_indexS rfl (hd ⟨1, .data⟩ (by simp) rfl) (hd ⟨2, .data⟩ (by simp) rfl) (uh HLT) (hK _ _ rfl (Keeps.refl _ _))
    ·obtain rfl := Option.some.inj ho
     exact step_load39 rfl (hd ⟨3, .data⟩ (by simp) rfl) (uh HC W1 hk).1 (uh HC W1 hk).2.1 (uh HC W1 hk).2.2.1 (uh HC W1 hk).2.2.2.1 (uh HC W1 hk).2.2.2.2 (hK _ _ rfl (Keeps.refl _ _))
    ·obtain rfl := Option.some.inj ho
     exact step_load31 rfl ((hs.at rfl 5 (by decide)).trans rfl) (uh HR0 W1 hk) (hK _ _ rfl (Keeps.refl _ _))
    ·obtain rfl := Option.some.inj ho
     exact step_c100 rfl (hd ⟨0, .data⟩ (by simp) rfl) (hd ⟨4, .data⟩ (by simp) rfl) (hd ⟨5, .data⟩ (by simp) rfl) (uh HD W1 hk) (fun v' w' q1 q2 => hK v' w' q1 q2)
    ·omega
   ·intro A V hs hk hall K' hK
    have v0 : A.tmps.getD 14 undef = .agg #[.slice so S.length sc] := hall 0 (by decide)
    have v1 : A.tmps.getD 15 undef = .slice (some ⟨b, off, none⟩) l.len cap := hall 1 (by decide)
    have v2 : A.tmps.getD 16 undef = .int .i64 (k : Int) := hall 2 (by decide)
    have v3 : A.tmps.getD 17 undef = .pointer (some ⟨b, off + k * 5, none⟩) := hall 3 (by decide)
    have v4 : A.tmps.getD 18 undef = .agg #[.int .i64 op, str f, exv, .slice tao th.len tcap, .slice eao el.len ecap] := hall 4 (by decide)
    have v5 : A.tmps.getD 19 undef = .agg #[.bool r.1, .slice ro r.2.length rc] := hall 5 (by decide)
    obtain ⟨no, nc, v6, hnv⟩ : isR V (A.tmps.getD 20 undef) (stmtS S op f ex th el r) := hall 6 (by decide)
    have hsl : A.tmps.getD 5 undef = .pointer (some ⟨w.heap.size + 1, 0, none⟩) := ((hs.at rfl 5 (by decide)).trans rfl)
    refine step_store31 rfl rfl hsl v6 (uh HR0 V hk) (by simp [Value.oneCell']) ?_
    intro V2 hb2 hk2
    refine hK A V2 (hc0 _ _ ?_)
    have hA := same_fold hs rfl
    simp only [List.foldl_cons, List.foldl_nil, v0, v1, v2, v3, v4, v5, v6] at hA
    simp only [Act.put, List.setIfInBounds_toArray, List.set_cons_zero, List.set_cons_succ] at hA
    have HB2 := hide hb2
    have HK2 := hide ((uh HKR).trans (hk.any.trans hk2))
    have HV2 := hide (vals_off hnv (uh HR0 V hk) (off2 (by intro n; simp)) hk2)
    rw [hA]
    clear hs hk hall hK hA hb2 hk2 hnv hsl v6 v0 v1 v2 v3 v4 v5
    go_wp2_with fail
    go_roundw
    case rel =>
     obtain ⟨n1, n2, n3⟩ := uh HNX
     refine ⟨pre.app (.cons op f ex th el .nil), rest, k + 1, stmtS S op f ex th el r, no, nc, by go_num, by rw [app_oneT]; exact uh HAPP, by rw [SL.len_app, uh HKP]; rfl, HRUN, uh HFN, n1, n2, HIN2, HB2, HV2, HK2, ?_⟩
     rw [show off + (k + 1) * 5 = off + k * 5 + 5 by omega]
     exact n3
    case measure => simp [intOf]; omega
end Go.Proofs.YtiinohibmcefkaaGreatDoor
namespace Go.Proofs.YtiinohibmcefkaaGreatDoor
open Go.RowKit Go.Maps
set_option maxRecDepth 100000
set_option maxHeartbeats 4000000
theorem does6h (S : List FieldA) (f : Txt) (vals : List ValA) (so uo xo tO eo : Option Addr) (sc uc xn xc tn tc en ec : Nat) (w : World) (hu : ValsAt w (.slice uo vals.length uc) vals) :
  Calls Tryz.prog 100 #[.agg #[.slice so S.length sc], .agg #[.int .i64 6, str f, .slice xo xn xc, .slice tO tn tc, .slice eo en ec], .agg #[.bool true, .slice uo vals.length uc]] w (RPost w (true, vals)) := by
 obtain ⟨W, hW, hkW, g0, g1, g2, g3⟩ := boxA4 w #[.slice so S.length sc] #[.int .i64 6, str f, .slice xo xn xc, .slice tO tn tc, .slice eo en ec] #[.bool true, .slice uo vals.length uc] #[.bool false, .slice none 0 0] 24 39 31 31
 have p0 := cl1 g0
 obtain ⟨c0, c1, c2, c3, c4⟩ := cl5 g1
 obtain ⟨r0, r1⟩ := cl2 g2
 have HKW := hide hkW
 have B3 := hide g3
 have HU := hide (hu.keepF hkW)
 clear g0 g1 g2 g3 hkW
 go_enter Tryz.func100, Tryz.ntmps100
 have hb := (uh B3)
 have z0 := fB hb 0
 have z1 := fB hb 1
 obtain ⟨y0, y1⟩ := cl2 hb
 obtain ⟨s0, s1⟩ := set2c hb (.bool true) (.slice uo vals.length uc)
 have HKE := hide ((uh HKW).fresh (by omega) (keeps_set2 W (w.heap.size + 1 + 1 + 1) (.bool true) (.slice uo vals.length uc)))
 have HVE := hide (vals_off (uh HU) hb (off2 (by intro n; simp)) (keeps_set2 W (w.heap.size + 1 + 1 + 1) (.bool true) (.slice uo vals.length uc)))
 clear hb
 go_wp2_with fail
 refine bodyPost_ret (v := .agg #[.bool true, .slice uo vals.length uc]) (by simp [results, go_sem, s0, s1]) rfl ?_
 exact ⟨_, rfl, ⟨uo, uc, rfl, uh HVE⟩, uh HKE⟩
theorem does7 (S : List FieldA) (f : Txt) (vals : List ValA) (so uo xo tO eo : Option Addr) (sc uc xn xc tn tc en ec : Nat) (w : World) (h : Bool) :
  Calls Tryz.prog 100 #[.agg #[.slice so S.length sc], .agg #[.int .i64 7, str f, .slice xo xn xc, .slice tO tn tc, .slice eo en ec], .agg #[.bool h, .slice uo vals.length uc]] w (RPost w (false, [])) := by
 obtain ⟨W, hW, hkW, g0, g1, g2, g3⟩ := boxA4 w #[.slice so S.length sc] #[.int .i64 7, str f, .slice xo xn xc, .slice tO tn tc, .slice eo en ec] #[.bool h, .slice uo vals.length uc] #[.bool false, .slice none 0 0] 24 39 31 31
 have p0 := cl1 g0
 obtain ⟨c0, c1, c2, c3, c4⟩ := cl5 g1
 obtain ⟨r0, r1⟩ := cl2 g2
 have HKW := hide hkW
 have B3 := hide g3
 clear g0 g1 g2 g3 hkW
 go_enter Tryz.func100, Tryz.ntmps100
 have hb := (uh B3)
 have z0 := fB hb 0
 have z1 := fB hb 1
 obtain ⟨y0, y1⟩ := cl2 hb
 obtain ⟨s0, s1⟩ := set2c hb (.bool false) (.slice none 0 0)
 have HKE := hide ((uh HKW).fresh (by omega) (keeps_set2 W (w.heap.size + 1 + 1 + 1) (.bool false) (.slice none 0 0)))
 have HVE : Hid (ValsAt ((W.setCell ⟨w.heap.size + 1 + 1 + 1, 0, none⟩ (.bool false)).setCell ⟨w.heap.size + 1 + 1 + 1, 1, none⟩ (.slice none 0 0)) (.slice none 0 0) []) := hide (rowAt_own (World.ownsRow_nil _ 0 41 3))
 clear hb
 go_wp2_with fail
 refine bodyPost_ret (v := .agg #[.bool false, .slice none 0 0]) (by simp [results, go_sem, s0, s1]) rfl ?_
 exact ⟨_, rfl, ⟨none, 0, rfl, uh HVE⟩, uh HKE⟩
theorem doesN (S : List FieldA) (f : Txt) (vals : List ValA) (so uo xo tO eo : Option Addr) (sc uc xn xc tn tc en ec : Nat) (w : World) (hu : ValsAt w (.slice uo vals.length uc) vals) (op : Int) (h6 : op ≠ 6) (h7 : op ≠ 7) (h8 : op ≠ 8) :
  Calls Tryz.prog 100 #[.agg #[.slice so S.length sc], .agg #[.int .i64 op, str f, .slice xo xn xc, .slice tO tn tc, .slice eo en ec], .agg #[.bool false, .slice uo vals.length uc]] w (RPost w (false, vals)) := by
 obtain ⟨W, hW, hkW, g0, g1, g2, g3⟩ := boxA4 w #[.slice so S.length sc] #[.int .i64 op, str f, .slice xo xn xc, .slice tO tn tc, .slice eo en ec] #[.bool false, .slice uo vals.length uc] #[.bool false, .slice none 0 0] 24 39 31 31
 have p0 := cl1 g0
 obtain ⟨c0, c1, c2, c3, c4⟩ := cl5 g1
 obtain ⟨r0, r1⟩ := cl2 g2
 have HKW := hide hkW
 have B3 := hide g3
 have HU := hide (hu.keepF hkW)
 clear g0 g1 g2 g3 hkW
 go_enter Tryz.func100, Tryz.ntmps100
 have hb := (uh B3)
 have z0 := fB hb 0
 have z1 := fB hb 1
 obtain ⟨y0, y1⟩ := cl2 hb
 obtain ⟨s0, s1⟩ := set2c hb (.bool false) (.slice uo vals.length uc)
 have HKE := hide ((uh HKW).fresh (by omega) (keeps_set2 W (w.heap.size + 1 + 1 + 1) (.bool false) (.slice uo vals.length uc)))
 have HVE := hide (vals_off (uh HU) hb (off2 (by intro n; simp)) (keeps_set2 W (w.heap.size + 1 + 1 + 1) (.bool false) (.slice uo vals.length uc)))
 clear hb
 go_wp2_with fail
 refine bodyPost_ret (v := .agg #[.bool false, .slice uo vals.length uc]) (by simp [results, go_sem, s0, s1]) rfl ?_
 exact ⟨_, rfl, ⟨uo, uc, rfl, uh HVE⟩, uh HKE⟩
theorem does6n (S : List FieldA) (f : Txt) (vals : List ValA) (so uo xo tO eo : Option Addr) (sc uc xn xc tn tc en ec : Nat) (w : World) (hS : schemaB S = true) (hf : FldsAt w (.slice so S.length sc) S) :
  Calls Tryz.prog 100 #[.agg #[.slice so S.length sc], .agg #[.int .i64 6, str f, .slice xo xn xc, .slice tO tn tc, .slice eo en ec], .agg #[.bool false, .slice uo vals.length uc]] w (RPost w (true, zeros S)) := by
 obtain ⟨W, hW, hkW, g0, g1, g2, g3⟩ := boxA4 w #[.slice so S.length sc] #[.int .i64 6, str f, .slice xo xn xc, .slice tO tn tc, .slice eo en ec] #[.bool false, .slice uo vals.length uc] #[.bool false, .slice none 0 0] 24 39 31 31
 have p0 := cl1 g0
 obtain ⟨c0, c1, c2, c3, c4⟩ := cl5 g1
 obtain ⟨r0, r1⟩ := cl2 g2
 have HKW := hide hkW
 have B3 := hide g3
 have HZ := hide (zero_any S _ W (hf.keepF hkW))
 have HZZ : Hid (zeroB S = zeros S) := by show _ = _; simp [zeroB, hS]
 clear g0 g1 g2 g3 hkW
 go_enter Tryz.func100, Tryz.ntmps100
 go_wp2_with fail
 refine (uh HZ).mono ?_
 rintro e w1 ⟨v1, rfl, hown, hk1⟩
 rw [uh HZZ] at hown
 obtain ⟨zo, zc, rfl⟩ := (rowAt_own hown).form
 have hb := (blk_keep (uh B3) hk1)
 have z0 := fB hb 0
 have z1 := fB hb 1
 obtain ⟨y0, y1⟩ := cl2 hb
 obtain ⟨s0, s1⟩ := set2c hb (.bool true) (.slice zo (zeros S).length zc)
 have HKE := hide (((uh HKW).trans hk1).fresh (by omega) (keeps_set2 w1 (w.heap.size + 1 + 1 + 1) (.bool true) (.slice zo (zeros S).length zc)))
 have HVE := hide (vals_off (rowAt_own hown) hb (off2 (by intro n; simp)) (keeps_set2 w1 (w.heap.size + 1 + 1 + 1) (.bool true) (.slice zo (zeros S).length zc)))
 clear hb hk1 hown
 go_wp2_with fail
 refine bodyPost_ret (v := .agg #[.bool true, .slice zo (zeros S).length zc]) (by simp [results, go_sem, s0, s1]) rfl ?_
 exact ⟨_, rfl, ⟨zo, zc, rfl, uh HVE⟩, uh HKE⟩
end Go.Proofs.YtiinohibmcefkaaGreatDoor
namespace Go.Proofs.YtiinohibmcefkaaGreatDoor
open Go.RowKit Go.Maps
set_option maxRecDepth 100000
set_option maxHeartbeats 4000000
theorem does5 (S : List FieldA) (f : Txt) (vals : List ValA) (so uo xo tO eo : Option Addr) (sc uc xn xc tn tc en ec : Nat) (w : World) (hS : schemaB S = true) (fd : FieldA) (hfo : fieldOf S f = some fd) (hl : vals.length ≤ 4398046511104) (hf : FldsAt w (.slice so S.length sc) S) (hu : ValsAt w (.slice uo vals.length uc) vals) :
  Calls Tryz.prog 100 #[.agg #[.slice so S.length sc], .agg #[.int .i64 5, str f, .slice xo xn xc, .slice tO tn tc, .slice eo en ec], .agg #[.bool true, .slice uo vals.length uc]] w (RPost w (true, vals.set (placeP S f) zV)) := by
 obtain ⟨W, hW, hkW, g0, g1, g2, g3⟩ := boxA4 w #[.slice so S.length sc] #[.int .i64 5, str f, .slice xo xn xc, .slice tO tn tc, .slice eo en ec] #[.bool true, .slice uo vals.length uc] #[.bool false, .slice none 0 0] 24 39 31 31
 have p0 := cl1 g0
 obtain ⟨c0, c1, c2, c3, c4⟩ := cl5 g1
 obtain ⟨r0, r1⟩ := cl2 g2
 have HKW := hide hkW
 have B3 := hide g3
 have HP := hide (rplace_v S hS (.slice so S.length sc) f fd hfo W (hf.keepF hkW))
 have HWI := hide (fun (W' : World) (hk : Keeps (fun _ => False) W W') => rwith_v W' true (.slice uo vals.length uc) vals (placeP S f) zV ((hu.keepF hkW).keepF hk) (by omega))
 have G1 := hide g1
 have G2 := hide g2
 clear g0 g1 g2 g3 hkW
 go_enter Tryz.func100, Tryz.ntmps100
 go_wp2_with fail
 refine (uh HP).mono ?_
 rintro e w1 ⟨rfl, hk1⟩
 replace c0 := (cl5 (blk_keep (uh G1) hk1)).1
 replace r0 := (cl2 (blk_keep (uh G2) hk1)).1
 replace r1 := (cl2 (blk_keep (uh G2) hk1)).2
 have HQ := hide (uh HWI w1 hk1)
 unfold ValA.v zV at HQ
 have HK1 := hide hk1
 clear c1 c2 c3 c4 p0 hk1
 go_wp2_with fail
 refine (uh HQ).mono ?_
 rintro e w2 ⟨no, nc, rfl, hown, hk2⟩
 generalize hL : vals.set (placeP S f) ⟨0, 0, []⟩ = L at *
 have hb := (blk_keep (uh B3) ((uh HK1).trans hk2))
 have z0 := fB hb 0
 have z1 := fB hb 1
 obtain ⟨y0, y1⟩ := cl2 hb
 obtain ⟨s0, s1⟩ := set2c hb (.bool true) (.slice no L.length nc)
 have HKE := hide ((((uh HKW).trans (uh HK1)).trans hk2).fresh (by omega) (keeps_set2 w2 (w.heap.size + 1 + 1 + 1) (.bool true) (.slice no L.length nc)))
 have HVE := hide (vals_off (rowAt_own hown) hb (off2 (by intro n; simp)) (keeps_set2 w2 (w.heap.size + 1 + 1 + 1) (.bool true) (.slice no L.length nc)))
 have HLE := hide hL
 clear hb hk2 hown hL
 go_wp2_with fail
 refine bodyPost_ret (v := .agg #[.bool true, .slice no L.length nc]) (by simp [results, go_sem, s0, s1]) rfl ?_
 exact ⟨_, rfl, ⟨no, nc, by rw [show vals.set (placeP S f) zV = L from uh HLE], by rw [show vals.set (placeP S f) zV = L from uh HLE]; exact uh HVE⟩, uh HKE⟩
end Go.Proofs.YtiinohibmcefkaaGreatDoor
namespace Go.Proofs.YtiinohibmcefkaaGreatDoor
open Go.RowKit Go.Maps
set_option maxRecDepth 100000
section
variable {Q : Exit → Act → World → Prop} {K : Act → World → Prop} {o : Oper} {a : Act} {w : World}
theorem step_nil {t b off : Nat} (ho : o.op = .nilCheck (.tmp t)) (ht : a.tmps.getD t undef = .pointer (some ⟨b, off, none⟩)) (hk : K (a.put o.dst (.pointer (some ⟨b, off, none⟩))) w) : Oper.wp Tryz.prog o a w K Q := by
 have he := slot_of ht
 unfold Oper.wp
 simp [execOp, ho, he, go_sem]
 exact hk
theorem step_fieldG0 {t b off : Nat} (ho : o.op = .fieldAddr 63 (.tmp t) 0) (ht : a.tmps.getD t undef = .pointer (some ⟨b, off, none⟩)) (hk : K (a.put o.dst (.pointer (some ⟨b, off, none⟩))) w) : Oper.wp Tryz.prog o a w K Q := by
 have he := slot_of ht
 unfold Oper.wp
 simp [execOp, ho, he, go_sem]
 exact hk
theorem step_fieldG2 {t b off : Nat} (ho : o.op = .fieldAddr 63 (.tmp t) 2) (ht : a.tmps.getD t undef = .pointer (some ⟨b, off, none⟩)) (hk : K (a.put o.dst (.pointer (some ⟨b, off + 2, none⟩))) w) : Oper.wp Tryz.prog o a w K Q := by
 have he := slot_of ht
 unfold Oper.wp
 simp [execOp, ho, he, go_sem]
 exact hk
theorem step_fieldG3 {t b off : Nat} (ho : o.op = .fieldAddr 63 (.tmp t) 3) (ht : a.tmps.getD t undef = .pointer (some ⟨b, off, none⟩)) (hk : K (a.put o.dst (.pointer (some ⟨b, off + 3, none⟩))) w) : Oper.wp Tryz.prog o a w K Q := by
 have he := slot_of ht
 unfold Oper.wp
 simp [execOp, ho, he, go_sem]
 exact hk
theorem step_load24c {t b off : Nat} {v : Value} (ho : o.op = .load 24 (.tmp t)) (ht : a.tmps.getD t undef = .pointer (some ⟨b, off, none⟩)) (hc : w.cell? ⟨b, off, none⟩ = some v) (hk : K (a.put o.dst (.agg #[v])) w) : Oper.wp Tryz.prog o a w K Q := by
 have he := slot_of ht
 unfold Oper.wp
 simp [execOp, ho, he, go_sem, hc]
 exact hk
theorem step_load31c {t b off : Nat} {v v2 : Value} (ho : o.op = .load 31 (.tmp t)) (ht : a.tmps.getD t undef = .pointer (some ⟨b, off, none⟩)) (hc : w.cell? ⟨b, off, none⟩ = some v) (hc2 : w.cell? ⟨b, off + 1, none⟩ = some v2) (hk : K (a.put o.dst (.agg #[v, v2])) w) : Oper.wp Tryz.prog o a w K Q := by
 have he := slot_of ht
 unfold Oper.wp
 simp [execOp, ho, he, go_sem, hc, hc2]
 exact hk
theorem step_indexE0 {t kb ko n cap : Nat} (ho : o.op = .indexAddr 25 (.tmp t) (.const (.int .i64 0))) (ht : a.tmps.getD t undef = .slice (some ⟨kb, ko, none⟩) n cap) (hj : 0 < n) (hk : K (a.put o.dst (.pointer (some ⟨kb, ko, none⟩))) w) : Oper.wp Tryz.prog o a w K Q := by
 have he := slot_of ht
 unfold Oper.wp
 simp [execOp, ho, he, go_sem, hj]
 exact hk
theorem step_ext0 {t : Nat} {v v2 : Value} (ho : o.op = .extract (.tmp t) 0) (ht : a.tmps.getD t undef = .tuple #[v, v2]) (hk : K (a.put o.dst v) w) : Oper.wp Tryz.prog o a w K Q := by
 have he := slot_of ht
 unfold Oper.wp
 simp [execOp, ho, he, go_sem]
 exact hk
theorem step_ext1 {t : Nat} {v v2 : Value} (ho : o.op = .extract (.tmp t) 1) (ht : a.tmps.getD t undef = .tuple #[v, v2]) (hk : K (a.put o.dst v2) w) : Oper.wp Tryz.prog o a w K Q := by
 have he := slot_of ht
 unfold Oper.wp
 simp [execOp, ho, he, go_sem]
 exact hk
end
end Go.Proofs.YtiinohibmcefkaaGreatDoor
