import Derived.Test.YtiinohibmcefkaaGreatDoorZc
namespace Go.Proofs.YtiinohibmcefkaaGreatDoor
open Go.RowKit Go.Maps

/-- An if with two ways. -/
def ifS (c : XE) (p q : SL) : SL := .cons 8 [] (c.el .nil) p q .nil
theorem first_any (S : List FieldA) : ∀ (l : SL) (j k : Nat), (firstBad S l j).1 = (firstBad S l k).1
  | .nil, _, _ => rfl
  | .cons op f x t e r, j, k => by
    simp only [firstBad]
    split
    · rfl
    · exact first_any S r _ _
/-- An expression that fits, on a row that fits, has a value. -/
theorem ok_ans {S : List FieldA} {h : Bool} {vals : List ValA} {e : XE} (h1 : errS S = 0) (h2 : rowE S h vals = 0) (ho : e.ok S) (hd : depthE (e.el .nil) ≤ 12) : e.ans S h vals = (e.val S h vals, 0) := by
  have hc : checkE (.cons e.op e.n e.s e.kids .nil) = 0 := by
    unfold checkE
    have hd' : depthE (.cons e.op e.n e.s e.kids .nil) ≤ 12 := hd
    rw [if_neg (by simp [wellE, ho.1, ho.2.1]), if_neg (by omega)]
  have ht : (typeP S e.op e.n e.s e.kids).2.2 = 0 := by
    unfold typeP
    rw [if_neg (by simpa using h1), if_neg (by simpa using hc), if_neg (by simpa using ho.2.2)]
  unfold XE.ans valueP
  rw [if_neg (by simpa using ht), if_neg (by simpa using h2)]
  rfl
theorem check_of {S : List FieldA} {l : SL} (h1 : errS S = 0) (h2 : checkS l = 0) (h3 : (firstBad S (flatS l) 0).1 = 0) : (checkP S l).1 = 0 := by
  unfold checkP
  rw [if_neg (by simpa using h1), if_neg (by simpa using h2)]
  exact h3
/-- What an if that is run tells. -/
theorem if_tells {S : List FieldA} {c : XE} {p q : SL} {h : Bool} {vals : List ValA} (h0 : (runP S (ifS c p q) h vals).2 = 0) :
    errS S = 0 ∧ rowE S h vals = 0 ∧ (checkP S p).1 = 0 ∧ (checkP S q).1 = 0 ∧ c.ok S ∧ depthE (c.el .nil) ≤ 11 ∧ (c.val S h vals = truV true ∨ c.val S h vals = truV false) ∧ (c.kind S).t = 2 ∧ (c.kind S).o = false ∧ depthS p ≤ 11 ∧ depthS q ≤ 11 ∧ 1 + countS p + countS q ≤ 32 ∧
      (runP S (ifS c p q) h vals).1 = (if (c.val S h vals).n = 1 then runS S p (h, vals) else runS S q (h, vals)) := by
  obtain ⟨h1, h2, h3, h4⟩ := chain_ok h0
  rw [firstE_one] at h2
  obtain ⟨hS, hcs⟩ := checkP_zero h2
  obtain ⟨hw, hcnt, hdep⟩ := checkS_zero.1 hcs
  have hfb : (firstBad S (flatS (ifS c p q)) 0).1 = 0 := by
    unfold checkP at h2
    rwa [if_neg (by simpa using h1), if_neg (by simpa using hcs)] at h2
  simp only [ifS, flatS, firstBad] at hfb
  by_cases hown : ownP S 8 [] (c.el .nil) = 0
  · rw [if_neg (by simpa using hown)] at hfb
    obtain ⟨f1, f2⟩ := first_app hfb
    obtain ⟨f3, _⟩ := first_app f2
    simp only [ifS, wellS, Bool.and_eq_true, Bool.and_true] at hw
    obtain ⟨_, hwx, hwp, hwq⟩ := hw
    obtain ⟨hb, hwk, _⟩ := well_el hwx
    have hor : orL [(headK S (c.el .nil)).2, plainI (headK S (c.el .nil)).1 [2]] = 0 := hown
    have ho1 := orL_zero hor _ (List.mem_cons_self ..)
    have ho2 := orL_zero hor (plainI (headK S (c.el .nil)).1 [2]) (by simp)
    have hok : c.ok S := ⟨hb, hwk, ho1⟩
    obtain ⟨ht, hopt⟩ := plain_zero (show plainI (c.kind S) [2] = 0 from ho2)
    have ht2 : (c.kind S).t = 2 := by simpa using ht
    have hfit := ok_fit hS h3 hok
    obtain ⟨hg, hk⟩ := hfit.plain hopt
    have hv : c.val S h vals = truV true ∨ c.val S h vals = truV false := by
      generalize c.val S h vals = v at hg hk
      obtain ⟨vk, vn, vs⟩ := v
      rw [ht2] at hk
      simp only at hk
      subst hk
      rcases hg with ⟨h2, _⟩ | ⟨_, hn, hs⟩ | ⟨h2, _⟩
      · simp at h2
      · simp only at hn hs
        subst hs
        rcases hn with rfl | rfl
        · exact Or.inr rfl
        · exact Or.inl rfl
      · simp at h2
    simp only [ifS, depthS, countS] at hdep hcnt
    refine ⟨h1, h3, ?_, ?_, hok, by omega, hv, ht2, hopt, by omega, by omega, by omega, ?_⟩
    · exact check_of h1 (checkS_zero.2 ⟨hwp, by omega, by omega⟩) (by rw [first_any S _ 0 (0 + 1)]; exact f1)
    · exact check_of h1 (checkS_zero.2 ⟨hwq, by omega, by omega⟩) (by rw [first_any S _ 0 (0 + 1 + (flatS p).len)]; exact f3)
    · unfold runP
      rw [h4]
      rfl
  · rw [if_pos (by simpa using hown)] at hfb
    exact absurd hfb hown
/-- An if that may be run. -/
theorem if_of {S : List FieldA} {c : XE} {p q : SL} {h : Bool} {vals : List ValA} (h1 : errS S = 0) (h2 : rowE S h vals = 0) (hp : (checkP S p).1 = 0) (hq : (checkP S q).1 = 0) (hc : c.ok S) (ht : (c.kind S).t = 2) (ho : (c.kind S).o = false) (hd : depthE (c.el .nil) ≤ 11) (hdp : depthS p ≤ 11) (hdq : depthS q ≤ 11) (hn : 1 + countS p + countS q ≤ 32) :
    runP S (ifS c p q) h vals = ((if (c.val S h vals).n = 1 then runS S p (h, vals) else runS S q (h, vals)), 0) := by
  obtain ⟨_, hp1⟩ := checkP_zero hp
  obtain ⟨_, hq1⟩ := checkP_zero hq
  have hw : wellS (ifS c p q) = true := by
    simp only [ifS, wellS, Bool.and_eq_true, Bool.and_true]
    refine ⟨by simp [headS, EL.len, XE.el], by simp [XE.el, wellE, hc.1, hc.2.1], (checkS_zero.1 hp1).1, (checkS_zero.1 hq1).1⟩
  have hcs : checkS (ifS c p q) = 0 := checkS_zero.2 ⟨hw, by simp only [ifS, countS]; omega, by simp only [ifS, depthS]; omega⟩
  have hfp : (firstBad S (flatS p) 0).1 = 0 := by
    unfold checkP at hp
    rwa [if_neg (by simpa using h1), if_neg (by simpa using hp1)] at hp
  have hfq : (firstBad S (flatS q) 0).1 = 0 := by
    unfold checkP at hq
    rwa [if_neg (by simpa using h1), if_neg (by simpa using hq1)] at hq
  have hown : ownP S 8 [] (c.el .nil) = 0 := by
    show orL [(c.kind S, (kindP S c.op c.s c.kids).2).2, plainI (c.kind S) [2]] = 0
    have e1 : plainI (c.kind S) [2] = 0 := by
      generalize c.kind S = k at ht ho
      obtain ⟨t, o⟩ := k
      simp only at ht ho
      subst ht ho
      decide
    rw [e1]
    show orL [(kindP S c.op c.s c.kids).2, 0] = 0
    rw [hc.2.2]
    rfl
  have hfb : (firstBad S (flatS (ifS c p q)) 0).1 = 0 := by
    simp only [ifS, flatS, firstBad]
    rw [if_neg (by simpa using hown), firstBad_app, if_neg (by rw [first_any S _ _ 0]; simpa using hfp), firstBad_app, if_neg (by rw [first_any S _ _ 0]; simpa using hfq)]
    rfl
  exact chain_of (ls := [ifS c p q]) h1 (firstE_one.trans (check_of h1 hcs hfb)) h2
theorem run_of {S : List FieldA} {p : SL} {h : Bool} {vals : List ValA} (h1 : errS S = 0) (h2 : rowE S h vals = 0) (hp : (checkP S p).1 = 0) : runP S p h vals = (runS S p (h, vals), 0) := chain_of (ls := [p]) h1 (firstE_one.trans hp) h2
def trueX : XE := ⟨2, 1, [], .nil⟩
def falseX : XE := ⟨2, 0, [], .nil⟩
/-- What MeaningIf says, of the pure program. -/
theorem if_law (S : List FieldA) (c : XE) (p q : SL) (h : Bool) (vals : List ValA) :
    ((runP S (ifS c p p) h vals).2 = 0 → (runP S p h vals).2 = 0 ∧ (runP S (ifS c p p) h vals).1 = (runP S p h vals).1) ∧
    ((runP S (ifS c p q) h vals).2 = 0 → (runP S p h vals).2 = 0 ∧ (runP S q h vals).2 = 0 ∧ (c.ans S h vals).2 = 0 ∧ (c.ans S h vals).1.kind = 2 ∧
      (((c.ans S h vals).1.n = 1 ∧ (runP S (ifS c p q) h vals).1 = (runP S p h vals).1) ∨ (¬ (c.ans S h vals).1.n = 1 ∧ (runP S (ifS c p q) h vals).1 = (runP S q h vals).1))) ∧
    ((runP S (ifS (mk1 7 c) q p) h vals).2 = 0 → (runP S (ifS c p q) h vals).2 = 0 ∧ (runP S (ifS c p q) h vals).1 = (runP S (ifS (mk1 7 c) q p) h vals).1) ∧
    ((runP S (ifS trueX p q) h vals).2 = 0 → (runP S (ifS trueX p q) h vals).1 = (runP S p h vals).1) ∧
    ((runP S (ifS falseX q p) h vals).2 = 0 → (runP S (ifS falseX q p) h vals).1 = (runP S p h vals).1) := by
  refine ⟨fun h0 => ?_, fun h0 => ?_, fun h0 => ?_, fun h0 => ?_, fun h0 => ?_⟩
  · obtain ⟨h1, h2, hp, _, _, _, _, _, _, _, _, _, he⟩ := if_tells h0
    rw [run_of h1 h2 hp, he]
    exact ⟨rfl, by simp⟩
  · obtain ⟨h1, h2, hp, hq, hc, hd, hv, ht, ho, _, _, _, he⟩ := if_tells h0
    have ha := ok_ans h1 h2 hc (by omega)
    rw [run_of h1 h2 hp, run_of h1 h2 hq, ha, he]
    refine ⟨rfl, rfl, rfl, ?_, ?_⟩
    · rcases hv with hv | hv <;> rw [hv] <;> rfl
    · rcases hv with hv | hv
      · rw [hv]
        exact Or.inl ⟨rfl, rfl⟩
      · rw [hv]
        exact Or.inr ⟨by decide, rfl⟩
  · obtain ⟨h1, h2, hq, hp, hc, hd, _, _, _, hdq, hdp, hn, he⟩ := if_tells h0
    obtain ⟨hok, hrule, hkind⟩ := ok1 hc
    obtain ⟨t1, o1⟩ := takesA1 (takesK_zero (show (takesK 2 [2] [c.kind S]).2 = 0 from hrule)).1
    have hS : schemaB S = true := (checkP_zero hp).1
    have hd2 : depthE (c.el .nil) ≤ 11 := by
      have : depthE ((mk1 7 c).el .nil) = max (1 + depthE (c.el .nil)) 0 := rfl
      omega
    have hi := if_of (c := c) h1 h2 hp hq hok t1 o1 hd2 hdp hdq (by omega)
    rw [hi, he, val1 (by decide)]
    refine ⟨rfl, ?_⟩
    obtain ⟨hg, hk⟩ := (ok_fit hS h2 hok).plain o1
    rw [t1] at hk
    generalize c.val S h vals = v at hg hk
    obtain ⟨vk, vn, vs⟩ := v
    simp only at hk
    subst hk
    rcases hg with ⟨h2, _⟩ | ⟨_, hn, _⟩ | ⟨h2, _⟩
    · simp at h2
    · simp only at hn
      rcases hn with rfl | rfl <;> rfl
    · simp at h2
  · obtain ⟨h1, h2, hp, _, _, _, _, _, _, _, _, _, he⟩ := if_tells h0
    rw [run_of h1 h2 hp, he]
    rfl
  · obtain ⟨h1, h2, _, hp, _, _, _, _, _, _, _, _, he⟩ := if_tells h0
    rw [run_of h1 h2 hp, he]
    rfl
end Go.Proofs.YtiinohibmcefkaaGreatDoor
