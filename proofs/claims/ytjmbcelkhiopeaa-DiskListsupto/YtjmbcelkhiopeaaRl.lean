import Derived.Test.YtjmbcelkhiopeaaRk
import Derived.Test.YtjmbcelkhiopeaaZ
namespace Go.Proofs.Ytjmbcelkhiopeaa
open Go.RowKit Go.Maps

def RS.durV (R : RS) (n : Nat) : List Int := settleV R.size R.base ((R.log.take n).map LW.pair)

theorem settleV_app (s : Nat) (d : List Int) (a b : List (Nat × List Int)) : settleV s d (a ++ b) = settleV s (settleV s d a) b := by simp [settleV]

theorem durV_length {w : World} {B : Nat} {R : RS} (h : RefAt w B R) (n : Nat) : (R.durV n).length = R.secs * R.size := by
  refine settleV_length _ _ _ h.blen _ (fun x hx => ?_)
  obtain ⟨y, hy, rfl⟩ := List.mem_map.1 hx
  have := h.each y (List.mem_of_mem_take hy)
  exact ⟨this.1, this.2.1⟩

theorem durV_succ {R : RS} {n : Nat} {x : LW} (hx : R.log[n]? = some x) : R.durV (n + 1) = put (R.durV n) (x.sec * R.size) x.bytes := by
  simp only [RS.durV]
  rw [List.take_add_one, hx]
  simp only [Option.toList, List.map_append, List.map_cons, List.map_nil, settleV_snoc]
  rfl

/-- The document's list, settled, holds what the list says. -/
theorem behindL_settle {w : World} {B : Nat} {R : RS} (h : RefAt w B R) (a : Nat) : ∀ n, n ≤ R.log.length → secOf R.size (R.durV n) a = R.behindL a n
  | 0, _ => by simp [RS.durV, settleV, RS.behindL, lastL, secB]
  | n + 1, hn => by
    obtain ⟨x, hx⟩ : ∃ x, R.log[n]? = some x := ⟨_, List.getElem?_eq_getElem (by omega)⟩
    have ih := behindL_settle h a n (by omega)
    have hxe := h.each x (List.mem_of_getElem? hx)
    have hfit : x.sec * R.size + R.size ≤ (R.durV n).length := by rw [durV_length h]; exact sec_fits hxe.2.1
    rw [durV_succ hx]
    by_cases e : x.sec = a
    · rw [← e, secOf_put_same _ _ _ _ hxe.1 hfit]
      simp [RS.behindL, lastL, hx]
    · rw [secOf_put_other _ _ _ _ _ hxe.1 hfit e, ih]
      simp [RS.behindL, lastL, hx, e]

/-- The program's disk and the document's say one thing. -/
structure Rel (S : DS) (R : RS) : Prop where
  secs : S.secs = R.secs
  size : S.size = R.size
  dur : S.dur = R.durV R.firm
  ws : S.ws.map Wr.pair = (R.log.drop R.firm).map LW.pair
  left : S.left = R.fuse
  dead : S.dead = R.gone
  r : S.r = R.r
  wr : S.wr = R.wr
  f : S.f = R.f

theorem Rel.settle {S : DS} {R : RS} (e : Rel S R) : settleAll S.size S.dur S.ws = R.durV R.log.length := by
  rw [settleAll_view, show (S.ws.map fun x => (x.sec, x.bytes)) = S.ws.map Wr.pair from rfl, e.ws, e.dur, e.size]
  simp only [RS.durV]
  rw [← settleV_app, ← List.map_append, List.take_append_drop, List.take_length]

theorem Rel.holds {w : World} {B B' : Nat} {S : DS} {R : RS} (e : Rel S R) (h : DiskAt w B S) (h' : RefAt w B' R) (a : Nat) : S.holdsAt a = R.behindL a R.log.length := by
  rw [← behindL_settle h' a _ (Nat.le_refl _), ← e.settle, ← e.size, holdsAt_eq, ← secOf_settleAll S.size S.secs S.dur h.dlen a S.ws (fun x hx => ⟨(h.each x hx).1, (h.each x hx).2.1⟩)]

theorem Rel.image {w : World} {B B' : Nat} {S : DS} {R : RS} (e : Rel S R) (h : DiskAt w B S) (h' : RefAt w B' R) : S.dur = R.imgL R.secs := by
  have hl : S.dur.length = R.secs * R.size := by rw [h.dlen, e.secs, e.size]
  have h1 := flat_secOf R.size R.secs S.dur (by omega)
  rw [List.take_of_length_le (by omega)] at h1
  rw [← h1, RS.imgL]
  congr 1
  funext a
  rw [e.dur]
  exact behindL_settle h' a _ h'.firm

theorem rkept_low (ks : List Bool) (firm : Nat) (log : List LW) : ∀ k, k ≤ firm → k ≤ log.length → rkeptTo ks firm log k = log.take k
  | 0, _, _ => by simp [rkeptTo]
  | k + 1, h1, h2 => by
    obtain ⟨x, hx⟩ : ∃ x, log[k]? = some x := ⟨_, List.getElem?_eq_getElem (by omega)⟩
    rw [rkeptTo, hx]
    simp only
    rw [if_pos (Or.inl (by omega)), rkept_low ks firm log k (by omega) (by omega), List.take_add_one, hx]
    rfl

theorem rkept_split (ks : List Bool) (firm : Nat) (log : List LW) (hf : firm ≤ log.length) : ∀ m, firm + m ≤ log.length →
    (rkeptTo ks firm log (firm + m)).map LW.pair = (log.take firm).map LW.pair ++ keptG ks ((log.drop firm).map LW.pair) m
  | 0, _ => by simp [rkept_low ks firm log firm (Nat.le_refl _) hf, keptG]
  | m + 1, hm => by
    obtain ⟨x, hx⟩ : ∃ x, log[firm + m]? = some x := ⟨_, List.getElem?_eq_getElem (by omega)⟩
    have ih := rkept_split ks firm log hf m (by omega)
    have hd : ((log.drop firm).map LW.pair)[m]? = some x.pair := by rw [List.getElem?_map, List.getElem?_drop, hx]; rfl
    rw [show firm + (m + 1) = (firm + m) + 1 by omega, rkeptTo, hx, keptG, hd]
    simp only
    rw [show firm + m - firm = m by omega]
    by_cases hk : ks[m]? = some true
    · rw [if_pos (Or.inr hk), if_pos hk, List.map_append, ih]
      simp
    · rw [if_neg (fun h => h.elim (fun h => by omega) hk), if_neg hk, ih]

theorem Rel.survive {w : World} {B' : Nat} {S : DS} {R : RS} (e : Rel S R) (h' : RefAt w B' R) (ks : List Bool) :
    settleAll S.size S.dur (keptTo ks S.ws S.ws.length) = settleV R.size R.base ((rkeptTo ks R.firm R.log R.log.length).map LW.pair) := by
  have hf := h'.firm
  have hl : S.ws.length = R.log.length - R.firm := by
    have := congrArg List.length e.ws
    simpa using this
  have h1 := rkept_split ks R.firm R.log hf (R.log.length - R.firm) (by omega)
  rw [show R.firm + (R.log.length - R.firm) = R.log.length by omega] at h1
  rw [h1, settleV_app, settleAll_view, show (fun x : Wr => (x.sec, x.bytes)) = Wr.pair from rfl, keptTo_map, e.ws, hl, e.size, e.dur]
  rfl

end Go.Proofs.Ytjmbcelkhiopeaa
