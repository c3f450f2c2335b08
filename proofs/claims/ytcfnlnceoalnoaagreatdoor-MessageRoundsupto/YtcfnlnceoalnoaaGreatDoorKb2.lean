import Derived.Test.YtcfnlnceoalnoaaGreatDoorKa
import Derived.Test.YtcfnlnceoalnoaaGreatDoorWs
import Derived.Test.YtcfnlnceoalnoaaGreatDoorIe
namespace Go.Proofs.YtcfnlnceoalnoaaGreatDoor
open Go.RowKit Go.Maps
theorem MsgsAt.cells {w : World} {v : Value} {l : List MsgC} (h : MsgsAt w v l) (h0 : 0 < l.length) :
    ∃ b off cap, v = .slice (some ⟨b, off, none⟩) l.length cap ∧ b < w.heap.size ∧ ∀ i x, l[i]? = some x → w.cell? ⟨b, off + i * 4, none⟩ = some (.int .i64 x.m.kind) ∧ w.cell? ⟨b, off + i * 4 + 1, none⟩ = some (str x.m.key) ∧ w.cell? ⟨b, off + i * 4 + 2, none⟩ = some x.vv ∧ w.cell? ⟨b, off + i * 4 + 3, none⟩ = some x.cv := by
  obtain ⟨b, off, cap, e, hb, hc⟩ := RowAt.cells h.row h0
  have hf : ∀ i x j, l[i]? = some x → j < 4 → (l.flatMap MsgC.cs)[i * 4 + j]? = (MsgC.cs x)[j]? := fun i x j hx hj => by
    rw [flat_at MsgC.cs 4 (by omega) (fun _ => rfl), show (i * 4 + j) / 4 = i by omega, show (i * 4 + j) % 4 = j by omega, hx]
    rfl
  refine ⟨b, off, cap, e, hb, fun i x hx => ⟨?_, ?_, ?_, ?_⟩⟩
  · have := hc (i * 4) _ ((hf i x 0 hx (by omega)).trans rfl)
    exact this
  · have := hc (i * 4 + 1) _ ((hf i x 1 hx (by omega)).trans rfl)
    exact this
  · have := hc (i * 4 + 2) _ ((hf i x 2 hx (by omega)).trans rfl)
    exact this
  · have := hc (i * 4 + 3) _ ((hf i x 3 hx (by omega)).trans rfl)
    exact this
/-- The messages that may be. -/
def keptM (S : List FieldA) (l : List MsgC) : List MsgC := l.filter fun x => decide (checkM S x.m = 0)
/-- Their bytes. -/
def allB (S : List FieldA) (l : List MsgC) : Txt := l.flatMap fun x => bytesM S x.m
theorem kept_next {S : List FieldA} {l : List MsgC} {k : Nat} {x : MsgC} (h : l[k]? = some x) : keptM S (l.take (k + 1)) = if checkM S x.m = 0 then keptM S (l.take k) ++ [x] else keptM S (l.take k) := by
  unfold keptM
  rw [List.take_add_one, h]
  simp only [Option.toList_some, List.filter_append]
  split <;> simp_all
theorem kept_ok {S : List FieldA} {l : List MsgC} {x : MsgC} (h : x ∈ keptM S l) : x ∈ l ∧ checkM S x.m = 0 := by
  unfold keptM at h
  simpa using h
theorem bytes_small {S : List FieldA} {m : MsgA} (hc : checkM S m = 0) (hI : InR m.vals) : 4 ≤ (bytesM S m).length ∧ (bytesM S m).length ≤ 115 := by
  have h1 := bytesM_len S m
  have h2 := body_96 hc hI
  have h3 := key_16 (check_parts hc).2.2.1
  omega
theorem allB_small {S : List FieldA} : ∀ {l : List MsgC}, (∀ x ∈ l, checkM S x.m = 0 ∧ InR x.m.vals) → (allB S l).length ≤ 115 * l.length
  | [], _ => by simp [allB]
  | x :: r, h => by
    have h1 := allB_small (l := r) (fun y hy => h y (List.mem_cons_of_mem _ hy))
    have h2 := bytes_small (h x (List.mem_cons_self ..)).1 (h x (List.mem_cons_self ..)).2
    have e : allB S (x :: r) = bytesM S x.m ++ allB S r := by simp [allB]
    rw [e, List.length_append, List.length_cons]
    omega
theorem kept_len {S : List FieldA} (l : List MsgC) (k : Nat) : (keptM S (l.take k)).length ≤ k ∧ (keptM S (l.take k)).length ≤ l.length := by
  have h1 := List.length_filter_le (fun x : MsgC => decide (checkM S x.m = 0)) (l.take k)
  have h2 : (l.take k).length ≤ k := by rw [List.length_take]; omega
  have h3 : (l.take k).length ≤ l.length := by rw [List.length_take]; omega
  unfold keptM
  omega
theorem infoMsg : (Tryz.prog.info? 28).map (fun i => (i.zero, i.size, i.bytes)) = some (some (.agg #[.int .i64 0, .string ⟨#[]⟩, .slice none 0 0, .slice none 0 0]), 4, 72) := by kernel_rfl
/-- Loop 1's state. -/
structure Gath (Wb : World) (AL : Txt) (KL : List MsgC) (av tv : Value) (cur : World) : Prop where
  kept : Keeps (fun _ => False) Wb cur
  all : cur.ownsRow Wb.heap.size 5 1 av AL.length (bs AL)
  took : cur.ownsRow Wb.heap.size 28 4 tv KL.length (KL.flatMap MsgC.cs)
theorem Gath.keep {Wb : World} {AL : Txt} {KL : List MsgC} {av tv : Value} {cur w' : World} (h : Gath Wb AL KL av tv cur) (hk : Keeps (fun _ => False) cur w') : Gath Wb AL KL av tv w' := ⟨h.kept.trans hk, ownsRow_kept h.all hk (fun _ _ => id), ownsRow_kept h.took hk (fun _ _ => id)⟩
/-- A row stands while another of another type grows. -/
theorem own_grown {w w' : World} {B e sz n B2 e2 sz2 n2 : Nat} {v v2 : Value} {xs xs2 : List Value} (h : w.ownsRow B e sz v n xs) (h2 : w.ownsRow B2 e2 sz2 v2 n2 xs2) (hne : e2 ≠ e) (hg : w.grownBy w' v2.ownBlock) : w'.ownsRow B e sz v n xs := by
  refine ownsRow_kept (F := fun q => v2.ownBlock = some q) h ((Keeps.refl _ _).grown hg (fun k e _ => e)) (fun k hk hq => ?_)
  rcases h2.2 with ⟨rfl, _⟩ | ⟨g, cap, cur, rfl, _, hb, _⟩
  · cases hq
  · simp only [Value.ownBlock, Option.some.injEq] at hq
    exact own_off h hb hne k hk hq.symm
theorem Gath.more {Wb : World} {AL BM : Txt} {KL : List MsgC} {av tv v' : Value} {cur w' : World} (h : Gath Wb AL KL av tv cur) (ho : w'.ownsRow Wb.heap.size 5 1 v' (AL.length + BM.length) (bs AL ++ bs BM)) (hg : cur.grownBy w' av.ownBlock) : Gath Wb (AL ++ BM) KL v' tv w' := by
  refine ⟨h.kept.grown hg (fun k e hk => by have := (h.all.lt k e).1; omega), ?_, own_grown h.took h.all (by decide) hg⟩
  rw [bs_append, List.length_append]
  exact ho
theorem Gath.next {Wb : World} {AL : Txt} {KL : List MsgC} {x : MsgC} {av tv v' : Value} {cur w' : World} (h : Gath Wb AL KL av tv cur) (ho : w'.ownsRow Wb.heap.size 28 4 v' (KL.length + 1) (KL.flatMap MsgC.cs ++ x.cs)) (hg : cur.grownBy w' tv.ownBlock) : Gath Wb AL (KL ++ [x]) av v' w' := by
  refine ⟨h.kept.grown hg (fun k e hk => by have := (h.took.lt k e).1; omega), own_grown h.all h.took (by decide) hg, ?_⟩
  rw [List.flatMap_append, List.length_append]
  simpa using ho
theorem all_next {S : List FieldA} {KL : List MsgC} {x : MsgC} : allB S (KL ++ [x]) = allB S KL ++ bytesM S x.m := by simp [allB]
set_option maxRecDepth 100000 in
set_option maxHeartbeats 8000000 in
theorem rounds_walk (S : List FieldA) (sv v u : Value) (l : List MsgC) (t : Txt) (w : World) (hE : EnvM w) (hS : FldsAt w sv S) (hm : MsgsAt w v l) (hb : BytesAt w u t) (hlS : S.length ≤ 4398046511104) (hl : l.length ≤ 1048576) (ht : t.length ≤ 1048576) :
    Calls Tryz.prog 4 #[.agg #[sv], v, u] w fun e w' => e = .returned (.bool true) ∧ Keeps (fun _ => False) w w' := by
  obtain ⟨so, sc, rfl⟩ := RowAt.form hS
  obtain ⟨mo, mc, rfl⟩ := RowAt.form hm.row
  obtain ⟨uo, uc, rfl⟩ := RowAt.form hb
  have k1 := kAlloc w (.cells #[.slice so S.length sc] 24)
  have h1 := heap_alloc_new w (.cells #[.slice so S.length sc] 24)
  generalize hW : w.alloc (.cells #[.slice so S.length sc] 24) = Wb at *
  have HB := hide k1
  have hb0 := lt_of_block h1
  have s0 : Wb.cell? ⟨w.heap.size, 0, none⟩ = some (.slice so S.length sc) := (cell_of_blk h1 _).trans rfl
  have HS := hide (hS.keepF k1)
  have HMS := hide (hm.keepF k1)
  have HBT := hide (hb.keepF k1)
  have HE := hide (hE.keepF k1)
  have HTL := hide ht
  have HSL := hide hlS
  have HLL := hide hl
  clear hE hS hb hm k1 h1 ht hlS hl
  have hl' : l.length ≤ 9223372036854775807 := by have := unhide HLL; omega
  go_enter Tryz.func4, Tryz.ntmps4
  have HTW : Hid (∀ W', Keeps (fun _ => False) Wb W' → Calls Tryz.prog 7 #[.agg #[.slice so S.length sc]] W' fun e w' => ∃ v', e = .returned (.agg #[v']) ∧ w'.ownsRow W'.heap.size 54 3 v' S.length (fcs S) ∧ Keeps (fun _ => False) W' w') := fun W' hk => twin_v W' _ S ((unhide HS).keepF hk) (unhide HSL)
  go_wp2_with fail
  obtain ⟨i0, hi, hz0, hz1, hz2⟩ := info_parts infoMsg
  go_loopw [7, 8, 9] (fun av tv i wr => ∃ k : Nat, k ≤ l.length ∧ i = .int .i64 k ∧ Gath Wb (allB S (keptM S (l.take k))) (keptM S (l.take k)) av tv wr) (fun av tv i _ => l.length - (intOf i).toNat)
  case atStart => exact ⟨0, Nat.zero_le _, rfl, Keeps.refl _ _, World.ownsRow_nil _ _ _ _, World.ownsRow_nil _ _ _ _⟩
  case round =>
    obtain ⟨k, hk, rfl, hg⟩ := hrel
    obtain ⟨KL, HKL⟩ : ∃ KL, Hid (keptM S (l.take k) = KL) := ⟨_, rfl⟩
    rw [unhide HKL] at hg
    obtain ⟨AL, HAL⟩ : ∃ AL, Hid (allB S KL = AL) := ⟨_, rfl⟩
    rw [unhide HAL] at hg
    have HKB : Hid (KL.length ≤ 1048576) := by have := (kept_len (S := S) l k).2; rw [unhide HKL] at this; have := unhide HLL; show _ ≤ _; omega
    have HAB : Hid (AL.length ≤ 115 * 1048576) := by
      have h1 := allB_small (S := S) (l := KL) (fun y hy => by rw [← unhide HKL] at hy; exact ⟨(kept_ok hy).2, ((unhide HMS).ok y (List.mem_of_mem_take (kept_ok hy).1)).inr⟩)
      rw [unhide HAL] at h1
      have := unhide HKB
      show _ ≤ _
      omega
    obtain ⟨ao, ac, rfl⟩ := (rowAt_own hg.all).form
    obtain ⟨ko, kc, rfl⟩ := (rowAt_own hg.took).form
    have HG := hide hg
    have HKX := hide hg.kept
    clear hg
    by_cases hlt : k < l.length
    · obtain ⟨b, off, c1, e1, hbl, hc⟩ := (unhide HMS).cells (by omega)
      simp only [Value.slice.injEq] at e1
      obtain ⟨rfl, _, rfl⟩ := e1
      obtain ⟨x, hx⟩ : ∃ x, l[k]? = some x := ⟨_, List.getElem?_eq_getElem hlt⟩
      have HX := hide hx
      obtain ⟨c0, c1', c2, c3⟩ := hc k x hx
      have HOK := hide ((unhide HMS).ok x (List.mem_of_getElem? hx))
      have HSK : Hid (∀ w', Keeps (fun _ => False) Wb w' → w'.cell? ⟨w.heap.size, 0, none⟩ = some (.slice so S.length sc) ∧ w'.cell? ⟨b, off + k * 4, none⟩ = some (.int .i64 x.m.kind) ∧ w'.cell? ⟨b, off + k * 4 + 1, none⟩ = some (str x.m.key) ∧ w'.cell? ⟨b, off + k * 4 + 2, none⟩ = some x.vv ∧ w'.cell? ⟨b, off + k * 4 + 3, none⟩ = some x.cv) := fun w' hk => ⟨(hk.cell hb0 id).trans s0, (hk.cell hbl id).trans c0, (hk.cell hbl id).trans c1', (hk.cell hbl id).trans c2, (hk.cell hbl id).trans c3⟩
      obtain ⟨p0, p1, p2, p3, p4⟩ := unhide HSK wr (unhide HKX)
      have HCM : Hid (∀ W', Keeps (fun _ => False) Wb W' → Calls Tryz.prog 8 #[.agg #[.int .i64 x.m.kind, str x.m.key, x.vv, x.cv]] W' fun e w' => ∃ v1 c1, e = .returned (.agg #[.int .i64 x.m.kind, str x.m.key, v1, c1]) ∧ w'.ownsRow W'.heap.size 73 3 v1 x.m.vals.length (vcs x.m.vals) ∧ w'.ownsRow W'.heap.size 5 1 c1 x.m.code.length (bs x.m.code) ∧ Keeps (fun _ => False) W' w') := fun W' hk => copyMsg_v x.m x.vv x.cv W' ((unhide HOK).vals.keepF hk) ((unhide HOK).code.keepF hk) (unhide HOK).lv (unhide HOK).lc
      have HNC : Hid (∀ W' sv vv cv, Keeps (fun _ => False) Wb W' → FldsAt W' sv S → ValsAt W' vv x.m.vals → BytesAt W' cv x.m.code → Calls Tryz.prog 9 #[.agg #[sv], .agg #[.int .i64 x.m.kind, str x.m.key, vv, cv]] W' fun e w' => ∃ b', e = .returned (.tuple #[b', .int .i64 (encM S x.m).2]) ∧ w'.ownsRow W'.heap.size 5 1 b' (encM S x.m).1.length (bs (encM S x.m).1) ∧ Keeps (fun _ => False) W' w') := fun W' sv vv cv hk h1 h2 h3 => msgEnc_v S sv vv cv x.m W' ((unhide HE).keepF hk) h1 h2 h3 (unhide HOK).inr (unhide HOK).key
      have HRC : Hid (∀ W', Keeps (fun _ => False) Wb W' → Calls Tryz.prog 15 #[.agg #[.slice so S.length sc], .agg #[.int .i64 x.m.kind, str x.m.key, x.vv, x.cv]] W' fun e w' => e = .returned (.int .i64 (checkM S x.m)) ∧ Keeps (fun _ => False) W' w') := fun W' hk => refCheck_v S _ _ _ x.m W' ((unhide HS).keepF hk) ((unhide HOK).vals.keepF hk) ((unhide HOK).code.keepF hk) (unhide HOK).key
      have hbw : b < wr.heap.size := Nat.lt_of_lt_of_le hbl (unhide HKX).size
      have i1 : (k : Int) < (l.length : Int) := by omega
      have i00 : (0 : Int) ≤ (k : Int) := by omega
      have HBL := hide hbl
      obtain ⟨vvo, vvc, hvv⟩ := RowAt.form (unhide HOK).vals
      obtain ⟨cvo, cvc, hcv⟩ := RowAt.form (unhide HOK).code
      have HONE : Hid (∀ u ∈ x.cs, u.oneCell' = true) := by
        intro u hu
        unfold MsgC.cs at hu
        rw [hvv, hcv] at hu
        simp at hu
        rcases hu with rfl | rfl | rfl | rfl <;> rfl
      clear hc hx c0 c1' c2 c3 hvv hcv
      by_cases hCK : checkM S x.m = 0
      · skip
        have HEV : Hid (encM S x.m = (bytesM S x.m, 0)) := by show _ = _; unfold encM; rw [if_pos hCK]
        have HKN : Hid (keptM S (l.take (k + 1)) = KL ++ [x]) := by show _ = _; rw [kept_next (unhide HX), unhide HKL]; rw [if_pos hCK]
        obtain ⟨hB4, hB115⟩ := bytes_small hCK (unhide HOK).inr
        have HCK := hide hCK
        rw [hCK] at HRC
        obtain ⟨BM, HBM⟩ : ∃ BM, Hid (bytesM S x.m = BM) := ⟨_, rfl⟩
        rw [unhide HBM] at HEV hB4 hB115
        have j4 : (4 : Int) ≤ (BM.length : Int) := by omega
        have j115 : (BM.length : Int) ≤ 115 := by omega
        have HB115 := hide hB115
        have hB4n : ¬ BM.length < 4 := by omega
        have hB115n : ¬ 115 < BM.length := by omega
        clear hCK
        simp only [unhide HEV] at HNC
        go_wp2_with fail
        go_region_held3 (fun w' => w'.cell? ⟨w.heap.size, 0, none⟩ = some (.slice so S.length sc) ∧ w'.cell? ⟨b, off + k * 4, none⟩ = some (.int .i64 x.m.kind) ∧ w'.cell? ⟨b, off + k * 4 + 1, none⟩ = some (str x.m.key) ∧ w'.cell? ⟨b, off + k * 4 + 2, none⟩ = some x.vv ∧ w'.cell? ⟨b, off + k * 4 + 3, none⟩ = some x.cv)
          (first | with_reducible exact unhide HSK _ (unhide HKX) | with_reducible exact unhide HSK _ (unhide HKX).drew)
          ((first
          | (go_at_call 7; refine (unhide HTW _ (unhide HKX).drew).mono ?_; rintro e w1 ⟨t1, rfl, how, hk⟩; obtain ⟨to, tc, rfl⟩ := RowAt.form (rowAt_own how); have HT : Hid (FldsAt w1 (.slice to S.length tc) S) := rowAt_own how; have HG := hide ((unhide HG).keep ((Keeps.refl _ _).drew.trans hk)); have HKX := hide ((unhide HKX).drew.trans hk); clear hk how)
          | (go_at_call 8; refine (unhide HCM _ (unhide HKX)).mono ?_; rintro e w2 ⟨v1, c1, rfl, hov, hoc, hk⟩; obtain ⟨v1o, v1c, rfl⟩ := RowAt.form (rowAt_own hov); obtain ⟨c1o, c1c, rfl⟩ := RowAt.form (rowAt_own hoc); have HV2 : Hid (ValsAt w2 (.slice v1o x.m.vals.length v1c) x.m.vals) := rowAt_own hov; have HC2 : Hid (BytesAt w2 (.slice c1o x.m.code.length c1c) x.m.code) := rowAt_own hoc; have HT := hide ((unhide HT).keepF hk); have HG := hide ((unhide HG).keep hk); have HKX := hide ((unhide HKX).trans hk); clear hk hov hoc)
          | (go_at_call 9; refine (unhide HNC _ _ _ _ (unhide HKX) (unhide HT) (unhide HV2) (unhide HC2)).mono ?_; rintro e w3 ⟨b3, rfl, ho3, hk⟩; have hb3 := rowAt_own ho3; obtain ⟨b3o, b3c, rfl⟩ := RowAt.form hb3; have HB3 := hide hb3; have HG := hide ((unhide HG).keep hk); have HKX := hide ((unhide HKX).trans hk); clear hk ho3 hb3)))
        obtain ⟨p0, p1, p2, p3, p4⟩ := unhide HSK _ (unhide HKX)
        go_wp2_with fail
        go_region_held3 (fun w' => w'.cell? ⟨w.heap.size, 0, none⟩ = some (.slice so S.length sc) ∧ w'.cell? ⟨b, off + k * 4, none⟩ = some (.int .i64 x.m.kind) ∧ w'.cell? ⟨b, off + k * 4 + 1, none⟩ = some (str x.m.key) ∧ w'.cell? ⟨b, off + k * 4 + 2, none⟩ = some x.vv ∧ w'.cell? ⟨b, off + k * 4 + 3, none⟩ = some x.cv)
          (first | with_reducible exact unhide HSK _ (unhide HKX) | with_reducible exact unhide HSK _ (unhide HKX).drew)
          ((first
          | (go_at_call 15; refine (unhide HRC _ (unhide HKX).drew).mono ?_; rintro e w4 ⟨rfl, hk⟩; have HB3 := hide ((unhide HB3).keepF ((Keeps.refl _ _).drew.trans hk)); have HG := hide ((unhide HG).keep ((Keeps.refl _ _).drew.trans hk)); have HKX := hide ((unhide HKX).drew.trans hk); clear hk)))
        obtain ⟨p0, p1, p2, p3, p4⟩ := unhide HSK _ (unhide HKX)
        go_wp2_with (at_builtin; first
          | (refine wpList_append_any rfl _ _ rfl Wb.heap.size (.slice ao AL.length ac) AL.length (bs AL) rfl (unhide HG).all (.slice b3o BM.length b3c) BM rfl (unhide HB3) (by have := unhide HAB; unfold maxLen; omega) (by have := unhide HAB; omega) (unhide HKX).size ?_; intro v' w5 how hgr; obtain ⟨a5, d5, rfl⟩ := RowAt.form (rowAt_own how); have HG5 := hide ((unhide HG).more how hgr); have HKX := hide (unhide HG5).kept; obtain ⟨g0, g1, g2, g3, g4⟩ := unhide HSK _ (unhide HKX); have hb5 : b < w5.heap.size := Nat.lt_of_lt_of_le (unhide HBL) (unhide HKX).size; clear how hgr)
          | (refine wpList_append_own _ rfl _ _ 39 rfl Wb.heap.size 28 i0 (.agg #[.int .i64 0, .string ⟨#[]⟩, .slice none 0 0, .slice none 0 0]) 4 72 Tryz.underlying39 hi hz0 hz1 hz2 rfl (by omega) (.slice ko KL.length kc) KL.length (KL.flatMap MsgC.cs) rfl (ownsRow_kept (unhide HG5).took (kAlloc w5 _) (fun _ _ => id)) ⟨w5.heap.size, 0, none⟩ 1 1 x.cs rfl rfl (World.news_of_block (cs := #[.int .i64 x.m.kind, str x.m.key, x.vv, x.cv]) (t := 28) (fr := (0, 0)) (by exact heap_alloc_new w5 _)) (unhide HONE) (by have := unhide HKB; unfold maxLen; omega) (by have := unhide HKB; omega) (by have := (unhide HKX).size; simp; omega) ?_; intro v' w7 how hgr _; obtain ⟨k7, d7, rfl⟩ := RowAt.form (rowAt_own how); have HG7 := hide (((unhide HG5).keep (kAlloc w5 _)).next how hgr); clear how hgr))
        go_roundw
        case rel =>
          refine ⟨k + 1, by omega, by go_num, ?_⟩
          rw [unhide HKN, all_next, unhide HAL, unhide HBM]
          have h7 := unhide HG7
          exact h7
        case measure => simp [intOf]; omega
      · obtain ⟨CK, HCK⟩ : ∃ CK, Hid (checkM S x.m = CK) := ⟨_, rfl⟩
        have HEV : Hid (encM S x.m = ([], CK)) := by show _ = _; unfold encM; rw [if_neg hCK, unhide HCK]
        have HKN : Hid (keptM S (l.take (k + 1)) = KL) := by show _ = _; rw [kept_next (unhide HX), unhide HKL]; rw [if_neg hCK]
        rw [unhide HCK] at HRC
        have be1 : (CK == 0) = false := by rw [beq_eq_false_iff_ne, ← unhide HCK]; exact hCK
        have be2 : (CK != 0) = true := by rw [bne_iff_ne, ← unhide HCK]; exact hCK
        clear hCK
        simp only [unhide HEV] at HNC
        go_wp2_with fail
        go_region_held3 (fun w' => w'.cell? ⟨w.heap.size, 0, none⟩ = some (.slice so S.length sc) ∧ w'.cell? ⟨b, off + k * 4, none⟩ = some (.int .i64 x.m.kind) ∧ w'.cell? ⟨b, off + k * 4 + 1, none⟩ = some (str x.m.key) ∧ w'.cell? ⟨b, off + k * 4 + 2, none⟩ = some x.vv ∧ w'.cell? ⟨b, off + k * 4 + 3, none⟩ = some x.cv)
          (first | with_reducible exact unhide HSK _ (unhide HKX) | with_reducible exact unhide HSK _ (unhide HKX).drew)
          ((first
          | (go_at_call 7; refine (unhide HTW _ (unhide HKX).drew).mono ?_; rintro e w1 ⟨t1, rfl, how, hk⟩; obtain ⟨to, tc, rfl⟩ := RowAt.form (rowAt_own how); have HT : Hid (FldsAt w1 (.slice to S.length tc) S) := rowAt_own how; have HG := hide ((unhide HG).keep ((Keeps.refl _ _).drew.trans hk)); have HKX := hide ((unhide HKX).drew.trans hk); clear hk how)
          | (go_at_call 8; refine (unhide HCM _ (unhide HKX)).mono ?_; rintro e w2 ⟨v1, c1, rfl, hov, hoc, hk⟩; obtain ⟨v1o, v1c, rfl⟩ := RowAt.form (rowAt_own hov); obtain ⟨c1o, c1c, rfl⟩ := RowAt.form (rowAt_own hoc); have HV2 : Hid (ValsAt w2 (.slice v1o x.m.vals.length v1c) x.m.vals) := rowAt_own hov; have HC2 : Hid (BytesAt w2 (.slice c1o x.m.code.length c1c) x.m.code) := rowAt_own hoc; have HT := hide ((unhide HT).keepF hk); have HG := hide ((unhide HG).keep hk); have HKX := hide ((unhide HKX).trans hk); clear hk hov hoc)
          | (go_at_call 9; refine (unhide HNC _ _ _ _ (unhide HKX) (unhide HT) (unhide HV2) (unhide HC2)).mono ?_; rintro e w3 ⟨b3, rfl, ho3, hk⟩; have hb3 := rowAt_own ho3; obtain ⟨b3o, b3c, rfl⟩ := RowAt.form hb3; have HB3 := hide hb3; have HG := hide ((unhide HG).keep hk); have HKX := hide ((unhide HKX).trans hk); clear hk ho3 hb3)))
        obtain ⟨p0, p1, p2, p3, p4⟩ := unhide HSK _ (unhide HKX)
        go_wp2_with fail
        go_region_held3 (fun w' => w'.cell? ⟨w.heap.size, 0, none⟩ = some (.slice so S.length sc) ∧ w'.cell? ⟨b, off + k * 4, none⟩ = some (.int .i64 x.m.kind) ∧ w'.cell? ⟨b, off + k * 4 + 1, none⟩ = some (str x.m.key) ∧ w'.cell? ⟨b, off + k * 4 + 2, none⟩ = some x.vv ∧ w'.cell? ⟨b, off + k * 4 + 3, none⟩ = some x.cv)
          (first | with_reducible exact unhide HSK _ (unhide HKX) | with_reducible exact unhide HSK _ (unhide HKX).drew)
          ((first
          | (go_at_call 15; refine (unhide HRC _ (unhide HKX).drew).mono ?_; rintro e w4 ⟨rfl, hk⟩; have HB3 := hide ((unhide HB3).keepF ((Keeps.refl _ _).drew.trans hk)); have HG := hide ((unhide HG).keep ((Keeps.refl _ _).drew.trans hk)); have HKX := hide ((unhide HKX).drew.trans hk); clear hk)))
        obtain ⟨p0, p1, p2, p3, p4⟩ := unhide HSK _ (unhide HKX)
        go_wp2_with fail
        go_roundw
        case rel =>
          refine ⟨k + 1, by omega, by go_num, ?_⟩
          rw [unhide HKN, unhide HAL]
          exact unhide HG
        case measure => simp [intOf]; omega
    · obtain rfl : k = l.length := by omega
      rw [List.take_length] at HKL
      have HBW := hide ((unhide HBT).keepF (unhide HKX))
      have HOKS : Hid (∀ y ∈ KL, MsgOK Wb y ∧ checkM S y.m = 0) := fun y hy => by rw [← unhide HKL] at hy; exact ⟨(unhide HMS).ok y (kept_ok hy).1, (kept_ok hy).2⟩
      go_wp2_with (at_builtin; refine wpList_append_any rfl _ _ rfl Wb.heap.size (.slice ao AL.length ac) AL.length (bs AL) rfl (unhide HG).all (.slice uo t.length uc) t rfl (unhide HBW) (by have := unhide HAB; have := unhide HTL; unfold maxLen; omega) (by have := unhide HAB; have := unhide HTL; omega) (unhide HKX).size ?_; intro v' w0 how hgr; obtain ⟨a0, d0, rfl⟩ := RowAt.form (rowAt_own how); have HG0 := hide ((unhide HG).more how hgr); clear how hgr)
      have HTK : Hid (MsgsAt w0 (.slice ko KL.length kc) KL) := ⟨rowAt_own (unhide HG0).took, fun y hy => ((unhide HOKS y hy).1).keepF (unhide HG0).kept⟩
      have HA0 : Hid (BytesAt w0 (.slice a0 (AL.length + t.length) d0) (AL ++ t)) := by have h := rowAt_own (unhide HG0).all; rw [List.length_append] at h; unfold BytesAt; rw [List.length_append]; exact h
      have HK0 := hide (unhide HG0).kept
      clear HG HG0 HKX HBW
      have hkl' : KL.length ≤ 9223372036854775807 := by have := unhide HKB; omega
      go_loopw [7, 12] (fun av i wr2 => ∃ j : Nat, j ≤ KL.length ∧ i = .int .i64 j ∧ Keeps (fun _ => False) w0 wr2 ∧ (∃ ro rc, av = .slice ro (allB S (KL.drop j) ++ t).length rc) ∧ BytesAt wr2 av (allB S (KL.drop j) ++ t)) (fun av i _ => KL.length - (intOf i).toNat)
      case atStart => exact ⟨0, Nat.zero_le _, rfl, Keeps.refl _ _, by rw [List.drop_zero, unhide HAL, List.length_append]; exact ⟨_, _, rfl⟩, by rw [List.drop_zero, unhide HAL]; exact unhide HA0⟩
      case round =>
        obtain ⟨j, hj, rfl, hkp, ⟨ro, rc, hav⟩, hrb⟩ := hrel
        obtain ⟨REM, HREM⟩ : ∃ REM, Hid (allB S (KL.drop j) ++ t = REM) := ⟨_, rfl⟩
        rw [unhide HREM] at hav hrb
        subst hav
        have HRL : Hid (REM.length ≤ 116 * 1048576) := by
          have h1 := allB_small (S := S) (l := KL.drop j) (fun y hy => ⟨(unhide HOKS y (List.mem_of_mem_drop hy)).2, (unhide HOKS y (List.mem_of_mem_drop hy)).1.inr⟩)
          have h2 : (KL.drop j).length ≤ KL.length := by rw [List.length_drop]; omega
          have := unhide HKB
          have := unhide HTL
          show _ ≤ _
          rw [← unhide HREM, List.length_append]
          omega
        have HRB := hide hrb
        have HKW := hide hkp
        have HKX := hide ((unhide HK0).trans hkp)
        clear hrb hkp
        by_cases hlt : j < KL.length
        · obtain ⟨x, hx⟩ : ∃ x, KL[j]? = some x := ⟨_, List.getElem?_eq_getElem hlt⟩
          obtain ⟨hok, hck⟩ := unhide HOKS x (List.mem_of_getElem? hx)
          have hdr : KL.drop j = x :: KL.drop (j + 1) := by rw [List.drop_eq_getElem_cons hlt]; rw [List.getElem?_eq_getElem hlt] at hx; cases hx; rfl
          obtain ⟨RR, HRR⟩ : ∃ RR, Hid (allB S (KL.drop (j + 1)) ++ t = RR) := ⟨_, rfl⟩
          obtain ⟨BM, HBM⟩ : ∃ BM, Hid (bytesM S x.m = BM) := ⟨_, rfl⟩
          have HRE : Hid (REM = BM ++ RR) := by show _ = _; rw [← unhide HREM, hdr, ← unhide HRR, ← unhide HBM]; simp [allB]
          have HDE : Hid (decM S REM = (x.m, BM.length, 0)) := by show _ = _; rw [unhide HRE, ← unhide HBM]; exact dec_back hck hok.inr RR
          have HEV : Hid (encM S x.m = (BM, 0)) := by show _ = _; unfold encM; rw [if_pos hck, unhide HBM]
          have HLN : Hid (REM.length = BM.length + RR.length) := by show _ = _; rw [unhide HRE, List.length_append]
          obtain ⟨hB4, hB115⟩ := bytes_small hck hok.inr
          rw [unhide HBM] at hB4 hB115
          have HOK := hide hok
          obtain ⟨tb, toff, tcap, e1, htb, htc⟩ := (unhide HTK).cells (by omega)
          simp only [Value.slice.injEq] at e1
          obtain ⟨rfl, _, rfl⟩ := e1
          obtain ⟨c0, c1, c2, c3⟩ := htc j x hx
          have HC4 : Hid (∀ w', Keeps (fun _ => False) w0 w' → w'.cell? ⟨tb, toff + j * 4, none⟩ = some (.int .i64 x.m.kind) ∧ w'.cell? ⟨tb, toff + j * 4 + 1, none⟩ = some (str x.m.key) ∧ w'.cell? ⟨tb, toff + j * 4 + 2, none⟩ = some x.vv ∧ w'.cell? ⟨tb, toff + j * 4 + 3, none⟩ = some x.cv) := fun w' hk => ⟨(hk.cell htb id).trans c0, (hk.cell htb id).trans c1, (hk.cell htb id).trans c2, (hk.cell htb id).trans c3⟩
          have HTB := hide htb
          have p0 := ((unhide HKX).cell (o := 0) hb0 id).trans s0
          obtain ⟨rb, roff, rcap, e1, hrbl, _⟩ := RowAt.cells (unhide HRB) (by have := unhide HLN; omega)
          simp only [Value.slice.injEq] at e1
          obtain ⟨rfl, _, rfl⟩ := e1
          have hroom : REM.length ≤ rc := RowAt.room (unhide HRB) _ _ _ rfl
          have i1 : (j : Int) < (KL.length : Int) := by omega
          have i00 : (0 : Int) ≤ (j : Int) := by omega
          have i4 : (4 : Int) ≤ (BM.length : Int) := by omega
          have i4n : ¬ BM.length < 4 := by omega
          have i5 : (BM.length : Int) ≤ (REM.length : Int) := by have := unhide HLN; omega
          have i5n : BM.length ≤ REM.length := by have := unhide HLN; omega
          have dd1 : decide ((BM.length : Int) < 4) = false := decide_eq_false (by omega)
          have dd2 : decide (BM.length < 4) = false := decide_eq_false (by omega)
          have dd3 : decide ((REM.length : Int) < (BM.length : Int)) = false := decide_eq_false (by omega)
          have dd4 : decide (REM.length < BM.length) = false := decide_eq_false (by omega)
          have HQ := hide (unhide HTW wr (unhide HKX))
          clear htc hx hok hck hdr c0 c1 c2 c3
          go_wp2_with fail
          refine (unhide HQ).mono ?_
          rintro e w1 ⟨t1, rfl, how, hk⟩
          obtain ⟨to, tc, rfl⟩ := RowAt.form (rowAt_own how)
          have HT : Hid (FldsAt w1 (.slice to S.length tc) S) := rowAt_own how
          have HKX := hide ((unhide HKX).trans hk)
          have HKW := hide ((unhide HKW).trans hk)
          have HRB := hide ((unhide HRB).keepF hk)
          clear hk how HQ
          have HQ := hide (copyBytes_any w1 _ REM (unhide HRB) (by have := unhide HRL; omega))
          go_wp2_with fail
          refine (unhide HQ).mono ?_
          rintro e w2 ⟨b2, rfl, ho2, hk⟩
          have hb2 : BytesAt w2 b2 REM := rowAt_own ho2
          obtain ⟨b2o, b2c, rfl⟩ := RowAt.form hb2
          have HKX := hide ((unhide HKX).trans hk)
          have HKW := hide ((unhide HKW).trans hk)
          have HRB := hide ((unhide HRB).keepF hk)
          have HT := hide ((unhide HT).keepF hk)
          have HQ := hide (msgDec_v S _ _ REM w2 ((unhide HE).keepF (unhide HKX)) (unhide HT) hb2 (by have := unhide HRL; omega))
          simp only [unhide HDE] at HQ
          clear hk ho2 hb2
          go_wp2_with fail
          refine (unhide HQ).mono ?_
          rintro e w3 ⟨x3, rfl, hm3, hk⟩
          obtain ⟨mvo, mvc, mco, mcc, rfl, hv3, hc3, _, _⟩ := hm3
          have k3a := kAlloc w3 (.cells #[.int .i64 x.m.kind, str x.m.key, .slice mvo x.m.vals.length mvc, .slice mco x.m.code.length mcc] 28)
          have hx3 := heap_alloc_new w3 (.cells #[.int .i64 x.m.kind, str x.m.key, .slice mvo x.m.vals.length mvc, .slice mco x.m.code.length mcc] 28)
          have HX3 := hide hx3
          obtain ⟨m0, m1, m2, m3, mf0, mf1, mf2, mf3, ml⟩ := four_cells hx3
          have HV3 := hide (hv3.keepF k3a)
          have HC3 := hide (hc3.keepF k3a)
          have HKX := hide (((unhide HKX).trans hk).trans k3a)
          have HKW := hide (((unhide HKW).trans hk).trans k3a)
          have HRB := hide (((unhide HRB).keepF hk).keepF k3a)
          obtain ⟨g0, g1, g2, g3⟩ := unhide HC4 _ (unhide HKW)
          have hp0 := ((unhide HKX).cell (o := 0) hb0 id).trans s0
          have HEQ : Hid (∀ W', Keeps (fun _ => False) (w3.alloc (.cells #[.int .i64 x.m.kind, str x.m.key, .slice mvo x.m.vals.length mvc, .slice mco x.m.code.length mcc] 28)) W' → Calls Tryz.prog 14 #[.agg #[.int .i64 x.m.kind, str x.m.key, .slice mvo x.m.vals.length mvc, .slice mco x.m.code.length mcc], .agg #[.int .i64 x.m.kind, str x.m.key, x.vv, x.cv]] W' fun e w' => e = .returned (.bool true) ∧ Keeps (fun _ => False) W' w') := fun W' hk => eqMsg_v W' x.m.kind x.m.key _ _ _ _ x.m.vals x.m.code ((unhide HV3).keepF hk) (((unhide HOK).vals.keepF (unhide HKX)).keepF hk) ((unhide HC3).keepF hk) (((unhide HOK).code.keepF (unhide HKX)).keepF hk) (by have := (unhide HOK).lv; unfold maxLen; omega) (by have := (unhide HOK).lc; unfold maxLen; omega)
          have HSZ : Hid (∀ W' sv', Keeps (fun _ => False) (w3.alloc (.cells #[.int .i64 x.m.kind, str x.m.key, .slice mvo x.m.vals.length mvc, .slice mco x.m.code.length mcc] 28)) W' → FldsAt W' sv' S → Calls Tryz.prog 10 #[.agg #[sv'], .agg #[.int .i64 x.m.kind, str x.m.key, .slice mvo x.m.vals.length mvc, .slice mco x.m.code.length mcc]] W' fun e w' => e = .returned (.int .i64 ((encM S x.m).1.length : Int)) ∧ Keeps (fun _ => False) W' w') := fun W' sv' hk h => size_v S sv' _ _ x.m W' (((unhide HE).keepF (unhide HKX)).keepF hk) h ((unhide HV3).keepF hk) ((unhide HC3).keepF hk) (unhide HOK).inr (unhide HOK).key
          simp only [unhide HEV] at HSZ
          have HSK : Hid (∀ w', Keeps (fun _ => False) (w3.alloc (.cells #[.int .i64 x.m.kind, str x.m.key, .slice mvo x.m.vals.length mvc, .slice mco x.m.code.length mcc] 28)) w' → w'.cell? ⟨w.heap.size, 0, none⟩ = some (.slice so S.length sc) ∧ w'.cell? ⟨w3.heap.size, 0, none⟩ = some (.int .i64 x.m.kind) ∧ w'.cell? ⟨w3.heap.size, 1, none⟩ = some (str x.m.key) ∧ w'.cell? ⟨w3.heap.size, 2, none⟩ = some (.slice mvo x.m.vals.length mvc) ∧ w'.cell? ⟨w3.heap.size, 3, none⟩ = some (.slice mco x.m.code.length mcc) ∧ w'.cell? ⟨tb, toff + j * 4, none⟩ = some (.int .i64 x.m.kind) ∧ w'.cell? ⟨tb, toff + j * 4 + 1, none⟩ = some (str x.m.key) ∧ w'.cell? ⟨tb, toff + j * 4 + 2, none⟩ = some x.vv ∧ w'.cell? ⟨tb, toff + j * 4 + 3, none⟩ = some x.cv) := fun w' hk => ⟨(hk.cell (Nat.lt_of_lt_of_le hb0 (unhide HKX).size) id).trans hp0, (hk.cell ml id).trans m0, (hk.cell ml id).trans m1, (hk.cell ml id).trans m2, (hk.cell ml id).trans m3, (hk.cell (Nat.lt_of_lt_of_le (unhide HTB) (unhide HKW).size) id).trans g0, (hk.cell (Nat.lt_of_lt_of_le (unhide HTB) (unhide HKW).size) id).trans g1, (hk.cell (Nat.lt_of_lt_of_le (unhide HTB) (unhide HKW).size) id).trans g2, (hk.cell (Nat.lt_of_lt_of_le (unhide HTB) (unhide HKW).size) id).trans g3⟩
          clear hk hv3 hc3 k3a hx3 HQ
          go_wp2_with fail
          change Code.wp _ _ _ _ (w3.alloc (.cells #[.int .i64 x.m.kind, str x.m.key, .slice mvo x.m.vals.length mvc, .slice mco x.m.code.length mcc] 28))
          generalize w3.alloc (.cells #[.int .i64 x.m.kind, str x.m.key, .slice mvo x.m.vals.length mvc, .slice mco x.m.code.length mcc] 28) = W4 at *
          have HKY := hide (Keeps.refl (fun _ => False) W4)
          go_region_held3 (fun w' => w'.cell? ⟨w.heap.size, 0, none⟩ = some (.slice so S.length sc) ∧ w'.cell? ⟨w3.heap.size, 0, none⟩ = some (.int .i64 x.m.kind) ∧ w'.cell? ⟨w3.heap.size, 1, none⟩ = some (str x.m.key) ∧ w'.cell? ⟨w3.heap.size, 2, none⟩ = some (.slice mvo x.m.vals.length mvc) ∧ w'.cell? ⟨w3.heap.size, 3, none⟩ = some (.slice mco x.m.code.length mcc) ∧ w'.cell? ⟨tb, toff + j * 4, none⟩ = some (.int .i64 x.m.kind) ∧ w'.cell? ⟨tb, toff + j * 4 + 1, none⟩ = some (str x.m.key) ∧ w'.cell? ⟨tb, toff + j * 4 + 2, none⟩ = some x.vv ∧ w'.cell? ⟨tb, toff + j * 4 + 3, none⟩ = some x.cv)
            (first | with_reducible exact unhide HSK _ (unhide HKY) | with_reducible exact unhide HSK _ (unhide HKY).drew)
            ((first
            | (go_at_call 14; refine (unhide HEQ _ (unhide HKY).drew).mono ?_; rintro e w5 ⟨rfl, hk⟩; have HKY := hide ((unhide HKY).drew.trans hk); clear hk)
            | (go_at_call 7; refine (unhide HTW _ ((unhide HKX).trans (unhide HKY))).mono ?_; rintro e w6 ⟨t6, rfl, how, hk⟩; obtain ⟨to6, tc6, rfl⟩ := RowAt.form (rowAt_own how); have HT6 : Hid (FldsAt w6 (.slice to6 S.length tc6) S) := rowAt_own how; have HKY := hide ((unhide HKY).trans hk); clear hk how)
            | (go_at_call 10; refine (unhide HSZ _ _ (unhide HKY) (unhide HT6)).mono ?_; rintro e w7 ⟨rfl, hk⟩; have HKY := hide ((unhide HKY).trans hk); clear hk)))
          by_cases hcap : rc = BM.length
          · skip
            go_wp2_with fail
            go_roundw
            case rel =>
              have hrr : RR.length = REM.length - BM.length := by have := unhide HLN; omega
              refine ⟨j + 1, by omega, by go_num, (unhide HKW).trans (unhide HKY), ?_, ?_⟩
              · rw [unhide HRR, hrr]
                exact ⟨_, _, rfl⟩
              · rw [unhide HRR]
                have h := rest_bytes ((unhide HRB).keepF (unhide HKY)) (k := BM.length) i5n
                rw [if_pos hcap] at h
                have hd : REM.drop BM.length = RR := by rw [unhide HRE]; exact List.drop_left' rfl
                rw [hd] at h
                have hz : rc - BM.length = 0 := by omega
                rw [hz] at h
                exact h
            case measure => simp [intOf]; omega
          · skip
            go_wp2_with fail
            go_roundw
            case rel =>
              have hrr : RR.length = REM.length - BM.length := by have := unhide HLN; omega
              refine ⟨j + 1, by omega, by go_num, (unhide HKW).trans (unhide HKY), ?_, ?_⟩
              · rw [unhide HRR, hrr]
                exact ⟨_, _, rfl⟩
              · rw [unhide HRR]
                have h := rest_bytes ((unhide HRB).keepF (unhide HKY)) (k := BM.length) i5n
                rw [if_neg hcap] at h
                have hd : REM.drop BM.length = RR := by rw [unhide HRE]; exact List.drop_left' rfl
                rw [hd] at h
                exact h
            case measure => simp [intOf]; omega
        · obtain rfl : j = KL.length := by omega
          have hRt : REM = t := by rw [← unhide HREM, List.drop_length]; simp [allB]
          subst hRt
          have HQ := hide (eqBytes_any wr _ _ REM REM (unhide HRB) ((unhide HBT).keepF (unhide HKX)) (by have := unhide HTL; unfold maxLen; omega))
          rw [decide_eq_true (show REM = REM from rfl)] at HQ
          go_wp2_with fail
          refine (unhide HQ).mono ?_
          rintro e w1 ⟨rfl, nn, hw1⟩
          have HKZ : Hid (Keeps (fun _ => False) wr w1) := by rw [hw1]; exact keeps_drewN _ _
          clear hw1 HQ
          go_wp2_with fail
          go_ret
          exact ⟨rfl, ((unhide HB).trans (unhide HKX)).trans (unhide HKZ)⟩
end Go.Proofs.YtcfnlnceoalnoaaGreatDoor
