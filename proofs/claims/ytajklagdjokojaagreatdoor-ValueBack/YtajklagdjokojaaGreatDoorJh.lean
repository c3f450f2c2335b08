import Derived.Test.YtajklagdjokojaaGreatDoorJg
import Derived.Lib.AppendStr
namespace Go.Proofs.YtajklagdjokojaaGreatDoor
open Go.RowKit Go.Maps

theorem flat_le {α β : Type} (g : α → List β) (m : Nat) : ∀ l : List α, (∀ x ∈ l, (g x).length ≤ m) → (l.flatMap g).length ≤ m * l.length
  | [], _ => by simp
  | x :: r, h => by
    have h1 := flat_le g m r (fun y hy => h y (List.mem_cons_of_mem _ hy))
    have h2 := h x (List.mem_cons_self ..)
    simp only [List.flatMap_cons, List.length_append, List.length_cons, Nat.mul_add]
    omega
theorem bs_append (a b : Txt) : bs (a ++ b) = bs a ++ bs b := by simp [bs]
theorem ret_vi {v u : Value} {k : IntKind} {a b : Int} (h : v = u) (h2 : a = b) : Ending.returned (.tuple #[v, .int k a]) = .returned (.tuple #[u, .int k b]) := by rw [h, h2]
/-- What Encode has written ahead of value k. -/
def encTo (l : List FieldA) (r : List ValA) (k : Nat) : Txt := headT (l.zip r) ++ (r.take k).flatMap enc1
theorem encTo_snoc {l : List FieldA} {r : List ValA} {k : Nat} {x : ValA} (h : r[k]? = some x) : encTo l r (k + 1) = encTo l r k ++ enc1 x := by
  unfold encTo
  rw [take_snoc _ _ _ h, List.flatMap_append]
  simp
theorem headT_le (z : List (FieldA × ValA)) : (headT z).length ≤ 1 := by unfold headT; split <;> simp
theorem encTo_le {l : List FieldA} {r : List ValA} (hl : r.length = l.length) (hf : fitAll l r = true) (hI : InR r) (k : Nat) : (encTo l r k).length ≤ 1 + 21 * r.length := by
  unfold encTo
  have h1 := headT_le (l.zip r)
  have h2 := flat_le enc1 21 (r.take k) (fun x hx => by
    obtain ⟨i, hi⟩ := List.mem_iff_getElem?.1 (List.mem_of_mem_take hx)
    have := get_lt hi
    exact enc1_length (fitAll_at hf (List.getElem?_eq_getElem (by omega)) hi) (hI x (List.mem_of_mem_take hx)))
  rw [List.length_take] at h2
  rw [List.length_append]
  have : 21 * min k r.length ≤ 21 * r.length := Nat.mul_le_mul_left _ (Nat.min_le_right _ _)
  omega
theorem enc1_none {x : ValA} (h : x.kind = 0) : enc1 x = [] := by simp [enc1, h]
theorem enc1_int {x : ValA} (h : x.kind = 1) : enc1 x = groups (tn x.n) := by simp [enc1, h]
theorem enc1_bool {x : ValA} (h : x.kind = 2) : enc1 x = [UInt8.ofNat x.n.toNat] := by simp [enc1, h]
theorem enc1_bytes {x : ValA} (h : x.kind = 3) : enc1 x = UInt8.ofNat x.s.length :: x.s := by simp [enc1, h]

theorem errR_cases (l : List FieldA) (r : List ValA) : errR l r = 0 ∨ errR l r = 60 ∨ errR l r = 61 := by
  unfold errR
  repeat' split
  all_goals simp

theorem Keeps.narrowS {F : Nat → Prop} {a b c : World} (h : Keeps (fun _ => False) a b) (k : Keeps F b c) (hF : ∀ i, F i → a.heap.size ≤ i) : Keeps (fun _ => False) a c := h.narrow k hF

end Go.Proofs.YtajklagdjokojaaGreatDoor
namespace Go.Proofs.YtajklagdjokojaaGreatDoor
open Go.RowKit Go.Maps

/-- 'append(b, s...)' at a step of a region that draws its order. -/
theorem step_append_str {P : Program} {w : World} {ops : Array Oper} {o : Oper} {a : Act} {K : Act → World → Prop} {Q : Exit → Act → World → Prop} {E : Prop} (hgd : o.guard = none) (s x : Operand) (t u : TypeId)
    (ho : o.op = .call { callee := .builtin .append, args := #[s, x], argTypes := #[t, u] })
    (base : Nat) (e : TypeId) (i : TypeInfo) (ht : P.underlying t = some (.slice e)) (hu : P.underlying u = some .string) (hi : P.info? e = some i) (hz : i.zero = some (.int .u8 0))
    (hsize : i.size = 1) (hby : i.bytes = 1)
    (v : Value) (n : Nat) (xs : List Value) (hs : a.eval s = v) (hown : w.ownsRow base e 1 v n xs) (sb : ByteArray) (hx : a.eval x = .string sb)
    (h63 : n + sb.size ≤ maxLen) (hbytes : n + sb.size ≤ 140737488355328) (hbase : base ≤ w.heap.size)
    (h : ∀ v' w', w'.ownsRow base e 1 v' (n + sb.size) (xs ++ Lib.strCells sb) → w.grownBy w' v.ownBlock → K (a.put o.dst v') w') :
    if Region.wanted o (yielded ops a.tmps) = true then Oper.wp P o a w K Q else E := by
  have hw : Region.wanted o (yielded ops a.tmps) = true := by simp [Region.wanted, hgd]
  rw [if_pos hw]
  obtain ⟨v', w', hr, h2, h3, _⟩ := Lib.run_append_own_string (P := P) w base t u o.type e i ht hu hi hz hsize hby v n xs hown sb h63 hbytes hbase
  unfold Oper.wp execOp
  simp only [ho, resolve, invoke, builtin, Sem.run_bind, Sem.run_pure, Result.andThen_ok, List.map_toArray, List.map_cons, List.map_nil, hs, hx, hr]
  exact h v' w' h2 h3
theorem strCells_bs (s : Txt) : Lib.strCells ⟨s.toArray⟩ = bs s := by simp [Lib.strCells, bs, num]

set_option maxRecDepth 100000 in
set_option maxHeartbeats 4000000 in
theorem appendStr_v (base : Nat) (v : Value) (xs : List Value) (n : Nat) (s : Txt) (w : World) (hown : w.ownsRow base 5 1 v n xs) (hn : n ≤ 4096) (ht : s.length ≤ 255) (hbase : base ≤ w.heap.size) :
    Calls Tryz.prog 81 #[v, str s] w fun e w' => ∃ v', e = .returned v' ∧ w'.ownsRow base 5 1 v' (n + 1 + s.length) (xs ++ [.int .u8 (s.length : Int)] ++ bs s) ∧ Keeps (fun q => v.ownBlock = some q) w w' := by
  obtain ⟨i0, hi, hz0, hz1, hz2⟩ := info_parts Tryz.info5
  obtain ⟨vo, vc, rfl⟩ := RowAt.form (rowAt_own hown)
  have HO := hide hown
  have HT := hide ht
  have i1 : (0 : Int) ≤ (s.length : Int) := by omega
  have i2 : (s.length : Int) ≤ 255 := by omega
  have hw8 : IntKind.u8.wrap (s.length : Int) = (s.length : Int) := by rw [IntKind.wrap_u8]; omega
  have mark0 : True := trivial
  clear hown ht
  go_enter Tryz.func81, Tryz.ntmps81
  go_wp2_with (first
    | (clear mark0
       at_builtin
       refine wpList_append_lies _ rfl _ _ _ rfl base 5 i0 _ 1 1 Tryz.underlying29 hi hz0 hz1 hz2 rfl (by omega) (.slice vo n vc) n xs rfl ((unhide HO).alloc _) ⟨w.heap.size, 0, none⟩ 1 1 [.int .u8 (s.length : Int)] rfl rfl (World.news_of_block (cs := #[.int .u8 (s.length : Int)]) (t := 5) (fr := (0, 0)) (heap_alloc_new w _)) (by simp [Value.oneCell']) (by omega) (by unfold maxLen; omega) (by omega) (by simp; omega) (w.heap.size + 1) (by simp) ?_
       intro g cap w1 hown1 hgrow hat hlt1
       have hk1 : Keeps (fun q => (Value.slice vo n vc).ownBlock = some q) w w1 := ((Keeps.refl _ w).alloc _).grown hgrow (fun q e _ => e)
       have HK1 := hide hk1
       have HO1 := hide hown1
       have HB1 : Hid (base ≤ w1.heap.size) := Nat.le_trans hbase hk1.size
       have HAT := hide hat
       have mark1 : True := trivial
       clear hk1 hown1 hgrow hat)
    | (clear mark1
       at_builtin
       refine Lib.wpList_append_own_string _ rfl _ _ _ _ rfl base 5 i0 Tryz.underlying29 Tryz.underlying9 hi hz0 hz1 hz2 (.slice (some ⟨g, 0, none⟩) (n + 1) cap) (n + 1) (xs ++ [.int .u8 (s.length : Int)]) rfl (unhide HO1) ⟨s.toArray⟩ rfl (by have := unhide HT; show n + 1 + s.length ≤ maxLen; unfold maxLen; omega) (by have := unhide HT; show n + 1 + s.length ≤ _; omega) (unhide HB1) ?_
       intro v2 w2 how2 hg2 _
       have HO2 := hide how2
       have HG2 := hide hg2
       clear how2 hg2))
  go_ret
  refine ⟨_, rfl, ?_, (unhide HK1).grown (unhide HG2) (fun k e hlt => ?_)⟩
  · have h := unhide HO2
    rw [strCells_bs] at h
    exact h
  · simp only [Value.ownBlock, Option.some.injEq] at e
    subst e
    rcases unhide HAT with q | q
    · exact q
    · omega

set_option maxRecDepth 100000 in
set_option maxHeartbeats 2000000 in
theorem appendValue_v (w : World) (B : Nat) (v : Value) (m : Nat) (xs : List Value) (f : FieldA) (x : ValA) (hx : fitsB f x = true) (hI : -9223372036854775808 ≤ x.n ∧ x.n ≤ 9223372036854775807) (hv : w.ownsRow B 5 1 v m xs) (hm : m ≤ 1024) (hB : B ≤ w.heap.size) :
    Calls Tryz.prog 53 #[v, x.v] w fun e w' => ∃ v', e = .returned v' ∧ w'.ownsRow B 5 1 v' (m + (enc1 x).length) (xs ++ bs (enc1 x)) ∧ Keeps (fun q => B ≤ q) w w' := by
  obtain ⟨i0, hi, hz0, hz1, hz2⟩ := info_parts Tryz.info5
  obtain ⟨k, n, s⟩ := x
  simp only at hI
  obtain ⟨hn0, hn1⟩ := hI
  have HI0 := hide hn0
  have HI1 := hide hn1
  unfold ValA.v
  simp only
  have HV := hide (hv.alloc (.cells #[.int .i64 k, .int .i64 n, str s] 50))
  have HKB : Hid (Keeps (fun q => B ≤ q) w (w.alloc (.cells #[.int .i64 k, .int .i64 n, str s] 50))) := (Keeps.refl _ _).alloc _
  have hB1 : B ≤ (w.alloc (.cells #[.int .i64 k, .int .i64 n, str s] 50)).heap.size := by simp; omega
  have HLT := hide hv
  clear hv
  rcases fitsB_kind hx with h | h | ⟨h, hb0, hb1⟩ | ⟨h, hs20⟩
  · simp only at h
    subst h
    have HE : Hid (enc1 ⟨0, n, s⟩ = []) := enc1_none rfl
    clear hx
    go_enter Tryz.func53, Tryz.ntmps53
    go_wp2_with fail
    go_ret
    refine ⟨_, rfl, ?_, unhide HKB⟩
    rw [unhide HE]
    simpa [bs] using unhide HV
  · simp only at h
    subst h
    have HE : Hid (enc1 ⟨1, n, s⟩ = groups (tn n)) := enc1_int rfl
    have HQ := hide (appendInt_v _ B v m xs n hn0 hn1 (unhide HV) (by omega) hB1)
    clear hx hn0 hn1
    rw [unhide HE]
    go_enter Tryz.func53, Tryz.ntmps53
    go_wp2_with fail
    refine (unhide HQ).mono ?_
    rintro e w2 ⟨v', rfl, ho, hk, _⟩
    have HO := hide ho
    have HK := hide hk
    clear ho hk
    go_wp2_with fail
    go_ret
    exact ⟨_, rfl, unhide HO, (unhide HKB).trans ((unhide HK).mono (fun q _ e => ((unhide HV).lt q e).1))⟩
  · simp only at h hb0 hb1
    subst h
    have HE : Hid (enc1 ⟨2, n, s⟩ = [UInt8.ofNat n.toNat]) := enc1_bool rfl
    have HC : Hid (num (UInt8.ofNat n.toNat) = n) := by show _ = _; rw [num_of _ (by omega)]; omega
    clear hx hn0 hn1
    rw [unhide HE]
    generalize UInt8.ofNat n.toNat = c at *
    go_enter Tryz.func53, Tryz.ntmps53
    go_wp2_with (at_builtin; refine wpList_append_lies _ rfl _ _ _ rfl B 5 i0 _ 1 1 Tryz.underlying29 hi hz0 hz1 hz2 rfl (by omega) v m xs rfl ((unhide HV).alloc _) ⟨w.heap.size + 1, 0, none⟩ 1 1 [.int .u8 n] rfl rfl (World.news_of_block (cs := #[.int .u8 n]) (t := 5) (fr := (0, 0)) (by have q := heap_alloc_new (w.alloc (.cells #[.int .i64 2, .int .i64 n, str s] 50)) (.cells #[.int .u8 n] 5); rw [World.size_alloc] at q; exact q)) (by simp [Value.oneCell']) (by omega) (by unfold maxLen; omega) (by omega) (by simp; omega) (w.heap.size + 2) (by simp) ?_; intro g cap w2 hown1 hgrow hat hlt1)
    go_ret
    refine ⟨_, rfl, ?_, ((unhide HKB).alloc _).grown hgrow (fun q e _ => ((unhide HV).lt q e).1)⟩
    simpa [bs, unhide HC] using hown1
  · simp only at h hs20
    subst h
    have HE : Hid (enc1 ⟨3, n, s⟩ = UInt8.ofNat s.length :: s) := enc1_bytes rfl
    have HC : Hid (num (UInt8.ofNat s.length) = (s.length : Int)) := num_of _ (by omega)
    clear hx hn0 hn1
    rw [unhide HE]
    generalize UInt8.ofNat s.length = c at *
    have HQ := hide (appendStr_v B v xs m s _ (unhide HV) (by omega) (by omega) hB1)
    go_enter Tryz.func53, Tryz.ntmps53
    go_wp2_with fail
    refine (unhide HQ).mono ?_
    rintro e w2 ⟨v', rfl, ho, hk⟩
    have HO := hide ho
    have HK := hide hk
    clear ho hk HQ
    go_wp2_with fail
    go_ret
    refine ⟨_, rfl, ?_, (unhide HKB).trans ((unhide HK).mono (fun q _ e => ((unhide HV).lt q e).1))⟩
    have h := unhide HO
    rw [List.append_assoc] at h
    have e1 : bs (c :: s) = [.int .u8 (s.length : Int)] ++ bs s := by simp [bs, unhide HC]
    rw [e1]
    rw [show m + (s.length + 1) = m + 1 + s.length by omega]
    exact h
end Go.Proofs.YtajklagdjokojaaGreatDoor
