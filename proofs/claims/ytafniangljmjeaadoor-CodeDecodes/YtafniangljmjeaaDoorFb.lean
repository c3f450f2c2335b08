import Derived.Test.YtafniangljmjeaaDoorFa
import Derived.Test.YtafniangljmjeaaDoorDa
namespace Go.Proofs.YtafniangljmjeaaDoor
open Go.RowKit Go.Maps

/-- What a taking's three answers tell. -/
def TookI (w' : World) (n : Int) (y : Value) (ok : Bool) (bk : Option Nat) : Option (Int × Txt) → Prop
  | none => ok = false
  | some (m, r) => ok = true ∧ n = m ∧ BytesAt w' y r ∧ y.ownBlock = bk
def TookS (w' : World) (s : Txt) (y : Value) (ok : Bool) (bk : Option Nat) : Option (Txt × Txt) → Prop
  | none => ok = false
  | some (m, r) => ok = true ∧ s = m ∧ BytesAt w' y r ∧ y.ownBlock = bk
def byteP : Txt → Option (Int × Txt)
  | [] => none
  | c :: r => some (num c, r)
def intP (t : Txt) : Option (Int × Txt) := (takeG 0 t 0).map fun p => (backB p.1, p.2)

set_option maxRecDepth 100000 in
set_option maxHeartbeats 1000000 in
theorem takeByte_v (w : World) (v : Value) (t : Txt) (h : BytesAt w v t) (ht : t.length ≤ 4096) :
    Calls Tryd.prog 46 #[v] w fun e w' => Keeps (fun _ => False) w w' ∧ ∃ n y ok, e = .returned (.tuple #[.int .i64 n, y, .bool ok]) ∧ TookI w' n y ok v.ownBlock (byteP t) := by
  obtain ⟨ao, cap, rfl⟩ := RowAt.form h
  have HF := hide h
  cases t with
  | nil =>
    clear h
    go_enter Tryd.func46, Tryd.ntmps46
    go_wp2_with fail
    go_ret3
    exact ⟨Keeps.refl _ _, _, _, _, rfl, rfl⟩
  | cons c r =>
    obtain ⟨b, off, cc, e1, hblt, hc⟩ := RowAt.cells (unhide HF) (by simp)
    simp only [Value.slice.injEq] at e1
    obtain ⟨rfl, _, rfl⟩ := e1
    have c0 := hc 0 (.int .u8 (num c)) rfl
    rw [Nat.add_zero] at c0
    have hcr := num_range c
    have hroom := RowAt.room h _ _ _ rfl
    have HRB := hide (rest_bytes (unhide HF) (k := 1) (by simp))
    have hlen : ((c :: r).length : Int) = (r.length : Int) + 1 := by simp
    have i1 : (1 : Int) ≤ (cap : Int) := by simp at hroom; omega
    generalize hL : (c :: r).length = L at *
    have HLL := hide hL
    have i2 : (L : Int) ≤ (cap : Int) := by omega
    have i3 : (1 : Int) ≤ (L : Int) := by omega
    clear h hc hlen hroom hL
    go_enter Tryd.func46, Tryd.ntmps46
    go_wp2_with fail
    go_region
    have HAB : Hid ((Value.slice (if cap = 1 then some (⟨b, off, none⟩ : Addr) else some ⟨b, off + 1, none⟩) (L - 1) (cap - 1)).ownBlock = some b) := by show _ = _; split <;> rfl
    generalize (if cap = 1 then some (⟨b, off, none⟩ : Addr) else some ⟨b, off + 1, none⟩) = A at *
    go_wp2_with fail
    go_ret3
    exact ⟨(Keeps.refl _ _).drew, _, _, _, rfl, rfl, rfl, (unhide HRB).keepF ((Keeps.refl _ _).drew), unhide HAB⟩

set_option maxRecDepth 100000 in
set_option maxHeartbeats 2000000 in
theorem takeText_v (w : World) (v : Value) (t : Txt) (h : BytesAt w v t) (ht : t.length ≤ 4096) :
    Calls Tryd.prog 45 #[v] w fun e w' => Keeps (fun _ => False) w w' ∧ ∃ s y ok, e = .returned (.tuple #[str s, y, .bool ok]) ∧ TookS w' s y ok v.ownBlock (textP t) := by
  have HQ := hide (short_v w v t h (by omega))
  obtain ⟨ao, cap, rfl⟩ := RowAt.form h
  generalize textP t = T at *
  generalize t.length = L at *
  clear h
  go_enter Tryd.func45, Tryd.ntmps45
  go_wp2_with fail
  refine (unhide HQ).mono ?_
  rintro e w2 ⟨hk, x, y, ok, rfl, hT⟩
  have HK := hide hk
  clear HQ hk
  rcases T with _ | ⟨p, r⟩
  · obtain ⟨rfl, rfl, rfl⟩ := hT
    have hconv : (convert 23 9 (.slice none 0 0)).run Tryd.prog w2 = .ok (str []) w2 := by rfl
    go_wp2_with fail
    go_ret3
    exact ⟨unhide HK, [], _, _, rfl, rfl⟩
  · obtain ⟨rfl, ⟨b, off, c, rfl, _⟩, ⟨b2, off2, c2, rfl, hbk⟩, hp, hr⟩ := hT
    have HR := hide hr
    have HBK := hide hbk
    have hconv := conv_row hp
    clear hp hr hbk
    generalize p.length = PL at *
    generalize r.length = RL at *
    go_wp2_with fail
    go_ret3
    exact ⟨unhide HK, p, _, _, rfl, rfl, rfl, unhide HR, unhide HBK⟩

end Go.Proofs.YtafniangljmjeaaDoor
