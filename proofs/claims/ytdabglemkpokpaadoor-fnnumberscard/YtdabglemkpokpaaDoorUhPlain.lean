/- Figures read back into bytes, as plain functions. -/
import Derived.Test.YtdabglemkpokpaaDoorHexPlain
namespace Go.Proofs.YtdabglemkpokpaaDoor

theorem ret_int {k : IntKind} {a b : Int} (h : a = b) : Ending.returned (.int k a) = .returned (.int k b) := by rw [h]
theorem tup_u8 {a b : Int} {c : Bool} (h : a = b) : Ending.returned (.tuple #[.int .u8 a, .bool c]) = .returned (.tuple #[.int .u8 b, .bool c]) := by rw [h]

def hv (c : UInt8) : Option Nat :=
  if 48 ≤ c.toNat ∧ c.toNat ≤ 57 then some (c.toNat - 48) else if 97 ≤ c.toNat ∧ c.toNat ≤ 102 then some (c.toNat - 87) else none

theorem hv_lt {c : UInt8} {x : Nat} (h : hv c = some x) : x < 16 := by
  unfold hv at h
  split at h
  · cases h; omega
  · split at h
    · cases h; omega
    · cases h

def hvI (c : UInt8) : Int := match hv c with
  | some x => (x : Int)
  | none => -1
theorem hvI_neg {c : UInt8} (h : hvI c < 0) : hv c = none := by
  unfold hvI at h
  cases hc : hv c with
  | none => rfl
  | some x => rw [hc] at h; simp at h; omega
theorem hvI_nat {c : UInt8} (h : 0 ≤ hvI c) : hv c = some (hvI c).toNat ∧ hvI c < 16 := by
  unfold hvI at *
  cases hc : hv c with
  | none => rw [hc] at h; simp at h
  | some x => have := hv_lt hc; simp; omega

def unhexL : List UInt8 → Option (List UInt8)
  | [] => some []
  | [_] => none
  | a :: b :: r => match hv a, hv b with
    | some x, some y => (unhexL r).map fun t => UInt8.ofNat (16 * x + y) :: t
    | _, _ => none

theorem unhexL_yes {a b : UInt8} {r : List UInt8} {x y : Nat} (ha : hv a = some x) (hb : hv b = some y) : unhexL (a :: b :: r) = (unhexL r).map fun t => UInt8.ofNat (16 * x + y) :: t := by
  simp [unhexL, ha, hb]
theorem unhexL_no1 {a b : UInt8} {r : List UInt8} (ha : hv a = none) : unhexL (a :: b :: r) = none := by
  simp [unhexL, ha]
theorem unhexL_no2 {a b : UInt8} {r : List UInt8} (hb : hv b = none) : unhexL (a :: b :: r) = none := by
  cases ha : hv a <;> simp [unhexL, ha, hb]

def uhRes (l : List UInt8) : Value :=
  match unhexL l with
  | some p => .tuple #[.string ⟨p.toArray⟩, .bool true]
  | none => .tuple #[.string ⟨#[]⟩, .bool false]

theorem uhRes_some {l p : List UInt8} (h : unhexL l = some p) : uhRes l = .tuple #[.string ⟨p.toArray⟩, .bool true] := by unfold uhRes; rw [h]
theorem uhRes_none {l : List UInt8} (h : unhexL l = none) : uhRes l = .tuple #[.string ⟨#[]⟩, .bool false] := by unfold uhRes; rw [h]

theorem drop_two (s : ByteArray) (i : Nat) (h : i + 1 < s.size) : s.data.toList.drop i = s[i] :: s[i + 1] :: s.data.toList.drop (i + 2) := by
  rw [List.drop_eq_getElem_cons (by simpa using (show i < s.size by omega)), List.drop_eq_getElem_cons (by simpa using h)]; rfl

theorem pre_yes (s : ByteArray) (i x y : Nat) (p : List UInt8) (h : i + 1 < s.size) (ha : hv s[i] = some x) (hb : hv s[i + 1] = some y)
    (hp : unhexL s.data.toList = (unhexL (s.data.toList.drop i)).map fun t => p ++ t) :
    unhexL s.data.toList = (unhexL (s.data.toList.drop (i + 2))).map fun t => (p ++ [UInt8.ofNat (16 * x + y)]) ++ t := by
  rw [hp, drop_two s i h, unhexL_yes ha hb, Option.map_map]
  congr 1
  funext t
  simp
theorem pre_no1 (s : ByteArray) (i : Nat) (p : List UInt8) (h : i + 1 < s.size) (ha : hv s[i] = none)
    (hp : unhexL s.data.toList = (unhexL (s.data.toList.drop i)).map fun t => p ++ t) : unhexL s.data.toList = none := by
  rw [hp, drop_two s i h, unhexL_no1 ha]; rfl
theorem pre_no2 (s : ByteArray) (i : Nat) (p : List UInt8) (h : i + 1 < s.size) (hb : hv s[i + 1] = none)
    (hp : unhexL s.data.toList = (unhexL (s.data.toList.drop i)).map fun t => p ++ t) : unhexL s.data.toList = none := by
  rw [hp, drop_two s i h, unhexL_no2 hb]; rfl
theorem pre_end (s : ByteArray) (i : Nat) (p : List UInt8) (h : ¬ i < s.size)
    (hp : unhexL s.data.toList = (unhexL (s.data.toList.drop i)).map fun t => p ++ t) : unhexL s.data.toList = some p := by
  have hl : s.data.toList.length = s.size := by rw [Array.length_toList]; rfl
  rw [hp, List.drop_eq_nil_of_le (by omega)]; simp [unhexL]
end Go.Proofs.YtdabglemkpokpaaDoor
