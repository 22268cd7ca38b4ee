/- Unsealed of what Sealed wrote, and of that with one byte turned. -/
import Derived.Test.YtdabglemkpokpaaDoorSealI
import Derived.Lib.Strings
namespace Go.Proofs.YtdabglemkpokpaaDoor
open Go.RowKit

theorem fourS_data (n : Nat) : (fourS n).data.toList = four n := rfl
theorem seal_data (s : ByteArray) : (s ++ fourS (sumS s)).data.toList = sealL s.data.toList := by
  rw [ByteArray.data_append, Array.toList_append]; rfl
theorem seal_size (s : ByteArray) : (s ++ fourS (sumS s)).size = s.size + 4 := by rw [ByteArray.size_append, fourS_size]

theorem sealed_beq (t : ByteArray) (m : Nat) (hm : t.size = m + 4) :
    ((fourS (sumS (t.extract 0 m))).toList == (t.extract m (m + 4)).toList) = sealedR t.data.toList := by
  have hl : t.data.toList.length = m + 4 := by rw [← hm, Array.length_toList]; rfl
  unfold sealedR
  rw [hl, Lib.toList_data, Lib.toList_data, Lib.extract_data, fourS_data]
  unfold sumS
  rw [Lib.extract_data]
  have e : m + 4 - 4 = m := by omega
  have e2 : (t.data.toList.drop m).take (m + 4 - m) = t.data.toList.drop m := List.take_of_length_le (by rw [List.length_drop, hl]; omega)
  rw [e2, e, Nat.sub_zero, List.drop_zero]
  by_cases h : four (sumL 4294967295 (t.data.toList.take m)) = t.data.toList.drop m
  · rw [h]
  · rw [beq_eq_false_iff_ne.2 h, beq_eq_false_iff_ne.2 (Ne.symm h)]

theorem seal_back (s : ByteArray) : (s ++ fourS (sumS s)).extract 0 s.size = s := by
  apply ByteArray.ext
  apply Array.toList_inj.1
  rw [Lib.extract_data, seal_data, List.drop_zero, Nat.sub_zero]
  unfold sealL
  have hl : s.data.toList.length = s.size := by rw [Array.length_toList]; rfl
  rw [← hl, List.take_left]

theorem implUn_seal (s : ByteArray) (h : s.size ≤ 20000) (w : World) (ht : Tab w) :
    Calls Tryd.prog 19 #[.string (s ++ fourS (sumS s))] w fun e w' => e = .returned (.tuple #[.string s, .bool true]) ∧ Below w.heap.size w w' := by
  have := implUn_eq (s ++ fourS (sumS s)) s.size (seal_size s) h w ht (by rw [sealed_beq _ _ (seal_size s), seal_data, sealedR_seal])
  rwa [seal_back] at this

/-- the bytes with one of them turned -/
def turned (s : ByteArray) (i : Nat) (c : UInt8) : ByteArray := ⟨((sealL s.data.toList).set i c).toArray⟩
theorem sealL_length (s : ByteArray) : (sealL s.data.toList).length = s.size + 4 := by
  unfold sealL; rw [List.length_append, four_length, Array.length_toList]; rfl
theorem turned_size (s : ByteArray) (i : Nat) (c : UInt8) : (turned s i c).size = s.size + 4 := by
  rw [turned, size_mk, List.length_set, sealL_length]

theorem implUn_turned (s : ByteArray) (h : s.size ≤ 20000) (i : Nat) (c : UInt8) (hi : i < (sealL s.data.toList).length) (hc : c ≠ (sealL s.data.toList)[i]) (w : World) (ht : Tab w) :
    Calls Tryd.prog 19 #[.string (turned s i c)] w fun e w' => e = .returned (.tuple #[.string ⟨#[]⟩, .bool false]) ∧ Below w.heap.size w w' :=
  implUn_ne (turned s i c) s.size (turned_size s i c) h w ht (by rw [sealed_beq _ _ (turned_size s i c)]; exact sealedR_turned s.data.toList i c hi hc)

theorem xor_turns (a : UInt8) (k : Nat) (h0 : 0 < k) (h1 : k < 256) : UInt8.ofNat (a.toNat ^^^ k) ≠ a := by
  intro h
  have ha := a.toNat_lt
  have hx : a.toNat ^^^ k < 2 ^ 8 := Nat.xor_lt_two_pow (by omega) (by omega)
  have e : (UInt8.ofNat (a.toNat ^^^ k)).toNat = a.toNat ^^^ k := by rw [UInt8.toNat_ofNat']; omega
  rw [h] at e
  have : (0 : Nat) = k := by
    have := congrArg (a.toNat ^^^ ·) e
    simp only [Nat.xor_self, ← Nat.xor_assoc, Nat.zero_xor] at this
    exact this
  omega

theorem sum_x (s : ByteArray) : sumS (s ++ ⟨#[120]⟩) = sumL (sumS s) [120] := by
  unfold sumS
  rw [ByteArray.data_append, Array.toList_append, sumL_append]
end Go.Proofs.YtdabglemkpokpaaDoor
