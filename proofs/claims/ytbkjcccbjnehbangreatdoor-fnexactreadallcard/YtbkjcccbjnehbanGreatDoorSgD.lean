/- Runes of a text: where one ends. Plain. -/
import Derived.Test.YtbkjcccbjnehbanGreatDoorSgP
import Derived.Laws.RangeAny
import Derived.Lib.IndexBytes
import Derived.Shelf.Unicode.DecodeSlow
namespace Go.Proofs.YtbkjcccbjnehbanGreatDoor
open Go.RowKit

theorem get8 (t : ByteArray) (i : Nat) : t.get! i = at8 t i := by
  unfold at8
  simp only [ByteArray.get!, List.getD_eq_getElem?_getD, Array.getElem?_toList]
  rw [getElem!_def]
  cases t.data[i]? <;> rfl
theorem ext_list (t : ByteArray) (i : Nat) : (t.extract i t.size).data.toList = t.data.toList.drop i := by
  have h1 : (t.extract i t.size).data = t.data.extract i t.size := by simp
  rw [h1, Array.toList_extract]
  show List.take (t.size - i) (List.drop i t.data.toList) = _
  exact List.take_of_length_le (by simp)
theorem get_shift (t : ByteArray) (i k : Nat) : (t.extract i t.size).get! k = t.get! (i + k) := by
  rw [get8, get8]; unfold at8
  rw [ext_list]
  simp [List.getD_eq_getElem?_getD]
theorem ext_size (t : ByteArray) (i : Nat) : (t.extract i t.size).size = t.size - i := by
  rw [ByteArray.size_extract]; omega

theorem decode_shift (t : ByteArray) (i : Nat) : Utf8.decode (t.extract i t.size) 0 = Utf8.decode t i := by
  have hc : ∀ k, decide (k < (t.extract i t.size).size) = decide (i + k < t.size) := fun k => by
    rw [ext_size]; by_cases h : i + k < t.size
    · rw [decide_eq_true h, decide_eq_true (by omega)]
    · rw [decide_eq_false h, decide_eq_false (by omega)]
  unfold Utf8.decode
  simp only [get_shift, Nat.zero_add, hc]

theorem decode_end (t : ByteArray) (i : Nat) (h : i < t.size) : 1 ≤ (Utf8.decode t i).2 ∧ i + (Utf8.decode t i).2 ≤ t.size ∧ (Utf8.decode t i).2 ≤ 4 ∧ ∀ k, 0 < k → k < (Utf8.decode t i).2 → 128 ≤ (at8 t (i + k)).toNat := by
  have hg : ∀ k, (t.get! (i + k)).toNat = (at8 t (i + k)).toNat := fun k => by rw [get8]
  unfold Utf8.decode
  simp only [hg, Bool.and_eq_true, decide_eq_true_eq, beq_iff_eq]
  repeat' split
  all_goals refine ⟨by simp, ?_, by simp, ?_⟩
  all_goals first
    | (simp; omega)
    | (intro k h1 h2; simp at h2; omega)
    | (intro k h1 h2
       have : k = 1 ∨ k = 2 ∨ k = 3 := by simp at h2; omega
       rcases this with rfl | rfl | rfl <;> simp at h2 <;> omega)

theorem decodeGo_at (t : ByteArray) (i : Nat) (h : i < t.size) : Lib.decodeGo (t.extract i t.size) = Utf8.decode t i := by
  unfold Lib.decodeGo
  rw [if_neg (by rw [ext_size]; omega), decode_shift]

theorem index_run (t : ByteArray) (c : UInt8) (p : UInt8 → Bool) (hp : ∀ x, p x = !(x == c)) : ∀ (n i : Nat), t.size - i ≤ n → Lib.indexByte (t.data.toList.drop i) c = if i + run t p i < t.size then (run t p i : Int) else -1 := by
  intro n
  induction n with
  | zero =>
    intro i hn
    rw [drop_end t i (by omega), if_neg (by omega)]; rfl
  | succ n ih =>
    intro i hn
    by_cases hi : i < t.size
    · rw [drop_at t i hi]
      unfold Lib.indexByte
      by_cases hc : (t[i] == c) = true
      · have hp0 : p t[i] = false := by rw [hp, hc]; rfl
        rw [if_pos hc, run_no hi hp0, if_pos (by omega)]; rfl
      · have hp1 : p t[i] = true := by rw [hp]; simpa using hc
        rw [if_neg hc, ih (i + 1) (by omega), run_yes hi hp1]
        by_cases hl : i + 1 + run t p (i + 1) < t.size
        · rw [if_pos hl, if_neg (by simp), if_pos (by omega)]; rfl
        · rw [if_neg hl, if_pos (by rfl), if_neg (by omega)]
    · rw [drop_end t i hi, if_neg (by rw [run_end hi]; omega)]; rfl
end Go.Proofs.YtbkjcccbjnehbanGreatDoor
