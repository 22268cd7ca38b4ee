/- Where a text's end stands. Plain. -/
import Derived.Test.YtbkjcccbjnehbanGreatDoorSgP
namespace Go.Proofs.YtbkjcccbjnehbanGreatDoor
open Go.RowKit

/-- the byte ahead is none of a sign, or there is none -/
def aheadOk (t : ByteArray) (i : Nat) : Prop := decide (i = 0) = true ∨ ∃ h0 : i - 1 < t.size, isSym t[i - 1] = false
theorem isEnd_no {t : ByteArray} {i : Nat} (hi : i < t.size) (h : t[i].toNat ≠ 46) : isEnd t i = false := by
  unfold isEnd; rw [at8_eq t i hi, decide_eq_false h]; rfl
theorem isEnd_ahead {t : ByteArray} {i : Nat} (h0 : i ≠ 0) (h1 : i - 1 < t.size) (h : isSym t[i - 1] = true) : isEnd t i = false := by
  unfold isEnd; rw [at8_eq t (i - 1) h1, h, decide_eq_false h0]; simp
theorem ahead_bool {t : ByteArray} {i : Nat} (h : aheadOk t i) : (decide (i = 0) || !isSym (at8 t (i - 1))) = true := by
  rcases h with h | ⟨h0, h⟩
  · rw [h]; rfl
  · rw [at8_eq t (i - 1) h0, h]; simp
theorem isEnd_last {t : ByteArray} {i : Nat} (hi : i < t.size) (h : t[i].toNat = 46) (ha : aheadOk t i) (he : i + 1 = t.size) : isEnd t i = true := by
  unfold isEnd; rw [at8_eq t i hi, ahead_bool ha, decide_eq_true h, decide_eq_true he]; rfl
theorem isEnd_mid {t : ByteArray} {i : Nat} (hi : i < t.size) (h : t[i].toNat = 46) (ha : aheadOk t i) (he : i + 1 < t.size) : isEnd t i = (isBlank t[i + 1] || decide (t[i + 1].toNat = 37)) := by
  unfold isEnd; rw [at8_eq t i hi, at8_eq t (i + 1) he, ahead_bool ha, decide_eq_true h, decide_eq_false (show ¬ i + 1 = t.size by omega)]; rfl

end Go.Proofs.YtbkjcccbjnehbanGreatDoor
