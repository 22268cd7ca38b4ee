/- Both SignsOf at every text. -/
import Derived.Test.YtenmhpalpfppmaoGreatDoorMrg10
import Derived.Test.YtenmhpalpfppmaoGreatDoorSgZ
namespace Go.Proofs.YtenmhpalpfppmaoGreatDoor
open Go.RowKit

/-- what SignsOf answers -/
def signsR (t : ByteArray) : List Sg × Bool := if (t.size : Int) ≤ 3000 then (sgs t 0, true) else ([], false)
theorem sgsF_len {t : ByteArray} : ∀ (n i : Nat), (sgsF t n i).length ≤ n := by
  intro n
  induction n with
  | zero => intro i; simp [sgsF]
  | succ n ih =>
    intro i
    unfold sgsF
    split
    · have := ih (stepAt t i).2
      rw [List.length_append]
      cases (stepAt t i).1 <;> simp <;> omega
    · simp
theorem signsR_len (t : ByteArray) : (signsR t).1.length ≤ 3000 := by
  unfold signsR
  split
  · have := sgsF_len (t := t) (t.size - 0) 0
    show (sgs t 0).length ≤ 3000
    unfold sgs; omega
  · simp
theorem spec_all (t : ByteArray) (w : World) :
    Calls Tryz.prog 33 #[.string t] w fun e w' => ∃ v, e = .returned (.tuple #[v, .bool (signsR t).2]) ∧ SgRow w' w.heap.size (signsR t).1 v ∧ Below w.heap.size w w' := by
  by_cases hs : (t.size : Int) ≤ 3000
  · have := spec_signs t hs w
    unfold signsR; rw [if_pos hs]; exact this
  · unfold signsR; rw [if_neg hs]
    go_enter Tryz.func33, Tryz.ntmps33
    go_wp2
    go_ret2
    exact ⟨_, rfl, SgRow.new (Nat.le_refl _), (Below.refl _ _).alloc (Nat.le_refl _) _⟩
theorem impl_all (t : ByteArray) (w : World) (hT : Lib.Utf8Tabs 3 4 w) :
    Calls Tryz.prog 68 #[.string t] w fun e w' => ∃ v, e = .returned (.tuple #[v, .bool (signsR t).2]) ∧ SgRow w' w.heap.size (signsR t).1 v ∧ Below w.heap.size w w' := by
  by_cases hs : (t.size : Int) ≤ 3000
  · have := impl_signs t hs w hT
    unfold signsR; rw [if_pos hs]; exact this
  · unfold signsR; rw [if_neg hs]
    clear hT
    go_enter Tryz.func68, Tryz.ntmps68
    go_wp2
    go_ret2
    exact ⟨_, rfl, SgRow.nil _ _, Below.refl _ _⟩
end Go.Proofs.YtenmhpalpfppmaoGreatDoor
