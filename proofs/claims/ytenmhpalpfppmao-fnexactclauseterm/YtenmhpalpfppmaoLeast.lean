/- The least number of a kind. Plain. -/
import Derived.WalkKit
namespace Go.Proofs.Ytenmhpalpfppmao

theorem least_ex (Q : Nat → Prop) (h : ∃ n, Q n) : ∃ n, Q n ∧ ∀ m, Q m → n ≤ m := by
  obtain ⟨n, hn⟩ := h
  induction n using Nat.strongRecOn with
  | ind n ih =>
    by_cases h : ∃ m, m < n ∧ Q m
    · obtain ⟨m, hm, hq⟩ := h
      exact ih m hm hq
    · exact ⟨n, hn, fun m hm => Nat.le_of_not_lt fun hl => h ⟨m, hl, hm⟩⟩
open Classical in
noncomputable def least (Q : Nat → Prop) : Nat := if h : ∃ n, Q n then Classical.choose (least_ex Q h) else 0
theorem least_le {Q : Nat → Prop} {n : Nat} (h : Q n) : least Q ≤ n := by
  unfold least
  rw [dif_pos ⟨n, h⟩]
  exact (Classical.choose_spec (least_ex Q ⟨n, h⟩)).2 n h
theorem least_is {Q : Nat → Prop} (h : ∃ n, Q n) : Q (least Q) := by
  unfold least
  rw [dif_pos h]
  exact (Classical.choose_spec (least_ex Q h)).1
end Go.Proofs.Ytenmhpalpfppmao
