/- What stands in a row of signs. -/
import Derived.Test.YtenmhpalpfppmaoGreatDoorMrg10
namespace Go.Proofs.YtenmhpalpfppmaoGreatDoor
open Go.RowKit

theorem SgRow.at {w : World} {B g n cap j : Nat} {M : List Sg} (h : SgRow w B M (.slice (some ⟨g, 0, none⟩) n cap)) (hn : M.length = n) (hj : j < n) :
    w.cell? ⟨g, j * 5, none⟩ = some (.int .i64 (M[j]'(by omega)).kind) ∧ w.cell? ⟨g, j * 5 + 1, none⟩ = some (.string (M[j]'(by omega)).text) ∧ w.cell? ⟨g, j * 5 + 2, none⟩ = some (.int .i64 (M[j]'(by omega)).num) ∧ w.cell? ⟨g, j * 5 + 3, none⟩ = some (.int .i64 ((M[j]'(by omega)).at_ : Int)) ∧ w.cell? ⟨g, j * 5 + 4, none⟩ = some (.bool (M[j]'(by omega)).near) ∧ (∀ i, w.frozen? ⟨g, i, none⟩ = false) := by
  subst hn
  obtain ⟨g', cap', e, _, _, _, _, hc⟩ := h.cells (by intro e; subst e; simp at hj)
  simp only [Value.slice.injEq, Option.some.injEq, Addr.mk.injEq] at e
  obtain ⟨⟨rfl, _⟩, _⟩ := e
  obtain ⟨q0, q1, q2, q3, q4⟩ := hc j hj
  refine ⟨q0, q1, q2, q3, q4, fun i => ?_⟩
  rcases h.2 with ⟨e, _⟩ | ⟨g', cap', cur, e, _, hh, _⟩
  · cases e
  · simp only [Value.slice.injEq, Option.some.injEq, Addr.mk.injEq] at e
    obtain ⟨⟨rfl, _⟩, _⟩ := e
    simp [World.frozen?, hh]
end Go.Proofs.YtenmhpalpfppmaoGreatDoor
