/- impl.newCopier. -/
import Derived.Test.YtmhmlkdoaojimapRows
import Derived.Test.YtmhmlkdoaojimapMrg3
import Derived.Below
import Derived.ProofKit
namespace Go.Proofs.Ytmhmlkdoaojimap
open Go.RowKit

theorem new_copier (w : World) : Calls Try.prog 32 #[] w fun e w' => e = .returned (.pointer (some ⟨w.heap.size + 1, 0, none⟩)) ∧ w'.heap[w.heap.size + 1]? = some (.cells #[.map (some w.heap.size), .int .i64 0, .slice none 0 0] 72 (0, 0)) ∧ w'.heap[w.heap.size]? = some (.map #[] 0) ∧ w'.heap.size = w.heap.size + 2 ∧ Below w.heap.size w w' := by
  have hmm := @run_makeMap Try.prog
  have HE : Hid (∀ w', w' = (w.alloc (.map #[] 0)).alloc (.cells #[.map (some w.heap.size), .int .i64 0, .slice none 0 0] 72) → w'.heap[w.heap.size + 1]? = some (.cells #[.map (some w.heap.size), .int .i64 0, .slice none 0 0] 72 (0, 0)) ∧ w'.heap[w.heap.size]? = some (.map #[] 0) ∧ w'.heap.size = w.heap.size + 2 ∧ Below w.heap.size w w') := by
    intro w' hw'
    refine ⟨by rw [hw']; exact alloc_at _ _ (by simp), by rw [hw']; exact (alloc_old _ _ (by simp)).trans (heap_alloc_new w _), by rw [hw']; simp, by rw [hw']; exact ((Below.refl _ _).alloc (Nat.le_refl _) _).alloc (by simp) _⟩
  go_enter Try.func32, Try.ntmps32
  go_wp2
  go_ret
  exact ⟨rfl, HE.out _ rfl⟩
end Go.Proofs.Ytmhmlkdoaojimap
