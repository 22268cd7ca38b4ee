/- A row of terms that is made; small facts on what is made. -/
import Derived.Test.YtmhmlkdoaojimaqRows
import Derived.Test.YtmhmlkdoaojimaqTmOwn
import Derived.Laws.MakeOwn
import Derived.ProofKit
namespace Go.Proofs.Ytmhmlkdoaojimaq
open Go.RowKit

theorem infoT : (Try.prog.info? 24).map (fun i => (i.zero, i.size, i.bytes)) = some (some (.agg #[.int .i64 0, .string ⟨#[]⟩, .int .i64 0, .slice none 0 0]), 4, 56) := by kernel_rfl

theorem make_terms (n : Nat) (h1 : n ≤ 1048576) : ∃ M : Array Value, M.size = n * 4 ∧
    (∀ W : World, (Instr.makeSlice 22 (.int .i64 (n : Int)) (.int .i64 (n : Int))).run Try.prog W = .ok (.slice (some ⟨W.heap.size, 0, none⟩) n n) (W.alloc (.cells M 24))) := by
  obtain ⟨i0, hi, hz0, hz1, hz2⟩ := info_parts infoT
  refine ⟨madeCells (Value.agg #[.int .i64 0, .string ⟨#[]⟩, .int .i64 0, .slice none 0 0]).cells (n * i0.size), ?_, ?_⟩
  · rw [size_madeCells, hz1]
  · intro W
    have h := run_make (P := Try.prog) W 22 24 i0 _ Try.underlying22 hi hz0 .i64 .i64 n n (by omega) (by omega) (by rw [hz2]; omega) (by omega)
    simpa using h

theorem wt_le {ks : List Tm} {t : Tm} (h : t ∈ ks) : t.wt ≤ wts ks := by
  induction ks with
  | nil => cases h
  | cons a r ih =>
    simp only [wts, Tm.wt.wts] at *
    rcases List.mem_cons.1 h with rfl | h
    · omega
    · have := ih h; omega

theorem alloc_at (w : World) (o : Obj) {i : Nat} (h : i = w.heap.size) : (w.alloc o).heap[i]? = some o := by
  subst h; exact heap_alloc_new w o
theorem alloc_old (w : World) (o : Obj) {i : Nat} (h : i < w.heap.size) : (w.alloc o).heap[i]? = w.heap[i]? :=
  ((Below.refl w.heap.size w).alloc (Nat.le_refl _) o).block i h
end Go.Proofs.Ytmhmlkdoaojimaq
