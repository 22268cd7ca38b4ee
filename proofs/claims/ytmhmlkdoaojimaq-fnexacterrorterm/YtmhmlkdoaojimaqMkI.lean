/- The code's atomOf. -/
import Derived.Test.YtmhmlkdoaojimaqMkS
namespace Go.Proofs.Ytmhmlkdoaojimaq
open Go.RowKit

set_option maxHeartbeats 1000000 in
theorem m_atomOf (s : ByteArray) (w : World) (hs : s.size ≤ 1048576) :
    Calls Try.prog 24 #[.string s] w fun e w' => e = .returned (.agg #[.int .i64 2, .string s, .int .i64 0, .slice none 0 0]) ∧ Below w.heap.size w w' := by
  go_enter Try.func24, Try.ntmps24
  go_wp2_with (go_at_call 38; refine (clone_any s _ hs).mono ?_; rintro e w1 ⟨rfl, hb⟩; have hh := below_hp hb (heap_alloc_new _ _); obtain ⟨c0, c1, c2, c3, f0, f1, f2, f3⟩ := blk4 hh; have HB : Hid (Below w.heap.size w w1) := ((Below.refl _ _).alloc (Nat.le_refl _) _).trans (hb.mono (by simp)); clear hb)
  refine bodyPost_ret_by (results_cell_row rfl _ _ w.heap.size 24 _ (0, 0) _ rfl (blk4_set hh) Try.underlying24 rfl (by kernel_rfl)) rfl ?_
  exact ⟨rfl, blk4_below HB.out (Nat.le_refl _)⟩
end Go.Proofs.Ytmhmlkdoaojimaq
