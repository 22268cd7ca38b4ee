/- laws.eqClause of the same clause. -/
import Derived.Test.YtenmhpalpfppmaoMrg2
import Derived.Test.YtenmhpalpfppmaoTmEq
import Derived.Test.YtenmhpalpfppmaoMrg3
import Derived.Deep.DeepCutAuto
namespace Go.Proofs.Ytenmhpalpfppmao
open Go.RowKit

set_option maxHeartbeats 2000000 in
theorem eq_clause (H B : Tm) (f : ByteArray) (w : World) (k s n a l c k' s' n' a' l' c' p q r b m d p' q' r' b' m' d') (h1 : TmIn w H (.agg #[.int .i64 k, .string s, .int .i64 n, .slice a l c])) (h2 : TmIn w B (.agg #[.int .i64 k', .string s', .int .i64 n', .slice a' l' c']))
    (g1 : TmIn w H (.agg #[.int .i64 p, .string q, .int .i64 r, .slice b m d])) (g2 : TmIn w B (.agg #[.int .i64 p', .string q', .int .i64 r', .slice b' m' d'])) :
    Calls Try.prog 12 #[.agg #[.int .i64 k, .string s, .int .i64 n, .slice a l c, .int .i64 k', .string s', .int .i64 n', .slice a' l' c', .string f], .agg #[.int .i64 p, .string q, .int .i64 r, .slice b m d, .int .i64 p', .string q', .int .i64 r', .slice b' m' d', .string f]] w fun e w' => e = .returned (.bool true) ∧ Below w.heap.size w w' := by
  obtain ⟨W, hW⟩ : ∃ W, W = (w.alloc (.cells #[.int .i64 k, .string s, .int .i64 n, .slice a l c, .int .i64 k', .string s', .int .i64 n', .slice a' l' c', .string f] 34)).alloc (.cells #[.int .i64 p, .string q, .int .i64 r, .slice b m d, .int .i64 p', .string q', .int .i64 r', .slice b' m' d', .string f] 34) := ⟨_, rfl⟩
  have bW : Below w.heap.size w W := by rw [hW]; exact ((Below.refl _ _).alloc (Nat.le_refl _) _).alloc (by simp) _
  have lW : W.heap.size = w.heap.size + 2 := by rw [hW]; simp
  have k1 : W.heap[w.heap.size]? = some (.cells #[.int .i64 k, .string s, .int .i64 n, .slice a l c, .int .i64 k', .string s', .int .i64 n', .slice a' l' c', .string f] 34 (0, 0)) := by rw [hW]; exact (alloc_old _ _ (by simp)).trans (alloc_at _ _ rfl)
  have k2 : W.heap[w.heap.size + 1]? = some (.cells #[.int .i64 p, .string q, .int .i64 r, .slice b m d, .int .i64 p', .string q', .int .i64 r', .slice b' m' d', .string f] 34 (0, 0)) := by rw [hW]; exact alloc_at _ _ (by simp)
  have HE1 : Hid _ := eq_term H W _ _ (TmIn.keep bW _ _ h1) (TmIn.keep bW _ _ g1)
  have HE2 : Hid (∀ w1, Below W.heap.size W w1 → Calls Try.prog 11 #[.agg #[.int .i64 k', .string s', .int .i64 n', .slice a' l' c'], .agg #[.int .i64 p', .string q', .int .i64 r', .slice b' m' d']] w1 fun e w' => e = .returned (.bool true) ∧ Below w1.heap.size w1 w') := fun w1 hb => eq_term B w1 _ _ (TmIn.keep hb _ _ (TmIn.keep bW _ _ h2)) (TmIn.keep hb _ _ (TmIn.keep bW _ _ g2))
  have HC : Hid (∀ w1, Below W.heap.size W w1 → w1.heap[w.heap.size]? = some (.cells #[.int .i64 k, .string s, .int .i64 n, .slice a l c, .int .i64 k', .string s', .int .i64 n', .slice a' l' c', .string f] 34 (0, 0)) ∧ w1.heap[w.heap.size + 1]? = some (.cells #[.int .i64 p, .string q, .int .i64 r, .slice b m d, .int .i64 p', .string q', .int .i64 r', .slice b' m' d', .string f] 34 (0, 0))) := fun w1 hb => ⟨(hb.block _ (by omega)).trans k1, (hb.block _ (by omega)).trans k2⟩
  have HBW : Hid (Below w.heap.size w W) := bW
  clear h1 h2 g1 g2 k1 k2 bW lW
  go_enter Try.func12, Try.ntmps12
  go_upto_region 1 with fail
  rw [← hW]
  obtain ⟨⟨c0, c1, c2, c3, c4, c5, c6, c7, c8⟩, _⟩ := blk9 (HC.out W (Below.refl _ _)).1
  obtain ⟨d0, d1, d2, d3, d4, d5, d6, d7, d8⟩ := (blk9 (HC.out W (Below.refl _ _)).2).1
  clear hW
  go_upto_region 3 with (go_at_call 11; refine (Calls.mono HE1.out ?_); rintro e w1 ⟨rfl, hb⟩; have HB : Hid (Below W.heap.size W w1) := hb; clear hb)
  clear c0 c1 c2 c3 c4 c5 c6 c7 c8 d0 d1 d2 d3 d4 d5 d6 d7 d8
  obtain ⟨⟨c0, c1, c2, c3, c4, c5, c6, c7, c8⟩, _⟩ := blk9 (HC.out w1 HB.out).1
  obtain ⟨d0, d1, d2, d3, d4, d5, d6, d7, d8⟩ := (blk9 (HC.out w1 HB.out).2).1
  have HE3 : Hid _ := HE2.out w1 HB.out
  go_upto_region 5 with (go_at_call 11; refine (Calls.mono HE3.out ?_); rintro e w2 ⟨rfl, hb⟩; have HB2 : Hid (Below W.heap.size W w2) := HB.out.trans (hb.mono HB.out.size); clear hb)
  clear c0 c1 c2 c3 c4 c5 c6 c7 c8 d0 d1 d2 d3 d4 d5 d6 d7 d8
  obtain ⟨⟨c0, c1, c2, c3, c4, c5, c6, c7, c8⟩, _⟩ := blk9 (HC.out w2 HB2.out).1
  obtain ⟨d0, d1, d2, d3, d4, d5, d6, d7, d8⟩ := (blk9 (HC.out w2 HB2.out).2).1
  go_wp2
  go_ret
  exact ⟨rfl, HBW.out.trans (HB2.out.mono HBW.out.size)⟩
end Go.Proofs.Ytenmhpalpfppmao
